/-
  Layer 6 (wal), contract of Add. Conditions: texts within the form's reach; a last file of at most 2^24 texts.
-/
import Derived.Test.YtkfmjkcomjmedaaGreatQI
import Derived.Test.YtkfmjkcomjmedaaGreatQm
import Derived.Test.YtkfmjkcomjmedaaGreatClone
namespace Go.Proofs.YtkfmjkcomjmedaaGreat
open Go.RowKit Go.Lib
set_option linter.unusedVariables false
set_option linter.unusedSimpArgs false

theorem gcs_set (G : List Gp) (g : Gp) (ts : List (List UInt8)) (u : Value) : (gcs (G ++ [g])).set (G.length * 2 + 1) u = gcs (G ++ [⟨g.n, ts, u⟩]) := by
  rw [← gcs_snoc, ← gcs_snoc, List.set_append_right _ _ (by rw [gcs_length]; omega), gcs_length, show G.length * 2 + 1 - G.length * 2 = 1 by omega]
  rfl
theorem WalAt.added {own lo : Nat → Prop} {w w1 w2 : World} {l d : Nat} {S : Ds} {G : List Gp} {g : Gp} {pb cap r rc : Nat} {t : List UInt8} (hd : DiskAt (fun b => own b ∨ lo b) w d S) (hl : LogAt lo w l d (.slice (some ⟨pb, 0, none⟩) (G.length + 1) cap) (G ++ [g])) (hno : ∀ b, lo b → ¬ own b) (hb1 : Below w.heap.size w w1)
    (hown : w2.ownsRow 0 9 1 (.slice (some ⟨r, 0, none⟩) (g.ts.length + 1) rc) (g.ts.length + 1) (sv (g.ts ++ [t]))) (hg : w1.grownBy w2 g.tv.ownBlock) (hrl : g.tv.ownBlock = some r ∨ r = w1.heap.size) (hrlt : r < w2.heap.size) :
    WalAt own (w2.setCell ⟨pb, G.length * 2 + 1, none⟩ (.slice (some ⟨r, 0, none⟩) (g.ts.length + 1) rc)) l d S (G.map Gp.lt ++ [(g.n, g.ts ++ [t])]) ∧ Keeps own w (w2.setCell ⟨pb, G.length * 2 + 1, none⟩ (.slice (some ⟨r, 0, none⟩) (g.ts.length + 1) rc)) := by
  have hl1 : LogAt lo w1 l d _ (G ++ [g]) := hl.same fun b hb => hb1.block b (hd.own (.inr hb))
  have hs1 := hb1.size
  have hs2 := hg.size
  have hlen : (G ++ [g]).length = G.length + 1 := by simp
  have hgm : g ∈ G ++ [g] := by simp
  have hrow1 := hl1.pa.row
  rw [hlen] at hrow1
  have htx1 := hl1.pa.tx g hgm
  obtain ⟨_, pcur, hpb1⟩ := row_at hrow1 (r := pb) rfl
  have hpbt : g.tv.ownBlock ≠ some pb := fun e => by
    obtain ⟨_, c, e⟩ := row_at htx1 e
    rw [hpb1] at e; cases e
  have hlt : g.tv.ownBlock ≠ some l := fun e => by
    obtain ⟨_, c, e⟩ := row_at htx1 e
    rw [hl1.lb] at e; cases e
  have hpb2 : w2.heap[pb]? = w1.heap[pb]? := hg.block pb (heap_lt hpb1) (fun e => hpbt e.symm)
  have hl2 : w2.heap[l]? = w1.heap[l]? := hg.block l (heap_lt hl1.lb) (fun e => hlt e.symm)
  have hlpb : l ≠ pb := fun e => by
    have := hl1.lb
    rw [e, hpb1] at this; cases this
  have hpbw := hd.own (b := pb) (.inr (hl.lp pb rfl))
  obtain ⟨U, hU⟩ : ∃ U, U = Value.slice (some ⟨r, 0, none⟩) (g.ts.length + 1) rc := ⟨_, rfl⟩
  rw [← hU] at hown ⊢
  have hUb : U.ownBlock = some r := by rw [hU]; rfl
  have hrpb : r ≠ pb := fun e => by
    obtain ⟨_, c, e'⟩ := row_at hown hUb
    rw [e, hpb2, hpb1] at e'; cases e'
  have hsz : (w2.setCell ⟨pb, G.length * 2 + 1, none⟩ U).heap.size = w2.heap.size := by simp [World.setCell]
  have other : ∀ b, b ≠ pb → (w2.setCell ⟨pb, G.length * 2 + 1, none⟩ U).heap[b]? = w2.heap[b]? := fun b h => Below.heap_setCell _ _ _ _ h
  have same : ∀ b, b < w.heap.size → b ≠ pb → g.tv.ownBlock ≠ some b → (w2.setCell ⟨pb, G.length * 2 + 1, none⟩ U).heap[b]? = w.heap[b]? := fun b hb h1 h2 =>
    (other b h1).trans ((hg.block b (by omega) (fun e => h2 e.symm)).trans (hb1.block b hb))
  have hd2 := hd.others (w' := w2.setCell ⟨pb, G.length * 2 + 1, none⟩ U) (fun b hb hb' => same b hb (fun e => hb' (.inr (e ▸ hl.lp pb rfl))) (fun e => hb' (.inr (hl.lt g hgm b e)))) (by rw [hsz]; omega)
  have hap := List.pairwise_append.1 hl1.pa.ap
  have keep : ∀ k ∈ G, (w2.setCell ⟨pb, G.length * 2 + 1, none⟩ U).ownsRow 0 9 1 k.tv k.ts.length (sv k.ts) := fun k hk => by
    have h1 := hl1.pa.tx k (by simp [hk])
    refine own_same h1 fun q hq => ?_
    have hq1 : q ≠ pb := fun e => by
      obtain ⟨_, c, e'⟩ := row_at h1 hq
      rw [e, hpb1] at e'; cases e'
    exact (other q hq1).trans (hg.block q (h1.lt q hq).2 (fun e => hap.2.2 k hk g (by simp) q hq e.symm))
  have hrow2 : w2.ownsRow 0 78 2 (.slice (some ⟨pb, 0, none⟩) (G.length + 1) cap) (G.length + 1) (gcs (G ++ [g])) := own_same hrow1 fun q hq => by
    simp [Value.ownBlock] at hq
    rw [← hq]; exact hpb2
  have hst := (hrow2.stored (G.length * 2 + 1) U).1
  rw [gcs_set G g (g.ts ++ [t])] at hst
  refine ⟨⟨fun b => lo b ∨ (w.heap.size ≤ b ∧ b < w2.heap.size), _, G ++ [⟨g.n, g.ts ++ [t], U⟩], hd2.weaken fun b hb => ?_, ⟨?_, ⟨by rw [List.length_append]; exact hst, fun k hk => ?_, List.pairwise_append.2 ⟨hap.1, by simp, fun k hk k' hk' => ?_⟩⟩, .inl hl.ll, fun q hq => .inl (hl.lp q hq), fun k hk q hq => ?_, fun k hk => ?_⟩, by rw [List.map_append]; rfl, fun b hb hb' => ?_⟩, ⟨?_, ?_, ?_, by rw [hsz]; omega, fun b hb => ?_⟩⟩
  · rw [hsz]
    rcases hb with h | h | h
    · exact .inl (.inl h)
    · exact .inl (.inr h)
    · exact .inr h
  · exact (other l hlpb).trans (hl2.trans hl1.lb)
  · rcases List.mem_append.1 hk with hk | hk
    · exact keep k hk
    · simp at hk
      subst hk
      rw [List.length_append]
      exact own_same hown fun q hq => other q (by rw [hUb] at hq; cases hq; exact hrpb)
  · simp at hk'
    subst hk'
    intro q hq e
    rw [hUb] at e
    cases e
    rcases hrl with h | h
    · exact hap.2.2 k hk g (by simp) _ hq h
    · have := ((hl1.pa.tx k (by simp [hk])).lt _ hq).2
      omega
  · rcases List.mem_append.1 hk with hk | hk
    · exact .inl (hl.lt k (by simp [hk]) q hq)
    · simp at hk
      subst hk
      rw [hUb] at hq
      cases hq
      rcases hrl with h | h
      · exact .inl (hl.lt g hgm _ h)
      · exact .inr ⟨by omega, hrlt⟩
  · rcases List.mem_append.1 hk with hk | hk
    · exact hl.num k (by simp [hk])
    · simp at hk
      subst hk
      exact hl.num g hgm
  · rcases hb with h | h
    · exact hno b h hb'
    · have := hd.own (b := b) (.inl hb'); omega
  · exact hg.os.trans hb1.os
  · exact hg.tape.trans hb1.tape
  · exact hg.output.trans hb1.output
  · exact same b (hd.own (.inl hb)) (fun e => hno pb (hl.lp pb rfl) (e ▸ hb)) (fun e => hno b (hl.lt g hgm b e) hb)
/-- What Add makes of a disk. -/
def Ds.add (S : Ds) (n : Nat) (t : List UInt8) : Ds × Int := S.append (lname n) (frL t)
set_option maxRecDepth 100000 in
set_option maxHeartbeats 1000000 in
theorem add_big {own : Nat → Prop} {w : World} {l d : Nat} {S : Ds} {L : Lt} (h : WalAt own w l d S L) (s : ByteArray) (hs : s.size ≤ 140737488351232) (hbig : 131072 < (s.size : Int)) :
    Calls Tryz.prog 17 #[.pointer (some ⟨l, 0, none⟩), .string s] w fun e w' => e = .returned (.int .i64 1) ∧ w = w' := by
  obtain ⟨lo, pv, G, -, hl, -, -⟩ := h
  have hg := lgiven_yes l w hl.cells.c0
  clear hl
  go_enter Tryz.func17, Tryz.ntmps17
  go_wp2_with (go_at_call 31; refine hg.mono ?_; rintro e w' ⟨rfl, rfl⟩)
  go_ret
  exact ⟨rfl, rfl⟩
set_option maxRecDepth 100000 in
set_option maxHeartbeats 4000000 in
theorem add_any {own : Nat → Prop} {w : World} {l d n : Nat} {S : Ds} {L0 : Lt} {ts : List (List UInt8)} (h : WalAt own w l d S (L0 ++ [(n, ts)])) (s : ByteArray) (hs : (s.size : Int) ≤ 131072) (hts : ts.length ≤ 16777216) :
    Calls Tryz.prog 17 #[.pointer (some ⟨l, 0, none⟩), .string s] w fun e w' => e = .returned (.int .i64 (S.add n s.data.toList).2) ∧ WalAt own w' l d (S.add n s.data.toList).1 (if (S.add n s.data.toList).2 = 0 then L0 ++ [(n, ts ++ [s.data.toList])] else L0 ++ [(n, ts)]) ∧ Keeps own w w' := by
  have H := Lib.hid h
  obtain ⟨lo, pv, G, hd, hl, hL, hno⟩ := h
  obtain ⟨G0, g, rfl, hG0, hgn, hgt⟩ := snoc_of (L := []) hL
  obtain ⟨pb, cap, rfl, hpb, hlo, hml, e1, e2, e3⟩ := hl.last
  have hnum := hl.num g (by simp)
  rw [hgn] at hnum e1
  have hg := lgiven_yes l w hl.cells.c0
  have hcs := hl.cells
  have hP := Lib.hid (fput_code s · (by omega))
  have hF := Lib.hid (file_any n (by omega))
  have hC := Lib.hid (clone_any s · (by omega))
  obtain ⟨i0, hi, hz0, hz1, hz2⟩ := info_parts Tryz.infoStr
  obtain ⟨⟨S1, E⟩, hR⟩ : ∃ R, R = S.add n s.data.toList := ⟨_, rfl⟩
  have HR := Lib.hid hR
  rw [← hR]
  have HD := Lib.hid hd
  have HL := Lib.hid hl
  have HNO := Lib.hid hno
  have HGL := Lib.hid (And.intro hG0 (And.intro hgn hgt))
  obtain ⟨t, ht⟩ : ∃ t, t = (frL s.data.toList) := ⟨_, rfl⟩
  have hTl : t.length ≤ 262144 := by rw [ht]; have := frL_le s.data.toList (by rw [← Lib.size_eq]; omega); rw [← Lib.size_eq] at this; omega
  have HTl := Lib.hid hTl
  rw [← ht] at hP
  have HT := Lib.hid ht
  simp only
  obtain ⟨j, hj⟩ : ∃ j, j = G0.length * 2 := ⟨_, rfl⟩
  have he := fun w' (hb : Below w.heap.size w w') => end_any (w := w') ⟨(hb.cell (p := ⟨l, 0, none⟩) hcs.lt).trans hcs.c0, (hb.cell (p := ⟨l, 1, none⟩) hcs.lt).trans hcs.c1, (hb.cell (p := ⟨l, 2, none⟩) hcs.lt).trans hcs.c2, (hb.frozen (p := ⟨l, 2, none⟩) hcs.lt).trans hcs.f2, Nat.lt_of_lt_of_le hcs.lt hb.size⟩ hml
  rw [← hj] at he e1 e2 e3
  have HE := Lib.hid he
  have HJ := Lib.hid hj
  have HQ : Hid (G0.length + 1 ≤ maxLen) := Lib.hid hml
  obtain ⟨-, c1, -, -, lt⟩ := hcs
  clear hd hl hL hno hlo e3 hR hG0 hgn hgt he hj ht hTl hml
  by_cases h0 : E = 0
  · subst h0
    rw [if_pos rfl]
    go_enter Tryz.func17, Tryz.ntmps17
    go_wp2_with (first
      | (go_at_call 31; refine hg.mono ?_; rintro e w' ⟨rfl, rfl⟩)
      | (go_at_call 44; refine (hP.out _).mono ?_; rintro e w1 ⟨rfl, hb⟩; have HB := Lib.hid hb; clear hb)
      | (go_at_call 32; refine (HE.out _ HB.out).mono ?_; rintro e w2 ⟨rfl, hb2⟩; have HB2 := Lib.hid (bt HB.out hb2); clear hb2))
    have e1 := (HB2.out.cell (p := ⟨pb, j, none⟩) hpb).trans e1
    have c1 := (HB2.out.cell (p := ⟨l, 1, none⟩) lt).trans c1
    have lt2 := Nat.lt_of_lt_of_le lt HB2.out.size
    have pb2 := Nat.lt_of_lt_of_le hpb HB2.out.size
    refine below_tail 10 (by kernel_rfl) (by kernel_rfl) ?_
    simp only [List.take_succ_cons, List.take_zero, List.drop_succ_cons, List.drop_zero]
    repeat (first
      | go_big_quiet_skip
      | (go_big_quiet_want
         first
         | (refine BigFrame.quiet_move _ rfl ?_)
         | (refine BigFrame.quiet_assign _ rfl ?_)
         | (unfold Oper.quiet
            apply Exists.intro
            refine ⟨fun w' hw' => ?_, ?_⟩
            · (obtain ⟨hc', hf'⟩ := bcell hw'
               go_simp
               first
               | done
               | exact rfl
               | (go_at_call 46; refine (hF.out _).mono ?_; rintro e w'' ⟨rfl, bb⟩; exact ⟨rfl, bt hw' bb⟩)))
         go_big_quiet_on
         simp only [Act.put, Act.eval, List.setIfInBounds_toArray, List.set_cons_zero, List.set_cons_succ, Array.getD_eq_getD_getElem?, List.getElem?_toArray, List.getElem?_cons_zero, List.getElem?_cons_succ, Option.getD_some]))
    refine wpQuiet_nil ?_
    intro w' hw'
    have C := append_any (HD.out.below (bt HB2.out hw')) ⟨(lname n).toArray⟩ ⟨t.toArray⟩ (lname_size n) (by rw [size_mkl t]; have := HTl.out; unfold maxLen; omega)
    rw [show (⟨(lname n).toArray⟩ : ByteArray).data.toList = lname n from rfl, show (⟨t.toArray⟩ : ByteArray).data.toList = t from rfl, HT.out, show S.append (lname n) (frL s.data.toList) = S.add n s.data.toList from rfl, ← HR.out, ← HT.out] at C
    have HC := Lib.hid C
    have HK := Lib.hid (Keeps.of_below (bt HB2.out hw') fun b (hb : own b ∨ lo b) => HD.out.own hb)
    clear C hw'
    go_wp2_with fail
    refine HC.out.mono ?_
    rintro e w3 ⟨rfl, hd3, hk⟩
    have hk3 := HK.out.trans hk
    have hl3 := HL.out.same fun b hb => hk3.block b (.inr hb)
    have HK3 := Lib.hid (hk3.mono fun b (hb : own b) => .inl hb)
    have HD3 := Lib.hid hd3
    have HL3 := Lib.hid hl3
    clear hk hd3 hl3 hk3 HC HK e1 c1 lt2 pb2
    obtain ⟨pb', cap', epv, hpb3, -, -, -, e2, e3⟩ := HL3.out.last
    cases epv
    rw [← HJ.out] at e2 e3
    obtain ⟨ta, tc, htv⟩ := row_slice (HL3.out.pa.tx g (by simp))
    have HTV := Lib.hid htv
    rw [htv] at e2
    obtain ⟨gtl, hgtl⟩ : ∃ m, m = g.ts.length := ⟨_, rfl⟩
    rw [← hgtl] at e2
    have HGT := Lib.hid hgtl
    clear htv hgtl
    go_wp2_with fail
    refine mixed_region (D := (fun w' => w'.cell? ⟨pb, j + 1, none⟩ = some (.slice ta gtl tc))) [0, 1, 2, 3, 4, 5] [6, 7, 8, 9, 10, 11] 11 (by kernel_rfl) (by kernel_rfl) (by decide) (e2) ?_
    simp only [List.filterMap_cons, List.filterMap_nil, List.getElem?_cons_zero, List.getElem?_cons_succ]
    repeat (
      (first
       | (refine calm_move _ rfl ?_)
       | (apply calm_cons
          · (intro w' hw'
             go_simp
             first
             | done
             | exact rfl)))
      simp only [Act.put, Act.eval, List.setIfInBounds_toArray, List.set_cons_zero, List.set_cons_succ, Array.getD_eq_getD_getElem?, List.getElem?_toArray, List.getElem?_cons_zero, List.getElem?_cons_succ, Option.getD_some])
    refine calm_nil ?_
    refine loud_cons fun K hK => ?_
    go_wp2_with fail
    refine (hC.out _).mono ?_
    rintro e w4 ⟨rfl, hb4⟩
    have hb34 : Below w3.heap.size w3 w4 := ((Below.refl _ _).drew).trans hb4
    have pb3 : pb < w3.heap.size := hpb3
    have e4 := (hb34.cell (p := ⟨pb, j + 1, none⟩) pb3).trans e2
    have HB4 := Lib.hid hb34
    have HE4 := Lib.hid e4
    clear hb4 hb34 e4
    go_wp2
    refine hK _ _ (fun _ => HE4.out) ?_
    clear hK K
    refine loud_cons fun K hK => ?_
    go_wp2
    have hal : Below w4.heap.size w4 (w4.alloc (.cells #[.string s] 9)) := (Below.refl _ _).alloc (Nat.le_refl _) _
    have pb4 : pb < w4.heap.size := Nat.lt_of_lt_of_le pb3 HB4.out.size
    refine hK _ _ (fun _ => (hal.cell (p := ⟨pb, j + 1, none⟩) pb4).trans HE4.out) ?_
    clear hK K
    refine loud_cons fun K hK => ?_
    have htx := HL3.out.pa.tx g (by simp)
    rw [HTV.out, ← HGT.out] at htx
    have htx4 := (below_own htx HB4.out)
    have hgb : gtl ≤ 16777216 := by rw [HGT.out, HGL.out.2.2]; exact hts
    refine wpList_append_lies _ rfl (.tmp 45) (.tmp 48) 31 rfl 0 9 i0 (.string ⟨#[]⟩) 1 16 Tryz.underlying31 hi hz0 hz1 hz2 rfl (by decide) (.slice ta gtl tc) gtl (sv g.ts) rfl (htx4.alloc _) ⟨w4.heap.size, 0, none⟩ 1 1 [.string s] rfl rfl ?c1 ?c2 (by decide) ?c3 ?c4 ?c5 _ rfl ?_
    case c1 => exact cell_new1 _ _ _
    case c2 => exact sv_one [s.data.toList]
    case c3 => unfold maxLen; omega
    case c4 => omega
    case c5 => exact Nat.zero_le _
    intro r rc w5 hown5 hgrow hrl hrlt
    have hown5 : w5.ownsRow 0 9 1 (.slice (some ⟨r, 0, none⟩) (g.ts.length + 1) rc) (g.ts.length + 1) (sv (g.ts ++ [s.data.toList])) := by
      rw [← HGT.out, ← sv_snoc]; exact hown5
    have hpt : (Value.slice ta gtl tc).ownBlock ≠ some pb := fun e => by
      obtain ⟨_, c, e'⟩ := row_at htx e
      obtain ⟨_, c2, e2⟩ := row_at HL3.out.pa.row (r := pb) rfl
      rw [e'] at e2; cases e2
    have hblk : w5.heap[pb]? = (w4.alloc (.cells #[.string s] 9)).heap[pb]? := hgrow.block pb (by simp; omega) (fun e => hpt e.symm)
    have hst := WalAt.added HD3.out HL3.out HNO.out (HB4.out.trans (hal.mono HB4.out.size)) hown5 (by rw [HTV.out, ← HGT.out]; exact hgrow) (by rw [HTV.out, ← HGT.out]; exact hrl) hrlt
    have hc5 := (World.cell?_of_block (a := ⟨pb, j + 1, none⟩) hblk).trans ((hal.cell (p := ⟨pb, j + 1, none⟩) pb4).trans HE4.out)
    have hf5 := (World.frozen?_of_block (a := ⟨pb, j + 1, none⟩) hblk).trans ((hal.frozen (p := ⟨pb, j + 1, none⟩) pb4).trans ((HB4.out.frozen (p := ⟨pb, j + 1, none⟩) pb3).trans e3))
    have hs5 : pb < w5.heap.size := by have := hgrow.size; simp at this; omega
    rw [HGL.out.1, HGL.out.2.1, HGL.out.2.2, ← HJ.out, ← HGL.out.2.2, ← HGT.out] at hst
    have HST := Lib.hid hst
    have HC5 := Lib.hid hc5
    have HF5 := Lib.hid hf5
    clear hst hc5 hf5 hown5 hgrow hrl hblk hpt htx htx4 hal
    refine hK _ _ (fun _ => HC5.out) ?_
    clear hK K
    refine loud_cons fun K hK => ?_
    go_wp2
    refine hK _ _ (fun _ => HC5.out) ?_
    clear hK K
    refine loud_cons fun K hK => ?_
    go_wp2
    refine hK _ _ (fun _ => HC5.out) ?_
    clear hK K
    have hc5 := HC5.out
    have hf5 := HF5.out
    refine loud_cons fun K hK => ?_
    go_wp2
    refine hK _ _ (fun h => absurd rfl h) ?_
    clear hK K hc5 hf5
    refine loud_nil ?_
    go_wp2
    go_ret
    have h1 := HST.out.1
    rw [HGL.out.2.2] at h1
    exact ⟨rfl, h1, HK3.out.trans HST.out.2⟩
  · have hX : (E != 0) = true := by simpa using h0
    rw [if_neg h0]
    go_enter Tryz.func17, Tryz.ntmps17
    go_wp2_with (first
      | (go_at_call 31; refine hg.mono ?_; rintro e w' ⟨rfl, rfl⟩)
      | (go_at_call 44; refine (hP.out _).mono ?_; rintro e w1 ⟨rfl, hb⟩; have HB := Lib.hid hb; clear hb)
      | (go_at_call 32; refine (HE.out _ HB.out).mono ?_; rintro e w2 ⟨rfl, hb2⟩; have HB2 := Lib.hid (bt HB.out hb2); clear hb2))
    have e1 := (HB2.out.cell (p := ⟨pb, j, none⟩) hpb).trans e1
    have c1 := (HB2.out.cell (p := ⟨l, 1, none⟩) lt).trans c1
    have lt2 := Nat.lt_of_lt_of_le lt HB2.out.size
    have pb2 := Nat.lt_of_lt_of_le hpb HB2.out.size
    refine below_tail 10 (by kernel_rfl) (by kernel_rfl) ?_
    simp only [List.take_succ_cons, List.take_zero, List.drop_succ_cons, List.drop_zero]
    repeat (first
      | go_big_quiet_skip
      | (go_big_quiet_want
         first
         | (refine BigFrame.quiet_move _ rfl ?_)
         | (refine BigFrame.quiet_assign _ rfl ?_)
         | (unfold Oper.quiet
            apply Exists.intro
            refine ⟨fun w' hw' => ?_, ?_⟩
            · (obtain ⟨hc', hf'⟩ := bcell hw'
               go_simp
               first
               | done
               | exact rfl
               | (go_at_call 46; refine (hF.out _).mono ?_; rintro e w'' ⟨rfl, bb⟩; exact ⟨rfl, bt hw' bb⟩)))
         go_big_quiet_on
         simp only [Act.put, Act.eval, List.setIfInBounds_toArray, List.set_cons_zero, List.set_cons_succ, Array.getD_eq_getD_getElem?, List.getElem?_toArray, List.getElem?_cons_zero, List.getElem?_cons_succ, Option.getD_some]))
    refine wpQuiet_nil ?_
    intro w' hw'
    have C := append_any (HD.out.below (bt HB2.out hw')) ⟨(lname n).toArray⟩ ⟨t.toArray⟩ (lname_size n) (by rw [size_mkl t]; have := HTl.out; unfold maxLen; omega)
    rw [show (⟨(lname n).toArray⟩ : ByteArray).data.toList = lname n from rfl, show (⟨t.toArray⟩ : ByteArray).data.toList = t from rfl, HT.out, show S.append (lname n) (frL s.data.toList) = S.add n s.data.toList from rfl, ← HR.out, ← HT.out] at C
    have HC := Lib.hid C
    have HK := Lib.hid (Keeps.of_below (bt HB2.out hw') fun b (hb : own b ∨ lo b) => HD.out.own hb)
    clear C hw'
    go_wp2_with fail
    refine HC.out.mono ?_
    rintro e w3 ⟨rfl, hd3, hk⟩
    have hk3 := HK.out.trans hk
    have hl3 := HL.out.same fun b hb => hk3.block b (.inr hb)
    have HK3 := Lib.hid (hk3.mono fun b (hb : own b) => .inl hb)
    have HD3 := Lib.hid hd3
    have HL3 := Lib.hid hl3
    clear hk hd3 hl3 hk3 HC HK e1 c1 lt2 pb2
    go_wp2
    go_ret
    have hLL : (G0 ++ [g]).map Gp.lt = L0 ++ [(n, ts)] := by rw [List.map_append, HGL.out.1]; simp [Gp.lt, HGL.out.2.1, HGL.out.2.2]
    exact ⟨rfl, ⟨lo, _, _, HD3.out, HL3.out, hLL, HNO.out⟩, HK3.out⟩
end Go.Proofs.YtkfmjkcomjmedaaGreat
