/-
  Layer 6 (wal), contract of Drop. Conditions: a log of at most a million files.
-/
import Derived.Test.YthikedhbjphmeaaLd
namespace Go.Proofs.Ythikedhbjphmeaa
open Go.RowKit Go.Lib
set_option linter.unusedVariables false
set_option linter.unusedSimpArgs false

theorem WalAt.cutp {own lo : Nat → Prop} {w w2 : World} {l d : Nat} {S : Ds} {G G' : List Gp} {pb cap : Nat} {c : Gp → Bool} (hd : DiskAt (fun b => own b ∨ lo b) w d S) (hl : LogAt lo w l d (.slice (some ⟨pb, 0, none⟩) G.length cap) G) (hno : ∀ b, lo b → ¬ own b) (hG : G' = G.filter c)
    (hrow : w2.ownsRow 0 55 2 (.slice (some ⟨pb, 0, none⟩) G'.length cap) G'.length (gcs G')) (hk : Keeps (fun b => b < w.heap.size ∧ b ≠ pb) w w2) :
    WalAt own (w2.setCell ⟨l, 2, none⟩ (.slice (some ⟨pb, 0, none⟩) G'.length cap)) l d S (G'.map Gp.lt) ∧ Keeps own w (w2.setCell ⟨l, 2, none⟩ (.slice (some ⟨pb, 0, none⟩) G'.length cap)) := by
  have hlw := hd.own (b := l) (.inr hl.ll)
  have hpb := hl.lp pb rfl
  have hlpb : l ≠ pb := fun e => by
    obtain ⟨_, cc, e'⟩ := row_at hl.pa.row (r := pb) rfl
    have := hl.lb
    rw [e, e'] at this; cases this
  have hs := hk.size
  have hl2 : w2.heap[l]? = _ := (hk.block l ⟨hlw, hlpb⟩).trans hl.lb
  obtain ⟨U, hU⟩ : ∃ U, U = Value.slice (some ⟨pb, 0, none⟩) G'.length cap := ⟨_, rfl⟩
  have hUb : U.ownBlock = some pb := by rw [hU]; rfl
  rw [← hU] at hrow ⊢
  have hsz : (w2.setCell ⟨l, 2, none⟩ U).heap.size = w2.heap.size := by simp [World.setCell]
  have same : ∀ b, b < w.heap.size → b ≠ l → b ≠ pb → (w2.setCell ⟨l, 2, none⟩ U).heap[b]? = w.heap[b]? := fun b hb h1 h2 =>
    (Below.heap_setCell _ _ _ _ h1).trans (hk.block b ⟨hb, h2⟩)
  have hd2 := hd.others (w' := w2.setCell ⟨l, 2, none⟩ U) (fun b hb hb' => same b hb (fun e => hb' (.inr (e ▸ hl.ll))) (fun e => hb' (.inr (e ▸ hpb)))) (by rw [hsz]; omega)
  have hsub : ∀ g ∈ G', g ∈ G := fun g hg => by rw [hG] at hg; exact (List.mem_filter.1 hg).1
  have hp : PartsAt w2 0 U G' := ⟨hrow, fun g hg => own_same (hl.pa.tx g (hsub g hg)) fun r hr => hk.block r ⟨((hl.pa.tx g (hsub g hg)).lt r hr).2, fun e => by
    obtain ⟨_, c1, e1⟩ := row_at (hl.pa.tx g (hsub g hg)) hr
    obtain ⟨_, c2, e2⟩ := row_at hl.pa.row (r := pb) rfl
    rw [e, e2] at e1; cases e1⟩, by rw [hG]; exact hl.pa.ap.filter _⟩
  refine ⟨⟨lo, U, G', hd2.weaken fun b hb => hb.elim (fun h => .inl (.inl h)) (fun h => .inl (.inr h)), ⟨?_, hp.cellL hl2 2 _, hl.ll, fun r hr => ?_, fun g hg r hr => hl.lt g (hsub g hg) r hr, fun g hg => hl.num g (hsub g hg)⟩, rfl, hno⟩, ⟨?_, ?_, ?_, by rw [hsz]; omega, fun b hb => ?_⟩⟩
  · rw [setCell_at hl2]; rfl
  · rw [hUb] at hr; cases hr; exact hpb
  · exact hk.os
  · exact hk.tape
  · exact hk.output
  · exact same b (hd.own (.inl hb)) (fun e => hno l hl.ll (e ▸ hb)) (fun e => hno pb hpb (e ▸ hb))
theorem filter_lt (G : List Gp) (bl : Int) : (G.filter (keepP bl)).map Gp.lt = (G.map Gp.lt).filter fun p => !decide ((p.1 : Int) < bl) := by
  rw [List.filter_map]
  rfl
set_option maxRecDepth 100000 in
set_option maxHeartbeats 400000 in
theorem drop_big {own : Nat → Prop} {w : World} {l d n : Nat} {S : Ds} {L0 : Lt} {ts : List (List UInt8)} (h : WalAt own w l d S (L0 ++ [(n, ts)])) (bl : Int) (hbl : (n : Int) < bl) :
    Calls Try.prog 19 #[.pointer (some ⟨l, 0, none⟩), .int .i64 bl] w fun e w' => e = .returned (.int .i64 1) ∧ Below w.heap.size w w' := by
  have HLast := Lib.hid (last_any h)
  obtain ⟨lo, pv, G, -, hl, -, -⟩ := h
  have hg := lgiven_yes l w hl.cells.c0
  clear hl
  go_enter Try.func19, Try.ntmps19
  go_wp2_with (first
    | (go_at_call 25; refine hg.mono ?_; rintro e w' ⟨rfl, rfl⟩)
    | (go_at_call 18; refine HLast.out.mono ?_; rintro e w1 ⟨rfl, hb⟩; have HB := Lib.hid hb; clear hb))
  go_ret
  exact ⟨rfl, HB.out⟩
set_option maxRecDepth 100000 in
set_option maxHeartbeats 800000 in
theorem drop_any {own : Nat → Prop} {w : World} {l d n : Nat} {S : Ds} {L0 : Lt} {ts : List (List UInt8)} (h : WalAt own w l d S (L0 ++ [(n, ts)])) (bl : Int) (hbl : bl ≤ (n : Int)) (hlen : L0.length + 1 ≤ 1000000) :
    Calls Try.prog 19 #[.pointer (some ⟨l, 0, none⟩), .int .i64 bl] w fun e w' => e = .returned (.int .i64 (S.rm bl).2) ∧ WalAt own w' l d (S.rm bl).1 (if (S.rm bl).2 = 0 then (L0 ++ [(n, ts)]).filter (fun p => !decide ((p.1 : Int) < bl)) else L0 ++ [(n, ts)]) ∧ Keeps own w w' := by
  have HLast := Lib.hid (last_any h)
  have H := Lib.hid h
  have hg : Calls Try.prog 25 #[.pointer (some ⟨l, 0, none⟩)] w fun e w' => e = .returned (.bool true) ∧ w = w' := by
    obtain ⟨lo, pv, G, -, hl, -, -⟩ := h
    exact lgiven_yes l w hl.cells.c0
  obtain ⟨⟨S1, E⟩, hR⟩ : ∃ R, R = S.rm bl := ⟨_, rfl⟩
  have HR := Lib.hid hR
  rw [← hR]
  simp only
  clear h hR
  have key : ∀ (w1 : World), Below w.heap.size w w1 → ∃ own1 : Nat → Prop, own1 w1.heap.size ∧ (∀ b, own b → own1 b) ∧ WalAt own1 (w1.alloc (.cells #[.int .i64 bl] 51)) l d S (L0 ++ [(n, ts)]) := fun w1 hb1 =>
    ⟨fun b => own b ∨ b = w1.heap.size, .inr rfl, fun b hb => .inl hb, (H.out.below hb1).lent _⟩
  have HKey := Lib.hid key
  clear key
  by_cases h0 : E = 0
  · subst h0
    rw [if_pos rfl]
    go_enter Try.func19, Try.ntmps19
    go_wp2_with fail
    refine hg.mono ?_
    rintro e w' ⟨rfl, rfl⟩
    go_wp2_with fail
    refine HLast.out.mono ?_
    rintro e w1 ⟨rfl, hb1⟩
    obtain ⟨own1, ho1, ho2, hw1⟩ := HKey.out w1 hb1
    have HB1 := Lib.hid hb1
    have HO2 := Lib.hid ho2
    have HW1 := Lib.hid hw1
    have hfb : (w1.alloc (.cells #[.int .i64 bl] 51)).cell? ⟨w1.heap.size, 0, none⟩ = some (.int .i64 bl) := by rw [World.cell?_alloc_mark]; rfl
    have HFB := Lib.hid hfb
    have HOB := Lib.hid ho1
    clear hb1 ho2 hw1 HKey HLast hg hfb ho1
    go_wp2_with fail
    obtain ⟨x1, hx1⟩ : ∃ x1, x1 = w1.alloc (.cells #[.int .i64 bl] 51) := ⟨_, rfl⟩
    rw [← hx1] at HW1 HFB ⊢
    have HX1 := Lib.hid hx1
    have hxs : w1.heap.size < x1.heap.size := by rw [hx1]; simp
    clear hx1
    have hKX : Keeps own w1 x1 := by rw [HX1.out]; exact Keeps.of_below (al1 _ _) fun b hb => Nat.lt_of_lt_of_le (H.out.own hb) HB1.out.size
    have KX := Lib.hid hKX
    clear hKX
    obtain ⟨lo, pv, G, hd, hl, hL, hno⟩ := HW1.out
    have c1 := hl.cells.c1
    have clt := hl.cells.lt
    have cfb := HFB.out
    have HD := Lib.hid hd
    have HL := Lib.hid hl
    have HLt := Lib.hid hL
    have HNO := Lib.hid hno
    clear hd hl hL hno
    refine below_tail 5 (by kernel_rfl) (by kernel_rfl) ?_
    simp only [List.take_succ_cons, List.take_zero, List.drop_succ_cons, List.drop_zero]
    repeat (first
      | go_big_quiet_skip
      | (go_big_quiet_want
         first
         | (refine BigFrame.quiet_move _ rfl ?_)
         | (refine BigFrame.quiet_assign _ rfl ?_)
         | (unfold Oper.quiet
            apply Exists.intro
            refine ⟨fun w' hw' => ?_, ?_⟩
            · (obtain ⟨hc', hf'⟩ := bcell hw'
               go_simp
               first
               | done
               | exact rfl))
         go_big_quiet_on
         simp only [Act.put, Act.eval, List.setIfInBounds_toArray, List.set_cons_zero, List.set_cons_succ, Array.getD_eq_getD_getElem?, List.getElem?_toArray, List.getElem?_cons_zero, List.getElem?_cons_succ, Option.getD_some]))
    refine wpQuiet_nil ?_
    intro w' hw'
    have C := removes_any (bl := bl) (HD.out.below hw')
    rw [← HR.out] at C
    have HC := Lib.hid C
    have HK := Lib.hid (Keeps.of_below hw' fun b (hb : own1 b ∨ lo b) => HD.out.own hb)
    clear C hw' c1 cfb
    go_wp2_with fail
    refine HC.out.mono ?_
    rintro e w2 ⟨rfl, hd2, hk2⟩
    have hkk := HK.out.trans hk2
    have HK2 := Lib.hid hkk
    have HD2 := Lib.hid hd2
    have hl2 := HL.out.same fun b hb => hkk.block b (.inr hb)
    have HL2 := Lib.hid hl2
    have hfin : Keeps own w w2 := by
      have h1 : Keeps own w w1 := Keeps.of_below HB1.out fun b hb => H.out.own hb
      exact h1.trans (KX.out.trans (hkk.mono fun b hb => .inl (HO2.out b hb)))
    have HFIN := Lib.hid hfin
    clear hd2 hk2 hkk hl2 hfin HC HK
    obtain ⟨pa, pc, rfl⟩ := row_slice HL2.out.pa.row
    have hGl : G.length = L0.length + 1 := by have := congrArg List.length HLt.out; rw [List.length_map, List.length_append] at this; simpa using this
    obtain ⟨pb, rfl⟩ : ∃ pb, pa = some ⟨pb, 0, none⟩ := by
      rcases HL2.out.pa.row.2 with ⟨_, h⟩ | ⟨pb, cap, cur, hv, _⟩
      · omega
      · cases hv; exact ⟨pb, rfl⟩
    have HGl := Lib.hid hGl
    clear hGl
    have c2 := HL2.out.cells.c2
    have clt2 := HL2.out.cells.lt
    have hcf : w2.cell? ⟨w1.heap.size, 0, none⟩ = some (.int .i64 bl) := (HK2.out.cell _ 0 (.inl HOB.out)).trans HFB.out
    have hfp : w1.heap.size ≠ pb := fun e => HNO.out pb (HL2.out.lp pb rfl) (e ▸ HOB.out)
    have hdel := del_any HL2.out.pa.row (fun g hg => by obtain ⟨a, c, e⟩ := row_slice (HL2.out.pa.tx g hg); exact ⟨a, _, c, e⟩) hcf hfp (by have := HGl.out; omega)
    have HDel := Lib.hid hdel
    clear hcf hfp hdel
    go_wp2_with fail
    refine HDel.out.mono ?_
    rintro e w3 ⟨rfl, hrow3, hk3⟩
    have hcut := WalAt.cutp (c := keepP bl) HD2.out HL2.out HNO.out rfl hrow3 hk3
    have hl3 : w3.heap[l]? = w2.heap[l]? := hk3.block l ⟨clt2, fun e => by
      obtain ⟨_, cc, e'⟩ := row_at HL2.out.pa.row (r := pb) rfl
      have := HL2.out.lb
      rw [e, e'] at this; cases this⟩
    have hc3 := (World.cell?_of_block (a := ⟨l, 2, none⟩) hl3).trans c2
    have hf3 := (World.frozen?_of_block (a := ⟨l, 2, none⟩) hl3).trans HL2.out.cells.f2
    have hs3 : l < w3.heap.size := Nat.lt_of_lt_of_le clt2 hk3.size
    rw [filter_lt, HLt.out] at hcut
    have HCut := Lib.hid hcut
    clear hrow3 hk3 hcut hl3 c2 HDel
    go_wp2
    go_ret
    exact ⟨rfl, HCut.out.1.weaken HO2.out, HFIN.out.trans (HCut.out.2.mono HO2.out)⟩
  · rw [if_neg h0]
    have hX : (E != 0) = true := by simpa using h0
    go_enter Try.func19, Try.ntmps19
    go_wp2_with fail
    refine hg.mono ?_
    rintro e w' ⟨rfl, rfl⟩
    go_wp2_with fail
    refine HLast.out.mono ?_
    rintro e w1 ⟨rfl, hb1⟩
    obtain ⟨own1, ho1, ho2, hw1⟩ := HKey.out w1 hb1
    have HB1 := Lib.hid hb1
    have HO2 := Lib.hid ho2
    have HW1 := Lib.hid hw1
    have hfb : (w1.alloc (.cells #[.int .i64 bl] 51)).cell? ⟨w1.heap.size, 0, none⟩ = some (.int .i64 bl) := by rw [World.cell?_alloc_mark]; rfl
    have HFB := Lib.hid hfb
    have HOB := Lib.hid ho1
    clear hb1 ho2 hw1 HKey HLast hg hfb ho1
    go_wp2_with fail
    obtain ⟨x1, hx1⟩ : ∃ x1, x1 = w1.alloc (.cells #[.int .i64 bl] 51) := ⟨_, rfl⟩
    rw [← hx1] at HW1 HFB ⊢
    have HX1 := Lib.hid hx1
    have hxs : w1.heap.size < x1.heap.size := by rw [hx1]; simp
    clear hx1
    have hKX : Keeps own w1 x1 := by rw [HX1.out]; exact Keeps.of_below (al1 _ _) fun b hb => Nat.lt_of_lt_of_le (H.out.own hb) HB1.out.size
    have KX := Lib.hid hKX
    clear hKX
    obtain ⟨lo, pv, G, hd, hl, hL, hno⟩ := HW1.out
    have c1 := hl.cells.c1
    have clt := hl.cells.lt
    have cfb := HFB.out
    have HD := Lib.hid hd
    have HL := Lib.hid hl
    have HLt := Lib.hid hL
    have HNO := Lib.hid hno
    clear hd hl hL hno
    refine below_tail 5 (by kernel_rfl) (by kernel_rfl) ?_
    simp only [List.take_succ_cons, List.take_zero, List.drop_succ_cons, List.drop_zero]
    repeat (first
      | go_big_quiet_skip
      | (go_big_quiet_want
         first
         | (refine BigFrame.quiet_move _ rfl ?_)
         | (refine BigFrame.quiet_assign _ rfl ?_)
         | (unfold Oper.quiet
            apply Exists.intro
            refine ⟨fun w' hw' => ?_, ?_⟩
            · (obtain ⟨hc', hf'⟩ := bcell hw'
               go_simp
               first
               | done
               | exact rfl))
         go_big_quiet_on
         simp only [Act.put, Act.eval, List.setIfInBounds_toArray, List.set_cons_zero, List.set_cons_succ, Array.getD_eq_getD_getElem?, List.getElem?_toArray, List.getElem?_cons_zero, List.getElem?_cons_succ, Option.getD_some]))
    refine wpQuiet_nil ?_
    intro w' hw'
    have C := removes_any (bl := bl) (HD.out.below hw')
    rw [← HR.out] at C
    have HC := Lib.hid C
    have HK := Lib.hid (Keeps.of_below hw' fun b (hb : own1 b ∨ lo b) => HD.out.own hb)
    clear C hw' c1 cfb
    go_wp2_with fail
    refine HC.out.mono ?_
    rintro e w2 ⟨rfl, hd2, hk2⟩
    have hkk := HK.out.trans hk2
    have HK2 := Lib.hid hkk
    have HD2 := Lib.hid hd2
    have hl2 := HL.out.same fun b hb => hkk.block b (.inr hb)
    have HL2 := Lib.hid hl2
    have hfin : Keeps own w w2 := by
      have h1 : Keeps own w w1 := Keeps.of_below HB1.out fun b hb => H.out.own hb
      exact h1.trans (KX.out.trans (hkk.mono fun b hb => .inl (HO2.out b hb)))
    have HFIN := Lib.hid hfin
    clear hd2 hk2 hkk hl2 hfin HC HK
    go_wp2
    go_ret
    exact ⟨rfl, (show WalAt own1 w2 l d S1 (L0 ++ [(n, ts)]) from ⟨lo, pv, G, HD2.out, HL2.out, HLt.out, HNO.out⟩).weaken HO2.out, HFIN.out⟩
end Go.Proofs.Ythikedhbjphmeaa
