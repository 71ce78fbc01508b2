/-
  Layer 6 (wal), contracts of grow and Roll. Conditions: a log of at most a million files.
-/
import Derived.Test.YthikedhbjphmeaaLl
namespace Go.Proofs.Ythikedhbjphmeaa
open Go.RowKit Go.Lib
set_option linter.unusedVariables false
set_option linter.unusedSimpArgs false

/-- The disk, whatever was done to the blocks of 'own', and to new ones. -/
theorem DiskAt.others {own : Nat → Prop} {w w' : World} {d : Nat} {S : Ds} (h : DiskAt own w d S) (hs : ∀ b, b < w.heap.size → ¬ own b → w'.heap[b]? = w.heap[b]?) (hsz : w.heap.size ≤ w'.heap.size) : DiskAt (fun b => own b ∨ (w.heap.size ≤ b ∧ b < w'.heap.size)) w' d S := by
  obtain ⟨m, G, h, hF⟩ := h
  have k1 := hs d h.d_lt fun e => (h.own d e).2.1 rfl
  have k2 := hs m h.m_lt fun e => (h.own m e).2.2.1 rfl
  have k3 : ∀ p ∈ G, w'.heap[p.2.blk]? = w.heap[p.2.blk]? := fun p hp => hs _ (h.file p hp).lt fun e => ((h.own _ e).2.2.2 p hp).1 rfl
  have k4 : ∀ p ∈ G, ∀ r, p.2.row = some r → w'.heap[r]? = w.heap[r]? := fun p hp r hr => hs _ ((h.file p hp).row_lt hr) fun e => ((h.own _ e).2.2.2 p hp).2 hr
  have h' := h.same k1 k2 k3 k4 hsz
  refine ⟨m, G, ⟨h'.db, h'.mp, h'.srt, h'.file, h'.blk, h'.row, h'.len, h'.fz, fun b ho => ?_⟩, hF⟩
  rcases ho with ho | ⟨h1, h2⟩
  · exact h'.own b ho
  · have := h.d_lt
    have := h.m_lt
    refine ⟨h2, by omega, by omega, fun p hp => ⟨?_, fun hr => ?_⟩⟩
    · have := (h.file p hp).lt; omega
    · have := (h.file p hp).row_lt hr; omega
/-- The parts, the log's own block being written. -/
theorem PartsAt.cellL {w : World} {base l : Nat} {pv : Value} {G : List Gp} {cs : Array Value} {fz : Nat × Nat} (h : PartsAt w base pv G) (hl : w.heap[l]? = some (.cells cs 48 fz)) (i : Nat) (u : Value) : PartsAt (w.setCell ⟨l, i, none⟩ u) base pv G := by
  refine h.same (fun r hr => Below.heap_setCell _ _ _ _ ?_) fun g hg r hr => Below.heap_setCell _ _ _ _ ?_
  · rintro rfl
    obtain ⟨_, c, e⟩ := row_at h.row hr
    rw [hl] at e; cases e
  · rintro rfl
    obtain ⟨_, c, e⟩ := row_at (h.tx g hg) hr
    rw [hl] at e; cases e
/-- Behind an append to the parts, and the store of their row. -/
theorem WalAt.grown {own lo : Nat → Prop} {w w1 w2 : World} {l d : Nat} {S : Ds} {pv : Value} {G : List Gp} {g cap : Nat} {n : Nat} (hd : DiskAt (fun b => own b ∨ lo b) w d S) (hl : LogAt lo w l d pv G) (hno : ∀ b, lo b → ¬ own b) (hn : n ≤ 99999998) (hb1 : Below w.heap.size w w1)
    (hown : w2.ownsRow 0 55 2 (.slice (some ⟨g, 0, none⟩) (G.length + 1) cap) (G.length + 1) (gcs G ++ [.int .i64 (n : Int), .slice none 0 0])) (hg : w1.grownBy w2 pv.ownBlock) (hpl : pv.ownBlock = some g ∨ g = w1.heap.size) (hglt : g < w2.heap.size) :
    WalAt own (w2.setCell ⟨l, 2, none⟩ (.slice (some ⟨g, 0, none⟩) (G.length + 1) cap)) l d S (G.map Gp.lt ++ [(n, [])]) ∧ Keeps own w (w2.setCell ⟨l, 2, none⟩ (.slice (some ⟨g, 0, none⟩) (G.length + 1) cap)) := by
  have hl1 : LogAt lo w1 l d pv G := hl.same fun b hb => hb1.block b (hd.own (.inr hb))
  have hs1 := hb1.size
  have hs2 := hg.size
  have hlw := hd.own (b := l) (.inr hl.ll)
  have hlp : pv.ownBlock ≠ some l := by
    intro e
    obtain ⟨_, c, e⟩ := row_at hl.pa.row e
    rw [hl.lb] at e; cases e
  have hl2 : w2.heap[l]? = some (.cells #[.pointer (some ⟨l, 0, none⟩), .pointer (some ⟨d, 0, none⟩), pv] 48 (0, 0)) := (hg.block l (by omega) (fun e => hlp e.symm)).trans hl1.lb
  have hsz : (w2.setCell ⟨l, 2, none⟩ (.slice (some ⟨g, 0, none⟩) (G.length + 1) cap)).heap.size = w2.heap.size := by simp [World.setCell]
  have same : ∀ b, b < w.heap.size → b ≠ l → pv.ownBlock ≠ some b → (w2.setCell ⟨l, 2, none⟩ (.slice (some ⟨g, 0, none⟩) (G.length + 1) cap)).heap[b]? = w.heap[b]? := fun b hb h1 h2 =>
    (Below.heap_setCell _ _ _ _ h1).trans ((hg.block b (by omega) (fun e => h2 e.symm)).trans (hb1.block b hb))
  have hd2 := hd.others (w' := w2.setCell ⟨l, 2, none⟩ (.slice (some ⟨g, 0, none⟩) (G.length + 1) cap)) (fun b hb hb' => same b hb (fun e => hb' (.inr (e ▸ hl.ll))) (fun e => hb' (.inr (hl.lp b e)))) (by rw [hsz]; omega)
  have hp := hl1.pa.snoc (g := ⟨n, [], .slice none 0 0⟩) hown hg (World.ownsRow_nil _ _ _ _) (fun h _ r _ e => by simp [Value.ownBlock] at e)
  refine ⟨⟨fun b => lo b ∨ (w.heap.size ≤ b ∧ b < w2.heap.size), _, _, hd2.weaken fun b hb => ?_, ⟨?_, hp.cellL hl2 2 _, .inl hl.ll, fun r hr => ?_, fun k hk r hr => ?_, fun k hk => ?_⟩, by rw [List.map_append]; rfl, fun b hb hb' => ?_⟩, ⟨?_, ?_, ?_, by rw [hsz]; omega, fun b hb => ?_⟩⟩
  · rw [hsz]
    rcases hb with h | h | h
    · exact .inl (.inl h)
    · exact .inl (.inr h)
    · exact .inr h
  · rw [setCell_at hl2]; rfl
  · simp [Value.ownBlock] at hr
    subst hr
    rcases hpl with e | rfl
    · exact .inl (hl.lp _ e)
    · exact .inr ⟨by omega, hglt⟩
  · rcases List.mem_append.1 hk with hk | hk
    · exact .inl (hl.lt k hk r hr)
    · simp at hk; subst hk; simp [Value.ownBlock] at hr
  · rcases List.mem_append.1 hk with hk | hk
    · exact hl.num k hk
    · simp at hk; subst hk; exact hn
  · rcases hb with h | h
    · exact hno b h hb'
    · have := hd.own (b := b) (.inl hb'); omega
  · exact hg.os.trans hb1.os
  · exact hg.tape.trans hb1.tape
  · exact hg.output.trans hb1.output
  · exact same b (hd.own (.inl hb)) (fun e => hno l hl.ll (e ▸ hb)) (fun e => hno b (hl.lp b e) hb)
set_option maxRecDepth 100000 in
set_option maxHeartbeats 2000000 in
theorem grow_any {own : Nat → Prop} {w : World} {l d n : Nat} {S : Ds} {L : Lt} (h : WalAt own w l d S L) (hn : n ≤ 99999998) (hlen : L.length ≤ 1000000) :
    Calls Try.prog 23 #[.pointer (some ⟨l, 0, none⟩), .int .i64 (n : Int)] w fun e w' => e = .returned (.int .i64 (S.make (lname n)).2) ∧ WalAt own w' l d (S.make (lname n)).1 (if (S.make (lname n)).2 = 0 then L ++ [(n, [])] else L) ∧ Keeps own w w' := by
  obtain ⟨lo, pv, G, hd, hl, rfl, hno⟩ := h
  rw [List.length_map] at hlen
  obtain ⟨c0, c1, c2, f2, lt⟩ := hl.cells
  have hF := Lib.hid (file_any n (by omega))
  have HD := Lib.hid hd
  have HL := Lib.hid hl
  have HNO := Lib.hid hno
  obtain ⟨i0, hi, hz0, hz1, hz2⟩ := info_parts infoPart
  clear hd hl hno c0 c2 f2
  obtain ⟨⟨S1, E⟩, hR⟩ : ∃ R, R = S.make (lname n) := ⟨_, rfl⟩
  have HR := Lib.hid hR
  rw [← hR]
  clear hR
  simp only
  by_cases h0 : E = 0
  · subst h0
    rw [if_pos rfl]
    go_enter Try.func23, Try.ntmps23
    go_wp2_with fail
    refine below_tail 6 (by kernel_rfl) (by kernel_rfl) ?_
    simp only [List.take_succ_cons, List.take_zero, List.drop_succ_cons, List.drop_zero]
    repeat (first
      | go_big_quiet_skip
      | (go_big_quiet_want
         first
         | (refine BigFrame.quiet_move _ rfl ?_)
         | (refine BigFrame.quiet_assign _ rfl ?_)
         | (unfold Oper.quiet
            apply Exists.intro
            refine ⟨fun w' hw' => ?_, ?_⟩
            · (obtain ⟨hc', hf'⟩ := bcell hw'
               go_simp
               first
               | done
               | exact rfl
               | (go_at_call 29; refine (hF.out _).mono ?_; rintro e w'' ⟨rfl, bb⟩; exact ⟨rfl, bt hw' bb⟩)))
         go_big_quiet_on
         simp only [Act.put, Act.eval, List.setIfInBounds_toArray, List.set_cons_zero, List.set_cons_succ, Array.getD_eq_getD_getElem?, List.getElem?_toArray, List.getElem?_cons_zero, List.getElem?_cons_succ, Option.getD_some]))
    refine wpQuiet_nil ?_
    intro w' hw'
    have C := make_any (HD.out.below hw') ⟨(lname n).toArray⟩ (lname_size n)
    rw [show (⟨(lname n).toArray⟩ : ByteArray).data.toList = lname n from rfl, ← HR.out] at C
    have HC := Lib.hid C
    have HK := Lib.hid (Keeps.of_below hw' fun b (hb : own b ∨ lo b) => HD.out.own hb)
    clear C hw' c1
    go_wp2_with fail
    refine HC.out.mono ?_
    rintro e w2 ⟨rfl, hd2, hk⟩
    have hk2 := HK.out.trans hk
    have hl2 := HL.out.same fun b hb => hk2.block b (.inr hb)
    have HK2 := Lib.hid (hk2.mono fun b (hb : own b) => .inl hb)
    have HD2 := Lib.hid hd2
    have HL2 := Lib.hid hl2
    obtain ⟨-, -, c2, f2, lt2⟩ := hl2.cells
    clear hk hd2 hl2 hk2 HC HK
    obtain ⟨pa, pc, rfl⟩ := row_slice HL.out.pa.row
    go_wp2_with (at_builtin; refine wpList_append_lies _ rfl _ _ 46 rfl 0 55 i0 (.agg #[.int .i64 0, .slice none 0 0]) 2 32 Try.underlying46 hi hz0 hz1 hz2 rfl (by decide) _ _ _ rfl (HL2.out.pa.old ((Below.refl _ _).alloc (Nat.le_refl _) _)).row ⟨w2.heap.size, 0, none⟩ 1 1 [.int .i64 (n : Int), .slice none 0 0] rfl rfl ?c1 ?c2 (by decide) ?c3 ?c4 ?c5 _ rfl ?_)
    case c1 => exact cell_pair _ _ _ _
    case c2 => exact pair_one _ _ _ _
    case c3 => unfold maxLen; omega
    case c4 => omega
    case c5 => exact Nat.zero_le _
    · intro g cap w3 hown3 hgrow hpl hglt
      have hal : Below w2.heap.size w2 (w2.alloc (.cells #[.int .i64 (n : Int), .slice none 0 0] 55)) := (Below.refl _ _).alloc (Nat.le_refl _) _
      have hst := WalAt.grown HD2.out HL2.out HNO.out hn hal hown3 hgrow (by rcases hpl with e | e; exact .inl e; exact .inr (by simp; exact e)) hglt
      have hblk : w3.heap[l]? = (w2.alloc (.cells #[.int .i64 (n : Int), .slice none 0 0] 55)).heap[l]? := hgrow.block l (by simp; omega) (fun e => by
        obtain ⟨_, c, e⟩ := row_at HL2.out.pa.row e.symm
        rw [HL2.out.lb] at e; cases e)
      have hc3 := (World.cell?_of_block (a := ⟨l, 2, none⟩) hblk).trans ((hal.cell (p := ⟨l, 2, none⟩) lt2).trans c2)
      have hf3 := (World.frozen?_of_block (a := ⟨l, 2, none⟩) hblk).trans ((hal.frozen (p := ⟨l, 2, none⟩) lt2).trans f2)
      have hs3 : l < w3.heap.size := by have := hgrow.size; simp at this; omega
      have HS := Lib.hid hst
      clear hst hown3 hgrow hal c2 f2 hblk
      go_wp2
      go_ret
      exact ⟨rfl, HS.out.1, HK2.out.trans HS.out.2⟩
  · rw [if_neg h0]
    have hX : (E != 0) = true := by simpa using h0
    go_enter Try.func23, Try.ntmps23
    go_wp2_with fail
    refine below_tail 6 (by kernel_rfl) (by kernel_rfl) ?_
    simp only [List.take_succ_cons, List.take_zero, List.drop_succ_cons, List.drop_zero]
    repeat (first
      | go_big_quiet_skip
      | (go_big_quiet_want
         first
         | (refine BigFrame.quiet_move _ rfl ?_)
         | (refine BigFrame.quiet_assign _ rfl ?_)
         | (unfold Oper.quiet
            apply Exists.intro
            refine ⟨fun w' hw' => ?_, ?_⟩
            · (obtain ⟨hc', hf'⟩ := bcell hw'
               go_simp
               first
               | done
               | exact rfl
               | (go_at_call 29; refine (hF.out _).mono ?_; rintro e w'' ⟨rfl, bb⟩; exact ⟨rfl, bt hw' bb⟩)))
         go_big_quiet_on
         simp only [Act.put, Act.eval, List.setIfInBounds_toArray, List.set_cons_zero, List.set_cons_succ, Array.getD_eq_getD_getElem?, List.getElem?_toArray, List.getElem?_cons_zero, List.getElem?_cons_succ, Option.getD_some]))
    refine wpQuiet_nil ?_
    intro w' hw'
    have C := make_any (HD.out.below hw') ⟨(lname n).toArray⟩ (lname_size n)
    rw [show (⟨(lname n).toArray⟩ : ByteArray).data.toList = lname n from rfl, ← HR.out] at C
    have HC := Lib.hid C
    have HK := Lib.hid (Keeps.of_below hw' fun b (hb : own b ∨ lo b) => HD.out.own hb)
    clear C hw' c1
    go_wp2_with fail
    refine HC.out.mono ?_
    rintro e w2 ⟨rfl, hd2, hk⟩
    have hk2 := HK.out.trans hk
    have hl2 := HL.out.same fun b hb => hk2.block b (.inr hb)
    have HK2 := Lib.hid (hk2.mono fun b (hb : own b) => .inl hb)
    have HD2 := Lib.hid hd2
    have HL2 := Lib.hid hl2
    obtain ⟨-, -, c2, f2, lt2⟩ := hl2.cells
    clear hk hd2 hl2 hk2 HC HK
    clear c2 f2
    go_wp2
    go_ret
    exact ⟨rfl, ⟨lo, pv, G, HD2.out, HL2.out, rfl, HNO.out⟩, HK2.out⟩

/-! ### Roll -/
def Ds.roll (S : Ds) (n : Nat) : Ds × Int :=
  if mayE S (n + 1) = 0 then (if (S.sync (lname n)).2 = 0 then (S.sync (lname n)).1.make (lname (n + 1)) else S.sync (lname n)) else (S, mayE S (n + 1))
set_option maxRecDepth 100000 in
set_option maxHeartbeats 2000000 in
theorem roll_any {own : Nat → Prop} {w : World} {l d n : Nat} {S : Ds} {L0 : Lt} {ts : List (List UInt8)} (h : WalAt own w l d S (L0 ++ [(n, ts)])) (hlen : L0.length + 1 ≤ 1000000) :
    Calls Try.prog 12 #[.pointer (some ⟨l, 0, none⟩)] w fun e w' => e = .returned (.tuple #[.int .i64 (if (S.roll n).2 = 0 then ((n + 1 : Nat) : Int) else 0), .int .i64 (S.roll n).2]) ∧ WalAt own w' l d (S.roll n).1 (if (S.roll n).2 = 0 then L0 ++ [(n, ts)] ++ [(n + 1, [])] else L0 ++ [(n, ts)]) ∧ Keeps own w w' := by
  have H := Lib.hid h
  obtain ⟨lo, pv, G, hd, hl, hL, hno⟩ := h
  obtain ⟨G0, g, rfl, -, hgn, -⟩ := snoc_of (L := []) hL
  obtain ⟨pb, cap, rfl, hpb, hlo, hml, e1, e2, e3⟩ := hl.last
  have hnum := hl.num g (by simp)
  rw [hgn] at hnum e1
  have hg := lgiven_yes l w hl.cells.c0
  have he := Lib.hid (end_any hl.cells hml)
  obtain ⟨-, c1, -, -, lt⟩ := hl.cells
  have hM := Lib.hid fun w' (hb : Below w.heap.size w w') => mayMake_any (n := n + 1) (hd.below hb) (by omega)
  clear hd hl hL hno hlo e2 e3 hgn
  generalize G0.length = q at he e1 hml
  obtain ⟨j, hj⟩ : ∃ j, j = q * 2 := ⟨_, rfl⟩
  rw [← hj] at he e1
  clear hj
  have hR : Hid (S.roll n = if mayE S (n + 1) = 0 then (if (S.sync (lname n)).2 = 0 then (S.sync (lname n)).1.make (lname (n + 1)) else S.sync (lname n)) else (S, mayE S (n + 1))) := Lib.hid rfl
  have hgrow : Hid (mayE S (n + 1) = 0 → n + 1 ≤ 99999998) := Lib.hid fun e => by
    rcases mayE_cases S (n + 1) with ⟨_, h⟩ | ⟨_, _, h⟩ | ⟨_, h, _⟩
    · rw [h] at e; cases e
    · rw [h] at e; cases e
    · exact h
  generalize mayE S (n + 1) = M at hM hR hgrow
  by_cases hM0 : M = 0
  · subst hM0
    have hR := Lib.hid (hR.out.trans (if_pos rfl))
    have hn1 := hgrow.out rfl
    have hFl := Lib.hid fun w' (hb : Below w.heap.size w w') => flush_any (H.out.below hb)
    by_cases hS0 : (S.sync (lname n)).2 = 0
    · have hR := hR.out.trans (if_pos hS0)
      rw [hR]
      obtain ⟨⟨S1, E1⟩, hR1⟩ : ∃ R, R = S.sync (lname n) := ⟨_, rfl⟩
      rw [← hR1] at hFl hS0 ⊢
      simp only at hS0
      subst hS0
      simp only at hFl ⊢
      obtain ⟨⟨S2, E2⟩, hR2⟩ : ∃ R, R = S1.make (lname (n + 1)) := ⟨_, rfl⟩
      have HR2 := Lib.hid hR2
      rw [← hR2]
      simp only
      clear hR hR1 hR2 hgrow
      by_cases hE : E2 = 0
      · subst hE
        rw [if_pos rfl, if_pos rfl]
        go_enter Try.func12, Try.ntmps12
        go_wp2_with (first
          | (go_at_call 25; refine hg.mono ?_; rintro e w' ⟨rfl, rfl⟩)
          | (go_at_call 27; refine he.out.mono ?_; rintro e w1 ⟨rfl, hb⟩; have e1 := (hb.cell (p := ⟨pb, j, none⟩) hpb).trans e1; have c1 := (hb.cell (p := ⟨l, 1, none⟩) lt).trans c1; have HB := Lib.hid hb; have lt1 := Nat.lt_of_lt_of_le lt hb.size; clear hb)
          | (go_at_call 21; refine (hM.out _ HB.out).mono ?_; rintro e w2 ⟨rfl, hb2⟩; have HB2 := Lib.hid (bt HB.out hb2); clear hb2)
          | (go_at_call 11; refine (hFl.out _ HB2.out).mono ?_; rintro e w3 ⟨rfl, hw3, hk3⟩; have HW3 := Lib.hid hw3; have HK3 := Lib.hid (Keeps.trans (Keeps.of_below HB2.out fun b (hb : own b) => H.out.own hb) hk3); clear hw3 hk3)
          | (go_at_call 23; refine (grow_any HW3.out hn1 (by rw [List.length_append]; exact hlen)).mono ?_; rw [← HR2.out]; rintro e w4 ⟨rfl, hw4, hk4⟩; rw [if_pos rfl] at hw4; have HW4 := Lib.hid hw4; have HK4 := Lib.hid (HK3.out.trans hk4); clear hw4 hk4))
        go_ret2
        exact ⟨rfl, HW4.out, HK4.out⟩
      · rw [if_neg hE, if_neg hE]
        have hX : (E2 != 0) = true := by simpa using hE
        go_enter Try.func12, Try.ntmps12
        go_wp2_with (first
          | (go_at_call 25; refine hg.mono ?_; rintro e w' ⟨rfl, rfl⟩)
          | (go_at_call 27; refine he.out.mono ?_; rintro e w1 ⟨rfl, hb⟩; have e1 := (hb.cell (p := ⟨pb, j, none⟩) hpb).trans e1; have c1 := (hb.cell (p := ⟨l, 1, none⟩) lt).trans c1; have HB := Lib.hid hb; have lt1 := Nat.lt_of_lt_of_le lt hb.size; clear hb)
          | (go_at_call 21; refine (hM.out _ HB.out).mono ?_; rintro e w2 ⟨rfl, hb2⟩; have HB2 := Lib.hid (bt HB.out hb2); clear hb2)
          | (go_at_call 11; refine (hFl.out _ HB2.out).mono ?_; rintro e w3 ⟨rfl, hw3, hk3⟩; have HW3 := Lib.hid hw3; have HK3 := Lib.hid (Keeps.trans (Keeps.of_below HB2.out fun b (hb : own b) => H.out.own hb) hk3); clear hw3 hk3)
          | (go_at_call 23; refine (grow_any HW3.out hn1 (by rw [List.length_append]; exact hlen)).mono ?_; rw [← HR2.out]; rintro e w4 ⟨rfl, hw4, hk4⟩; rw [if_neg hE] at hw4; have HW4 := Lib.hid hw4; have HK4 := Lib.hid (HK3.out.trans hk4); clear hw4 hk4))
        go_ret2
        exact ⟨rfl, HW4.out, HK4.out⟩
    · have hR := hR.out.trans (if_neg hS0)
      rw [hR]
      obtain ⟨⟨S1, E1⟩, hR1⟩ : ∃ R, R = S.sync (lname n) := ⟨_, rfl⟩
      rw [← hR1] at hFl hS0 ⊢
      simp only at hS0
      simp only at hFl ⊢
      rw [if_neg hS0, if_neg hS0]
      have hX : (E1 != 0) = true := by simpa using hS0
      clear hR hR1 hgrow
      go_enter Try.func12, Try.ntmps12
      go_wp2_with (first
        | (go_at_call 25; refine hg.mono ?_; rintro e w' ⟨rfl, rfl⟩)
        | (go_at_call 27; refine he.out.mono ?_; rintro e w1 ⟨rfl, hb⟩; have e1 := (hb.cell (p := ⟨pb, j, none⟩) hpb).trans e1; have c1 := (hb.cell (p := ⟨l, 1, none⟩) lt).trans c1; have HB := Lib.hid hb; have lt1 := Nat.lt_of_lt_of_le lt hb.size; clear hb)
        | (go_at_call 21; refine (hM.out _ HB.out).mono ?_; rintro e w2 ⟨rfl, hb2⟩; have HB2 := Lib.hid (bt HB.out hb2); clear hb2)
        | (go_at_call 11; refine (hFl.out _ HB2.out).mono ?_; rintro e w3 ⟨rfl, hw3, hk3⟩; have HW3 := Lib.hid hw3; have HK3 := Lib.hid (Keeps.trans (Keeps.of_below HB2.out fun b (hb : own b) => H.out.own hb) hk3); clear hw3 hk3))
      go_ret2
      exact ⟨rfl, HW3.out, HK3.out⟩
  · have hR := hR.out.trans (if_neg hM0)
    rw [hR]
    simp only
    rw [if_neg hM0, if_neg hM0]
    have hX : (M != 0) = true := by simpa using hM0
    clear hR hgrow
    go_enter Try.func12, Try.ntmps12
    go_wp2_with (first
      | (go_at_call 25; refine hg.mono ?_; rintro e w' ⟨rfl, rfl⟩)
      | (go_at_call 27; refine he.out.mono ?_; rintro e w1 ⟨rfl, hb⟩; have e1 := (hb.cell (p := ⟨pb, j, none⟩) hpb).trans e1; have c1 := (hb.cell (p := ⟨l, 1, none⟩) lt).trans c1; have HB := Lib.hid hb; have lt1 := Nat.lt_of_lt_of_le lt hb.size; clear hb)
      | (go_at_call 21; refine (hM.out _ HB.out).mono ?_; rintro e w2 ⟨rfl, hb2⟩; have HB2 := Lib.hid (bt HB.out hb2); clear hb2))
    go_ret2
    exact ⟨rfl, H.out.below HB2.out, Keeps.of_below HB2.out fun b hb => H.out.own hb⟩
end Go.Proofs.Ythikedhbjphmeaa
