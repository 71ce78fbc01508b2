/-
  Layer 16 (post): the document's writer: number, count, text, flag. Conditions: as each says.
-/
import Derived.Test.YtdnhmkfgcpdbkaaA5
import Derived.Test.YtdnhmkfgcpdbkaaVx
import Derived.Lib.MinMax
namespace Go.Proofs.Ytdnhmkfgcpdbkaa
open Go.RowKit
set_option linter.unusedVariables false
set_option linter.unusedSimpArgs false

/-- The document's writer in block b: its bytes l (a row above b), and whether something may not be. -/
structure WrAt (b : Nat) (w : World) (s : Value) (l : List UInt8) (bad : Bool) : Prop where
  hb : w.heap[b]? = some (.cells #[s, .bool bad] 114 (0, 0))
  own : w.ownsRow (b + 1) 5 1 s l.length (Lib.byteCells l)
theorem WrAt.lt {b : Nat} {w : World} {s : Value} {l : List UInt8} {bad : Bool} (h : WrAt b w s l bad) : b < w.heap.size := heap_lt h.hb
theorem WrAt.old {b : Nat} {w w' : World} {s : Value} {l : List UInt8} {bad : Bool} (h : WrAt b w s l bad) (hb : Below w.heap.size w w') : WrAt b w' s l bad :=
  ⟨(hb.block b h.lt).trans h.hb, below_own h.own hb⟩
theorem WrAt.form {b : Nat} {w : World} {s : Value} {l : List UInt8} {bad : Bool} (h : WrAt b w s l bad) : ∃ a n c, s = .slice a n c := by
  rcases h.own.2 with ⟨hv, _⟩ | ⟨g, cap, cur, hv, _⟩
  · exact ⟨_, _, _, hv⟩
  · exact ⟨_, _, _, hv⟩
theorem WrAt.facts {b : Nat} {w : World} {s : Value} {l : List UInt8} {bad : Bool} (h : WrAt b w s l bad) : w.cell? ⟨b, 0, none⟩ = some s ∧ w.cell? ⟨b, 1, none⟩ = some (.bool bad) ∧ w.frozen? ⟨b, 0, none⟩ = false ∧ w.frozen? ⟨b, 1, none⟩ = false :=
  ⟨by rw [Lib.cell_of_heap h.hb]; rfl, by rw [Lib.cell_of_heap h.hb]; rfl, Lib.frozen_of_heap h.hb 0, Lib.frozen_of_heap h.hb 1⟩
theorem wr_bad {b : Nat} {w : World} {s : Value} {l : List UInt8} {bad : Bool} (h : WrAt b w s l bad) (q : Bool) : WrAt b (w.setCell ⟨b, 1, none⟩ (.bool q)) s l q ∧ KB b b w (w.setCell ⟨b, 1, none⟩ (.bool q)) := by
  refine ⟨⟨?_, ownsRow_setCell_below h.own (by show b < b + 1; omega) _⟩, (KB.refl b b w).own 1 (Nat.le_refl _) _⟩
  have := heap_set w ⟨b, 1, none⟩ (.bool q)
  rw [h.hb] at this
  exact this
theorem wr_end {b : Nat} {w w1 w2 : World} {s v' : Value} {l : List UInt8} {t : ByteArray} {bad : Bool} (h : WrAt b w1 s l bad) (hk : KB b b w w1) (ho : w2.ownsRow (b + 1) 5 1 v' (l.length + t.size) (Lib.byteCells l ++ Lib.strCells t)) (hg : w1.grownBy w2 s.ownBlock) :
    KB b b w (w2.setCell ⟨b, 0, none⟩ v') ∧ WrAt b (w2.setCell ⟨b, 0, none⟩ v') v' (l ++ t.data.toList) bad ∧ w2.cell? ⟨b, 0, none⟩ = some s ∧ w2.frozen? ⟨b, 0, none⟩ = false ∧ ∃ a n c, v' = .slice a n c := by
  have hne : s.ownBlock ≠ some b := fun e => by have := (h.own.lt b e).1; omega
  have hb2 : w2.heap[b]? = some (.cells #[s, .bool bad] 114 (0, 0)) := (hg.block b h.lt (fun e => hne e.symm)).trans h.hb
  have hf : ∃ a n c, v' = .slice a n c := by
    rcases ho.2 with ⟨hv, _⟩ | ⟨g, cap, cur, hv, _⟩
    · exact ⟨_, _, _, hv⟩
    · exact ⟨_, _, _, hv⟩
  refine ⟨⟨(hk.t.trans ⟨fun x cs T fr hx h0 hT => ?_, hg.size⟩).trans (KeepT.set b 0 w2 _), (hk.l.grown hg (by have := h.lt; have := hk.size; exact Nat.le_of_lt (heap_lt h.hb)) (fun k hk => by have := (h.own.lt k hk).1; omega)).setCell (p := ⟨b, 0, none⟩) (Nat.le_refl _) _⟩, ⟨?_, ?_⟩, by rw [Lib.cell_of_heap hb2]; rfl, Lib.frozen_of_heap hb2 0, hf⟩
  · rw [hg.block x (heap_lt h0) (fun e => ?_)]
    · exact h0
    · rcases h.own.2 with ⟨rfl, _⟩ | ⟨g, c, cur, rfl, _, hg2, _⟩
      · simp [Value.ownBlock] at e
      · simp only [Value.ownBlock, Option.some.injEq] at e
        subst e
        rw [hg2] at h0
        simp only [Option.some.injEq, Obj.cells.injEq] at h0
        exact hT h0.2.1.symm
  · have := heap_set w2 ⟨b, 0, none⟩ v'
    rw [hb2] at this
    exact this
  · have e : (l ++ t.data.toList).length = l.length + t.size := by rw [List.length_append, size_list]
    rw [e, ← bcells]
    exact ownsRow_setCell_below ho (by show b < b + 1; omega) _
/-- What a writer has written, as long as nothing was bad; how much at most. -/
def Wr (b : Nat) (w : World) (o : List UInt8) (bad : Bool) (K : Nat) : Prop := ∃ s l, WrAt b w s l bad ∧ (bad = false → l = o) ∧ l.length ≤ K
theorem Wr.old {b : Nat} {w w' : World} {o : List UInt8} {bad : Bool} {K : Nat} (h : Wr b w o bad K) (hb : Below w.heap.size w w') : Wr b w' o bad K := by
  obtain ⟨s, l, h1, h2⟩ := h
  exact ⟨s, l, h1.old hb, h2⟩
theorem Wr.lt {b : Nat} {w : World} {o : List UInt8} {bad : Bool} {K : Nat} (h : Wr b w o bad K) : b < w.heap.size := by obtain ⟨s, l, h1, _⟩ := h; exact h1.lt
/-- What is written is right as far as it is asked for. -/
theorem Wr.to {b : Nat} {w : World} {o o' : List UInt8} {bad bad' : Bool} {K K' : Nat} (h : Wr b w o bad K) (hb : bad = bad') (ho : bad' = false → o = o') (hK : K ≤ K') : Wr b w o' bad' K' := by
  obtain ⟨s, l, h1, h2, h3⟩ := h
  subst hb
  exact ⟨s, l, h1, fun e => by rw [← ho e]; exact h2 e, by omega⟩
def okN (x : Int) : Bool := decide (0 ≤ x ∧ x ≤ maxN)
def numP (b : Nat) (o : List UInt8) (bad : Bool) (K : Nat) (x : Int) (w : World) (e : Ending) (w' : World) : Prop := e = .returned (.tuple #[]) ∧ KB b b w w' ∧ Wr b w' (o ++ vL x.toNat) (bad || !okN x) (K + 300)
set_option maxRecDepth 100000 in
set_option maxHeartbeats 4000000 in
theorem wnum_no_true (b : Nat) (w : World) (s : Value) (l : List UInt8) (x : Int) (hx : x < 0 ∨ 4611686018427387904 < x) (h0 : WrAt b w s l true) (hK : l.length ≤ 1000000000) :
    Calls Try.prog 42 #[.pointer (some ⟨b, 0, none⟩), .int .i64 x] w fun e w' => e = .returned (.tuple #[]) ∧ KB b b w w' ∧ ∃ v, WrAt b w' v (l ++ []) true := by
  obtain ⟨i0, hi, hz0, hz1, hz2⟩ := info_parts Try.infoU8k
  go_enter Try.func42, Try.ntmps42
  go_wp2_with fail
  refine (put_ref_no x w hx).mono ?_
  rintro e w1 ⟨rfl, hb⟩
  replace hb : Below w.heap.size w w1 := by subst hb; exact Below.refl _ _
  have hW1 := h0.old hb
  have HF := wr_bad hW1 true
  have HW2 := Lib.hid HF.1
  have HK2 := Lib.hid ((KB.of hb (Nat.le_of_lt h0.lt)).trans HF.2)
  obtain ⟨c0, c1, f0, f1⟩ := hW1.facts
  have hlt := hW1.lt
  obtain ⟨d0, d1, g0, g1⟩ := HF.1.facts
  have hlt2 := HF.1.lt
  obtain ⟨sa, sn, sc, rfl⟩ := h0.form
  clear HF h0 hb hW1
  go_upto_region 2 with fail
  generalize w1.setCell ⟨b, 1, none⟩ (.bool true) = w2 at HW2 HK2 d0 d1 g0 g1 hlt2 ⊢
  clear c0 c1 f0 f1
  go_wp2_with (at_builtin; refine Lib.wpList_append_own_string _ rfl _ _ 46 9 rfl (b + 1) 5 i0 Try.underlying46 Try.underlying9 hi hz0 hz1 hz2 _ _ _ rfl HW2.out.own ⟨#[]⟩ rfl ?c3 ?c4 ?c5 ?_)
  case c3 => have := (show (⟨#[]⟩ : ByteArray).size = 0 from rfl); unfold maxLen; omega
  case c4 => have := (show (⟨#[]⟩ : ByteArray).size = 0 from rfl); omega
  case c5 => omega
  intro v' w3 hown' hgrow _
  obtain ⟨k1, k2, k3, k4, ka, kn, kc, rfl⟩ := wr_end HW2.out HK2.out hown' hgrow
  have HKK := Lib.hid k1
  have HWW := Lib.hid k2
  clear hown' hgrow k1 k2 d0 d1 g0 g1 HW2 HK2
  go_wp2
  go_end0
  exact ⟨rfl, HKK.out, _, by have := HWW.out; simpa using this⟩
set_option maxRecDepth 100000 in
set_option maxHeartbeats 4000000 in
theorem wnum_no_false (b : Nat) (w : World) (s : Value) (l : List UInt8) (x : Int) (hx : x < 0 ∨ 4611686018427387904 < x) (h0 : WrAt b w s l false) (hK : l.length ≤ 1000000000) :
    Calls Try.prog 42 #[.pointer (some ⟨b, 0, none⟩), .int .i64 x] w fun e w' => e = .returned (.tuple #[]) ∧ KB b b w w' ∧ ∃ v, WrAt b w' v (l ++ []) true := by
  obtain ⟨i0, hi, hz0, hz1, hz2⟩ := info_parts Try.infoU8k
  go_enter Try.func42, Try.ntmps42
  go_wp2_with fail
  refine (put_ref_no x w hx).mono ?_
  rintro e w1 ⟨rfl, hb⟩
  replace hb : Below w.heap.size w w1 := by subst hb; exact Below.refl _ _
  have hW1 := h0.old hb
  have HF := wr_bad hW1 true
  have HW2 := Lib.hid HF.1
  have HK2 := Lib.hid ((KB.of hb (Nat.le_of_lt h0.lt)).trans HF.2)
  obtain ⟨c0, c1, f0, f1⟩ := hW1.facts
  have hlt := hW1.lt
  obtain ⟨d0, d1, g0, g1⟩ := HF.1.facts
  have hlt2 := HF.1.lt
  obtain ⟨sa, sn, sc, rfl⟩ := h0.form
  clear HF h0 hb hW1
  go_upto_region 2 with fail
  generalize w1.setCell ⟨b, 1, none⟩ (.bool true) = w2 at HW2 HK2 d0 d1 g0 g1 hlt2 ⊢
  clear c0 c1 f0 f1
  go_wp2_with (at_builtin; refine Lib.wpList_append_own_string _ rfl _ _ 46 9 rfl (b + 1) 5 i0 Try.underlying46 Try.underlying9 hi hz0 hz1 hz2 _ _ _ rfl HW2.out.own ⟨#[]⟩ rfl ?c3 ?c4 ?c5 ?_)
  case c3 => have := (show (⟨#[]⟩ : ByteArray).size = 0 from rfl); unfold maxLen; omega
  case c4 => have := (show (⟨#[]⟩ : ByteArray).size = 0 from rfl); omega
  case c5 => omega
  intro v' w3 hown' hgrow _
  obtain ⟨k1, k2, k3, k4, ka, kn, kc, rfl⟩ := wr_end HW2.out HK2.out hown' hgrow
  have HKK := Lib.hid k1
  have HWW := Lib.hid k2
  clear hown' hgrow k1 k2 d0 d1 g0 g1 HW2 HK2
  go_wp2
  go_end0
  exact ⟨rfl, HKK.out, _, by have := HWW.out; simpa using this⟩
set_option maxRecDepth 100000 in
set_option maxHeartbeats 4000000 in
theorem wnum_t (b : Nat) (w : World) (s : Value) (l : List UInt8) (n : Nat) (hn : n ≤ 4611686018427387904) (h0 : WrAt b w s l true) (hK : l.length ≤ 1000000000) :
    Calls Try.prog 42 #[.pointer (some ⟨b, 0, none⟩), .int .i64 (n : Int)] w fun e w' => e = .returned (.tuple #[]) ∧ KB b b w w' ∧ ∃ v, WrAt b w' v (l ++ vL n) true := by
  obtain ⟨i0, hi, hz0, hz1, hz2⟩ := info_parts Try.infoU8k
  go_enter Try.func42, Try.ntmps42
  go_wp2_with fail
  refine (put_ref n w hn).mono ?_
  rintro e w1 ⟨rfl, hb⟩
  have hW1 := h0.old hb
  have HF := wr_bad hW1 true
  have HW2 := Lib.hid HF.1
  have HK2 := Lib.hid ((KB.of hb (Nat.le_of_lt h0.lt)).trans HF.2)
  obtain ⟨c0, c1, f0, f1⟩ := hW1.facts
  have hlt := hW1.lt
  obtain ⟨d0, d1, g0, g1⟩ := HF.1.facts
  have hlt2 := HF.1.lt
  obtain ⟨sa, sn, sc, rfl⟩ := h0.form
  clear HF h0 hb hW1
  go_upto_region 2 with fail
  generalize w1.setCell ⟨b, 1, none⟩ (.bool true) = w2 at HW2 HK2 d0 d1 g0 g1 hlt2 ⊢
  clear c0 c1 f0 f1
  go_wp2_with (at_builtin; refine Lib.wpList_append_own_string _ rfl _ _ 46 9 rfl (b + 1) 5 i0 Try.underlying46 Try.underlying9 hi hz0 hz1 hz2 _ _ _ rfl HW2.out.own ⟨(vL n).toArray⟩ rfl ?c3 ?c4 ?c5 ?_)
  case c3 => have := (mk_size (vL n)); have := vL_len9 hn; unfold maxLen; omega
  case c4 => have := (mk_size (vL n)); have := vL_len9 hn; omega
  case c5 => omega
  intro v' w3 hown' hgrow _
  obtain ⟨k1, k2, k3, k4, ka, kn, kc, rfl⟩ := wr_end HW2.out HK2.out hown' hgrow
  have HKK := Lib.hid k1
  have HWW := Lib.hid k2
  clear hown' hgrow k1 k2 d0 d1 g0 g1 HW2 HK2
  go_wp2
  go_end0
  exact ⟨rfl, HKK.out, _, by have := HWW.out; simpa using this⟩
set_option maxRecDepth 100000 in
set_option maxHeartbeats 4000000 in
theorem wnum_big (b : Nat) (w : World) (s : Value) (l : List UInt8) (n : Nat) (hn : n ≤ 4611686018427387904) (hbg : (1099511627775 : Int) < (n : Int)) (h0 : WrAt b w s l false) (hK : l.length ≤ 1000000000) :
    Calls Try.prog 42 #[.pointer (some ⟨b, 0, none⟩), .int .i64 (n : Int)] w fun e w' => e = .returned (.tuple #[]) ∧ KB b b w w' ∧ ∃ v, WrAt b w' v (l ++ vL n) true := by
  obtain ⟨i0, hi, hz0, hz1, hz2⟩ := info_parts Try.infoU8k
  go_enter Try.func42, Try.ntmps42
  go_wp2_with fail
  refine (put_ref n w hn).mono ?_
  rintro e w1 ⟨rfl, hb⟩
  have hW1 := h0.old hb
  have HF := wr_bad hW1 true
  have HW2 := Lib.hid HF.1
  have HK2 := Lib.hid ((KB.of hb (Nat.le_of_lt h0.lt)).trans HF.2)
  obtain ⟨c0, c1, f0, f1⟩ := hW1.facts
  have hlt := hW1.lt
  obtain ⟨d0, d1, g0, g1⟩ := HF.1.facts
  have hlt2 := HF.1.lt
  obtain ⟨sa, sn, sc, rfl⟩ := h0.form
  clear HF h0 hb hW1
  go_upto_region 2 with fail
  generalize w1.setCell ⟨b, 1, none⟩ (.bool true) = w2 at HW2 HK2 d0 d1 g0 g1 hlt2 ⊢
  clear c0 c1 f0 f1
  go_wp2_with (at_builtin; refine Lib.wpList_append_own_string _ rfl _ _ 46 9 rfl (b + 1) 5 i0 Try.underlying46 Try.underlying9 hi hz0 hz1 hz2 _ _ _ rfl HW2.out.own ⟨(vL n).toArray⟩ rfl ?c3 ?c4 ?c5 ?_)
  case c3 => have := (mk_size (vL n)); have := vL_len9 hn; unfold maxLen; omega
  case c4 => have := (mk_size (vL n)); have := vL_len9 hn; omega
  case c5 => omega
  intro v' w3 hown' hgrow _
  obtain ⟨k1, k2, k3, k4, ka, kn, kc, rfl⟩ := wr_end HW2.out HK2.out hown' hgrow
  have HKK := Lib.hid k1
  have HWW := Lib.hid k2
  clear hown' hgrow k1 k2 d0 d1 g0 g1 HW2 HK2
  go_wp2
  go_end0
  exact ⟨rfl, HKK.out, _, by have := HWW.out; simpa using this⟩
set_option maxRecDepth 100000 in
set_option maxHeartbeats 4000000 in
theorem wnum_ok (b : Nat) (w : World) (s : Value) (l : List UInt8) (n : Nat) (hn : n ≤ 4611686018427387904) (hbg : ¬ (1099511627775 : Int) < (n : Int)) (h0 : WrAt b w s l false) (hK : l.length ≤ 1000000000) :
    Calls Try.prog 42 #[.pointer (some ⟨b, 0, none⟩), .int .i64 (n : Int)] w fun e w' => e = .returned (.tuple #[]) ∧ KB b b w w' ∧ ∃ v, WrAt b w' v (l ++ vL n) false := by
  obtain ⟨i0, hi, hz0, hz1, hz2⟩ := info_parts Try.infoU8k
  go_enter Try.func42, Try.ntmps42
  go_wp2_with fail
  refine (put_ref n w hn).mono ?_
  rintro e w1 ⟨rfl, hb⟩
  have hW1 := h0.old hb
  have HF := wr_bad hW1 false
  have HW2 := Lib.hid HF.1
  have HK2 := Lib.hid ((KB.of hb (Nat.le_of_lt h0.lt)).trans HF.2)
  obtain ⟨c0, c1, f0, f1⟩ := hW1.facts
  have hlt := hW1.lt
  obtain ⟨d0, d1, g0, g1⟩ := HF.1.facts
  have hlt2 := HF.1.lt
  obtain ⟨sa, sn, sc, rfl⟩ := h0.form
  clear HF h0 hb hW1
  have hdf : decide ((1099511627775 : Int) < (n : Int)) = false := decide_eq_false (by omega)
  go_upto_region 2 with fail
  generalize w1.setCell ⟨b, 1, none⟩ (.bool false) = w2 at HW2 HK2 d0 d1 g0 g1 hlt2 ⊢
  clear c0 c1 f0 f1
  go_wp2_with (at_builtin; refine Lib.wpList_append_own_string _ rfl _ _ 46 9 rfl (b + 1) 5 i0 Try.underlying46 Try.underlying9 hi hz0 hz1 hz2 _ _ _ rfl HW2.out.own ⟨(vL n).toArray⟩ rfl ?c3 ?c4 ?c5 ?_)
  case c3 => have := (mk_size (vL n)); have := vL_len9 hn; unfold maxLen; omega
  case c4 => have := (mk_size (vL n)); have := vL_len9 hn; omega
  case c5 => omega
  intro v' w3 hown' hgrow _
  obtain ⟨k1, k2, k3, k4, ka, kn, kc, rfl⟩ := wr_end HW2.out HK2.out hown' hgrow
  have HKK := Lib.hid k1
  have HWW := Lib.hid k2
  clear hown' hgrow k1 k2 d0 d1 g0 g1 HW2 HK2
  go_wp2
  go_end0
  exact ⟨rfl, HKK.out, _, by have := HWW.out; simpa using this⟩
theorem wnum (b : Nat) (w : World) (o : List UInt8) (bad : Bool) (K : Nat) (x : Int) (h : Wr b w o bad K) (hK : K ≤ 1000000000) :
    Calls Try.prog 42 #[.pointer (some ⟨b, 0, none⟩), .int .i64 x] w (numP b o bad K x w) := by
  obtain ⟨s, l, h1, h2, h3⟩ := h
  by_cases hx : x < 0 ∨ 4611686018427387904 < x
  · have hq : okN x = false := by unfold okN maxN; rw [decide_eq_false]; omega
    cases bad with
    | true =>
      refine (wnum_no_true b w s l x hx h1 (by omega)).mono ?_
      rintro e w' ⟨he, hk, v, hw⟩
      exact ⟨he, hk, v, _, hw, fun c => by simp at c, by simp; omega⟩
    | false =>
      refine (wnum_no_false b w s l x hx h1 (by omega)).mono ?_
      rintro e w' ⟨he, hk, v, hw⟩
      exact ⟨he, hk, v, _, by rw [hq]; exact hw, fun c => by rw [hq] at c; simp at c, by simp; omega⟩
  · obtain ⟨n, rfl⟩ : ∃ n : Nat, x = n := ⟨x.toNat, by omega⟩
    have hn : n ≤ 4611686018427387904 := by omega
    have hl := vL_len9 hn
    cases bad with
    | true =>
      refine (wnum_t b w s l n hn h1 (by omega)).mono ?_
      rintro e w' ⟨he, hk, v, hw⟩
      exact ⟨he, hk, v, _, hw, fun c => by simp at c, by rw [List.length_append]; omega⟩
    | false =>
      by_cases hb : (1099511627775 : Int) < (n : Int)
      · have hq : okN (n : Int) = false := by unfold okN maxN; rw [decide_eq_false]; omega
        refine (wnum_big b w s l n hn hb h1 (by omega)).mono ?_
        rintro e w' ⟨he, hk, v, hw⟩
        exact ⟨he, hk, v, _, by rw [hq]; exact hw, fun c => by rw [hq] at c; simp at c, by rw [List.length_append]; omega⟩
      · have hq : okN (n : Int) = true := by unfold okN maxN; rw [decide_eq_true]; omega
        refine (wnum_ok b w s l n hn hb h1 (by omega)).mono ?_
        rintro e w' ⟨he, hk, v, hw⟩
        exact ⟨he, hk, v, _, by rw [hq]; exact hw, fun _ => by rw [h2 rfl]; simp, by rw [List.length_append]; omega⟩
/-! ### flag -/
set_option maxRecDepth 100000 in
set_option maxHeartbeats 4000000 in
theorem wflag (b : Nat) (w : World) (o : List UInt8) (bad : Bool) (K : Nat) (p : Bool) (h : Wr b w o bad K) (hK : K ≤ 1000000000) :
    Calls Try.prog 43 #[.pointer (some ⟨b, 0, none⟩), .bool p] w fun e w' => e = .returned (.tuple #[]) ∧ KB b b w w' ∧ Wr b w' (o ++ txF (.f p)) bad (K + 300) := by
  have hp : numP b o bad K (if p = true then 1 else 0) w = fun e w' => e = .returned (.tuple #[]) ∧ KB b b w w' ∧ Wr b w' (o ++ txF (.f p)) bad (K + 300) := by
    funext e w'
    unfold numP
    have e1 : okN (if p = true then 1 else 0) = true := by cases p <;> decide
    have e2 : vL (if p = true then (1 : Int) else 0).toNat = txF (.f p) := by cases p <;> rfl
    rw [e1, e2]
    simp
  have HN := Lib.hid (wnum b w o bad K (if p = true then 1 else 0) h hK)
  rw [hp] at HN
  clear hp h
  cases p
  all_goals
    go_enter Try.func43, Try.ntmps43
    go_wp2_with fail
    refine HN.out.mono ?_
    rintro e w1 ⟨rfl, hk, hw⟩
    have HK := Lib.hid hk
    have HW := Lib.hid hw
    clear hk hw HN
    go_wp2_with fail
    go_end0
    exact ⟨rfl, HK.out, HW.out⟩
/-! ### text -/
set_option maxRecDepth 100000 in
set_option maxHeartbeats 4000000 in
theorem wtxt_true (b : Nat) (w : World) (s : Value) (l : List UInt8) (t : ByteArray) (ht : t.size ≤ 256) (h0 : WrAt b w s l true) (hK : l.length ≤ 1000000000) :
    Calls Try.prog 62 #[.pointer (some ⟨b, 0, none⟩), .string t] w fun e w' => e = .returned (.tuple #[]) ∧ KB b b w w' ∧ ∃ v, WrAt b w' v (l ++ txL t.data.toList) true := by
  obtain ⟨i0, hi, hz0, hz1, hz2⟩ := info_parts Try.infoU8k
  have hti : ¬ (256 : Int) < (t.size : Int) := by omega
  have hsz : (txL t.data.toList).length ≤ 300 := by
    show (vL t.data.toList.length ++ t.data.toList).length ≤ 300
    rw [List.length_append, size_list]
    have := vL_len9 (n := t.size) (by omega)
    omega
  go_enter Try.func62, Try.ntmps62
  go_wp2_with fail
  refine (text_ref t w (by omega)).mono ?_
  rintro e w2 ⟨rfl, hb⟩
  have HW2 := Lib.hid (h0.old hb)
  have HK2 : Hid (KB b b w w2) := Lib.hid (KB.of hb (Nat.le_of_lt h0.lt))
  obtain ⟨d0, d1, g0, g1⟩ := HW2.out.facts
  have hlt2 := HW2.out.lt
  obtain ⟨sa, sn, sc, rfl⟩ := h0.form
  clear h0 hb
  go_wp2_with (at_builtin; refine Lib.wpList_append_own_string _ rfl _ _ 46 9 rfl (b + 1) 5 i0 Try.underlying46 Try.underlying9 hi hz0 hz1 hz2 _ _ _ rfl HW2.out.own ⟨(txL t.data.toList).toArray⟩ rfl ?c3 ?c4 ?c5 ?_)
  case c3 => have := mk_size (txL t.data.toList); unfold maxLen; omega
  case c4 => have := mk_size (txL t.data.toList); omega
  case c5 => omega
  intro v' w3 hown' hgrow _
  obtain ⟨k1, k2, k3, k4, ka, kn, kc, rfl⟩ := wr_end HW2.out HK2.out hown' hgrow
  have HKK := Lib.hid k1
  have HWW := Lib.hid k2
  clear hown' hgrow k1 k2 d0 d1 g0 g1 HW2 HK2
  go_wp2
  go_end0
  exact ⟨rfl, HKK.out, _, by have := HWW.out; simpa using this⟩
set_option maxRecDepth 100000 in
set_option maxHeartbeats 4000000 in
theorem wtxt_big_true (b : Nat) (w : World) (s : Value) (l : List UInt8) (t : ByteArray) (ht : (256 : Int) < (t.size : Int)) (h0 : WrAt b w s l true) :
    Calls Try.prog 62 #[.pointer (some ⟨b, 0, none⟩), .string t] w fun e w' => e = .returned (.tuple #[]) ∧ KB b b w w' ∧ ∃ v, WrAt b w' v l true := by
  have HF := wr_bad h0 true
  have HW2 := Lib.hid HF.1
  have HK2 := Lib.hid HF.2
  obtain ⟨c0, c1, f0, f1⟩ := h0.facts
  have hlt := h0.lt
  clear HF h0
  go_enter Try.func62, Try.ntmps62
  go_wp2_with fail
  refine bodyPost_ret (results_none rfl _ _ _) rfl ?_
  exact ⟨rfl, HK2.out, _, HW2.out⟩
set_option maxRecDepth 100000 in
set_option maxHeartbeats 4000000 in
theorem wtxt_false (b : Nat) (w : World) (s : Value) (l : List UInt8) (t : ByteArray) (ht : t.size ≤ 256) (h0 : WrAt b w s l false) (hK : l.length ≤ 1000000000) :
    Calls Try.prog 62 #[.pointer (some ⟨b, 0, none⟩), .string t] w fun e w' => e = .returned (.tuple #[]) ∧ KB b b w w' ∧ ∃ v, WrAt b w' v (l ++ txL t.data.toList) false := by
  obtain ⟨i0, hi, hz0, hz1, hz2⟩ := info_parts Try.infoU8k
  have hti : ¬ (256 : Int) < (t.size : Int) := by omega
  have hsz : (txL t.data.toList).length ≤ 300 := by
    show (vL t.data.toList.length ++ t.data.toList).length ≤ 300
    rw [List.length_append, size_list]
    have := vL_len9 (n := t.size) (by omega)
    omega
  go_enter Try.func62, Try.ntmps62
  go_wp2_with fail
  refine (text_ref t w (by omega)).mono ?_
  rintro e w2 ⟨rfl, hb⟩
  have HW2 := Lib.hid (h0.old hb)
  have HK2 : Hid (KB b b w w2) := Lib.hid (KB.of hb (Nat.le_of_lt h0.lt))
  obtain ⟨d0, d1, g0, g1⟩ := HW2.out.facts
  have hlt2 := HW2.out.lt
  obtain ⟨sa, sn, sc, rfl⟩ := h0.form
  clear h0 hb
  go_wp2_with (at_builtin; refine Lib.wpList_append_own_string _ rfl _ _ 46 9 rfl (b + 1) 5 i0 Try.underlying46 Try.underlying9 hi hz0 hz1 hz2 _ _ _ rfl HW2.out.own ⟨(txL t.data.toList).toArray⟩ rfl ?c3 ?c4 ?c5 ?_)
  case c3 => have := mk_size (txL t.data.toList); unfold maxLen; omega
  case c4 => have := mk_size (txL t.data.toList); omega
  case c5 => omega
  intro v' w3 hown' hgrow _
  obtain ⟨k1, k2, k3, k4, ka, kn, kc, rfl⟩ := wr_end HW2.out HK2.out hown' hgrow
  have HKK := Lib.hid k1
  have HWW := Lib.hid k2
  clear hown' hgrow k1 k2 d0 d1 g0 g1 HW2 HK2
  go_wp2
  go_end0
  exact ⟨rfl, HKK.out, _, by have := HWW.out; simpa using this⟩
set_option maxRecDepth 100000 in
set_option maxHeartbeats 4000000 in
theorem wtxt_big_false (b : Nat) (w : World) (s : Value) (l : List UInt8) (t : ByteArray) (ht : (256 : Int) < (t.size : Int)) (h0 : WrAt b w s l false) :
    Calls Try.prog 62 #[.pointer (some ⟨b, 0, none⟩), .string t] w fun e w' => e = .returned (.tuple #[]) ∧ KB b b w w' ∧ ∃ v, WrAt b w' v l true := by
  have HF := wr_bad h0 true
  have HW2 := Lib.hid HF.1
  have HK2 := Lib.hid HF.2
  obtain ⟨c0, c1, f0, f1⟩ := h0.facts
  have hlt := h0.lt
  clear HF h0
  go_enter Try.func62, Try.ntmps62
  go_wp2_with fail
  refine bodyPost_ret (results_none rfl _ _ _) rfl ?_
  exact ⟨rfl, HK2.out, _, HW2.out⟩
theorem wtxt (b : Nat) (w : World) (o : List UInt8) (bad : Bool) (K : Nat) (t : ByteArray) (h : Wr b w o bad K) (hK : K ≤ 1000000000) :
    Calls Try.prog 62 #[.pointer (some ⟨b, 0, none⟩), .string t] w fun e w' => e = .returned (.tuple #[]) ∧ KB b b w w' ∧ Wr b w' (o ++ txF (.t t)) (bad || !okF (.t t)) (K + 300) := by
  obtain ⟨s, l, h1, h2, h3⟩ := h
  by_cases ht : t.size ≤ 256
  · have hq : okF (.t t) = true := decide_eq_true ht
    have hsz : (txL t.data.toList).length ≤ 300 := by
      show (vL t.data.toList.length ++ t.data.toList).length ≤ 300
      rw [List.length_append, size_list]
      have := vL_len9 (n := t.size) (by omega)
      omega
    cases bad with
    | true =>
      refine (wtxt_true b w s l t ht h1 (by omega)).mono ?_
      rintro e w' ⟨he, hk, v, hw⟩
      exact ⟨he, hk, v, _, hw, fun c => by simp at c, by rw [List.length_append]; omega⟩
    | false =>
      refine (wtxt_false b w s l t ht h1 (by omega)).mono ?_
      rintro e w' ⟨he, hk, v, hw⟩
      exact ⟨he, hk, v, _, by rw [hq]; exact hw, fun _ => by rw [h2 rfl]; rfl, by rw [List.length_append]; omega⟩
  · have hq : okF (.t t) = false := decide_eq_false ht
    cases bad with
    | true =>
      refine (wtxt_big_true b w s l t (by omega) h1).mono ?_
      rintro e w' ⟨he, hk, v, hw⟩
      exact ⟨he, hk, v, _, hw, fun c => by simp at c, by omega⟩
    | false =>
      refine (wtxt_big_false b w s l t (by omega) h1).mono ?_
      rintro e w' ⟨he, hk, v, hw⟩
      exact ⟨he, hk, v, _, by rw [hq]; exact hw, fun c => by rw [hq] at c; simp at c, by omega⟩
/-! ### count -/
set_option maxRecDepth 100000 in
set_option maxHeartbeats 4000000 in
theorem wcount (b : Nat) (w : World) (o : List UInt8) (bad : Bool) (K : Nat) (n most : Nat) (h : Wr b w o bad K) (hK : K ≤ 1000000000) (hn : n ≤ 9223372036854775807) (hm : most ≤ 512) :
    Calls Try.prog 63 #[.pointer (some ⟨b, 0, none⟩), .int .i64 (n : Int), .int .i64 (most : Int)] w fun e w' => e = .returned (.tuple #[]) ∧ KB b b w w' ∧ Wr b w' (o ++ vL n) (bad || !decide (n ≤ most)) (K + 300) := by
  obtain ⟨s, l, h1, h2, h3⟩ := h
  obtain ⟨q, hq⟩ : ∃ q, q = (bad || !decide (n ≤ most)) := ⟨_, rfl⟩
  obtain ⟨c0, c1, f0, f1⟩ := h1.facts
  have hlt := h1.lt
  have HF := wr_bad h1 q
  obtain ⟨x, hx⟩ : ∃ x : Int, x = min (n : Int) (most : Int) := ⟨_, rfl⟩
  have hmin : min (n : Int) (most : Int) = x := hx.symm
  have HN : Hid (Calls Try.prog 42 #[.pointer (some ⟨b, 0, none⟩), .int .i64 x] (w.setCell ⟨b, 1, none⟩ (.bool q)) fun e w' => e = .returned (.tuple #[]) ∧ KB b b w w' ∧ Wr b w' (o ++ vL n) q (K + 300)) := Lib.hid (by
    refine (wnum b _ o q K x ⟨s, l, HF.1, fun c => h2 (by rw [hq] at c; cases bad with | false => rfl | true => simp at c), h3⟩ hK).mono ?_
    rintro e w' ⟨he, hk, hw⟩
    have h0 : okN x = true := by unfold okN maxN; rw [decide_eq_true]; omega
    refine ⟨he, HF.2.trans hk, hw.to (by rw [h0]; simp) (fun c => ?_) (Nat.le_refl _)⟩
    rw [hq] at c
    have hle : n ≤ most := by cases bad with | true => simp at c | false => simpa using c
    rw [show x = (n : Int) by omega]
    rfl)
  rw [← hq]
  clear h2 h3 HF hx
  cases bad with
  | true =>
    have hqt : q = true := hq
    clear hq
    subst hqt
    go_enter Try.func63, Try.ntmps63
    go_wp2_with fail
    refine HN.out.mono ?_
    rintro e w1 ⟨rfl, hk, hw⟩
    have HK := Lib.hid (And.intro hk hw)
    clear hk hw HN
    go_wp2_with fail
    go_end0
    exact ⟨rfl, HK.out.1, HK.out.2⟩
  | false =>
    by_cases hc : (most : Int) < (n : Int)
    · have hqt : q = true := by rw [hq, decide_eq_false (by omega)]; rfl
      clear hq
      subst hqt
      go_enter Try.func63, Try.ntmps63
      go_wp2_with fail
      refine HN.out.mono ?_
      rintro e w1 ⟨rfl, hk, hw⟩
      have HK := Lib.hid (And.intro hk hw)
      clear hk hw HN
      go_wp2_with fail
      go_end0
      exact ⟨rfl, HK.out.1, HK.out.2⟩
    · have hqt : q = false := by rw [hq, decide_eq_true (by omega)]; rfl
      clear hq
      subst hqt
      go_enter Try.func63, Try.ntmps63
      go_wp2_with fail
      refine HN.out.mono ?_
      rintro e w1 ⟨rfl, hk, hw⟩
      have HK := Lib.hid (And.intro hk hw)
      clear hk hw HN
      go_wp2_with fail
      go_end0
      exact ⟨rfl, HK.out.1, HK.out.2⟩
end Go.Proofs.Ytdnhmkfgcpdbkaa
