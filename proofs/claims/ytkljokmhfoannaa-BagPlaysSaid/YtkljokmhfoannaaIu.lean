/-
  Layer 15 (bag): the document's bag in memory; contracts of its New, place, Waits, find, with. Conditions: lists of at most 1000 letters.
-/
import Derived.Test.YtkljokmhfoannaaIo
namespace Go.Proofs.Ytkljokmhfoannaa
open Go.RowKit Go.Maps
set_option linter.unusedVariables false
set_option linter.unusedSimpArgs false

def LtAt (w : World) (g off : Nat) (L : List Lt) : Prop := ∀ k (h : k < L.length), w.cell? ⟨g, off + k * 3, none⟩ = some (.int .i64 L[k].fr) ∧ w.cell? ⟨g, off + k * 3 + 1, none⟩ = some (.int .i64 L[k].to) ∧ w.cell? ⟨g, off + k * 3 + 2, none⟩ = some (.string L[k].tx)
def RdL (w : World) (a : Option Addr) (L : List Lt) : Prop := L = [] ∨ ∃ g, a = some ⟨g, 0, none⟩ ∧ g < w.heap.size ∧ LtAt w g 0 L
theorem RdL.kp {w w' : World} {a : Option Addr} {L : List Lt} (h : RdL w a L) (hb : ∀ g, a = some ⟨g, 0, none⟩ → w'.heap[g]? = w.heap[g]?) (hs : w.heap.size ≤ w'.heap.size) : RdL w' a L := by
  rcases h with rfl | ⟨g, rfl, hlt, hc⟩
  · exact .inl rfl
  · refine .inr ⟨g, rfl, Nat.lt_of_lt_of_le hlt hs, fun k hk => ?_⟩
    have e : ∀ o, w'.cell? ⟨g, o, none⟩ = w.cell? ⟨g, o, none⟩ := fun o => World.cell?_of_block (w := w) (a := ⟨g, o, none⟩) (hb g rfl)
    exact ⟨(e _).trans (hc k hk).1, (e _).trans (hc k hk).2.1, (e _).trans (hc k hk).2.2⟩
theorem RdL.old {w w' : World} {a : Option Addr} {L : List Lt} (h : RdL w a L) (hb : Below w.heap.size w w') : RdL w' a L := by
  rcases h with rfl | ⟨g, rfl, hlt, hc⟩
  · exact .inl rfl
  · exact (RdL.kp (.inr ⟨g, rfl, hlt, hc⟩) (fun g' e => by cases e; exact hb.block g hlt) hb.size)
theorem RdL.at_ {w : World} {a : Option Addr} {L : List Lt} (h : RdL w a L) {k : Nat} (hk : k < L.length) : ∃ g, a = some ⟨g, 0, none⟩ ∧ g < w.heap.size ∧ LtAt w g 0 L := by
  rcases h with rfl | ⟨g, rfl, hlt, hc⟩
  · cases hk
  · exact ⟨g, rfl, hlt, hc⟩
theorem own_rdl {w : World} {base n cap : Nat} {a : Option Addr} {L : List Lt} (h : w.ownsRow base 39 3 (.slice a n cap) n (lcs L)) (hn : L.length = n) : RdL w a L ∧ n ≤ cap ∧ cap ≤ maxLen := by
  subst hn
  rcases h.2 with ⟨e, h0⟩ | ⟨g, cap', cur, hv, hbg, hh, h1, h2, h3, h4⟩
  · simp only [Value.slice.injEq] at e
    obtain ⟨rfl, -, rfl⟩ := e
    exact ⟨.inl (List.eq_nil_of_length_eq_zero h0), by omega, by unfold maxLen; omega⟩
  · cases hv
    refine ⟨.inr ⟨g, rfl, heap_lt15 hh, fun k hk => ?_⟩, h1, h2⟩
    have hl := lcs_get L k hk
    refine ⟨?_, ?_, ?_⟩
    · rw [Nat.zero_add]; exact (h.cellAt (k * 3) (by omega)).trans hl.1
    · rw [Nat.zero_add]; exact (h.cellAt (k * 3 + 1) (by omega)).trans hl.2.1
    · rw [Nat.zero_add]; exact (h.cellAt (k * 3 + 2) (by omega)).trans hl.2.2
/-- The cells of a list, one by one. -/
theorem LtAt.cells {w : World} {g : Nat} {L : List Lt} (h : LtAt w g 0 L) (j0 : Nat) : ∀ j u, (lcs (L.drop j0))[j]? = some u → w.cell? ((⟨g, j0 * 3, none⟩ : Addr).add j) = some u := by
  intro j u hj
  have hj2 : (lcs L)[j0 * 3 + j]? = some u := by rw [← lcs_drop, List.getElem?_drop] at hj; exact hj
  have hl := (List.getElem?_eq_some_iff.1 hj2).1
  rw [lcs_len] at hl
  have ha : (⟨g, j0 * 3, none⟩ : Addr).add j = ⟨g, j0 * 3 + j, none⟩ := by unfold Addr.add; split <;> simp_all
  rw [ha]
  obtain ⟨k, r, hr, hkr⟩ : ∃ k r, r < 3 ∧ j0 * 3 + j = k * 3 + r := ⟨(j0 * 3 + j) / 3, (j0 * 3 + j) % 3, Nat.mod_lt _ (by decide), by omega⟩
  rw [hkr] at hj2 ⊢
  have hk : k < L.length := by omega
  have hg := lcs_get L k hk
  have hc := h k hk
  rw [Nat.zero_add] at hc
  match r, hr with
  | 0, _ => rw [Nat.add_zero] at hj2 ⊢; rw [hg.1] at hj2; cases hj2; exact hc.1
  | 1, _ => rw [hg.2.1] at hj2; cases hj2; exact hc.2.1
  | 2, _ => rw [hg.2.2] at hj2; cases hj2; exact hc.2.2
/-- The document's bag in a block. -/
structure QBox (w : World) (x : Nat) (n c : Int) (s : Value) : Prop where
  c0 : w.cell? ⟨x, 0, none⟩ = some (.int .i64 n)
  c1 : w.cell? ⟨x, 1, none⟩ = some (.int .i64 c)
  c2 : w.cell? ⟨x, 2, none⟩ = some s
  lt : x < w.heap.size
  f0 : w.frozen? ⟨x, 0, none⟩ = false
  f1 : w.frozen? ⟨x, 1, none⟩ = false
  f2 : w.frozen? ⟨x, 2, none⟩ = false
theorem QBox.new (w : World) (n c : Int) (s : Value) : QBox (w.alloc (.cells #[.int .i64 n, .int .i64 c, s] 30)) w.heap.size n c s := ⟨by simp, by simp, by simp, by simp, by simp, by simp, by simp⟩
theorem QBox.kp {w w' : World} {x : Nat} {n c : Int} {s : Value} (h : QBox w x n c s) (hb : w'.heap[x]? = w.heap[x]?) (hs : w.heap.size ≤ w'.heap.size) : QBox w' x n c s := by
  have e : ∀ o, w'.cell? ⟨x, o, none⟩ = w.cell? ⟨x, o, none⟩ := fun o => World.cell?_of_block (w := w) (a := ⟨x, o, none⟩) hb
  have f : ∀ o, w'.frozen? ⟨x, o, none⟩ = w.frozen? ⟨x, o, none⟩ := fun o => World.frozen?_of_block (w := w) (a := ⟨x, o, none⟩) hb
  exact ⟨(e 0).trans h.c0, (e 1).trans h.c1, (e 2).trans h.c2, Nat.lt_of_lt_of_le h.lt hs, (f 0).trans h.f0, (f 1).trans h.f1, (f 2).trans h.f2⟩
theorem QBox.below {w w' : World} {x : Nat} {n c : Int} {s : Value} (h : QBox w x n c s) (hb : Below w.heap.size w w') : QBox w' x n c s := h.kp (hb.block x h.lt) hb.size
theorem QBox.store {w : World} {x : Nat} {n c n' c' : Int} {s s' : Value} (h : QBox w x n c s) : QBox (((w.setCell ⟨x, 0, none⟩ (.int .i64 n')).setCell ⟨x, 1, none⟩ (.int .i64 c')).setCell ⟨x, 2, none⟩ s') x n' c' s' := by
  obtain ⟨h0, h1, h2, hl, f0, f1, f2⟩ := h
  have o : ∀ {W : World} {i j : Nat} (u : Value), j ≠ i → (W.setCell ⟨x, i, none⟩ u).cell? ⟨x, j, none⟩ = W.cell? ⟨x, j, none⟩ := fun u hij => World.cell?_setCell_other _ _ _ _ (by simp [Ne.symm hij])
  refine ⟨?_, ?_, ?_, by simpa using hl, ?_, ?_, ?_⟩
  · rw [o _ (by decide), o _ (by decide)]; exact World.cell?_setCell_same _ _ _ h0
  · rw [o _ (by decide)]; exact World.cell?_setCell_same _ _ _ ((o _ (by decide)).trans h1)
  · exact World.cell?_setCell_same _ _ _ ((o _ (by decide)).trans ((o _ (by decide)).trans h2))
  · rw [World.frozen?_setCell, World.frozen?_setCell, World.frozen?_setCell]; exact f0
  · rw [World.frozen?_setCell, World.frozen?_setCell, World.frozen?_setCell]; exact f1
  · rw [World.frozen?_setCell, World.frozen?_setCell, World.frozen?_setCell]; exact f2
theorem QBox.set2 {w : World} {x : Nat} {n c : Int} {s : Value} (h : QBox w x n c s) (s' : Value) : QBox (w.setCell ⟨x, 2, none⟩ s') x n c s' := by
  obtain ⟨h0, h1, h2, hl, f0, f1, f2⟩ := h
  have o : ∀ {W : World} {i j : Nat} (u : Value), j ≠ i → (W.setCell ⟨x, i, none⟩ u).cell? ⟨x, j, none⟩ = W.cell? ⟨x, j, none⟩ := fun u hij => World.cell?_setCell_other _ _ _ _ (by simp [Ne.symm hij])
  exact ⟨(o _ (by decide)).trans h0, (o _ (by decide)).trans h1, World.cell?_setCell_same _ _ _ h2, by simpa using hl, by rw [World.frozen?_setCell]; exact f0, by rw [World.frozen?_setCell]; exact f1, by rw [World.frozen?_setCell]; exact f2⟩
theorem QBox.rng {w : World} {x : Nat} {n c : Int} {s : Value} (h : QBox w x n c s) : w.rangeAt x 0 [.int .i64 n, .int .i64 c, s] := fun j v hv => by
  match j, hv with
  | 0, hv => simp at hv; subst hv; simpa using h.c0
  | 1, hv => simp at hv; subst hv; simpa using h.c1
  | 2, hv => simp at hv; subst hv; simpa using h.c2
/-- A value is the document's bag. -/
def rv15 (n c : Int) (a : Option Addr) (len cap : Nat) : Value := .agg #[.int .i64 n, .int .i64 c, .slice a len cap]
def RefB (w : World) (a : Option Addr) (len cap : Nat) (L : List Lt) : Prop := L.length = len ∧ RdL w a L ∧ len ≤ cap ∧ cap ≤ maxLen
theorem RefB.old {w w' : World} {a : Option Addr} {len cap : Nat} {L : List Lt} (h : RefB w a len cap L) (hb : Below w.heap.size w w') : RefB w' a len cap L := ⟨h.1, h.2.1.old hb, h.2.2⟩
set_option maxRecDepth 100000 in
set_option maxHeartbeats 2000000 in
theorem rplace15_any (n c : Nat) (a : Option Addr) (len cap : Nat) (k : Int) (hk : (Lit.int .i64 k).wf = true) (w : World) : Calls Try.prog 37 #[.agg #[.int .i64 (n : Int), .int .i64 (c : Int), .slice a len cap], .int .i64 k] w fun e w' => e = .returned (.bool (place n c k)) ∧ Below w.heap.size w w' := by
  obtain ⟨r, hr⟩ : ∃ r, r = place n c k := ⟨_, rfl⟩
  rw [← hr]
  have HB := Lib.hid (bal (Below.refl _ w) (.cells #[.int .i64 (n : Int), .int .i64 (c : Int), .slice a len cap] 30))
  have hkr : -9223372036854775808 ≤ k ∧ k ≤ 9223372036854775807 := by
    have h1 : IntKind.i64.min = -9223372036854775808 := rfl
    have h2 : IntKind.i64.max = 9223372036854775807 := rfl
    simp [Lit.wf] at hk
    omega
  have hno : ∀ {P : Prop}, (place n c k = true ↔ P) → (r = true ↔ P) := fun h => by rw [hr]; exact h
  have hp := hno place_iff
  clear hno hr
  by_cases h1 : k = -1
  · subst h1
    obtain rfl : r = true := hp.2 (.inl rfl)
    clear hp
    go_enter Try.func37, Try.ntmps37
    go_wp2_with fail
    go_ret
    exact ⟨rfl, HB.out⟩
  · have h1b : (k == -1) = false := beq_eq_false_iff_ne.2 h1
    by_cases h2 : 0 ≤ k
    · by_cases h3 : k < (n : Int)
      · obtain rfl : r = true := hp.2 (.inr (.inl ⟨h2, h3⟩))
        clear hp
        go_enter Try.func37, Try.ntmps37
        go_wp2_with fail
        go_ret
        exact ⟨rfl, HB.out⟩
      · by_cases h4 : 100 ≤ k
        · have hw : IntKind.i64.wrap (k - 100) = k - 100 := IntWalk.i64_in _ (by omega)
          by_cases h5 : k - 100 < (c : Int)
          · obtain rfl : r = true := hp.2 (.inr (.inr ⟨h4, h5⟩))
            clear hp
            go_enter Try.func37, Try.ntmps37
            go_wp2_with fail
            go_ret
            exact ⟨rfl, HB.out⟩
          · obtain rfl : r = false := by
              cases r with
              | false => rfl
              | true => have := hp.1 rfl; omega
            clear hp
            go_enter Try.func37, Try.ntmps37
            go_wp2_with fail
            go_ret
            exact ⟨rfl, HB.out⟩
        · obtain rfl : r = false := by
            cases r with
            | false => rfl
            | true => have := hp.1 rfl; omega
          clear hp
          go_enter Try.func37, Try.ntmps37
          go_wp2_with fail
          go_ret
          exact ⟨rfl, HB.out⟩
    · obtain rfl : r = false := by
        cases r with
        | false => rfl
        | true => have := hp.1 rfl; omega
      have h4 : ¬ 100 ≤ k := by omega
      clear hp
      go_enter Try.func37, Try.ntmps37
      go_wp2_with fail
      go_ret
      exact ⟨rfl, HB.out⟩
set_option maxRecDepth 100000 in
set_option maxHeartbeats 2000000 in
theorem rwaits15_any (n c : Nat) (a : Option Addr) (len cap : Nat) (L : List Lt) (k : Int) (w : World) (h : RefB w a len cap L) (hl : len ≤ 1000) : Calls Try.prog 23 #[.agg #[.int .i64 (n : Int), .int .i64 (c : Int), .slice a len cap], .int .i64 k] w fun e w' => e = .returned (.int .i64 (((L.filter (atP k)).length : Nat) : Int)) ∧ Below w.heap.size w w' := by
  have hb1 := bal (Below.refl _ w) (.cells #[.int .i64 (n : Int), .int .i64 (c : Int), .slice a len cap] 30)
  have hq := QBox.new w n c (.slice a len cap)
  have hR := h.old hb1
  obtain ⟨w1, hw1⟩ : ∃ w1, w1 = w.alloc (.cells #[.int .i64 (n : Int), .int .i64 (c : Int), .slice a len cap] 30) := ⟨_, rfl⟩
  obtain ⟨x, hx⟩ : ∃ x, x = w.heap.size := ⟨_, rfl⟩
  have HW1 := Lib.hid hw1
  rw [← hw1] at hb1 hq hR
  have HX := Lib.hid hx
  rw [← hx] at hq
  have HB := Lib.hid hb1
  have HR := Lib.hid hR
  have HQ := Lib.hid hq
  clear hw1 hx hb1 hq hR h
  go_enter Try.func23, Try.ntmps23
  go_upto_region 3 with fail
  rw [← HW1.out, ← HX.out]
  go_loopw [6, 5] (fun i m wr => ∃ k2 : Nat, i = .int .i64 k2 ∧ k2 ≤ len ∧ m = .int .i64 ((((L.take k2).filter (atP k)).length : Nat) : Int) ∧ Hid (Below w1.heap.size w1 wr)) (fun i _ _ => len - (intOf i).toNat)
  case atStart => exact ⟨0, rfl, by omega, by simp, Lib.hid (Below.refl _ _)⟩
  case round =>
    obtain ⟨k2, rfl, hk2, rfl, HW⟩ := hrel
    obtain ⟨q0, q1, q2, ql, -, -, -⟩ := HQ.out.below HW.out
    by_cases hlt : k2 < len
    · have hki : (k2 : Int) < (len : Int) := by omega
      have hkl : k2 < L.length := by rw [HR.out.1]; exact hlt
      obtain ⟨g, rfl, hgl, hat⟩ := (HR.out.2.1.old HW.out).at_ hkl
      have hc := (hat k2 hkl).2.1
      rw [Nat.zero_add] at hc
      have hs : L.take (k2 + 1) = L.take k2 ++ [L[k2]] := List.take_succ_eq_append_getElem hkl
      have hle : ((L.take k2).filter (atP k)).length ≤ 1000 := by
        have := List.length_filter_le (atP k) (L.take k2)
        rw [List.length_take] at this
        omega
      obtain ⟨m, hm⟩ : ∃ m, m = ((L.take k2).filter (atP k)).length := ⟨_, rfl⟩
      rw [← hm] at hle ⊢
      obtain ⟨tt, htt⟩ : ∃ tt, tt = L[k2].to := ⟨_, rfl⟩
      have hnx : ((L.take (k2 + 1)).filter (atP k)).length = m + if tt = k then 1 else 0 := by
        rw [hs, List.filter_append, List.length_append, ← hm, htt]
        congr 1
        unfold atP
        by_cases e : L[k2].to = k
        · simp [e]
        · simp [e]
      rw [← htt] at hc
      have HNX := Lib.hid hnx
      clear hs hm htt hat hnx
      by_cases e : tt = k
      · subst e
        go_wp2_with fail
        go_roundw
        case rel =>
          refine ⟨k2 + 1, by go_num, by omega, ?_, HW⟩
          rw [HNX.out, if_pos rfl]
          simp
        case measure => simp [intOf]; omega
      · have eb : (tt == k) = false := beq_eq_false_iff_ne.2 e
        go_wp2_with fail
        go_roundw
        case rel =>
          refine ⟨k2 + 1, by go_num, by omega, ?_, HW⟩
          rw [HNX.out, if_neg e]
          rfl
        case measure => simp [intOf]; omega
    · obtain rfl : k2 = len := by omega
      have hfin : L.take k2 = L := List.take_of_length_le (by rw [HR.out.1]; omega)
      rw [hfin]
      clear hfin
      go_wp2_with fail
      go_ret
      exact ⟨rfl, HB.out.trans (HW.out.mono HB.out.size)⟩
end Go.Proofs.Ytkljokmhfoannaa
