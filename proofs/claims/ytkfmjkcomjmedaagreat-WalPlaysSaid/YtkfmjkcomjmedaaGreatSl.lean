/-
  Slices of texts: the contract of the statements' own Same of layer 1 (sorrelref01). Conditions: none.
-/
import Derived.Test.YtkfmjkcomjmedaaGreatRows
import Derived.Test.YtkfmjkcomjmedaaGreatWl
import Derived.Test.YtkfmjkcomjmedaaGreatSv
import Derived.Outline
import Derived.WalkSmall
import Derived.LoopN
import Derived.WalkLawsBesides
import Derived.WalkSpells
import Derived.Lib.Strings
import Derived.BigQuiet
import Derived.Deep.QuietTactic
import Derived.Lib.Hide
namespace Go.Proofs.YtkfmjkcomjmedaaGreat
open Go.RowKit

/-! ### Same -/
theorem str_beq (a b : List UInt8) : ((⟨a.toArray⟩ : ByteArray).toList == (⟨b.toArray⟩ : ByteArray).toList) = (a == b) := by
  rw [Lib.toList_data, Lib.toList_data]
theorem eq_upto {ts us : List (List UInt8)} {n : Nat} (h1 : ts.length = n) (h2 : us.length = n) (h : ts.take n = us.take n) : ts = us := by
  rw [List.take_of_length_le (by omega), List.take_of_length_le (by omega)] at h
  exact h
theorem take_step {ts us : List (List UInt8)} {k : Nat} (h1 : k < ts.length) (h2 : k < us.length) (h : ts.take k = us.take k) (he : ts[k] = us[k]) : ts.take (k + 1) = us.take (k + 1) := by
  rw [List.take_succ_eq_append_getElem h1, List.take_succ_eq_append_getElem h2, h, he]
theorem ne_at {ts us : List (List UInt8)} {k : Nat} (h1 : k < ts.length) (h2 : k < us.length) (he : ts[k] ≠ us[k]) : ts ≠ us := by
  rintro rfl
  exact he rfl
set_option maxHeartbeats 1000000 in
theorem same_len (a b : Option Addr) (n m ca cb : Nat) (w : World) (h : n ≠ m) :
    Calls Tryz.prog 10 #[.slice a n ca, .slice b m cb] w fun e w' => e = .returned (.bool false) ∧ Below w.heap.size w w' := by
  have h' : (n : Int) ≠ (m : Int) := by omega
  go_enter Tryz.func10, Tryz.ntmps10
  go_wp2
  go_ret
  exact ⟨rfl, Below.refl _ _⟩
set_option maxHeartbeats 1000000 in
theorem same_none (a b : Option Addr) (ca cb : Nat) (w : World) :
    Calls Tryz.prog 10 #[.slice a 0 ca, .slice b 0 cb] w fun e w' => e = .returned (.bool true) ∧ Below w.heap.size w w' := by
  go_enter Tryz.func10, Tryz.ntmps10
  go_wp2
  refine wp_loop_rounds 1 ?_
  rw [rounds_succ]
  go_wp2
  go_ret
  exact ⟨rfl, Below.refl _ _⟩
set_option maxHeartbeats 1000000 in
theorem same_some (b1 o1 b2 o2 n ca cb : Nat) (ts us : List (List UInt8)) (w : World) (hn : n < 9223372036854775808) (h1 : ts.length = n) (h2 : us.length = n)
    (hc1 : ∀ i (h : i < ts.length), w.cell? ⟨b1, o1 + i, none⟩ = some (.string ⟨ts[i].toArray⟩)) (hc2 : ∀ i (h : i < us.length), w.cell? ⟨b2, o2 + i, none⟩ = some (.string ⟨us[i].toArray⟩)) :
    Calls Tryz.prog 10 #[.slice (some ⟨b1, o1, none⟩) n ca, .slice (some ⟨b2, o2, none⟩) n cb] w fun e w' => e = .returned (.bool (ts == us)) ∧ Below w.heap.size w w' := by
  have HC1 := Lib.hid hc1
  have HC2 := Lib.hid hc2
  have H1 := Lib.hid h1
  have H2 := Lib.hid h2
  clear hc1 hc2 h1 h2
  go_enter Tryz.func10, Tryz.ntmps10
  go_wp2
  go_loopw [5] (fun i wr => ∃ (k d : Nat), k ≤ n ∧ i = .int .i64 k ∧ Hid (ts.take k = us.take k) ∧ wr = w.drewN d) (fun i _ => n - (intOf i).toNat)
  case atStart => exact ⟨0, 0, by omega, rfl, Lib.hid (by simp), rfl⟩
  case round =>
    obtain ⟨k, d, hk, rfl, hT, rfl⟩ := hrel
    by_cases hlt : k < n
    · have hk1 : k < ts.length := by rw [H1.out]; exact hlt
      have hk2 : k < us.length := by rw [H2.out]; exact hlt
      have e1 := HC1.out k hk1
      have e2 := HC2.out k hk2
      obtain ⟨x, hx⟩ : ∃ x, x = ts[k] := ⟨_, rfl⟩
      obtain ⟨y, hy⟩ : ∃ y, y = us[k] := ⟨_, rfl⟩
      rw [← hx] at e1
      rw [← hy] at e2
      have HX := Lib.hid hx
      have HY := Lib.hid hy
      clear hx hy
      by_cases hxy : x = y
      · have hb1 : (x == y) = true := by simpa using hxy
        have HXY := Lib.hid hxy
        clear hxy
        go_wp2
        go_quiet (fail)
        go_wp2
        go_roundw
        case rel => exact ⟨k + 1, _, by omega, by go_num, Lib.hid (take_step hk1 hk2 hT.out (by rw [← HX.out, ← HY.out]; exact HXY.out)), rfl⟩
        case measure => simp [intOf]; omega
      · have hb1 : (x == y) = false := by simpa using hxy
        have HXY := Lib.hid (ne_at hk1 hk2 (by rw [← HX.out, ← HY.out]; exact hxy))
        clear hxy
        go_wp2
        go_quiet (fail)
        go_wp2
        go_ret
        have e : (ts == us) = false := by simpa using HXY.out
        rw [e]
        exact ⟨rfl, below_drewN (below_drewN (Below.refl _ _) _) _⟩
    · obtain rfl : k = n := by omega
      have HE := Lib.hid (eq_upto H1.out H2.out hT.out)
      go_wp2
      go_ret
      have e : (ts == us) = true := by simpa using HE.out
      rw [e]
      exact ⟨rfl, below_drewN (Below.refl _ _) _⟩
theorem same_any (a b : Option Addr) (ca cb : Nat) (ts us : List (List UInt8)) (w : World) (ha : Rd w a ts) (hb : Rd w b us) (hl : ts.length < 9223372036854775808) :
    Calls Tryz.prog 10 #[.slice a ts.length ca, .slice b us.length cb] w fun e w' => e = .returned (.bool (ts == us)) ∧ Below w.heap.size w w' := by
  by_cases h : ts.length = us.length
  · by_cases h0 : ts = []
    · subst h0
      have hu : us = [] := List.length_eq_zero_iff.1 h.symm
      subst hu
      exact same_none a b ca cb w
    · have hu : us ≠ [] := by
        rintro rfl
        exact h0 (List.length_eq_zero_iff.1 h)
      obtain ⟨b1, o1, rfl, _, hc1⟩ := ha.resolve_left h0
      obtain ⟨b2, o2, rfl, _, hc2⟩ := hb.resolve_left hu
      rw [← h]
      exact same_some b1 o1 b2 o2 ts.length ca cb ts us w hl rfl h.symm hc1 hc2
  · have e : (ts == us) = false := by
      rw [beq_eq_false_iff_ne]
      rintro rfl
      exact h rfl
    rw [e]
    exact same_len a b _ _ ca cb w h
theorem same_at (a b : Option Addr) (n m ca cb : Nat) (ts us : List (List UInt8)) (r : Bool) (w : World) (ha : Rd w a ts) (hb : Rd w b us) (hn : ts.length = n) (hm : us.length = m) (hl : n < 9223372036854775808) (hr : (ts == us) = r) :
    Calls Tryz.prog 10 #[.slice a n ca, .slice b m cb] w fun e w' => e = .returned (.bool r) ∧ Below w.heap.size w w' := by
  subst hn hm hr
  exact same_any a b ca cb ts us w ha hb hl
theorem lit_rd2 (w : World) (t : TypeId) (x y : ByteArray) : Rd (w.alloc (.cells #[.string x, .string y] t)) (some ⟨w.heap.size, 0, none⟩) [x.data.toList, y.data.toList] := by
  refine .inr ⟨w.heap.size, 0, rfl, by simp, fun i hi => ?_⟩
  have hi' : i < 2 := hi
  have e : i = 0 ∨ i = 1 := by omega
  rcases e with rfl | rfl <;> simp
end Go.Proofs.YtkfmjkcomjmedaaGreat
