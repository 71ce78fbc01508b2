/-
  Slices of texts: the contract of the statements' own Same of layer 1 (sorrelref01). Conditions: none.
-/
import Derived.Test.YtemaonfgledcmaaRows
import Derived.Test.YtemaonfgledcmaaWl
import Derived.Test.YtemaonfgledcmaaSv
import Derived.Outline
import Derived.WalkSmall
import Derived.LoopN
import Derived.WalkLawsBesides
import Derived.WalkSpells
import Derived.Lib.Strings
import Derived.BigQuiet
import Derived.Deep.QuietTactic
import Derived.Lib.Hide
namespace Go.Proofs.Ytemaonfgledcmaa
open Go.RowKit

/-! ### Same -/
theorem str_beq (a b : List UInt8) : ((⟨a.toArray⟩ : ByteArray).toList == (⟨b.toArray⟩ : ByteArray).toList) = (a == b) := by
  rw [Lib.toList_data, Lib.toList_data]
theorem eq_upto {ts us : List (List UInt8)} {n : Nat} (h1 : ts.length = n) (h2 : us.length = n) (h : ts.take n = us.take n) : ts = us := by
  rw [List.take_of_length_le (by omega), List.take_of_length_le (by omega)] at h
  exact h
theorem take_step {ts us : List (List UInt8)} {k : Nat} (h1 : k < ts.length) (h2 : k < us.length) (h : ts.take k = us.take k) (he : ts[k] = us[k]) : ts.take (k + 1) = us.take (k + 1) := by
  rw [List.take_succ_eq_append_getElem h1, List.take_succ_eq_append_getElem h2, h, he]
theorem ne_at {ts us : List (List UInt8)} {k : Nat} (h1 : k < ts.length) (h2 : k < us.length) (he : ts[k] ≠ us[k]) : ts ≠ us := by
  rintro rfl
  exact he rfl
theorem lit_rd2 (w : World) (t : TypeId) (x y : ByteArray) : Rd (w.alloc (.cells #[.string x, .string y] t)) (some ⟨w.heap.size, 0, none⟩) [x.data.toList, y.data.toList] := by
  refine .inr ⟨w.heap.size, 0, rfl, by simp, fun i hi => ?_⟩
  have hi' : i < 2 := hi
  have e : i = 0 ∨ i = 1 := by omega
  rcases e with rfl | rfl <;> simp
end Go.Proofs.Ytemaonfgledcmaa
