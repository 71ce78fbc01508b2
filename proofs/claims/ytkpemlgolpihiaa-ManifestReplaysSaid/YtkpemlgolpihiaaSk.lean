/-
  Layer 4 (span): the contracts of Key, ahead, Check, Has, and of the document's own. Conditions: texts within the form's reach.
-/
import Derived.Test.YtkpemlgolpihiaaSm
import Derived.Test.YtkpemlgolpihiaaRows
import Derived.Test.YtkpemlgolpihiaaRg
import Derived.Outline
import Derived.WalkSmall
import Derived.Lib.Hide
import Derived.Laws.Cover1
namespace Go.Proofs.Ytkpemlgolpihiaa
open Go.RowKit

theorem ret_bool {a b : Bool} (h : a = b) : Ending.returned (.bool a) = .returned (.bool b) := by rw [h]
theorem cast_le (n k : Nat) : decide ((n : Int) ≤ (k : Int)) = decide (n ≤ k) := by simp
/-- A text within reach. -/
def okS (s : ByteArray) : Prop := s.size ≤ 9223372036854775807
theorem okS_key {s : ByteArray} (h : s.size ≤ 64) : okS s := Nat.le_trans h (by decide)

theorem key_eq (s : ByteArray) (b : Bool) (h : keyB s = b) (hs : okS s) (w : World) :
    Calls Try.prog 64 #[.string s] w fun x w' => x = .returned (.bool b) ∧ w = w' := by
  unfold okS at hs
  have H := Lib.hid h
  clear h
  by_cases h1 : 0 < s.size
  · by_cases h2 : s.size ≤ 64
    · have h3 : (s.size : Int) ≤ 64 := by omega
      go_enter Try.func64, Try.ntmps64
      go_wp2
      go_ret
      exact ⟨ret_bool (by rw [← H.out]; unfold keyB; simp [h1, h2]), rfl⟩
    · have h3 : (64 : Int) < (s.size : Int) := by omega
      go_enter Try.func64, Try.ntmps64
      go_wp2
      go_ret
      exact ⟨ret_bool (by rw [← H.out]; unfold keyB; simp [h2]; omega), rfl⟩
  · go_enter Try.func64, Try.ntmps64
    go_wp2
    go_ret
    exact ⟨ret_bool (by rw [← H.out]; unfold keyB; simp [h1]), rfl⟩
theorem rkey_eq (s : ByteArray) (b : Bool) (h : keyB s = b) (hs : okS s) (w : World) :
    Calls Try.prog 72 #[.string s] w fun x w' => x = .returned (.bool b) ∧ w = w' := by
  unfold okS at hs
  have H := Lib.hid h
  clear h
  by_cases h1 : 0 < s.size
  · have h4 : (1 : Int) ≤ (s.size : Int) := by omega
    by_cases h2 : s.size ≤ 64
    · have h3 : (s.size : Int) ≤ 64 := by omega
      go_enter Try.func72, Try.ntmps72
      go_wp2
      go_ret
      exact ⟨ret_bool (by rw [← H.out]; unfold keyB; simp [h1, h2]), rfl⟩
    · have h3 : (64 : Int) < (s.size : Int) := by omega
      go_enter Try.func72, Try.ntmps72
      go_wp2
      go_ret
      exact ⟨ret_bool (by rw [← H.out]; unfold keyB; simp [h2]; omega), rfl⟩
  · have h4 : (s.size : Int) < 1 := by omega
    go_enter Try.func72, Try.ntmps72
    go_wp2
    go_ret
    exact ⟨ret_bool (by rw [← H.out]; unfold keyB; simp [h1]), rfl⟩

/-- The number that Check answers. -/
def chkN (b : Bool) : Int := if b = true then 0 else 1
/-- One call behind a new block. -/
theorem below_box {w w' : World} {o : Obj} (h : Below (w.alloc o).heap.size (w.alloc o) w') : Below w.heap.size w w' :=
  ((Below.refl _ _).alloc (Nat.le_refl _) _).trans (h.mono (by simp))
/-- A range's box behind a call. -/
theorem box_cells {w w1 : World} {lo hi : ByteArray} {t : TypeId} (hb : Below (w.alloc (.cells #[.string lo, .string hi] t)).heap.size (w.alloc (.cells #[.string lo, .string hi] t)) w1) :
    w1.cell? ⟨w.heap.size, 0, none⟩ = some (.string lo) ∧ w1.cell? ⟨w.heap.size, 1, none⟩ = some (.string hi) := by
  constructor
  · exact (hb.cell (p := ⟨w.heap.size, 0, none⟩) (by simp)).trans (by simp)
  · exact (hb.cell (p := ⟨w.heap.size, 1, none⟩) (by simp)).trans (by simp)
end Go.Proofs.Ytkpemlgolpihiaa
