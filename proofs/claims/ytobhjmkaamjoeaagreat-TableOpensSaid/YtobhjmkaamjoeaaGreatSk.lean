/-
  Layer 4 (span): the contracts of Key, ahead, Check, Has, and of the document's own. Conditions: texts within the form's reach.
-/
import Derived.Test.YtobhjmkaamjoeaaGreatSm
import Derived.Test.YtobhjmkaamjoeaaGreatRows
import Derived.Test.YtobhjmkaamjoeaaGreatRg
import Derived.Outline
import Derived.WalkSmall
import Derived.Lib.Hide
import Derived.Laws.Cover1
namespace Go.Proofs.YtobhjmkaamjoeaaGreat
open Go.RowKit

theorem ret_bool {a b : Bool} (h : a = b) : Ending.returned (.bool a) = .returned (.bool b) := by rw [h]
theorem cast_le (n k : Nat) : decide ((n : Int) ≤ (k : Int)) = decide (n ≤ k) := by simp
/-- A text within reach. -/
def okS (s : ByteArray) : Prop := s.size ≤ 9223372036854775807
theorem okS_key {s : ByteArray} (h : s.size ≤ 64) : okS s := Nat.le_trans h (by decide)

theorem ahead_any (s e : ByteArray) (w : World) :
    Calls Tryz.prog 101 #[.string s, .string e] w fun x w' => x = .returned (.bool (aheadB s e)) ∧ w = w' := by
  cases h : emB e with
  | true =>
    have h1 := List.isEmpty_iff.1 h
    have H := Lib.hid h
    clear h
    go_enter Tryz.func101, Tryz.ntmps101
    go_wp2
    go_ret
    refine ⟨ret_bool ?_, rfl⟩
    unfold aheadB
    rw [H.out]
    rfl
  | false =>
    have h1 : ¬ e.toList = [] := fun k => by rw [emB, k] at h; cases h
    have H := Lib.hid h
    clear h
    go_enter Tryz.func101, Tryz.ntmps101
    go_wp2
    go_ret
    exact ⟨rfl, rfl⟩
theorem key_eq (s : ByteArray) (b : Bool) (h : keyB s = b) (hs : okS s) (w : World) :
    Calls Tryz.prog 100 #[.string s] w fun x w' => x = .returned (.bool b) ∧ w = w' := by
  unfold okS at hs
  have H := Lib.hid h
  clear h
  by_cases h1 : 0 < s.size
  · by_cases h2 : s.size ≤ 64
    · have h3 : (s.size : Int) ≤ 64 := by omega
      go_enter Tryz.func100, Tryz.ntmps100
      go_wp2
      go_ret
      exact ⟨ret_bool (by rw [← H.out]; unfold keyB; simp [h1, h2]), rfl⟩
    · have h3 : (64 : Int) < (s.size : Int) := by omega
      go_enter Tryz.func100, Tryz.ntmps100
      go_wp2
      go_ret
      exact ⟨ret_bool (by rw [← H.out]; unfold keyB; simp [h2]; omega), rfl⟩
  · go_enter Tryz.func100, Tryz.ntmps100
    go_wp2
    go_ret
    exact ⟨ret_bool (by rw [← H.out]; unfold keyB; simp [h1]), rfl⟩
theorem rkey_eq (s : ByteArray) (b : Bool) (h : keyB s = b) (hs : okS s) (w : World) :
    Calls Tryz.prog 92 #[.string s] w fun x w' => x = .returned (.bool b) ∧ w = w' := by
  unfold okS at hs
  have H := Lib.hid h
  clear h
  by_cases h1 : 0 < s.size
  · have h4 : (1 : Int) ≤ (s.size : Int) := by omega
    by_cases h2 : s.size ≤ 64
    · have h3 : (s.size : Int) ≤ 64 := by omega
      go_enter Tryz.func92, Tryz.ntmps92
      go_wp2
      go_ret
      exact ⟨ret_bool (by rw [← H.out]; unfold keyB; simp [h1, h2]), rfl⟩
    · have h3 : (64 : Int) < (s.size : Int) := by omega
      go_enter Tryz.func92, Tryz.ntmps92
      go_wp2
      go_ret
      exact ⟨ret_bool (by rw [← H.out]; unfold keyB; simp [h2]; omega), rfl⟩
  · have h4 : (s.size : Int) < 1 := by omega
    go_enter Tryz.func92, Tryz.ntmps92
    go_wp2
    go_ret
    exact ⟨ret_bool (by rw [← H.out]; unfold keyB; simp [h1]), rfl⟩

/-- The number that Check answers. -/
def chkN (b : Bool) : Int := if b = true then 0 else 1
theorem chk_any (lo hi : ByteArray) (b : Bool) (h : mayB lo hi = b) (h1 : okS lo) (h2 : okS hi) (w : World) :
    Calls Tryz.prog 99 #[.agg #[.string lo, .string hi]] w fun x w' => x = .returned (.int .i64 (chkN b)) ∧ Below w.heap.size w w' := by
  unfold okS at h1 h2
  by_cases c1 : lo.size ≤ 64
  · have c1' : (lo.size : Int) ≤ 64 := by omega
    by_cases c2 : hi.size ≤ 64
    · have c2' : (hi.size : Int) ≤ 64 := by omega
      have e : b = aheadB lo hi := by rw [← h]; unfold mayB; simp [c1, c2]
      have ha := fun w => ahead_any lo hi w
      rw [← e] at ha
      have HA := Lib.hid ha
      clear ha e h
      cases b
      all_goals
        go_enter Tryz.func99, Tryz.ntmps99
        go_wp2_with fail
        refine (HA.out _).mono ?_
        rintro e w' ⟨rfl, rfl⟩
        go_wp2
        go_ret
        exact ⟨rfl, (Below.refl _ _).alloc (Nat.le_refl _) _⟩
    · have c2' : (64 : Int) < (hi.size : Int) := by omega
      obtain rfl : b = false := by rw [← h]; unfold mayB; simp [c2]
      clear h
      go_enter Tryz.func99, Tryz.ntmps99
      go_wp2
      go_ret
      exact ⟨rfl, (Below.refl _ _).alloc (Nat.le_refl _) _⟩
  · have c1' : (64 : Int) < (lo.size : Int) := by omega
    obtain rfl : b = false := by rw [← h]; unfold mayB; simp [c1]
    clear h
    go_enter Tryz.func99, Tryz.ntmps99
    go_wp2
    go_ret
    exact ⟨rfl, (Below.refl _ _).alloc (Nat.le_refl _) _⟩
/-- One call behind a new block. -/
theorem below_box {w w' : World} {o : Obj} (h : Below (w.alloc o).heap.size (w.alloc o) w') : Below w.heap.size w w' :=
  ((Below.refl _ _).alloc (Nat.le_refl _) _).trans (h.mono (by simp))
/-- A range's box behind a call. -/
theorem box_cells {w w1 : World} {lo hi : ByteArray} {t : TypeId} (hb : Below (w.alloc (.cells #[.string lo, .string hi] t)).heap.size (w.alloc (.cells #[.string lo, .string hi] t)) w1) :
    w1.cell? ⟨w.heap.size, 0, none⟩ = some (.string lo) ∧ w1.cell? ⟨w.heap.size, 1, none⟩ = some (.string hi) := by
  constructor
  · exact (hb.cell (p := ⟨w.heap.size, 0, none⟩) (by simp)).trans (by simp)
  · exact (hb.cell (p := ⟨w.heap.size, 1, none⟩) (by simp)).trans (by simp)
theorem has_any (lo hi k : ByteArray) (b : Bool) (h : hasB lo hi k = b) (h1 : okS lo) (h2 : okS hi) (h3 : okS k) (w : World) :
    Calls Tryz.prog 75 #[.agg #[.string lo, .string hi], .string k] w fun x w' => x = .returned (.bool b) ∧ Below w.heap.size w w' := by
  cases c1 : mayB lo hi with
  | false =>
    obtain rfl : b = false := by rw [← h]; unfold hasB; rw [c1]; rfl
    have HC := Lib.hid fun w => chk_any lo hi _ c1 h1 h2 w
    clear c1 h h1 h2
    go_enter Tryz.func75, Tryz.ntmps75
    go_wp2_with fail
    refine (HC.out _).mono ?_
    rintro e w1 ⟨rfl, b1⟩
    rw [show chkN false = 1 from rfl]
    go_wp2
    go_ret
    exact ⟨rfl, below_box b1⟩
  | true =>
    have HC := Lib.hid fun w => chk_any lo hi _ c1 h1 h2 w
    cases c2 : keyB k with
    | false =>
      obtain rfl : b = false := by rw [← h]; unfold hasB; rw [c1, c2]; rfl
      have HK := Lib.hid fun w => key_eq k _ c2 h3 w
      clear c1 c2 h h1 h2
      go_enter Tryz.func75, Tryz.ntmps75
      go_wp2_with fail
      refine (HC.out _).mono ?_
      rintro e w1 ⟨rfl, b1⟩
      rw [show chkN true = 0 from rfl]
      go_wp2_with fail
      refine (HK.out _).mono ?_
      rintro e w2 ⟨rfl, rfl⟩
      go_wp2
      go_ret
      exact ⟨rfl, below_box b1⟩
    | true =>
      have HK := Lib.hid fun w => key_eq k _ c2 h3 w
      cases c3 : ltB k lo with
      | true =>
        obtain rfl : b = false := by rw [← h]; unfold hasB; rw [c1, c2, c3]; rfl
        have c3' : Op.bytesLess k.toList lo.toList = true := c3
        clear c1 c2 c3 h h1 h2
        go_enter Tryz.func75, Tryz.ntmps75
        go_wp2_with fail
        refine (HC.out _).mono ?_
        rintro e w1 ⟨rfl, b1⟩
        rw [show chkN true = 0 from rfl]
        obtain ⟨x0, x1⟩ := box_cells b1
        go_wp2_with fail
        refine (HK.out _).mono ?_
        rintro e w2 ⟨rfl, rfl⟩
        go_wp2
        go_ret
        exact ⟨rfl, below_box b1⟩
      | false =>
        obtain rfl : b = aheadB k hi := by rw [← h]; unfold hasB; rw [c1, c2, c3]; rfl
        have HA := Lib.hid fun w => ahead_any k hi w
        have c3' : Op.bytesLess k.toList lo.toList = false := c3
        clear c1 c2 c3 h h1 h2
        go_enter Tryz.func75, Tryz.ntmps75
        go_wp2_with fail
        refine (HC.out _).mono ?_
        rintro e w1 ⟨rfl, b1⟩
        rw [show chkN true = 0 from rfl]
        obtain ⟨x0, x1⟩ := box_cells b1
        go_wp2_with fail
        refine (HK.out _).mono ?_
        rintro e w2 ⟨rfl, rfl⟩
        go_wp2_with fail
        refine (HA.out _).mono ?_
        rintro e w2 ⟨rfl, rfl⟩
        go_wp2
        go_ret
        exact ⟨rfl, below_box b1⟩
end Go.Proofs.YtobhjmkaamjoeaaGreat
