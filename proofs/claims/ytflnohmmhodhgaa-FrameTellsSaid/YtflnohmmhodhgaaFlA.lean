/-
  Layer 3 (frame): the walks of the laws' awake, FramePuts, FrameReads. Conditions: texts within the form's reach.
-/
import Derived.Test.YtflnohmmhodhgaaFa
namespace Go.Proofs.Ytflnohmmhodhgaa
open Go.RowKit

theorem fa_one : fa (frL [111, 110, 101] ++ frL [] ++ [120]) = ([[111, 110, 101], []], 13) := by decide +kernel
theorem all_at (T : ByteArray) (l : List UInt8) (r : List (List UInt8) × Nat) (w : World) (hT : T.data.toList = l) (hs : T.size ≤ 262144) (h : fa l = r) :
    Calls Try.prog 14 #[.string T] w fun e w' => ∃ a cap, e = .returned (.tuple #[.slice a r.1.length cap, .int .i64 (r.2 : Nat)]) ∧ Rd w' a r.1 ∧ Below w.heap.size w w' := by
  have h1 := all_code T w hs
  unfold FA at h1
  rw [hT, h] at h1
  exact h1
set_option maxRecDepth 100000 in
set_option maxHeartbeats 1000000 in
theorem awake_any (w : World) : Calls Try.prog 9 #[] w fun e w' => e = .returned (.bool true) ∧ Below w.heap.size w w' := by
  have h1 := fun w => fput_code ⟨#[111, 110, 101]⟩ w (by decide)
  have h2 := fun w => fput_code ⟨#[]⟩ w (by decide)
  have hX : (frL (⟨#[111, 110, 101]⟩ : ByteArray).data.toList).length = 8 := by decide +kernel
  have hY : (frL (⟨#[]⟩ : ByteArray).data.toList).length = 5 := by decide +kernel
  have hF := fa_one
  have eX : (⟨#[111, 110, 101]⟩ : ByteArray).data.toList = [111, 110, 101] := rfl
  have eY : (⟨#[]⟩ : ByteArray).data.toList = [] := rfl
  rw [eX] at h1 hX
  rw [eY] at h2 hY
  obtain ⟨X, hXe⟩ : ∃ X, X = frL [111, 110, 101] := ⟨_, rfl⟩
  obtain ⟨Y, hYe⟩ : ∃ Y, Y = frL [] := ⟨_, rfl⟩
  rw [← hXe] at h1 hX hF
  rw [← hYe] at h2 hY hF
  have hc1 : ∀ w : World, (Op.stringOp .add ⟨X.toArray⟩ ⟨Y.toArray⟩).run Try.prog w = .ok (.string (⟨X.toArray⟩ ++ ⟨Y.toArray⟩)) w := fun w => run_string_add_sum w _ _ (by rw [mk_size X, mk_size Y]; omega)
  have hc2 : ∀ w : World, (Op.stringOp .add (⟨X.toArray⟩ ++ ⟨Y.toArray⟩) ⟨#[120]⟩).run Try.prog w = .ok (.string (⟨X.toArray⟩ ++ ⟨Y.toArray⟩ ++ ⟨#[120]⟩)) w :=
    fun w => run_string_add_sum w _ _ (by rw [ByteArray.size_append', mk_size X, mk_size Y, hX, hY]; decide)
  have hsz : (⟨X.toArray⟩ : ByteArray).size = 8 := by rw [mk_size X]; exact hX
  have hsy : (⟨Y.toArray⟩ : ByteArray).size = 5 := by rw [mk_size Y]; exact hY
  have hA := fun w => all_at (⟨X.toArray⟩ ++ ⟨Y.toArray⟩ ++ ⟨#[120]⟩) (X ++ Y ++ [120]) ([[111, 110, 101], []], 13) w (by simp) (by rw [ByteArray.size_append', ByteArray.size_append', hsz, hsy]; decide) hF
  have H1 := Lib.hid h1
  have H2 := Lib.hid h2
  have HA := Lib.hid hA
  clear h1 h2 hXe hYe hF hA eX eY hX hY
  go_enter Try.func9, Try.ntmps9
  go_wp2_with fail
  refine (H1.out _).mono ?_
  rintro e w1 ⟨rfl, b1⟩
  go_wp2_with fail
  refine (H2.out _).mono ?_
  rintro e w2 ⟨rfl, b2⟩
  go_wp2_with fail
  refine (HA.out _).mono ?_
  rintro e w3 ⟨a, cap, rfl, hrd, b3⟩
  go_wp2_with fail
  refine (same_at a _ 2 2 cap 2 [[111, 110, 101], []] [[111, 110, 101], []] true _ (hrd.old ((Below.refl _ _).alloc (Nat.le_refl _) _)) (lit_rd2 w3 _ ⟨#[111, 110, 101]⟩ ⟨#[]⟩) rfl rfl (by decide) (by decide)).mono ?_
  rintro e w4 ⟨rfl, b4⟩
  go_wp2
  go_ret
  exact ⟨rfl, bt (bt (bt b1 b2) b3) (((Below.refl _ w3).alloc (Nat.le_refl _) _).trans (b4.mono (by simp)))⟩

/-! ### FramePuts -/
set_option maxRecDepth 100000 in
set_option maxHeartbeats 1000000 in
theorem puts_skip (a s : ByteArray) (w : World) (h : (4096 < a.size ∧ a.size ≤ 262144) ∨ (¬ (4096 < a.size ∧ a.size ≤ 262144) ∧ 4096 < s.size)) :
    Calls Try.prog 3 #[.string a, .string s] w fun e w' => e = .returned (.bool true) ∧ Below w.heap.size w w' := by
  rcases h with ⟨h1, h2⟩ | ⟨h1, h2⟩
  · have h1' : (4096 : Int) < (a.size : Int) := by omega
    have h2' : (a.size : Int) ≤ 262144 := by omega
    go_enter Try.func3, Try.ntmps3
    go_wp2_with fail
    refine (awake_any _).mono ?_
    rintro e w1 ⟨rfl, b1⟩
    go_wp2
    go_ret
    exact ⟨rfl, b1⟩
  · have h2' : (4096 : Int) < (s.size : Int) := by omega
    by_cases h3 : 4096 < a.size
    · have h3' : (262144 : Int) < (a.size : Int) := by omega
      have h4' : (4096 : Int) < (a.size : Int) := by omega
      clear h1
      go_enter Try.func3, Try.ntmps3
      go_wp2_with fail
      refine (awake_any _).mono ?_
      rintro e w1 ⟨rfl, b1⟩
      go_wp2
      go_ret
      exact ⟨rfl, b1⟩
    · have h3' : (a.size : Int) ≤ 4096 := by omega
      clear h1
      go_enter Try.func3, Try.ntmps3
      go_wp2_with fail
      refine (awake_any _).mono ?_
      rintro e w1 ⟨rfl, b1⟩
      go_wp2
      go_ret
      exact ⟨rfl, b1⟩
set_option maxRecDepth 100000 in
set_option maxHeartbeats 1000000 in
theorem puts_long (a s : ByteArray) (w : World) (h1 : 262144 < a.size) (h2 : s.size ≤ 4096) (ha : a.size ≤ 140737488351232) :
    Calls Try.prog 3 #[.string a, .string s] w fun e w' => e = .returned (.bool true) ∧ Below w.heap.size w w' := by
  have h1' : (262144 : Int) < (a.size : Int) := by omega
  have h2' : (s.size : Int) ≤ 4096 := by omega
  go_enter Try.func3, Try.ntmps3
  go_wp2_with fail
  refine (fput_no a _ h1 (by omega)).mono ?_
  rintro e w1 ⟨rfl, rfl⟩
  go_wp2_with fail
  refine (fput_ref_no a _ h1 (by omega)).mono ?_
  rintro e w2 ⟨rfl, rfl⟩
  go_wp2_with fail
  refine (ftake_code s _ (by omega)).mono ?_
  rintro e w3 ⟨rfl, b3⟩
  go_wp2_with fail
  refine (ftake_ref s _ (by omega)).mono ?_
  rintro e w4 ⟨rfl, b4⟩
  go_wp2_with fail
  refine (awake_any _).mono ?_
  rintro e w5 ⟨rfl, b5⟩
  go_wp2
  go_ret
  exact ⟨rfl, bt (bt b3 b4) b5⟩
set_option maxRecDepth 100000 in
set_option maxHeartbeats 1000000 in
theorem puts_short (a s : ByteArray) (w : World) (h1 : a.size ≤ 4096) (h2 : s.size ≤ 4096) :
    Calls Try.prog 3 #[.string a, .string s] w fun e w' => e = .returned (.bool true) ∧ Below w.heap.size w w' := by
  have h1' : (a.size : Int) ≤ 4096 := by omega
  have h2' : (s.size : Int) ≤ 4096 := by omega
  go_enter Try.func3, Try.ntmps3
  go_wp2_with fail
  refine (fput_code a _ (by omega)).mono ?_
  rintro e w1 ⟨rfl, b1⟩
  go_wp2_with fail
  refine (fput_ref a _ (by omega)).mono ?_
  rintro e w2 ⟨rfl, b2⟩
  go_wp2_with fail
  refine (ftake_code s _ (by omega)).mono ?_
  rintro e w3 ⟨rfl, b3⟩
  go_wp2_with fail
  refine (ftake_ref s _ (by omega)).mono ?_
  rintro e w4 ⟨rfl, b4⟩
  go_wp2_with fail
  refine (awake_any _).mono ?_
  rintro e w5 ⟨rfl, b5⟩
  go_wp2
  go_ret
  exact ⟨rfl, bt (bt (bt (bt b1 b2) b3) b4) b5⟩
theorem walk_FramePuts (a : ByteArray) (ha : a.size ≤ 140737488351232) (s : ByteArray) (_ : s.size ≤ 140737488351232) (w : World) :
    Calls Try.prog 3 #[.string a, .string s] w fun e w' => e = .returned (.bool true) ∧ Below w.heap.size w w' := by
  by_cases h : (4096 < a.size ∧ a.size ≤ 262144) ∨ 4096 < s.size
  · exact puts_skip a s w (by omega)
  · by_cases h1 : a.size ≤ 4096
    · exact puts_short a s w h1 (by omega)
    · exact puts_long a s w (by omega) (by omega) ha

/-! ### FrameReads -/
set_option maxRecDepth 100000 in
set_option maxHeartbeats 1000000 in
theorem walk_FrameReads (s : ByteArray) (_ : s.size ≤ 140737488351232) (w : World) :
    Calls Try.prog 4 #[.string s] w fun e w' => e = .returned (.bool true) ∧ Below w.heap.size w w' := by
  by_cases h : 4096 < s.size
  · have h' : (4096 : Int) < (s.size : Int) := by omega
    go_enter Try.func4, Try.ntmps4
    go_wp2_with fail
    refine (awake_any _).mono ?_
    rintro e w1 ⟨rfl, b1⟩
    go_wp2
    go_ret
    exact ⟨rfl, b1⟩
  · have h' : (s.size : Int) ≤ 4096 := by omega
    have hfl := fa_len s.data.toList.length s.data.toList (Nat.le_refl _)
    rw [size_list] at hfl
    have hn : (fa s.data.toList).1.length < 9223372036854775808 := by omega
    clear hfl
    go_enter Try.func4, Try.ntmps4
    go_wp2_with fail
    refine (all_code s _ (by omega)).mono ?_
    rintro e w1 ⟨a, ca, rfl, r1, b1⟩
    go_wp2_with fail
    refine (all_ref s _ (by omega)).mono ?_
    rintro e w2 ⟨b, cb, rfl, r2, b2⟩
    go_wp2_with fail
    refine (same_at a b _ _ ca cb _ _ true _ (r1.old b2) r2 rfl rfl hn (by simp)).mono ?_
    rintro e w3 ⟨rfl, b3⟩
    go_wp2_with fail
    refine (awake_any _).mono ?_
    rintro e w4 ⟨rfl, b4⟩
    go_wp2
    go_ret
    exact ⟨rfl, bt (bt (bt b1 b2) b3) b4⟩
end Go.Proofs.Ytflnohmmhodhgaa
