/-
  The walks of the laws VarintPuts, VarintTakes, VarintBack. Conditions: texts within the form's reach.
-/
import Derived.Test.YtjapgabnjlacpaaVx
namespace Go.Proofs.Ytjapgabnjlacpaa
open Go.RowKit

set_option maxHeartbeats 1000000 in
theorem walk_VarintPuts (n : Int) (_ : (Lit.int .i64 n).wf = true) (w : World) :
    Calls Try.prog 3 #[.int .i64 n] w fun e w' => e = .returned (.bool true) ∧ Below w.heap.size w w' := by
  by_cases h : 0 ≤ n ∧ n ≤ 4611686018427387904
  · obtain ⟨N, rfl⟩ := Int.eq_ofNat_of_zero_le h.1
    have hN : N ≤ 4611686018427387904 := by omega
    clear h
    go_enter Try.func3, Try.ntmps3
    go_wp2_with fail
    refine (put_code N _ hN).mono ?_
    rintro e w1 ⟨rfl, b1⟩
    go_wp2_with fail
    refine (put_ref N _ hN).mono ?_
    rintro e w2 ⟨rfl, b2⟩
    go_wp2_with fail
    refine (numbers_any _).mono ?_
    rintro e w3 ⟨rfl, b3⟩
    go_wp2
    go_ret
    exact ⟨rfl, bt (bt b1 b2) b3⟩
  · have h' : n < 0 ∨ 4611686018427387904 < n := by omega
    clear h
    go_enter Try.func3, Try.ntmps3
    go_wp2_with fail
    refine (put_no n _ h').mono ?_
    rintro e w1 ⟨rfl, rfl⟩
    go_wp2_with fail
    refine (put_ref_no n _ h').mono ?_
    rintro e w2 ⟨rfl, rfl⟩
    go_wp2_with fail
    refine (numbers_any _).mono ?_
    rintro e w3 ⟨rfl, b3⟩
    go_wp2
    go_ret
    exact ⟨rfl, b3⟩

set_option maxHeartbeats 1000000 in
theorem walk_VarintTakes (s : ByteArray) (hs : s.size ≤ 140737488351232) (w : World) :
    Calls Try.prog 4 #[.string s] w fun e w' => e = .returned (.bool true) ∧ Below w.heap.size w w' := by
  go_enter Try.func4, Try.ntmps4
  go_wp2_with fail
  refine (take_code s _ (by omega)).mono ?_
  rintro e w1 ⟨rfl, rfl⟩
  go_wp2_with fail
  refine (take_ref s _ (by omega)).mono ?_
  rintro e w2 ⟨rfl, rfl⟩
  go_wp2_with fail
  refine (numbers_any _).mono ?_
  rintro e w3 ⟨rfl, b3⟩
  go_wp2
  go_ret
  exact ⟨rfl, b3⟩

theorem take_back (n : Nat) (s : ByteArray) (w : World) (hn : n ≤ 4611686018427387904) (hs : s.size ≤ 140737488351232) :
    Calls Try.prog 13 #[.string (⟨(vL n).toArray⟩ ++ s)] w fun e w' => e = .returned (.tuple #[.int .i64 (n : Int), .int .i64 ((vL n).length : Nat), .int .i64 0]) ∧ w = w' := by
  have h9 := vL_len9 hn
  have hz : (⟨(vL n).toArray⟩ ++ s : ByteArray).size = (vL n).length + s.size := by rw [ByteArray.size_append', ByteArray.size_mk', List.size_toArray]
  have h := take_code (⟨(vL n).toArray⟩ ++ s) w (by omega)
  have ht := tk_put s.data.toList n 0 0 (by omega) (fun _ => rfl) (by omega)
  rw [show (⟨(vL n).toArray⟩ ++ s : ByteArray).data.toList = vL n ++ s.data.toList by simp, ht] at h
  simpa using h
theorem back_cat (n : Nat) (s : ByteArray) (hn : n ≤ 4611686018427387904) (hs : s.size ≤ 140737488351232) (P : Program) (w : World) :
    (Op.stringOp .add ⟨(vL n).toArray⟩ s).run P w = .ok (.string (⟨(vL n).toArray⟩ ++ s)) w := by
  have h9 := vL_len9 hn
  refine run_string_add_sum w _ _ ?_
  rw [ByteArray.size_mk', List.size_toArray]
  omega

set_option maxRecDepth 100000 in
set_option maxHeartbeats 1000000 in
theorem back_in (N : Nat) (hN : N ≤ 4611686018427387904) (s : ByteArray) (hs : s.size ≤ 140737488351232) (w : World) :
    Calls Try.prog 5 #[.int .i64 (N : Int), .string s] w fun e w' => e = .returned (.bool true) ∧ Below w.heap.size w w' := by
  have hcat := back_cat N s hN hs Try.prog
  rcases tk_cases s.data.toList with h | ⟨m, k, h, hk0, hk, hm⟩
  · have hc := fun w => take_code s w (by omega)
    rcases h with h | h
    all_goals
      have h12 := tk_err s.data.toList 0 0 (by omega)
      rw [h, h12.1, h12.2] at hc
      have HC := Lib.hid hc
      clear h h12 hc
      go_enter Try.func5, Try.ntmps5
      go_wp2_with fail
      refine (put_code N _ hN).mono ?_
      rintro e w1 ⟨rfl, b1⟩
      go_wp2_with fail
      refine (take_back N s _ hN hs).mono ?_
      rintro e w2 ⟨rfl, rfl⟩
      go_wp2_with fail
      refine (HC.out _).mono ?_
      rintro e w3 ⟨rfl, rfl⟩
      go_wp2_with fail
      refine (numbers_any _).mono ?_
      rintro e w4 ⟨rfl, b4⟩
      go_wp2
      go_ret
      exact ⟨rfl, bt b1 b4⟩
  · have hc := fun w => take_code s w (by omega)
    rw [h] at hc
    rw [size_list] at hk
    obtain ⟨m', _, _, _, hm', _, hv, _⟩ := tk_back s.data.toList 0 0 m k h
    have hex : s.extract 0 k = ⟨(vL m).toArray⟩ := by
      rw [Lib.extract_eq, List.drop_zero, hm']
      simp at hv ⊢
      exact hv.symm
    have HC := Lib.hid hc
    clear h hc hm' hv
    have hk' : (k : Int) ≤ (s.size : Int) := by omega
    go_enter Try.func5, Try.ntmps5
    go_wp2_with fail
    refine (put_code N _ hN).mono ?_
    rintro e w1 ⟨rfl, b1⟩
    go_wp2_with fail
    refine (take_back N s _ hN hs).mono ?_
    rintro e w2 ⟨rfl, rfl⟩
    go_wp2_with fail
    refine (HC.out _).mono ?_
    rintro e w3 ⟨rfl, rfl⟩
    go_wp2_with fail
    refine (put_code m _ hm).mono ?_
    rintro e w4 ⟨rfl, b4⟩
    go_wp2_with fail
    refine (numbers_any _).mono ?_
    rintro e w5 ⟨rfl, b5⟩
    go_wp2
    go_ret
    exact ⟨rfl, bt (bt b1 b4) b5⟩

set_option maxRecDepth 100000 in
set_option maxHeartbeats 1000000 in
theorem back_out1 (n : Int) (h' : n < 0) (s : ByteArray) (hs : s.size ≤ 140737488351232) (w : World) :
    Calls Try.prog 5 #[.int .i64 n, .string s] w fun e w' => e = .returned (.bool true) ∧ Below w.heap.size w w' := by
  rcases tk_cases s.data.toList with h | ⟨m, k, h, hk0, hk, hm⟩
  · have hc := fun w => take_code s w (by omega)
    rcases h with h | h
    all_goals
      have h12 := tk_err s.data.toList 0 0 (by omega)
      rw [h, h12.1, h12.2] at hc
      have HC := Lib.hid hc
      clear h h12 hc
      go_enter Try.func5, Try.ntmps5
      go_wp2_with fail
      refine (put_no n _ (.inl h')).mono ?_
      rintro e w1 ⟨rfl, rfl⟩
      go_wp2_with fail
      refine (HC.out _).mono ?_
      rintro e w3 ⟨rfl, rfl⟩
      go_wp2_with fail
      refine (numbers_any _).mono ?_
      rintro e w4 ⟨rfl, b4⟩
      go_wp2
      go_ret
      exact ⟨rfl, bt (Below.refl _ _) b4⟩
  · have hc := fun w => take_code s w (by omega)
    rw [h] at hc
    rw [size_list] at hk
    obtain ⟨m', _, _, _, hm', _, hv, _⟩ := tk_back s.data.toList 0 0 m k h
    have hex : s.extract 0 k = ⟨(vL m).toArray⟩ := by
      rw [Lib.extract_eq, List.drop_zero, hm']
      simp at hv ⊢
      exact hv.symm
    have HC := Lib.hid hc
    clear h hc hm' hv
    have hk' : (k : Int) ≤ (s.size : Int) := by omega
    go_enter Try.func5, Try.ntmps5
    go_wp2_with fail
    refine (put_no n _ (.inl h')).mono ?_
    rintro e w1 ⟨rfl, rfl⟩
    go_wp2_with fail
    refine (HC.out _).mono ?_
    rintro e w3 ⟨rfl, rfl⟩
    go_wp2_with fail
    refine (put_code m _ hm).mono ?_
    rintro e w4 ⟨rfl, b4⟩
    go_wp2_with fail
    refine (numbers_any _).mono ?_
    rintro e w5 ⟨rfl, b5⟩
    go_wp2
    go_ret
    exact ⟨rfl, bt (bt (Below.refl _ _) b4) b5⟩

set_option maxRecDepth 100000 in
set_option maxHeartbeats 1000000 in
theorem back_out2 (n : Int) (h' : 4611686018427387904 < n) (s : ByteArray) (hs : s.size ≤ 140737488351232) (w : World) :
    Calls Try.prog 5 #[.int .i64 n, .string s] w fun e w' => e = .returned (.bool true) ∧ Below w.heap.size w w' := by
  rcases tk_cases s.data.toList with h | ⟨m, k, h, hk0, hk, hm⟩
  · have hc := fun w => take_code s w (by omega)
    rcases h with h | h
    all_goals
      have h12 := tk_err s.data.toList 0 0 (by omega)
      rw [h, h12.1, h12.2] at hc
      have HC := Lib.hid hc
      clear h h12 hc
      go_enter Try.func5, Try.ntmps5
      go_wp2_with fail
      refine (put_no n _ (.inr h')).mono ?_
      rintro e w1 ⟨rfl, rfl⟩
      go_wp2_with fail
      refine (HC.out _).mono ?_
      rintro e w3 ⟨rfl, rfl⟩
      go_wp2_with fail
      refine (numbers_any _).mono ?_
      rintro e w4 ⟨rfl, b4⟩
      go_wp2
      go_ret
      exact ⟨rfl, bt (Below.refl _ _) b4⟩
  · have hc := fun w => take_code s w (by omega)
    rw [h] at hc
    rw [size_list] at hk
    obtain ⟨m', _, _, _, hm', _, hv, _⟩ := tk_back s.data.toList 0 0 m k h
    have hex : s.extract 0 k = ⟨(vL m).toArray⟩ := by
      rw [Lib.extract_eq, List.drop_zero, hm']
      simp at hv ⊢
      exact hv.symm
    have HC := Lib.hid hc
    clear h hc hm' hv
    have hk' : (k : Int) ≤ (s.size : Int) := by omega
    go_enter Try.func5, Try.ntmps5
    go_wp2_with fail
    refine (put_no n _ (.inr h')).mono ?_
    rintro e w1 ⟨rfl, rfl⟩
    go_wp2_with fail
    refine (HC.out _).mono ?_
    rintro e w3 ⟨rfl, rfl⟩
    go_wp2_with fail
    refine (put_code m _ hm).mono ?_
    rintro e w4 ⟨rfl, b4⟩
    go_wp2_with fail
    refine (numbers_any _).mono ?_
    rintro e w5 ⟨rfl, b5⟩
    go_wp2
    go_ret
    exact ⟨rfl, bt (bt (Below.refl _ _) b4) b5⟩

theorem walk_VarintBack (n : Int) (_ : (Lit.int .i64 n).wf = true) (s : ByteArray) (hs : s.size ≤ 140737488351232) (w : World) :
    Calls Try.prog 5 #[.int .i64 n, .string s] w fun e w' => e = .returned (.bool true) ∧ Below w.heap.size w w' := by
  by_cases h : 0 ≤ n ∧ n ≤ 4611686018427387904
  · obtain ⟨N, rfl⟩ := Int.eq_ofNat_of_zero_le h.1
    exact back_in N (by omega) s hs w
  · by_cases h1 : n < 0
    · exact back_out1 n h1 s hs w
    · exact back_out2 n (by omega) s hs w
end Go.Proofs.Ytjapgabnjlacpaa
