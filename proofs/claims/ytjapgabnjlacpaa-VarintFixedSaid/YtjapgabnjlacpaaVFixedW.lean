/-
  The walk of the law VarintFixed. Conditions: the string within the form's reach.
-/
import Derived.Test.YtjapgabnjlacpaaVf
namespace Go.Proofs.Ytjapgabnjlacpaa
open Go.RowKit

set_option maxHeartbeats 800000 in
theorem fixed_in (n : Nat) (s : ByteArray) (hn : n ≤ 4294967295) (z1 : s.size ≤ 140737488351232) (w : World) :
    Calls Try.prog 8 #[.int .i64 (n : Int), .string s] w fun e w' => e = .returned (.bool true) ∧ Below w.heap.size w w' := by
  have hcat : ∀ w : World, (Op.stringOp .add ⟨(fixL n).toArray⟩ s).run Try.prog w = .ok (.string (⟨(fixL n).toArray⟩ ++ s)) w := fun w => run_string_add_sum w _ _ (by
    show (fixL n).toArray.size + s.size ≤ _
    rw [List.size_toArray, fixL_length]; omega)
  go_enter Try.func8, Try.ntmps8
  go_wp2_with fail
  refine (fix_code n _ hn).mono ?_
  rintro e w1 ⟨rfl, b1⟩
  go_wp2_with fail
  refine (fix_ref n _ hn).mono ?_
  rintro e w2 ⟨rfl, b2⟩
  go_wp2_with fail
  refine (takefix_any s _ (by omega)).mono ?_
  rintro e w3 ⟨rfl, rfl⟩
  go_wp2_with fail
  refine (takefix_ref_any s _ (by omega)).mono ?_
  rintro e w4 ⟨rfl, b4⟩
  go_wp2_with fail
  refine (takefix_const _).mono ?_
  rintro e w5 ⟨rfl, rfl⟩
  go_wp2_with fail
  refine (takefix_back n s _ hn z1).mono ?_
  rintro e w6 ⟨rfl, rfl⟩
  go_wp2_with fail
  go_ret
  exact ⟨rfl, (b1.trans (b2.mono b1.size)).trans (b4.mono (Nat.le_trans b1.size b2.size))⟩

set_option maxHeartbeats 800000 in
theorem fixed_out (n : Int) (s : ByteArray) (hn : n < 0 ∨ 4294967295 < n) (z1 : s.size ≤ 140737488351232) (w : World) :
    Calls Try.prog 8 #[.int .i64 n, .string s] w fun e w' => e = .returned (.bool true) ∧ Below w.heap.size w w' := by
  go_enter Try.func8, Try.ntmps8
  go_wp2_with fail
  refine (fix_code_no n _ hn).mono ?_
  rintro e w1 ⟨rfl, rfl⟩
  go_wp2_with fail
  refine (fix_ref_no n _ hn).mono ?_
  rintro e w2 ⟨rfl, rfl⟩
  go_wp2_with fail
  refine (takefix_any s _ (by omega)).mono ?_
  rintro e w3 ⟨rfl, rfl⟩
  go_wp2_with fail
  refine (takefix_ref_any s _ (by omega)).mono ?_
  rintro e w4 ⟨rfl, b4⟩
  go_wp2_with fail
  refine (takefix_const _).mono ?_
  rintro e w5 ⟨rfl, rfl⟩
  go_wp2_with fail
  go_ret
  exact ⟨rfl, b4⟩
theorem walk_VarintFixed (n : Int) (_ : (Lit.int .i64 n).wf = true) (s : ByteArray) (z1 : s.size ≤ 140737488351232) (w : World) :
    Calls Try.prog 8 #[.int .i64 n, .string s] w fun e w' => e = .returned (.bool true) ∧ Below w.heap.size w w' := by
  by_cases h : 0 ≤ n ∧ n ≤ 4294967295
  · obtain ⟨N, rfl⟩ := Int.eq_ofNat_of_zero_le h.1
    exact fixed_in N s (by omega) z1 w
  · exact fixed_out n s (by omega) z1 w
end Go.Proofs.Ytjapgabnjlacpaa
