/-
  The walks of the laws VarintCuts, VarintTexts. Conditions: texts within the form's reach.
-/
import Derived.Test.YtjapgabnjlacpaaVlawA
namespace Go.Proofs.Ytjapgabnjlacpaa
open Go.RowKit

/-! ### cut off -/
theorem mk_size (l : List UInt8) : (⟨l.toArray⟩ : ByteArray).size = l.length := by rw [ByteArray.size_mk', List.size_toArray]
theorem mk_extract (l : List UInt8) (k : Nat) : (⟨l.toArray⟩ : ByteArray).extract 0 k = ⟨(l.take k).toArray⟩ := by
  rw [Lib.extract_eq]
  simp
theorem take_cut (n k : Nat) (w : World) (hn : n ≤ 4611686018427387904) (hk : k < (vL n).length) :
    Calls Try.prog 13 #[.string ⟨((vL n).take k).toArray⟩] w fun e w' => e = .returned (.tuple #[.int .i64 0, .int .i64 0, .int .i64 10]) ∧ w = w' := by
  have h9 := vL_len9 hn
  have h := take_code ⟨((vL n).take k).toArray⟩ w (by rw [mk_size, List.length_take]; omega)
  rw [List.toList_toArray, tk_cut n k 0 0 hk (by omega)] at h
  exact h
theorem ttR_cut (l : List UInt8) (k : Nat) (hl : l.length ≤ 262144) (hk : k < (txL l).length) : ttR ((txL l).take k) = ([], 0, 10) := by
  have h9 := vL_len9 (n := l.length) (by omega)
  unfold txL at hk ⊢
  rw [List.length_append] at hk
  by_cases h : k < (vL l.length).length
  · rw [List.take_append_of_le_length (by omega)]
    exact ttR_err (by rw [tk_cut l.length k 0 0 h (by omega)]) (by decide)
  · have e : (vL l.length ++ l).take k = vL l.length ++ l.take (k - (vL l.length).length) := by
      rw [List.take_append, List.take_of_length_le (by omega)]
    rw [e]
    have ht := tk_put (l.take (k - (vL l.length).length)) l.length 0 0 (by omega) (fun _ => rfl) (by omega)
    simp only [Nat.zero_add, Nat.mul_zero, Nat.pow_zero, Nat.mul_one] at ht
    refine ttR_short ht hl ?_
    rw [List.length_append, List.length_take]
    omega
theorem taketext_cut (l : List UInt8) (k : Nat) (w : World) (hl : l.length ≤ 262144) (hk : k < (txL l).length) :
    Calls Try.prog 16 #[.string ⟨((txL l).take k).toArray⟩] w fun e w' => e = .returned (.tuple #[.string ⟨#[]⟩, .int .i64 0, .int .i64 10]) ∧ Below w.heap.size w w' := by
  have hlen : (txL l).length ≤ 262153 := by
    unfold txL
    have h9 := vL_len9 (n := l.length) (by omega)
    rw [List.length_append]
    omega
  have h := taketext_code ⟨((txL l).take k).toArray⟩ w (by rw [mk_size, List.length_take]; omega)
  unfold TT at h
  rw [List.toList_toArray, ttR_cut l k hl hk] at h
  exact h
theorem and_low (n : Int) : ∃ N : Nat, N ≤ 4611686018427387903 ∧ bits .and .i64 n 4611686018427387903 = (N : Int) := by
  refine ⟨(BitVec.ofInt 64 n &&& BitVec.ofInt 64 4611686018427387903).toNat, ?_, ?_⟩
  · rw [BitVec.toNat_and]
    exact Nat.and_le_right
  · show IntKind.i64.wrap ((BitVec.ofInt 64 n &&& BitVec.ofInt 64 4611686018427387903).toNat : Int) = _
    refine i64_wrap_nat _ ?_
    rw [BitVec.toNat_and]
    exact Nat.lt_of_le_of_lt Nat.and_le_right (by decide)
theorem and_16 (n : Int) : ∃ N : Nat, N ≤ 65535 ∧ bits .and .i64 n 65535 = (N : Int) := by
  refine ⟨(BitVec.ofInt 64 n &&& BitVec.ofInt 64 65535).toNat, ?_, ?_⟩
  · rw [BitVec.toNat_and]
    exact Nat.and_le_right
  · show IntKind.i64.wrap ((BitVec.ofInt 64 n &&& BitVec.ofInt 64 65535).toNat : Int) = _
    refine i64_wrap_nat _ ?_
    rw [BitVec.toNat_and]
    exact Nat.lt_of_le_of_lt Nat.and_le_right (by decide)

set_option maxRecDepth 100000 in
set_option maxHeartbeats 1000000 in
theorem walk_VarintCuts (n : Int) (_ : (Lit.int .i64 n).wf = true) (s : ByteArray) (hs : s.size ≤ 140737488351232) (j : Int) (_ : (Lit.int .i64 j).wf = true) (w : World) :
    Calls Try.prog 6 #[.int .i64 n, .string s, .int .i64 j] w fun e w' => e = .returned (.bool true) ∧ Below w.heap.size w w' := by
  by_cases h : 4096 < s.size
  · have h' : (4096 : Int) < (s.size : Int) := by omega
    go_enter Try.func6, Try.ntmps6
    go_wp2_with fail
    refine (numbers_any _).mono ?_
    rintro e w1 ⟨rfl, b1⟩
    go_wp2
    go_ret
    exact ⟨rfl, b1⟩
  · have h' : (s.size : Int) ≤ 4096 := by omega
    obtain ⟨N, hN, eN⟩ := and_low n
    obtain ⟨J, hJ, eJ⟩ := and_16 j
    have hp1 := vL_pos N
    have hl1 := vL_len9 (n := N) (by omega)
    obtain ⟨X, hX⟩ : ∃ X, X = vL N := ⟨_, rfl⟩
    obtain ⟨Y, hY⟩ : ∃ Y, Y = txL s.data.toList := ⟨_, rfl⟩
    have hYl : Y.length = (vL s.size).length + s.size := by rw [hY]; unfold txL; rw [List.length_append, size_list]
    have hp2 := vL_pos s.size
    have hl2 := vL_len9 (n := s.size) (by omega)
    have h1 : 0 < X.length := by rw [hX]; exact hp1
    have h2 : 0 < Y.length := by omega
    have h1b : X.length ≤ 9 := by rw [hX]; exact hl1
    have h2b : Y.length ≤ 5000 := by omega
    have hput := fun w => put_code N w (by omega)
    have htext := fun w => text_code s w (by omega)
    have hcut1 := fun w => take_cut N (J % X.length) w (by omega) (by rw [← hX]; exact Nat.mod_lt _ h1)
    have hcut2 := fun w => taketext_cut s.data.toList (J % Y.length) w (by rw [size_list]; omega) (by rw [← hY]; exact Nat.mod_lt _ h2)
    rw [← hX] at hput hcut1
    rw [← hY] at htext hcut2
    have H1 := Lib.hid hput
    have H2 := Lib.hid htext
    have H3 := Lib.hid hcut1
    have H4 := Lib.hid hcut2
    clear hput htext hcut1 hcut2 hX hY hYl hp1 hp2 hl1 hl2
    have m1 := Nat.mod_lt J h1
    have m2 := Nat.mod_lt J h2
    have z1 : ((X.length : Int) == 0) = false := by rw [beq_eq_false_iff_ne]; omega
    have z2 : ((Y.length : Int) == 0) = false := by rw [beq_eq_false_iff_ne]; omega
    have e1 := mk_extract X (J % X.length)
    have e2 := mk_extract Y (J % Y.length)
    go_enter Try.func6, Try.ntmps6
    go_wp2_with fail
    refine (H1.out _).mono ?_
    rintro e w1 ⟨rfl, b1⟩
    go_wp2_with fail
    refine (H2.out _).mono ?_
    rintro e w2 ⟨rfl, b2⟩
    go_wp2_with fail
    refine (H3.out _).mono ?_
    rintro e w3 ⟨rfl, rfl⟩
    go_wp2_with fail
    refine (H4.out _).mono ?_
    rintro e w4 ⟨rfl, b4⟩
    go_wp2_with fail
    refine (numbers_any _).mono ?_
    rintro e w5 ⟨rfl, b5⟩
    go_wp2
    go_ret
    exact ⟨rfl, bt (bt (bt b1 b2) b4) b5⟩

/-! ### texts -/
theorem txL_size (l : List UInt8) (h : l.length ≤ 262144) : (txL l).length ≤ 262153 := by
  unfold txL
  have h9 := vL_len9 (n := l.length) (by omega)
  rw [List.length_append]
  omega
theorem ttR_back (l t : List UInt8) (h : l.length ≤ 262144) : ttR (txL l ++ t) = (l, (txL l).length, 0) := by
  have h9 := vL_len9 (n := l.length) (by omega)
  have ht := tk_put (l ++ t) l.length 0 0 (by omega) (fun _ => rfl) (by omega)
  simp only [Nat.zero_add, Nat.mul_zero, Nat.pow_zero, Nat.mul_one] at ht
  unfold txL
  rw [List.append_assoc]
  rw [ttR_ok ht h (by rw [List.length_append, List.length_append]; omega), List.drop_left, List.take_left, List.length_append]
theorem taketext_back (a s : ByteArray) (w : World) (ha : a.size ≤ 262144) (hs : s.size ≤ 140737488351232 - 262153) :
    Calls Try.prog 16 #[.string (⟨(txL a.data.toList).toArray⟩ ++ s)] w fun e w' => e = .returned (.tuple #[.string a, .int .i64 ((txL a.data.toList).length : Nat), .int .i64 0]) ∧ Below w.heap.size w w' := by
  have hx := txL_size a.data.toList (by rw [size_list]; exact ha)
  have h := taketext_code (⟨(txL a.data.toList).toArray⟩ ++ s) w (by rw [ByteArray.size_append', mk_size]; omega)
  unfold TT at h
  rw [show (⟨(txL a.data.toList).toArray⟩ ++ s : ByteArray).data.toList = txL a.data.toList ++ s.data.toList by simp, ttR_back _ _ (by rw [size_list]; exact ha), Lib.mk_data] at h
  exact h

set_option maxRecDepth 100000 in
set_option maxHeartbeats 1000000 in
theorem texts_skip (a s : ByteArray) (w : World) (h : (4096 < a.size ∧ a.size ≤ 262144) ∨ (¬ (4096 < a.size ∧ a.size ≤ 262144) ∧ 4096 < s.size)) (ha : a.size ≤ 140737488351232) (hs : s.size ≤ 140737488351232) :
    Calls Try.prog 7 #[.string a, .string s] w fun e w' => e = .returned (.bool true) ∧ Below w.heap.size w w' := by
  rcases h with ⟨h1, h2⟩ | ⟨h1, h2⟩
  · have h1' : (4096 : Int) < (a.size : Int) := by omega
    have h2' : (a.size : Int) ≤ 262144 := by omega
    go_enter Try.func7, Try.ntmps7
    go_wp2_with fail
    refine (texts_any _).mono ?_
    rintro e w1 ⟨rfl, b1⟩
    go_wp2
    go_ret
    exact ⟨rfl, b1⟩
  · have h2' : (4096 : Int) < (s.size : Int) := by omega
    by_cases h3 : 4096 < a.size
    · have h3' : (262144 : Int) < (a.size : Int) := by omega
      have h4' : (4096 : Int) < (a.size : Int) := by omega
      clear h1
      go_enter Try.func7, Try.ntmps7
      go_wp2_with fail
      refine (texts_any _).mono ?_
      rintro e w1 ⟨rfl, b1⟩
      go_wp2
      go_ret
      exact ⟨rfl, b1⟩
    · have h3' : (a.size : Int) ≤ 4096 := by omega
      clear h1
      go_enter Try.func7, Try.ntmps7
      go_wp2_with fail
      refine (texts_any _).mono ?_
      rintro e w1 ⟨rfl, b1⟩
      go_wp2
      go_ret
      exact ⟨rfl, b1⟩
set_option maxRecDepth 100000 in
set_option maxHeartbeats 1000000 in
theorem texts_long (a s : ByteArray) (w : World) (h1 : 262144 < a.size) (h2 : s.size ≤ 4096) (ha : a.size ≤ 140737488351232) :
    Calls Try.prog 7 #[.string a, .string s] w fun e w' => e = .returned (.bool true) ∧ Below w.heap.size w w' := by
  have h1' : (262144 : Int) < (a.size : Int) := by omega
  have h2' : (s.size : Int) ≤ 4096 := by omega
  go_enter Try.func7, Try.ntmps7
  go_wp2_with fail
  refine (text_no a _ h1 (by omega)).mono ?_
  rintro e w1 ⟨rfl, rfl⟩
  go_wp2_with fail
  refine (text_ref_no a _ h1 (by omega)).mono ?_
  rintro e w2 ⟨rfl, rfl⟩
  go_wp2_with fail
  refine (taketext_code s _ (by omega)).mono ?_
  rintro e w3 ⟨rfl, b3⟩
  go_wp2_with fail
  refine (taketext_ref s _ (by omega)).mono ?_
  rintro e w4 ⟨rfl, b4⟩
  go_wp2_with fail
  refine (texts_any _).mono ?_
  rintro e w5 ⟨rfl, b5⟩
  go_wp2
  go_ret
  exact ⟨rfl, bt (bt b3 b4) b5⟩
set_option maxRecDepth 100000 in
set_option maxHeartbeats 1000000 in
theorem texts_short (a s : ByteArray) (w : World) (h1 : a.size ≤ 4096) (h2 : s.size ≤ 4096) :
    Calls Try.prog 7 #[.string a, .string s] w fun e w' => e = .returned (.bool true) ∧ Below w.heap.size w w' := by
  have h1' : (a.size : Int) ≤ 4096 := by omega
  have h2' : (s.size : Int) ≤ 4096 := by omega
  have hx := txL_size a.data.toList (by rw [size_list]; omega)
  have hcat : ∀ w : World, (Op.stringOp .add ⟨(txL a.data.toList).toArray⟩ s).run Try.prog w = .ok (.string (⟨(txL a.data.toList).toArray⟩ ++ s)) w := fun w => run_string_add_sum w _ _ (by rw [mk_size]; omega)
  go_enter Try.func7, Try.ntmps7
  go_wp2_with fail
  refine (text_code a _ (by omega)).mono ?_
  rintro e w1 ⟨rfl, b1⟩
  go_wp2_with fail
  refine (text_ref a _ (by omega)).mono ?_
  rintro e w2 ⟨rfl, b2⟩
  go_wp2_with fail
  refine (taketext_code s _ (by omega)).mono ?_
  rintro e w3 ⟨rfl, b3⟩
  go_wp2_with fail
  refine (taketext_ref s _ (by omega)).mono ?_
  rintro e w4 ⟨rfl, b4⟩
  go_wp2_with fail
  refine (taketext_back a s _ (by omega) (by omega)).mono ?_
  rintro e w5 ⟨rfl, b5⟩
  go_wp2_with fail
  refine (texts_any _).mono ?_
  rintro e w6 ⟨rfl, b6⟩
  go_wp2
  go_ret
  exact ⟨rfl, bt (bt (bt (bt (bt b1 b2) b3) b4) b5) b6⟩
theorem walk_VarintTexts (a : ByteArray) (ha : a.size ≤ 140737488351232) (s : ByteArray) (hs : s.size ≤ 140737488351232) (w : World) :
    Calls Try.prog 7 #[.string a, .string s] w fun e w' => e = .returned (.bool true) ∧ Below w.heap.size w w' := by
  by_cases h : (4096 < a.size ∧ a.size ≤ 262144) ∨ 4096 < s.size
  · exact texts_skip a s w (by omega) ha hs
  · by_cases h1 : a.size ≤ 4096
    · exact texts_short a s w h1 (by omega)
    · exact texts_long a s w (by omega) (by omega) ha
end Go.Proofs.Ytjapgabnjlacpaa
