/-
  Layer 2 (crc): the walks of the laws CrcSums, CrcJoins, CrcSeals. Conditions: texts within the form's reach.
-/
import Derived.Test.YtaonkiagbppeeaaCs
namespace Go.Proofs.Ytaonkiagbppeeaa
open Go.RowKit

theorem sum_nine (w : World) : Calls Try.prog 10 #[.string ⟨#[49, 50, 51, 52, 53, 54, 55, 56, 57]⟩] w fun e w' => e = .returned (.int .i64 3808858755) ∧ w = w' := by
  have h := sum_code ⟨#[49, 50, 51, 52, 53, 54, 55, 56, 57]⟩ w (by decide)
  rw [show crcV 0 (⟨#[49, 50, 51, 52, 53, 54, 55, 56, 57]⟩ : ByteArray).data.toList = 3808858755 by decide +kernel] at h
  exact h
theorem sum_none (w : World) : Calls Try.prog 10 #[.string ⟨#[]⟩] w fun e w' => e = .returned (.int .i64 0) ∧ w = w' := by
  have h := sum_code ⟨#[]⟩ w (by decide)
  rw [show crcV 0 (⟨#[]⟩ : ByteArray).data.toList = 0 by decide +kernel] at h
  exact h
theorem sums_any (w : World) : Calls Try.prog 9 #[] w fun e w' => e = .returned (.bool true) ∧ w = w' := by
  go_enter Try.func9, Try.ntmps9
  go_wp2_with fail
  refine (sum_nine _).mono ?_
  rintro e w' ⟨rfl, rfl⟩
  go_wp2_with fail
  refine (sum_none _).mono ?_
  rintro e w' ⟨rfl, rfl⟩
  go_wp2
  go_ret
  exact ⟨rfl, rfl⟩
theorem seal_none (w : World) : Calls Try.prog 15 #[.string ⟨#[]⟩] w fun e w' => e = .returned (.string ⟨#[0, 0, 0, 0]⟩) ∧ Below w.heap.size w w' := by
  have h := seal_code ⟨#[]⟩ w (by decide)
  rw [show (⟨#[]⟩ : ByteArray) ++ ⟨(tailL (⟨#[]⟩ : ByteArray).data.toList).toArray⟩ = ⟨#[0, 0, 0, 0]⟩ by decide +kernel] at h
  exact h
theorem check_zero (w : World) : Calls Try.prog 17 #[.string ⟨#[0, 0, 0, 0]⟩] w fun e w' => e = .returned (.bool true) ∧ Below w.heap.size w w' := by
  have h := check_code ⟨#[0, 0, 0, 0]⟩ w (by decide)
  rw [show chk (⟨#[0, 0, 0, 0]⟩ : ByteArray).data.toList = true by decide +kernel] at h
  exact h
theorem check_abc (w : World) : Calls Try.prog 17 #[.string ⟨#[97, 98, 99]⟩] w fun e w' => e = .returned (.bool false) ∧ Below w.heap.size w w' := by
  have h := check_code ⟨#[97, 98, 99]⟩ w (by decide)
  rw [show chk (⟨#[97, 98, 99]⟩ : ByteArray).data.toList = false by decide +kernel] at h
  exact h
theorem seals_any (w : World) : Calls Try.prog 14 #[] w fun e w' => e = .returned (.bool true) ∧ Below w.heap.size w w' := by
  go_enter Try.func14, Try.ntmps14
  go_wp2_with fail
  refine (seal_none _).mono ?_
  rintro e w1 ⟨rfl, b1⟩
  go_wp2_with fail
  refine (check_zero _).mono ?_
  rintro e w2 ⟨rfl, b2⟩
  go_wp2_with fail
  refine (check_abc _).mono ?_
  rintro e w3 ⟨rfl, b3⟩
  go_wp2
  go_ret
  exact ⟨rfl, bt (bt b1 b2) b3⟩

set_option maxHeartbeats 1000000 in
theorem walk_CrcSums (sum : Int) (_ : (Lit.int .i64 sum).wf = true) (s : ByteArray) (hs : s.size ≤ 140737488351232) (w : World) :
    Calls Try.prog 3 #[.int .i64 sum, .string s] w fun e w' => e = .returned (.bool true) ∧ Below w.heap.size w w' := by
  by_cases h : 4096 < s.size
  · go_enter Try.func3, Try.ntmps3
    go_wp2_with fail
    refine (sums_any _).mono ?_
    rintro e w1 ⟨rfl, rfl⟩
    go_wp2
    go_ret
    exact ⟨rfl, Below.refl _ _⟩
  · have h' : (s.size : Int) ≤ 4096 := by omega
    go_enter Try.func3, Try.ntmps3
    go_wp2_with fail
    refine (sum_code s _ (by omega)).mono ?_
    rintro e w1 ⟨rfl, rfl⟩
    go_wp2_with fail
    refine (sum_ref s _ (by omega)).mono ?_
    rintro e w1 ⟨rfl, rfl⟩
    go_wp2_with fail
    refine (more_code sum s _ (by omega)).mono ?_
    rintro e w1 ⟨rfl, rfl⟩
    go_wp2_with fail
    refine (more_ref sum s _ (by omega)).mono ?_
    rintro e w1 ⟨rfl, rfl⟩
    go_wp2_with fail
    refine (sums_any _).mono ?_
    rintro e w1 ⟨rfl, rfl⟩
    go_wp2
    go_ret
    exact ⟨rfl, Below.refl _ _⟩

/-! ### CrcJoins -/
theorem more_at (C : Nat) (hC : C < 4294967296) (s : ByteArray) (w : World) (hs : s.size ≤ 9223372036854775807) :
    Calls Try.prog 12 #[.int .i64 (C : Int), .string s] w fun e w' => e = .returned (.int .i64 (crcV C s.data.toList : Nat)) ∧ w = w' := by
  have h := more_code C s w hs
  rw [show ((C : Int) % 4294967296).toNat = C by omega] at h
  exact h
theorem more_none (C : Nat) (hC : C < 4294967296) (w : World) :
    Calls Try.prog 12 #[.int .i64 (C : Int), .string ⟨#[]⟩] w fun e w' => e = .returned (.int .i64 (C : Int)) ∧ w = w' := by
  have h := more_at C hC ⟨#[]⟩ w (by decide)
  rw [show (⟨#[]⟩ : ByteArray).data.toList = [] from rfl, crcV_nil] at h
  exact h
theorem sum_two (a b : ByteArray) (w : World) (ha : a.size ≤ 4096) (hb : b.size ≤ 4096) :
    Calls Try.prog 10 #[.string (a ++ b)] w fun e w' => e = .returned (.int .i64 (crcV (crcV 0 a.data.toList) b.data.toList : Nat)) ∧ w = w' := by
  have h := sum_code (a ++ b) w (by rw [ByteArray.size_append']; omega)
  rw [show (a ++ b).data.toList = a.data.toList ++ b.data.toList by simp, crcV_append] at h
  exact h
theorem sum_three (a b c : ByteArray) (w : World) (ha : a.size ≤ 4096) (hb : b.size ≤ 4096) (hc : c.size ≤ 4096) :
    Calls Try.prog 10 #[.string (a ++ b ++ c)] w fun e w' => e = .returned (.int .i64 (crcV (crcV (crcV 0 a.data.toList) b.data.toList) c.data.toList : Nat)) ∧ w = w' := by
  have h := sum_code (a ++ b ++ c) w (by rw [ByteArray.size_append', ByteArray.size_append']; omega)
  rw [show (a ++ b ++ c).data.toList = a.data.toList ++ b.data.toList ++ c.data.toList by simp, crcV_append, crcV_append] at h
  exact h
theorem cat_le (a b : ByteArray) (ha : a.size ≤ 8192) (hb : b.size ≤ 4096) (P : Program) (w : World) : (Op.stringOp .add a b).run P w = .ok (.string (a ++ b)) w :=
  run_string_add_sum w _ _ (by omega)
theorem zero32 : (0 : Nat) < 4294967296 := by decide

set_option maxHeartbeats 1000000 in
theorem joins_far (a b c : ByteArray) (w : World) (h : (4096 < a.size ∨ 4096 < b.size) ∨ 4096 < c.size) :
    Calls Try.prog 4 #[.string a, .string b, .string c] w fun e w' => e = .returned (.bool true) ∧ Below w.heap.size w w' := by
  by_cases ha : 4096 < a.size
  · clear h
    go_enter Try.func4, Try.ntmps4
    go_wp2_with fail
    refine (sums_any _).mono ?_
    rintro e w1 ⟨rfl, rfl⟩
    go_wp2
    go_ret
    exact ⟨rfl, Below.refl _ _⟩
  · have ha' : (a.size : Int) ≤ 4096 := by omega
    by_cases hb : 4096 < b.size
    · clear h
      go_enter Try.func4, Try.ntmps4
      go_wp2_with fail
      refine (sums_any _).mono ?_
      rintro e w1 ⟨rfl, rfl⟩
      go_wp2
      go_ret
      exact ⟨rfl, Below.refl _ _⟩
    · have hb' : (b.size : Int) ≤ 4096 := by omega
      have hc : 4096 < c.size := by omega
      clear h
      go_enter Try.func4, Try.ntmps4
      go_wp2_with fail
      refine (sums_any _).mono ?_
      rintro e w1 ⟨rfl, rfl⟩
      go_wp2
      go_ret
      exact ⟨rfl, Below.refl _ _⟩
set_option maxHeartbeats 1000000 in
theorem joins_near (a b c : ByteArray) (w : World) (ha : a.size ≤ 4096) (hb : b.size ≤ 4096) (hc : c.size ≤ 4096) :
    Calls Try.prog 4 #[.string a, .string b, .string c] w fun e w' => e = .returned (.bool true) ∧ Below w.heap.size w w' := by
  have ha' : (a.size : Int) ≤ 4096 := by omega
  have hb' : (b.size : Int) ≤ 4096 := by omega
  have hc' : (c.size : Int) ≤ 4096 := by omega
  have c1 := cat_le a b (by omega) hb Try.prog
  have c2 := cat_le (a ++ b) c (by rw [ByteArray.size_append']; omega) hc Try.prog
  go_enter Try.func4, Try.ntmps4
  go_wp2_with fail
  refine (sum_code a _ (by omega)).mono ?_
  rintro e w1 ⟨rfl, rfl⟩
  go_wp2_with fail
  refine (more_at _ (crcV_lt _ zero32) b _ (by omega)).mono ?_
  rintro e w1 ⟨rfl, rfl⟩
  go_wp2_with fail
  refine (sum_two a b _ ha hb).mono ?_
  rintro e w1 ⟨rfl, rfl⟩
  go_wp2_with fail
  refine (sum_code a _ (by omega)).mono ?_
  rintro e w1 ⟨rfl, rfl⟩
  go_wp2_with fail
  refine (more_at _ (crcV_lt _ zero32) b _ (by omega)).mono ?_
  rintro e w1 ⟨rfl, rfl⟩
  go_wp2_with fail
  refine (more_at _ (crcV_lt _ (crcV_lt _ zero32)) c _ (by omega)).mono ?_
  rintro e w1 ⟨rfl, rfl⟩
  go_wp2_with fail
  refine (sum_three a b c _ ha hb hc).mono ?_
  rintro e w1 ⟨rfl, rfl⟩
  go_wp2_with fail
  refine (sum_code a _ (by omega)).mono ?_
  rintro e w1 ⟨rfl, rfl⟩
  go_wp2_with fail
  refine (more_none _ (crcV_lt _ zero32) _).mono ?_
  rintro e w1 ⟨rfl, rfl⟩
  go_wp2_with fail
  refine (sum_code a _ (by omega)).mono ?_
  rintro e w1 ⟨rfl, rfl⟩
  go_wp2_with fail
  refine (sums_any _).mono ?_
  rintro e w1 ⟨rfl, rfl⟩
  go_wp2
  go_ret
  exact ⟨rfl, Below.refl _ _⟩
theorem walk_CrcJoins (a : ByteArray) (_ : a.size ≤ 140737488351232) (b : ByteArray) (_ : b.size ≤ 140737488351232) (c : ByteArray) (_ : c.size ≤ 140737488351232) (w : World) :
    Calls Try.prog 4 #[.string a, .string b, .string c] w fun e w' => e = .returned (.bool true) ∧ Below w.heap.size w w' := by
  by_cases h : (4096 < a.size ∨ 4096 < b.size) ∨ 4096 < c.size
  · exact joins_far a b c w h
  · exact joins_near a b c w (by omega) (by omega) (by omega)

/-! ### CrcSeals -/
theorem chk_seal (l : List UInt8) : chk (l ++ tailL l) = true := by
  have h : (l ++ tailL l).length = l.length + 4 := by rw [List.length_append, tailL_length]
  rw [chk, h, show l.length + 4 - 4 = l.length by omega, List.drop_left, List.take_left]
  simp
theorem check_seal (s : ByteArray) (w : World) (hs : s.size ≤ 4096) :
    Calls Try.prog 17 #[.string (s ++ ⟨(tailL s.data.toList).toArray⟩)] w fun e w' => e = .returned (.bool true) ∧ Below w.heap.size w w' := by
  have h := check_code (s ++ ⟨(tailL s.data.toList).toArray⟩) w (by rw [ByteArray.size_append', size_mkl (tailL s.data.toList), tailL_length]; omega)
  rw [show (s ++ ⟨(tailL s.data.toList).toArray⟩ : ByteArray).data.toList = s.data.toList ++ tailL s.data.toList by simp, chk_seal] at h
  exact h
set_option maxHeartbeats 1000000 in
theorem walk_CrcSeals (s : ByteArray) (_ : s.size ≤ 140737488351232) (t : ByteArray) (_ : t.size ≤ 140737488351232) (w : World) :
    Calls Try.prog 5 #[.string s, .string t] w fun e w' => e = .returned (.bool true) ∧ Below w.heap.size w w' := by
  by_cases ha : 4096 < s.size
  · go_enter Try.func5, Try.ntmps5
    go_wp2_with fail
    refine (seals_any _).mono ?_
    rintro e w1 ⟨rfl, b1⟩
    go_wp2
    go_ret
    exact ⟨rfl, b1⟩
  · have ha' : (s.size : Int) ≤ 4096 := by omega
    by_cases hb : 4096 < t.size
    · go_enter Try.func5, Try.ntmps5
      go_wp2_with fail
      refine (seals_any _).mono ?_
      rintro e w1 ⟨rfl, b1⟩
      go_wp2
      go_ret
      exact ⟨rfl, b1⟩
    · have hb' : (t.size : Int) ≤ 4096 := by omega
      go_enter Try.func5, Try.ntmps5
      go_wp2_with fail
      refine (seal_code s _ (by omega)).mono ?_
      rintro e w1 ⟨rfl, b1⟩
      go_wp2_with fail
      refine (seal_ref s _ (by omega)).mono ?_
      rintro e w2 ⟨rfl, b2⟩
      go_wp2_with fail
      refine (check_code t _ (by omega)).mono ?_
      rintro e w3 ⟨rfl, b3⟩
      go_wp2_with fail
      refine (check_ref t _ (by omega)).mono ?_
      rintro e w4 ⟨rfl, b4⟩
      go_wp2_with fail
      refine (seal_code s _ (by omega)).mono ?_
      rintro e w5 ⟨rfl, b5⟩
      go_wp2_with fail
      refine (check_seal s _ (by omega)).mono ?_
      rintro e w6 ⟨rfl, b6⟩
      go_wp2_with fail
      refine (seals_any _).mono ?_
      rintro e w7 ⟨rfl, b7⟩
      go_wp2
      go_ret
      exact ⟨rfl, bt (bt (bt (bt (bt (bt b1 b2) b3) b4) b5) b6) b7⟩
end Go.Proofs.Ytaonkiagbppeeaa
