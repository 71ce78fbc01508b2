/-
  Layer 2 (crc), contracts of More and Sum, of the code and of the document's answer: both are the plain sum. Conditions: lengths within the reach.
-/
import Derived.Test.YtobhjmkaamjoeaaGreatRows
import Derived.Test.YtobhjmkaamjoeaaGreatVm
import Derived.Test.YtobhjmkaamjoeaaGreatCm
import Derived.Test.YtobhjmkaamjoeaaGreatWl
import Derived.WalkLawsBesides
import Derived.WalkSpells
import Derived.LoopN
import Derived.Lib.Hide
import Derived.Outline
namespace Go.Proofs.YtobhjmkaamjoeaaGreat
open Go.RowKit

theorem i64_xor_nat (a b : Nat) (ha : a < 9223372036854775808) (hb : b < 9223372036854775808) : bits .xor .i64 (a : Int) (b : Int) = ((a ^^^ b : Nat) : Int) := by
  have hx : a ^^^ b < 2 ^ 63 := Nat.xor_lt_two_pow (by omega) (by omega)
  show IntKind.i64.wrap ((BitVec.ofInt 64 (a : Int) ^^^ BitVec.ofInt 64 (b : Int)).toNat : Int) = _
  rw [BitVec.toNat_xor, ofInt_u64 a (by omega), ofInt_u64 b (by omega), IntKind.wrap_i64]
  omega
theorem not32 (c : Nat) (h : c < 4294967296) : bits .xor .u32 IntKind.u32.max (c : Int) = ((c ^^^ 4294967295 : Nat) : Int) := by
  rw [Nat.xor_comm]
  exact u32_xor_nat 4294967295 c (by omega) h
theorem step32 (c : Nat) (h : c < 4294967296) : bits .xor .u32 ((c : Int) / 2) (bits .and .u32 2197175160 (-bits .and .u32 (c : Int) 1 % 4294967296)) = (st c : Nat) := by
  have h1 := u32_and_nat c 1 h (by omega)
  rw [nat_mask1] at h1
  rw [show ((1 : Int)) = ((1 : Nat) : Int) from rfl, h1, show (c : Int) / 2 = ((c / 2 : Nat) : Int) by omega]
  unfold st
  have hc : c % 2 = 0 ∨ c % 2 = 1 := by omega
  rcases hc with hc | hc
  · rw [hc, if_neg (by omega), show (-((0 : Nat) : Int)) % 4294967296 = ((0 : Nat) : Int) by omega]
    have h2 := u32_and_nat 2197175160 0 (by omega) (by omega)
    rw [Nat.and_zero] at h2
    rw [show (2197175160 : Int) = ((2197175160 : Nat) : Int) from rfl, h2, u32_xor_nat (c / 2) 0 (by omega) (by omega), Nat.xor_zero]
  · rw [hc, if_pos rfl, show (-((1 : Nat) : Int)) % 4294967296 = ((4294967295 : Nat) : Int) by omega]
    have h2 := u32_and_nat 2197175160 4294967295 (by omega) (by omega)
    rw [show (2197175160 : Nat) &&& 4294967295 = 2197175160 by decide] at h2
    rw [show (2197175160 : Int) = ((2197175160 : Nat) : Int) from rfl, h2, u32_xor_nat (c / 2) 2197175160 (by omega) (by omega)]
theorem end32 (R : Nat) (h : R < 4294967296) : wrap64 (bits .xor .u32 IntKind.u32.max (R : Int)) = (R ^^^ 4294967295 : Nat) := by
  have h1 := xor_lt32 h (b := 4294967295) (by omega)
  rw [not32 R h]
  exact wrap64_nat _ (by omega)
theorem take_snoc (s : ByteArray) (k : Nat) (h : k < s.size) : s.data.toList.take (k + 1) = s.data.toList.take k ++ [s[k]] := by
  rw [List.take_succ_eq_append_getElem (by simpa using h)]; rfl

set_option maxHeartbeats 1000000 in
theorem more_code (sum : Int) (s : ByteArray) (w : World) (hs : s.size ≤ 9223372036854775807) :
    Calls Tryz.prog 103 #[.int .i64 sum, .string s] w fun e w' => e = .returned (.int .i64 (crcV (sum % 4294967296).toNat s.data.toList : Nat)) ∧ w = w' := by
  obtain ⟨C, hC⟩ : ∃ C : Nat, sum % 4294967296 = (C : Int) := ⟨(sum % 4294967296).toNat, by omega⟩
  have hC1 : C < 4294967296 := by omega
  have h0 := not32 C hC1
  have hM := xor_lt32 hC1 (b := 4294967295) (by omega)
  have H0 := Lib.hid h0
  have HC := Lib.hid hC
  clear h0 hC
  go_enter Tryz.func103, Tryz.ntmps103
  go_wp2
  rw [HC.out, H0.out]
  go_loop [5, 12] (fun c i => ∃ k : Nat, k ≤ s.size ∧ i = .int .i64 k ∧ c = .int .u32 (crcR (C ^^^ 4294967295) (s.data.toList.take k) : Nat)) (fun _ i => s.size - (intOf i).toNat)
  case atStart => exact ⟨0, by omega, rfl, by simp [crcR_nil]⟩
  case round =>
    obtain ⟨k, hk, rfl, rfl⟩ := hrel
    by_cases hlt : k < s.size
    · have hb := s[k].toNat_lt
      obtain ⟨R, hR⟩ : ∃ R, R = crcR (C ^^^ 4294967295) (s.data.toList.take k) := ⟨_, rfl⟩
      have hR1 : R < 4294967296 := by rw [hR]; exact crcR_lt _ hM
      have hx := u32_xor_nat R s[k].toNat hR1 (by omega)
      have hX1 := xor_lt32 hR1 (u8lt s[k])
      have HR := Lib.hid hR
      have HX := Lib.hid hx
      clear hR hx
      rw [← HR.out]
      go_wp2
      rw [HX.out]
      generalize hD : R ^^^ s[k].toNat = D at hX1
      have HD := Lib.hid hD
      clear hD
      go_loop [5, 21] (fun c i => ∃ j : Nat, j ≤ 8 ∧ i = .int .i64 j ∧ c = .int .u32 (stn j D : Nat)) (fun _ i => 8 - (intOf i).toNat)
      case atStart => exact ⟨0, by omega, rfl, rfl⟩
      case round =>
        obtain ⟨j, hj, rfl, rfl⟩ := hrel
        by_cases hlt8 : j < 8
        · have hS := stn_lt j hX1
          go_wp2
          go_round
          case rel =>
            exact ⟨j + 1, by omega, by go_num, congrArg (Value.int .u32) (step32 _ hS)⟩
          case measure => simp [intOf]; omega
        · obtain rfl : j = 8 := by omega
          go_wp2
          go_round
          case rel =>
            refine ⟨k + 1, by omega, by go_num, ?_⟩
            rw [take_snoc s k hlt, crcR_snoc, ← HR.out, HD.out]
          case measure => simp [intOf]; omega
    · obtain rfl : k = s.size := by omega
      go_wp2
      go_ret
      refine ⟨congrArg Ending.returned (congrArg (Value.int .i64) ?_), rfl⟩
      rw [show (sum % 4294967296).toNat = C by rw [HC.out]; exact Int.toNat_natCast C, end32 _ (crcR_lt _ hM), List.take_of_length_le (by simp)]
      rfl

/-- The lowest bits of any number of 64 bits. -/
theorem i64_low (k : Nat) (hk : k < 63) (m : Int) (n : Int) (hm : m = 2 ^ k - 1) : bits .and .i64 n m = n % 2 ^ k := by
  have hp : (2 : Nat) ^ k ≤ 2 ^ 62 := Nat.pow_le_pow_right (by omega) (by omega)
  have hp1 : 1 ≤ (2 : Nat) ^ k := Nat.one_le_two_pow
  have hm' : m = ((2 ^ k - 1 : Nat) : Int) := by
    rw [hm]
    have : ((2 ^ k : Nat) : Int) = (2 : Int) ^ k := by simp
    omega
  have e : ((2 : Int) ^ k) = ((2 ^ k : Nat) : Int) := by simp
  show IntKind.i64.wrap ((BitVec.ofInt 64 n &&& BitVec.ofInt 64 m).toNat : Int) = _
  rw [BitVec.toNat_and, hm', ofInt_u64 (2 ^ k - 1) (by omega), Nat.and_two_pow_sub_one_eq_mod, BitVec.toNat_ofInt, IntKind.wrap_i64, e]
  have hd : ((2 : Nat) ^ k) ∣ 18446744073709551616 := by
    have := Nat.pow_dvd_pow 2 (show k ≤ 64 by omega)
    simpa using this
  have h0 : 0 ≤ n % 18446744073709551616 := by omega
  have h1 : (((n % 18446744073709551616).toNat % 2 ^ k : Nat) : Int) = n % ((2 ^ k : Nat) : Int) := by
    rw [Int.natCast_emod, Int.toNat_of_nonneg h0]
    exact Int.emod_emod_of_dvd n (Int.natCast_dvd_natCast.2 hd)
  have h2 : (n % 18446744073709551616).toNat % 2 ^ k < 2 ^ k := Nat.mod_lt _ hp1
  rw [show ((2 ^ 64 : Nat) : Int) = 18446744073709551616 from rfl, h1]
  omega
theorem and32 (sum : Int) (C : Nat) (h : sum % 4294967296 = (C : Int)) : bits .and .i64 sum 4294967295 = (C : Int) := by
  rw [← h]
  exact i64_low 32 (by omega) 4294967295 sum (by decide)
theorem xor64 (c : Nat) (h : c < 4294967296) : bits .xor .i64 (c : Int) 4294967295 = ((c ^^^ 4294967295 : Nat) : Int) := i64_xor_nat c 4294967295 (by omega) (by omega)
theorem bit1 (c : Nat) (h : c < 4294967296) : bits .and .i64 (c : Int) 1 = (c % 2 : Nat) := by
  have h1 := i64_and_nat c 1 (by omega) (by omega)
  rw [nat_mask1] at h1
  exact h1

set_option maxHeartbeats 1000000 in
theorem more_ref (sum : Int) (s : ByteArray) (w : World) (hs : s.size ≤ 9223372036854775807) :
    Calls Tryz.prog 93 #[.int .i64 sum, .string s] w fun e w' => e = .returned (.int .i64 (crcV (sum % 4294967296).toNat s.data.toList : Nat)) ∧ w = w' := by
  obtain ⟨C, hC⟩ : ∃ C : Nat, sum % 4294967296 = (C : Int) := ⟨(sum % 4294967296).toNat, by omega⟩
  have hC1 : C < 4294967296 := by omega
  have h0 := xor64 C hC1
  have h1 := and32 sum C hC
  have hM := xor_lt32 hC1 (b := 4294967295) (by omega)
  have H0 := Lib.hid h0
  have H1 := Lib.hid h1
  have HC := Lib.hid hC
  clear h0 hC h1
  go_enter Tryz.func93, Tryz.ntmps93
  go_wp2
  rw [H1.out, H0.out]
  go_loop [5, 6] (fun c i => ∃ k : Nat, k ≤ s.size ∧ i = .int .i64 k ∧ c = .int .i64 (crcR (C ^^^ 4294967295) (s.data.toList.take k) : Nat)) (fun _ i => s.size - (intOf i).toNat)
  case atStart => exact ⟨0, by omega, rfl, by simp [crcR_nil]⟩
  case round =>
    obtain ⟨k, hk, rfl, rfl⟩ := hrel
    by_cases hlt : k < s.size
    · have hb := s[k].toNat_lt
      obtain ⟨R, hR⟩ : ∃ R, R = crcR (C ^^^ 4294967295) (s.data.toList.take k) := ⟨_, rfl⟩
      have hR1 : R < 4294967296 := by rw [hR]; exact crcR_lt _ hM
      have hx := i64_xor_nat R s[k].toNat (by omega) (by omega)
      have hX1 := xor_lt32 hR1 (u8lt s[k])
      have HR := Lib.hid hR
      have HX := Lib.hid hx
      clear hR hx
      rw [← HR.out]
      go_wp2
      rw [HX.out]
      generalize hD : R ^^^ s[k].toNat = D at hX1
      have HD := Lib.hid hD
      clear hD
      go_loop [5, 7] (fun c i => ∃ j : Nat, j ≤ 8 ∧ i = .int .i64 j ∧ c = .int .i64 (stn j D : Nat)) (fun _ i => 8 - (intOf i).toNat)
      case atStart => exact ⟨0, by omega, rfl, rfl⟩
      case round =>
        obtain ⟨j, hj, rfl, rfl⟩ := hrel
        by_cases hlt8 : j < 8
        · have hS := stn_lt j hX1
          have hb1 := bit1 _ hS
          have hxx := i64_xor_nat (stn j D / 2) 2197175160 (by omega) (by omega)
          have hS' : stn (j + 1) D = st (stn j D) := rfl
          by_cases hodd : stn j D % 2 = 1
          · have hbt : (bits .and .i64 ((stn j D : Nat) : Int) 1 == 1) = true := by rw [hb1, hodd]; rfl
            rw [st, if_pos hodd] at hS'
            have HXX := Lib.hid hxx
            have HS' := Lib.hid hS'
            clear hb1 hxx hS' hodd
            go_wp2
            go_round
            case rel =>
              exact ⟨j + 1, by omega, by go_num, congrArg (Value.int .i64) (by rw [HS'.out]; exact HXX.out)⟩
            case measure => simp [intOf]; omega
          · have hbt : (bits .and .i64 ((stn j D : Nat) : Int) 1 == 1) = false := by rw [hb1, show stn j D % 2 = 0 by omega]; rfl
            rw [st, if_neg hodd] at hS'
            have HS' := Lib.hid hS'
            clear hb1 hxx hS' hodd
            go_wp2
            go_round
            case rel =>
              exact ⟨j + 1, by omega, by go_num, congrArg (Value.int .i64) (by rw [HS'.out]; omega)⟩
            case measure => simp [intOf]; omega
        · obtain rfl : j = 8 := by omega
          go_wp2
          go_round
          case rel =>
            refine ⟨k + 1, by omega, by go_num, ?_⟩
            rw [take_snoc s k hlt, crcR_snoc, ← HR.out, HD.out]
          case measure => simp [intOf]; omega
    · obtain rfl : k = s.size := by omega
      go_wp2
      go_ret
      refine ⟨congrArg Ending.returned (congrArg (Value.int .i64) ?_), rfl⟩
      rw [show (sum % 4294967296).toNat = C by rw [HC.out]; exact Int.toNat_natCast C, List.take_of_length_le (by simp), xor64 _ (crcR_lt _ hM)]
      rfl

/-! ### Sum -/
theorem sum_code (s : ByteArray) (w : World) (hs : s.size ≤ 9223372036854775807) :
    Calls Tryz.prog 102 #[.string s] w fun e w' => e = .returned (.int .i64 (crcV 0 s.data.toList : Nat)) ∧ w = w' := by
  go_enter Tryz.func102, Tryz.ntmps102
  go_wp2_with fail
  refine (more_code 0 s _ hs).mono ?_
  rintro e w' ⟨rfl, rfl⟩
  go_wp2
  go_ret
  exact ⟨rfl, rfl⟩
theorem sum_ref (s : ByteArray) (w : World) (hs : s.size ≤ 9223372036854775807) :
    Calls Tryz.prog 64 #[.string s] w fun e w' => e = .returned (.int .i64 (crcV 0 s.data.toList : Nat)) ∧ w = w' := by
  go_enter Tryz.func64, Tryz.ntmps64
  go_wp2_with fail
  refine (more_ref 0 s _ hs).mono ?_
  rintro e w' ⟨rfl, rfl⟩
  go_wp2
  go_ret
  exact ⟨rfl, rfl⟩
end Go.Proofs.YtobhjmkaamjoeaaGreat
