/-
  Bits of any number of 64 bits: the lowest ones; one of them. No function of the program is spoken of. Conditions: none.
-/
import Derived.Test.YtdnhmkfgcpdbkaaVm
namespace Go.Proofs.Ytdnhmkfgcpdbkaa
open Go.RowKit

theorem ofInt_u64b (n : Nat) (h : n < 18446744073709551616) : (BitVec.ofInt 64 (n : Int)).toNat = n := by
  rw [BitVec.toNat_ofInt]
  omega
/-- The lowest bits of any number of 64 bits. -/
theorem i64_lowb (k : Nat) (hk : k < 63) (m : Int) (n : Int) (hm : m = 2 ^ k - 1) : bits .and .i64 n m = n % 2 ^ k := by
  have hp : (2 : Nat) ^ k ≤ 2 ^ 62 := Nat.pow_le_pow_right (by omega) (by omega)
  have hp1 : 1 ≤ (2 : Nat) ^ k := Nat.one_le_two_pow
  have hm' : m = ((2 ^ k - 1 : Nat) : Int) := by
    rw [hm]
    have : ((2 ^ k : Nat) : Int) = (2 : Int) ^ k := by simp
    omega
  have e : ((2 : Int) ^ k) = ((2 ^ k : Nat) : Int) := by simp
  show IntKind.i64.wrap ((BitVec.ofInt 64 n &&& BitVec.ofInt 64 m).toNat : Int) = _
  rw [BitVec.toNat_and, hm', ofInt_u64b (2 ^ k - 1) (by omega), Nat.and_two_pow_sub_one_eq_mod, BitVec.toNat_ofInt, IntKind.wrap_i64, e]
  have hd : ((2 : Nat) ^ k) ∣ 18446744073709551616 := by
    have := Nat.pow_dvd_pow 2 (show k ≤ 64 by omega)
    simpa using this
  have h0 : 0 ≤ n % 18446744073709551616 := by omega
  have h1 : (((n % 18446744073709551616).toNat % 2 ^ k : Nat) : Int) = n % ((2 ^ k : Nat) : Int) := by
    rw [Int.natCast_emod, Int.toNat_of_nonneg h0]
    exact Int.emod_emod_of_dvd n (Int.natCast_dvd_natCast.2 hd)
  have h2 : (n % 18446744073709551616).toNat % 2 ^ k < 2 ^ k := Nat.mod_lt _ hp1
  rw [show ((2 ^ 64 : Nat) : Int) = 18446744073709551616 from rfl, h1]
  omega
/-- The lowest eight, as a number. -/
theorem low8 (n : Int) : ∃ m : Nat, bits .and .i64 n 255 = (m : Int) ∧ m < 256 := by
  have h := i64_lowb 8 (by omega) 255 n (by decide)
  refine ⟨(n % 256).toNat, ?_, by omega⟩
  rw [h]
  have : (2 : Int) ^ 8 = 256 := by decide
  rw [this]
  omega
/-- The lowest one. -/
theorem low1 (n : Int) : bits .and .i64 n 1 = 0 ∨ bits .and .i64 n 1 = 1 := by
  have h := i64_lowb 1 (by omega) 1 n (by decide)
  rw [h]
  have : (2 : Int) ^ 1 = 2 := by decide
  rw [this]
  omega
end Go.Proofs.Ytdnhmkfgcpdbkaa
