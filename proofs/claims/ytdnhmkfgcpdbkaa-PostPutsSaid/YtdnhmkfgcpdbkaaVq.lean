/-
  Layer 1 (varint): what its contracts come to: texts that are cut, texts there and back, low bits. Conditions: texts within the reach.
-/
import Derived.Test.YtdnhmkfgcpdbkaaVx
namespace Go.Proofs.Ytdnhmkfgcpdbkaa
open Go.RowKit

theorem mk_size (l : List UInt8) : (⟨l.toArray⟩ : ByteArray).size = l.length := by rw [ByteArray.size_mk', List.size_toArray]
theorem mk_extract (l : List UInt8) (k : Nat) : (⟨l.toArray⟩ : ByteArray).extract 0 k = ⟨(l.take k).toArray⟩ := by
  rw [Lib.extract_eq]
  simp
theorem ttR_cut (l : List UInt8) (k : Nat) (hl : l.length ≤ 262144) (hk : k < (txL l).length) : ttR ((txL l).take k) = ([], 0, 10) := by
  have h9 := vL_len9 (n := l.length) (by omega)
  unfold txL at hk ⊢
  rw [List.length_append] at hk
  by_cases h : k < (vL l.length).length
  · rw [List.take_append_of_le_length (by omega)]
    exact ttR_err (by rw [tk_cut l.length k 0 0 h (by omega)]) (by decide)
  · have e : (vL l.length ++ l).take k = vL l.length ++ l.take (k - (vL l.length).length) := by
      rw [List.take_append, List.take_of_length_le (by omega)]
    rw [e]
    have ht := tk_put (l.take (k - (vL l.length).length)) l.length 0 0 (by omega) (fun _ => rfl) (by omega)
    simp only [Nat.zero_add, Nat.mul_zero, Nat.pow_zero, Nat.mul_one] at ht
    refine ttR_short ht hl ?_
    rw [List.length_append, List.length_take]
    omega
theorem and_low (n : Int) : ∃ N : Nat, N ≤ 4611686018427387903 ∧ bits .and .i64 n 4611686018427387903 = (N : Int) := by
  refine ⟨(BitVec.ofInt 64 n &&& BitVec.ofInt 64 4611686018427387903).toNat, ?_, ?_⟩
  · rw [BitVec.toNat_and]
    exact Nat.and_le_right
  · show IntKind.i64.wrap ((BitVec.ofInt 64 n &&& BitVec.ofInt 64 4611686018427387903).toNat : Int) = _
    refine i64_wrap_nat _ ?_
    rw [BitVec.toNat_and]
    exact Nat.lt_of_le_of_lt Nat.and_le_right (by decide)
theorem and_16 (n : Int) : ∃ N : Nat, N ≤ 65535 ∧ bits .and .i64 n 65535 = (N : Int) := by
  refine ⟨(BitVec.ofInt 64 n &&& BitVec.ofInt 64 65535).toNat, ?_, ?_⟩
  · rw [BitVec.toNat_and]
    exact Nat.and_le_right
  · show IntKind.i64.wrap ((BitVec.ofInt 64 n &&& BitVec.ofInt 64 65535).toNat : Int) = _
    refine i64_wrap_nat _ ?_
    rw [BitVec.toNat_and]
    exact Nat.lt_of_le_of_lt Nat.and_le_right (by decide)

theorem txL_size (l : List UInt8) (h : l.length ≤ 262144) : (txL l).length ≤ 262153 := by
  unfold txL
  have h9 := vL_len9 (n := l.length) (by omega)
  rw [List.length_append]
  omega
theorem ttR_back (l t : List UInt8) (h : l.length ≤ 262144) : ttR (txL l ++ t) = (l, (txL l).length, 0) := by
  have h9 := vL_len9 (n := l.length) (by omega)
  have ht := tk_put (l ++ t) l.length 0 0 (by omega) (fun _ => rfl) (by omega)
  simp only [Nat.zero_add, Nat.mul_zero, Nat.pow_zero, Nat.mul_one] at ht
  unfold txL
  rw [List.append_assoc]
  rw [ttR_ok ht h (by rw [List.length_append, List.length_append]; omega), List.drop_left, List.take_left, List.length_append]
end Go.Proofs.Ytdnhmkfgcpdbkaa
