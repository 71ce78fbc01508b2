/-
  Plain mathematics of layer 1 (varint), no dump: numbers as groups of seven bits, four bytes of a number. Conditions: none.
-/
import Derived.WalkKit
import Derived.Laws.BitsAllLaws
import Derived.Laws.MathBits
namespace Go.Proofs.Ytdnhmkfgcpdbkaa
open Go.RowKit

/-! ### bits of int -/
theorem i64_or_nat (a b : Nat) (ha : a < 9223372036854775808) (hb : b < 9223372036854775808) : bits .or .i64 (a : Int) (b : Int) = ((a ||| b : Nat) : Int) := by
  have hx : a ||| b < 2 ^ 63 := Nat.or_lt_two_pow (by omega) (by omega)
  show IntKind.i64.wrap ((BitVec.ofInt 64 (a : Int) ||| BitVec.ofInt 64 (b : Int)).toNat : Int) = _
  rw [BitVec.toNat_or, ofInt_u64 a (by omega), ofInt_u64 b (by omega), IntKind.wrap_i64]
  omega
theorem i64_and_nat (a b : Nat) (ha : a < 9223372036854775808) (hb : b < 9223372036854775808) : bits .and .i64 (a : Int) (b : Int) = ((a &&& b : Nat) : Int) := by
  have hx : a &&& b < 2 ^ 63 := Nat.and_lt_two_pow _ (by omega)
  show IntKind.i64.wrap ((BitVec.ofInt 64 (a : Int) &&& BitVec.ofInt 64 (b : Int)).toNat : Int) = _
  rw [BitVec.toNat_and, ofInt_u64 a (by omega), ofInt_u64 b (by omega), IntKind.wrap_i64]
  omega
/-- What is below a power of two, joined with a multiple of it, is the sum. -/
theorem i64_join (i a c : Nat) (ha : a < 2 ^ i) (hc : a + c * 2 ^ i < 9223372036854775808) : bits .or .i64 (a : Int) ((c * 2 ^ i : Nat) : Int) = ((a + c * 2 ^ i : Nat) : Int) := by
  rw [i64_or_nat a _ (by omega) (by omega), Nat.or_comm, nat_join i _ a (Nat.mul_mod_left _ _) ha, Nat.add_comm]
theorem wrap64_nat (n : Nat) (h : n < 9223372036854775808) : wrap64 (n : Int) = n := by unfold wrap64; omega

theorem i64_wrap_nat (n : Nat) (h : n < 9223372036854775808) : IntKind.i64.wrap (n : Int) = n := by rw [IntKind.wrap_i64]; omega

/-! ### bytes -/
/-- The four bytes of a number, the lowest first. -/
def fixL (n : Nat) : List UInt8 := [UInt8.ofNat n, UInt8.ofNat (n / 256), UInt8.ofNat (n / 65536), UInt8.ofNat (n / 16777216)]
/-- The number of the first four bytes. -/
def fixV : List UInt8 → Nat
  | a :: b :: c :: d :: _ => a.toNat + b.toNat * 256 + c.toNat * 65536 + d.toNat * 16777216
  | _ => 0
theorem fixV_fixL (n : Nat) (h : n < 4294967296) (t : List UInt8) : fixV (fixL n ++ t) = n := by
  simp [fixL, fixV]
  omega
theorem fixL_length (n : Nat) : (fixL n).length = 4 := rfl
theorem join4 (a b c d : UInt8) :
    bits .or .i64 (bits .or .i64 (bits .or .i64 (a.toNat : Int) ((b.toNat : Int) * 256)) ((c.toNat : Int) * 65536)) ((d.toNat : Int) * 16777216) =
      ((a.toNat + b.toNat * 256 + c.toNat * 65536 + d.toNat * 16777216 : Nat) : Int) := by
  have ha := a.toNat_lt; have hb := b.toNat_lt; have hc := c.toNat_lt; have hd := d.toNat_lt
  have e1 : bits .or .i64 (a.toNat : Int) ((b.toNat : Int) * 256) = ((a.toNat + b.toNat * 256 : Nat) : Int) := by
    simpa using i64_join 8 a.toNat b.toNat (by omega) (by omega)
  have e2 : bits .or .i64 ((a.toNat + b.toNat * 256 : Nat) : Int) ((c.toNat : Int) * 65536) = ((a.toNat + b.toNat * 256 + c.toNat * 65536 : Nat) : Int) := by
    simpa using i64_join 16 (a.toNat + b.toNat * 256) c.toNat (by omega) (by omega)
  have e3 : bits .or .i64 ((a.toNat + b.toNat * 256 + c.toNat * 65536 : Nat) : Int) ((d.toNat : Int) * 16777216) = ((a.toNat + b.toNat * 256 + c.toNat * 65536 + d.toNat * 16777216 : Nat) : Int) := by
    simpa using i64_join 24 (a.toNat + b.toNat * 256 + c.toNat * 65536) d.toNat (by omega) (by omega)
  rw [e1, e2, e3]
theorem join4z (a b c d : UInt8) :
    bits .or .i64 (bits .or .i64 (bits .or .i64 (bits .or .i64 0 (a.toNat : Int)) ((b.toNat : Int) * 256)) ((c.toNat : Int) * 65536)) ((d.toNat : Int) * 16777216) =
      ((a.toNat + b.toNat * 256 + c.toNat * 65536 + d.toNat * 16777216 : Nat) : Int) := by
  have e0 : bits .or .i64 0 (a.toNat : Int) = (a.toNat : Int) := by
    have ha := a.toNat_lt
    have e := i64_or_nat 0 a.toNat (by omega) (by omega)
    rw [Nat.zero_or] at e
    exact e
  rw [e0, join4]
theorem four_of (s : ByteArray) (h : 4 ≤ s.size) : s.data.toList = s[0] :: s[1] :: s[2] :: s[3] :: s.data.toList.drop 4 := by
  have hl : s.data.toList.length = s.size := by rw [Array.length_toList]; rfl
  have d0 := List.drop_eq_getElem_cons (l := s.data.toList) (i := 0) (by omega)
  have d1 := List.drop_eq_getElem_cons (l := s.data.toList) (i := 1) (by omega)
  have d2 := List.drop_eq_getElem_cons (l := s.data.toList) (i := 2) (by omega)
  have d3 := List.drop_eq_getElem_cons (l := s.data.toList) (i := 3) (by omega)
  simp only [List.drop_zero, Nat.reduceAdd] at d0 d1 d2 d3
  rw [d1, d2, d3] at d0
  exact d0
theorem fixV_four (s : ByteArray) (h : 4 ≤ s.size) : fixV s.data.toList = s[0].toNat + s[1].toNat * 256 + s[2].toNat * 65536 + s[3].toNat * 16777216 := by
  rw [four_of s h]; rfl
end Go.Proofs.Ytdnhmkfgcpdbkaa
