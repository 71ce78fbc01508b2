/-
  Layer 1 (varint), contracts of Take, of the code and of the document's answer: both are the plain function tk. Conditions: the text within the reach.
-/
import Derived.Test.YtdpinkipcaolhaaRows
import Derived.Test.YtdpinkipcaolhaaVn
import Derived.WalkLawsBesides
import Derived.WalkSpells
import Derived.Lib.Hide
import Derived.Lib.MinMax
import Derived.Outline
namespace Go.Proofs.Ytdpinkipcaolhaa
open Go.RowKit

theorem andNot128 (c : Nat) (h : c < 256) : bits .andNot .u8 (c : Int) 128 = ((c % 128 : Nat) : Int) := by
  have e := u8_andNot_nat c 128 h (by decide)
  rw [show (255 - 128 : Nat) = 127 from rfl, nat_mask7] at e
  exact e
theorem pow_le9 {k : Nat} (h : k < 9) : 2 ^ (7 * k) ≤ 72057594037927936 := by
  have : 2 ^ (7 * k) ≤ 2 ^ 56 := Nat.pow_le_pow_right (by decide) (by omega)
  omega
theorem grow7 {a m k : Nat} (ha : a < 2 ^ (7 * k)) (hm : m < 128) : a + m * 2 ^ (7 * k) < 2 ^ (7 * (k + 1)) := by
  rw [pow7]
  have := Nat.mul_le_mul_right (2 ^ (7 * k)) (show m + 1 ≤ 128 by omega)
  rw [Nat.add_mul] at this
  omega
theorem sum_lt {a m k : Nat} (h : k < 9) (ha : a < 2 ^ (7 * k)) (hm : m < 128) : a + m * 2 ^ (7 * k) < 9223372036854775808 := by
  have h1 := grow7 ha hm
  have : 2 ^ (7 * (k + 1)) ≤ 2 ^ 63 := Nat.pow_le_pow_right (by decide) (by omega)
  omega
theorem joinK {a m k : Nat} (h : k < 9) (ha : a < 2 ^ (7 * k)) (hm : m < 128) :
    bits .or .i64 (a : Int) (wrap64 ((m : Int) * 2 ^ (7 * k))) = ((a + m * 2 ^ (7 * k) : Nat) : Int) := by
  have h1 := sum_lt h ha hm
  have e : (m : Int) * 2 ^ (7 * k) = ((m * 2 ^ (7 * k) : Nat) : Int) := by simp
  rw [e, wrap64_nat _ (by omega)]
  exact i64_join (7 * k) a m ha h1
theorem takeStep {a c k : Nat} (h : k < 9) (ha : a < 2 ^ (7 * k)) (hc : c < 256) :
    bits .or .i64 (a : Int) (wrap64 (wrap64 (bits .andNot .u8 (c : Int) 128) * 2 ^ (7 * k))) = ((a + c % 128 * 2 ^ (7 * k) : Nat) : Int) := by
  rw [andNot128 c hc, wrap64_nat _ (by omega)]
  exact joinK h ha (by omega)
theorem takeStep0 {a : Nat} (ha : a < 2 ^ (7 * 0)) : bits .or .i64 (a : Int) (wrap64 (wrap64 (bits .andNot .u8 0 128))) = 0 := by
  have e := takeStep (a := a) (c := 0) (k := 0) (by decide) ha (by decide)
  simp at ha
  subst ha
  simpa using e
theorem ret3 {l : List UInt8} {x y z : Nat} {X Y Z : Int} (h : tk l 0 0 = (x, y, z)) (hx : X = x) (hy : Y = y) (hz : Z = z) :
    Ending.returned (.tuple #[.int .i64 X, .int .i64 Y, .int .i64 Z]) = .returned (.tuple #[.int .i64 ((tk l 0 0).1 : Nat), .int .i64 ((tk l 0 0).2.1 : Nat), .int .i64 ((tk l 0 0).2.2 : Nat)]) := by
  subst hx hy hz
  rw [h]
theorem tk_at {s : ByteArray} {k a : Nat} (hk : k < s.size) (h9 : k < 9) : tk (s.data.toList.drop k) k a =
    if s[k].toNat < 128 then
      (if (s[k].toNat = 0 ∧ 0 < k) ∨ 4611686018427387904 < a + s[k].toNat % 128 * 2 ^ (7 * k) then (0, 0, 11) else (a + s[k].toNat % 128 * 2 ^ (7 * k), k + 1, 0))
    else tk (s.data.toList.drop (k + 1)) (k + 1) (a + s[k].toNat % 128 * 2 ^ (7 * k)) := by
  have hl : k < s.data.toList.length := by rw [Array.length_toList]; exact hk
  rw [List.drop_eq_getElem_cons hl]
  simp only [tk]
  rw [if_neg (by omega)]
  rfl
theorem tk_end {s : ByteArray} {k a : Nat} (hk : s.size ≤ k) : tk (s.data.toList.drop k) k a = (0, 0, if k < 9 then 10 else 11) := by
  rw [List.drop_eq_nil_of_le (by rw [Array.length_toList]; exact hk)]
  rfl
theorem tk_nine {l : List UInt8} {a : Nat} : tk l 9 a = (0, 0, 11) := by
  cases l <;> simp [tk]

theorem and127 (c : Nat) (h : c < 256) : bits .and .u8 (c : Int) 127 = ((c % 128 : Nat) : Int) := by
  have e := u8_and_nat c 127 h (by decide)
  rw [nat_mask7] at e
  exact e
theorem takeStepR {a c k : Nat} (h : k < 9) (ha : a < 2 ^ (7 * k)) (hc : c < 256) :
    bits .or .i64 (a : Int) (wrap64 (wrap64 (bits .and .u8 (c : Int) 127) * 2 ^ (7 * k))) = ((a + c % 128 * 2 ^ (7 * k) : Nat) : Int) := by
  rw [and127 c hc, wrap64_nat _ (by omega)]
  exact joinK h ha (by omega)
theorem takeStepR0 {a : Nat} (ha : a < 2 ^ (7 * 0)) : bits .or .i64 (a : Int) (wrap64 (wrap64 (bits .and .u8 0 127))) = 0 := by
  have e := takeStepR (a := a) (c := 0) (k := 0) (by decide) ha (by decide)
  simp at ha
  subst ha
  simpa using e

end Go.Proofs.Ytdpinkipcaolhaa
