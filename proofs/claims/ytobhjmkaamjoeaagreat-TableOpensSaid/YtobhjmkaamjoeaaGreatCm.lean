/-
  Plain mathematics of layer 2 (crc), no dump: the sum of bytes over natural numbers, it is linear, it tells up to four bytes in a row. Conditions: none.
-/
import Derived.WalkKit
import Derived.Laws.BitsAllLaws
namespace Go.Proofs.YtobhjmkaamjoeaaGreat
open Go.RowKit

theorem xor_z {a b : Nat} (h : a ^^^ b = 0) : a = b := by
  have e := congrArg (· ^^^ b) h
  simpa [Nat.xor_assoc] using e
theorem xor_lc (a b c : Nat) : a ^^^ (b ^^^ c) = b ^^^ (a ^^^ c) := by rw [← Nat.xor_assoc, Nat.xor_comm a, Nat.xor_assoc]
theorem xor_dup (a b : Nat) : a ^^^ (a ^^^ b) = b := by rw [← Nat.xor_assoc, Nat.xor_self, Nat.zero_xor]
theorem xor_rc (a b c : Nat) : a ^^^ b ^^^ c = a ^^^ c ^^^ b := by rw [Nat.xor_assoc, Nat.xor_comm b, Nat.xor_assoc]
/-! ### one bit, eight bits, bytes -/
def st (c : Nat) : Nat := if c % 2 = 1 then c / 2 ^^^ 2197175160 else c / 2
def stn : Nat → Nat → Nat
  | 0, c => c
  | k + 1, c => st (stn k c)
def crcR (c : Nat) (l : List UInt8) : Nat := l.foldl (fun c b => stn 8 (c ^^^ b.toNat)) c
theorem crcR_cons (b : UInt8) (t : List UInt8) (c : Nat) : crcR c (b :: t) = crcR (stn 8 (c ^^^ b.toNat)) t := by simp only [crcR, List.foldl_cons]
theorem crcR_nil (c : Nat) : crcR c [] = c := by simp only [crcR, List.foldl_nil]
/-- The sum behind others, of a number of 32 bits. -/
def crcV (c : Nat) (l : List UInt8) : Nat := crcR (c ^^^ 4294967295) l ^^^ 4294967295

theorem u8lt (b : UInt8) : b.toNat < 4294967296 := by have := b.toNat_lt; omega
theorem xor_lt32 {a b : Nat} (ha : a < 4294967296) (hb : b < 4294967296) : a ^^^ b < 4294967296 := Nat.xor_lt_two_pow (n := 32) ha hb
theorem st_lt {c : Nat} (h : c < 4294967296) : st c < 4294967296 := by
  unfold st
  split
  · exact xor_lt32 (by omega) (by omega)
  · omega
theorem stn_lt : ∀ (k : Nat) {c : Nat}, c < 4294967296 → stn k c < 4294967296
  | 0, _, h => h
  | k + 1, _, h => st_lt (stn_lt k h)
theorem crcR_lt : ∀ (l : List UInt8) {c : Nat}, c < 4294967296 → crcR c l < 4294967296
  | [], _, h => by rw [crcR_nil]; exact h
  | b :: t, _, h => by rw [crcR_cons]; exact crcR_lt t (stn_lt 8 (xor_lt32 h (u8lt b)))
theorem crcV_lt (l : List UInt8) {c : Nat} (h : c < 4294967296) : crcV c l < 4294967296 := xor_lt32 (crcR_lt l (xor_lt32 h (by omega))) (by omega)
theorem crcR_append : ∀ (l m : List UInt8) (c : Nat), crcR c (l ++ m) = crcR (crcR c l) m
  | [], _, _ => by rw [crcR_nil, List.nil_append]
  | b :: t, m, c => by rw [List.cons_append, crcR_cons, crcR_cons, crcR_append t m]
theorem crcR_snoc (l : List UInt8) (b : UInt8) (c : Nat) : crcR c (l ++ [b]) = stn 8 (crcR c l ^^^ b.toNat) := by rw [crcR_append, crcR_cons, crcR_nil]
theorem xor_back (a : Nat) : a ^^^ 4294967295 ^^^ 4294967295 = a := by rw [Nat.xor_assoc, Nat.xor_self, Nat.xor_zero]
theorem crcV_append (l m : List UInt8) (c : Nat) : crcV c (l ++ m) = crcV (crcV c l) m := by
  unfold crcV
  rw [xor_back, crcR_append]
theorem crcV_nil (c : Nat) : crcV c [] = c := by rw [crcV, crcR_nil, xor_back]

/-! ### linear -/
theorem xor_mod2 (a b : Nat) : (a ^^^ b) % 2 = (a % 2 + b % 2) % 2 := by
  have h := Nat.xor_mod_two_eq_one (a := a) (b := b)
  omega
theorem st_xor (a b : Nat) : st (a ^^^ b) = st a ^^^ st b := by
  unfold st
  have h := xor_mod2 a b
  have ha : a % 2 = 0 ∨ a % 2 = 1 := by omega
  have hb : b % 2 = 0 ∨ b % 2 = 1 := by omega
  rw [Nat.xor_div_two]
  rcases ha with ha | ha <;> rcases hb with hb | hb <;> rw [ha, hb] at h <;> simp only [h, ha, hb]
  · rfl
  · simp [Nat.xor_assoc]
  · simp [xor_rc]
  · simp
    rw [Nat.xor_assoc, Nat.xor_comm 2197175160, Nat.xor_assoc, Nat.xor_self, Nat.xor_zero]
theorem stn_xor : ∀ (k a b : Nat), stn k (a ^^^ b) = stn k a ^^^ stn k b
  | 0, _, _ => rfl
  | k + 1, a, b => by
    show st (stn k (a ^^^ b)) = st (stn k a) ^^^ st (stn k b)
    rw [stn_xor k, st_xor]
theorem stn_add : ∀ (j k c : Nat), stn (j + k) c = stn k (stn j c)
  | j, 0, _ => rfl
  | j, k + 1, c => by
    show st (stn (j + k) c) = st (stn k (stn j c))
    rw [stn_add j k]
theorem st_twice (n : Nat) : st (2 * n) = n := by
  unfold st
  rw [if_neg (by omega)]
  omega
theorem stn_pow : ∀ (k n : Nat), stn k (2 ^ k * n) = n
  | 0, n => by simp [stn]
  | k + 1, n => by
    show st (stn k _) = n
    have e : 2 ^ (k + 1) * n = 2 ^ k * (2 * n) := by rw [Nat.pow_succ, Nat.mul_assoc]
    rw [e, stn_pow k, st_twice]
theorem st_zero {c : Nat} (h : c < 4294967296) (h0 : st c = 0) : c = 0 := by
  unfold st at h0
  split at h0
  · have := xor_z h0
    omega
  · omega
theorem stn_zero : ∀ (k : Nat) {c : Nat}, c < 4294967296 → stn k c = 0 → c = 0
  | 0, _, _, h0 => h0
  | k + 1, _, h, h0 => stn_zero k h (st_zero (stn_lt k h) h0)
theorem stn_inj (k : Nat) {a b : Nat} (ha : a < 4294967296) (hb : b < 4294967296) (h : stn k a = stn k b) : a = b := by
  have h1 : stn k (a ^^^ b) = 0 := by rw [stn_xor, h, Nat.xor_self]
  exact xor_z (stn_zero k (xor_lt32 ha hb) h1)
theorem xor_left {a b c : Nat} (h : a ^^^ c = b ^^^ c) : a = b := by
  have e := congrArg (· ^^^ c) h
  simpa [Nat.xor_assoc] using e
theorem xor_right {a b c : Nat} (h : c ^^^ a = c ^^^ b) : a = b := by
  rw [Nat.xor_comm c, Nat.xor_comm c] at h
  exact xor_left h
/-- The same bytes behind two states give two states. -/
theorem crcR_inj : ∀ (l : List UInt8) {a b : Nat}, a < 4294967296 → b < 4294967296 → crcR a l = crcR b l → a = b
  | [], _, _, _, _, h => by rw [crcR_nil, crcR_nil] at h; exact h
  | x :: t, _, _, ha, hb, h => by
    rw [crcR_cons, crcR_cons] at h
    exact xor_left (stn_inj 8 (xor_lt32 ha (u8lt x)) (xor_lt32 hb (u8lt x)) (crcR_inj t (stn_lt 8 (xor_lt32 ha (u8lt x))) (stn_lt 8 (xor_lt32 hb (u8lt x))) h))

/-! ### bytes as one number -/
def leV : List UInt8 → Nat
  | [] => 0
  | b :: t => b.toNat + 256 * leV t
theorem leV_cons (b : UInt8) (t : List UInt8) : leV (b :: t) = b.toNat + 256 * leV t := rfl
theorem low_join (a n : Nat) (h : a < 256) : a + 256 * n = a ^^^ 256 * n := by
  have h1 : (256 * n) &&& a = 0 := by
    have e := Nat.and_two_pow_sub_one_eq_mod a 8
    rw [show a % 2 ^ 8 = a by omega] at e
    rw [← e, Nat.and_comm a, ← Nat.and_assoc, Nat.and_two_pow_sub_one_eq_mod]
    simp
  have h2 := nat_join 8 (256 * n) a (by omega) (by omega)
  have h3 : (256 * n) ^^^ a = (256 * n) ||| a := by
    apply Nat.eq_of_testBit_eq
    intro i
    have h4 := congrArg (Nat.testBit · i) h1
    simp only [Nat.testBit_and, Nat.zero_testBit] at h4
    simp only [Nat.testBit_xor, Nat.testBit_or]
    cases h5 : (256 * n).testBit i <;> cases h6 : a.testBit i <;> simp_all
  rw [Nat.xor_comm a, h3, h2]
  omega
theorem crcR_le : ∀ (l : List UInt8) (c : Nat), crcR c l = stn (8 * l.length) (c ^^^ leV l)
  | [], c => by simp [crcR_nil, leV, stn]
  | b :: t, c => by
    have e : stn 8 (c ^^^ (b.toNat + 256 * leV t)) = stn 8 (c ^^^ b.toNat) ^^^ leV t := by
      rw [low_join b.toNat (leV t) b.toNat_lt, ← Nat.xor_assoc, stn_xor 8 (c ^^^ b.toNat), show 256 * leV t = 2 ^ 8 * leV t by rw [show (2 : Nat) ^ 8 = 256 by decide], stn_pow 8]
    rw [crcR_cons, crcR_le t, List.length_cons, show 8 * (t.length + 1) = 8 + 8 * t.length by omega, stn_add, leV_cons, e]
theorem leV_inj : ∀ {l m : List UInt8}, l.length = m.length → leV l = leV m → l = m
  | [], [], _, _ => rfl
  | [], _ :: _, h, _ => by simp at h
  | _ :: _, [], h, _ => by simp at h
  | a :: l, b :: m, h, hv => by
    have ha := a.toNat_lt
    have hb := b.toNat_lt
    simp only [leV] at hv
    have h1 : a = b := UInt8.toNat_inj.1 (by omega)
    have h2 : leV l = leV m := by omega
    rw [h1, leV_inj (by simpa using h) h2]
theorem leV_lt : ∀ (l : List UInt8), leV l < 256 ^ l.length
  | [] => by simp [leV]
  | b :: t => by
    have h := leV_lt t
    have hb := b.toNat_lt
    simp only [leV, List.length_cons, Nat.pow_succ]
    omega
theorem leV_lt4 {l : List UInt8} (h : l.length ≤ 4) : leV l < 4294967296 := by
  have h1 := leV_lt l
  have h2 : 256 ^ l.length ≤ 256 ^ 4 := Nat.pow_le_pow_right (by omega) h
  omega
/-- Up to four bytes are told. -/
theorem crcR_four {c : Nat} {l m : List UInt8} (hc : c < 4294967296) (h : l.length = m.length) (h4 : l.length ≤ 4) (e : crcR c l = crcR c m) : l = m := by
  rw [crcR_le, crcR_le, h] at e
  have e1 := stn_inj _ (xor_lt32 hc (leV_lt4 h4)) (xor_lt32 hc (leV_lt4 (by omega))) e
  exact leV_inj h (xor_right e1)
theorem crcV_four {c : Nat} {l m : List UInt8} (hc : c < 4294967296) (h : l.length = m.length) (h4 : l.length ≤ 4) (e : crcV c l = crcV c m) : l = m :=
  crcR_four (xor_lt32 hc (by omega)) h h4 (xor_left e)
theorem crcV_tells {c : Nat} {a x y z : List UInt8} (hc : c < 4294967296) (h : x.length = y.length) (h4 : x.length ≤ 4) (e : crcV c (a ++ x ++ z) = crcV c (a ++ y ++ z)) : x = y := by
  have e1 := xor_left e
  have hm := xor_lt32 hc (b := 4294967295) (by omega)
  rw [crcR_append, crcR_append, crcR_append (a ++ y), crcR_append a y] at e1
  have ha := crcR_lt a hm
  exact crcR_four ha h h4 (crcR_inj z (crcR_lt x ha) (crcR_lt y ha) e1)

/-! ### texts turned into one another -/
def zx (l m : List UInt8) : List UInt8 := List.zipWith (· ^^^ ·) l m
theorem zx_cons (a b : UInt8) (l m : List UInt8) : zx (a :: l) (b :: m) = (a ^^^ b) :: zx l m := by simp only [zx, List.zipWith_cons_cons]
theorem crcR_zx : ∀ {l m : List UInt8}, l.length = m.length → ∀ c d : Nat, crcR (c ^^^ d) (zx l m) = crcR c l ^^^ crcR d m
  | [], [], _, c, d => by simp only [zx, List.zipWith_nil_left, crcR_nil]
  | [], _ :: _, h, _, _ => by simp at h
  | _ :: _, [], h, _, _ => by simp at h
  | a :: l, b :: m, h, c, d => by
    rw [zx_cons, crcR_cons, crcR_cons, crcR_cons, ← crcR_zx (by simpa using h), ← stn_xor, UInt8.toNat_xor]
    congr 2
    rw [← Nat.xor_assoc, Nat.xor_assoc c d, Nat.xor_comm d, ← Nat.xor_assoc c, Nat.xor_assoc (c ^^^ a.toNat)]
theorem zx_length {l m : List UInt8} (h : l.length = m.length) : (zx l m).length = l.length := by simp [zx, h]
theorem crcV_three {a b c : List UInt8} (h1 : a.length = b.length) (h2 : a.length = c.length) : crcV 0 a ^^^ crcV 0 b ^^^ crcV 0 c = crcV 0 (zx (zx a b) c) := by
  unfold crcV
  simp only [Nat.zero_xor]
  have e1 := crcR_zx (l := zx a b) (m := c) (by rw [zx_length h1]; exact h2) (4294967295 ^^^ 4294967295) 4294967295
  have e2 := crcR_zx h1 4294967295 4294967295
  rw [e2] at e1
  rw [show (4294967295 : Nat) ^^^ 4294967295 ^^^ 4294967295 = 4294967295 from rfl] at e1
  rw [e1]
  generalize crcR 4294967295 a = A
  generalize crcR 4294967295 b = B
  generalize crcR 4294967295 c = C
  simp only [Nat.xor_assoc]
  rw [xor_lc 4294967295 B, xor_dup, xor_lc B]
end Go.Proofs.YtobhjmkaamjoeaaGreat
