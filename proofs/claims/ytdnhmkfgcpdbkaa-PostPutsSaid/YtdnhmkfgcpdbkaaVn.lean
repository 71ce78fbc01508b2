/-
  Plain mathematics of layer 1 (varint), no dump: the groups of seven bits of a number, there and back, cut off. Conditions: none.
-/
import Derived.Test.YtdnhmkfgcpdbkaaVm
import Derived.Lib.BitFns
namespace Go.Proofs.Ytdnhmkfgcpdbkaa
open Go.RowKit

/-- A number's bytes. -/
def vL (n : Nat) : List UInt8 := if n < 128 then [UInt8.ofNat n] else UInt8.ofNat (n % 128 + 128) :: vL (n / 128)
termination_by n
decreasing_by omega
theorem vL_lt {n : Nat} (h : n < 128) : vL n = [UInt8.ofNat n] := by rw [vL, if_pos h]
theorem vL_ge {n : Nat} (h : 128 ≤ n) : vL n = UInt8.ofNat (n % 128 + 128) :: vL (n / 128) := by rw [vL, if_neg (by omega)]
theorem vL_pos (n : Nat) : 0 < (vL n).length := by
  by_cases h : n < 128
  · rw [vL_lt h]; simp
  · rw [vL_ge (by omega)]; simp
theorem vL_len : ∀ (k n : Nat), n < 128 ^ (k + 1) → (vL n).length ≤ k + 1
  | 0, n, h => by rw [vL_lt (by simpa using h)]; simp
  | k + 1, n, h => by
    by_cases h1 : n < 128
    · rw [vL_lt h1]; simp
    · rw [vL_ge (by omega), List.length_cons]
      have := vL_len k (n / 128) (by rw [Nat.div_lt_iff_lt_mul (by omega)]; rw [Nat.pow_succ] at h; exact h)
      omega
theorem vL_len9 {n : Nat} (h : n ≤ 4611686018427387904) : (vL n).length ≤ 9 := vL_len 8 n (by omega)

/-- The number that bytes begin with from the i-th group on, a being what was read: number, bytes, error. -/
def tk : List UInt8 → Nat → Nat → Nat × Nat × Nat
  | [], i, _ => (0, 0, if i < 9 then 10 else 11)
  | c :: t, i, a =>
    if 9 ≤ i then (0, 0, 11)
    else if c.toNat < 128 then
      (if (c.toNat = 0 ∧ 0 < i) ∨ 4611686018427387904 < a + c.toNat % 128 * 2 ^ (7 * i) then (0, 0, 11) else (a + c.toNat % 128 * 2 ^ (7 * i), i + 1, 0))
    else tk t (i + 1) (a + c.toNat % 128 * 2 ^ (7 * i))

theorem pow7 (i : Nat) : 2 ^ (7 * (i + 1)) = 128 * 2 ^ (7 * i) := by
  rw [Nat.mul_add, Nat.pow_add]; omega
theorem u8_ofNat {n : Nat} (h : n < 256) : (UInt8.ofNat n).toNat = n := by
  simp [UInt8.toNat_ofNat']; omega
theorem split_mul7 (n x : Nat) : n % 128 * x + n / 128 * (128 * x) = n * x := by
  rw [← Nat.mul_assoc, ← Nat.add_mul]
  congr 1
  omega

theorem tk_put (t : List UInt8) : ∀ (n a i : Nat), a + n * 2 ^ (7 * i) ≤ 4611686018427387904 → (n = 0 → i = 0) → i + (vL n).length ≤ 9 →
    tk (vL n ++ t) i a = (a + n * 2 ^ (7 * i), i + (vL n).length, 0) := by
  intro n
  induction n using Nat.strongRecOn with
  | ind n ih =>
    intro a i h hz hl
    by_cases h1 : n < 128
    · rw [vL_lt h1] at hl ⊢
      have e : (UInt8.ofNat n).toNat = n := u8_ofNat (by omega)
      simp only [List.length_cons, List.length_nil] at hl
      have e2 : n % 128 = n := Nat.mod_eq_of_lt h1
      simp only [List.cons_append, List.nil_append, tk, e, e2]
      rw [if_neg (by omega), if_pos h1, if_neg (by omega)]
      rfl
    · rw [vL_ge (by omega)] at hl ⊢
      have e : (UInt8.ofNat (n % 128 + 128)).toNat = n % 128 + 128 := u8_ofNat (by omega)
      simp only [List.length_cons] at hl ⊢
      have hp := vL_pos (n / 128)
      have e2 : (n % 128 + 128) % 128 = n % 128 := by omega
      simp only [List.cons_append, tk, e, e2]
      have hs := split_mul7 n (2 ^ (7 * i))
      rw [← pow7] at hs
      rw [if_neg (by omega), if_neg (by omega), ih (n / 128) (by omega) _ (i + 1) (by omega) (by omega) (by omega)]
      simp only [Prod.mk.injEq]
      refine ⟨by omega, by omega, trivial⟩

theorem tk_cut : ∀ (n k a i : Nat), k < (vL n).length → i + (vL n).length ≤ 9 → tk ((vL n).take k) i a = (0, 0, 10) := by
  intro n
  induction n using Nat.strongRecOn with
  | ind n ih =>
    intro k a i hk hl
    match k with
    | 0 => simp only [List.take_zero, tk]; rw [if_pos (by omega)]
    | k + 1 =>
      by_cases h1 : n < 128
      · rw [vL_lt h1] at hk; simp at hk
      · rw [vL_ge (by omega)] at hl hk ⊢
        have e : (UInt8.ofNat (n % 128 + 128)).toNat = n % 128 + 128 := u8_ofNat (by omega)
        simp only [List.length_cons] at hl hk
        simp only [List.take_succ_cons, tk, e]
        rw [if_neg (by omega), if_neg (by omega), ih (n / 128) (by omega) k _ (i + 1) (by omega) (by omega)]

theorem tk_err : ∀ (l : List UInt8) (i a : Nat), (tk l i a).2.2 ≠ 0 → (tk l i a).1 = 0 ∧ (tk l i a).2.1 = 0
  | [], i, a => fun _ => ⟨rfl, rfl⟩
  | c :: t, i, a => by
    simp only [tk]
    split
    · exact fun _ => ⟨rfl, rfl⟩
    · split
      · split
        · exact fun _ => ⟨rfl, rfl⟩
        · exact fun h => absurd rfl h
      · exact tk_err t _ _

theorem tk_code : ∀ (l : List UInt8) (i a : Nat), (tk l i a).2.2 = 0 ∨ (tk l i a).2.2 = 10 ∨ (tk l i a).2.2 = 11
  | [], i, a => by simp only [tk]; split <;> simp
  | c :: t, i, a => by
    simp only [tk]
    split
    · simp
    · split
      · split <;> simp
      · exact tk_code t _ _

theorem tk_back : ∀ (l : List UInt8) (i a m k : Nat), tk l i a = (m, k, 0) →
    ∃ n, i < k ∧ k ≤ i + l.length ∧ k ≤ 9 ∧ m = a + n * 2 ^ (7 * i) ∧ m ≤ 4611686018427387904 ∧ vL n = l.take (k - i) ∧ (n = 0 → i = 0)
  | [], i, a, m, k, h => by
    simp only [tk, Prod.mk.injEq] at h
    split at h <;> omega
  | c :: t, i, a, m, k, h => by
    have hc := c.toNat_lt
    simp only [tk] at h
    split at h
    · simp at h
    · split at h
      · split at h
        · simp at h
        · rename_i h9 h128 hno
          simp only [Prod.mk.injEq] at h
          obtain ⟨rfl, rfl, _⟩ := h
          refine ⟨c.toNat, by omega, by simp, by omega, by rw [Nat.mod_eq_of_lt h128], by omega, ?_, by omega⟩
          rw [vL_lt h128, show i + 1 - i = 1 by omega]
          simp
      · rename_i h9 h128
        obtain ⟨n, hk, hkl, hk9, hm, hmax, hv, hz⟩ := tk_back t _ _ m k h
        have hn : n ≠ 0 := fun e => by have := hz e; omega
        simp only [List.length_cons]
        refine ⟨c.toNat % 128 + 128 * n, by omega, by omega, hk9, ?_, hmax, ?_, by omega⟩
        · rw [hm, pow7, Nat.add_mul, Nat.add_assoc]
          congr 1
          rw [Nat.mul_comm 128 n, Nat.mul_assoc]
        · rw [vL_ge (by omega), show k - i = (k - (i + 1)) + 1 by omega, List.take_succ_cons, ← hv]
          congr 1
          · apply UInt8.toNat_inj.1
            rw [u8_ofNat (by omega)]; omega
          · congr 1; omega

/-! ### the code's way to the bytes -/
theorem vL_get : ∀ (n i : Nat) (h : i < (vL n).length), (vL n)[i] = UInt8.ofNat (n / 2 ^ (7 * i) % 128 + if i + 1 = (vL n).length then 0 else 128) := by
  intro n
  induction n using Nat.strongRecOn with
  | ind n ih =>
    intro i h
    by_cases h1 : n < 128
    · simp only [vL_lt h1, List.length_cons, List.length_nil] at h ⊢
      obtain rfl : i = 0 := by omega
      simp [Nat.mod_eq_of_lt h1]
    · simp only [vL_ge (n := n) (by omega), List.length_cons] at h ⊢
      match i with
      | 0 =>
        have hp := vL_pos (n / 128)
        rw [if_neg (by omega)]
        simp
      | i + 1 =>
        simp only [List.getElem_cons_succ]
        rw [ih (n / 128) (by omega) i (by omega), pow7, Nat.div_div_eq_div_mul]
        simp

theorem tab_any (t : ByteArray) (h : ∀ j : Fin 256, ((t[j.val]?).getD 0).toNat = Lib.bitLen j.val) (i : Nat) (hi : i < t.size) (hi' : i < 256) : t[i].toNat = Lib.bitLen i := by
  have e := h ⟨i, hi'⟩
  rw [ByteArray.getElem?_lt' t i hi] at e
  exact e
theorem tab_all : ∀ j : Fin 256, ((Lib.len8tab[j.val]?).getD 0).toNat = Lib.bitLen j.val := by decide +kernel
/-- What a number's top byte, looked up, gives: its length in bits. -/
theorem tab_val (k i x : Nat) (hi : i < Lib.len8tab.size) (e : x / 2 ^ k = i) (hk : k ≤ 56) (hx : x < 18446744073709551616) (h : k = 0 ∨ 2 ^ k ≤ x) :
    wrap64 ((k : Int) + wrap64 ((Lib.len8tab[i].toNat : Nat) : Int)) = ((Lib.bitLen x : Nat) : Int) := by
  have hi' : i < 256 := by have h9 := hi; rw [Lib.len8tab_size] at h9; exact h9
  have v : (Lib.len8tab[i]'hi).toNat = Lib.bitLen i := tab_any _ tab_all i hi hi'
  have l8 := Lib.bitLen_le i 8 (by decide) hi'
  have hb : Lib.bitLen x = k + Lib.bitLen i := by
    rcases h with rfl | h
    · rw [← e]; simp
    · rw [← e]; exact Lib.bitLen_shift k x h hx
  rw [v, hb, wrap64_nat _ (by omega), ← Int.natCast_add, wrap64_nat _ (by omega)]
theorem tab_val0 (i x : Nat) (hi : i < Lib.len8tab.size) (e : x = i) : wrap64 (wrap64 ((Lib.len8tab[i].toNat : Nat) : Int)) = ((Lib.bitLen x : Nat) : Int) := by
  have hi' : i < 256 := by have h9 := hi; rw [Lib.len8tab_size] at h9; exact h9
  have h := tab_val 0 i x hi (by simpa using e) (by decide) (by omega) (.inl rfl)
  simpa using h

def grp (n : Nat) : Nat := max 1 ((Lib.bitLen n + 6) / 7)
theorem grp_len (n : Nat) : n < 18446744073709551616 → grp n = (vL n).length := by
  induction n using Nat.strongRecOn with
  | ind n ih =>
    intro hn
    by_cases h1 : n < 128
    · rw [vL_lt h1]
      have h2 := Lib.bitLen_le n 7 (by decide) h1
      simp only [grp, List.length_cons, List.length_nil]
      omega
    · rw [vL_ge (by omega), List.length_cons, ← ih (n / 128) (by omega) (by omega)]
      have hb := Lib.bitLen_shift 7 n (by omega) hn
      have hb1 := Lib.bitLen_half (n / 128) (by omega) (by omega)
      simp only [grp]
      rw [show (2 : Nat) ^ 7 = 128 from rfl] at hb
      omega
theorem or128 (b : Nat) (h : b < 256) : b ||| 128 = b % 128 + 128 := by
  have : ∀ b : Fin 256, b.val ||| 128 = b.val % 128 + 128 := by decide +kernel
  exact this ⟨b, h⟩

/-! ### the code's row of cells -/
/-- The row behind k rounds: g cells, the first k are written. -/
def rowK (n g k : Nat) : List Value := (List.range g).map fun i => Value.int .u8 (if i < k then ((n / 2 ^ (7 * i) % 128 + 128 : Nat) : Int) else 0)
theorem rowK_length (n g k : Nat) : (rowK n g k).length = g := by simp [rowK]
theorem rowK_zero (n g : Nat) : rowK n g 0 = List.replicate g (.int .u8 0) := by
  apply List.ext_getElem
  · simp [rowK]
  · intro i h1 h2; simp [rowK]
theorem rowK_get (n g k i : Nat) (h : i < g) : (rowK n g k)[i]? = some (Value.int .u8 (if i < k then ((n / 2 ^ (7 * i) % 128 + 128 : Nat) : Int) else 0)) := by
  simp [rowK, h]
theorem rowK_set (n g k : Nat) (V : Int) (hV : V = ((n / 2 ^ (7 * k) % 128 + 128 : Nat) : Int)) : (rowK n g k).set k (.int .u8 V) = rowK n g (k + 1) := by
  subst hV
  apply List.ext_getElem
  · simp [rowK]
  · intro i h1 h2
    rw [List.getElem_set]
    by_cases h : k = i
    · subst h; simp [rowK]
    · have e : (i < k) = (i < k + 1) := by rw [eq_iff_iff]; omega
      simp only [rowK, List.getElem_map, List.getElem_range, e, if_neg h]
theorem rowK_end (n g : Nat) (V : Int) (hg : g = (vL n).length) (hV : V = ((n / 2 ^ (7 * (g - 1)) % 128 : Nat) : Int)) :
    (rowK n g g).set (g - 1) (.int .u8 V) = (vL n).map fun b => Value.int .u8 (b.toNat : Int) := by
  subst hV hg
  have hp := vL_pos n
  apply List.ext_getElem
  · simp [rowK]
  · intro i h1 h2
    have hi : i < (vL n).length := by simpa [rowK] using h1
    rw [List.getElem_set]
    simp only [rowK, List.getElem_map, List.getElem_range]
    rw [vL_get n i hi, u8_ofNat (by split <;> omega)]
    by_cases h : (vL n).length - 1 = i
    · subst h
      rw [if_pos rfl, if_pos (by omega), Nat.add_zero]
    · rw [if_neg h, if_pos hi, if_neg (by omega)]
theorem orByte (x : Nat) : bits .or .u8 ((x : Int) % 256) 128 = ((x % 128 + 128 : Nat) : Int) := by
  have e := u8_or_nat (x % 256) 128 (by omega) (by decide)
  rw [or128 _ (by omega), show x % 256 % 128 = x % 128 by omega] at e
  simpa using e
theorem orByteN (n k : Nat) : bits .or .u8 ((n : Int) / 2 ^ (7 * k) % 256) 128 = ((n / 2 ^ (7 * k) % 128 + 128 : Nat) : Int) := by
  have e : ((n / 2 ^ (7 * k) : Nat) : Int) = (n : Int) / 2 ^ (7 * k) := by simp
  rw [← e]
  exact orByte _
theorem dropByte (x : Nat) : bits .andNot .u8 ((x % 128 + 128 : Nat) : Int) 128 = ((x % 128 : Nat) : Int) := by
  have e := u8_andNot_nat (x % 128 + 128) 128 (by omega) (by decide)
  rw [show (255 - 128 : Nat) = 127 from rfl, nat_mask7, show (x % 128 + 128) % 128 = x % 128 by omega] at e
  exact e
theorem dropByteN (n k : Nat) : bits .andNot .u8 ((n : Int) / 2 ^ (7 * k) % 128 + 128) 128 = ((n / 2 ^ (7 * k) % 128 : Nat) : Int) := by
  have e : ((n / 2 ^ (7 * k) % 128 + 128 : Nat) : Int) = (n : Int) / 2 ^ (7 * k) % 128 + 128 := by simp
  rw [← e]
  exact dropByte _
theorem refByte (M : Nat) (h : M < 9223372036854775808) : bits .or .i64 (bits .and .i64 (M : Int) 127) 128 % 256 = ((M % 128 + 128 : Nat) : Int) := by
  have e1 := i64_and_nat M 127 h (by decide)
  rw [nat_mask7] at e1
  have e2 := i64_or_nat (M % 128) 128 (by omega) (by decide)
  rw [or128 _ (by omega), show M % 128 % 128 = M % 128 by omega] at e2
  rw [show ((127 : Nat) : Int) = 127 from rfl] at e1
  rw [show ((128 : Nat) : Int) = 128 from rfl] at e2
  rw [e1, e2]
  omega
end Go.Proofs.Ytdnhmkfgcpdbkaa
