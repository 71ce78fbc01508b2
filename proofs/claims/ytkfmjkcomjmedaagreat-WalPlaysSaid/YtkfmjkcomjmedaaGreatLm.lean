/-
  Layer 6 (wal), plain: a file's name and number; names rise as their numbers do. No function of the program is spoken of. Conditions: numbers below 10^8.
-/
import Derived.Test.YtkfmjkcomjmedaaGreatQ7
import Derived.WideAt
namespace Go.Proofs.YtkfmjkcomjmedaaGreat
open Go.RowKit Go.Lib
set_option linter.unusedVariables false

/-- The last k decimal digits of a number. -/
def dgN : Nat → Nat → List UInt8
  | 0, _ => []
  | k + 1, n => dgN k (n / 10) ++ [UInt8.ofNat (48 + n % 10)]
def logP : List UInt8 := [108, 111, 103, 45]
def lname (n : Nat) : List UInt8 := logP ++ dgN 8 n
def isD (b : UInt8) : Bool := decide (48 ≤ (b.toNat : Int)) && decide ((b.toNat : Int) ≤ 57)
def valF (a : Nat) (b : UInt8) : Nat := a * 10 + (b.toNat - 48)
def valN (l : List UInt8) : Nat := l.foldl valF 0
def logT (s : List UInt8) : Prop := s.length = 12 ∧ s.take 4 = logP ∧ (s.drop 4).all isD = true
instance (s : List UInt8) : Decidable (logT s) := by unfold logT; infer_instance
/-- The number of a log file's name. -/
def numb (s : List UInt8) : Option Nat := if logT s ∧ valN (s.drop 4) ≤ 99999998 then some (valN (s.drop 4)) else none

theorem dg_length : ∀ (k n : Nat), (dgN k n).length = k
  | 0, _ => rfl
  | k + 1, n => by simp [dgN, dg_length k]
theorem u8_48 (n : Nat) : (UInt8.ofNat (48 + n % 10)).toNat = 48 + n % 10 := by rw [UInt8.toNat_ofNat']; omega
theorem dg_isD : ∀ (k n : Nat), (dgN k n).all isD = true
  | 0, _ => rfl
  | k + 1, n => by
    rw [dgN, List.all_append, dg_isD k, Bool.true_and, List.all_cons, List.all_nil, Bool.and_true]
    unfold isD
    rw [u8_48, Bool.and_eq_true, decide_eq_true_eq, decide_eq_true_eq]
    omega
theorem isD_namB {b : UInt8} (h : isD b = true) : namB b = true := by
  unfold isD at h
  unfold namB
  simp only [Bool.and_eq_true, decide_eq_true_eq] at h
  simp [h.1, h.2]
theorem all_mono {α : Type} {f g : α → Bool} (h : ∀ x, f x = true → g x = true) : ∀ {l : List α}, l.all f = true → l.all g = true
  | [], _ => rfl
  | x :: r, hl => by
    rw [List.all_cons, Bool.and_eq_true] at hl ⊢
    exact ⟨h x hl.1, all_mono h hl.2⟩
theorem lname_length (n : Nat) : (lname n).length = 12 := by simp [lname, logP, dg_length]
theorem lname_ok (n : Nat) : namL (lname n) = true := by
  unfold namL
  rw [lname_length]
  have : (lname n).all namB = true := by
    unfold lname
    rw [List.all_append, all_mono (fun x h => isD_namB h) (dg_isD 8 n), Bool.and_true]
    decide
  rw [this]
  decide
theorem val_dg : ∀ (k n : Nat), valN (dgN k n) = n % 10 ^ k
  | 0, n => by simp [dgN, valN, Nat.mod_one]
  | k + 1, n => by
    unfold valN
    rw [dgN, List.foldl_append, List.foldl_cons, List.foldl_nil]
    have h := val_dg k (n / 10)
    unfold valN at h
    rw [h]
    unfold valF
    rw [u8_48, Nat.pow_succ]
    have h2 : n % (10 ^ k * 10) = n % 10 + 10 * (n / 10 % 10 ^ k) := by rw [Nat.mul_comm (10 ^ k) 10]; exact Nat.mod_mul
    rw [h2]
    omega
theorem lname_logT (n : Nat) : logT (lname n) := ⟨lname_length n, by simp [lname, logP], by
  have : (lname n).drop 4 = dgN 8 n := by simp [lname, logP]
  rw [this]; exact dg_isD 8 n⟩
theorem numb_lname (n : Nat) (h : n ≤ 99999998) : numb (lname n) = some n := by
  have e : (lname n).drop 4 = dgN 8 n := by simp [lname, logP]
  have v : valN ((lname n).drop 4) = n := by rw [e, val_dg]; omega
  unfold numb
  rw [v, if_pos ⟨lname_logT n, h⟩]
theorem numb_le {s : List UInt8} {n : Nat} (h : numb s = some n) : n ≤ 99999998 := by
  unfold numb at h
  split at h
  · rename_i c; cases h; exact c.2
  · cases h
theorem before_append : ∀ {a b : List UInt8} (c d : List UInt8), a.length = b.length → bytesBefore a b = true → bytesBefore (a ++ c) (b ++ d) = true
  | [], [], _, _, _, h => by simp [bytesBefore] at h
  | x :: a, y :: b, c, d, hl, h => by
    simp only [bytesBefore, List.cons_append, Bool.or_eq_true, Bool.and_eq_true] at h ⊢
    rcases h with h | ⟨h1, h2⟩
    · exact .inl h
    · exact .inr ⟨h1, before_append c d (by simpa using hl) h2⟩
theorem before_same : ∀ (a : List UInt8) {c d : List UInt8}, bytesBefore c d = true → bytesBefore (a ++ c) (a ++ d) = true
  | [], _, _, h => h
  | x :: a, _, _, h => by simp [bytesBefore, before_same a h]
theorem dg_rise : ∀ (k n m : Nat), n < m → m < 10 ^ k → bytesBefore (dgN k n) (dgN k m) = true
  | 0, n, m, h, h2 => by simp at h2; omega
  | k + 1, n, m, h, h2 => by
    rw [dgN, dgN]
    by_cases hd : n / 10 < m / 10
    · exact before_append _ _ (by rw [dg_length, dg_length]) (dg_rise k _ _ hd (by rw [Nat.pow_succ] at h2; omega))
    · have e : n / 10 = m / 10 := by omega
      rw [e]
      refine before_same _ ?_
      have : UInt8.ofNat (48 + n % 10) < UInt8.ofNat (48 + m % 10) := by
        rw [UInt8.lt_iff_toNat_lt, u8_48, u8_48]
        omega
      simp only [bytesBefore, Bool.or_eq_true, decide_eq_true_eq]
      exact .inl this
theorem lname_rise {n m : Nat} (h : n < m) (hm : m < 100000000) : bytesBefore (lname n) (lname m) = true := by
  unfold lname
  exact before_same _ (dg_rise 8 n m h hm)
theorem lname_inj {n m : Nat} (hn : n < 100000000) (hm : m < 100000000) (h : lname n = lname m) : n = m := by
  rcases Nat.lt_trichotomy n m with c | c | c
  · have := lname_rise c hm; rw [h, WideAt.bytes_irrefl] at this; cases this
  · exact c
  · have := lname_rise c hn; rw [h, WideAt.bytes_irrefl] at this; cases this
end Go.Proofs.YtkfmjkcomjmedaaGreat
