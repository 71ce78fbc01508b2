/-
  Layer 3 (frame): frames over lists: one frame's bytes, the frame that bytes begin with, all frames; there and back, cut, turned. Conditions: texts of at most 2^18 bytes where a frame is made.
-/
import Derived.Test.YtkfmjkcomjmedaaGreatVq
import Derived.Test.YtkfmjkcomjmedaaGreatCq
namespace Go.Proofs.YtkfmjkcomjmedaaGreat
open Go.RowKit

/-- A text's frame. -/
def frL (s : List UInt8) : List UInt8 := txL s ++ tailL (txL s)
/-- The text of the frame that bytes begin with, how many bytes it has, the error. -/
def ftR (l : List UInt8) : List UInt8 × Nat × Nat :=
  if (ttR l).2.2 = 0 ∧ (ttR l).2.1 + 4 ≤ l.length ∧ chk (l.take ((ttR l).2.1 + 4)) = true then ((ttR l).1, (ttR l).2.1 + 4, 0) else ([], 0, 30)
theorem ftR_err {l : List UInt8} (h : (ttR l).2.2 ≠ 0) : ftR l = ([], 0, 30) := by
  unfold ftR
  rw [if_neg (fun c => h c.1)]
theorem ftR_short {l x : List UInt8} {n c : Nat} (h : ttR l = (x, n, c)) (hn : l.length < n + 4) : ftR l = ([], 0, 30) := by
  unfold ftR
  rw [h, if_neg (fun c => by have := c.2.1; simp only at this; omega)]
theorem ftR_bad {l x : List UInt8} {n c : Nat} (h : ttR l = (x, n, c)) (hc : chk (l.take (n + 4)) = false) : ftR l = ([], 0, 30) := by
  unfold ftR
  rw [h, if_neg (fun c => by have := c.2.2; simp only [hc] at this; cases this)]
theorem ftR_ok {l x : List UInt8} {n : Nat} (h : ttR l = (x, n, 0)) (hn : n + 4 ≤ l.length) (hc : chk (l.take (n + 4)) = true) : ftR l = (x, n + 4, 0) := by
  unfold ftR
  rw [h, if_pos ⟨rfl, hn, hc⟩]
theorem ttR_pos {l x : List UInt8} {n : Nat} (h : ttR l = (x, n, 0)) : 1 ≤ n := by
  rcases tk_cases l with hc | ⟨m, k, hk, hk0, hkl, hm⟩
  · rcases hc with hc | hc
    · rw [ttR_err hc (by decide)] at h; cases h
    · rw [ttR_err hc (by decide)] at h; cases h
  · by_cases h1 : 262144 < m
    · rw [ttR_big hk h1] at h; cases h
    · by_cases h2 : l.length < k + m
      · rw [ttR_short hk (by omega) h2] at h; cases h
      · rw [ttR_ok hk (by omega) (by omega)] at h
        cases h
        omega
theorem ttR_cases (l : List UInt8) : ((ttR l).2.2 ≠ 0 ∧ (ttR l).1 = [] ∧ (ttR l).2.1 = 0) ∨ ∃ x n, ttR l = (x, n, 0) ∧ 1 ≤ n ∧ n ≤ l.length := by
  rcases tk_cases l with hc | ⟨m, k, hk, hk0, hkl, hm⟩
  · rcases hc with hc | hc
    · left; rw [ttR_err hc (by decide)]; simp
    · left; rw [ttR_err hc (by decide)]; simp
  · by_cases h1 : 262144 < m
    · left; rw [ttR_big hk h1]; simp
    · by_cases h2 : l.length < k + m
      · left; rw [ttR_short hk (by omega) h2]; simp
      · right
        exact ⟨_, _, ttR_ok hk (by omega) (by omega), by omega, by omega⟩
theorem ftR_cases (l : List UInt8) : ftR l = ([], 0, 30) ∨ ∃ x n, ftR l = (x, n, 0) ∧ 5 ≤ n ∧ n ≤ l.length := by
  rcases ttR_cases l with ⟨h, _, _⟩ | ⟨x, n, h, h1, _⟩
  · exact .inl (ftR_err h)
  · by_cases hn : n + 4 ≤ l.length
    · cases hc : chk (l.take (n + 4)) with
      | false => exact .inl (ftR_bad h hc)
      | true => exact .inr ⟨x, n + 4, ftR_ok h hn hc, by omega, hn⟩
    · exact .inl (ftR_short h (by omega))
theorem frL_length (l : List UInt8) : (frL l).length = (txL l).length + 4 := by rw [frL, List.length_append, tailL_length]
theorem frL_ge (l : List UInt8) : 5 ≤ (frL l).length := by
  rw [frL_length]
  have := vL_pos l.length
  unfold txL
  rw [List.length_append]
  omega
theorem frL_le (l : List UInt8) (h : l.length ≤ 262144) : (frL l).length ≤ l.length + 13 := by
  rw [frL_length]
  have := vL_len9 (n := l.length) (by omega)
  unfold txL
  rw [List.length_append]
  omega
theorem ftR_back (l t : List UInt8) (h : l.length ≤ 262144) : ftR (frL l ++ t) = (l, (frL l).length, 0) := by
  rw [frL_length]
  have e : frL l ++ t = txL l ++ (tailL (txL l) ++ t) := by rw [frL, List.append_assoc]
  refine ftR_ok (by rw [e]; exact ttR_back l _ h) (by rw [List.length_append, frL_length]; omega) ?_
  rw [← frL_length, List.take_left]
  exact chk_seal _
theorem ftR_cut (l : List UInt8) (k : Nat) (h : l.length ≤ 262144) (hk : k < (frL l).length) : ftR ((frL l).take k) = ([], 0, 30) := by
  rw [frL_length] at hk
  by_cases hk2 : k < (txL l).length
  · refine ftR_err ?_
    rw [frL, List.take_append_of_le_length (by omega), ttR_cut l k h hk2]
    simp
  · have e : (frL l).take k = txL l ++ (tailL (txL l)).take (k - (txL l).length) := by
      rw [frL, List.take_append, List.take_of_length_le (by omega)]
    have h2 := ttR_back l ((tailL (txL l)).take (k - (txL l).length)) h
    rw [← e] at h2
    refine ftR_short h2 ?_
    rw [List.length_take, frL_length]
    omega
/-- A frame of whose text up to four bytes in a row, from q on, are turned. -/
theorem ftR_turn (x t Y : List UInt8) (q j : Nat) (h : x.length ≤ 262144) (hq : q + j ≤ x.length) (hj : j ≤ Y.length) (hY : Y.length = 4) (ht : tn Y j = true) :
    ftR (txL (turnL x q Y j) ++ tailL (txL x) ++ t) = ([], 0, 30) := by
  have hl := turnL_length x q Y j hq hj
  have e1 : txL (turnL x q Y j) = turnL (txL x) ((vL x.length).length + q) Y j := by
    unfold txL
    rw [hl]
    unfold turnL
    rw [List.take_append, List.drop_append, List.drop_append, List.take_of_length_le (by omega : (vL x.length).length ≤ _), List.drop_of_length_le (by omega : (vL x.length).length ≤ (vL x.length).length + q),
      List.drop_of_length_le (by omega : (vL x.length).length ≤ (vL x.length).length + q + j),
      show (vL x.length).length + q - (vL x.length).length = q by omega, show (vL x.length).length + q + j - (vL x.length).length = q + j by omega]
    simp
  have hxl : (txL x).length = (vL x.length).length + x.length := by unfold txL; rw [List.length_append]
  have hc := chk_turn (txL x) Y ((vL x.length).length + q) j (by omega) hj hY
  have e2 : turnL (txL x ++ tailL (txL x)) ((vL x.length).length + q) Y j = txL (turnL x q Y j) ++ tailL (txL x) := by
    rw [e1]
    unfold turnL
    rw [List.take_append_of_le_length (by omega), List.drop_append_of_le_length (by omega), List.take_append_of_le_length (by simp; omega), List.drop_append_of_le_length (by omega), List.append_assoc]
    simp
  have hx2 : (txL (turnL x q Y j)).length = (txL x).length := by
    rw [e1]
    exact turnL_length _ _ _ _ (by omega) hj
  rw [e2] at hc
  refine ftR_bad (n := (txL (turnL x q Y j)).length) (c := 0) (by rw [List.append_assoc]; exact ttR_back _ _ (by rw [hl]; exact h)) ?_
  rw [List.take_append_of_le_length (by rw [List.length_append, tailL_length]; omega), List.take_of_length_le (by rw [List.length_append, tailL_length]; omega), hc]
  show (!tn Y j) = false
  rw [ht]
  rfl

/-! ### all frames -/
def faN : Nat → List UInt8 → List (List UInt8) × Nat
  | 0, _ => ([], 0)
  | f + 1, l => if (ftR l).2.2 = 0 then ((ftR l).1 :: (faN f (l.drop (ftR l).2.1)).1, (ftR l).2.1 + (faN f (l.drop (ftR l).2.1)).2) else ([], 0)
/-- The texts of all frames that bytes begin with, how many bytes they have. -/
def fa (l : List UInt8) : List (List UInt8) × Nat := faN l.length l
theorem faN_no {l : List UInt8} (h : ftR l = ([], 0, 30)) (f : Nat) : faN f l = ([], 0) := by
  cases f with
  | zero => rfl
  | succ f => rw [faN, h, if_neg (by decide)]
theorem faN_ok {l x : List UInt8} {n : Nat} (h : ftR l = (x, n, 0)) (f : Nat) : faN (f + 1) l = (x :: (faN f (l.drop n)).1, n + (faN f (l.drop n)).2) := by
  rw [faN, h, if_pos rfl]
theorem faN_more : ∀ (f : Nat) (l : List UInt8), l.length ≤ f → faN f l = faN l.length l
  | 0, l, h => by
    obtain rfl : l = [] := List.length_eq_zero_iff.1 (by omega)
    rfl
  | f + 1, l, h => by
    rcases ftR_cases l with h0 | ⟨x, n, h1, hn, hl⟩
    · rw [faN_no h0, faN_no h0]
    · obtain ⟨m, hm⟩ : ∃ m, l.length = m + 1 := ⟨l.length - 1, by omega⟩
      have hd : (l.drop n).length = l.length - n := by rw [List.length_drop]
      rw [faN_ok h1, hm, faN_ok h1, faN_more f (l.drop n) (by omega), faN_more m (l.drop n) (by omega)]
  termination_by f => f
  decreasing_by all_goals (simp_wf; try omega)
theorem fa_no {l : List UInt8} (h : ftR l = ([], 0, 30)) : fa l = ([], 0) := faN_no h _
theorem fa_ok {l x : List UInt8} {n : Nat} (h : ftR l = (x, n, 0)) : fa l = (x :: (fa (l.drop n)).1, n + (fa (l.drop n)).2) := by
  rcases ftR_cases l with h0 | ⟨x', n', h1, hn, hl⟩
  · rw [h0] at h; cases h
  · rw [h1] at h
    cases h
    obtain ⟨m, hm⟩ : ∃ m, l.length = m + 1 := ⟨l.length - 1, by omega⟩
    have hd : (l.drop n).length = l.length - n := by rw [List.length_drop]
    unfold fa
    rw [hm, faN_ok h1, faN_more m (l.drop n) (by omega)]
/-- Frames one behind the other. -/
def frs (xs : List (List UInt8)) : List UInt8 := xs.flatMap frL
theorem frs_nil : frs [] = [] := rfl
theorem frs_cons (x : List UInt8) (xs : List (List UInt8)) : frs (x :: xs) = frL x ++ frs xs := by simp [frs]
theorem frs_append (xs ys : List (List UInt8)) : frs (xs ++ ys) = frs xs ++ frs ys := by simp [frs]
theorem frs_snoc (xs : List (List UInt8)) (x : List UInt8) : frs (xs ++ [x]) = frs xs ++ frL x := by simp [frs]
theorem fa_back (x t : List UInt8) (h : x.length ≤ 262144) : fa (frL x ++ t) = (x :: (fa t).1, (frL x).length + (fa t).2) := by
  rw [fa_ok (ftR_back x t h), List.drop_left]
theorem fa_frs : ∀ (xs : List (List UInt8)) (t : List UInt8), (∀ x ∈ xs, x.length ≤ 262144) → fa (frs xs ++ t) = (xs ++ (fa t).1, (frs xs).length + (fa t).2)
  | [], t, _ => by simp [frs_nil]
  | x :: xs, t, h => by
    rw [frs_cons, List.append_assoc, fa_back x _ (h x (by simp)), fa_frs xs t (fun y hy => h y (by simp [hy])), List.length_append, List.cons_append, Nat.add_assoc]
theorem frs_le (xs : List (List UInt8)) (m : Nat) (hm : m ≤ 262144) (h : ∀ x ∈ xs, x.length ≤ m) : (frs xs).length ≤ (m + 13) * xs.length := by
  induction xs with
  | nil => simp [frs_nil]
  | cons x xs ih =>
    have h1 := frL_le x (by have := h x (by simp); omega)
    have h2 := h x (by simp)
    have h3 := ih (fun y hy => h y (by simp [hy]))
    rw [frs_cons, List.length_append, List.length_cons, Nat.mul_succ]
    omega
theorem fa_len : ∀ (n : Nat) (l : List UInt8), l.length ≤ n → (fa l).2 ≤ l.length ∧ 5 * (fa l).1.length ≤ (fa l).2
  | n, l, hn => by
    rcases ftR_cases l with h0 | ⟨x, k, h1, hk, hl⟩
    · rw [fa_no h0]; simp
    · have hd : (l.drop k).length = l.length - k := by rw [List.length_drop]
      cases n with
      | zero => omega
      | succ n =>
        have ih := fa_len n (l.drop k) (by omega)
        rw [fa_ok h1]
        simp only [List.length_cons]
        omega
/-- Cut anywhere, what is whole is read. -/
theorem fa_cut (xs : List (List UInt8)) (k w : Nat) (h : ∀ x ∈ xs, x.length ≤ 262144) (hw : w ≤ xs.length) (h1 : (frs (xs.take w)).length ≤ k) (h2 : w < xs.length → k < (frs (xs.take (w + 1))).length) (hk : k ≤ (frs xs).length) :
    fa ((frs xs).take k) = (xs.take w, (frs (xs.take w)).length) := by
  have ht : ∀ x ∈ xs.take w, x.length ≤ 262144 := fun x hx => h x (List.mem_of_mem_take hx)
  by_cases hlt : w < xs.length
  · have hk2 := h2 hlt
    have e1 : xs.take (w + 1) = xs.take w ++ [xs[w]] := by rw [List.take_succ_eq_append_getElem hlt]
    have e2 : frs xs = frs (xs.take w) ++ (frL xs[w] ++ frs (xs.drop (w + 1))) := by
      rw [← frs_cons, ← List.drop_eq_getElem_cons hlt, ← frs_append, List.take_append_drop]
    rw [e1, frs_snoc, List.length_append] at hk2
    have e3 : (frs xs).take k = frs (xs.take w) ++ (frL xs[w]).take (k - (frs (xs.take w)).length) := by
      rw [e2, List.take_append, List.take_of_length_le h1, List.take_append_of_le_length (by omega)]
    rw [e3, fa_frs _ _ ht, fa_no (ftR_cut _ _ (h _ (List.getElem_mem hlt)) (by omega))]
    simp
  · have hwl : w = xs.length := by omega
    subst hwl
    rw [List.take_length] at h1 ⊢
    have hkl : k = (frs xs).length := by omega
    subst hkl
    have := fa_frs xs [] h
    rw [List.append_nil] at this
    rw [List.take_length, this, fa_no (by decide +kernel)]
    simp
end Go.Proofs.YtkfmjkcomjmedaaGreat
