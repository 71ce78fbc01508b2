/-
  Layer 4 (span), plain: ranges that have each key once; how many of them have a key. No function of the program is spoken of. Conditions: none.
-/
import Derived.Test.YtdpinkipcaolhaaSm
namespace Go.Proofs.Ytdpinkipcaolhaa

/-- A range as a pair. -/
abbrev Rng := ByteArray × ByteArray
/-- One range behind others: where the next one is to begin, and whether there is to be one. -/
def stC (st : Option (ByteArray × Bool)) (x : Rng) : Option (ByteArray × Bool) :=
  match st with
  | none => none
  | some (f, o) => if (o && (x.1.toList == f.toList) && mayB x.1 x.2) = true then some (x.2, !emB x.2) else none
def cov (l : List Rng) : Option (ByteArray × Bool) := l.foldl stC (some (⟨#[]⟩, true))
/-- Do ranges have each key once? -/
def coversB (l : List Rng) : Bool := match cov l with | some (_, o) => !o | none => false
theorem cov_nil : cov [] = some (⟨#[]⟩, true) := rfl
theorem cov_snoc (l : List Rng) (x : Rng) : cov (l ++ [x]) = stC (cov l) x := by simp [cov]
theorem fold_none (l : List Rng) : l.foldl stC none = none := by
  induction l with
  | nil => rfl
  | cons x l ih => exact ih
theorem cov_take_none {l : List Rng} {k : Nat} (h : cov (l.take k) = none) : coversB l = false := by
  have e : cov l = (l.drop k).foldl stC (cov (l.take k)) := by
    unfold cov
    rw [← List.foldl_append, List.take_append_drop]
  unfold coversB
  rw [e, h, fold_none]
theorem stC_some {st : Option (ByteArray × Bool)} {x : Rng} {f : ByteArray} {o : Bool} (h : stC st x = some (f, o)) :
    ∃ f' , st = some (f', true) ∧ x.1 = f' ∧ mayB x.1 x.2 = true ∧ f = x.2 ∧ o = !emB x.2 := by
  unfold stC at h
  match st, h with
  | some (f', o'), h =>
    simp only at h
    split at h
    · rename_i hc
      simp only [Bool.and_eq_true, beq_iff_eq] at hc
      obtain ⟨⟨rfl, h2⟩, h3⟩ := hc
      have := Option.some.inj h
      simp only [Prod.mk.injEq] at this
      exact ⟨f', rfl, ba_ext h2, h3, this.1.symm, this.2.symm⟩
    · cases h
theorem stC_ok {f : ByteArray} {x : Rng} (h : x.1 = f) (hm : mayB x.1 x.2 = true) : stC (some (f, true)) x = some (x.2, !emB x.2) := by
  subst h
  unfold stC
  simp [hm]
/-- How many of ranges have a key. -/
def cnt (l : List Rng) (k : ByteArray) : Nat := (l.filter fun x => hasB x.1 x.2 k).length
theorem cnt_nil (k : ByteArray) : cnt [] k = 0 := rfl
theorem cnt_snoc (l : List Rng) (x : Rng) (k : ByteArray) : cnt (l ++ [x]) k = cnt l k + (if hasB x.1 x.2 k = true then 1 else 0) := by
  unfold cnt
  rw [List.filter_append, List.length_append]
  congr 1
  cases h : hasB x.1 x.2 k <;> simp [h]
theorem cnt_le (l : List Rng) (k : ByteArray) : cnt l k ≤ l.length := List.length_filter_le _ _
theorem cov_count (l : List Rng) (k : ByteArray) (hk : keyB k = true) : ∀ n, n ≤ l.length → ∀ f o, cov (l.take n) = some (f, o) → cnt (l.take n) k = if o = true then (if ltB k f = true then 1 else 0) else 1 := by
  intro n
  induction n with
  | zero =>
    intro _ f o h
    rw [List.take_zero, cov_nil] at h
    have := Option.some.inj h
    simp only [Prod.mk.injEq] at this
    obtain ⟨rfl, rfl⟩ := this
    rw [List.take_zero, cnt_nil, not_lt_em (emB_iff.2 rfl)]
    rfl
  | succ n ih =>
    intro hn f o h
    rw [List.take_succ_eq_append_getElem (by omega), cov_snoc] at h
    obtain ⟨f', hs, hlo, hm, rfl, rfl⟩ := stC_some h
    have hi := ih (by omega) f' true hs
    rw [List.take_succ_eq_append_getElem (by omega), cnt_snoc, hi]
    simp only [if_true]
    generalize l[n] = x at *
    subst hlo
    obtain ⟨_, _, ha⟩ := mayB_iff.1 hm
    unfold hasB
    rw [hm, hk, Bool.true_and, Bool.true_and]
    cases h1 : ltB k x.1 with
    | true =>
      simp only [if_true, Bool.not_true, Bool.false_and, Bool.false_eq_true, if_false]
      cases h2 : emB x.2 with
      | true => rfl
      | false =>
        have h3 : ltB x.1 x.2 = true := by
          rcases aheadB_iff.1 ha with h | h
          · rw [h2] at h; cases h
          · exact h
        rw [ltB_trans h1 h3]
        rfl
    | false =>
      simp only [Bool.false_eq_true, if_false, Bool.not_false, Bool.true_and, Nat.zero_add]
      unfold aheadB
      cases h2 : emB x.2 with
      | true => rfl
      | false => simp
theorem covers_one {l : List Rng} (h : coversB l = true) {k : ByteArray} (hk : keyB k = true) : cnt l k = 1 := by
  unfold coversB at h
  match hc : cov l, h with
  | some (f, o), h =>
    have := cov_count l k hk l.length (Nat.le_refl _) f o (by rw [List.take_length]; exact hc)
    rw [List.take_length] at this
    simp only [Bool.not_eq_true'] at h
    rw [h] at this
    exact this
theorem cnt_no {k : ByteArray} (hk : keyB k = false) (l : List Rng) : cnt l k = 0 := by
  unfold cnt
  rw [List.length_eq_zero_iff, List.filter_eq_nil_iff]
  intro x _
  unfold hasB
  rw [hk]
  simp
/-- A range that is cut in a list keeps what the list covers. -/
theorem cov_cut (p q : List Rng) (lo hi k : ByteArray) (h : cutB lo hi k = true) : cov (p ++ [(lo, k)] ++ [(k, hi)] ++ q) = cov (p ++ [(lo, hi)] ++ q) := by
  unfold cov
  simp only [List.foldl_append, List.foldl_cons, List.foldl_nil]
  generalize List.foldl stC _ p = st
  have m := cut_may h
  have m1 := cut_may1 h
  have m2 := cut_may2 h
  have e := key_em (cut_key h)
  have hs : stC (stC st (lo, k)) (k, hi) = stC st (lo, hi) := by
    match st with
    | none => rfl
    | some (f, o) =>
      unfold stC
      simp only [m, m1, m2, Bool.and_true]
      cases hc : (o && (lo.toList == f.toList)) with
      | true => simp [e]
      | false => simp
  rw [hs]
theorem covers_cut {p q : List Rng} {lo hi k : ByteArray} (h : cutB lo hi k = true) (hc : coversB (p ++ [(lo, hi)] ++ q) = true) : coversB (p ++ [(lo, k)] ++ [(k, hi)] ++ q) = true := by
  unfold coversB at hc ⊢
  rw [cov_cut p q lo hi k h]
  exact hc
theorem covers_whole : coversB [((⟨#[]⟩ : ByteArray), (⟨#[]⟩ : ByteArray))] = true := by decide +kernel
theorem covers_last {l : List Rng} (f : ByteArray) (o : Bool) (h : cov l = some (f, o)) : coversB l = !o := by
  unfold coversB
  rw [h]
end Go.Proofs.Ytdpinkipcaolhaa
