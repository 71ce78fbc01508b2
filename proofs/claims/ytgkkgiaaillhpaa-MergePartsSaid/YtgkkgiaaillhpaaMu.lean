/-
  Layer 11 (merge), plain: what the document's All makes is what is left in order. Conditions: lists that may be merged.
-/
import Derived.Test.YtgkkgiaaillhpaaMw
namespace Go.Proofs.Ytgkkgiaaillhpaa
open Go.RowKit
set_option linter.unusedVariables false
set_option linter.unusedSimpArgs false

theorem insE_mem {x : Ent} : ∀ {es : List Ent}, (∀ e ∈ es, ¬ (e.1 = x.1 ∧ e.2.2.2 = x.2.2.2)) → ∀ e, e ∈ insE es x ↔ e = x ∨ e ∈ es
  | [], _, e => by simp [insE]
  | y :: es, h, e => by
    have ih := insE_mem (x := x) (es := es) (fun z hz => h z (by simp [hz])) e
    unfold insE
    by_cases h1 : lessE y x = true
    · rw [if_pos h1, List.mem_cons, ih, List.mem_cons]
      constructor
      · rintro (q | q | q)
        · exact .inr (.inl q)
        · exact .inl q
        · exact .inr (.inr q)
      · rintro (q | q | q)
        · exact .inr (.inl q)
        · exact .inl q
        · exact .inr (.inr q)
    · rw [if_neg h1]
      by_cases h2 : lessE x y = true
      · rw [if_pos h2, List.mem_cons]
      · exact absurd (lessE_total (by simpa using h1) (by simpa using h2)) (h y (by simp))
/-- One more entry, if none of its place is there. -/
def addM (out : List Ent) (x : Ent) : List Ent := if hasM out x.1 x.2.2.2 = true then out else putE out x
/-- What is left of entries: the first one of each place, in order. -/
def AllF (P vs : List Ent) : Prop := (∀ e, e ∈ vs ↔ P.find? (atM e.1 e.2.2.2) = some e) ∧ chainE zE vs = true
theorem hasM_iff {es : List Ent} {k : ByteArray} {q : Int} : hasM es k q = true ↔ ∃ e ∈ es, e.1 = k ∧ e.2.2.2 = q := by
  unfold hasM
  rw [List.any_eq_true]
  exact ⟨fun ⟨e, h1, h2⟩ => ⟨e, h1, atM_iff.1 h2⟩, fun ⟨e, h1, h2⟩ => ⟨e, h1, atM_iff.2 h2⟩⟩
theorem AllF.add {P vs : List Ent} {x : Ent} (h : AllF P vs) (hx : mayE x = true) : AllF (P ++ [x]) (addM vs x) := by
  obtain ⟨h1, h2⟩ := h
  have hfx : ∀ e : Ent, e.1 = x.1 → e.2.2.2 = x.2.2.2 → atM e.1 e.2.2.2 = atM x.1 x.2.2.2 := fun e a b => by rw [a, b]
  by_cases hh : hasM vs x.1 x.2.2.2 = true
  · unfold addM
    rw [if_pos hh]
    obtain ⟨f, hf, f1, f2⟩ := hasM_iff.1 hh
    have hff := (h1 f).1 hf
    refine ⟨fun e => ?_, h2⟩
    rw [h1 e, List.find?_append]
    cases hp : P.find? (atM e.1 e.2.2.2) with
    | some y => simp
    | none =>
      simp only [Option.none_or, reduceCtorEq, false_iff]
      intro q
      have hm := List.find?_some q
      have hq : x = e := by
        have := List.mem_of_find?_eq_some q
        exact (List.mem_singleton.1 this).symm
      subst hq
      rw [hfx f f1 f2, hp] at hff
      cases hff
  · unfold addM
    rw [if_neg hh]
    have hno : ∀ e ∈ vs, ¬ (e.1 = x.1 ∧ e.2.2.2 = x.2.2.2) := fun e he q => hh (hasM_iff.2 ⟨e, he, q⟩)
    unfold putE
    rw [if_pos hx]
    refine ⟨fun e => ?_, insE_chain h2 hx (zE_less hx)⟩
    rw [insE_mem hno, h1 e, List.find?_append]
    have hpx : P.find? (atM x.1 x.2.2.2) = none := by
      cases hp : P.find? (atM x.1 x.2.2.2) with
      | none => rfl
      | some f =>
        obtain ⟨f1, f2⟩ := atM_iff.1 (List.find?_some hp)
        exact absurd (hasM_iff.2 ⟨f, (h1 f).2 (by rw [hfx f f1 f2]; exact hp), f1, f2⟩) hh
    constructor
    · rintro (rfl | q)
      · rw [hpx, List.find?_cons_of_pos (atM_iff.2 ⟨rfl, rfl⟩)]
        rfl
      · rw [q]; rfl
    · intro q
      cases hp : P.find? (atM e.1 e.2.2.2) with
      | some y => rw [hp] at q; exact .inr q
      | none =>
        rw [hp, Option.none_or] at q
        have := List.mem_of_find?_eq_some q
        exact .inl (by simpa using this)
theorem AllF.nil : AllF [] [] := ⟨fun e => by simp, rfl⟩
/-- What All makes of entries. -/
def allM (P : List Ent) : List Ent := P.foldl addM []
theorem allM_snoc (P : List Ent) (x : Ent) : allM (P ++ [x]) = addM (allM P) x := by simp [allM]
theorem allM_all {P : List Ent} (h : ∀ e ∈ P, mayE e = true) : AllF P (allM P) := by
  suffices hs : ∀ (Q R vs : List Ent), (∀ e ∈ Q, mayE e = true) → AllF R vs → AllF (R ++ Q) (Q.foldl addM vs) by
    have := hs P [] [] h AllF.nil
    rw [List.nil_append] at this
    exact this
  intro Q
  induction Q with
  | nil => intro R vs _ hv; simpa using hv
  | cons x Q ih =>
    intro R vs hq hv
    have := ih (R ++ [x]) (addM vs x) (fun e he => hq e (by simp [he])) (hv.add (hq x (by simp)))
    simpa using this
theorem addM_le (vs : List Ent) (x : Ent) : (addM vs x).length ≤ vs.length + 1 := by
  unfold addM
  split
  · omega
  · exact putE_length vs x
theorem allM_le (P : List Ent) : (allM P).length ≤ P.length := by
  suffices hs : ∀ (Q vs : List Ent), (Q.foldl addM vs).length ≤ vs.length + Q.length by
    have := hs P []
    simp only [List.length_nil, Nat.zero_add] at this
    exact this
  intro Q
  induction Q with
  | nil => intro vs; simp
  | cons x Q ih =>
    intro vs
    have h1 := ih (addM vs x)
    have h2 := addM_le vs x
    simp only [List.foldl_cons, List.length_cons]
    omega
/-- In a list in strict order no two have a place: it may be searched from either end. -/
theorem find_rev {l : List Ent} (h : PW l) (k : ByteArray) (q : Int) : l.reverse.find? (atM k q) = l.find? (atM k q) := by
  cases h1 : l.find? (atM k q) with
  | none =>
    rw [List.find?_eq_none] at h1 ⊢
    exact fun x hx => h1 x (List.mem_reverse.1 hx)
  | some e =>
    have he := List.mem_of_find?_eq_some h1
    obtain ⟨e1, e2⟩ := atM_iff.1 (List.find?_some h1)
    cases h2 : l.reverse.find? (atM k q) with
    | none =>
      rw [List.find?_eq_none] at h2
      exact absurd (List.find?_some h1) (h2 e (List.mem_reverse.2 he))
    | some f =>
      obtain ⟨f1, f2⟩ := atM_iff.1 (List.find?_some h2)
      rw [pw_place h (List.mem_reverse.1 (List.mem_of_find?_eq_some h2)) he (f1.trans e1.symm) (f2.trans e2.symm)]
theorem find_lists (k : ByteArray) (q : Int) : ∀ (ls : List Lst), (∀ x ∈ ls, PW x.2.2) → (wrL ls.reverse).reverse.find? (atM k q) = (wrL ls).find? (atM k q)
  | [], _ => rfl
  | x :: ls, h => by
    have ih := find_lists k q ls (fun y hy => h y (by simp [hy]))
    have e1 : wrL (x :: ls) = x.2.2 ++ wrL ls := rfl
    have e2 : (wrL (x :: ls).reverse).reverse = x.2.2.reverse ++ (wrL ls.reverse).reverse := by
      rw [List.reverse_cons, wrL_snoc, List.reverse_append]
    rw [e1, e2, List.find?_append, List.find?_append, ih, find_rev (h x (by simp))]
theorem mayL_pw {ls : List Lst} (h : mayL ls = true) : ∀ x ∈ ls, okB x.2.2 = true := by
  unfold mayL at h
  exact List.all_eq_true.1 h
theorem wrL_may {ls : List Lst} (h : mayL ls = true) : ∀ e ∈ wrL ls, mayE e = true := by
  intro e he
  obtain ⟨x, hx, hm⟩ := List.mem_flatMap.1 he
  exact okB_may (mayL_pw h x hx) e hm
/-- What Merge leaves is what All makes. -/
theorem all_lists {ls : List Lst} (h : mayL ls = true) : AllS (wrL ls.reverse) (allM (wrL ls)) := by
  obtain ⟨h1, h2⟩ := allM_all (wrL_may h)
  refine ⟨fun e => ?_, chain_pw h2⟩
  rw [h1 e, find_lists _ _ ls (fun x hx => okB_pw (mayL_pw h x hx))]
end Go.Proofs.Ytgkkgiaaillhpaa
