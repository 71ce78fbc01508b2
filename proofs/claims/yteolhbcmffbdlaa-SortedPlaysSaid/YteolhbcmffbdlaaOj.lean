/-
  Layer 7 (sorted), plain: what a key has behind puts and drops; a map filled with keys one by one. No function of the program is spoken of. Conditions: none.
-/
import Derived.Test.YteolhbcmffbdlaaTr
namespace Go.Proofs.Yteolhbcmffbdlaa
set_option linter.unusedVariables false

theorem snocInd {β : Type} {P : List β → Prop} (h0 : P []) (h1 : ∀ l a, P l → P (l ++ [a])) (l : List β) : P l := by
  have h : ∀ r : List β, P r.reverse := by
    intro r
    induction r with
    | nil => simpa using h0
    | cons a r ih => simpa using h1 _ a ih
  simpa using h l.reverse
section
variable {α : Type}
theorem less_or {a k : Ky} : a ≠ k ↔ (Op.bytesLess a k = true ∨ Op.bytesLess k a = true) := by
  constructor
  · intro h
    cases h1 : Op.bytesLess a k with
    | true => exact .inl rfl
    | false =>
      cases h2 : Op.bytesLess k a with
      | true => exact .inr rfl
      | false => exact absurd (less_total _ _ h1 h2) h
  · rintro (h | h) rfl <;> rw [less_irr] at h <;> cases h
theorem mem_delA {k : Ky} {l : List (Ky × α)} {p : Ky × α} : p ∈ delA k l ↔ p ∈ l ∧ p.1 ≠ k := by
  unfold delA
  rw [List.mem_append, List.mem_filter, List.mem_filter, less_or]
  constructor
  · rintro (⟨h1, h2⟩ | ⟨h1, h2⟩)
    · exact ⟨h1, .inl h2⟩
    · exact ⟨h1, .inr h2⟩
  · rintro ⟨h1, h2 | h2⟩
    · exact .inl ⟨h1, h2⟩
    · exact .inr ⟨h1, h2⟩
theorem mem_putA {k : Ky} {v : α} {l : List (Ky × α)} {p : Ky × α} : p ∈ putA k v l ↔ p = (k, v) ∨ (p ∈ l ∧ p.1 ≠ k) := by
  unfold putA
  rw [List.mem_append, List.mem_cons, List.mem_filter, List.mem_filter, less_or]
  constructor
  · rintro (⟨h1, h2⟩ | h | ⟨h1, h2⟩)
    · exact .inr ⟨h1, .inl h2⟩
    · exact .inl h
    · exact .inr ⟨h1, .inr h2⟩
  · rintro (h | ⟨h1, h2 | h2⟩)
    · exact .inr (.inl h)
    · exact .inl ⟨h1, h2⟩
    · exact .inr (.inr ⟨h1, h2⟩)
theorem getA_iff {l : List (Ky × α)} (h : Rise l) {k : Ky} {v : α} : getA k l = some v ↔ (k, v) ∈ l := by
  constructor
  · intro hg
    obtain ⟨a, r, rfl⟩ := split_get hg
    simp
  · intro hm
    obtain ⟨a, r, rfl⟩ := List.append_of_mem hm
    exact getA_at h
theorem getA_putA {l : List (Ky × α)} (h : Rise l) (k k' : Ky) (v : α) : getA k' (putA k v l) = if k' = k then some v else getA k' l := by
  by_cases e : k' = k
  · subst e
    rw [if_pos rfl]
    exact (getA_iff (rise_putA h _ _)).2 (mem_putA.2 (.inl rfl))
  · rw [if_neg e]
    cases hg : getA k' l with
    | some x => exact (getA_iff (rise_putA h _ _)).2 (mem_putA.2 (.inr ⟨(getA_iff h).1 hg, e⟩))
    | none =>
      cases hp : getA k' (putA k v l) with
      | none => rfl
      | some x =>
        rcases mem_putA.1 ((getA_iff (rise_putA h _ _)).1 hp) with h1 | ⟨h1, _⟩
        · cases h1; exact absurd rfl e
        · rw [(getA_iff h).2 h1] at hg; cases hg
theorem getA_delA {l : List (Ky × α)} (h : Rise l) (k : Ky) : getA k (delA k l) = none := by
  cases hp : getA k (delA k l) with
  | none => rfl
  | some x => exact absurd rfl (mem_delA.1 ((getA_iff (rise_delA h _)).1 hp)).2
/-- Keys put one by one, each with what f says of its place. -/
def fill (f : Nat → Ky → α) (ts : List Ky) : List (Ky × α) := (ts.foldl (fun (p : Nat × List (Ky × α)) t => (p.1 + 1, putA t (f p.1 t) p.2)) (0, [])).2
theorem fill_one (f : Nat → Ky → α) (ts : List Ky) : (ts.foldl (fun (p : Nat × List (Ky × α)) t => (p.1 + 1, putA t (f p.1 t) p.2)) (0, [])).1 = ts.length := by
  refine snocInd (P := fun ts => (ts.foldl (fun (p : Nat × List (Ky × α)) t => (p.1 + 1, putA t (f p.1 t) p.2)) (0, [])).1 = ts.length) rfl (fun l a ih => ?_) ts
  rw [List.foldl_append, List.length_append]
  simp only [List.foldl_cons, List.foldl_nil, List.length_cons, List.length_nil]
  rw [ih]
theorem fill_nil (f : Nat → Ky → α) : fill f [] = [] := rfl
theorem fill_snoc (f : Nat → Ky → α) (ts : List Ky) (t : Ky) : fill f (ts ++ [t]) = putA t (f ts.length t) (fill f ts) := by
  unfold fill
  rw [List.foldl_append]
  simp only [List.foldl_cons, List.foldl_nil]
  rw [fill_one]
theorem rise_fill (f : Nat → Ky → α) (ts : List Ky) : Rise (fill f ts) :=
  snocInd (P := fun ts => Rise (fill f ts)) List.Pairwise.nil (fun l a ih => by rw [fill_snoc]; exact rise_putA ih _ _) ts
theorem fill_len (f : Nat → Ky → α) (ts : List Ky) : (fill f ts).length ≤ ts.length :=
  snocInd (P := fun ts => (fill f ts).length ≤ ts.length) (Nat.le_refl _) (fun l a ih => by
    rw [fill_snoc, putA_len (rise_fill f l), List.length_append]
    simp only [List.length_cons, List.length_nil]
    split <;> omega) ts
/-- Is a key among them? -/
def inT (ts : List Ky) (k : Ky) : Bool := ts.any (· == k)
theorem inT_snoc (ts : List Ky) (t k : Ky) : inT (ts ++ [t]) k = (inT ts k || t == k) := by unfold inT; simp
theorem fill_get (g : Ky → α) (ts : List Ky) (k : Ky) : getA k (fill (fun _ t => g t) ts) = if inT ts k = true then some (g k) else none :=
  snocInd (P := fun ts => getA k (fill (fun _ t => g t) ts) = if inT ts k = true then some (g k) else none) rfl (fun l a ih => by
    rw [fill_snoc, getA_putA (rise_fill _ l), inT_snoc, ih]
    by_cases e : k = a
    · subst e; simp
    · rw [if_neg e]
      have e2 : (a == k) = false := by rw [beq_eq_false_iff_ne]; exact fun h => e h.symm
      rw [e2, Bool.or_false]) ts
theorem take_snoc {ts : List Ky} {k : Nat} (h : k < ts.length) : ts.take (k + 1) = ts.take k ++ [ts[k]] := by simp
end
end Go.Proofs.Yteolhbcmffbdlaa
