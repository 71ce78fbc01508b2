/-
  Maps from texts, as lists that rise by their keys: put, taken away, looked up; the same as a datum of a map of pointers. No function of the program is spoken of. Conditions: none.
-/
import Derived.Test.YthikedhbjphmeaaWl
import Derived.Maps.OwnSet
import Derived.Sort.KeysCollected
import Derived.Below
namespace Go.Proofs.Ythikedhbjphmeaa
open Go.RowKit

section
variable {α β : Type}
def insL (k : List UInt8) (v : α) : List (List UInt8 × α) → List (List UInt8 × α)
  | [] => [(k, v)]
  | y :: r => if bytesBefore k y.1 then (k, v) :: y :: r else y :: insL k v r
def delL (k : List UInt8) (l : List (List UInt8 × α)) : List (List UInt8 × α) := l.filter fun p => !(p.1 == k)
def putL (k : List UInt8) (v : α) (l : List (List UInt8 × α)) : List (List UInt8 × α) := insL k v (delL k l)
def getL (k : List UInt8) (l : List (List UInt8 × α)) : Option α := (l.find? fun p => p.1 == k).map (·.2)
def setL (k : List UInt8) (v : α) (l : List (List UInt8 × α)) : List (List UInt8 × α) := l.map fun p => if p.1 == k then (p.1, v) else p
def mapL (f : α → β) (l : List (List UInt8 × α)) : List (List UInt8 × β) := l.map fun p => (p.1, f p.2)
def Srt (l : List (List UInt8 × α)) : Prop := l.Pairwise fun p q => bytesBefore p.1 q.1 = true

theorem mapL_insL (f : α → β) (k : List UInt8) (v : α) : ∀ l, mapL f (insL k v l) = insL k (f v) (mapL f l)
  | [] => rfl
  | y :: r => by
    have ih := mapL_insL f k v r
    by_cases h : bytesBefore k y.1 = true
    · simp [insL, mapL, h]
    · simp only [mapL] at ih
      simp [insL, mapL, h, ih]
theorem mapL_delL (f : α → β) (k : List UInt8) (l : List (List UInt8 × α)) : mapL f (delL k l) = delL k (mapL f l) := by
  unfold mapL delL
  rw [List.filter_map]
  rfl
theorem mapL_putL (f : α → β) (k : List UInt8) (v : α) (l : List (List UInt8 × α)) : mapL f (putL k v l) = putL k (f v) (mapL f l) := by
  unfold putL; rw [mapL_insL, mapL_delL]
theorem getL_mapL (f : α → β) (k : List UInt8) (l : List (List UInt8 × α)) : getL k (mapL f l) = (getL k l).map f := by
  unfold getL mapL
  rw [List.find?_map]
  simp only [Option.map_map]
  congr 1
theorem mapL_setL (f : α → β) (k : List UInt8) (v : α) (l : List (List UInt8 × α)) : mapL f (setL k v l) = setL k (f v) (mapL f l) := by
  unfold setL mapL
  simp only [List.map_map]
  refine List.map_congr_left fun p _ => ?_
  simp only [Function.comp]
  split <;> simp
theorem mapL_keys (f : α → β) (l : List (List UInt8 × α)) : (mapL f l).map (·.1) = l.map (·.1) := by
  unfold mapL; simp [List.map_map, Function.comp_def]
theorem insL_perm (k : List UInt8) (v : α) : ∀ l, (insL k v l).Perm ((k, v) :: l)
  | [] => .refl _
  | y :: r => by
    unfold insL
    split
    · exact .refl _
    · exact ((insL_perm k v r).cons y).trans (.swap _ _ _)
theorem mem_insL {k : List UInt8} {v : α} {l : List (List UInt8 × α)} {p : List UInt8 × α} : p ∈ insL k v l ↔ p = (k, v) ∨ p ∈ l := by
  rw [(insL_perm k v l).mem_iff, List.mem_cons]
theorem mem_delL {k : List UInt8} {l : List (List UInt8 × α)} {p : List UInt8 × α} : p ∈ delL k l ↔ p ∈ l ∧ p.1 ≠ k := by
  unfold delL; simp
theorem mem_putL {k : List UInt8} {v : α} {l : List (List UInt8 × α)} {p : List UInt8 × α} : p ∈ putL k v l ↔ p = (k, v) ∨ (p ∈ l ∧ p.1 ≠ k) := by
  unfold putL; rw [mem_insL, mem_delL]
theorem srt_ne {l : List (List UInt8 × α)} (h : Srt l) : l.Pairwise fun p q => p.1 ≠ q.1 :=
  List.Pairwise.imp (fun {a b} hab e => by rw [e, WideAt.bytes_irrefl] at hab; cases hab) h
theorem srt_delL {k : List UInt8} {l : List (List UInt8 × α)} (h : Srt l) : Srt (delL k l) := List.Pairwise.sublist List.filter_sublist h
theorem srt_insL {k : List UInt8} {v : α} : ∀ {l : List (List UInt8 × α)}, Srt l → (∀ p ∈ l, p.1 ≠ k) → Srt (insL k v l)
  | [], _, _ => List.pairwise_singleton _ _
  | y :: r, h, hk => by
    obtain ⟨h1, h2⟩ := List.pairwise_cons.1 h
    unfold insL
    split
    · rename_i hb
      refine List.pairwise_cons.2 ⟨fun p hp => ?_, h⟩
      rcases List.mem_cons.1 hp with rfl | hp
      · exact hb
      · exact WideShapes.bytes_trans _ _ _ hb (h1 p hp)
    · rename_i hb
      refine List.pairwise_cons.2 ⟨fun p hp => ?_, srt_insL h2 fun p hp => hk p (List.mem_cons_of_mem _ hp)⟩
      rcases mem_insL.1 hp with rfl | hp
      · rcases WideAt.bytes_total y.1 k (hk y (List.mem_cons_self ..)) with h | h
        · exact h
        · exact absurd h hb
      · exact h1 p hp
theorem srt_putL {k : List UInt8} {v : α} {l : List (List UInt8 × α)} (h : Srt l) : Srt (putL k v l) :=
  srt_insL (srt_delL h) fun _ hp => (mem_delL.1 hp).2
theorem srt_mapL (f : α → β) {l : List (List UInt8 × α)} : Srt (mapL f l) ↔ Srt l := by
  unfold Srt mapL; rw [List.pairwise_map]
theorem srt_setL {k : List UInt8} {v : α} {l : List (List UInt8 × α)} (h : Srt l) : Srt (setL k v l) := by
  unfold Srt setL
  rw [List.pairwise_map]
  refine List.Pairwise.imp (fun {a b} hab => ?_) h
  split <;> split <;> exact hab
/-- What a key has, where keys are apart. -/
theorem getL_iff {k : List UInt8} {v : α} : ∀ {l : List (List UInt8 × α)}, Srt l → (getL k l = some v ↔ (k, v) ∈ l)
  | [], _ => by simp [getL]
  | y :: r, h => by
    obtain ⟨h1, h2⟩ := List.pairwise_cons.1 h
    have ih := getL_iff (k := k) (v := v) h2
    unfold getL at *
    rw [List.find?_cons]
    by_cases e : y.1 = k
    · subst e
      simp only [beq_self_eq_true, Option.map_some, Option.some.injEq, List.mem_cons]
      constructor
      · rintro rfl; exact .inl rfl
      · rintro (e | hm)
        · rw [← e]
        · have := h1 _ hm
          rw [WideAt.bytes_irrefl] at this; cases this
    · rw [show (y.1 == k) = false by simpa using e]
      simp only [List.mem_cons]
      rw [ih]
      constructor
      · exact .inr
      · rintro (e' | hm)
        · exact absurd (by rw [← e']) e
        · exact hm
theorem getL_none {k : List UInt8} {l : List (List UInt8 × α)} : getL k l = none ↔ ∀ p ∈ l, p.1 ≠ k := by
  unfold getL; simp
theorem getL_putL {k k' : List UInt8} {v : α} {l : List (List UInt8 × α)} (h : Srt l) : getL k' (putL k v l) = if k' = k then some v else getL k' l := by
  split
  · rename_i e; subst e
    exact (getL_iff (srt_putL h)).2 (mem_putL.2 (.inl rfl))
  · rename_i e
    cases hg : getL k' l with
    | none =>
      rw [getL_none] at hg ⊢
      intro p hp
      rcases mem_putL.1 hp with rfl | ⟨hp, _⟩
      · exact fun e' => e e'.symm
      · exact hg p hp
    | some x => exact (getL_iff (srt_putL h)).2 (mem_putL.2 (.inr ⟨(getL_iff h).1 hg, e⟩))
theorem getL_delL {k k' : List UInt8} {l : List (List UInt8 × α)} (h : Srt l) : getL k' (delL k l) = if k' = k then none else getL k' l := by
  split
  · rename_i e; subst e
    exact getL_none.2 fun p hp => (mem_delL.1 hp).2
  · rename_i e
    cases hg : getL k' l with
    | none =>
      rw [getL_none] at hg ⊢
      exact fun p hp => hg p (mem_delL.1 hp).1
    | some x => exact (getL_iff (srt_delL h)).2 (mem_delL.2 ⟨(getL_iff h).1 hg, e⟩)
theorem getL_setL {k k' : List UInt8} {v : α} (l : List (List UInt8 × α)) : getL k' (setL k v l) = if k' = k then (getL k l).map fun _ => v else getL k' l := by
  unfold getL setL
  rw [List.find?_map]
  have e1 : ((fun p : List UInt8 × α => p.1 == k') ∘ fun p => if (p.1 == k) = true then (p.1, v) else p) = fun p => p.1 == k' := by
    funext p; simp only [Function.comp]; split <;> rfl
  rw [e1]
  split
  · rename_i e; subst e
    cases hf : l.find? fun p => p.1 == k' with
    | none => rfl
    | some p =>
      have := List.find?_some hf
      simp only [Option.map_some]
      rw [if_pos this]
  · rename_i e
    cases hf : l.find? fun p => p.1 == k' with
    | none => rfl
    | some p =>
      have h1 := List.find?_some hf
      have h2 : ¬ (p.1 == k) = true := by
        intro h3
        exact e ((beq_iff_eq.1 h1).symm.trans (beq_iff_eq.1 h3))
      simp only [Option.map_some]
      rw [if_neg h2]
theorem length_insL (k : List UInt8) (v : α) (l : List (List UInt8 × α)) : (insL k v l).length = l.length + 1 := by
  have := (insL_perm k v l).length_eq; simpa using this
theorem delL_none {k : List UInt8} {l : List (List UInt8 × α)} (h : getL k l = none) : delL k l = l := by
  unfold delL
  rw [List.filter_eq_self]
  intro p hp
  simpa using getL_none.1 h p hp
theorem length_delL_le (k : List UInt8) (l : List (List UInt8 × α)) : (delL k l).length ≤ l.length := List.length_filter_le _ _
theorem length_delL {k : List UInt8} {v : α} : ∀ {l : List (List UInt8 × α)}, Srt l → getL k l = some v → (delL k l).length + 1 = l.length
  | [], _, h => by simp [getL] at h
  | y :: r, h, hg => by
    obtain ⟨h1, h2⟩ := List.pairwise_cons.1 h
    by_cases e : y.1 = k
    · subst e
      have hn : getL y.1 r = none := getL_none.2 fun p hp e => by
        have := h1 p hp
        rw [e, WideAt.bytes_irrefl] at this; cases this
      have := delL_none hn
      unfold delL at this ⊢
      rw [List.filter_cons]
      simp [this]
    · have hg' : getL k r = some v := by
        unfold getL at hg ⊢
        rw [List.find?_cons, show (y.1 == k) = false by simpa using e] at hg
        exact hg
      have ih := length_delL h2 hg'
      unfold delL at ih ⊢
      rw [List.filter_cons, if_pos (by simpa using e)]
      simp only [List.length_cons]
      omega
theorem length_putL_new {k : List UInt8} {v : α} {l : List (List UInt8 × α)} (h : getL k l = none) : (putL k v l).length = l.length + 1 := by
  unfold putL; rw [length_insL, delL_none h]
theorem length_putL_le (k : List UInt8) (v : α) (l : List (List UInt8 × α)) : (putL k v l).length ≤ l.length + 1 := by
  unfold putL; rw [length_insL]; have := length_delL_le k l; omega
theorem length_setL (k : List UInt8) (v : α) (l : List (List UInt8 × α)) : (setL k v l).length = l.length := by simp [setL]
theorem length_mapL (f : α → β) (l : List (List UInt8 × α)) : (mapL f l).length = l.length := by simp [mapL]
theorem mem_setL {k : List UInt8} {v : α} {l : List (List UInt8 × α)} {p : List UInt8 × α} : p ∈ setL k v l → (p.1 = k ∧ p.2 = v) ∨ (p ∈ l ∧ p.1 ≠ k) := by
  unfold setL
  rw [List.mem_map]
  rintro ⟨q, hq, rfl⟩
  split
  · rename_i e; exact .inl ⟨by simpa using e, rfl⟩
  · rename_i e; exact .inr ⟨hq, by simpa using e⟩
end

/-! ### as the datum of a map of pointers -/
/-- How a pointer that a map holds reads: as its block's number. -/
def fR : Value → Option (DataW Unit × List MemPlace)
  | .pointer none => some (.nil, [])
  | .pointer (some ⟨b, 0, none⟩) => some (.lit (.int .i64 (b : Int)), [])
  | _ => none
def fD (G : List (List UInt8 × Nat)) : DataW Unit := .map (G.map fun p => (Lit.string p.1, DataW.lit (.int .i64 (p.2 : Int))))
theorem fR_inv {v : Value} {b : Nat} {ps : List MemPlace} (h : fR v = some (.lit (.int .i64 (b : Int)), ps)) : v = .pointer (some ⟨b, 0, none⟩) := by
  unfold fR at h
  split at h
  · simp at h
  · simp at h
    obtain ⟨h, _⟩ := h
    have h := Int.ofNat_inj.1 h
    rw [h]
  · cases h
theorem fR_inv_nil {v : Value} {ps : List MemPlace} (h : fR v = some (.nil, ps)) : v = .pointer none := by
  unfold fR at h
  split at h
  · rfl
  · simp at h
  · cases h
theorem fD_nil : fD [] = .map [] := rfl
theorem fD_ins (k : List UInt8) (b : Nat) : ∀ G : List (List UInt8 × Nat), DataW.insert (Lit.string k, DataW.lit (.int .i64 (b : Int))) (G.map fun p => (Lit.string p.1, (DataW.lit (.int .i64 (p.2 : Int)) : DataW Unit))) = (insL k b G).map fun p => (Lit.string p.1, DataW.lit (.int .i64 (p.2 : Int)))
  | [] => rfl
  | y :: r => by
    have ih := fD_ins k b r
    unfold insL DataW.insert
    simp only [List.map_cons, Lit.before]
    by_cases h : bytesBefore k y.1 = true
    · simp [h]
    · simp [h, ih]
theorem fD_filter (k : List UInt8) (G : List (List UInt8 × Nat)) : ((G.map fun p => (Lit.string p.1, (DataW.lit (.int .i64 (p.2 : Int)) : DataW Unit))).filter fun p => !p.1.sameKey (.string k)) = (delL k G).map fun p => (Lit.string p.1, DataW.lit (.int .i64 (p.2 : Int))) := by
  unfold delL
  rw [List.filter_map]
  rfl
theorem fD_put (k : List UInt8) (b : Nat) (G : List (List UInt8 × Nat)) : (fD G).put (.string k) (.lit (.int .i64 (b : Int))) = fD (putL k b G) := by
  unfold fD DataW.put putL
  simp only [fD_filter, fD_ins]
theorem fD_del (k : List UInt8) (G : List (List UInt8 × Nat)) : (fD G).del (.string k) = fD (delL k G) := by
  unfold fD DataW.del
  simp only [fD_filter]
theorem fD_has (k : List UInt8) (G : List (List UInt8 × Nat)) : Maps.has (fD G) (.string k) = (getL k G).isSome := by
  unfold fD getL
  rw [Maps.has_eq, List.any_map]
  simp only [Option.isSome_map]
  rw [List.isSome_find?]
  rfl
theorem fD_at (k : List UInt8) (G : List (List UInt8 × Nat)) (z : DataW Unit) : (fD G).atKey (.string k) z = match getL k G with | some b => .lit (.int .i64 (b : Int)) | none => z := by
  unfold fD getL DataW.atKey
  simp only [List.find?_map]
  have e : ((fun p : Lit × DataW Unit => p.1.sameKey (.string k)) ∘ fun p : List UInt8 × Nat => (Lit.string p.1, (DataW.lit (.int .i64 (p.2 : Int)) : DataW Unit))) = fun p => p.1 == k := by
    funext p; rfl
  rw [e]
  cases G.find? fun p => p.1 == k <;> rfl
theorem fD_size (G : List (List UInt8 × Nat)) : Maps.size (fD G) = G.length := by simp [fD, Maps.size_eq]
theorem fD_keys (G : List (List UInt8 × Nat)) : strKeys (fD G) = G.map (·.1) := by
  show List.map (fun p : Lit × DataW Unit => strOf p.1) _ = _
  rw [List.map_map]
  rfl
theorem before_le : ∀ {a b : List UInt8}, bytesBefore a b = true → a ≤ b
  | [], _, _ => List.nil_le _
  | _ :: _, [], h => by simp [bytesBefore] at h
  | x :: a, y :: b, h => by
    simp only [bytesBefore, Bool.or_eq_true, decide_eq_true_eq, Bool.and_eq_true, beq_iff_eq] at h
    rw [List.cons_le_cons_iff]
    rcases h with h | ⟨rfl, h⟩
    · exact .inl h
    · exact .inr ⟨rfl, before_le h⟩
theorem sorted_keys {α : Type} {G : List (List UInt8 × α)} (h : Srt G) {ss : List (List UInt8)} (hp : ss.Perm (G.map (·.1))) : (ss.mergeSort fun x y => decide (x ≤ y)) = G.map (·.1) := by
  have h1 := mergeSort_of_perm hp
  change ss.mergeSort (fun x y => decide (x ≤ y)) = _ at h1
  rw [h1]
  refine List.mergeSort_of_pairwise ?_
  rw [List.pairwise_map]
  exact List.Pairwise.imp (fun hab => by simpa using before_le hab) h
end Go.Proofs.Ythikedhbjphmeaa
