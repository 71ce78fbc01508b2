/-
  Layer 16 (post): what a call of a way keeps (all but the way's own block, and rows of bytes), places that may be stored to. No function of the program is spoken of. Conditions: none.
-/
import Derived.Test.YtdnhmkfgcpdbkaaTa
import Derived.Laws.IdiomCopy
namespace Go.Proofs.Ytdnhmkfgcpdbkaa
open Go.RowKit
set_option linter.unusedVariables false
set_option linter.unusedSimpArgs false

theorem heap_set (w : World) (p : Addr) (v : Value) : (w.setCell p v).heap[p.block]? = (w.heap[p.block]?).map fun
      | .cells c elem frozen => .cells (if p.spot.isSome then c else c.setIfInBounds p.off v) elem frozen
      | o => o := by
  simp only [World.setCell, Array.getElem?_modify, if_true]
  cases w.heap[p.block]? with
  | none => rfl
  | some o => cases o <;> rfl
structure KB (b B : Nat) (w w' : World) : Prop where
  t : KeepT b w w'
  l : Below B w w'
theorem KB.refl (b B : Nat) (w : World) : KB b B w w := ⟨KeepT.refl b w, Below.refl B w⟩
theorem KB.trans {b B : Nat} {w w' w'' : World} (h : KB b B w w') (k : KB b B w' w'') : KB b B w w'' := ⟨h.t.trans k.t, h.l.trans k.l⟩
theorem KB.of {b B : Nat} {w w' : World} (h : Below w.heap.size w w') (hB : B ≤ w.heap.size) : KB b B w w' := ⟨KeepT.of h, h.mono hB⟩
theorem KB.size {b B : Nat} {w w' : World} (h : KB b B w w') : w.heap.size ≤ w'.heap.size := h.t.2
theorem KB.drew {b B : Nat} {w w' : World} (h : KB b B w w') : KB b B w w'.drew := ⟨h.t, h.l.drew⟩
theorem KB.alloc {b B : Nat} {w w' : World} (h : KB b B w w') (hB : B ≤ w'.heap.size) (o : Obj) : KB b B w (w'.alloc o) := h.trans (KB.of ((Below.refl _ w').alloc (Nat.le_refl _) o) hB)
theorem KB.own {b B : Nat} {w w' : World} (h : KB b B w w') (i : Nat) (hb : B ≤ b) (v : Value) : KB b B w (w'.setCell ⟨b, i, none⟩ v) :=
  ⟨h.t.trans (KeepT.set b i w' v), h.l.setCell (p := ⟨b, i, none⟩) hb v⟩
theorem KB.set {b B : Nat} {w w' : World} (h : KB b B w w') (p : Addr) (v : Value) (hp : p.block ≠ b) : KB b B (w.setCell p v) (w'.setCell p v) := by
  refine ⟨⟨fun x cs T fr hx hc hT => ?_, by simpa using h.size⟩, ?_⟩
  · by_cases e : x = p.block
    · subst e
      rw [heap_set] at hc ⊢
      cases ho : w.heap[p.block]? with
      | none => rw [ho] at hc; cases hc
      | some o =>
        rw [ho] at hc
        cases o with
        | cells c T' fr' =>
          simp only [Option.map_some, Option.some.injEq, Obj.cells.injEq] at hc
          obtain ⟨h1, h2, h3⟩ := hc
          subst h2
          rw [h.t.1 p.block c T' fr' hx ho hT]
          simp only [Option.map_some, Option.some.injEq, Obj.cells.injEq]
          exact ⟨h1, trivial, h3⟩
        | _ => simp at hc
    · rw [Below.heap_setCell _ _ _ _ e] at hc ⊢
      exact h.t.1 x cs T fr hx hc hT
  · refine ⟨h.l.os, h.l.tape, h.l.output, by simpa using h.size, fun k hk => ?_⟩
    by_cases e : k = p.block
    · subst e
      rw [heap_set, heap_set, h.l.block _ hk]
    · rw [Below.heap_setCell _ _ _ _ e, Below.heap_setCell _ _ _ _ e]
      exact h.l.block k hk
/-- What is stored where it is already changes nothing. -/
theorem set_same {w : World} {p : Addr} {v : Value} (h : w.cell? p = some v) : w.setCell p v = w := by
  unfold World.cell? at h
  have hh : (w.setCell p v).heap = w.heap := by
    refine Array.ext_getElem? fun i => ?_
    by_cases e : i = p.block
    · subst e
      rw [heap_set]
      cases ho : w.heap[p.block]? with
      | none => rfl
      | some o =>
        cases o with
        | cells c T fr =>
          rw [ho] at h
          simp only at h
          by_cases hs : p.spot.isSome = true
          · rw [if_pos hs] at h; cases h
          · rw [if_neg hs] at h
            simp only [Option.map_some, hs, Bool.false_eq_true, if_false]
            congr 2
            refine Array.ext_getElem? fun j => ?_
            rw [Array.getElem?_setIfInBounds]
            split
            · rename_i e2
              subst e2
              split
              · exact h.symm
              · rename_i hl
                rw [Array.getElem?_eq_none (by omega)] at h
                cases h
            · rfl
        | _ => rfl
    · rw [Below.heap_setCell _ _ _ _ e]
  cases w
  unfold World.setCell at hh ⊢
  simp only at hh ⊢
  rw [hh]
/-- A block that a way of its own block b (its row of bytes at B or behind) leaves alone; G: nothing is stored at all. -/
def Loc (G : Prop) (b B : Nat) (w : World) (x : Nat) : Prop := x ≠ b ∧ x < w.heap.size ∧ ((x < B ∧ G) ∨ (B ≤ x ∧ ∃ cs T, w.heap[x]? = some (.cells cs T (0, 0)) ∧ T ≠ 5))
theorem Loc.heap {G : Prop} {b B x : Nat} {w w' : World} (h : Loc G b B w x) (hk : KB b B w w') : w'.heap[x]? = w.heap[x]? := by
  obtain ⟨h1, h2, h3 | ⟨h3, cs, T, h4, h5⟩⟩ := h
  · exact hk.l.block x h3.1
  · rw [h4]; exact hk.t.1 x cs T _ h1 h4 h5
theorem Loc.cell {G : Prop} {b B x : Nat} {w w' : World} (h : Loc G b B w x) (hk : KB b B w w') (i : Nat) : w'.cell? ⟨x, i, none⟩ = w.cell? ⟨x, i, none⟩ := World.cell?_of_block (w := w) (h.heap hk)
theorem Loc.keep {G : Prop} {b B x : Nat} {w w' : World} (h : Loc G b B w x) (hk : KB b B w w') : Loc G b B w' x := by
  have e := h.heap hk
  obtain ⟨h1, h2, h3⟩ := h
  refine ⟨h1, Nat.lt_of_lt_of_le h2 hk.size, ?_⟩
  rw [e]
  exact h3
theorem Loc.set {G : Prop} {b B x : Nat} {w : World} (h : Loc G b B w x) (p : Addr) (v : Value) : Loc G b B (w.setCell p v) x := by
  obtain ⟨h1, h2, h3⟩ := h
  refine ⟨h1, by simpa using h2, ?_⟩
  rcases h3 with h3 | ⟨h3, cs, T, h4, h5⟩
  · exact .inl h3
  · refine .inr ⟨h3, ?_⟩
    by_cases e : x = p.block
    · subst e
      rw [heap_set, h4]
      exact ⟨_, T, rfl, h5⟩
    · rw [Below.heap_setCell _ _ _ _ e]
      exact ⟨cs, T, h4, h5⟩
theorem Loc.frozen {G : Prop} {b B x : Nat} {w : World} (h : Loc G b B w x) (hB : B ≤ x) (i : Nat) : w.frozen? ⟨x, i, none⟩ = false := by
  obtain ⟨h1, h2, h3 | ⟨h3, cs, T, h4, h5⟩⟩ := h
  · omega
  · unfold World.frozen?
    simp [h4]
theorem Loc.new {G : Prop} {b B : Nat} {w : World} (hb : b < w.heap.size) (hB : B ≤ w.heap.size) (cs : Array Value) (T : TypeId) (hT : T ≠ 5) : Loc G b B (w.alloc (.cells cs T)) w.heap.size :=
  ⟨by omega, by simp, .inr ⟨hB, cs, T, heap_alloc_new w _, hT⟩⟩
theorem Loc.old {G : Prop} {b B x : Nat} {w w' : World} (h : Loc G b B w x) (hk : Below w.heap.size w w') : Loc G b B w' x := by
  have e := hk.block x h.2.1
  obtain ⟨h1, h2, h3⟩ := h
  refine ⟨h1, Nat.lt_of_lt_of_le h2 hk.size, ?_⟩
  rw [e]
  exact h3
end Go.Proofs.Ytdnhmkfgcpdbkaa
