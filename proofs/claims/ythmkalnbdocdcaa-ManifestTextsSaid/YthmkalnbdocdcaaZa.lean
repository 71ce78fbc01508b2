/-
  Layer 12 (manifest): an edit fits, told by counting; tables as cells one by one.
-/
import Derived.Test.YthmkalnbdocdcaaYz
namespace Go.Proofs.Ythmkalnbdocdcaa
set_option maxRecDepth 100000
open Go.RowKit
set_option linter.unusedVariables false
set_option linter.unusedSimpArgs false

theorem nd_le : ∀ {A B : List Int}, A.Nodup → (∀ x ∈ A, x ∈ B) → A.length ≤ B.length
  | [], B, _, _ => Nat.zero_le _
  | a :: A, B, h, hs => by
    obtain ⟨h1, h2⟩ := List.nodup_cons.1 h
    have ha : a ∈ B := hs a (by simp)
    have hp : 0 < B.length := List.length_pos_of_mem ha
    have := nd_le (A := A) (B := B.erase a) h2 (fun x hx => by
      have hne : x ≠ a := fun e => h1 (e ▸ hx)
      exact (List.mem_erase_of_ne hne).2 (hs x (by simp [hx])))
    rw [List.length_erase_of_mem ha] at this
    simp only [List.length_cons]
    omega
def goneT (s : List Tb) (d : List Int) : List Tb := s.filter fun t => d.contains t.1
theorem fit_split {s : List Tb} {e : Ed} (hs : (s.map (·.1)).Nodup) : fitT s e = true ↔ doB e = true ∧ (∀ t ∈ s, ¬ t.1 ∈ e.1.map (·.1)) ∧ (goneT s e.2.1).length = e.2.1.length := by
  rw [fitT_iff, doB_iff]
  have hnd : ((goneT s e.2.1).map (·.1)).Nodup := ((List.filter_sublist (l := s)).map _).nodup hs
  have hsub : ∀ x ∈ (goneT s e.2.1).map (·.1), x ∈ e.2.1 := by
    intro x hx
    obtain ⟨t, ht, rfl⟩ := List.mem_map.1 hx
    have := (List.mem_filter.1 ht).2
    simpa using this
  constructor
  · rintro ⟨f1, f2, f3, f4⟩
    refine ⟨⟨f2, f4, fun t ht => ⟨fun hd => ?_, (f3 t ht).2⟩⟩, fun t ht hm => ?_, ?_⟩
    · obtain ⟨u, hu, h⟩ := f1 _ hd
      exact (f3 t ht).1 u hu h
    · obtain ⟨u, hu, h⟩ := List.mem_map.1 hm
      exact (f3 u hu).1 t ht h.symm
    · have h1 := nd_le hnd hsub
      have h2 := nd_le (B := (goneT s e.2.1).map (·.1)) f2 (fun x hx => by
        obtain ⟨t, ht, rfl⟩ := f1 x hx
        exact List.mem_map.2 ⟨t, List.mem_filter.2 ⟨ht, by simpa using hx⟩, rfl⟩)
      rw [List.length_map] at h1 h2
      omega
  · rintro ⟨⟨g1, g2, g3⟩, g4, g5⟩
    refine ⟨fun x hx => ?_, g1, fun t ht => ⟨fun u hu h => ?_, (g3 t ht).2⟩, g2⟩
    · by_cases hin : x ∈ (goneT s e.2.1).map (·.1)
      · obtain ⟨t, ht, h⟩ := List.mem_map.1 hin
        exact ⟨t, (List.mem_filter.1 ht).1, h⟩
      · exfalso
        have h1 := nd_le (A := x :: (goneT s e.2.1).map (·.1)) (B := e.2.1) (List.nodup_cons.2 ⟨hin, hnd⟩) (fun y hy => by
          rcases List.mem_cons.1 hy with rfl | hy
          · exact hx
          · exact hsub y hy)
        rw [List.length_cons, List.length_map] at h1
        omega
    · exact g4 u hu (List.mem_map.2 ⟨t, ht, h.symm⟩)
theorem tb_news {w : World} {b off : Nat} {ts : List Tb} (h : TbAt w b off ts) {j : Nat} {u : Value} (hu : (tv4 ts)[j]? = some u) : w.cell? ⟨b, off + j, none⟩ = some u := by
  have hj : j < (tv4 ts).length := by
    rcases Nat.lt_or_ge j (tv4 ts).length with h | h
    · exact h
    · rw [List.getElem?_eq_none h] at hu; cases hu
  rw [tv4_length] at hj
  obtain ⟨i, r, rfl, hr⟩ : ∃ i r, j = i * 4 + r ∧ r < 4 := ⟨j / 4, j % 4, by omega, by omega⟩
  have hi : i < ts.length := by omega
  obtain ⟨p0, p1, p2, p3⟩ := h i hi
  obtain ⟨q0, q1, q2, q3⟩ := tv4_get ts i hi
  rcases (show r = 0 ∨ r = 1 ∨ r = 2 ∨ r = 3 by omega) with rfl | rfl | rfl | rfl
  · rw [Nat.add_zero] at *; rw [q0] at hu; rw [← hu]; exact p0
  · rw [q1] at hu; rw [← hu, ← Nat.add_assoc]; exact p1
  · rw [q2] at hu; rw [← hu, ← Nat.add_assoc]; exact p2
  · rw [q3] at hu; rw [← hu, ← Nat.add_assoc]; exact p3
theorem DM.below {w w' : World} {b n m : Nat} {f : Int → Int} (h : DM w b n f) (hb : Below m w w') (hl : b < m) : DM w' b n f := by
  obtain ⟨D, ⟨es, clock, h1, h2⟩, c, d⟩ := h
  exact ⟨D, ⟨es, clock, (hb.block b hl).trans h1, h2⟩, c, d⟩
theorem DM.lt {w : World} {b n : Nat} {f : Int → Int} (h : DM w b n f) : b < w.heap.size := let ⟨D, a, c, d⟩ := h; a.lt
theorem kept_snoc (l : List Tb) (t : Tb) (d : List Int) : keptT (l ++ [t]) d = keptT l d ++ (if t.1 ∈ d then [] else [t]) := by
  unfold keptT
  rw [List.filter_append]
  by_cases h : t.1 ∈ d <;> simp [h]
theorem gone_snoc (l : List Tb) (t : Tb) (d : List Int) : (goneT (l ++ [t]) d).length = (goneT l d).length + (if t.1 ∈ d then 1 else 0) := by
  unfold goneT
  rw [List.filter_append]
  by_cases h : t.1 ∈ d <;> simp [h]
end Go.Proofs.Ythmkalnbdocdcaa
