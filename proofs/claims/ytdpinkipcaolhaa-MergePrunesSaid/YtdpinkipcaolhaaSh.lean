/-
  Layer 4 (span): the contract of the document's own Meet. Conditions: texts within the form's reach.
-/
import Derived.Test.YtdpinkipcaolhaaSi
import Derived.Deep.DeepCutAuto
namespace Go.Proofs.Ytdpinkipcaolhaa
open Go.RowKit

theorem below_box4 {w w' : World} {o p q r : Obj} (h : Below ((((w.alloc o).alloc p).alloc q).alloc r).heap.size ((((w.alloc o).alloc p).alloc q).alloc r) w') : Below w.heap.size w w' := below_box (below_box3 h)
/-- Four boxes behind a call. -/
theorem cells4b {w w1 : World} {p q p' q' r s x y : ByteArray} {t t' t'' u : TypeId}
    (b1 : Below ((((w.alloc (.cells #[.string p, .string q] t)).alloc (.cells #[.string p', .string q'] t')).alloc (.cells #[.string r, .string s] t'')).alloc (.cells #[.string x, .string y] u)).heap.size ((((w.alloc (.cells #[.string p, .string q] t)).alloc (.cells #[.string p', .string q'] t')).alloc (.cells #[.string r, .string s] t'')).alloc (.cells #[.string x, .string y] u)) w1) :
    w1.cell? ⟨w.heap.size + 1, 0, none⟩ = some (.string p') ∧ w1.cell? ⟨w.heap.size + 1, 1, none⟩ = some (.string q') ∧
    w1.cell? ⟨w.heap.size + 1 + 1, 0, none⟩ = some (.string r) ∧ w1.cell? ⟨w.heap.size + 1 + 1, 1, none⟩ = some (.string s) ∧ w1.frozen? ⟨w.heap.size + 1 + 1, 0, none⟩ = false ∧ w1.frozen? ⟨w.heap.size + 1 + 1, 1, none⟩ = false ∧
    w1.cell? ⟨w.heap.size + 1 + 1 + 1, 0, none⟩ = some (.string x) ∧ w1.cell? ⟨w.heap.size + 1 + 1 + 1, 1, none⟩ = some (.string y) ∧ w.heap.size + 3 < w1.heap.size := by
  obtain ⟨hc, hf⟩ := bcell b1
  have hz := b1.size
  refine ⟨?_, ?_, ?_, ?_, ?_, ?_, ?_, ?_, by simp at hz; omega⟩
  · rw [hc _ _ (by simp; try omega)]; simp [go_sem]
  · rw [hc _ _ (by simp; try omega)]; simp [go_sem]
  · rw [hc _ _ (by simp; try omega)]; simp [go_sem]
  · rw [hc _ _ (by simp; try omega)]; simp [go_sem]
  · rw [hf _ _ (by simp; try omega)]; simp [go_sem]
  · rw [hf _ _ (by simp; try omega)]; simp [go_sem]
  · rw [hc _ _ (by simp; try omega)]; simp [go_sem]
  · rw [hc _ _ (by simp; try omega)]; simp [go_sem]
/-- What a range's greater beginning is, by the document's own test. -/
theorem max_three (a b : ByteArray) : (maxS a b = b ∧ Op.bytesLess b.toList a.toList = false ∧ (b.toList == a.toList) = false) ∨ (maxS a b = a ∧ Op.bytesLess b.toList a.toList = true) ∨ (maxS a b = a ∧ Op.bytesLess b.toList a.toList = false ∧ (b.toList == a.toList) = true) := by
  cases h : ltB a b with
  | true =>
    refine .inl ⟨by unfold maxS; rw [if_pos h], ltB_asymm h, ?_⟩
    rw [beq_eq_false_iff_ne]
    intro e
    rw [ba_ext e, ltB_irr] at h
    cases h
  | false =>
    have e : maxS a b = a := by unfold maxS; rw [h]; rfl
    cases k : ltB b a with
    | true => exact .inr (.inl ⟨e, k⟩)
    | false => exact .inr (.inr ⟨e, k, by rw [ltB_total h k]; simp⟩)
theorem end_four (a b : ByteArray) : (endS a b = b ∧ a.toList = []) ∨ (endS a b = a ∧ (¬ a.toList = []) ∧ a.toList.isEmpty = false ∧ b.toList = []) ∨
    (endS a b = b ∧ (¬ a.toList = []) ∧ a.toList.isEmpty = false ∧ (¬ b.toList = []) ∧ b.toList.isEmpty = false ∧ Op.bytesLess b.toList a.toList = true) ∨
    (endS a b = a ∧ (¬ a.toList = []) ∧ a.toList.isEmpty = false ∧ (¬ b.toList = []) ∧ b.toList.isEmpty = false ∧ Op.bytesLess b.toList a.toList = false) := by
  cases ha : emB a with
  | true => exact .inl ⟨by unfold endS; rw [if_pos ha], List.isEmpty_iff.1 ha⟩
  | false =>
    have ha' : ¬ a.toList = [] := fun k => by rw [emB, k] at ha; cases ha
    cases hb : emB b with
    | true => exact .inr (.inl ⟨by unfold endS; rw [ha, hb]; rfl, ha', ha, List.isEmpty_iff.1 hb⟩)
    | false =>
      have hb' : ¬ b.toList = [] := fun k => by rw [emB, k] at hb; cases hb
      cases hl : ltB b a with
      | true => exact .inr (.inr (.inl ⟨by unfold endS; rw [ha, hb, hl]; rfl, ha', ha, hb', hb, hl⟩))
      | false => exact .inr (.inr (.inr ⟨by unfold endS; rw [ha, hb, hl]; rfl, ha', ha, hb', hb, hl⟩))
end Go.Proofs.Ytdpinkipcaolhaa
