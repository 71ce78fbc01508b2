/-
  Layer 4 (span): the contracts of lesser and Meet, and of the document's own. Conditions: texts within the form's reach.
-/
import Derived.Test.YtdpinkipcaolhaaSj
import Derived.Deep.RegionHeld3
namespace Go.Proofs.Ytdpinkipcaolhaa
open Go.RowKit

theorem run_max_str (lo lo' : ByteArray) (ts : Array TypeId) (t : TypeId) (w : World) :
    (Builtin.max_ ts t #[.string lo, .string lo']).run Try.prog w = .ok (.string (maxS lo lo')) w := by
  have e : maxS lo lo' = if (!Op.bytesLess lo.toList lo'.toList) = true then lo else lo' := by
    unfold maxS ltB
    cases Op.bytesLess lo.toList lo'.toList <;> rfl
  rw [e]
  simp [Builtin.max_, Builtin.max2, Op.stringOp, asBool]
/-- Three boxes behind a call. -/
theorem cells3 {w w1 : World} {p q p' q' r s : ByteArray} {t t' t'' : TypeId}
    (b1 : Below (((w.alloc (.cells #[.string p, .string q] t)).alloc (.cells #[.string p', .string q'] t')).alloc (.cells #[.string r, .string s] t'')).heap.size (((w.alloc (.cells #[.string p, .string q] t)).alloc (.cells #[.string p', .string q'] t')).alloc (.cells #[.string r, .string s] t'')) w1) :
    w1.cell? ⟨w.heap.size, 0, none⟩ = some (.string p) ∧ w1.cell? ⟨w.heap.size, 1, none⟩ = some (.string q) ∧ w1.cell? ⟨w.heap.size + 1, 0, none⟩ = some (.string p') ∧ w1.cell? ⟨w.heap.size + 1, 1, none⟩ = some (.string q') ∧
    w1.cell? ⟨w.heap.size + 1 + 1, 0, none⟩ = some (.string r) ∧ w1.cell? ⟨w.heap.size + 1 + 1, 1, none⟩ = some (.string s) ∧ w1.frozen? ⟨w.heap.size + 1 + 1, 0, none⟩ = false ∧ w1.frozen? ⟨w.heap.size + 1 + 1, 1, none⟩ = false ∧ w.heap.size + 2 < w1.heap.size := by
  obtain ⟨hc, hf⟩ := bcell b1
  have hz := b1.size
  refine ⟨?_, ?_, ?_, ?_, ?_, ?_, ?_, ?_, by simp at hz; omega⟩
  · rw [hc _ _ (by simp; omega)]; simp [go_sem]
  · rw [hc _ _ (by simp; omega)]; simp [go_sem]
  · rw [hc _ _ (by simp)]; simp [go_sem]
  · rw [hc _ _ (by simp)]; simp [go_sem]
  · rw [hc _ _ (by simp)]; simp [go_sem]
  · rw [hc _ _ (by simp)]; simp [go_sem]
  · rw [hf _ _ (by simp)]; simp [go_sem]
  · rw [hf _ _ (by simp)]; simp [go_sem]
end Go.Proofs.Ytdpinkipcaolhaa
