/-
  Layer 9 (block), contracts of the closures by which the code reads entries off bytes: number, text, next. Conditions: at most 2^24 bytes are left.
-/
import Derived.Test.YtdpinkipcaolhaaKq
import Derived.Test.YtdpinkipcaolhaaQm
import Derived.Lib.MinMax
namespace Go.Proofs.Ytdpinkipcaolhaa
set_option maxRecDepth 100000
open Go.RowKit
set_option linter.unusedVariables false
set_option linter.unusedSimpArgs false

/-- All blocks but some are as they were. -/
def KeepX (X : Nat → Prop) (w w' : World) : Prop := (∀ y, y < w.heap.size → ¬ X y → w'.heap[y]? = w.heap[y]?) ∧ w.heap.size ≤ w'.heap.size
theorem KeepX.refl (X : Nat → Prop) (w : World) : KeepX X w w := ⟨fun _ _ _ => rfl, Nat.le_refl _⟩
theorem KeepX.trans {X : Nat → Prop} {w w' w'' : World} (h : KeepX X w w') (k : KeepX X w' w'') : KeepX X w w'' :=
  ⟨fun y hy hx => (k.1 y (Nat.lt_of_lt_of_le hy h.2) hx).trans (h.1 y hy hx), Nat.le_trans h.2 k.2⟩
theorem KeepX.of {X : Nat → Prop} {w w' : World} (h : Below w.heap.size w w') : KeepX X w w' := ⟨fun y hy _ => h.block y hy, h.size⟩
theorem KeepX.drew {X : Nat → Prop} {w w' : World} (h : KeepX X w w') : KeepX X w w'.drew := h
theorem KeepX.set {X : Nat → Prop} {w w' : World} (h : KeepX X w w') {p : Addr} (hp : X p.block) (v : Value) : KeepX X w (w'.setCell p v) :=
  ⟨fun y hy hx => by rw [Below.heap_setCell _ _ _ _ (fun e => hx (by rw [e]; exact hp))]; exact h.1 y hy hx, by simpa using h.2⟩
theorem KeepX.weaken {X Y : Nat → Prop} {w w' : World} (h : KeepX X w w') (hXY : ∀ y, y < w.heap.size → X y → Y y) : KeepX Y w w' := ⟨fun y hy hn => h.1 y hy (fun hx => hn (hXY y hy hx)), h.2⟩
theorem cell_heap {w w' : World} {y : Nat} (h : w'.heap[y]? = w.heap[y]?) (i : Nat) : w'.cell? ⟨y, i, none⟩ = w.cell? ⟨y, i, none⟩ ∧ w'.frozen? ⟨y, i, none⟩ = w.frozen? ⟨y, i, none⟩ := by
  unfold World.cell? World.frozen?
  simp only [h, and_self]
theorem KeepX.cell {X : Nat → Prop} {w w' : World} (h : KeepX X w w') {y : Nat} (hy : y < w.heap.size) (hx : ¬ X y) (i : Nat) : w'.cell? ⟨y, i, none⟩ = w.cell? ⟨y, i, none⟩ ∧ w'.frozen? ⟨y, i, none⟩ = w.frozen? ⟨y, i, none⟩ :=
  cell_heap (h.1 y hy hx) i
/-- What is left of the bytes, and whether all was right, each in a box. -/
def NS (S R : Nat) (w : World) (s : ByteArray) (r : Bool) : Prop :=
  (w.cell? ⟨S, 0, none⟩ = some (.string s) ∧ w.frozen? ⟨S, 0, none⟩ = false ∧ S < w.heap.size) ∧ (w.cell? ⟨R, 0, none⟩ = some (.bool r) ∧ w.frozen? ⟨R, 0, none⟩ = false ∧ R < w.heap.size)
theorem NS.keep {S R : Nat} {w w' : World} {s : ByteArray} {r : Bool} {X : Nat → Prop} (h : NS S R w s r) (hk : KeepX X w w') (hS : ¬ X S) (hR : ¬ X R) : NS S R w' s r := by
  obtain ⟨⟨a, b, c⟩, ⟨d, e, f⟩⟩ := h
  have h1 := hk.cell c hS 0
  have h2 := hk.cell f hR 0
  exact ⟨⟨h1.1.trans a, h1.2.trans b, Nat.lt_of_lt_of_le c hk.2⟩, ⟨h2.1.trans d, h2.2.trans e, Nat.lt_of_lt_of_le f hk.2⟩⟩
theorem NS.old {S R : Nat} {w w' : World} {s : ByteArray} {r : Bool} (h : NS S R w s r) (hb : Below w.heap.size w w') : NS S R w' s r := h.keep (X := fun _ => False) (KeepX.of hb) id id
theorem NS.right {S R : Nat} {w : World} {s : ByteArray} {r : Bool} (h : NS S R w s r) (hne : S ≠ R) (r' : Bool) : NS S R (w.setCell ⟨R, 0, none⟩ (.bool r')) s r' := by
  obtain ⟨⟨a, b, c⟩, ⟨d, e, f⟩⟩ := h
  refine ⟨⟨?_, ?_, by simpa using c⟩, ⟨World.cell?_setCell_same' _ _ _ (by rw [d]; rfl), by rw [World.frozen?_setCell]; exact e, by simpa using f⟩⟩
  · rw [World.cell?_setCell_other _ _ _ _ (by intro h; simp only [Addr.mk.injEq] at h; omega)]; exact a
  · rw [World.frozen?_setCell]; exact b
theorem NS.left {S R : Nat} {w : World} {s : ByteArray} {r : Bool} (h : NS S R w s r) (hne : S ≠ R) (s' : ByteArray) : NS S R (w.setCell ⟨S, 0, none⟩ (.string s')) s' r := by
  obtain ⟨⟨a, b, c⟩, ⟨d, e, f⟩⟩ := h
  refine ⟨⟨World.cell?_setCell_same' _ _ _ (by rw [a]; rfl), by rw [World.frozen?_setCell]; exact b, by simpa using c⟩, ⟨?_, ?_, by simpa using f⟩⟩
  · rw [World.cell?_setCell_other _ _ _ _ (by intro h; simp only [Addr.mk.injEq] at h; omega)]; exact d
  · rw [World.frozen?_setCell]; exact e
def SR (S R y : Nat) : Prop := y = S ∨ y = R
end Go.Proofs.Ytdpinkipcaolhaa
