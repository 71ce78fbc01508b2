/-
  Layer 9 (block), the contract of the closure that reads the next entry off bytes. Conditions: at most 2^24 bytes are left.
-/
import Derived.Test.YtdpinkipcaolhaaKt
namespace Go.Proofs.Ytdpinkipcaolhaa
set_option maxRecDepth 100000
open Go.RowKit
set_option linter.unusedVariables false
set_option linter.unusedSimpArgs false

theorem EBox.keep {w w' : World} {x : Nat} {k v : ByteArray} {g : Bool} {q : Int} {X : Nat → Prop} (h : EBox w x k v g q) (hk : KeepX X w w') (hx : ¬ X x) : EBox w' x k v g q :=
  ⟨(hk.cell h.2.2.2.2 hx 0).1.trans h.1, (hk.cell h.2.2.2.2 hx 1).1.trans h.2.1, (hk.cell h.2.2.2.2 hx 2).1.trans h.2.2.1, (hk.cell h.2.2.2.2 hx 3).1.trans h.2.2.2.1, Nat.lt_of_lt_of_le h.2.2.2.2 hk.2⟩
theorem EFree.keep {w w' : World} {x : Nat} {X : Nat → Prop} (h : EFree w x) (hl : x < w.heap.size) (hk : KeepX X w w') (hx : ¬ X x) : EFree w' x :=
  ⟨(hk.cell hl hx 0).2.trans h.1, (hk.cell hl hx 1).2.trans h.2.1, (hk.cell hl hx 2).2.trans h.2.2.1, (hk.cell hl hx 3).2.trans h.2.2.2⟩
theorem ext_drop (s : ByteArray) (a : Nat) (h : a ≤ s.size) : (s.extract a s.size).data.toList = s.data.toList.drop a ∧ (s.extract a s.size).size = s.size - a :=
  ⟨rest_bytes s a, by rw [ByteArray.size_extract]; omega⟩
theorem ext_ext (s : ByteArray) (a b : Nat) (h : a ≤ s.size) (hb : a + b ≤ s.size) : (s.extract a s.size).extract b (s.extract a s.size).size = s.extract (a + b) s.size := by
  apply ByteArray.ext
  apply Array.toList_inj.1
  rw [rest_bytes, rest_bytes, rest_bytes, List.drop_drop]
theorem size_le {B : Nat} {w w' : World} (h : Below B w w') : w.heap.size ≤ w'.heap.size := h.size
theorem EBlk.keepX {w w' : World} {x : Nat} {k v : ByteArray} {g : Bool} {q : Int} {X : Nat → Prop} (h : EBlk w x k v g q) (hk : KeepX X w w') (hx : ¬ X x) : EBlk w' x k v g q := (hk.1 x (heap_lt h) hx).trans h
theorem EBlk.keep' {w w' : World} {x : Nat} {k v : ByteArray} {g : Bool} {q : Int} (h : EBlk w x k v g q) (hb : Below w.heap.size w w') : EBlk w' x k v g q := (hb.block x (heap_lt h)).trans h
theorem EBlk.setv {w : World} {x : Nat} {k v : ByteArray} {g : Bool} {q : Int} (h : EBlk w x k v g q) (v' : ByteArray) : EBlk (w.setCell ⟨x, 1, none⟩ (.string v')) x k v' g q := by
  unfold EBlk at *
  simp [World.setCell, Array.getElem?_modify, h]
/-- What is written into a block that was not there changes nothing that was. -/
theorem keep_new {X : Nat → Prop} {w w' : World} {x i : Nat} (h : KeepX X w w') (hx : w.heap.size ≤ x) (v : Value) : KeepX X w (w'.setCell ⟨x, i, none⟩ v) :=
  ⟨fun y hy hn => by rw [Below.heap_setCell _ _ _ _ (by show y ≠ x; omega)]; exact h.1 y hy hn, by simpa using h.2⟩
/-- What stands behind the last two statements. -/
theorem next_end {B S R : Nat} {w w4 : World} {sx : ByteArray} {r4 : Bool} (hn : NS S R w4 sx r4) (hne : S ≠ R) (hS : S < w.heap.size) (hR : R < w.heap.size) (hBR : B ≤ R) (hB : B ≤ w.heap.size) (hk : KeepX (SR S R) w w4) (hb : Below B w w4) (rr : Bool) (c0 c1 c2 c3 : Value) :
    NS S R (((((w4.setCell ⟨R, 0, none⟩ (.bool rr)).setCell ⟨w.heap.size, 0, none⟩ c0).setCell ⟨w.heap.size, 1, none⟩ c1).setCell ⟨w.heap.size, 2, none⟩ c2).setCell ⟨w.heap.size, 3, none⟩ c3) sx rr ∧
    KeepX (SR S R) w (((((w4.setCell ⟨R, 0, none⟩ (.bool rr)).setCell ⟨w.heap.size, 0, none⟩ c0).setCell ⟨w.heap.size, 1, none⟩ c1).setCell ⟨w.heap.size, 2, none⟩ c2).setCell ⟨w.heap.size, 3, none⟩ c3) ∧
    Below B w (((((w4.setCell ⟨R, 0, none⟩ (.bool rr)).setCell ⟨w.heap.size, 0, none⟩ c0).setCell ⟨w.heap.size, 1, none⟩ c1).setCell ⟨w.heap.size, 2, none⟩ c2).setCell ⟨w.heap.size, 3, none⟩ c3) := by
  have h1 := hn.right hne rr
  obtain ⟨W, hW⟩ : ∃ W, W = w4.setCell ⟨R, 0, none⟩ (.bool rr) := ⟨_, rfl⟩
  rw [← hW] at h1 ⊢
  have k1 : KeepX (SR S R) w W := by rw [hW]; exact hk.set (Or.inr rfl) _
  have b1 : Below B w W := by rw [hW]; exact hb.setCell (p := ⟨R, 0, none⟩) hBR _
  have k2 : KeepX (fun y => y = w.heap.size) W ((((W.setCell ⟨w.heap.size, 0, none⟩ c0).setCell ⟨w.heap.size, 1, none⟩ c1).setCell ⟨w.heap.size, 2, none⟩ c2).setCell ⟨w.heap.size, 3, none⟩ c3) :=
    ((((KeepX.refl (fun y => y = w.heap.size) W).set (p := ⟨w.heap.size, 0, none⟩) (show w.heap.size = w.heap.size from rfl) _).set (p := ⟨w.heap.size, 1, none⟩) (show w.heap.size = w.heap.size from rfl) _).set (p := ⟨w.heap.size, 2, none⟩) (show w.heap.size = w.heap.size from rfl) _).set (p := ⟨w.heap.size, 3, none⟩) (show w.heap.size = w.heap.size from rfl) _
  refine ⟨h1.keep k2 (by omega) (by omega), ?_, below_put b1 hB c0 c1 c2 c3⟩
  exact ⟨fun y hy hx => (k2.1 y (Nat.lt_of_lt_of_le hy k1.2) (by omega)).trans (k1.1 y hy hx), Nat.le_trans k1.2 k2.2⟩
end Go.Proofs.Ytdpinkipcaolhaa
