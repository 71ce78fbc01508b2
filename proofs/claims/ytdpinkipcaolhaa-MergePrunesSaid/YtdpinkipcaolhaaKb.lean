/-
  Layer 9 (block): contracts of the library's strings.Builder (copyCheck, WriteString, String) at a builder that a call has made. Conditions: the bytes within the reach.
-/
import Derived.Test.YtdpinkipcaolhaaWl
import Derived.Test.YtdpinkipcaolhaaRows
import Derived.Shelf.Strings.Builder1
import Derived.Deep.RegionHeld3
import Derived.Lib.Hide
namespace Go.Proofs.Ytdpinkipcaolhaa
set_option maxRecDepth 100000
open Go.RowKit
set_option linter.unusedVariables false
set_option linter.unusedSimpArgs false

theorem Try.infoU8k : (Try.prog.info? 5).map (fun i => (i.zero, i.size, i.bytes)) = some (some (.int .u8 0), 1, 1) := by kernel_rfl
/-- All blocks but b, and but rows of bytes, are as they were. -/
def KeepT (b : Nat) (w w' : World) : Prop := (∀ x cs T fr, x ≠ b → w.heap[x]? = some (.cells cs T fr) → T ≠ 5 → w'.heap[x]? = some (.cells cs T fr)) ∧ w.heap.size ≤ w'.heap.size
theorem heap_lt {w : World} {x : Nat} {o : Obj} (h : w.heap[x]? = some o) : x < w.heap.size := by
  rcases Nat.lt_or_ge x w.heap.size with h' | h'
  · exact h'
  · simp [Array.getElem?_eq_none h'] at h
theorem KeepT.of {b : Nat} {w w' : World} (h : Below w.heap.size w w') : KeepT b w w' := ⟨fun x cs T fr _ hx _ => (h.block x (heap_lt hx)).trans hx, h.size⟩
theorem KeepT.refl (b : Nat) (w : World) : KeepT b w w := ⟨fun _ _ _ _ _ h _ => h, Nat.le_refl _⟩
theorem KeepT.trans {b : Nat} {w w' w'' : World} (h : KeepT b w w') (k : KeepT b w' w'') : KeepT b w w'' := ⟨fun x cs T fr hb hx hT => k.1 x cs T fr hb (h.1 x cs T fr hb hx hT) hT, Nat.le_trans h.2 k.2⟩
theorem KeepT.set (b i : Nat) (w : World) (v : Value) : KeepT b w (w.setCell ⟨b, i, none⟩ v) :=
  ⟨fun x cs T fr hb hx _ => by rw [Below.heap_setCell _ _ _ _ hb]; exact hx, by simp⟩
theorem bcells (l : List UInt8) (s : ByteArray) : Lib.byteCells l ++ Lib.strCells s = Lib.byteCells (l ++ s.data.toList) := by
  simp [Lib.byteCells, Lib.strCells]
/-! ### String -/
end Go.Proofs.Ytdpinkipcaolhaa
