/-
  Layer 9 (block), the contract of Put, of the code (its two closures write into a strings.Builder). Conditions: texts within the reach.
-/
import Derived.Test.YtdpinkipcaolhaaKc
import Derived.Test.YtdpinkipcaolhaaKb
import Derived.Test.YtdpinkipcaolhaaVx
namespace Go.Proofs.Ytdpinkipcaolhaa
set_option maxRecDepth 100000
open Go.RowKit
set_option linter.unusedVariables false
set_option linter.unusedSimpArgs false

/-- An entry's box, as a block. -/
def EBlk (w : World) (x : Nat) (k v : ByteArray) (g : Bool) (q : Int) : Prop := w.heap[x]? = some (.cells #[.string k, .string v, .bool g, .int .i64 q] 37 (0, 0))
theorem EBlk.new (w : World) (k v : ByteArray) (g : Bool) (q : Int) : EBlk (w.alloc (.cells #[.string k, .string v, .bool g, .int .i64 q] 37)) w.heap.size k v g q := heap_alloc_new w _
theorem EBlk.box {w : World} {x : Nat} {k v : ByteArray} {g : Bool} {q : Int} (h : EBlk w x k v g q) : EBox w x k v g q :=
  ⟨by rw [Lib.cell_of_heap h]; rfl, by rw [Lib.cell_of_heap h]; rfl, by rw [Lib.cell_of_heap h]; rfl, by rw [Lib.cell_of_heap h]; rfl, heap_lt h⟩
theorem EBlk.keep {w w' : World} {b x : Nat} {k v : ByteArray} {g : Bool} {q : Int} (h : EBlk w x k v g q) (hx : x ≠ b) (hk : KeepT b w w') : EBlk w' x k v g q := hk.1 x _ _ _ hx h (by decide)
/-- What Put leaves. -/
def PU (es : List Ent) (w : World) (e : Ending) (w' : World) : Prop :=
  e = .returned (if okB es = true then .tuple #[.string ⟨(putB es).toArray⟩, .int .i64 0] else .tuple #[.string ⟨#[]⟩, .int .i64 1]) ∧ Below w.heap.size w w'
theorem PU.yes {es : List Ent} {w w' : World} {e : Ending} (h : okB es = true) (he : e = .returned (.tuple #[.string ⟨(putB es).toArray⟩, .int .i64 0])) (hb : Below w.heap.size w w') : PU es w e w' := by
  unfold PU
  rw [if_pos h]
  exact ⟨he, hb⟩
theorem PU.no {es : List Ent} {w w' : World} {e : Ending} (h : okB es = false) (he : e = .returned (.tuple #[.string ⟨#[]⟩, .int .i64 1])) (hb : Below w.heap.size w w') : PU es w e w' := by
  unfold PU
  rw [h]
  exact ⟨he, hb⟩
theorem rest_bytes (X : ByteArray) (n : Nat) : (X.extract n X.size).data.toList = X.data.toList.drop n := by
  rw [Lib.extract_data, List.take_of_length_le]
  rw [Lib.size_eq, List.length_drop]
  exact Nat.le_refl _
end Go.Proofs.Ytdpinkipcaolhaa
