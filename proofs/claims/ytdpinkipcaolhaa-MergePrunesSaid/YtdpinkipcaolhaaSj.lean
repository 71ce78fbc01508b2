/-
  Layer 4 (span): the contracts of Cut, Join, Meet, and of the document's own. Conditions: texts within the form's reach.
-/
import Derived.Test.YtdpinkipcaolhaaSk
import Derived.RegionTactic
import Derived.BigRegion
import Derived.Lib.MinMax
namespace Go.Proofs.Ytdpinkipcaolhaa
open Go.RowKit

theorem below_box2 {w w' : World} {o p : Obj} (h : Below ((w.alloc o).alloc p).heap.size ((w.alloc o).alloc p) w') : Below w.heap.size w w' := below_box (below_box h)
theorem below_box3 {w w' : World} {o p q : Obj} (h : Below (((w.alloc o).alloc p).alloc q).heap.size (((w.alloc o).alloc p).alloc q) w') : Below w.heap.size w w' := below_box (below_box2 h)
/-- The empty range. -/
abbrev sp0 : Value := .agg #[.string ⟨#[]⟩, .string ⟨#[]⟩]

end Go.Proofs.Ytdpinkipcaolhaa
