/-
  Layer 1: strings.Clone by the shelf's contract of internal/stringslite.Clone, laid at this seat's numbers. Conditions: the text within the reach.
-/
import Derived.Test.YtdpinkipcaolhaaRows
import Derived.Shelf.LaysM
import Derived.Shelf.Strconv.Clone
import Derived.WalkLawsBesides
import Derived.WalkSpells
namespace Go.Proofs.Ytdpinkipcaolhaa
open Go.Shelf
open Go.RowKit
end Go.Proofs.Ytdpinkipcaolhaa
