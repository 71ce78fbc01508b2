/-
  No cell of these rows narrows 'for every input' (looked for: loops, veiled, ifaces, maps, wideKeys, modest, calm, conditions, laid).
  DERIVED. THE GIVEN ROWS OF THIS SEAT. 5 by the template 'for every input the law returns true; each argument reads behind the call as it read before'; 0 by the template 'total and deterministic' (their statements: YtdnhmkfgcpdbkaaTotals.lean).
  GIVEN WITH THE SEED: the statements are not yours to turn. If you find one false, say at which input.
  Laid BY PROGRAM, IN A SANDBOX (cutbox-rows.mjs): the forced cells as the released guide's own fill.sh prints them over the translation 93290f4178df7d17… (all of the seat's roots in one cut). By AI agents, Wed Nov 11 2026. No macro, syntax, notation, axiom, sorry.
-/
import Derived.Test.YtdnhmkfgcpdbkaaChecked
import GoSem.Claim
import GoSem.ClaimJoined
import GoSem.ClaimMapViews
import Derived.JoinedTies
import Derived.KernelRfl
namespace Go.Proofs.Ytdnhmkfgcpdbkaa
/- THE CELL 'sum', in the pinned program and in every row, IS THE sha256 OF THE DUMP (.gsa) THAT YtdnhmkfgcpdbkaaProg.lean LOADS. Nothing in Lean hashes anything: it is a label: what it is worth is what the hold of that sum in a sandbox is worth. -/
noncomputable def Try.pinned : Pinned := { name := "ytdnhmkfgcpdbkaa", sum := "93290f4178df7d170acdb4d0558e25c3d37645970a7d5522add1add90c032ce7", checked := Try.checked }
namespace Rows
def none {H : Type} : Left H := { results := [], args := [] }

/-- 'sorrellaw16.PostPuts': WHATEVER THE INPUT: true; the input reads as it did. -/
def postPutsSpec : ChangeSpec := { name := "postPuts", fn := fun _ => fun
  | [d] => { results := [.lit (.bool true)], args := [d] }
  | _ => none }
def postPutsRow : OpenClaim := { program := "ytdnhmkfgcpdbkaa", sum := "93290f4178df7d170acdb4d0558e25c3d37645970a7d5522add1add90c032ce7", func := "sorrel/sorrellaw16.PostPuts", spec := "postPuts", unfollowed := true, recurses := true, apart := false }
def PostPutsSaid : Prop := postPutsRow.holds Try.pinned (OpenSpec.ofChange postPutsSpec)

/-- ITS FALSE NEIGHBOUR: 'it returns false'. Refute it at one input. -/
def postPutsWrong : ChangeSpec := { name := "postPuts", fn := fun _ => fun
  | [d] => { results := [.lit (.bool false)], args := [d] }
  | _ => none }
def PostPutsWrongFalsely : Prop := postPutsRow.holds Try.pinned (OpenSpec.ofChange postPutsWrong)

/-- 'sorrellaw16.PostTakes': WHATEVER THE INPUT: true; the input reads as it did. -/
def postTakesSpec : ChangeSpec := { name := "postTakes", fn := fun _ => fun
  | [d] => { results := [.lit (.bool true)], args := [d] }
  | _ => none }
def postTakesRow : OpenClaim := { program := "ytdnhmkfgcpdbkaa", sum := "93290f4178df7d170acdb4d0558e25c3d37645970a7d5522add1add90c032ce7", func := "sorrel/sorrellaw16.PostTakes", spec := "postTakes", unfollowed := true, recurses := true, apart := false }
def PostTakesSaid : Prop := postTakesRow.holds Try.pinned (OpenSpec.ofChange postTakesSpec)

/-- ITS FALSE NEIGHBOUR: 'it returns false'. Refute it at one input. -/
def postTakesWrong : ChangeSpec := { name := "postTakes", fn := fun _ => fun
  | [d] => { results := [.lit (.bool false)], args := [d] }
  | _ => none }
def PostTakesWrongFalsely : Prop := postTakesRow.holds Try.pinned (OpenSpec.ofChange postTakesWrong)

/-- 'sorrellaw16.PostApart': WHATEVER THE INPUT: true; the input reads as it did. -/
def postApartSpec : ChangeSpec := { name := "postApart", fn := fun _ => fun
  | [d1, d2] => { results := [.lit (.bool true)], args := [d1, d2] }
  | _ => none }
def postApartRow : OpenClaim := { program := "ytdnhmkfgcpdbkaa", sum := "93290f4178df7d170acdb4d0558e25c3d37645970a7d5522add1add90c032ce7", func := "sorrel/sorrellaw16.PostApart", spec := "postApart", unfollowed := true, recurses := true, apart := false }
def PostApartSaid : Prop := postApartRow.holds Try.pinned (OpenSpec.ofChange postApartSpec)

/-- ITS FALSE NEIGHBOUR: 'it returns false'. Refute it at one input. -/
def postApartWrong : ChangeSpec := { name := "postApart", fn := fun _ => fun
  | [d1, d2] => { results := [.lit (.bool false)], args := [d1, d2] }
  | _ => none }
def PostApartWrongFalsely : Prop := postApartRow.holds Try.pinned (OpenSpec.ofChange postApartWrong)

/-- 'sorrellaw16.PostSpoilt': WHATEVER THE INPUT: true; the input reads as it did. -/
def postSpoiltSpec : ChangeSpec := { name := "postSpoilt", fn := fun _ => fun
  | [d1, d2, d3] => { results := [.lit (.bool true)], args := [d1, d2, d3] }
  | _ => none }
def postSpoiltRow : OpenClaim := { program := "ytdnhmkfgcpdbkaa", sum := "93290f4178df7d170acdb4d0558e25c3d37645970a7d5522add1add90c032ce7", func := "sorrel/sorrellaw16.PostSpoilt", spec := "postSpoilt", unfollowed := true, recurses := true, apart := false }
def PostSpoiltSaid : Prop := postSpoiltRow.holds Try.pinned (OpenSpec.ofChange postSpoiltSpec)

/-- ITS FALSE NEIGHBOUR: 'it returns false'. Refute it at one input. -/
def postSpoiltWrong : ChangeSpec := { name := "postSpoilt", fn := fun _ => fun
  | [d1, d2, d3] => { results := [.lit (.bool false)], args := [d1, d2, d3] }
  | _ => none }
def PostSpoiltWrongFalsely : Prop := postSpoiltRow.holds Try.pinned (OpenSpec.ofChange postSpoiltWrong)

/-- 'sorrellaw16.PostMany': WHATEVER THE INPUT: true; the input reads as it did. -/
def postManySpec : ChangeSpec := { name := "postMany", fn := fun _ => fun
  | [d1, d2] => { results := [.lit (.bool true)], args := [d1, d2] }
  | _ => none }
def postManyRow : OpenClaim := { program := "ytdnhmkfgcpdbkaa", sum := "93290f4178df7d170acdb4d0558e25c3d37645970a7d5522add1add90c032ce7", func := "sorrel/sorrellaw16.PostMany", spec := "postMany", unfollowed := true, recurses := true, apart := false }
def PostManySaid : Prop := postManyRow.holds Try.pinned (OpenSpec.ofChange postManySpec)

/-- ITS FALSE NEIGHBOUR: 'it returns false'. Refute it at one input. -/
def postManyWrong : ChangeSpec := { name := "postMany", fn := fun _ => fun
  | [d1, d2] => { results := [.lit (.bool false)], args := [d1, d2] }
  | _ => none }
def PostManyWrongFalsely : Prop := postManyRow.holds Try.pinned (OpenSpec.ofChange postManyWrong)

/- THE SECOND FORM. 'bulk': how many values and letters a reading holds, each counted each time it is reached (what is shared counts as often as it is met; a slice's spare places count too). A statement '..UptoSaid' is the law's where the arguments, and the package variables that the reading takes, are together of bulk at most 1048576: NARROWER than '..Said'. Prove '..Said' where nothing that the law and all that it calls make is longer than what came in: it says more and counts as full. Else prove '..UptoSaid'. A law counts once. -/
mutual
def uptoBulk {H : Type} : DataW H → Nat
  | .lit (.string bytes) => bytes.length + 1
  | .lit _ => 1
  | .nil => 1
  | .ptr d => uptoBulk d + 1
  | .slice elems spare => uptoBulkAll elems + uptoBulkAll spare + 1
  | .agg parts => uptoBulkAll parts + 1
  | .iface _ d => uptoBulk d + 1
  | .map entries => uptoBulkEntries entries + 1
  | .held _ => 1
def uptoBulkAll {H : Type} : List (DataW H) → Nat
  | [] => 0
  | d :: r => uptoBulk d + uptoBulkAll r
def uptoBulkEntries {H : Type} : List (Lit × DataW H) → Nat
  | [] => 0
  | x :: r => uptoBulkEntry x + uptoBulkEntries r
def uptoBulkEntry {H : Type} : Lit × DataW H → Nat
  | (.string bytes, d) => bytes.length + uptoBulk d + 1
  | (_, d) => uptoBulk d + 1
 end
def uptoSmall : (H : Type) → List (DataW H) → Bool := fun _ ds => decide (uptoBulkAll ds ≤ 1048576)
def OpenSpec.upto (s : _root_.Go.ChangeSpec) : _root_.Go.OpenSpec := { _root_.Go.OpenSpec.ofChange s with cond := some uptoSmall }

/-- 'sorrellaw16.PostPuts', WHERE WHAT IT READS IS OF BULK AT MOST 1048576: true; the input reads as it did. -/
def postPutsUptoRow : OpenClaim := { program := "ytdnhmkfgcpdbkaa", sum := "93290f4178df7d170acdb4d0558e25c3d37645970a7d5522add1add90c032ce7", func := "sorrel/sorrellaw16.PostPuts", spec := "postPuts", unfollowed := true, recurses := true, apart := false, narrowed := true }
def PostPutsUptoSaid : Prop := postPutsUptoRow.holds Try.pinned (OpenSpec.upto postPutsSpec)

/-- 'sorrellaw16.PostTakes', WHERE WHAT IT READS IS OF BULK AT MOST 1048576: true; the input reads as it did. -/
def postTakesUptoRow : OpenClaim := { program := "ytdnhmkfgcpdbkaa", sum := "93290f4178df7d170acdb4d0558e25c3d37645970a7d5522add1add90c032ce7", func := "sorrel/sorrellaw16.PostTakes", spec := "postTakes", unfollowed := true, recurses := true, apart := false, narrowed := true }
def PostTakesUptoSaid : Prop := postTakesUptoRow.holds Try.pinned (OpenSpec.upto postTakesSpec)

/-- 'sorrellaw16.PostApart', WHERE WHAT IT READS IS OF BULK AT MOST 1048576: true; the input reads as it did. -/
def postApartUptoRow : OpenClaim := { program := "ytdnhmkfgcpdbkaa", sum := "93290f4178df7d170acdb4d0558e25c3d37645970a7d5522add1add90c032ce7", func := "sorrel/sorrellaw16.PostApart", spec := "postApart", unfollowed := true, recurses := true, apart := false, narrowed := true }
def PostApartUptoSaid : Prop := postApartUptoRow.holds Try.pinned (OpenSpec.upto postApartSpec)

/-- 'sorrellaw16.PostSpoilt', WHERE WHAT IT READS IS OF BULK AT MOST 1048576: true; the input reads as it did. -/
def postSpoiltUptoRow : OpenClaim := { program := "ytdnhmkfgcpdbkaa", sum := "93290f4178df7d170acdb4d0558e25c3d37645970a7d5522add1add90c032ce7", func := "sorrel/sorrellaw16.PostSpoilt", spec := "postSpoilt", unfollowed := true, recurses := true, apart := false, narrowed := true }
def PostSpoiltUptoSaid : Prop := postSpoiltUptoRow.holds Try.pinned (OpenSpec.upto postSpoiltSpec)

/-- 'sorrellaw16.PostMany', WHERE WHAT IT READS IS OF BULK AT MOST 1048576: true; the input reads as it did. -/
def postManyUptoRow : OpenClaim := { program := "ytdnhmkfgcpdbkaa", sum := "93290f4178df7d170acdb4d0558e25c3d37645970a7d5522add1add90c032ce7", func := "sorrel/sorrellaw16.PostMany", spec := "postMany", unfollowed := true, recurses := true, apart := false, narrowed := true }
def PostManyUptoSaid : Prop := postManyUptoRow.holds Try.pinned (OpenSpec.upto postManySpec)

end Rows
end Go.Proofs.Ytdnhmkfgcpdbkaa
