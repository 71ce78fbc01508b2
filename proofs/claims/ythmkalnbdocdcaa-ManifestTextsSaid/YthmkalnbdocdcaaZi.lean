/-
  Layer 12 (manifest): ManifestTexts, as its frame wants it.
-/
import Derived.Test.YthmkalnbdocdcaaZh
namespace Go.Proofs.Ythmkalnbdocdcaa
open Go.RowKit
theorem walk_ManifestTexts (V : Value) (e : Ed) (s : ByteArray) (hs : s.size ≤ 140737488351232) (w : World) (h : EV w V e) :
    Calls Try.prog 3 #[V, .string s] w fun x w' => x = .returned (.bool true) ∧ Below w.heap.size w w' := texts_main V e s w h hs
end Go.Proofs.Ythmkalnbdocdcaa
