/-
  Layer 9 (block), contracts of the code's each and Take. Conditions: at most 2^24 bytes.
-/
import Derived.Test.YtdpinkipcaolhaaKe
import Derived.Laws.EntriesVeiled
namespace Go.Proofs.Ytdpinkipcaolhaa
set_option maxRecDepth 100000
open Go.RowKit
set_option linter.unusedVariables false
set_option linter.unusedSimpArgs false

/-- What each leaves. -/
def EQ (o : Option (List Ent)) (base T0 : Nat) (w : World) (e : Ending) (w' : World) : Prop :=
  (∀ es, o = some es → e = .returned (.bool true) ∧ ∃ v, TS base T0 w' es v) ∧ (o = none → e = .returned (.bool false)) ∧ Below T0 w w'
theorem EQ_no {base T0 : Nat} {w w' : World} {e : Ending} {o : Option (List Ent)} (ho : o = none) (he : e = .returned (.bool false)) (hb : Below T0 w w') : EQ o base T0 w e w' :=
  ⟨fun es h => (by rw [ho] at h; cases h), fun _ => he, hb⟩
theorem EQ_yes {base T0 : Nat} {w w' : World} {e : Ending} {o : Option (List Ent)} {es : List Ent} {v : Value} (ho : o = some es) (he : e = .returned (.bool true)) (hv : TS base T0 w' es v) (hb : Below T0 w w') : EQ o base T0 w e w' :=
  ⟨fun fs h => (by rw [ho] at h; cases h; exact ⟨he, v, hv⟩), fun h => (by rw [ho] at h; cases h), hb⟩
theorem al_old {w : World} {o o' : Obj} {i : Nat} (h : w.heap[i]? = some o') : (w.alloc o).heap[i]? = some o' := (Lib.alloc_old w o i (heap_lt h)).trans h
theorem al_new (w : World) (o : Obj) (i : Nat) (h : i = w.heap.size) : (w.alloc o).heap[i]? = some o := by subst h; exact heap_alloc_new w o
end Go.Proofs.Ytdpinkipcaolhaa
