/-
  Layer 9 (block), the contract of the code's Take. Conditions: at most 2^24 bytes.
-/
import Derived.Test.YtdpinkipcaolhaaKf
namespace Go.Proofs.Ytdpinkipcaolhaa
set_option maxRecDepth 100000
open Go.RowKit
set_option linter.unusedVariables false
set_option linter.unusedSimpArgs false

/-- What Take leaves. -/
def TK (o : Option (List Ent)) (w : World) (e : Ending) (w' : World) : Prop :=
  ∃ (a : Option Addr) (m cap : Nat) (es : List Ent), e = .returned (.tuple #[.slice a m cap, .int .i64 (if o = none then 90 else 0)]) ∧ es.length = m ∧ RdE w' a es ∧ (∀ fs, o = some fs → es = fs) ∧ (o = none → a = none ∧ m = 0 ∧ cap = 0) ∧ Below w.heap.size w w'
theorem TK.no {o : Option (List Ent)} {w w' : World} {e : Ending} (ho : o = none) (he : e = .returned (.tuple #[.slice none 0 0, .int .i64 90])) (hb : Below w.heap.size w w') : TK o w e w' :=
  ⟨none, 0, 0, [], (by rw [he, if_pos ho]), rfl, .inl rfl, fun fs h => (by rw [ho] at h; cases h), fun _ => ⟨rfl, rfl, rfl⟩, hb⟩
theorem TK.yes {o : Option (List Ent)} {w w' : World} {e : Ending} {es : List Ent} {a : Option Addr} {m cap : Nat} (ho : o = some es) (he : e = .returned (.tuple #[.slice a m cap, .int .i64 0])) (hm : es.length = m) (hr : RdE w' a es) (hb : Below w.heap.size w w') : TK o w e w' :=
  ⟨a, m, cap, es, (by rw [he, if_neg (by rw [ho]; simp)]), hm, hr, fun fs h => (by rw [ho] at h; cases h; rfl), fun h => (by rw [ho] at h; cases h), hb⟩
theorem takeB_at {s : ByteArray} (m : Nat) (hm : s.size = m + 4) (h : chk s.data.toList = true) : takeB s.data.toList = partB (s.extract 0 m).data.toList := by
  unfold takeB
  rw [if_pos h, size_list, Lib.extract_data]
  simp [hm]
end Go.Proofs.Ytdpinkipcaolhaa
