/-
  Layer 14 (once): the code's Of. Conditions: the pairs' values within the form's reach.
-/
import Derived.Test.YtemaonfgledcmaaNv
import Derived.Test.YtemaonfgledcmaaNd
namespace Go.Proofs.Ytemaonfgledcmaa
open Go.RowKit
set_option linter.unusedVariables false
set_option linter.unusedSimpArgs false

/-- A slice's first elements are the pairs xs: as RdS of layer 4 (XSs) has it. -/
def PRd (w : World) (a : Option Addr) (xs : List Pr) : Prop :=
  xs = [] ∨ ∃ b off, a = some ⟨b, off, none⟩ ∧ b < w.heap.size ∧ ∀ i (h : i < xs.length), w.cell? ⟨b, off + i * 2, none⟩ = some (.string xs[i].1) ∧ w.cell? ⟨b, off + i * 2 + 1, none⟩ = some (.string xs[i].2)
theorem PRd.old {w w' : World} {a : Option Addr} {xs : List Pr} (h : PRd w a xs) (hb : Below w.heap.size w w') : PRd w' a xs := by
  rcases h with rfl | ⟨b, off, rfl, hlt, hc⟩
  · exact .inl rfl
  · refine .inr ⟨b, off, rfl, Nat.lt_of_lt_of_le hlt hb.size, fun i hi => ?_⟩
    exact ⟨(hb.cell (p := ⟨b, off + i * 2, none⟩) hlt).trans (hc i hi).1, (hb.cell (p := ⟨b, off + i * 2 + 1, none⟩) hlt).trans (hc i hi).2⟩
theorem rdAll_snoc : ∀ {l : List Pr} {L : List Sn} {x : Pr} {s : Sn}, rdAll l = some L → rdP x = some s → rdAll (l ++ [x]) = some (L ++ [s])
  | [], L, x, s, h, hs => by simp only [rdAll, Option.some.injEq] at h; subst h; simp [rdAll, hs]
  | y :: l, L, x, s, h, hs => by
    simp only [rdAll, Option.bind_eq_some_iff, Option.map_eq_some_iff] at h
    obtain ⟨t, ht, M, hM, rfl⟩ := h
    simp only [List.cons_append, rdAll, ht, rdAll_snoc hM hs, Option.bind_some, Option.map_some]
theorem rdAll_bad : ∀ {l : List Pr} {k : Nat} (hk : k < l.length), rdP l[k] = none → rdAll l = none
  | x :: l, 0, _, h => by simp only [List.getElem_cons_zero] at h; simp [rdAll, h]
  | x :: l, k + 1, hk, h => by
    simp only [List.getElem_cons_succ] at h
    have := rdAll_bad (by simpa using hk) h
    simp only [rdAll, this]
    cases rdP x <;> rfl
theorem rdAll_take {l : List Pr} {L : List Sn} {k : Nat} (hk : k < l.length) {s : Sn} (h : rdAll (l.take k) = some L) (hs : rdP l[k] = some s) : rdAll (l.take (k + 1)) = some (L ++ [s]) := by
  rw [List.take_succ_eq_append_getElem hk]
  exact rdAll_snoc h hs
theorem of_none {l : List Pr} (h : rdAll l = none) : ofC l = none := by
  unfold ofC
  rw [h]
  split <;> rfl
theorem of_many {l : List Pr} (h : 8 < l.length) : ofC l = none := by
  unfold ofC
  rw [if_neg (by omega)]
theorem of_here {l : List Pr} {L : List Sn} (h : rdAll l = some L) (h8 : l.length ≤ 8) : ofC l = if chk L = true then some L else none := by
  unfold ofC
  rw [if_pos h8, h]
  rfl
theorem of_bad {l : List Pr} (h : ofC l = none) : ofE l = 1 ∧ ofL l = [] := by unfold ofE ofL; rw [h]; exact ⟨rfl, rfl⟩
theorem of_good {l : List Pr} {L : List Sn} (h : ofC l = some L) : ofE l = 0 ∧ ofL l = L := by unfold ofE ofL; rw [h]; exact ⟨rfl, rfl⟩
theorem PRd.at_ {w : World} {a : Option Addr} {xs : List Pr} (h : PRd w a xs) {k : Nat} (hk : k < xs.length) : ∃ b off, a = some ⟨b, off, none⟩ ∧ b < w.heap.size ∧ w.cell? ⟨b, off + k * 2, none⟩ = some (.string xs[k].1) ∧ w.cell? ⟨b, off + k * 2 + 1, none⟩ = some (.string xs[k].2) := by
  rcases h with rfl | ⟨b, off, rfl, hlt, hc⟩
  · cases hk
  · exact ⟨b, off, rfl, hlt, hc k hk⟩
/-- What Of leaves. -/
def OFR (l : List Pr) (w : World) (e : Ending) (w' : World) : Prop := ∃ a n cap, e = .returned (.tuple #[.slice a n cap, .int .i64 (ofE l)]) ∧ SS w' a n cap (ofL l) ∧ Below w.heap.size w w'
end Go.Proofs.Ytemaonfgledcmaa
