/-
  Layer 14 (once): the walk of OnceFinds. Conditions: none beyond the row's own.
-/
import Derived.Test.YtemaonfgledcmaaNm
import Derived.Test.YtemaonfgledcmaaNo
namespace Go.Proofs.Ytemaonfgledcmaa
open Go.RowKit
set_option linter.unusedVariables false
set_option linter.unusedSimpArgs false

theorem SS.lit (W : World) (x : Sn) (t : TypeId) : SS (W.alloc (.cells #[.int .i64 x.c, .int .i64 x.s, .int .i64 x.e, .string x.v, .bool x.h, .slice x.p x.n x.k, .string x.u] t)) (some ⟨W.heap.size, 0, Option.none⟩) 1 1 [x] :=
  ⟨rfl, .inr ⟨W.heap.size, 0, rfl, by simp, fun i hi => by
    have : i = 0 := by simpa using hi
    subst this
    exact ⟨by simp, by simp, by simp, by simp, by simp, by simp, by simp⟩⟩, Nat.le_refl _, by unfold maxLen; omega⟩
/-- A reply in a block of its own. -/
def RpBox (w : World) (b : Nat) (x : Sn) : Prop := w.cell? ⟨b, 0, none⟩ = some (.int .i64 x.e) ∧ w.cell? ⟨b, 1, none⟩ = some (.string x.v) ∧ w.cell? ⟨b, 2, none⟩ = some (.bool x.h) ∧ w.cell? ⟨b, 3, none⟩ = some (.slice x.p x.n x.k) ∧ w.cell? ⟨b, 4, none⟩ = some (.string x.u) ∧ b < w.heap.size
theorem RpBox.new (w : World) (t : TypeId) (x : Sn) : RpBox (w.alloc (.cells #[.int .i64 x.e, .string x.v, .bool x.h, .slice x.p x.n x.k, .string x.u] t)) w.heap.size x := ⟨by simp, by simp, by simp, by simp, by simp, by simp⟩
theorem RpBox.below {w w' : World} {b : Nat} {x : Sn} (h : RpBox w b x) (hb : Below w.heap.size w w') : RpBox w' b x := by
  obtain ⟨h0, h1, h2, h3, h4, hl⟩ := h
  exact ⟨(hb.cell (p := ⟨b, 0, none⟩) hl).trans h0, (hb.cell (p := ⟨b, 1, none⟩) hl).trans h1, (hb.cell (p := ⟨b, 2, none⟩) hl).trans h2, (hb.cell (p := ⟨b, 3, none⟩) hl).trans h3, (hb.cell (p := ⟨b, 4, none⟩) hl).trans h4, Nat.lt_of_lt_of_le hl hb.size⟩
theorem lite_one (x : Sn) : liteS [x] = lite1 x := by unfold liteS; simp
theorem bare_fnd {l : List Sn} {c s : Int} : bareS (fndS l c s) := by
  unfold fndS
  by_cases h : fndE l c s = 0
  · rw [if_pos h]
    cases hl : look l c with
    | none => exact bareS_Z0
    | some y =>
      have hc : chk l = true := by
        unfold fndE at h
        by_cases q : (chk l && cliB c && seqB s) = true
        · simp at q; exact q.1.1
        · rw [if_neg q] at h; cases h
      exact bareS_may ((chk_iff.1 hc).1 y (look_some hl).1)
  · rw [if_neg h]; exact bareS_Z0
theorem bare_chk {l : List Sn} (h : chk l = true) : ∀ x ∈ l, bareS x := fun x hx => bareS_may ((chk_iff.1 h).1 x hx)
theorem bare_map (l : List Sn) : ∀ x ∈ l.map normS, bareS x := fun x hx => by
  rw [List.mem_map] at hx
  obtain ⟨y, _, rfl⟩ := hx
  exact bareS_norm y
theorem bare_put (l : List Sn) (x : Sn) : ∀ y ∈ putL l x, bareS y := by
  by_cases h : putE l x = 0
  · rw [(putL_ok h).1]
    exact bare_chk (pt_chk (putL_ok h).2.1 (putL_ok h).2.2.1)
  · rw [putL_no h]; intro y hy; simp at hy
theorem map_norm2 (l : List Sn) : (l.map normS).map normS = l.map normS := by rw [List.map_map]; rfl
end Go.Proofs.Ytemaonfgledcmaa
