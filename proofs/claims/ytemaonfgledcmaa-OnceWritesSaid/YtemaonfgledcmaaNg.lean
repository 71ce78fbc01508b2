/-
  Layer 14 (once): contract of Join, of the code. Conditions: lists that are read.
-/
import Derived.Test.YtemaonfgledcmaaNf
namespace Go.Proofs.Ytemaonfgledcmaa
open Go.RowKit
set_option linter.unusedVariables false
set_option linter.unusedSimpArgs false

theorem Try.sizeSn : (Try.prog.info? 39).map (·.size) = some 7 := by kernel_rfl
theorem index8 (q : Pl) (k : Nat) (hk : k < 8) (w : World) : (Instr.index 69 (.agg (cells8 q).toArray) (.int .i64 (k : Int))).run Try.prog w = .ok (sa (q k)) w := by
  have hg : ∀ j, j < 7 → (cells8 q)[k * 7 + j]? = (cv (q k))[j]? := by
    intro j hj
    have : cells8 q = cvs ((List.range 8).map q) := by unfold cells8 cvs; rw [List.flatMap_map]
    rw [this, cvs_get _ k j (by simpa using hk) hj]
    simp
  have h1 : ((0 : Int) ≤ (k : Int) ∧ (k : Int) < (8 : Nat)) := by omega
  have hx : List.take 7 (List.drop (k * 7) (cells8 q)) = cv (q k) := by
    apply List.ext_getElem?
    intro j
    rw [List.getElem?_take]
    by_cases hj : j < 7
    · rw [if_pos hj, List.getElem?_drop, hg j hj]
    · rw [if_neg hj, List.getElem?_eq_none (by rw [cv_length]; omega)]
  obtain ⟨i0, hi0, hz0, hz1, hz2⟩ := info_parts Try.infoSn
  simp [Instr.index, run_underlying Try.underlying69, asIntOf, h1, go_sem, sizeOf, typeInfo, hi0, hz1, hx, hk]
  rfl
/-- The code's Join after k rounds. -/
theorem jp_succ (p q : Pl) (k : Nat) : jp p q (k + 1) = if (jp p q k (q k).c.toNat).s < (q k).s then setP (jp p q k) (q k) else jp p q k := rfl
def jnE (a b : List Sn) : Int := if (chk a && chk b) = true then 0 else 1
def jnR (a b : List Sn) : List Sn := if (chk a && chk b) = true then jnL a b else []
end Go.Proofs.Ytemaonfgledcmaa
