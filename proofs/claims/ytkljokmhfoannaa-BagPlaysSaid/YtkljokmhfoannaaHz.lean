/-
  Pairs of numbers that come in: an array of two is two numbers. Conditions: none.
-/
import Derived.Test.YtkljokmhfoannaaRows
import Derived.WalkKit
import Derived.ProofKit
import Derived.OpenShut
import Derived.WideShapes
namespace Go.Proofs.Ytkljokmhfoannaa
open Go.RowKit Go.ChangeShapes Go.WideShapes
set_option linter.unusedVariables false
set_option linter.unusedSimpArgs false

theorem mapM_each2 {α β : Type} {f : α → Option β} : ∀ (L : List α) {ys : List β}, L.mapM f = some ys → ∀ i (hi : i < L.length), ∃ y, f (L[i]) = some y := by
  intro L
  induction L with
  | nil => intro ys _ i hi; simp at hi
  | cons a r ih =>
    intro ys h i hi
    rw [List.mapM_cons] at h
    simp only [Option.bind_eq_bind, Option.bind_eq_some_iff] at h
    obtain ⟨y, hy, zs, hz, _⟩ := h
    match i, hi with
    | 0, _ => exact ⟨y, hy⟩
    | i + 1, hi => exact ih hz i (by simpa using hi)
theorem open_int2 {H : Type} {enc : TypeId × Value → H} {P : Program} {W : World} {base : Nat} {sp : Nat → Bool} {held : Bool} {t e : TypeId} {r : Reach} {b0 : Nat} {v : Value} {d : DataW H} {ps : List MemPlace}
    (ht : P.underlying t = some (.array 2 e)) (he : P.underlying e = some (.int .i64)) (h1 : P.cellsOf e = 1) (hs : P.cellsOf t = 2)
    (hval : Value.okWide P W r b0 t v) (hd : DataW.Trod enc P W base sp held t v d ps) :
    ∃ x y : Int, v = .agg #[.int .i64 x, .int .i64 y] := by
  simp only [Value.okWide, ht] at hval
  obtain ⟨cs, rfl, h2, _⟩ := hval
  rw [hs] at h2
  obtain ⟨fuel, hf⟩ := hd
  cases fuel with
  | zero => simp [DataW.trod] at hf
  | succ m =>
    rw [DataW.trod_step] at hf
    unfold DataW.trodStep at hf
    simp only [ht, Value.cells] at hf
    rw [if_pos (by rw [hs]; simpa using h2)] at hf
    simp only [Option.map_eq_some_iff] at hf
    obtain ⟨ys, hy, _⟩ := hf
    have hall : ∀ i (hi : i < 2), ∃ z : Int, cs[i]'(by omega) = .int .i64 z := by
      intro i hi
      obtain ⟨y, hy'⟩ := mapM_each2 _ hy i (by simpa using hi)
      obtain ⟨z, ez, _, wz⟩ := DataW.trod_int he hy'
      rw [h1, Nat.mul_one, List.getElem_range] at ez
      refine ⟨z, ?_⟩
      have e2 := congrArg (fun l : List Value => l[0]?) ez
      simp only [List.getElem?_take, List.getElem?_drop, Nat.add_zero] at e2
      rw [if_pos (by omega), Array.getElem?_toList, Array.getElem?_eq_getElem (by omega)] at e2
      simpa using e2
    obtain ⟨x, hx⟩ := hall 0 (by omega)
    obtain ⟨y, hy⟩ := hall 1 (by omega)
    refine ⟨x, y, ?_⟩
    congr 1
    apply Array.ext (by simpa using h2)
    intro i h3 h4
    have : i = 0 ∨ i = 1 := by omega
    rcases this with rfl | rfl
    · simpa using hx
    · simpa using hy
end Go.Proofs.Ytkljokmhfoannaa
