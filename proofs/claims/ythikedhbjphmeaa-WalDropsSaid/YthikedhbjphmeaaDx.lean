/-
  Layer 5 (fs): arrays of texts that come in; disks whose power stays on, in plain; the document's own Name. Conditions: texts within the form's reach.
-/
import Derived.Test.YthikedhbjphmeaaDu
import Derived.WideShapes
namespace Go.Proofs.Ythikedhbjphmeaa
open Go.RowKit Go.Lib
set_option linter.unusedVariables false

/-! ### arrays of texts that come in -/
theorem mapM_each2 {α β : Type} {f : α → Option β} : ∀ (L : List α) {ys : List β}, L.mapM f = some ys → ∀ i (hi : i < L.length), ∃ y, f (L[i]) = some y := by
  intro L
  induction L with
  | nil => intro ys _ i hi; simp at hi
  | cons a r ih =>
    intro ys h i hi
    rw [List.mapM_cons] at h
    simp only [Option.bind_eq_bind, Option.bind_eq_some_iff] at h
    obtain ⟨y, hy, zs, hz, _⟩ := h
    match i, hi with
    | 0, _ => exact ⟨y, hy⟩
    | i + 1, hi => exact ih hz i (by simpa using hi)
theorem open_str2 {H : Type} {enc : TypeId × Value → H} {P : Program} {W : World} {base : Nat} {sp : Nat → Bool} {held : Bool} {t e : TypeId} {r : Reach} {b0 : Nat} {v : Value} {d : DataW H} {ps : List MemPlace}
    (ht : P.underlying t = some (.array 2 e)) (he : P.underlying e = some .string) (h1 : P.cellsOf e = 1) (hs : P.cellsOf t = 2)
    (hval : Value.okWide P W r b0 t v) (hd : DataW.Trod enc P W base sp held t v d ps) :
    ∃ x y : ByteArray, v = .agg #[.string x, .string y] ∧ x.size ≤ maxLen ∧ y.size ≤ maxLen := by
  simp only [Value.okWide, ht] at hval
  obtain ⟨cs, rfl, h2, _⟩ := hval
  rw [hs] at h2
  obtain ⟨fuel, hf⟩ := hd
  cases fuel with
  | zero => simp [DataW.trod] at hf
  | succ m =>
    rw [DataW.trod_step] at hf
    unfold DataW.trodStep at hf
    simp only [ht, Value.cells] at hf
    rw [if_pos (by rw [hs]; simpa using h2)] at hf
    simp only [Option.map_eq_some_iff] at hf
    obtain ⟨ys, hy, _⟩ := hf
    have hall : ∀ i (hi : i < 2), ∃ z, cs[i]'(by omega) = .string z ∧ z.size ≤ maxLen := by
      intro i hi
      obtain ⟨y, hy'⟩ := mapM_each2 _ hy i (by simpa using hi)
      obtain ⟨z, ez, _, wz⟩ := DataW.trod_string he hy'
      rw [h1, Nat.mul_one, List.getElem_range] at ez
      refine ⟨z, ?_, wz⟩
      have e2 := congrArg (fun l : List Value => l[0]?) ez
      simp only [List.getElem?_take, List.getElem?_drop, Nat.add_zero] at e2
      rw [if_pos (by omega), Array.getElem?_toList, Array.getElem?_eq_getElem (by omega)] at e2
      simpa using e2
    obtain ⟨x, hx, hx2⟩ := hall 0 (by omega)
    obtain ⟨y, hy, hy2⟩ := hall 1 (by omega)
    refine ⟨x, y, ?_, hx2, hy2⟩
    congr 1
    apply Array.ext (by simpa using h2)
    intro i h3 h4
    have : i = 0 ∨ i = 1 := by omega
    rcases this with rfl | rfl
    · simpa using hx
    · simpa using hy

/-! ### disks whose power stays on -/
section
variable {F : List (List UInt8 × Fl)} {n k s : List UInt8} {f : Fl}
abbrev calm (F : List (List UInt8 × Fl)) : Ds := ⟨F, -1, false⟩
theorem calm_E (ok : Bool) : begE ok (-1) false = if ok = true then 0 else 1 := by unfold begE; split <;> rfl
theorem calm_F (ok : Bool) : begF ok (-1) false = -1 := by unfold begF; rw [if_neg (by omega)]
theorem calm_O (ok : Bool) : begO ok (-1) false = false := by unfold begO; rw [if_neg (by omega)]
theorem calm_B (ok : Bool) : (calm F).begin ok = calm F := by unfold Ds.begin calm; dsimp only; rw [calm_F, calm_O]
theorem calm_chg (hn : namL n = true) (ok : Bool) (hok : ok = true) : (calm F).chgE ok n = fE (getL n F) := by
  subst hok
  unfold Ds.chgE calm; dsimp only; rw [calm_E, if_pos rfl, if_pos rfl]
theorem make_new (hn : namL n = true) (hg : getL n F = none) (hl : F.length < 256) : (calm F).make n = (calm (putL n ⟨[], 0⟩ F), 0) := by
  unfold Ds.make; rw [calm_B]; dsimp only; rw [calm_E, if_pos hn, if_pos rfl, hg]; dsimp only; rw [if_neg (by omega)]
theorem make_old (hn : namL n = true) (hg : getL n F = some f) : (calm F).make n = (calm F, 1) := by
  unfold Ds.make; rw [calm_B]; dsimp only; rw [calm_E, if_pos hn, if_pos rfl, hg]
theorem append_calm (hn : namL n = true) (hg : getL n F = some f) (hl : f.bytes.length + s.length ≤ 4194304) : (calm F).append n s = (calm (setL n ⟨f.bytes ++ s, f.sure⟩ F), 0) := by
  unfold Ds.append; rw [calm_B, calm_chg hn _ hn]; dsimp only; rw [hg]; rw [show fE (some f) = 0 from rfl, if_pos rfl]; dsimp only; rw [if_neg (by omega)]
theorem sync_calm (hn : namL n = true) (hg : getL n F = some f) : (calm F).sync n = (calm (setL n ⟨f.bytes, f.bytes.length⟩ F), 0) := by
  unfold Ds.sync; rw [calm_B, calm_chg hn _ hn]; dsimp only; rw [hg]; rw [show fE (some f) = 0 from rfl, if_pos rfl]
theorem rename_calm (hn : namL n = true) (hk : namL k = true) (hg : getL n F = some f) : (calm F).rename n k = (calm (putL k f (delL n F)), 0) := by
  unfold Ds.rename; rw [calm_B, calm_chg hn _ (by rw [hn, hk]; rfl)]; dsimp only; rw [hg]; rw [show fE (some f) = 0 from rfl, if_pos rfl]
theorem rename_none (hn : namL n = true) (hk : namL k = true) (hg : getL n F = none) : (calm F).rename n k = (calm F, 3) := by
  unfold Ds.rename; rw [calm_B, calm_chg hn _ (by rw [hn, hk]; rfl)]; rw [hg, show fE (none : Option Fl) = 3 from rfl, if_neg (by omega)]
theorem remove_calm (hn : namL n = true) (hg : getL n F = some f) : (calm F).remove n = (calm (delL n F), 0) := by
  unfold Ds.remove; rw [calm_B, calm_chg hn _ hn, hg]; rw [show fE (some f) = 0 from rfl, if_pos rfl]
theorem look_calm (hn : namL n = true) : (calm F).lookE n = fE (getL n F) := by
  unfold Ds.lookE askE calm; dsimp only; rw [hn]; rfl
theorem bytes_calm (hn : namL n = true) (hg : getL n F = some f) : (calm F).bytesOf n = f.bytes := by
  unfold Ds.bytesOf; rw [look_calm hn, hg]; rw [show fE (some f) = 0 from rfl, if_pos rfl]
theorem sure_calm (hn : namL n = true) (hg : getL n F = some f) : (calm F).sureOf n = f.sure := by
  unfold Ds.sureOf; rw [look_calm hn, hg]; rw [show fE (some f) = 0 from rfl, if_pos rfl]
theorem crash_none (F : List (List UInt8 × Fl)) (fu : Int) (o : Bool) : (⟨F, fu, o⟩ : Ds).crash [] = calm (F.mapIdx fun _ p => (p.1, cutF 0 p.2)) := rfl
theorem cut_zero (h : f.sure ≤ f.bytes.length) : cutF 0 f = ⟨f.bytes.take f.sure, f.sure⟩ := by
  have e : keepN 0 f = f.sure := by unfold keepN; omega
  unfold cutF; rw [e]
theorem mapIdx_map {α β : Type} (c : α → β) (l : List (List UInt8 × α)) : (l.mapIdx fun _ p => (p.1, c p.2)) = mapL c l := by
  unfold mapL
  apply List.ext_getElem (by simp)
  intro j h1 h2
  simp
end

/-! ### the document's own Name -/
end Go.Proofs.Ythikedhbjphmeaa
