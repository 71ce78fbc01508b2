/-
  Layer 5 (fs): arrays of texts that come in; disks whose power stays on, in plain; the document's own Name. Conditions: texts within the form's reach.
-/
import Derived.Test.YtoidfjglimafbaaDu
import Derived.WideShapes
namespace Go.Proofs.Ytoidfjglimafbaa
open Go.RowKit Go.Lib
set_option linter.unusedVariables false

/-! ### arrays of texts that come in -/
theorem mapM_each2 {α β : Type} {f : α → Option β} : ∀ (L : List α) {ys : List β}, L.mapM f = some ys → ∀ i (hi : i < L.length), ∃ y, f (L[i]) = some y := by
  intro L
  induction L with
  | nil => intro ys _ i hi; simp at hi
  | cons a r ih =>
    intro ys h i hi
    rw [List.mapM_cons] at h
    simp only [Option.bind_eq_bind, Option.bind_eq_some_iff] at h
    obtain ⟨y, hy, zs, hz, _⟩ := h
    match i, hi with
    | 0, _ => exact ⟨y, hy⟩
    | i + 1, hi => exact ih hz i (by simpa using hi)
theorem open_str2 {H : Type} {enc : TypeId × Value → H} {P : Program} {W : World} {base : Nat} {sp : Nat → Bool} {held : Bool} {t e : TypeId} {r : Reach} {b0 : Nat} {v : Value} {d : DataW H} {ps : List MemPlace}
    (ht : P.underlying t = some (.array 2 e)) (he : P.underlying e = some .string) (h1 : P.cellsOf e = 1) (hs : P.cellsOf t = 2)
    (hval : Value.okWide P W r b0 t v) (hd : DataW.Trod enc P W base sp held t v d ps) :
    ∃ x y : ByteArray, v = .agg #[.string x, .string y] ∧ x.size ≤ maxLen ∧ y.size ≤ maxLen := by
  simp only [Value.okWide, ht] at hval
  obtain ⟨cs, rfl, h2, _⟩ := hval
  rw [hs] at h2
  obtain ⟨fuel, hf⟩ := hd
  cases fuel with
  | zero => simp [DataW.trod] at hf
  | succ m =>
    rw [DataW.trod_step] at hf
    unfold DataW.trodStep at hf
    simp only [ht, Value.cells] at hf
    rw [if_pos (by rw [hs]; simpa using h2)] at hf
    simp only [Option.map_eq_some_iff] at hf
    obtain ⟨ys, hy, _⟩ := hf
    have hall : ∀ i (hi : i < 2), ∃ z, cs[i]'(by omega) = .string z ∧ z.size ≤ maxLen := by
      intro i hi
      obtain ⟨y, hy'⟩ := mapM_each2 _ hy i (by simpa using hi)
      obtain ⟨z, ez, _, wz⟩ := DataW.trod_string he hy'
      rw [h1, Nat.mul_one, List.getElem_range] at ez
      refine ⟨z, ?_, wz⟩
      have e2 := congrArg (fun l : List Value => l[0]?) ez
      simp only [List.getElem?_take, List.getElem?_drop, Nat.add_zero] at e2
      rw [if_pos (by omega), Array.getElem?_toList, Array.getElem?_eq_getElem (by omega)] at e2
      simpa using e2
    obtain ⟨x, hx, hx2⟩ := hall 0 (by omega)
    obtain ⟨y, hy, hy2⟩ := hall 1 (by omega)
    refine ⟨x, y, ?_, hx2, hy2⟩
    congr 1
    apply Array.ext (by simpa using h2)
    intro i h3 h4
    have : i = 0 ∨ i = 1 := by omega
    rcases this with rfl | rfl
    · simpa using hx
    · simpa using hy

/-! ### disks whose power stays on -/
section
variable {F : List (List UInt8 × Fl)} {n k s : List UInt8} {f : Fl}
abbrev calm (F : List (List UInt8 × Fl)) : Ds := ⟨F, -1, false⟩
theorem calm_E (ok : Bool) : begE ok (-1) false = if ok = true then 0 else 1 := by unfold begE; split <;> rfl
theorem calm_F (ok : Bool) : begF ok (-1) false = -1 := by unfold begF; rw [if_neg (by omega)]
theorem calm_O (ok : Bool) : begO ok (-1) false = false := by unfold begO; rw [if_neg (by omega)]
theorem calm_B (ok : Bool) : (calm F).begin ok = calm F := by unfold Ds.begin calm; dsimp only; rw [calm_F, calm_O]
theorem calm_chg (hn : namL n = true) (ok : Bool) (hok : ok = true) : (calm F).chgE ok n = fE (getL n F) := by
  subst hok
  unfold Ds.chgE calm; dsimp only; rw [calm_E, if_pos rfl, if_pos rfl]
theorem make_new (hn : namL n = true) (hg : getL n F = none) (hl : F.length < 256) : (calm F).make n = (calm (putL n ⟨[], 0⟩ F), 0) := by
  unfold Ds.make; rw [calm_B]; dsimp only; rw [calm_E, if_pos hn, if_pos rfl, hg]; dsimp only; rw [if_neg (by omega)]
theorem make_old (hn : namL n = true) (hg : getL n F = some f) : (calm F).make n = (calm F, 1) := by
  unfold Ds.make; rw [calm_B]; dsimp only; rw [calm_E, if_pos hn, if_pos rfl, hg]
theorem append_calm (hn : namL n = true) (hg : getL n F = some f) (hl : f.bytes.length + s.length ≤ 4194304) : (calm F).append n s = (calm (setL n ⟨f.bytes ++ s, f.sure⟩ F), 0) := by
  unfold Ds.append; rw [calm_B, calm_chg hn _ hn]; dsimp only; rw [hg]; rw [show fE (some f) = 0 from rfl, if_pos rfl]; dsimp only; rw [if_neg (by omega)]
theorem sync_calm (hn : namL n = true) (hg : getL n F = some f) : (calm F).sync n = (calm (setL n ⟨f.bytes, f.bytes.length⟩ F), 0) := by
  unfold Ds.sync; rw [calm_B, calm_chg hn _ hn]; dsimp only; rw [hg]; rw [show fE (some f) = 0 from rfl, if_pos rfl]
theorem rename_calm (hn : namL n = true) (hk : namL k = true) (hg : getL n F = some f) : (calm F).rename n k = (calm (putL k f (delL n F)), 0) := by
  unfold Ds.rename; rw [calm_B, calm_chg hn _ (by rw [hn, hk]; rfl)]; dsimp only; rw [hg]; rw [show fE (some f) = 0 from rfl, if_pos rfl]
theorem rename_none (hn : namL n = true) (hk : namL k = true) (hg : getL n F = none) : (calm F).rename n k = (calm F, 3) := by
  unfold Ds.rename; rw [calm_B, calm_chg hn _ (by rw [hn, hk]; rfl)]; rw [hg, show fE (none : Option Fl) = 3 from rfl, if_neg (by omega)]
theorem remove_calm (hn : namL n = true) (hg : getL n F = some f) : (calm F).remove n = (calm (delL n F), 0) := by
  unfold Ds.remove; rw [calm_B, calm_chg hn _ hn, hg]; rw [show fE (some f) = 0 from rfl, if_pos rfl]
theorem look_calm (hn : namL n = true) : (calm F).lookE n = fE (getL n F) := by
  unfold Ds.lookE askE calm; dsimp only; rw [hn]; rfl
theorem bytes_calm (hn : namL n = true) (hg : getL n F = some f) : (calm F).bytesOf n = f.bytes := by
  unfold Ds.bytesOf; rw [look_calm hn, hg]; rw [show fE (some f) = 0 from rfl, if_pos rfl]
theorem sure_calm (hn : namL n = true) (hg : getL n F = some f) : (calm F).sureOf n = f.sure := by
  unfold Ds.sureOf; rw [look_calm hn, hg]; rw [show fE (some f) = 0 from rfl, if_pos rfl]
theorem crash_none (F : List (List UInt8 × Fl)) (fu : Int) (o : Bool) : (⟨F, fu, o⟩ : Ds).crash [] = calm (F.mapIdx fun _ p => (p.1, cutF 0 p.2)) := rfl
theorem cut_zero (h : f.sure ≤ f.bytes.length) : cutF 0 f = ⟨f.bytes.take f.sure, f.sure⟩ := by
  have e : keepN 0 f = f.sure := by unfold keepN; omega
  unfold cutF; rw [e]
theorem mapIdx_map {α β : Type} (c : α → β) (l : List (List UInt8 × α)) : (l.mapIdx fun _ p => (p.1, c p.2)) = mapL c l := by
  unfold mapL
  apply List.ext_getElem (by simp)
  intro j h1 h2
  simp
end

/-! ### the document's own Name -/
set_option maxRecDepth 100000 in
set_option maxHeartbeats 2000000 in
theorem rname_any (s : ByteArray) (hs : s.size ≤ maxLen) (w : World) :
    Calls Try.prog 19 #[.string s] w fun e w' => e = .returned (.bool (namL s.data.toList)) ∧ w = w' := by
  unfold maxLen at hs
  go_enter Try.func19, Try.ntmps19
  go_wp2
  go_loop [3] (fun i => ∃ j : Nat, j ≤ s.size ∧ i = .int .i64 j ∧ AllB s.data.toList j) (fun i => s.size - (intOf i).toNat)
  case atStart => exact ⟨0, Nat.zero_le _, rfl, rfl⟩
  case round =>
    obtain ⟨j, hj, rfl, hB⟩ := hrel
    have HBB := Lib.hid hB
    clear hB
    by_cases hjt : j < s.size
    · have hl : j < s.data.toList.length := by rw [Array.length_toList]; exact hjt
      have hg : s.data.toList[j] = s[j] := by simp; rfl
      have hlt := s[j].toNat_lt
      cases hn : namB s[j] with
      | true =>
        have HN := Lib.hid hn
        have h1 := hn
        unfold namB at h1
        simp only [Bool.or_eq_true, Bool.and_eq_true, decide_eq_true_eq] at h1
        have HE := Lib.hid (show AllB s.data.toList (j + 1) from by unfold AllB; rw [take_all_snoc namB _ j hl, HBB.out, hg, HN.out]; rfl)
        clear hn hg
        have hcase : (97 ≤ (s[j].toNat : Int) ∧ (s[j].toNat : Int) ≤ 122) ∨ ((s[j].toNat : Int) < 97 ∧ 48 ≤ (s[j].toNat : Int) ∧ (s[j].toNat : Int) ≤ 57) ∨ ((s[j].toNat : Int) < 48 ∧ (s[j].toNat : Int) = 46) ∨ ((s[j].toNat : Int) < 48 ∧ (s[j].toNat : Int) = 45) := by omega
        clear h1
        rcases hcase with ⟨h1, h2⟩ | ⟨h1, h2, h3⟩ | ⟨h1, h2⟩ | ⟨h1, h2⟩
        · go_wp2
          go_round
          case rel => exact ⟨j + 1, by omega, by go_num, HE.out⟩
          case measure => simp [intOf]; omega
        · go_wp2
          go_round
          case rel => exact ⟨j + 1, by omega, by go_num, HE.out⟩
          case measure => simp [intOf]; omega
        · have h3 : (s[j].toNat : Int) < 97 := by omega
          have h4 : ((s[j].toNat : Int) != 46) = false := by simp [h2]
          clear h2
          go_wp2
          go_round
          case rel => exact ⟨j + 1, by omega, by go_num, HE.out⟩
          case measure => simp [intOf]; omega
        · have h3 : (s[j].toNat : Int) < 97 := by omega
          have h4 : ((s[j].toNat : Int) != 46) = true := by simp [h2]
          have h5 : ((s[j].toNat : Int) != 45) = false := by simp [h2]
          clear h2
          go_wp2
          go_round
          case rel => exact ⟨j + 1, by omega, by go_num, HE.out⟩
          case measure => simp [intOf]; omega
      | false =>
        have h1 := hn
        unfold namB at h1
        simp only [Bool.or_eq_false_iff, Bool.and_eq_false_iff, decide_eq_false_iff_not] at h1
        obtain ⟨⟨⟨h1, h2⟩, h3⟩, h4⟩ := h1
        have h3' : ((s[j].toNat : Int) != 46) = true := by simpa using h3
        have h4' : ((s[j].toNat : Int) != 45) = true := by simpa using h4
        have HF := Lib.hid (show namL s.data.toList = false from by unfold namL; rw [all_false_at namB _ j hl (by rw [hg]; exact hn)]; simp)
        clear h3 h4 hn hg
        have hcase : ((s[j].toNat : Int) < 97 ∧ (s[j].toNat : Int) < 48) ∨ ((s[j].toNat : Int) < 97 ∧ 57 < (s[j].toNat : Int)) ∨ 122 < (s[j].toNat : Int) := by omega
        clear h1 h2
        rcases hcase with ⟨h1, h2⟩ | ⟨h1, h2⟩ | h1
        all_goals
          go_wp2
          go_ret
          exact ⟨ret_b HF.out.symm, rfl⟩
    · have hje : j = s.size := by omega
      have HJ := Lib.hid hje
      have hall : s.data.toList.all namB = true := by
        have := HBB.out
        unfold AllB at this
        rw [hje, List.take_of_length_le (by rw [Array.length_toList]; exact Nat.le_refl _)] at this
        exact this
      have HA := Lib.hid hall
      clear hje hall
      have hlen : s.data.toList.length = s.size := Array.length_toList
      by_cases h1 : 1 ≤ s.size
      · by_cases h2 : s.size ≤ 32
        · have HF := Lib.hid (show namL s.data.toList = true from by unfold namL; rw [HA.out, decide_eq_true (by omega), decide_eq_true (by omega)]; rfl)
          clear hlen
          go_wp2
          go_ret
          exact ⟨ret_b (by rw [HF.out, decide_eq_true_eq]; omega), rfl⟩
        · have HF := Lib.hid (show namL s.data.toList = false from by unfold namL; rw [decide_eq_false (show ¬ s.data.toList.length ≤ 32 by omega)]; simp)
          clear hlen
          go_wp2
          go_ret
          exact ⟨ret_b (by rw [HF.out, decide_eq_false_iff_not]; omega), rfl⟩
      · have HF := Lib.hid (show namL s.data.toList = false from by unfold namL; rw [decide_eq_false (show ¬ 0 < s.data.toList.length by omega)]; simp)
        clear hlen
        go_wp2
        go_ret
        exact ⟨ret_b HF.out.symm, rfl⟩
end Go.Proofs.Ytoidfjglimafbaa
