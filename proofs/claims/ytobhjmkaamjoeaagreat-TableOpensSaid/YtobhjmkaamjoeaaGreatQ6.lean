/-
  Texts of mine as one, in the order in which they build: Hp, Hq, Hr, Hs, Ht, Hu, Hv, Hw, Hx. Conditions: as each says.
-/
import Derived.Test.YtobhjmkaamjoeaaGreatQ5
import Derived.Test.YtobhjmkaamjoeaaGreatKg
import Derived.Test.YtobhjmkaamjoeaaGreatQm
import Derived.Test.YtobhjmkaamjoeaaGreatBc
import Derived.Test.YtobhjmkaamjoeaaGreatQ4
import Derived.Lib.MinMax
import Derived.Lib.SliceRun
import Derived.Test.YtobhjmkaamjoeaaGreatSf
import Derived.Laws.StructEq
import Derived.Deep.RegionHeld3
namespace Go.Proofs.YtobhjmkaamjoeaaGreat
set_option maxRecDepth 100000
open Go.RowKit
set_option linter.unusedVariables false
set_option linter.unusedSimpArgs false

/-! ### plain -/
/-- The entries of blocks of which a foot tells, as long as all is right. -/
def goT : Nat → List UInt8 → List UInt8 → List Ent
  | 0, _, _ => []
  | n + 1, f, b => if (ttR f).2.2 = 0 ∧ (tk (f.drop (ttR f).2.1) 0 0).2.2 = 0 ∧ (tk (f.drop (ttR f).2.1) 0 0).1 ≤ b.length then
      (match takeB (b.take (tk (f.drop (ttR f).2.1) 0 0).1) with
       | some es => es ++ goT n ((f.drop (ttR f).2.1).drop (tk (f.drop (ttR f).2.1) 0 0).2.1) (b.drop (tk (f.drop (ttR f).2.1) 0 0).1)
       | none => [])
    else []
theorem goT_yes {n : Nat} {f b t : List UInt8} {a m c : Nat} {es : List Ent} (h1 : ttR f = (t, a, 0)) (h2 : tk (f.drop a) 0 0 = (m, c, 0)) (hm : m ≤ b.length) (h3 : takeB (b.take m) = some es) :
    goT (n + 1) f b = es ++ goT n ((f.drop a).drop c) (b.drop m) := by
  rw [goT]
  simp only [h1, h2, h3]
  rw [if_pos ⟨trivial, trivial, hm⟩]
theorem goT_none {n : Nat} {f b t : List UInt8} {a m c : Nat} (h1 : ttR f = (t, a, 0)) (h2 : tk (f.drop a) 0 0 = (m, c, 0)) (h3 : takeB (b.take m) = none) : goT (n + 1) f b = [] := by
  rw [goT]
  simp only [h1, h2, h3]
  split <;> rfl
theorem goT_no {n : Nat} {f b t : List UInt8} {a x m c y : Nat} (h1 : ttR f = (t, a, x)) (h2 : tk (f.drop a) 0 0 = (m, c, y)) (h : ¬ (x = 0 ∧ y = 0 ∧ m ≤ b.length)) : goT (n + 1) f b = [] := by
  rw [goT]
  simp only [h1, h2]
  rw [if_neg h]
def halfL (s : List UInt8) : Option (List UInt8 × List UInt8) :=
  if 4 ≤ s.length ∧ fixV (s.drop (s.length - 4)) ≤ s.length - 4 then some (s.take (s.length - 4 - fixV (s.drop (s.length - 4))), (s.take (s.length - 4)).drop (s.length - 4 - fixV (s.drop (s.length - 4)))) else none
def eachL (s : List UInt8) : List Ent := match halfL s with
  | some (b, f) => goT (tk f 0 0).1 (f.drop (tk f 0 0).2.1) b
  | none => []
theorem eachL_at {s b f : List UInt8} {n a x : Nat} (h : halfL s = some (b, f)) (h1 : tk f 0 0 = (n, a, x)) : eachL s = goT n (f.drop a) b := by
  unfold eachL
  rw [h]
  simp only [h1]
theorem takeB_len {s : List UInt8} {es : List Ent} (h : takeB s = some es) : es.length ≤ 4096 ∧ 4 ≤ s.length ∧ okV es := by
  obtain ⟨h1, h2⟩ := takeB_back h
  refine ⟨okB_len4 h2, ?_, okB_okW h2⟩
  rw [← h1]
  unfold putB
  rw [List.length_append, tailL_length]
  omega
theorem okV_app {a b : List Ent} (ha : okV a) (hb : okV b) : okV (a ++ b) := by
  intro e he
  rcases List.mem_append.1 he with h | h
  · exact ha e h
  · exact hb e h
theorem goT_ok : ∀ (n : Nat) (f b : List UInt8), (goT n f b).length ≤ 4096 * b.length ∧ okV (goT n f b)
  | 0, f, b => ⟨by simp [goT], fun e he => by simp [goT] at he⟩
  | n + 1, f, b => by
    obtain ⟨t, a, x, h1⟩ : ∃ t a x, ttR f = (t, a, x) := ⟨_, _, _, rfl⟩
    obtain ⟨m, c, y, h2⟩ : ∃ m c y, tk (f.drop a) 0 0 = (m, c, y) := ⟨_, _, _, rfl⟩
    by_cases h : x = 0 ∧ y = 0 ∧ m ≤ b.length
    · obtain ⟨rfl, rfl, hm⟩ := h
      cases h3 : takeB (b.take m) with
      | none =>
        rw [goT_none h1 h2 h3]
        exact ⟨by simp, fun e he => by simp at he⟩
      | some es =>
        obtain ⟨l1, l2, l3⟩ := takeB_len h3
        have ih := goT_ok n ((f.drop a).drop c) (b.drop m)
        rw [goT_yes h1 h2 hm h3]
        refine ⟨?_, okV_app l3 ih.2⟩
        have := ih.1
        rw [List.length_take] at l2
        rw [List.length_drop] at this
        rw [List.length_append]
        omega
    · rw [goT_no h1 h2 h]
      exact ⟨by simp, fun e he => by simp at he⟩
theorem eachL_ok (s : List UInt8) : (eachL s).length ≤ 4096 * s.length ∧ okV (eachL s) := by
  unfold eachL halfL
  split
  · rename_i b f h
    split at h
    · injection h with h
      injection h with hb hf
      obtain ⟨h1, h2⟩ := goT_ok (tk f 0 0).1 (f.drop (tk f 0 0).2.1) b
      refine ⟨?_, h2⟩
      have : b.length ≤ s.length := by rw [← hb, List.length_take]; omega
      omega
    · cases h
  · exact ⟨by simp, fun e he => by simp at he⟩
theorem goT_put {es : List Ent} (h : okB es = true) : ∀ (k i : Nat) (t u : List UInt8), goT k (idxF es i k ++ t) (outF es i k ++ u) = (List.range k).flatMap fun j => blk es (i + j)
  | 0, i, t, u => by simp [goT]
  | k + 1, i, t, u => by
    have h2 := (putB_le (blk_ok h i) (blk_len es i)).1
    have h3 := fst_le h i
    have e0 : idxF es i (k + 1) ++ t = txL (fstK (blk es i)) ++ (vL (putB (blk es i)).length ++ (idxF es (i + 1) k ++ t)) := by rw [idxF_succ]; simp
    have e1 := ttR_back (fstK (blk es i)) (vL (putB (blk es i)).length ++ (idxF es (i + 1) k ++ t)) (by omega)
    have e2 := tk_fore (putB (blk es i)).length (idxF es (i + 1) k ++ t) (by omega)
    have e3 : tk ((txL (fstK (blk es i)) ++ (vL (putB (blk es i)).length ++ (idxF es (i + 1) k ++ t))).drop (txL (fstK (blk es i))).length) 0 0 = ((putB (blk es i)).length, (vL (putB (blk es i)).length).length, 0) := by rw [List.drop_left]; exact e2
    have eo : outF es i (k + 1) ++ u = putB (blk es i) ++ (outF es (i + 1) k ++ u) := by rw [outF_succ, List.append_assoc]
    rw [e0, eo, goT_yes e1 e3 (by simp) (by rw [List.take_left]; exact takeB_put (blk_ok h i)), List.drop_left, List.drop_left, List.drop_left, goT_put h k (i + 1) t u]
    rw [List.range_succ_eq_map, List.flatMap_cons, List.flatMap_map, Nat.add_zero]
    congr 1
    congr 1
    funext j
    show blk es (i + 1 + j) = blk es (i + (j + 1))
    rw [show i + (j + 1) = i + 1 + j by omega]
theorem eachL_put {es : List Ent} (h : okT es = true) : eachL (buildT es) = es := by
  obtain ⟨hne, hk⟩ := okT_iff.1 h
  have hfl := footS_len hk
  have hn := numB_le hk
  obtain ⟨O, hO⟩ : ∃ O, O = outT es (numB es) := ⟨_, rfl⟩
  obtain ⟨F, hF⟩ : ∃ F, F = footS es := ⟨_, rfl⟩
  have hb : buildT es = O ++ F ++ fixL F.length := by rw [hO, hF]; rfl
  have hl : (buildT es).length = O.length + F.length + 4 := by rw [hb]; simp only [List.length_append, fixL_length]
  have hd : (buildT es).drop ((buildT es).length - 4) = fixL F.length := by
    rw [hl, hb, show O.length + F.length + 4 - 4 = (O ++ F).length by simp, List.drop_left]
  have hv : fixV (fixL F.length) = F.length := by
    have := fixV_fixL F.length (by rw [hF]; omega) []
    rwa [List.append_nil] at this
  have ht : ((buildT es).take ((buildT es).length - 4)).drop ((buildT es).length - 4 - F.length) = F := by
    rw [hl, hb, show O.length + F.length + 4 - 4 = (O ++ F).length by simp, List.take_left, show (O ++ F).length - F.length = O.length by simp, List.drop_left]
  have hu : (buildT es).take ((buildT es).length - 4 - F.length) = O := by
    rw [hl, hb, show O.length + F.length + 4 - 4 - F.length = O.length by omega, List.append_assoc, List.take_left]
  have hh : halfL (buildT es) = some (O, F) := by
    unfold halfL
    rw [hd, hv, if_pos ⟨by rw [hl]; omega, by rw [hl]; omega⟩, ht, hu]
  have e0 : F = vL (numB es) ++ (idxF es 0 (numB es) ++ (txL (makeL (keysT es)) ++ tailL (footF es))) := by
    have e1 : footF es = vL (numB es) ++ (idxF es 0 (numB es) ++ txL (makeL (keysT es))) := by
      unfold footF
      rw [idxT_F, List.append_assoc]
    rw [hF]
    unfold footS
    generalize tailL (footF es) = TT
    rw [e1]
    simp only [List.append_assoc]
  have e1 := tk_fore (numB es) (idxF es 0 (numB es) ++ (txL (makeL (keysT es)) ++ tailL (footF es))) (by omega)
  rw [← e0] at e1
  rw [eachL_at hh e1]
  have e2 : F.drop (vL (numB es)).length = idxF es 0 (numB es) ++ (txL (makeL (keysT es)) ++ tailL (footF es)) := by rw [e0, List.drop_left]
  have e3 : O = outF es 0 (numB es) ++ [] := by rw [hO, outT_F, List.append_nil]
  rw [e2, e3, goT_put hk]
  have := blks_all es (numB es) 0 (by unfold numB; omega)
  simp only [Nat.mul_zero, List.drop_zero] at this
  exact this
/-- What the code's Open finds is the table of the bytes. -/
theorem open_each (s : List UInt8) : openT s = if okT (eachL s) = true ∧ buildT (eachL s) = s then some (eachL s) else none := by
  split
  · rename_i h
    exact openT_some.2 h
  · rename_i h
    cases ho : openT s with
    | none => rfl
    | some es =>
      obtain ⟨h1, h2⟩ := openT_some.1 ho
      have h3 := eachL_put h1
      rw [h2] at h3
      rw [h3] at h
      exact absurd ⟨h1, h2⟩ h

/-! ### halves -/
/-- What halves leaves. -/
def HV (s : ByteArray) (w : World) (e : Ending) (w' : World) : Prop := ∃ (B F : ByteArray) (ok : Bool), e = .returned (.tuple #[.string B, .string F, .bool ok]) ∧
  (ok = true → halfL s.data.toList = some (B.data.toList, F.data.toList)) ∧ (ok = false → halfL s.data.toList = none ∧ B = ⟨#[]⟩ ∧ F = ⟨#[]⟩) ∧ B.size ≤ s.size ∧ F.size ≤ s.size ∧ Below w.heap.size w w'
theorem HV.no {s : ByteArray} {w w' : World} {e : Ending} (h : halfL s.data.toList = none) (he : e = .returned (.tuple #[.string ⟨#[]⟩, .string ⟨#[]⟩, .bool false])) (hb : Below w.heap.size w w') : HV s w e w' :=
  ⟨⟨#[]⟩, ⟨#[]⟩, false, he, (fun h => by cases h), fun _ => ⟨h, rfl, rfl⟩, Nat.zero_le _, Nat.zero_le _, hb⟩
set_option maxHeartbeats 2000000 in
theorem halves_any (s : ByteArray) (w : World) (hs : s.size ≤ 16777216) : Calls Tryz.prog 65 #[.string s] w (HV s w) := by
  by_cases h4 : s.size < 4
  · have HN : Hid (halfL s.data.toList = none) := Lib.hid (by unfold halfL; rw [if_neg (by rw [size_list]; omega)])
    have hi : (s.size : Int) - 4 < 0 := by omega
    go_enter Tryz.func65, Tryz.ntmps65
    go_wp2
    go_ret3
    exact HV.no HN.out rfl (Below.refl _ _)
  · have hi : (0 : Int) ≤ (s.size : Int) - 4 := by omega
    have hi2 : (s.size : Int) - 4 ≤ (s.size : Int) := by omega
    obtain ⟨m, hm⟩ : ∃ m, s.size = m + 4 := ⟨s.size - 4, by omega⟩
    have hmi : (s.size : Int) - 4 = (m : Int) := by omega
    have hx := ext_drop s m (by omega)
    obtain ⟨v, hv⟩ : ∃ v, v = fixV (s.data.toList.drop m) := ⟨_, rfl⟩
    have hT := takefix_code (s.extract m s.size) w (by rw [hx.2]; omega) (by rw [hx.2]; omega)
    rw [hx.1, ← hv, hm] at hT
    have HT := Lib.hid hT
    have hmn : m ≤ s.size := by omega
    have hmz : (m : Int) ≤ (s.size : Int) := by omega
    have HV1 := Lib.hid hv
    clear hT hv hx
    by_cases hle : v ≤ m
    · have hli : (v : Int) ≤ (m : Int) := by omega
      obtain ⟨p, hp⟩ : ∃ p, p = m - v := ⟨_, rfl⟩
      have hd : (m : Int) - (v : Int) = (p : Int) := by omega
      have hd0 : (p : Int) ≤ (m : Int) := by omega
      have hd1 : (p : Int) ≤ (s.size : Int) := by omega
      have hpm : p ≤ m := by omega
      have hpz : p ≤ s.size := by omega
      have hp0 : (0 : Int) ≤ (p : Int) := by omega
      have hwp : IntKind.i64.wrap (p : Int) = (p : Int) := IntWalk.i64_in _ (by omega)
      have hp4 : (p : Int) ≤ (m : Int) + 4 := by omega
      have hm4 : (m : Int) ≤ (m : Int) + 4 := by omega
      have hp4n : p ≤ m + 4 := by omega
      have hm4n : m ≤ m + 4 := by omega
      have hpmi : (p : Int) ≤ (m : Int) := by omega
      have HH : Hid (halfL s.data.toList = some ((s.extract 0 p).data.toList, (s.extract p m).data.toList)) := Lib.hid (by
        unfold halfL
        rw [size_list, hm, show m + 4 - 4 = m by omega, ← HV1.out, ← hp, if_pos ⟨by omega, hle⟩, Lib.extract_data, Lib.extract_data]
        congr 2
        rw [List.drop_take])
      have HZ : Hid ((s.extract 0 p).size ≤ s.size ∧ (s.extract p m).size ≤ s.size) := Lib.hid (by rw [ByteArray.size_extract, ByteArray.size_extract]; omega)
      clear hp
      go_enter Tryz.func65, Tryz.ntmps65
      go_wp2_with fail
      refine HT.out.mono ?_
      rintro e w1 ⟨rfl, rfl⟩
      go_wp2
      refine wp_region_below (by kernel_rfl) (by kernel_rfl) ?_
      repeat (first
        | go_big_quiet_skip
        | (go_big_quiet_want
           first
           | (refine BigFrame.quiet_move _ rfl ?_)
           | (refine BigFrame.quiet_assign _ rfl ?_)
           | (unfold Oper.quiet
              apply Exists.intro
              refine ⟨fun w' hw' => ?_, ?_⟩
              · (obtain ⟨hc', hf'⟩ := bcell hw'
                 go_simp
                 first
                 | done
                 | exact rfl))
           go_big_quiet_on
           simp only [Act.put, Act.eval, List.setIfInBounds_toArray, List.set_cons_zero, List.set_cons_succ, Array.getD_eq_getD_getElem?, List.getElem?_toArray, List.getElem?_cons_zero, List.getElem?_cons_succ, Option.getD_some]))
      refine wpQuiet_nil ?_
      intro w' hw'
      go_wp2
      go_ret3
      exact ⟨_, _, true, rfl, (fun _ => HH.out), (fun h => by cases h), HZ.out.1, HZ.out.2, hw'⟩
    · have hli : (m : Int) < (v : Int) := by omega
      have HN : Hid (halfL s.data.toList = none) := Lib.hid (by
        unfold halfL
        rw [size_list, hm, show m + 4 - 4 = m by omega, ← HV1.out, if_neg (by omega)])
      go_enter Tryz.func65, Tryz.ntmps65
      go_wp2_with fail
      refine HT.out.mono ?_
      rintro e w1 ⟨rfl, rfl⟩
      go_wp2
      go_ret3
      exact HV.no HN.out rfl (Below.refl _ _)

/-! ### each's closures -/
set_option maxHeartbeats 2000000 in
theorem tnum1_any (B S R : Nat) (hne : S ≠ R) (hBS : B ≤ S) (hBR : B ≤ R) (w : World) (hBw : B ≤ w.heap.size) (s : ByteArray) (hs : s.size ≤ 16777216) (r : Bool) (h : NS S R w s r) (n a x : Nat) (ht : tk s.data.toList 0 0 = (n, a, x)) :
    Calls Tryz.prog 66 #[.pointer (some ⟨S, 0, none⟩), .pointer (some ⟨R, 0, none⟩)] w fun e w' =>
      e = .returned (.int .i64 (n : Nat)) ∧ NS S R w' (s.extract a s.size) (r && decide (x = 0)) ∧ KeepX (SR S R) w w' ∧ Below B w w' := by
  have hT := take_code s w (by omega)
  rw [ht] at hT
  simp only at hT
  have hle := (tk_le ht).1
  rw [size_list] at hle
  have HT := Lib.hid hT
  have H := Lib.hid h
  have hai : (a : Int) ≤ (s.size : Int) := by omega
  have a0 : (0 : Int) ≤ (a : Int) := by omega
  obtain ⟨⟨c1, c2, c3⟩, ⟨d1, d2, d3⟩⟩ := h
  clear ht hT
  by_cases hx : x = 0
  · subst hx
    cases r
    all_goals
      go_enter Tryz.func66, Tryz.ntmps66
      go_wp2_with fail
      refine HT.out.mono ?_
      rintro e w1 ⟨rfl, rfl⟩
      have HE : Hid (∀ r', NS S R ((w.setCell ⟨R, 0, none⟩ (.bool r')).setCell ⟨S, 0, none⟩ (.string (s.extract a s.size))) (s.extract a s.size) r') := Lib.hid fun r' => (H.out.right hne r').left hne _
      have HK : Hid (KeepX (SR S R) w w ∧ Below B w w) := Lib.hid ⟨KeepX.refl _ w, Below.refl B w⟩
      go_wp2
      go_ret
      refine ⟨rfl, ?_, (HK.out.1.set (Or.inr rfl) _).set (Or.inl rfl) _, (HK.out.2.setCell (p := ⟨R, 0, none⟩) hBR _).setCell (p := ⟨S, 0, none⟩) hBS _⟩
      first | exact HE.out _ | (simpa using HE.out _)
  · have hxi : ¬ (x : Int) = 0 := by omega
    have hxb : ((x : Int) == 0) = false := by simpa using hx
    have hd : decide (x = 0) = false := by simpa using hx
    rw [hd]
    clear hd
    cases r
    all_goals
      go_enter Tryz.func66, Tryz.ntmps66
      go_wp2_with fail
      refine HT.out.mono ?_
      rintro e w1 ⟨rfl, rfl⟩
      have HE : Hid (∀ r', NS S R ((w.setCell ⟨R, 0, none⟩ (.bool r')).setCell ⟨S, 0, none⟩ (.string (s.extract a s.size))) (s.extract a s.size) r') := Lib.hid fun r' => (H.out.right hne r').left hne _
      have HK : Hid (KeepX (SR S R) w w ∧ Below B w w) := Lib.hid ⟨KeepX.refl _ w, Below.refl B w⟩
      go_wp2
      go_ret
      refine ⟨rfl, ?_, (HK.out.1.set (Or.inr rfl) _).set (Or.inl rfl) _, (HK.out.2.setCell (p := ⟨R, 0, none⟩) hBR _).setCell (p := ⟨S, 0, none⟩) hBS _⟩
      first | exact HE.out _ | (simpa using HE.out _)
set_option maxHeartbeats 2000000 in
theorem tskip_any (B S R : Nat) (hne : S ≠ R) (hBS : B ≤ S) (hBR : B ≤ R) (w : World) (hBw : B ≤ w.heap.size) (s : ByteArray) (hs : s.size ≤ 16777216) (r : Bool) (h : NS S R w s r) (t : List UInt8) (a x : Nat) (ht : ttR s.data.toList = (t, a, x)) :
    Calls Tryz.prog 68 #[.pointer (some ⟨S, 0, none⟩), .pointer (some ⟨R, 0, none⟩)] w fun e w' =>
      e = .returned (.tuple #[]) ∧ NS S R w' (s.extract a s.size) (r && decide (x = 0)) ∧ KeepX (SR S R) w w' ∧ Below B w w' := by
  have hT := taketext_code s w (by omega)
  unfold TT at hT
  rw [ht] at hT
  simp only at hT
  have hle := (ttR_le ht).1
  rw [size_list] at hle
  have HT := Lib.hid hT
  have H := Lib.hid h
  have hai : (a : Int) ≤ (s.size : Int) := by omega
  have a0 : (0 : Int) ≤ (a : Int) := by omega
  obtain ⟨⟨c1, c2, c3⟩, ⟨d1, d2, d3⟩⟩ := h
  clear ht hT
  by_cases hx : x = 0
  · subst hx
    cases r
    all_goals
      go_enter Tryz.func68, Tryz.ntmps68
      go_wp2_with fail
      refine HT.out.mono ?_
      rintro e w1 ⟨rfl, b1⟩
      have H1 := Lib.hid (H.out.old b1)
      have HE : Hid (∀ r', NS S R ((w1.setCell ⟨R, 0, none⟩ (.bool r')).setCell ⟨S, 0, none⟩ (.string (s.extract a s.size))) (s.extract a s.size) r') := Lib.hid fun r' => (H1.out.right hne r').left hne _
      have HK : Hid (KeepX (SR S R) w w1 ∧ Below B w w1) := Lib.hid ⟨KeepX.of b1, b1.mono hBw⟩
      clear c1 c2 c3 d1 d2 d3 b1
      obtain ⟨⟨c1, c2, c3⟩, ⟨d1, d2, d3⟩⟩ := H1.out
      go_wp2
      go_end0
      refine ⟨rfl, ?_, (HK.out.1.set (Or.inr rfl) _).set (Or.inl rfl) _, (HK.out.2.setCell (p := ⟨R, 0, none⟩) hBR _).setCell (p := ⟨S, 0, none⟩) hBS _⟩
      first | exact HE.out _ | (simpa using HE.out _)
  · have hxi : ¬ (x : Int) = 0 := by omega
    have hxb : ((x : Int) == 0) = false := by simpa using hx
    have hd : decide (x = 0) = false := by simpa using hx
    rw [hd]
    clear hd
    cases r
    all_goals
      go_enter Tryz.func68, Tryz.ntmps68
      go_wp2_with fail
      refine HT.out.mono ?_
      rintro e w1 ⟨rfl, b1⟩
      have H1 := Lib.hid (H.out.old b1)
      have HE : Hid (∀ r', NS S R ((w1.setCell ⟨R, 0, none⟩ (.bool r')).setCell ⟨S, 0, none⟩ (.string (s.extract a s.size))) (s.extract a s.size) r') := Lib.hid fun r' => (H1.out.right hne r').left hne _
      have HK : Hid (KeepX (SR S R) w w1 ∧ Below B w w1) := Lib.hid ⟨KeepX.of b1, b1.mono hBw⟩
      clear c1 c2 c3 d1 d2 d3 b1
      obtain ⟨⟨c1, c2, c3⟩, ⟨d1, d2, d3⟩⟩ := H1.out
      go_wp2
      go_end0
      refine ⟨rfl, ?_, (HK.out.1.set (Or.inr rfl) _).set (Or.inl rfl) _, (HK.out.2.setCell (p := ⟨R, 0, none⟩) hBR _).setCell (p := ⟨S, 0, none⟩) hBS _⟩
      first | exact HE.out _ | (simpa using HE.out _)

/-! ### Open's closure -/
/-- The table that Open makes: its entries so far. -/
def TB (base T4 T : Nat) (w : World) (ts : List Ent) (v : Value) : Prop :=
  w.cell? ⟨T4, 0, none⟩ = some (.pointer (some ⟨T, 0, none⟩)) ∧ w.heap[T]? = some (.cells #[.pointer none, v, .string ⟨#[]⟩] 58 (0, 0)) ∧ T4 ≠ T ∧ T4 < base ∧ T < base ∧ base ≤ w.heap.size ∧ w.ownsRow base 41 4 v ts.length (ev4 ts)
def TU (base T y : Nat) : Prop := y = T ∨ base ≤ y
theorem TB.keep {base T4 T : Nat} {w w' : World} {ts : List Ent} {v : Value} {X : Nat → Prop} (h : TB base T4 T w ts v) (hk : KeepX X w w') (h4 : ¬ X T4) (hT : ¬ X T) (hx : ∀ g, base ≤ g → ¬ X g) : TB base T4 T w' ts v := by
  obtain ⟨h1, h2, h3, h5, h6, h7, h8⟩ := h
  exact ⟨(hk.cell (y := T4) (by omega) h4 0).1.trans h1, (hk.1 T (by omega) hT).trans h2, h3, h5, h6, Nat.le_trans h7 hk.2, own_keep h8 hk fun g hg => hx g (h8.lt g hg).1⟩
theorem TB.old {base T4 T : Nat} {w w' : World} {ts : List Ent} {v : Value} (h : TB base T4 T w ts v) (hb : Below w.heap.size w w') : TB base T4 T w' ts v := h.keep (X := fun _ => False) (KeepX.of hb) id id (fun _ _ => id)
set_option maxHeartbeats 2000000 in
theorem ttell_any (base T4 T : Nat) (w : World) (a : Option Addr) (n cap : Nat) (es ts : List Ent) (v : Value) (hl : es.length = n) (h : RdE w a es) (ht : TB base T4 T w ts v) (hn : ts.length + n ≤ 1099511627776) :
    Calls Tryz.prog 31 #[.slice a n cap, .pointer (some ⟨T4, 0, none⟩)] w fun e w' =>
      e = .returned (.tuple #[]) ∧ (∃ v', TB base T4 T w' (ts ++ es) v') ∧ KeepX (TU base T) w w' ∧ (T ≤ base → Below T w w') := by
  have H := Lib.hid ht
  obtain ⟨h1, h2, h3, h4, h5, h6, h7⟩ := ht
  obtain ⟨i0, hi, hz0, hz1, hz2⟩ := info_parts Tryz.infoEnt9
  obtain ⟨b, off, ha, hb, hat⟩ := h.at_
  rw [hl] at ha hb
  have hnone : a = none → n = 0 := fun e => by
    rcases Nat.eq_zero_or_pos n with h0 | h0
    · exact h0
    · have := ha h0; rw [e] at this; cases this
  have hnews : ∀ y, a = some y → ∀ j u, (ev4 es)[j]? = some u → w.cell? (y.add j) = some u := fun y hy j u hj => by
    have hjl : j < n * 4 := by have := (List.getElem?_eq_some_iff.1 hj).1; rw [ev4_length, hl] at this; exact this
    have h0 := ha (by omega)
    rw [hy] at h0
    injection h0 with h0
    subst h0
    rw [addp]
    exact hat.news j u hj
  have hlen : (ev4 es).length = n * 4 := by rw [ev4_length, hl]
  have x1 : w.cell? ⟨T, 1, none⟩ = some v := by rw [Lib.cell_of_heap h2]; rfl
  have HNW := Lib.hid hnews
  have HNO := Lib.hid hnone
  have HLE := Lib.hid hlen
  clear ha hb hat hnone hnews hlen h
  go_enter Tryz.func31, Tryz.ntmps31
  go_wp2
  refine mixed_region (D := (fun w' => w'.cell? ⟨T4, 0, none⟩ = some (.pointer (some ⟨T, 0, none⟩)) ∧ w'.cell? ⟨T, 1, none⟩ = some v)) [0, 1, 2, 3, 4, 5] [6, 7, 8, 9] 9 (by kernel_rfl) (by kernel_rfl) (by decide) (⟨h1, x1⟩) ?_
  simp only [List.filterMap_cons, List.filterMap_nil, List.getElem?_cons_zero, List.getElem?_cons_succ]
  repeat (
    (first
     | (refine calm_move _ rfl ?_)
     | (apply calm_cons
        · (intro w' hw'
           first | (obtain ⟨hwa', hwb', hwc'⟩ := hw') | (obtain ⟨hwa', hwb'⟩ := hw') | skip
           go_simp
           first
           | done
           | exact rfl)))
    simp only [Act.put, Act.eval, List.setIfInBounds_toArray, List.set_cons_zero, List.set_cons_succ, Array.getD_eq_getD_getElem?, List.getElem?_toArray, List.getElem?_cons_zero, List.getElem?_cons_succ, Option.getD_some])
  refine calm_nil ?_
  refine loud_cons fun K hK => ?_
  refine wpList_append_any rfl _ _ 22 rfl base 41 i0 (.agg #[.string ⟨#[]⟩, .string ⟨#[]⟩, .bool false, .int .i64 0]) 4 48 Tryz.underlying22 hi hz0 hz1 hz2 rfl (by decide) v ts.length (ev4 ts) rfl h7 a n cap (ev4 es) rfl HNO.out HLE.out HNW.out (ev4_one _) (by unfold maxLen; omega) (by omega) h6 ?_
  intro v' w2 own2 bb
  have hg := bb.cell (p := ⟨T4, 0, none⟩) h4
  have c4 : w2.cell? ⟨T4, 0, none⟩ = some (.pointer (some ⟨T, 0, none⟩)) := hg.trans h1
  have hb2 : w2.heap[T]? = some (.cells #[.pointer none, v, .string ⟨#[]⟩] 58 (0, 0)) := (bb.block T h5).trans h2
  have x2 : w2.cell? ⟨T, 1, none⟩ = some v := by rw [Lib.cell_of_heap hb2]; rfl
  have f2 : w2.frozen? ⟨T, 1, none⟩ = false := Lib.frozen_of_heap hb2 1
  have HB : Hid (Below base w w2) := Lib.hid ((Below.drew (Below.refl base w)).trans bb)
  have hs2 : base ≤ w2.heap.size := Nat.le_trans h6 (by first | exact bb.size | simpa using bb.size)
  rw [ev4_app] at own2
  have HO : Hid (w2.ownsRow base 41 4 v' (ts ++ es).length (ev4 (ts ++ es))) := Lib.hid (by rw [List.length_append, ‹es.length = n›]; exact own2)
  obtain ⟨a', cap', hv'⟩ := own_form HO.out (by decide)
  rw [List.length_append, ‹es.length = n›] at hv'
  subst hv'
  refine hK _ _ (fun _ => ⟨c4, x2⟩) ?_
  clear hK K own2 bb
  refine loud_cons fun K hK => ?_
  go_wp2
  refine hK _ _ (fun _ => ⟨c4, x2⟩) ?_
  clear hK K
  refine loud_cons fun K hK => ?_
  go_wp2
  refine hK _ _ (fun _ => ⟨c4, x2⟩) ?_
  clear hK K
  refine loud_cons fun K hK => ?_
  go_wp2
  refine hK _ _ (fun h => absurd rfl h) ?_
  clear hK K
  refine loud_nil ?_
  have HT3 : Hid (TB base T4 T (w2.setCell ⟨T, 1, none⟩ (.slice a' (ts.length + n) cap')) (ts ++ es) (.slice a' (ts.length + n) cap')) := Lib.hid ⟨(World.cell?_setCell_other _ _ _ _ (by intro h; simp only [Addr.mk.injEq] at h; omega)).trans c4,
    by simp [World.setCell, Array.getElem?_modify, hb2], h3, h4, h5, by simpa using hs2, ownsRow_setCell_below HO.out (a := ⟨T, 1, none⟩) h5 _⟩
  have HK3 : Hid (KeepX (TU base T) w (w2.setCell ⟨T, 1, none⟩ (.slice a' (ts.length + n) cap'))) := Lib.hid ((show KeepX (TU base T) w w2 from ⟨fun y hy hx => HB.out.block y (by unfold TU at hx; omega), HB.out.size⟩).set (p := ⟨T, 1, none⟩) (Or.inl rfl) _)
  have HB3 : Hid (T ≤ base → Below T w (w2.setCell ⟨T, 1, none⟩ (.slice a' (ts.length + n) cap'))) := Lib.hid fun h => (HB.out.mono h).setCell (p := ⟨T, 1, none⟩) (Nat.le_refl _) _
  clear hb2 x2 f2 c4 h1 h2 h7 x1
  go_wp2
  go_end0
  exact ⟨rfl, ⟨_, HT3.out⟩, HK3.out, HB3.out⟩
end Go.Proofs.YtobhjmkaamjoeaaGreat
namespace Go.Proofs.YtobhjmkaamjoeaaGreat
set_option maxRecDepth 100000
open Go.RowKit
set_option linter.unusedVariables false
set_option linter.unusedSimpArgs false

/-- The boxes that each makes: the foot, whether all was right. -/
abbrev tboxW (w : World) (F : ByteArray) (ok : Bool) : World := (w.alloc (.cells #[.string F] 9)).alloc (.cells #[.bool ok] 4)
theorem tbox_start (w : World) (F : ByteArray) (ok : Bool) : NS w.heap.size (w.heap.size + 1) (tboxW w F ok) F ok ∧ Below w.heap.size w (tboxW w F ok) ∧ (tboxW w F ok).heap.size = w.heap.size + 2 := by
  have h0 : (tboxW w F ok).heap[w.heap.size]? = some (.cells #[.string F] 9 (0, 0)) := al_old (al_new w _ _ rfl)
  have h1 : (tboxW w F ok).heap[w.heap.size + 1]? = some (.cells #[.bool ok] 4 (0, 0)) := al_new _ _ _ (by simp)
  have hz : (tboxW w F ok).heap.size = w.heap.size + 2 := by simp [tboxW]
  refine ⟨⟨⟨?_, Lib.frozen_of_heap h0 0, by omega⟩, ⟨?_, Lib.frozen_of_heap h1 0, by omega⟩⟩, ((Below.refl _ _).alloc (Nat.le_refl _) _).alloc (by simp) _, hz⟩
  · rw [Lib.cell_of_heap h0]; rfl
  · rw [Lib.cell_of_heap h1]; rfl
theorem TB.up {base base' T4 T : Nat} {w : World} (h : TB base T4 T w [] (.slice none 0 0)) (hb : base ≤ base') (hw : base' ≤ w.heap.size) : TB base' T4 T w [] (.slice none 0 0) := by
  obtain ⟨h1, h2, h3, h4, h5, h6, h7⟩ := h
  exact ⟨h1, h2, h3, by omega, by omega, hw, World.ownsRow_nil _ _ _ _⟩
set_option maxHeartbeats 8000000 in
theorem teach_any (T4 T : Nat) (w : World) (s : ByteArray) (hs : s.size ≤ 16777216) (h0 : TB w.heap.size T4 T w [] (.slice none 0 0)) :
    Calls Tryz.prog 30 #[.string s, .func (.func 31) #[] #[.pointer (some ⟨T4, 0, none⟩)]] w fun e w' =>
      e = .returned (.tuple #[]) ∧ (∃ base v, TB base T4 T w' (eachL s.data.toList) v) ∧ Below T w w' := by
  have HH := Lib.hid (halves_any s w hs)
  have HT := Lib.hid h0
  have hT4 : T4 < w.heap.size := h0.2.2.2.1
  have hT : T < w.heap.size := h0.2.2.2.2.1
  have hne : T4 ≠ T := h0.2.2.1
  clear h0
  go_enter Tryz.func30, Tryz.ntmps30
  go_wp2_with fail
  refine HH.out.mono ?_
  rintro e w1 ⟨B, F, ok, rfl, hyes, hno, hB, hF, b1⟩
  obtain ⟨n, a, x, ht⟩ : ∃ n a x, tk F.data.toList 0 0 = (n, a, x) := ⟨_, _, _, rfl⟩
  have HE : Hid (eachL s.data.toList = goT n (F.data.toList.drop a) B.data.toList) := Lib.hid (by
    cases ok with
    | true => exact eachL_at (hyes rfl) ht
    | false =>
      obtain ⟨h1, rfl, rfl⟩ := hno rfl
      have h2 := ht
      rw [show tk (⟨#[]⟩ : ByteArray).data.toList 0 0 = (0, 0, (tk [] 0 0).2.2) from rfl] at h2
      obtain ⟨rfl, _⟩ := Prod.mk.inj h2
      unfold eachL
      rw [h1]
      rfl)
  have hx0 : x ≠ 0 → n = 0 := fun hx => by
    have h3 := tk_err F.data.toList 0 0 (by rw [ht]; exact hx)
    rw [ht] at h3
    exact h3.1
  have hok0 : ok = false → n = 0 := fun h => by
    obtain ⟨h1, rfl, rfl⟩ := hno h
    have h2 := ht
    rw [show tk (⟨#[]⟩ : ByteArray).data.toList 0 0 = (0, 0, (tk [] 0 0).2.2) from rfl] at h2
    exact (Prod.mk.inj h2).1.symm
  obtain ⟨r0, hr0⟩ : ∃ r0, r0 = (ok && decide (x = 0)) := ⟨_, rfl⟩
  have hrn : r0 = false → n = 0 := fun h => by
    rw [hr0] at h
    cases ok with
    | false => exact hok0 rfl
    | true => exact hx0 (by simpa using h)
  have hal := (tk_le ht).1
  rw [size_list] at hal
  have hn62 := (tk_le ht).2
  have hdr := ext_drop F a hal
  have hXs : (F.extract a F.size).size ≤ 16777216 := by rw [hdr.2]; omega
  have hBs : B.size ≤ 16777216 := by omega
  obtain ⟨q1, q2, q3⟩ := tbox_start w1 F ok
  have hnum := tnum1_any w1.heap.size w1.heap.size (w1.heap.size + 1) (by omega) (Nat.le_refl _) (Nat.le_succ _) (tboxW w1 F ok) (by omega) F (by omega) ok q1 n a x ht
  rw [← hr0] at hnum
  have HN := Lib.hid hnum
  rw [← hdr.1] at HE
  have HTB : Hid (TB (w1.heap.size + 2) T4 T (tboxW w1 F ok) [] (.slice none 0 0)) := Lib.hid (((HT.out.old b1).old q2).up (Nat.le_trans b1.size (by omega)) (by omega))
  have HB1 : Hid (Below T w (tboxW w1 F ok)) := Lib.hid ((b1.mono (Nat.le_of_lt hT)).trans (q2.mono (by have := b1.size; omega)))
  have hw1 : w.heap.size ≤ w1.heap.size := b1.size
  have HQ := Lib.hid q3
  clear hyes hno b1 ht hx0 hok0 hr0 hdr q1 q2 q3 hnum HT HH
  go_wp2_with fail
  refine HN.out.mono ?_
  rintro e w2 ⟨rfl, n2, k2, b2⟩
  have KN := Lib.hid n2
  have KT := Lib.hid (HTB.out.keep k2 (by unfold SR; omega) (by unfold SR; omega) (fun g hg => by unfold SR; omega))
  have KB := Lib.hid (HB1.out.trans (b2.mono (by omega)))
  have hw2 : w1.heap.size + 2 ≤ w2.heap.size := by have := k2.2; rw [HQ.out] at this; exact this
  obtain ⟨X0, hX0⟩ : ∃ X0, X0 = F.extract a F.size := ⟨_, rfl⟩
  rw [← hX0] at KN HE hXs
  clear n2 k2 b2 HN HTB HB1 hX0 HQ hal hF
  go_wp2
  go_loopw [4, 9, 10, 11, 22] (fun vB _ _ _ i wr => ∃ (k : Nat) (B X : ByteArray) (r : Bool) (ts : List Ent) (v : Value), vB = .string B ∧ i = .int .i64 k ∧ k ≤ n ∧ X.size ≤ 16777216 ∧ B.size ≤ 16777216 ∧ (r = false → k = n) ∧ Hid (ts.length ≤ 4096 * (16777216 - B.size)) ∧
    Hid (NS w1.heap.size (w1.heap.size + 1) wr X r) ∧ Hid (TB (w1.heap.size + 2) T4 T wr ts v) ∧ Hid (Below T w wr) ∧ w1.heap.size + 2 ≤ wr.heap.size ∧ Hid (eachL s.data.toList = ts ++ goT (n - k) X.data.toList B.data.toList)) (fun _ _ _ _ i _ => n - (intOf i).toNat)
  case atStart => exact ⟨0, B, X0, r0, [], _, rfl, rfl, by omega, hXs, hBs, (fun h => (hrn h).symm), Lib.hid (by simp), KN, KT, KB, hw2, Lib.hid (by rw [HE.out]; rfl)⟩
  case round =>
    clear KN KT KB HE hw2 hXs hBs hrn
    obtain ⟨k, B, X, r, ts, v, rfl, rfl, hk, hXs, hBs, hrk, HL, KN, KT, KB, hws, HE⟩ := hrel
    by_cases hlt : k < n
    · have hki : (k : Int) < (n : Int) := by omega
      obtain rfl : r = true := by cases r with | true => rfl | false => have := hrk rfl; omega
      obtain ⟨t, a, x, ht⟩ : ∃ t a x, ttR X.data.toList = (t, a, x) := ⟨_, _, _, rfl⟩
      have hal := (ttR_le ht).1
      rw [size_list] at hal
      obtain ⟨m, c, y, hm⟩ : ∃ m c y, tk (X.data.toList.drop a) 0 0 = (m, c, y) := ⟨_, _, _, rfl⟩
      have hdr := ext_drop X a hal
      have hX1 : (X.extract a X.size).size ≤ 16777216 := by rw [hdr.2]; omega
      obtain ⟨X1, hX1e⟩ : ∃ X1, X1 = X.extract a X.size := ⟨_, rfl⟩
      rw [← hX1e] at hdr hX1
      have hm1 : tk X1.data.toList 0 0 = (m, c, y) := by rw [hdr.1]; exact hm
      have hcl := (tk_le hm1).1
      rw [size_list] at hcl
      have hm62 := (tk_le hm1).2
      have hdr2 := ext_drop X1 c hcl
      have hX2 : (X1.extract c X1.size).size ≤ 16777216 := by rw [hdr2.2]; omega
      have HSK := Lib.hid (tskip_any T w1.heap.size (w1.heap.size + 1) (by omega) (by omega) (by omega) wr (by omega) X hXs true KN.out t a x ht)
      rw [← hX1e, Bool.true_and] at HSK
      have HNU := Lib.hid fun (wx : World) (hz : T ≤ wx.heap.size) (h : NS w1.heap.size (w1.heap.size + 1) wx X1 (decide (x = 0))) => tnum1_any T w1.heap.size (w1.heap.size + 1) (by omega) (by omega) (by omega) wx hz X1 hX1 (decide (x = 0)) h m c y hm1
      have H1 := Lib.hid ht
      have H2 := Lib.hid hm
      have HD : Hid (((X.data.toList.drop a).drop c) = (X1.extract c X1.size).data.toList) := Lib.hid (by rw [hdr2.1, hdr.1])
      clear ht hm hm1 hdr hdr2 hX1e
      go_wp2_with fail
      refine HSK.out.mono ?_
      rintro e w3 ⟨rfl, n3, k3, b3⟩
      have KT3 := Lib.hid (KT.out.keep k3 (by unfold SR; omega) (by unfold SR; omega) (fun g hg => by unfold SR; omega))
      have KB3 := Lib.hid (KB.out.trans b3)
      have hw3 := k3.2
      have HN3 := Lib.hid (HNU.out w3 (by omega) n3)
      clear n3 k3 b3 KN KT KB HSK HNU
      go_wp2_with fail
      refine HN3.out.mono ?_
      rintro e w4 ⟨rfl, n4, k4, b4⟩
      have KT4 := Lib.hid (KT3.out.keep k4 (by unfold SR; omega) (by unfold SR; omega) (fun g hg => by unfold SR; omega))
      have KB4 := Lib.hid (KB3.out.trans b4)
      have hw4 := k4.2
      obtain ⟨r4, hr4⟩ : ∃ r4, r4 = (decide (x = 0) && decide (y = 0)) := ⟨_, rfl⟩
      rw [← hr4] at n4
      have KN4 := Lib.hid n4
      have HR4 := Lib.hid hr4
      obtain ⟨⟨c1, c2, c3⟩, ⟨d1, d2, d3⟩⟩ := n4
      clear k4 b4 KT3 KB3 HN3 hr4
      have hnk : n - k = (n - (k + 1)) + 1 := by omega
      by_cases hgood : r4 = true ∧ m ≤ B.size
      · obtain ⟨rfl, hmB⟩ := hgood
        have hmi : (m : Int) ≤ (B.size : Int) := by omega
        have hm0 : (0 : Int) ≤ (m : Int) := by omega
        have HXY : Hid (x = 0 ∧ y = 0) := Lib.hid (by have := HR4.out; simpa using this.symm)
        have hbx : (B.extract 0 m).data.toList = B.data.toList.take m := by rw [Lib.extract_data]; simp
        have hbz : (B.extract 0 m).size = m := by rw [ByteArray.size_extract]; omega
        have HTK := Lib.hid (take9_any (B.extract 0 m) w4 (by rw [hbz]; omega))
        rw [hbx] at HTK
        have hdB := ext_drop B m hmB
        have HBX := Lib.hid hbz
        have HDB := Lib.hid hdB
        clear hbx hbz hdB
        go_wp2_with fail
        refine HTK.out.mono ?_
        rintro e w5 ⟨a5, m5, cap5, es, rfl, hl5, hrd, hyes, hno, b5⟩
        have KT5 := Lib.hid (KT4.out.old b5)
        have KN5 := Lib.hid (KN4.out.old b5)
        have KB5 := Lib.hid (KB4.out.trans (b5.mono (by omega)))
        have hw5 := b5.size
        have HRD := Lib.hid hrd
        have HL5 := Lib.hid hl5
        cases ho : takeB (B.data.toList.take m) with
        | none =>
          have HEN : Hid (eachL s.data.toList = ts) := Lib.hid (by
            rw [HE.out, hnk, goT_none (t := t) (by rw [H1.out, HXY.out.1]) (by rw [H2.out, HXY.out.2]) ho, List.append_nil])
          rw [ho] at hno
          obtain ⟨rfl, rfl, rfl⟩ := hno rfl
          clear hyes hno b5 hrd ho hl5 c1 c2 c3 d1 d2 d3
          rw [if_pos rfl]
          go_wp2
          refine bodyPost_ret (results_none rfl _ _ _) rfl ?_
          exact ⟨rfl, ⟨_, v, by rw [HEN.out]; exact KT5.out⟩, KB5.out⟩
        | some fs =>
          obtain rfl := hyes fs ho
          have htl := takeB_len ho
          rw [List.length_take] at htl
          have HEY : Hid (eachL s.data.toList = (ts ++ es) ++ goT (n - (k + 1)) (X1.extract c X1.size).data.toList (B.extract m B.size).data.toList) := Lib.hid (by
            rw [HE.out, hnk, goT_yes (t := t) (m := m) (by rw [H1.out, HXY.out.1]) (by rw [H2.out, HXY.out.2]) (by rw [size_list]; exact hmB) ho, HD.out, HDB.out.1, List.append_assoc])
          have hlen : ts.length + m5 ≤ 4096 * (16777216 - (B.extract m B.size).size) := by
            have := HL.out
            rw [HDB.out.2]
            rw [size_list] at htl
            have := htl.1
            have h4 := htl.2.1
            omega
          have hl40 : ts.length + m5 ≤ 1099511627776 := by omega
          have HLN := Lib.hid hlen
          have hBz : (B.extract m B.size).size ≤ 16777216 := by rw [HDB.out.2]; omega
          clear hyes hno b5 hrd ho htl hlen hl5 c1 c2 c3 d1 d2 d3
          rw [if_neg (by simp)]
          go_wp2_with fail
          refine (ttell_any (w1.heap.size + 2) T4 T _ a5 m5 cap5 es ts v HL5.out HRD.out KT5.out hl40).mono ?_
          rintro e w6 ⟨rfl, ⟨v6, t6⟩, k6, b6⟩
          have KT6 := Lib.hid t6
          have KN6 := Lib.hid (KN5.out.keep k6 (by unfold TU; omega) (by unfold TU; omega))
          have KB6 := Lib.hid (KB5.out.trans (b6 (by omega)))
          have hw6 := k6.2
          clear t6 k6 b6 KT5 KN5 KB5 HRD
          go_wp2
          go_roundw
          case rel => exact ⟨k + 1, _, _, true, ts ++ es, v6, rfl, by go_num, by omega, hX2, hBz, (fun h => by cases h), Lib.hid (by rw [List.length_append, HL5.out]; exact HLN.out), KN6, KT6, KB6, by omega, HEY⟩
          case measure => simp [intOf]; omega
      · have HEN : Hid (eachL s.data.toList = ts) := Lib.hid (by
          rw [HE.out, hnk, goT_no H1.out H2.out (by
            rintro ⟨h1, h2, h3⟩
            rw [size_list] at h3
            refine hgood ⟨?_, h3⟩
            rw [HR4.out, h1, h2]
            rfl), List.append_nil])
        cases r4 with
        | false =>
          clear hgood
          go_wp2
          refine bodyPost_ret (results_none rfl _ _ _) rfl ?_
          exact ⟨rfl, ⟨_, v, by rw [HEN.out]; exact KT4.out⟩, KB4.out⟩
        | true =>
          have hmB : ¬ m ≤ B.size := fun h => hgood ⟨rfl, h⟩
          have hmi : (B.size : Int) < (m : Int) := by omega
          clear hgood
          go_wp2
          refine bodyPost_ret (results_none rfl _ _ _) rfl ?_
          exact ⟨rfl, ⟨_, v, by rw [HEN.out]; exact KT4.out⟩, KB4.out⟩
    · obtain rfl : k = n := by omega
      have HEN : Hid (eachL s.data.toList = ts) := Lib.hid (by rw [HE.out, Nat.sub_self, goT, List.append_nil])
      go_wp2
      go_end0
      exact ⟨rfl, ⟨_, v, by rw [HEN.out]; exact KT.out⟩, KB.out⟩
end Go.Proofs.YtobhjmkaamjoeaaGreat
namespace Go.Proofs.YtobhjmkaamjoeaaGreat
set_option maxRecDepth 100000
open Go.RowKit
set_option linter.unusedVariables false
set_option linter.unusedSimpArgs false

/-- A table that Open gave. -/
def TabAt (w : World) (T : Nat) (es : List Ent) : Prop := ∃ (a : Option Addr) (cap : Nat),
  w.heap[T]? = some (.cells #[.pointer (some ⟨T, 0, none⟩), .slice a es.length cap, .string ⟨(makeL (keysT es)).toArray⟩] 58 (0, 0)) ∧ RdE w a es ∧ es.length ≤ cap ∧ okT es = true
theorem TabAt.old {w w' : World} {T : Nat} {es : List Ent} (h : TabAt w T es) (hb : Below w.heap.size w w') : TabAt w' T es := by
  obtain ⟨a, cap, h1, h2, h3, h4⟩ := h
  exact ⟨a, cap, (hb.block T (heap_lt h1)).trans h1, h2.old hb, h3, h4⟩
/-- A table in the making, with what its fields hold. -/
def TC (base T4 T : Nat) (w : World) (ts : List Ent) (v p : Value) (bits : ByteArray) : Prop :=
  w.cell? ⟨T4, 0, none⟩ = some (.pointer (some ⟨T, 0, none⟩)) ∧ w.heap[T]? = some (.cells #[p, v, .string bits] 58 (0, 0)) ∧ T4 ≠ T ∧ T4 < base ∧ T < base ∧ base ≤ w.heap.size ∧ w.ownsRow base 41 4 v ts.length (ev4 ts)
theorem TC.old {base T4 T : Nat} {w w' : World} {ts : List Ent} {v p : Value} {bits : ByteArray} (h : TC base T4 T w ts v p bits) (hb : Below w.heap.size w w') : TC base T4 T w' ts v p bits := by
  obtain ⟨h1, h2, h3, h5, h6, h7, h8⟩ := h
  exact ⟨(hb.cell (p := ⟨T4, 0, none⟩) (show T4 < w.heap.size by omega)).trans h1, (hb.block T (by omega)).trans h2, h3, h5, h6, Nat.le_trans h7 hb.size, below_own h8 hb⟩
theorem TC.bits {base T4 T : Nat} {w : World} {ts : List Ent} {v p : Value} {bits : ByteArray} (h : TC base T4 T w ts v p bits) (s : ByteArray) : TC base T4 T (w.setCell ⟨T, 2, none⟩ (.string s)) ts v p s := by
  obtain ⟨h1, h2, h3, h5, h6, h7, h8⟩ := h
  exact ⟨(World.cell?_setCell_other _ _ _ _ (by intro h; simp only [Addr.mk.injEq] at h; omega)).trans h1, by simp [World.setCell, Array.getElem?_modify, h2], h3, h5, h6, by simpa using h7, ownsRow_setCell_below h8 (a := ⟨T, 2, none⟩) h6 _⟩
theorem TC.self {base T4 T : Nat} {w : World} {ts : List Ent} {v p : Value} {bits : ByteArray} (h : TC base T4 T w ts v p bits) (q : Value) : TC base T4 T (w.setCell ⟨T, 0, none⟩ q) ts v q bits := by
  obtain ⟨h1, h2, h3, h5, h6, h7, h8⟩ := h
  exact ⟨(World.cell?_setCell_other _ _ _ _ (by intro h; simp only [Addr.mk.injEq] at h; omega)).trans h1, by simp [World.setCell, Array.getElem?_modify, h2], h3, h5, h6, by simpa using h7, ownsRow_setCell_below h8 (a := ⟨T, 0, none⟩) h6 _⟩
theorem TC.parts {base T4 T n cap : Nat} {a : Option Addr} {w : World} {ts : List Ent} {p : Value} {bits : ByteArray} (h : TC base T4 T w ts (.slice a n cap) p bits) :
    (w.cell? ⟨T4, 0, none⟩ = some (.pointer (some ⟨T, 0, none⟩)) ∧ T4 < w.heap.size) ∧ (w.cell? ⟨T, 0, none⟩ = some p ∧ w.cell? ⟨T, 1, none⟩ = some (.slice a n cap) ∧ w.cell? ⟨T, 2, none⟩ = some (.string bits)) ∧ (w.frozen? ⟨T, 0, none⟩ = false ∧ w.frozen? ⟨T, 2, none⟩ = false) ∧ T < w.heap.size ∧ RdE w a ts := by
  obtain ⟨h1, h2, h3, h5, h6, h7, h8⟩ := h
  have hn := own_form h8 (by decide)
  obtain ⟨a', cap', he⟩ := hn
  injection he with e1 e2 e3
  subst e2
  refine ⟨⟨h1, by omega⟩, ⟨?_, ?_, ?_⟩, ⟨Lib.frozen_of_heap h2 0, Lib.frozen_of_heap h2 2⟩, by omega, own_rde h8 rfl⟩
  · rw [Lib.cell_of_heap h2]; rfl
  · rw [Lib.cell_of_heap h2]; rfl
  · rw [Lib.cell_of_heap h2]; rfl
theorem TC.len {base T4 T n cap : Nat} {a : Option Addr} {w : World} {ts : List Ent} {p : Value} {bits : ByteArray} (h : TC base T4 T w ts (.slice a n cap) p bits) : ts.length = n ∧ n ≤ cap := by
  obtain ⟨_, _, _, _, _, _, h8⟩ := h
  obtain ⟨a', cap', he⟩ := own_form h8 (by decide)
  injection he with e1 e2 e3
  refine ⟨e2.symm, ?_⟩
  rcases h8.2 with ⟨h, hz⟩ | ⟨g, c, cur, hv, _, _, hnc, _⟩
  · injection h with _ h2 _; omega
  · injection hv with _ h2 h3; omega
/-- What Open leaves. -/
def OP (o : Option (List Ent)) (w : World) (e : Ending) (w' : World) : Prop :=
  (∀ es, o = some es → ∃ T, e = .returned (.tuple #[.pointer (some ⟨T, 0, none⟩), .int .i64 0]) ∧ TabAt w' T es ∧ w.heap.size ≤ T) ∧ (o = none → e = .returned (.tuple #[.pointer none, .int .i64 100])) ∧ Below w.heap.size w w'
theorem OP.no {o : Option (List Ent)} {w w' : World} {e : Ending} (ho : o = none) (he : e = .returned (.tuple #[.pointer none, .int .i64 100])) (hb : Below w.heap.size w w') : OP o w e w' :=
  ⟨fun es h => (by rw [ho] at h; cases h), fun _ => he, hb⟩
theorem OP.yes {o : Option (List Ent)} {w w' : World} {e : Ending} {es : List Ent} {T : Nat} (ho : o = some es) (he : e = .returned (.tuple #[.pointer (some ⟨T, 0, none⟩), .int .i64 0])) (ht : TabAt w' T es) (hT : w.heap.size ≤ T) (hb : Below w.heap.size w w') : OP o w e w' :=
  ⟨fun fs h => (by rw [ho] at h; cases h; exact ⟨T, he, ht, hT⟩), fun h => (by rw [ho] at h; cases h), hb⟩
theorem bits_le {es : List Ent} (h : okT es = true) : (⟨(makeL (keysT es)).toArray⟩ : ByteArray).size ≤ 8192 := by
  obtain ⟨hne, hok⟩ := okT_iff.1 h
  have h4 := okB_len4 hok
  have h1 := nBytes_le (keysT es).length
  have h2 := keysG_length es none
  have h3 : (keysT es).length = (keysG none es).length := rfl
  rw [size_mkl, makeL_length]
  omega
set_option maxHeartbeats 8000000 in
theorem topen_any (s : ByteArray) (w : World) (hs : s.size ≤ 16777216) : Calls Tryz.prog 10 #[.string s] w (OP (openT s.data.toList) w) := by
  obtain ⟨W0, hW0⟩ : ∃ W0, W0 = ((w.alloc (.cells #[.pointer none, .slice none 0 0, .string ⟨#[]⟩] 58)).alloc (.cells #[.pointer (some ⟨w.heap.size, 0, none⟩)] 29)) := ⟨_, rfl⟩
  have hz : W0.heap.size = w.heap.size + 2 := by rw [hW0]; simp
  have ht0 : TB W0.heap.size (w.heap.size + 1) w.heap.size W0 [] (.slice none 0 0) := by
    rw [hz]
    refine ⟨?_, ?_, by omega, by omega, by omega, by omega, World.ownsRow_nil _ _ _ _⟩
    · rw [hW0, Lib.cell_of_heap (al_new _ _ _ (by simp))]; rfl
    · rw [hW0]; exact al_old (al_new _ _ _ rfl)
  have HE := Lib.hid (teach_any (w.heap.size + 1) w.heap.size W0 s hs ht0)
  have HB0 : Hid (Below w.heap.size w W0) := Lib.hid (by rw [hW0]; exact ((Below.refl _ w).alloc (Nat.le_refl _) _).alloc (by simp) _)
  have HO := Lib.hid (open_each s.data.toList)
  have hok := eachL_ok s.data.toList
  rw [size_list] at hok
  rw [hW0] at HE HB0
  clear hW0 hz ht0 W0
  go_enter Tryz.func10, Tryz.ntmps10
  go_wp2_with fail
  refine HE.out.mono ?_
  rintro e w2 ⟨rfl, ⟨base, v, tb⟩, b2⟩
  obtain ⟨es, hes⟩ : ∃ es, es = eachL s.data.toList := ⟨_, rfl⟩
  rw [← hes] at tb HO hok
  have HT : Hid (TC base (w.heap.size + 1) w.heap.size w2 es v (.pointer none) ⟨#[]⟩) := Lib.hid tb
  obtain ⟨a, cap, rfl⟩ := own_form HT.out.2.2.2.2.2.2 (by decide)
  have HW := Lib.hid (HB0.out.trans b2)
  obtain ⟨n, hn⟩ : ∃ n, n = es.length := ⟨_, rfl⟩
  rw [← hn] at HT hok
  have hn2 : n ≤ 68719476736 := by omega
  obtain ⟨r, hr⟩ : ∃ r, okT es = r := ⟨_, rfl⟩
  obtain ⟨⟨t1, t2⟩, ⟨t3, t4, t5⟩, ⟨t6, t7⟩, t8, t9⟩ := HT.out.parts
  have HM := Lib.hid (tmay_any a n cap es w2 (by omega) hn.symm t9 hok.2 r hr)
  have HR := Lib.hid hr
  have HN := Lib.hid hn
  clear tb b2 hes hok hr t3 t5 t6 t7 t9 HE HB0 hn
  go_wp2_with fail
  refine HM.out.mono ?_
  rintro e w3 ⟨rfl, b3⟩
  have HT3 := Lib.hid (HT.out.old b3)
  have HW3 := Lib.hid (HW.out.trans (b3.mono HW.out.size))
  clear b3 t1 t2 t4 t8 HT HW HM
  cases r with
  | false =>
    have HN0 : Hid (openT s.data.toList = none) := Lib.hid (by rw [HO.out, if_neg]; rintro ⟨h, _⟩; rw [HR.out] at h; cases h)
    go_wp2
    go_ret2
    exact OP.no HN0.out rfl HW3.out
  | true =>
    obtain ⟨⟨t1, t2⟩, ⟨t3, t4, t5⟩, ⟨t6, t7⟩, t8, t9⟩ := HT3.out.parts
    have HBT := Lib.hid fun (wx : World) (hx : Below w3.heap.size w3 wx) => tbits_any a n cap es wx HN.out.symm (t9.old hx) HR.out
    have hs3 := HW3.out.size
    clear t3 t5 t6 t7 t9
    go_wp2
    refine below_tail 8 (by kernel_rfl) (by kernel_rfl) ?_
    simp only [List.take_succ_cons, List.take_zero, List.drop_succ_cons, List.drop_zero]
    repeat (first
      | go_big_quiet_skip
      | (go_big_quiet_want
         first
         | (refine BigFrame.quiet_move _ rfl ?_)
         | (refine BigFrame.quiet_assign _ rfl ?_)
         | (unfold Oper.quiet
            apply Exists.intro
            refine ⟨fun w' hw' => ?_, ?_⟩
            · (obtain ⟨hc', hf'⟩ := bcell hw'
               go_simp
               first
               | done
               | exact rfl
               | (go_at_call 20; (with_reducible refine (HBT.out _ hw').mono ?_); rintro e w'' ⟨rfl, bb⟩; exact ⟨rfl, by first | exact bt hw' bb | simpa using bt hw' bb⟩)))
         go_big_quiet_on
         simp only [Act.put, Act.eval, List.setIfInBounds_toArray, List.set_cons_zero, List.set_cons_succ, Array.getD_eq_getD_getElem?, List.getElem?_toArray, List.getElem?_cons_zero, List.getElem?_cons_succ, Option.getD_some]))
    refine wpQuiet_nil ?_
    intro w' hw'
    have HT4 := Lib.hid (HT3.out.old hw')
    have HW4 := Lib.hid (HW3.out.trans (hw'.mono hs3))
    have HT5 := Lib.hid (HT4.out.bits ⟨(makeL (keysT es)).toArray⟩)
    have HW5 := Lib.hid (HW4.out.setCell (p := ⟨w.heap.size, 2, none⟩) (Nat.le_refl _) (.string ⟨(makeL (keysT es)).toArray⟩))
    have hs4 := HW4.out.size
    have hBL := bits_le HR.out
    have hlc := HT5.out.len
    clear t1 t2 t4 t8
    obtain ⟨⟨t1, t2⟩, ⟨t3, t4, t5⟩, ⟨t6, t7⟩, t8, t9⟩ := HT4.out.parts
    clear t3 t6 t9 hw' HT3 HW3 HBT hs3 HT4 HW4
    go_wp2
    obtain ⟨bb, hbb⟩ : ∃ bb : ByteArray, bb = ⟨(makeL (keysT es)).toArray⟩ := ⟨_, rfl⟩
    rw [← hbb] at HT5 HW5 hBL ⊢
    clear t1 t2 t4 t5 t7 t8
    generalize w'.setCell { block := w.heap.size, off := 2 } (Value.string bb) = W5 at HT5 HW5 ⊢
    obtain ⟨⟨t1, t2⟩, ⟨t3, t4, t5⟩, ⟨t6, t7⟩, t8, t9⟩ := HT5.out.parts
    have HWR := Lib.hid fun (wx : World) (hx : Below W5.heap.size W5 wx) => twr_any a n cap es bb wx HN.out.symm hlc.2 (t9.old hx) HR.out hbb
    have hs5 := HW5.out.size
    have hml := buildT_len (okT_iff.1 HR.out).2
    obtain ⟨BL, hBLe⟩ : ∃ BL : ByteArray, BL = ⟨(buildT es).toArray⟩ := ⟨_, rfl⟩
    rw [← hBLe] at HWR
    have HBB := Lib.hid (And.intro hbb hBLe)
    clear hbb hBLe t3 t6 t7 t9 hlc hBL hml hs4
    by_cases heq : BL = s
    · have HY : Hid (openT s.data.toList = some es) := Lib.hid (by
        rw [HO.out, if_pos ⟨HR.out, by rw [← heq, HBB.out.2]⟩])
      have hbq : (BL.toList == s.toList) = true := by rw [heq]; simp
      refine wp_region_below (by kernel_rfl) (by kernel_rfl) ?_
      repeat (first
        | go_big_quiet_skip
        | (go_big_quiet_want
           first
           | (refine BigFrame.quiet_move _ rfl ?_)
           | (refine BigFrame.quiet_assign _ rfl ?_)
           | (unfold Oper.quiet
              apply Exists.intro
              refine ⟨fun w' hw' => ?_, ?_⟩
              · (obtain ⟨hc', hf'⟩ := bcell hw'
                 go_simp
                 first
                 | done
                 | exact rfl
                 | (go_at_call 19; (with_reducible refine (HWR.out _ hw').mono ?_); rintro e w'' ⟨rfl, bb⟩; exact ⟨rfl, by first | exact bt hw' bb | simpa using bt hw' bb⟩)))
           go_big_quiet_on
           simp only [Act.put, Act.eval, List.setIfInBounds_toArray, List.set_cons_zero, List.set_cons_succ, Array.getD_eq_getD_getElem?, List.getElem?_toArray, List.getElem?_cons_zero, List.getElem?_cons_succ, Option.getD_some]))
      refine wpQuiet_nil ?_
      intro w' hw'
      have HT6 := Lib.hid (HT5.out.old hw')
      have HW6 := Lib.hid (HW5.out.trans (hw'.mono hs5))
      clear t1 t2 t4 t5 t8 hw' HT5 HW5
      obtain ⟨⟨t1, t2⟩, ⟨t3, t4, t5⟩, ⟨t6, t7⟩, t8, t9⟩ := HT6.out.parts
      have HT7 := Lib.hid (HT6.out.self (.pointer (some ⟨w.heap.size, 0, none⟩)))
      have HW7 := Lib.hid (HW6.out.setCell (p := ⟨w.heap.size, 0, none⟩) (Nat.le_refl _) (.pointer (some ⟨w.heap.size, 0, none⟩)))
      clear t9
      go_wp2
      go_ret2
      refine OP.yes HY.out rfl ⟨a, cap, ?_, HT7.out.parts.2.2.2.2, ?_, HR.out⟩ (Nat.le_refl _) HW7.out
      · rw [← HN.out, ← HBB.out.1]; exact HT7.out.2.1
      · rw [← HN.out]; exact HT7.out.len.2
    · have HNN : Hid (openT s.data.toList = none) := Lib.hid (by
        rw [HO.out, if_neg]
        rintro ⟨_, h⟩
        refine heq ?_
        rw [HBB.out.2, h])
      have hbq : (BL.toList == s.toList) = false := by
        rw [beq_eq_false_iff_ne]
        intro h
        exact heq (ba_ext h)
      refine wp_region_below (by kernel_rfl) (by kernel_rfl) ?_
      repeat (first
        | go_big_quiet_skip
        | (go_big_quiet_want
           first
           | (refine BigFrame.quiet_move _ rfl ?_)
           | (refine BigFrame.quiet_assign _ rfl ?_)
           | (unfold Oper.quiet
              apply Exists.intro
              refine ⟨fun w' hw' => ?_, ?_⟩
              · (obtain ⟨hc', hf'⟩ := bcell hw'
                 go_simp
                 first
                 | done
                 | exact rfl
                 | (go_at_call 19; (with_reducible refine (HWR.out _ hw').mono ?_); rintro e w'' ⟨rfl, bb⟩; exact ⟨rfl, by first | exact bt hw' bb | simpa using bt hw' bb⟩)))
           go_big_quiet_on
           simp only [Act.put, Act.eval, List.setIfInBounds_toArray, List.set_cons_zero, List.set_cons_succ, Array.getD_eq_getD_getElem?, List.getElem?_toArray, List.getElem?_cons_zero, List.getElem?_cons_succ, Option.getD_some]))
      refine wpQuiet_nil ?_
      intro w' hw'
      have HW6 := Lib.hid (HW5.out.trans (hw'.mono hs5))
      clear t1 t2 t4 t5 t8 hw'
      go_wp2
      go_ret2
      exact OP.no HNN.out rfl HW6.out
end Go.Proofs.YtobhjmkaamjoeaaGreat
namespace Go.Proofs.YtobhjmkaamjoeaaGreat
set_option maxRecDepth 100000
open Go.RowKit
set_option linter.unusedVariables false
set_option linter.unusedSimpArgs false

/-! ### plain -/
theorem less_le {a b : Ent} (h : lessE a b = true) : ltB b.1 a.1 = false := by
  by_cases hk : a.1 = b.1
  · rw [hk]; exact ltB_irr _
  · rw [less_key hk] at h; exact ltB_asymm h
theorem keys_up {p : Ent} {es : List Ent} (hc : chainE p es = true) : ∀ i j (hj : j < es.length) (hij : i ≤ j), ltB es[j].1 (es[i]'(by omega)).1 = false := by
  intro i j hj hij
  rcases Nat.lt_or_ge i j with h | h
  · have h1 := chain_drop i (by omega) hc
    refine less_le (chain_ahead h1 es[j] ?_)
    rw [List.mem_iff_getElem]
    refine ⟨j - (i + 1), by rw [List.length_drop]; omega, ?_⟩
    rw [List.getElem_drop]
    congr 1
    omega
  · obtain rfl : i = j := by omega
    exact ltB_irr _
/-- From which entry on keys do not stand ahead of a key. -/
def FN (es : List Ent) (key : ByteArray) (k : Nat) : Prop := k ≤ es.length ∧ (∀ j (h : j < es.length), j < k → ltB es[j].1 key = true) ∧ (∀ h : k < es.length, ltB es[k].1 key = false)
theorem FN.same {es : List Ent} {key : ByteArray} {k k' : Nat} (h : FN es key k) (h' : FN es key k') : k = k' := by
  obtain ⟨a1, a2, a3⟩ := h
  obtain ⟨b1, b2, b3⟩ := h'
  rcases Nat.lt_trichotomy k k' with h | h | h
  · have h1 := a3 (by omega)
    rw [b2 k (by omega) h] at h1
    cases h1
  · exact h
  · have h1 := b3 (by omega)
    rw [a2 k' (by omega) h] at h1
    cases h1
/-- How many of entries are the first ones: at least so many, and all of the last one's key. -/
def WN (l : List Ent) (m n : Nat) : Prop := min m l.length ≤ n ∧ n ≤ l.length ∧ (∀ j (h : j < l.length), min m l.length ≤ j → j < n → l[j].1 = (l[j - 1]'(by omega)).1) ∧ (∀ h : n < l.length, ¬ l[n].1 = (l[n - 1]'(by omega)).1)
theorem WN.same {l : List Ent} {m n n' : Nat} (h : WN l m n) (h' : WN l m n') : n = n' := by
  obtain ⟨a1, a2, a3, a4⟩ := h
  obtain ⟨b1, b2, b3, b4⟩ := h'
  rcases Nat.lt_trichotomy n n' with h | h | h
  · exact absurd (b3 n (by omega) a1 h) (a4 (by omega))
  · exact h
  · exact absurd (a3 n' (by omega) b1 h) (b4 (by omega))
/-- What Chunk answers: the entries, and the key behind them. -/
def CK (es : List Ent) (key : ByteArray) (m : Nat) (c : List Ent) (next : ByteArray) : Prop := ∃ k n, FN es key k ∧ WN (es.drop k) m n ∧ c = (es.drop k).take n ∧ next = if h : k + n < es.length then es[k + n].1 else ⟨#[]⟩
theorem CK.same {es : List Ent} {key : ByteArray} {m : Nat} {c c' : List Ent} {x x' : ByteArray} (h : CK es key m c x) (h' : CK es key m c' x') : c = c' ∧ x = x' := by
  obtain ⟨k, n, a1, a2, a3, a4⟩ := h
  obtain ⟨k', n', b1, b2, b3, b4⟩ := h'
  obtain rfl := a1.same b1
  obtain rfl := a2.same b2
  exact ⟨a3.trans b3.symm, a4.trans b4.symm⟩

/-! ### tables -/
/-- A table's pointer: one that Open gave, or not. -/
def TP (w : World) (v : Value) (es : List Ent) (g : Bool) : Prop :=
  (g = true ∧ ∃ T, v = .pointer (some ⟨T, 0, none⟩) ∧ TabAt w T es) ∨
  (g = false ∧ es = [] ∧ (v = .pointer none ∨ ∃ T, v = .pointer (some ⟨T, 0, none⟩) ∧ w.heap[T]? = some (.cells #[.pointer none, .slice none 0 0, .string ⟨#[]⟩] 58 (0, 0))))
theorem TP.old {w w' : World} {v : Value} {es : List Ent} {g : Bool} (h : TP w v es g) (hb : Below w.heap.size w w') : TP w' v es g := by
  rcases h with ⟨hg, T, hv, ht⟩ | ⟨hg, he, hv⟩
  · exact .inl ⟨hg, T, hv, ht.old hb⟩
  · refine .inr ⟨hg, he, ?_⟩
    rcases hv with hv | ⟨T, hv, ht⟩
    · exact .inl hv
    · exact .inr ⟨T, hv, (hb.block T (heap_lt ht)).trans ht⟩
theorem TP.ok {w : World} {v : Value} {es : List Ent} {g : Bool} (h : TP w v es g) : okB es = true := by
  rcases h with ⟨_, T, _, a, cap, _, _, _, h⟩ | ⟨_, rfl, _⟩
  · exact (okT_iff.1 h).2
  · rfl
theorem infoTbl : (Tryz.prog.info? 58).map (·.size) = some 3 := by kernel_rfl
theorem ptrT_same (a : Addr) (w : World) : (binOp .eql 29 (.pointer (some a)) (.pointer (some a))).run Tryz.prog w = .ok (.bool true) w := by
  obtain ⟨j, hj, _⟩ := Option.map_eq_some_iff.1 infoTbl
  exact run_eql_ptr_same w a Tryz.underlying29 hj
theorem ptrT_nil (a : Addr) (w : World) : (binOp .eql 29 (.pointer none) (.pointer (some a))).run Tryz.prog w = .ok (.bool false) w := by
  have h : ∀ d : Nat, (Op.equalIn (d + 1) 29 (.pointer none) (.pointer (some a))).run Tryz.prog w = .ok false w := fun d => by
    simp [Op.equalIn, run_underlying Tryz.underlying29]
  simp only [binOp]
  simp [Op.equal, Op.maxDepth, h 9999]
set_option maxHeartbeats 1000000 in
theorem given_any (v : Value) (es : List Ent) (g : Bool) (w : World) (h : TP w v es g) : Calls Tryz.prog 40 #[v] w fun e w' => e = .returned (.bool g) ∧ w' = w := by
  rcases h with ⟨rfl, T, rfl, a, cap, h1, _⟩ | ⟨rfl, rfl, rfl | ⟨T, rfl, h1⟩⟩
  · have x0 : w.cell? ⟨T, 0, none⟩ = some (.pointer (some ⟨T, 0, none⟩)) := by rw [Lib.cell_of_heap h1]; rfl
    have E := ptrT_same ⟨T, 0, none⟩
    clear h1
    go_enter Tryz.func40, Tryz.ntmps40
    go_wp2
    go_ret
    exact ⟨rfl, rfl⟩
  · go_enter Tryz.func40, Tryz.ntmps40
    go_wp2
    go_ret
    exact ⟨rfl, rfl⟩
  · have x0 : w.cell? ⟨T, 0, none⟩ = some (.pointer none) := by rw [Lib.cell_of_heap h1]; rfl
    have E := ptrT_nil ⟨T, 0, none⟩
    clear h1
    go_enter Tryz.func40, Tryz.ntmps40
    go_wp2
    go_ret
    exact ⟨rfl, rfl⟩
/-- What all leaves. -/
def AL (es : List Ent) (w : World) (e : Ending) (w' : World) : Prop := ∃ a cap, e = .returned (.slice a es.length cap) ∧ RdE w a es ∧ es.length ≤ cap ∧ (es = [] → a = none ∧ cap = 0) ∧ w' = w
set_option maxHeartbeats 1000000 in
theorem all_any (v : Value) (es : List Ent) (g : Bool) (w : World) (h : TP w v es g) : Calls Tryz.prog 35 #[v] w (AL es w) := by
  have HG := Lib.hid (given_any v es g w h)
  rcases h with ⟨rfl, T, rfl, a, cap, h1, h2, h3, h4⟩ | ⟨rfl, rfl, hv⟩
  · have x1 : w.cell? ⟨T, 1, none⟩ = some (.slice a es.length cap) := by rw [Lib.cell_of_heap h1]; rfl
    have HR := Lib.hid (And.intro h2 (And.intro h3 (okT_iff.1 h4).1))
    clear h1 h2 h3 h4
    go_enter Tryz.func35, Tryz.ntmps35
    go_wp2_with fail
    refine HG.out.mono ?_
    rintro e w1 ⟨rfl, rfl⟩
    go_wp2
    go_ret
    exact ⟨a, cap, rfl, HR.out.1, HR.out.2.1, fun h => absurd h HR.out.2.2, rfl⟩
  · clear hv
    go_enter Tryz.func35, Tryz.ntmps35
    go_wp2_with fail
    refine HG.out.mono ?_
    rintro e w1 ⟨rfl, rfl⟩
    go_wp2
    go_ret
    exact ⟨none, 0, rfl, .inl rfl, Nat.le_refl _, fun _ => ⟨rfl, rfl⟩, rfl⟩
set_option maxHeartbeats 2000000 in
theorem searchT_any (L K n : Nat) (p : Nat → Bool) (w : World) (hsz : n < 4611686018427387904)
    (hf : ∀ wx, Below w.heap.size w wx → ∀ i, i < n → Calls Tryz.prog 77 #[.int .i64 (i : Nat), .pointer (some ⟨L, 0, none⟩), .pointer (some ⟨K, 0, none⟩)] wx fun e w' => e = .returned (.bool (p i)) ∧ Below wx.heap.size wx w')
    (hmono : ∀ a b, a ≤ b → b < n → p a = true → p b = true) :
    Calls Tryz.prog 76 #[.int .i64 (n : Nat), .func (.func 77) #[] #[.pointer (some ⟨L, 0, none⟩), .pointer (some ⟨K, 0, none⟩)]] w fun e w' =>
      ∃ i : Nat, e = .returned (.int .i64 (i : Nat)) ∧ i ≤ n ∧ (∀ j, j < i → p j = false) ∧ (∀ j, i ≤ j → j < n → p j = true) ∧ Below w.heap.size w w' := by
  have HF := Lib.hid hf
  have M := Lib.hid hmono
  clear hf hmono
  go_enter Tryz.func76, Tryz.ntmps76
  go_wp2
  go_loopw [5, 6] (fun s5 s6 wr => ∃ (lo hi : Nat), s5 = .int .i64 lo ∧ s6 = .int .i64 hi ∧ lo ≤ hi ∧ hi ≤ n ∧ Hid (Below w.heap.size w wr) ∧ Hid ((∀ t, t < lo → p t = false) ∧ (∀ t, hi ≤ t → t < n → p t = true))) (fun a b _ => (intOf b).toNat - (intOf a).toNat)
  case atStart => exact ⟨0, n, rfl, rfl, Nat.zero_le _, Nat.le_refl _, Lib.hid (Below.refl _ _), Lib.hid ⟨fun t ht => absurd ht (Nat.not_lt_zero _), fun t h1 h2 => by omega⟩⟩
  case round =>
    obtain ⟨lo, hi, rfl, rfl, hlh, hin, HW, I⟩ := hrel
    by_cases hlt : lo < hi
    · have hli : (lo : Int) < (hi : Int) := by omega
      have hc := HF.out wr HW.out ((lo + hi) / 2) (by omega)
      rw [show (((lo + hi) / 2 : Nat) : Int) = ((lo : Int) + (hi : Int)) / 2 by omega] at hc
      have HC := Lib.hid hc
      obtain ⟨pm, hp⟩ : ∃ pm, p ((lo + hi) / 2) = pm := ⟨_, rfl⟩
      rw [hp] at HC
      have HP := Lib.hid hp
      clear hc hp
      have hb1 : (0 : Int) ≤ ((lo : Int) + (hi : Int)) / 2 := by omega
      have hb2 : ((lo : Int) + (hi : Int)) / 2 ≤ 4611686018427387904 := by omega
      go_wp2_with fail
      refine HC.out.mono ?_
      rintro e w2 ⟨rfl, b2⟩
      have HW2 := Lib.hid (HW.out.trans (b2.mono HW.out.size))
      clear b2
      cases pm with
      | false =>
        have I2 : Hid ((∀ t, t < (lo + hi) / 2 + 1 → p t = false) ∧ (∀ t, hi ≤ t → t < n → p t = true)) := Lib.hid ⟨fun t ht => (by
            cases h : p t with
            | false => rfl
            | true => have := M.out t ((lo + hi) / 2) (by omega) (by omega) h; rw [HP.out] at this; cases this), I.out.2⟩
        go_wp2
        go_roundw
        case rel => exact ⟨(lo + hi) / 2 + 1, hi, by rw [show ((lo : Int) + (hi : Int)) / 2 + 1 = (((lo + hi) / 2 + 1 : Nat) : Int) by omega], rfl, by omega, hin, HW2, I2⟩
        case measure => simp [intOf]; omega
      | true =>
        have I2 : Hid ((∀ t, t < lo → p t = false) ∧ (∀ t, (lo + hi) / 2 ≤ t → t < n → p t = true)) := Lib.hid ⟨I.out.1, fun t ht htn => M.out ((lo + hi) / 2) t ht htn HP.out⟩
        go_wp2
        go_roundw
        case rel => exact ⟨lo, (lo + hi) / 2, rfl, by rw [show ((lo : Int) + (hi : Int)) / 2 = (((lo + hi) / 2 : Nat) : Int) by omega], by omega, by omega, HW2, I2⟩
        case measure => simp [intOf]; omega
    · obtain rfl : hi = lo := by omega
      go_wp2
      go_ret
      exact ⟨hi, rfl, hin, I.out.1, I.out.2, HW.out⟩


/-- The boxes of what from's closure looks at. -/
def FF (L K : Nat) (w : World) (v : Value) (key : ByteArray) : Prop := w.cell? ⟨L, 0, none⟩ = some v ∧ w.cell? ⟨K, 0, none⟩ = some (.string key) ∧ L < w.heap.size ∧ K < w.heap.size
theorem FF.old {L K : Nat} {w w' : World} {v : Value} {key : ByteArray} (h : FF L K w v key) (hb : Below w.heap.size w w') : FF L K w' v key :=
  ⟨(hb.cell (p := ⟨L, 0, none⟩) h.2.2.1).trans h.1, (hb.cell (p := ⟨K, 0, none⟩) h.2.2.2).trans h.2.1, Nat.lt_of_lt_of_le h.2.2.1 hb.size, Nat.lt_of_lt_of_le h.2.2.2 hb.size⟩
set_option maxHeartbeats 2000000 in
theorem tclo_any (L K b off n cap : Nat) (es : List Ent) (key : ByteArray) (hl : es.length = n) (w : World) (hq : FF L K w (.slice (some ⟨b, off, none⟩) n cap) key) (hb : b < w.heap.size) (hc : EAt w b off es) (i : Nat) (hi : i < n) (r : Bool) (hr : (!ltB (es[i]'(by omega)).1 key) = r) :
    Calls Tryz.prog 77 #[.int .i64 (i : Nat), .pointer (some ⟨L, 0, none⟩), .pointer (some ⟨K, 0, none⟩)] w fun e w' => e = .returned (.bool r) ∧ Below w.heap.size w w' := by
  have hkl : i < es.length := by omega
  obtain ⟨g0, g1, g2, g3⟩ := hc i hkl
  obtain ⟨E, hE⟩ : ∃ E, E = es[i] := ⟨_, rfl⟩
  rw [← hE] at g0 g1 g2 g3 hr
  obtain ⟨ek, evl, eg, eq⟩ := E
  obtain ⟨c0, c1, x5, x6⟩ := hq
  have hii : (i : Int) < (n : Int) := by omega
  have hlt : Op.bytesLess ek.toList key.toList = !r := by
    rw [← hr]
    show ltB ek key = _
    simp
  clear hr hE hc hl hkl
  cases r
  all_goals
    simp only [Bool.not_false, Bool.not_true] at hlt
    go_enter Tryz.func77, Tryz.ntmps77
    go_wp2
    refine wp_region_below (by kernel_rfl) (by kernel_rfl) ?_
    repeat (first
      | go_big_quiet_skip
      | (go_big_quiet_want
         first
         | (refine BigFrame.quiet_move _ rfl ?_)
         | (refine BigFrame.quiet_assign _ rfl ?_)
         | (unfold Oper.quiet
            apply Exists.intro
            refine ⟨fun w' hw' => ?_, ?_⟩
            · (obtain ⟨hc', hf'⟩ := bcell hw'
               go_simp
               first
               | done
               | exact rfl))
         go_big_quiet_on
         simp only [Act.put, Act.eval, List.setIfInBounds_toArray, List.set_cons_zero, List.set_cons_succ, Array.getD_eq_getD_getElem?, List.getElem?_toArray, List.getElem?_cons_zero, List.getElem?_cons_succ, Option.getD_some]))
    refine wpQuiet_nil ?_
    intro w' hw'
    go_wp2
    go_ret
    exact ⟨rfl, hw'⟩
theorem FN.at_ : ∀ (es : List Ent) (key : ByteArray), ∃ k, FN es key k
  | [], key => ⟨0, Nat.zero_le _, fun j h => absurd h (Nat.not_lt_zero _), fun h => absurd h (Nat.not_lt_zero _)⟩
  | x :: l, key => by
    cases hx : ltB x.1 key with
    | false => exact ⟨0, Nat.zero_le _, fun j h h0 => absurd h0 (Nat.not_lt_zero _), fun h => hx⟩
    | true =>
      obtain ⟨k, h1, h2, h3⟩ := FN.at_ l key
      refine ⟨k + 1, by simp; exact h1, fun j h hj => ?_, fun h => ?_⟩
      · cases j with
        | zero => exact hx
        | succ j => exact h2 j (by simpa using h) (by omega)
      · exact h3 (by simpa using h)
theorem searchK (L K n cap k : Nat) (es : List Ent) (key : ByteArray) (a : Option Addr) (hl : es.length = n) (hn : n ≤ 4096) (hc : chainE zE es = true) (hk : FN es key k) (w : World) (h : RdE w a es) (hq : FF L K w (.slice a n cap) key) :
    Calls Tryz.prog 76 #[.int .i64 (n : Nat), .func (.func 77) #[] #[.pointer (some ⟨L, 0, none⟩), .pointer (some ⟨K, 0, none⟩)]] w fun e w' => e = .returned (.int .i64 (k : Nat)) ∧ Below w.heap.size w w' := by
  obtain ⟨b, off, ha, hb, hat⟩ := h.at_
  rw [hl] at ha hb
  have hp : ∀ i (h : i < n), (if h : i < es.length then !ltB es[i].1 key else true) = !ltB (es[i]'(by omega)).1 key := fun i h => by rw [dif_pos (by omega)]
  refine (searchT_any L K n (fun i => if h : i < es.length then !ltB es[i].1 key else true) w (by omega) (fun wx hx i hi => ?_) (fun x y hxy hy hx => ?_)).mono ?_
  · rw [hp i hi]
    obtain rfl := ha (by omega)
    have hbw := hb (by omega)
    exact tclo_any L K b off n cap es key hl wx (hq.old hx) (Nat.lt_of_lt_of_le hbw hx.size) (hat.old hbw hx) i hi _ rfl
  · rw [hp x (by omega)] at hx
    rw [hp y hy]
    have h1 := keys_up hc x y (by omega) hxy
    have h2 : ltB (es[x]'(by omega)).1 key = false := by simpa using hx
    rw [le_le h2 h1]
    rfl
  · rintro e w' ⟨i, rfl, hi, h1, h2, hb⟩
    have : FN es key i := ⟨by omega, fun j h hj => by have := h1 j hj; rw [hp j (by omega)] at this; simpa using this, fun h => by have := h2 i (Nat.le_refl _) (by omega); rw [hp i (by omega)] at this; simpa using this⟩
    rw [hk.same this]
    exact ⟨rfl, hb⟩
/-- What from leaves. -/
def FO (es : List Ent) (key : ByteArray) (w : World) (e : Ending) (w' : World) : Prop := ∃ a cap k, e = .returned (.slice a (es.length - k) cap) ∧ FN es key k ∧ RdE w' a (es.drop k) ∧ es.length - k ≤ cap ∧ (es = [] → a = none ∧ cap = 0) ∧ Below w.heap.size w w'
set_option maxHeartbeats 4000000 in
theorem from_any (v : Value) (es : List Ent) (g : Bool) (key : ByteArray) (w : World) (h : TP w v es g) : Calls Tryz.prog 37 #[v, .string key] w (FO es key w) := by
  have hok := h.ok
  have HA := Lib.hid (all_any v es g (w.alloc (.cells #[.string key] 9)) (h.old ((Below.refl _ w).alloc (Nat.le_refl _) _)))
  have hn4 := okB_len4 hok
  have HC := Lib.hid (okB_iff.1 hok).2
  obtain ⟨n, hn⟩ : ∃ n, n = es.length := ⟨_, rfl⟩
  rw [← hn] at hn4
  have HN := Lib.hid hn
  clear h hok hn
  go_enter Tryz.func37, Tryz.ntmps37
  go_wp2_with fail
  refine HA.out.mono ?_
  rintro e w1 ⟨a, cap, rfl, hr, hcap, hnil, rfl⟩
  rw [← HN.out] at hcap ⊢
  obtain ⟨k, hk⟩ := FN.at_ es key
  have hkn : k ≤ n := by rw [HN.out]; exact hk.1
  have HQ : Hid (FF (w.heap.size + 1) w.heap.size ((w.alloc (.cells #[.string key] 9)).alloc (.cells #[.slice a n cap] 22)) (.slice a n cap) key) := by
    refine Lib.hid ⟨?_, ?_, by simp, by simp; omega⟩
    · rw [Lib.cell_of_heap (al_new _ _ _ (by simp))]; rfl
    · rw [Lib.cell_of_heap (al_old (al_new _ _ _ rfl))]; rfl
  have HW : Hid (Below w.heap.size w ((w.alloc (.cells #[.string key] 9)).alloc (.cells #[.slice a n cap] 22))) := Lib.hid (((Below.refl _ w).alloc (Nat.le_refl _) _).alloc (by simp) _)
  have HR : Hid (RdE ((w.alloc (.cells #[.string key] 9)).alloc (.cells #[.slice a n cap] 22)) a es) := Lib.hid (hr.old ((Below.refl _ _).alloc (Nat.le_refl _) _))
  have HNI := Lib.hid hnil
  have HK := Lib.hid hk
  have HS := Lib.hid fun (wx : World) (hx : Below ((w.alloc (.cells #[.string key] 9)).alloc (.cells #[.slice a n cap] 22)).heap.size ((w.alloc (.cells #[.string key] 9)).alloc (.cells #[.slice a n cap] 22)) wx) =>
    searchK (w.heap.size + 1) w.heap.size n cap k es key a HN.out.symm hn4 HC.out HK.out wx (HR.out.old hx) (HQ.out.old hx)
  obtain ⟨b, off, ha, hb, hat⟩ := HR.out.at_
  rw [← HN.out] at ha hb
  have HHB : Hid (∀ (wx : World), 0 < n → Below ((w.alloc (.cells #[.string key] 9)).alloc (.cells #[.slice a n cap] 22)).heap.size ((w.alloc (.cells #[.string key] 9)).alloc (.cells #[.slice a n cap] 22)) wx → b < wx.heap.size ∧ EAt wx b off es) := Lib.hid fun wx h0 hx => ⟨Nat.lt_of_lt_of_le (hb h0) hx.size, hat.old (hb h0) hx⟩
  have HAA := Lib.hid ha
  clear hr hnil hk hb hat ha HA
  have hki : (k : Int) ≤ (n : Int) := by omega
  have hkc : k ≤ cap := by omega
  have hkci : (k : Int) ≤ (cap : Int) := by omega
  have hnci : (n : Int) ≤ (cap : Int) := by omega
  have hk0 : (0 : Int) ≤ (k : Int) := by omega
  by_cases h0 : n = 0
  · have hes : es = [] := List.length_eq_zero_iff.1 (HN.out.symm.trans h0)
    obtain ⟨rfl, rfl⟩ := HNI.out hes
    obtain rfl : k = 0 := by omega
    subst h0
    rw [show ((0 : Nat) : Int) = 0 from rfl] at HS
    go_wp2
    refine wp_region_below (by kernel_rfl) (by kernel_rfl) ?_
    repeat (first
      | go_big_quiet_skip
      | (go_big_quiet_want
         first
         | (refine BigFrame.quiet_move _ rfl ?_)
         | (refine BigFrame.quiet_assign _ rfl ?_)
         | (unfold Oper.quiet
            apply Exists.intro
            refine ⟨fun w' hw' => ?_, ?_⟩
            · (obtain ⟨hc', hf'⟩ := bcell hw'
               go_simp
               first
               | done
               | exact rfl
               | (go_at_call 76; (with_reducible refine (HS.out _ hw').mono ?_); rintro e w'' ⟨rfl, bb⟩; exact ⟨rfl, by first | exact bt hw' bb | simpa using bt hw' bb⟩)))
         go_big_quiet_on
         simp only [Act.put, Act.eval, List.setIfInBounds_toArray, List.set_cons_zero, List.set_cons_succ, Array.getD_eq_getD_getElem?, List.getElem?_toArray, List.getElem?_cons_zero, List.getElem?_cons_succ, Option.getD_some]))
    refine wpQuiet_nil ?_
    intro w' hw'
    go_wp2
    go_ret
    exact ⟨none, 0, 0, by rw [← HN.out]; rfl, HK.out, by rw [hes]; exact .inl rfl, by rw [← HN.out]; omega, fun _ => ⟨rfl, rfl⟩, HW.out.trans (hw'.mono HW.out.size)⟩
  · obtain rfl := HAA.out (by omega)
    have hne : ¬ es = [] := fun h => h0 (by rw [HN.out, h]; rfl)
    by_cases hck : cap = k
    · obtain rfl : k = n := by omega
      subst hck
      go_wp2
      refine wp_region_below (by kernel_rfl) (by kernel_rfl) ?_
      repeat (first
        | go_big_quiet_skip
        | (go_big_quiet_want
           first
           | (refine BigFrame.quiet_move _ rfl ?_)
           | (refine BigFrame.quiet_assign _ rfl ?_)
           | (unfold Oper.quiet
              apply Exists.intro
              refine ⟨fun w' hw' => ?_, ?_⟩
              · (obtain ⟨hc', hf'⟩ := bcell hw'
                 go_simp
                 first
                 | done
                 | exact rfl
                 | (go_at_call 76; (with_reducible refine (HS.out _ hw').mono ?_); rintro e w'' ⟨rfl, bb⟩; exact ⟨rfl, by first | exact bt hw' bb | simpa using bt hw' bb⟩)))
           go_big_quiet_on
           simp only [Act.put, Act.eval, List.setIfInBounds_toArray, List.set_cons_zero, List.set_cons_succ, Array.getD_eq_getD_getElem?, List.getElem?_toArray, List.getElem?_cons_zero, List.getElem?_cons_succ, Option.getD_some]))
      refine wpQuiet_nil ?_
      intro w' hw'
      go_wp2
      go_ret
      refine ⟨some ⟨b, off, none⟩, 0, cap, by rw [← HN.out]; simp, HK.out, ?_, by rw [← HN.out]; omega, fun h => absurd h hne, HW.out.trans (hw'.mono HW.out.size)⟩
      rw [List.drop_of_length_le (by rw [← HN.out]; exact Nat.le_refl _)]
      exact .inl rfl
    · go_wp2
      refine wp_region_below (by kernel_rfl) (by kernel_rfl) ?_
      repeat (first
        | go_big_quiet_skip
        | (go_big_quiet_want
           first
           | (refine BigFrame.quiet_move _ rfl ?_)
           | (refine BigFrame.quiet_assign _ rfl ?_)
           | (unfold Oper.quiet
              apply Exists.intro
              refine ⟨fun w' hw' => ?_, ?_⟩
              · (obtain ⟨hc', hf'⟩ := bcell hw'
                 go_simp
                 first
                 | done
                 | exact rfl
                 | (go_at_call 76; (with_reducible refine (HS.out _ hw').mono ?_); rintro e w'' ⟨rfl, bb⟩; exact ⟨rfl, by first | exact bt hw' bb | simpa using bt hw' bb⟩)))
           go_big_quiet_on
           simp only [Act.put, Act.eval, List.setIfInBounds_toArray, List.set_cons_zero, List.set_cons_succ, Array.getD_eq_getD_getElem?, List.getElem?_toArray, List.getElem?_cons_zero, List.getElem?_cons_succ, Option.getD_some]))
      refine wpQuiet_nil ?_
      intro w' hw'
      go_wp2
      go_ret
      obtain ⟨h1, h2⟩ := HHB.out w' (by omega) hw'
      exact ⟨some ⟨b, off + k * 4, none⟩, cap - k, k, by rw [← HN.out]; rfl, HK.out, (h2.drop k).rd h1, by rw [← HN.out]; omega, fun h => absurd h hne, HW.out.trans (hw'.mono HW.out.size)⟩
end Go.Proofs.YtobhjmkaamjoeaaGreat
namespace Go.Proofs.YtobhjmkaamjoeaaGreat
set_option maxRecDepth 100000
open Go.RowKit
set_option linter.unusedVariables false
set_option linter.unusedSimpArgs false

/-- How many must be, at least: of a number that may be any. -/
def mostN (most : Int) : Nat := (max 1 most).toNat
theorem mostN_pos (most : Int) : 1 ≤ mostN most := by unfold mostN; omega
set_option maxHeartbeats 4000000 in
theorem whole_any (a : Option Addr) (n cap : Nat) (es : List Ent) (most : Int) (w : World) (hl : es.length = n) (hn : n ≤ 4096) (h : RdE w a es) :
    Calls Tryz.prog 39 #[.slice a n cap, .int .i64 most] w fun e w' => ∃ k, e = .returned (.int .i64 (k : Nat)) ∧ WN es (mostN most) k ∧ Below w.heap.size w w' := by
  obtain ⟨b, off, ha, hb, hat⟩ := h.at_
  rw [hl] at ha hb
  obtain ⟨m0, hm0⟩ : ∃ m0, m0 = min (mostN most) n := ⟨_, rfl⟩
  have hmm : min (max 1 most) (n : Int) = (m0 : Int) := by unfold mostN at hm0; omega
  have hm1 : 0 < n → 1 ≤ m0 := fun h0 => by have := mostN_pos most; omega
  have hmn : m0 ≤ n := by omega
  have HM := Lib.hid hm0
  have HL := Lib.hid hl
  have HAT := Lib.hid hat
  clear hl h hat hm0
  go_enter Tryz.func39, Tryz.ntmps39
  go_wp2
  go_loopw [5] (fun i wr => ∃ k : Nat, i = .int .i64 k ∧ m0 ≤ k ∧ k ≤ n ∧ Hid (∀ j (h : j < es.length), m0 ≤ j → j < k → es[j].1 = (es[j - 1]'(by omega)).1) ∧ Hid (Below w.heap.size w wr)) (fun i _ => n - (intOf i).toNat)
  case atStart => exact ⟨m0, rfl, Nat.le_refl _, hmn, Lib.hid (fun j h h1 h2 => absurd h2 (by omega)), Lib.hid (Below.refl _ _)⟩
  case round =>
    obtain ⟨k, rfl, hk0, hk, HK, HW⟩ := hrel
    have hws := HW.out.size
    by_cases hlt : k < n
    · have hki : (k : Int) < (n : Int) := by omega
      have hk1 := hm1 (by omega)
      obtain rfl := ha (by omega)
      have hbw := hb (by omega)
      obtain ⟨j, hj⟩ : ∃ j, k = j + 1 := ⟨k - 1, by omega⟩
      have hkl : k < es.length := by rw [HL.out]; exact hlt
      have hjl : j < es.length := by omega
      have hjn : j < n := by omega
      have hji : (j : Int) < (n : Int) := by omega
      have hj0 : (0 : Int) ≤ (j : Int) := by omega
      have hk00 : (0 : Int) ≤ (k : Int) := by omega
      have hsub : (k : Int) - 1 = (j : Int) := by omega
      have hwr : IntKind.i64.wrap (j : Int) = (j : Int) := IntWalk.i64_in _ (by omega)
      have hbr : b < wr.heap.size := Nat.lt_of_lt_of_le hbw hws
      have g0 := (HAT.out.old hbw HW.out k hkl).1
      have q0 := (HAT.out.old hbw HW.out j hjl).1
      have HEK : Hid (es[k].1 = es[k].1 ∧ (es[k - 1]'(by omega)).1 = es[j].1) := Lib.hid ⟨rfl, by
        have : ∀ (x y : Nat) (hx : x < es.length) (hy : y < es.length), x = y → es[x].1 = es[y].1 := fun x y hx hy e => by subst e; rfl
        exact this _ _ _ _ (by omega)⟩
      obtain ⟨ek, hek⟩ : ∃ ek, ek = es[k].1 := ⟨_, rfl⟩
      obtain ⟨ej, hej⟩ : ∃ ej, ej = es[j].1 := ⟨_, rfl⟩
      rw [← hek] at g0
      rw [← hej] at q0
      by_cases heq : ek = ej
      · have HN : Hid (∀ j (h : j < es.length), m0 ≤ j → j < k + 1 → es[j].1 = (es[j - 1]'(by omega)).1) := Lib.hid fun i h h1 h2 => by
          rcases Nat.lt_or_ge i k with h3 | h3
          · exact HK.out i h h1 h3
          · obtain rfl : i = k := by omega
            rw [HEK.out.2, ← hek, ← hej, heq]
        have hb1 : (ek.toList == ej.toList) = true := by rw [heq]; simp
        clear HEK hek hej heq hj
        go_wp2
        refine wp_region_below (by kernel_rfl) (by kernel_rfl) ?_
        repeat (first
          | go_big_quiet_skip
          | (go_big_quiet_want
             first
             | (refine BigFrame.quiet_move _ rfl ?_)
             | (refine BigFrame.quiet_assign _ rfl ?_)
             | (unfold Oper.quiet
                apply Exists.intro
                refine ⟨fun w' hw' => ?_, ?_⟩
                · (obtain ⟨hc', hf'⟩ := bcell hw'
                   go_simp
                   first
                   | done
                   | exact rfl))
             go_big_quiet_on
             simp only [Act.put, Act.eval, List.setIfInBounds_toArray, List.set_cons_zero, List.set_cons_succ, Array.getD_eq_getD_getElem?, List.getElem?_toArray, List.getElem?_cons_zero, List.getElem?_cons_succ, Option.getD_some]))
        refine wpQuiet_nil ?_
        intro w' hw'
        go_wp2
        go_roundw
        case rel => exact ⟨k + 1, by go_num, by omega, by omega, HN, Lib.hid (HW.out.trans (hw'.mono hws))⟩
        case measure => simp [intOf]; omega
      · have HW2 : Hid (WN es (mostN most) k) := Lib.hid ⟨by rw [HL.out, ← HM.out]; exact hk0, by rw [HL.out]; exact hk, fun i h h1 h2 => HK.out i h (by rw [HL.out, ← HM.out] at h1; exact h1) h2, fun h => by
          rw [HEK.out.2, ← hek, ← hej]; exact heq⟩
        have hb1 : (ek.toList == ej.toList) = false := by rw [beq_eq_false_iff_ne]; exact fun h => heq (ba_ext h)
        clear HEK hek hej heq hj
        go_wp2
        refine wp_region_below (by kernel_rfl) (by kernel_rfl) ?_
        repeat (first
          | go_big_quiet_skip
          | (go_big_quiet_want
             first
             | (refine BigFrame.quiet_move _ rfl ?_)
             | (refine BigFrame.quiet_assign _ rfl ?_)
             | (unfold Oper.quiet
                apply Exists.intro
                refine ⟨fun w' hw' => ?_, ?_⟩
                · (obtain ⟨hc', hf'⟩ := bcell hw'
                   go_simp
                   first
                   | done
                   | exact rfl))
             go_big_quiet_on
             simp only [Act.put, Act.eval, List.setIfInBounds_toArray, List.set_cons_zero, List.set_cons_succ, Array.getD_eq_getD_getElem?, List.getElem?_toArray, List.getElem?_cons_zero, List.getElem?_cons_succ, Option.getD_some]))
        refine wpQuiet_nil ?_
        intro w' hw'
        go_wp2
        go_ret
        exact ⟨k, rfl, HW2.out, HW.out.trans (hw'.mono hws)⟩
    · obtain rfl : k = n := by omega
      have HW2 : Hid (WN es (mostN most) k) := Lib.hid ⟨by rw [HL.out, ← HM.out]; exact hmn, by rw [HL.out]; exact Nat.le_refl _, fun i h h1 h2 => HK.out i h (by rw [HL.out, ← HM.out] at h1; exact h1) h2, fun h => absurd h (by rw [HL.out]; omega)⟩
      go_wp2
      refine wp_region_below (by kernel_rfl) (by kernel_rfl) ?_
      repeat (first
        | go_big_quiet_skip
        | (go_big_quiet_want
           first
           | (refine BigFrame.quiet_move _ rfl ?_)
           | (refine BigFrame.quiet_assign _ rfl ?_)
           | (unfold Oper.quiet
              apply Exists.intro
              refine ⟨fun w' hw' => ?_, ?_⟩
              · (obtain ⟨hc', hf'⟩ := bcell hw'
                 go_simp
                 first
                 | done
                 | exact rfl))
           go_big_quiet_on
           simp only [Act.put, Act.eval, List.setIfInBounds_toArray, List.set_cons_zero, List.set_cons_succ, Array.getD_eq_getD_getElem?, List.getElem?_toArray, List.getElem?_cons_zero, List.getElem?_cons_succ, Option.getD_some]))
      refine wpQuiet_nil ?_
      intro w' hw'
      go_wp2
      go_ret
      exact ⟨k, rfl, HW2.out, HW.out.trans (hw'.mono hws)⟩
set_option maxHeartbeats 1000000 in
theorem tlen_any (v : Value) (es : List Ent) (g : Bool) (w : World) (h : TP w v es g) : Calls Tryz.prog 12 #[v] w fun e w' => e = .returned (.int .i64 (es.length : Nat)) ∧ Below w.heap.size w w' := by
  have HA := Lib.hid (all_any v es g w h)
  obtain ⟨n, hn⟩ : ∃ n, n = es.length := ⟨_, rfl⟩
  rw [← hn]
  have HN := Lib.hid hn
  clear h hn
  go_enter Tryz.func12, Tryz.ntmps12
  go_wp2_with fail
  refine HA.out.mono ?_
  rintro e w1 ⟨a, cap, rfl, hr, hcap, hnil, rfl⟩
  rw [← HN.out]
  go_wp2
  go_ret
  exact ⟨rfl, Below.refl _ _⟩
/-- The least key, and the greatest one. -/
def endsE (es : List Ent) : ByteArray × ByteArray := if h : 0 < es.length then ((es[0]).1, (es[es.length - 1]).1) else (⟨#[]⟩, ⟨#[]⟩)
set_option maxHeartbeats 2000000 in
theorem tends_any (v : Value) (es : List Ent) (g : Bool) (w : World) (h : TP w v es g) : Calls Tryz.prog 16 #[v] w fun e w' => e = .returned (.tuple #[.string (endsE es).1, .string (endsE es).2]) ∧ Below w.heap.size w w' := by
  have hn4 := okB_len4 h.ok
  have HA := Lib.hid (all_any v es g w h)
  obtain ⟨n, hn⟩ : ∃ n, n = es.length := ⟨_, rfl⟩
  rw [← hn] at hn4
  have HN := Lib.hid hn
  clear h hn
  by_cases h0 : n = 0
  · have HE : Hid (endsE es = (⟨#[]⟩, ⟨#[]⟩)) := Lib.hid (by unfold endsE; rw [dif_neg (by rw [← HN.out]; omega)])
    subst h0
    go_enter Tryz.func16, Tryz.ntmps16
    go_wp2_with fail
    refine HA.out.mono ?_
    rintro e w1 ⟨a, cap, rfl, hr, hcap, hnil, rfl⟩
    rw [← HN.out]
    go_wp2
    go_ret2
    exact ⟨by rw [HE.out]; rfl, Below.refl _ _⟩
  · have hnb : ((n : Int) == 0) = false := by simpa using h0
    have hl : 0 < es.length := by rw [← HN.out]; omega
    have HE : Hid (endsE es = ((es[0]).1, (es[n - 1]'(by rw [← HN.out]; omega)).1)) := Lib.hid (by
      unfold endsE
      rw [dif_pos hl]
      have : ∀ (x y : Nat) (hx : x < es.length) (hy : y < es.length), x = y → es[x].1 = es[y].1 := fun x y hx hy e => by subst e; rfl
      rw [this (es.length - 1) (n - 1) (by omega) (by rw [← HN.out]; omega) (by rw [HN.out])])
    obtain ⟨k0, hk0⟩ : ∃ k0, k0 = (es[0]).1 := ⟨_, rfl⟩
    obtain ⟨k1, hk1⟩ : ∃ k1, k1 = (es[n - 1]'(by rw [← HN.out]; omega)).1 := ⟨_, rfl⟩
    obtain ⟨j, hj⟩ : ∃ j, j = n - 1 := ⟨_, rfl⟩
    have hji : (n : Int) - 1 = (j : Int) := by omega
    have hj0 : (0 : Int) ≤ (j : Int) := by omega
    have hjn : (j : Int) < (n : Int) := by omega
    have hjnn : j < n := by omega
    have hni : (0 : Int) < (n : Int) := by omega
    have hnn : 0 < n := by omega
    have hwr : IntKind.i64.wrap (j : Int) = (j : Int) := IntWalk.i64_in _ (by omega)
    rw [← hk0, ← hk1] at HE
    have HK := Lib.hid (And.intro hk0 hk1)
    have HJ := Lib.hid hj
    clear hk0 hk1 hj
    go_enter Tryz.func16, Tryz.ntmps16
    go_wp2_with fail
    refine HA.out.mono ?_
    rintro e w1 ⟨a, cap, rfl, hr, hcap, hnil, rfl⟩
    rw [← HN.out]
    obtain ⟨b, off, ha, hb, hat⟩ := hr.at_
    obtain rfl := ha hl
    have hbw := hb hl
    have g0 := (hat 0 hl).1
    have q0 := (hat (n - 1) (by rw [← HN.out]; omega)).1
    rw [← HK.out.1, Nat.zero_mul, Nat.add_zero] at g0
    rw [← HK.out.2, ← HJ.out] at q0
    clear hr ha hb hat hnil hcap
    go_wp2
    refine wp_region_below (by kernel_rfl) (by kernel_rfl) ?_
    repeat (first
      | go_big_quiet_skip
      | (go_big_quiet_want
         first
         | (refine BigFrame.quiet_move _ rfl ?_)
         | (refine BigFrame.quiet_assign _ rfl ?_)
         | (unfold Oper.quiet
            apply Exists.intro
            refine ⟨fun w' hw' => ?_, ?_⟩
            · (obtain ⟨hc', hf'⟩ := bcell hw'
               go_simp
               first
               | done
               | exact rfl))
         go_big_quiet_on
         simp only [Act.put, Act.eval, List.setIfInBounds_toArray, List.set_cons_zero, List.set_cons_succ, Array.getD_eq_getD_getElem?, List.getElem?_toArray, List.getElem?_cons_zero, List.getElem?_cons_succ, Option.getD_some]))
    refine wpQuiet_nil ?_
    intro w' hw'
    go_wp2
    go_ret2
    exact ⟨by rw [HE.out]; rfl, hw'⟩
/-- Whether a table may have a key. -/
def mayT (es : List Ent) (g : Bool) (key : ByteArray) : Bool := g && hasL (makeL (keysT es)) key.data.toList
set_option maxHeartbeats 2000000 in
theorem tmayk_any (v : Value) (es : List Ent) (g : Bool) (key : ByteArray) (w : World) (hk : key.size ≤ 140737488351232) (h : TP w v es g) : Calls Tryz.prog 17 #[v, .string key] w fun e w' => e = .returned (.bool (mayT es g key)) ∧ Below w.heap.size w w' := by
  have HG := Lib.hid (given_any v es g w h)
  rcases h with ⟨rfl, T, rfl, a, cap, h1, h2, h3, h4⟩ | ⟨rfl, rfl, hv⟩
  · have x2 : w.cell? ⟨T, 2, none⟩ = some (.string ⟨(makeL (keysT es)).toArray⟩) := by rw [Lib.cell_of_heap h1]; rfl
    have hbl := bits_le h4
    obtain ⟨bs, hbs⟩ : ∃ bs : ByteArray, bs = ⟨(makeL (keysT es)).toArray⟩ := ⟨_, rfl⟩
    rw [← hbs] at x2 hbl
    have HH := Lib.hid fun w => has_code bs key w (by omega) hk
    have HB : Hid (mayT es true key = hasL bs.data.toList key.data.toList) := Lib.hid (by rw [hbs]; rfl)
    obtain ⟨r, hr⟩ : ∃ r, r = hasL bs.data.toList key.data.toList := ⟨_, rfl⟩
    rw [← hr] at HB HH
    clear h1 h2 h3 h4 hbs hbl hr
    go_enter Tryz.func17, Tryz.ntmps17
    go_wp2_with fail
    refine HG.out.mono ?_
    rintro e w1 ⟨rfl, rfl⟩
    go_wp2_with fail
    refine (HH.out _).mono ?_
    rintro e w2 ⟨rfl, b2⟩
    go_wp2
    go_ret
    exact ⟨by rw [HB.out]; rfl, b2⟩
  · clear hv
    go_enter Tryz.func17, Tryz.ntmps17
    go_wp2_with fail
    refine HG.out.mono ?_
    rintro e w1 ⟨rfl, rfl⟩
    go_wp2
    go_ret
    exact ⟨rfl, Below.refl _ _⟩
set_option maxHeartbeats 1000000 in
theorem all_at (v : Value) (es : List Ent) (g : Bool) (w : World) (h : TP w v es g) : ∃ a cap, (∀ wx, Below w.heap.size w wx → Calls Tryz.prog 35 #[v] wx fun e w' => e = .returned (.slice a es.length cap) ∧ Below wx.heap.size wx w') ∧ RdE w a es ∧ es.length ≤ cap := by
  have hh := h
  rcases h with ⟨rfl, T, rfl, a, cap, h1, h2, h3, h4⟩ | ⟨rfl, rfl, hv⟩
  · refine ⟨a, cap, fun wx hx => ?_, h2, h3⟩
    have HG := Lib.hid (given_any _ es true wx (hh.old hx))
    have x1 : wx.cell? ⟨T, 1, none⟩ = some (.slice a es.length cap) := by rw [Lib.cell_of_heap ((hx.block T (heap_lt h1)).trans h1)]; rfl
    clear h1 h2 h3 h4 hh hx
    go_enter Tryz.func35, Tryz.ntmps35
    go_wp2_with fail
    refine HG.out.mono ?_
    rintro e w1 ⟨rfl, rfl⟩
    go_wp2
    go_ret
    exact ⟨rfl, Below.refl _ _⟩
  · refine ⟨none, 0, fun wx hx => ?_, .inl rfl, Nat.le_refl _⟩
    have HG := Lib.hid (given_any _ [] false wx (hh.old hx))
    clear hv hh hx
    go_enter Tryz.func35, Tryz.ntmps35
    go_wp2_with fail
    refine HG.out.mono ?_
    rintro e w1 ⟨rfl, rfl⟩
    go_wp2
    go_ret
    exact ⟨rfl, Below.refl _ _⟩
set_option maxHeartbeats 2000000 in
theorem trange_any (v : Value) (es : List Ent) (g : Bool) (lo hi : ByteArray) (h1 : okS lo) (h2 : okS hi) (w : World) (h : TP w v es g) : Calls Tryz.prog 14 #[v, .agg #[.string lo, .string hi]] w (CL lo hi es w) := by
  have hok := h.ok
  obtain ⟨a, cap, ha, hr, hc⟩ := all_at v es g (w.alloc (.cells #[.string lo, .string hi] 38)) (h.old ((Below.refl _ w).alloc (Nat.le_refl _) _))
  have hn4 := okB_len4 hok
  have HOE : Hid (okE es) := Lib.hid fun e he => (okB_okW hok e he).1
  obtain ⟨n, hn⟩ : ∃ n, n = es.length := ⟨_, rfl⟩
  rw [← hn] at hn4 ha
  have HN := Lib.hid hn
  have HA := Lib.hid ha
  have HR := Lib.hid hr
  have HS := Lib.hid (And.intro h1 h2)
  clear h hok hn h1 h2 ha hr hc
  go_enter Tryz.func14, Tryz.ntmps14
  go_wp2
  refine below_tail 3 (by kernel_rfl) (by kernel_rfl) ?_
  simp only [List.take_succ_cons, List.take_zero, List.drop_succ_cons, List.drop_zero]
  repeat (first
    | go_big_quiet_skip
    | (go_big_quiet_want
       first
       | (refine BigFrame.quiet_move _ rfl ?_)
       | (refine BigFrame.quiet_assign _ rfl ?_)
       | (unfold Oper.quiet
          apply Exists.intro
          refine ⟨fun w' hw' => ?_, ?_⟩
          · (obtain ⟨hc', hf'⟩ := bcell hw'
             go_simp
             first
             | done
             | exact rfl
             | (go_at_call 35; (with_reducible refine (HA.out _ hw').mono ?_); rintro e w'' ⟨rfl, bb⟩; exact ⟨rfl, by first | exact bt hw' bb | simpa using bt hw' bb⟩)))
       go_big_quiet_on
       simp only [Act.put, Act.eval, List.setIfInBounds_toArray, List.set_cons_zero, List.set_cons_succ, Array.getD_eq_getD_getElem?, List.getElem?_toArray, List.getElem?_cons_zero, List.getElem?_cons_succ, Option.getD_some]))
  refine wpQuiet_nil ?_
  intro w' hw'
  have HW : Hid (Below w.heap.size w w') := Lib.hid (((Below.refl _ w).alloc (Nat.le_refl _) _).trans (hw'.mono (by simp)))
  have HR2 := Lib.hid (HR.out.old hw')
  clear hw' HA HR
  go_wp2_with fail
  refine (clip_any a n cap es lo hi HS.out.1 HS.out.2 _ (by omega) HN.out.symm HR2.out HOE.out).mono ?_
  rintro e w2 ⟨a2, cap2, rfl, hr2, b2⟩
  have HW2 := Lib.hid (HW.out.trans (b2.mono HW.out.size))
  have HRD := Lib.hid hr2
  clear b2 hr2
  go_wp2
  go_ret
  exact ⟨a2, cap2, rfl, HRD.out, HW2.out⟩
/-- What Get finds. -/
theorem part_find {es : List Ent} {key : ByteArray} {at_ : Int} {k n : Nat} (hc : chainE zE es = true) (hk : FN es key k) (hn : WN (es.drop k) 1 n) : findB ((es.drop k).take n) key at_ = findB es key at_ := by
  have hl := chain_from hc k
  obtain ⟨l, hle⟩ : ∃ l, l = es.drop k := ⟨_, rfl⟩
  have h0 : ∀ h : 0 < l.length, ltB l[0].1 key = false := fun h => by
    subst hle
    rw [List.getElem_drop]
    exact hk.2.2 (by rw [List.length_drop] at h; omega)
  have e1 : es = es.take k ++ l := by rw [hle, List.take_append_drop]
  rw [← hle] at hl hn ⊢
  have h1 : (es.take k).find? (isE key at_) = none := by
    rw [List.find?_eq_none]
    intro e he hi
    obtain ⟨j, hj, rfl⟩ := List.mem_iff_getElem.1 he
    rw [List.length_take] at hj
    have hx := hk.2.1 j (by omega) (by omega)
    rw [List.getElem_take] at hi
    rw [(isE_iff.1 hi).1, ltB_irr] at hx
    cases hx
  have h2 : (l.drop n).find? (isE key at_) = none := by
    rw [List.find?_eq_none]
    intro e he hi
    obtain ⟨j, hj, rfl⟩ := List.mem_iff_getElem.1 he
    rw [List.length_drop] at hj
    rw [List.getElem_drop] at hi
    have hkey := (isE_iff.1 hi).1
    obtain ⟨w1, w2, w3, w4⟩ := hn
    have hn1 : 1 ≤ n := by omega
    have a1 := keys_up hl n (n + j) (by omega) (by omega)
    rw [hkey] at a1
    have a2 := keys_up hl (n - 1) n (by omega) (by omega)
    have a3 := keys_up hl 0 (n - 1) (by omega) (by omega)
    have b1 := le_le (h0 (by omega)) a3
    have b2 := le_le a2 a1
    have e1 := ltB_total b1 b2
    have e2 := ltB_total (le_le b1 a2) a1
    exact w4 (by omega) (e2.trans e1.symm)
  unfold findB
  conv => rhs; rw [e1, List.find?_append, h1]
  conv => rhs; rw [← List.take_append_drop n l, List.find?_append, h2]
  simp
theorem RdE.take {w : World} {a : Option Addr} {es : List Ent} (h : RdE w a es) (n : Nat) : RdE w a (es.take n) := by
  rcases h with rfl | ⟨b, off, ha, hb, hc⟩
  · exact .inl (by simp)
  · exact .inr ⟨b, off, ha, hb, EAt.take hc n⟩
theorem okB_part {es : List Ent} (h : okB es = true) (k n : Nat) : okB ((es.drop k).take n) = true := by
  rw [okB_iff] at h ⊢
  refine ⟨?_, chain_take n (chain_from h.2 k)⟩
  rw [List.length_take, List.length_drop]
  omega
set_option maxHeartbeats 4000000 in
theorem tget_any (v : Value) (es : List Ent) (g : Bool) (key : ByteArray) (at_ : Int) (w : World) (h : TP w v es g) : Calls Tryz.prog 15 #[v, .string key, .int .i64 at_] w fun e w' => e = .returned (fnd (findB es key at_)) ∧ Below w.heap.size w w' := by
  have hok := h.ok
  have hn4 := okB_len4 hok
  have HF := Lib.hid (from_any v es g key _ (h.old ((Below.refl _ w).alloc (Nat.le_refl _) (.cells #[.string ⟨#[]⟩, .string ⟨#[]⟩, .bool false, .int .i64 0] 41))))
  obtain ⟨n, hn⟩ : ∃ n, n = es.length := ⟨_, rfl⟩
  rw [← hn] at hn4
  have HN := Lib.hid hn
  have HOK := Lib.hid hok
  have HZ := Lib.hid (And.intro (EBox.new w 41 ⟨#[]⟩ ⟨#[]⟩ false 0) (EFree.new w ⟨#[]⟩ ⟨#[]⟩ false 0 41))
  clear h hok hn
  go_enter Tryz.func15, Tryz.ntmps15
  go_wp2_with fail
  refine HF.out.mono ?_
  rintro e w1 ⟨a, cap, k, rfl, hk, hr, hcap, hnil, b1⟩
  have HW1 : Hid (Below w.heap.size w w1) := Lib.hid (((Below.refl _ w).alloc (Nat.le_refl _) _).trans (b1.mono (by simp)))
  have HZ1 : Hid (EBox w1 w.heap.size ⟨#[]⟩ ⟨#[]⟩ false 0 ∧ EFree w1 w.heap.size) := Lib.hid ⟨HZ.out.1.below b1, HZ.out.2.below (by simp) b1⟩
  have hl : (es.drop k).length = es.length - k := by rw [List.length_drop]
  rw [← hl] at hcap ⊢
  obtain ⟨m, hm⟩ : ∃ m, m = (es.drop k).length := ⟨_, rfl⟩
  rw [← hm] at hcap ⊢
  have HM := Lib.hid hm
  have HK := Lib.hid hk
  have HR := Lib.hid hr
  have hm4 : m ≤ 4096 := by rw [hm, hl, ← HN.out]; omega
  clear hk hr hnil b1 hl hm HF HZ
  go_wp2_with fail
  refine (whole_any a m cap (es.drop k) 1 _ HM.out.symm hm4 HR.out).mono ?_
  rintro e w2 ⟨q, rfl, hq, b2⟩
  have HW2 := Lib.hid (HW1.out.trans (b2.mono HW1.out.size))
  have HZ2 := Lib.hid (And.intro (HZ1.out.1.below b2) (HZ1.out.2.below (HZ1.out.1.2.2.2.2) b2))
  have hqm : q ≤ m := by rw [HM.out]; exact hq.2.1
  have HFB := Lib.hid (part_find (at_ := at_) (okB_iff.1 HOK.out).2 HK.out (n := q) hq)
  have hqi : (q : Int) ≤ (m : Int) := by omega
  have hqc : (q : Int) ≤ (cap : Int) := by omega
  have hqcn : q ≤ cap := by omega
  have hq0 : (0 : Int) ≤ (q : Int) := by omega
  have HR2 := Lib.hid ((HR.out.old b2).take q)
  have HOP := Lib.hid (okB_part HOK.out k q)
  have hlq : ((es.drop k).take q).length = q := by rw [List.length_take, ← HM.out]; omega
  have hfd := fun w h => find9_any a q cap ((es.drop k).take q) key at_ w (by omega) hlq h (okB_okW HOP.out)
  have hFB : FB ((es.drop k).take q) key at_ = findB es key at_ := by unfold FB; rw [if_pos HOP.out, HFB.out]
  rw [hFB] at hfd
  have HFD := Lib.hid (hfd _ HR2.out)
  clear hq b2 hfd hFB hlq HW1 HZ1 HFB
  cases ho : findB es key at_ with
  | none =>
    rw [ho] at HFD
    have HO := Lib.hid ho
    clear ho
    go_wp2_with fail
    refine HFD.out.mono ?_
    rintro e w3 ⟨rfl, b3⟩
    have HW3 := Lib.hid (HW2.out.trans (b3.mono HW2.out.size))
    obtain ⟨z0, z1, z2, z3, z4⟩ := HZ2.out.1.below b3
    obtain ⟨f0, f1, f2, f3⟩ := HZ2.out.2.below HZ2.out.1.2.2.2.2 b3
    clear b3
    unfold fnd
    go_wp2
    exact bodyPost_ret (v := .tuple #[.agg #[.string ⟨#[]⟩, .string ⟨#[]⟩, .bool false, .int .i64 0], .bool false]) (by simp [results, Tryz.results15, go_sem, z0, z1, z2, z3, z4]) rfl ⟨by rw [HO.out]; rfl, below_put HW3.out (Nat.le_refl _) _ _ _ _⟩
  | some E =>
    obtain ⟨ek, evl, eg, eq⟩ := E
    rw [ho] at HFD
    have HO := Lib.hid ho
    clear ho
    go_wp2_with fail
    refine HFD.out.mono ?_
    rintro e w3 ⟨rfl, b3⟩
    have HW3 := Lib.hid (HW2.out.trans (b3.mono HW2.out.size))
    obtain ⟨z0, z1, z2, z3, z4⟩ := HZ2.out.1.below b3
    obtain ⟨f0, f1, f2, f3⟩ := HZ2.out.2.below HZ2.out.1.2.2.2.2 b3
    clear b3
    unfold fnd
    go_wp2
    exact bodyPost_ret (v := .tuple #[.agg #[.string ek, .string evl, .bool eg, .int .i64 eq], .bool true]) (by simp [results, Tryz.results15, go_sem, z0, z1, z2, z3, z4]) rfl ⟨by rw [HO.out]; rfl, below_put HW3.out (Nat.le_refl _) _ _ _ _⟩
end Go.Proofs.YtobhjmkaamjoeaaGreat
namespace Go.Proofs.YtobhjmkaamjoeaaGreat
set_option maxRecDepth 100000
open Go.RowKit
set_option linter.unusedVariables false
set_option linter.unusedSimpArgs false

/-- What Clone leaves. -/
def CO (es : List Ent) (w : World) (e : Ending) (w' : World) : Prop := ∃ a cap, e = .returned (.slice a es.length cap) ∧ RdE w' a es ∧ es.length ≤ cap ∧ Below w.heap.size w w'
theorem RdE.none {w : World} {es : List Ent} (h : RdE w none es) : es = [] := by
  rcases h with h | ⟨b, off, h, _⟩
  · exact h
  · cases h
theorem RdE.news {w : World} {a : Option Addr} {es : List Ent} (h : RdE w a es) : ∀ y, a = some y → ∀ j u, (ev4 es)[j]? = some u → w.cell? (y.add j) = some u := by
  intro y hy j u hj
  rcases h with rfl | ⟨b, off, rfl, hb, hc⟩
  · simp [ev4] at hj
  · injection hy with hy
    subst hy
    rw [addp]
    exact EAt.news hc j u hj
/-- What Chunk leaves. -/
def CH (es : List Ent) (key : ByteArray) (m : Nat) (w : World) (e : Ending) (w' : World) : Prop := ∃ a cap c next, e = .returned (.tuple #[.slice a c.length cap, .string next]) ∧ CK es key m c next ∧ RdE w' a c ∧ c.length ≤ cap ∧ Below w.heap.size w w'
end Go.Proofs.YtobhjmkaamjoeaaGreat
namespace Go.Proofs.YtobhjmkaamjoeaaGreat
open Go.RowKit
set_option linter.unusedVariables false
set_option linter.unusedSimpArgs false

def liteE (e : Ent) : Bool := decide (e.1.size ≤ 100) && decide (e.2.1.size ≤ 2048)
def liteB (es : List Ent) : Bool := (es.take 80).all liteE && decide (es.length ≤ 80)
theorem lite_yes {es : List Ent} (h : liteB es = true) : es.length ≤ 80 ∧ ∀ e ∈ es, e.1.size ≤ 100 ∧ e.2.1.size ≤ 2048 := by
  unfold liteB at h
  simp only [Bool.and_eq_true, decide_eq_true_eq] at h
  refine ⟨h.2, fun e he => ?_⟩
  rw [List.take_of_length_le h.2, List.all_eq_true] at h
  have := h.1 e he
  unfold liteE at this
  simpa using this
set_option maxRecDepth 100000 in
set_option maxHeartbeats 4000000 in
theorem light_any (a : Option Addr) (n cap : Nat) (es : List Ent) (w : World) (hn : n ≤ 9223372036854775807) (hl : es.length = n) (h : RdE w a es) (hok : okV es) (r : Bool) (hr : liteB es = r) :
    Calls Tryz.prog 5 #[.slice a n cap] w fun e w' => e = .returned (.bool r) ∧ Below w.heap.size w w' := by
  obtain ⟨b, off, ha, hb, hc⟩ := h.at_
  rw [hl] at ha hb
  have hni : (n : Int) ≤ 9223372036854775807 := by omega
  have HC := Lib.hid hc
  have HL := Lib.hid hl
  have HO := Lib.hid hok
  have HR := Lib.hid hr
  clear hc hl hok hr h
  go_enter Tryz.func5, Tryz.ntmps5
  go_wp2
  go_loopw [3] (fun i wr => ∃ k : Nat, i = .int .i64 k ∧ k ≤ n ∧ k ≤ 80 ∧ Hid ((es.take k).all liteE = true) ∧ Hid (Below w.heap.size w wr)) (fun i _ => 80 - (intOf i).toNat)
  case atStart => exact ⟨0, rfl, by omega, by omega, Lib.hid rfl, Lib.hid (Below.refl _ _)⟩
  case round =>
    obtain ⟨k, rfl, hk, hk80, HK, HW⟩ := hrel
    by_cases hlt : k < n
    · have hki : (k : Int) < (n : Int) := by omega
      by_cases h80 : k < 80
      · obtain rfl := ha (by omega)
        have hbw := hb (by omega)
        have h80i : (k : Int) < 80 := by omega
        have hkl : k < es.length := by rw [HL.out]; exact hlt
        obtain ⟨g0, g1, g2, g3⟩ := HC.out.old hbw HW.out k hkl
        have o1 := HO.out _ (List.getElem_mem hkl)
        unfold okS at o1
        have hbr : b < wr.heap.size := Nat.lt_of_lt_of_le hbw HW.out.size
        have hnx : (es.take (k + 1)).all liteE = liteE es[k] := by rw [List.take_succ_eq_append_getElem hkl, List.all_append, HK.out]; simp
        have hno : liteE es[k] = false → liteB es = false := fun h => by
          unfold liteB
          have : (es.take 80).all liteE = false := by
            cases hb : (es.take 80).all liteE with
            | false => rfl
            | true =>
              rw [List.all_eq_true] at hb
              have := hb es[k] (List.mem_take_iff_getElem.2 ⟨k, by omega, rfl⟩)
              rw [h] at this
              cases this
          rw [this]
          rfl
        obtain ⟨E, hE⟩ : ∃ E, E = es[k] := ⟨_, rfl⟩
        rw [← hE] at g0 g1 g2 g3 o1 hnx hno
        obtain ⟨ek, evl, eg, eq⟩ := E
        clear hE
        by_cases c1 : ek.size ≤ 100
        · have c1i : (ek.size : Int) ≤ 100 := by omega
          by_cases c2 : evl.size ≤ 2048
          · have c2i : (evl.size : Int) ≤ 2048 := by omega
            have HN := Lib.hid (show (es.take (k + 1)).all liteE = true from hnx.trans (by unfold liteE; simp [c1, c2]))
            clear hnx hno
            go_wp2
            go_roundw
            case rel => exact ⟨k + 1, by go_num, by omega, by omega, HN, HW⟩
            case measure => simp [intOf]; omega
          · have c2i : (2048 : Int) < (evl.size : Int) := by omega
            have HN := Lib.hid (hno (by unfold liteE; simp [c2]))
            clear hnx hno
            go_wp2
            go_ret
            exact ⟨by rw [← HR.out, HN.out]; first | rfl | exact ret_bool (decide_eq_true (by assumption)) | exact ret_bool (by assumption), HW.out⟩
        · have c1i : (100 : Int) < (ek.size : Int) := by omega
          have HN := Lib.hid (hno (by unfold liteE; simp [c1]))
          clear hnx hno
          go_wp2
          go_ret
          exact ⟨by rw [← HR.out, HN.out]; first | rfl | exact ret_bool (decide_eq_true (by assumption)) | exact ret_bool (by assumption), HW.out⟩
      · obtain rfl : k = 80 := by omega
        have hni80 : ¬ (n : Int) ≤ 80 := by omega
        have hdn : decide ((n : Int) ≤ 80) = false := by simpa using hni80
        have HN : Hid (liteB es = false) := Lib.hid (by unfold liteB; rw [HL.out, decide_eq_false (by omega), Bool.and_false])
        go_wp2
        go_ret
        exact ⟨by rw [← HR.out, HN.out]; first | rfl | exact ret_bool (decide_eq_true (by assumption)) | exact ret_bool (by assumption), HW.out⟩
    · obtain rfl : k = n := by omega
      have hni80 : (k : Int) ≤ 80 := by omega
      have hall := HK.out
      rw [← HL.out, List.take_length] at hall
      have HN : Hid (liteB es = true) := Lib.hid (by
        unfold liteB
        rw [List.take_of_length_le (by rw [HL.out]; exact hk80), hall, HL.out, decide_eq_true hk80]
        rfl)
      clear hall
      go_wp2
      go_ret
      exact ⟨by rw [← HR.out, HN.out]; first | rfl | exact ret_bool (decide_eq_true (by assumption)) | exact ret_bool (by assumption), HW.out⟩
theorem insE_okV : ∀ (es : List Ent) (x : Ent), okV es → (okS x.1 ∧ okS x.2.1) → okV (insE es x)
  | [], x, _, hx => fun e he => by
    simp only [insE, List.mem_singleton] at he
    subst he
    exact hx
  | y :: es, x, h, hx => by
    have hy := h y (by simp)
    have hes : okV es := fun e he => h e (by simp [he])
    unfold insE
    split
    · intro e he
      rcases List.mem_cons.1 he with rfl | he
      · exact hy
      · exact insE_okV es x hes hx e he
    · split
      · intro e he
        rcases List.mem_cons.1 he with rfl | he
        · exact hx
        · exact h e he
      · intro e he
        rcases List.mem_cons.1 he with rfl | he
        · exact hx
        · exact hes e he
theorem putE_length (es : List Ent) (x : Ent) : (putE es x).length ≤ es.length + 1 := by
  unfold putE
  split
  · exact insE_length es x
  · omega
theorem fold_okV : ∀ (l es : List Ent), okV l → okV es → okV (l.foldl putE es)
  | [], es, _, he => he
  | x :: l, es, hl, he => by
    have hx := hl x (by simp)
    refine fold_okV l (putE es x) (fun e h => hl e (by simp [h])) ?_
    unfold putE
    split
    · exact insE_okV es x he hx
    · exact he
/-- Entries that may be a block's, out of any. -/
def madeT (l : List Ent) : List Ent := l.foldl putE []
theorem madeT_okV {l : List Ent} (h : okV l) : okV (madeT l) := fold_okV _ [] h (fun e he => by simp at he)
theorem madeT_ok (l : List Ent) (h : l.length ≤ 80) : okB (madeT l) = true ∧ (madeT l).length ≤ 80 := by
  obtain ⟨h1, h2⟩ := fold_made l [] rfl
  have h3 : (madeT l).length ≤ 80 := by
    unfold madeT
    simp only [List.length_nil] at h2
    omega
  exact ⟨okB_iff.2 ⟨by omega, h1⟩, h3⟩
theorem madeT_snoc (l : List Ent) (k : Nat) (h : k < l.length) : (l.take (k + 1)).foldl putE [] = putE ((l.take k).foldl putE []) l[k] := by
  rw [List.take_succ_eq_append_getElem h, List.foldl_append]
  rfl
set_option maxRecDepth 100000 in
set_option maxHeartbeats 4000000 in
theorem madeT_any (a : Option Addr) (n cap : Nat) (es : List Ent) (w : World) (hn : n ≤ 80) (hl : es.length = n) (h : RdE w a es) (hok : okV es) :
    Calls Tryz.prog 9 #[.slice a n cap] w (P1 (madeT es) w) := by
  obtain ⟨b, off, ha, hb, hc⟩ := h.at_
  rw [hl] at ha hb
  have HC := Lib.hid hc
  have HL := Lib.hid hl
  have HO := Lib.hid hok
  clear hc hl hok h
  go_enter Tryz.func9, Tryz.ntmps9
  go_wp2
  go_loopw [3, 4] (fun v i wr => ∃ (k m c : Nat) (d : Option Addr), i = .int .i64 k ∧ k ≤ n ∧ v = .slice d m c ∧ m ≤ k ∧ Hid (SE wr d m c ((es.take k).foldl putE [])) ∧ Hid (Below w.heap.size w wr)) (fun _ i _ => 80 - (intOf i).toNat)
  case atStart => exact ⟨0, 0, 0, none, rfl, by omega, rfl, by omega, Lib.hid ⟨rfl, .inl rfl, Nat.le_refl _, Nat.zero_le _⟩, Lib.hid (Below.refl _ _)⟩
  case round =>
    obtain ⟨k, m, c, d, rfl, hk, rfl, hm, HS, HW⟩ := hrel
    by_cases hlt : k < n
    · have hki : (k : Int) < (n : Int) := by omega
      obtain rfl := ha (by omega)
      have hbw := hb (by omega)
      have hkl : k < es.length := by rw [HL.out]; exact hlt
      obtain ⟨g0, g1, g2, g3⟩ := HC.out.old hbw HW.out k hkl
      have o1 := HO.out _ (List.getElem_mem hkl)
      have hbr : b < wr.heap.size := Nat.lt_of_lt_of_le hbw HW.out.size
      have hsn := madeT_snoc es k hkl
      obtain ⟨E, hE⟩ : ∃ E, E = es[k] := ⟨_, rfl⟩
      rw [← hE] at g0 g1 g2 g3 o1 hsn
      obtain ⟨ek, evl, eg, eq⟩ := E
      have HSN := Lib.hid hsn
      have hlen : (putE ((es.take k).foldl putE []) (ek, evl, eg, eq)).length ≤ m + 1 := by
        have := HS.out.1
        have := putE_length ((es.take k).foldl putE []) (ek, evl, eg, eq)
        omega
      have HLn := Lib.hid hlen
      have HO1 := Lib.hid o1
      clear hE hsn hlen o1
      go_wp2_with fail
      refine (put1_any d m c _ ek evl eg eq _ (by omega) HS.out HO1.out.1 HO1.out.2).mono ?_
      rintro e w2 ⟨d', m', c', rfl, s2, b2⟩
      have HS2 : Hid (SE w2 d' m' c' ((es.take (k + 1)).foldl putE [])) := Lib.hid (by rw [HSN.out]; exact s2)
      have hm2 : m' ≤ k + 1 := by have := HLn.out; rw [s2.1] at this; omega
      have HW2 := Lib.hid (HW.out.trans (b2.mono HW.out.size))
      clear s2 b2
      go_wp2
      go_roundw
      case rel => exact ⟨k + 1, m', c', d', by go_num, by omega, rfl, hm2, HS2, HW2⟩
      case measure => simp [intOf]; omega
    · obtain rfl : k = n := by omega
      have HN : Hid (madeT es = (es.take k).foldl putE []) := Lib.hid (by unfold madeT; rw [← HL.out, List.take_length])
      go_wp2
      go_ret
      exact ⟨d, m, c, rfl, by rw [HN.out]; exact HS.out, HW.out⟩
/-- What opened leaves. -/
def OD (ms : List Ent) (w : World) (e : Ending) (w' : World) : Prop := Below w.heap.size w w' ∧ ∃ a n cap, SE w' a n cap ms ∧
  ((ms = [] ∧ e = .returned (.tuple #[.pointer none, .slice none 0 0, .bool true])) ∨ (0 < n ∧ ∃ T, e = .returned (.tuple #[.pointer (some ⟨T, 0, none⟩), .slice a n cap, .bool true]) ∧ TabAt w' T ms))
theorem SE.old {w w' : World} {a : Option Addr} {n cap : Nat} {es : List Ent} (h : SE w a n cap es) (hb : Below w.heap.size w w') : SE w' a n cap es := ⟨h.1, h.2.1.old hb, h.2.2.1, h.2.2.2⟩
end Go.Proofs.YtobhjmkaamjoeaaGreat
namespace Go.Proofs.YtobhjmkaamjoeaaGreat
set_option maxRecDepth 100000
open Go.RowKit
set_option linter.unusedVariables false
set_option linter.unusedSimpArgs false

def awT : List Ent := [(⟨#[97]⟩, ⟨#[120]⟩, false, 3), (⟨#[98]⟩, ⟨#[]⟩, true, 2)]
theorem awT_ok : okT awT = true := by decide +kernel
theorem awT_find : findB awT ⟨#[97]⟩ 9 = some (⟨#[97]⟩, ⟨#[120]⟩, false, 3) := by
  unfold findB awT
  rw [List.find?_cons_of_pos]
  exact isE_iff.2 ⟨rfl, by decide⟩
theorem awT_may : mayT awT true ⟨#[97]⟩ = true := by
  unfold mayT
  rw [Bool.true_and]
  decide +kernel
theorem awT_clip : clipL ⟨#[]⟩ ⟨#[]⟩ awT = awT := by
  unfold clipL
  rw [List.filter_eq_self]
  decide +kernel
theorem awT_okV : okV awT := by
  intro e he
  simp only [awT, List.mem_cons, List.not_mem_nil, or_false] at he
  rcases he with rfl | rfl
  · exact ⟨by unfold okS; decide, by unfold okS; decide⟩
  · exact ⟨by unfold okS; decide, by unfold okS; decide⟩
abbrev awObjT : Obj := .cells #[.string ⟨#[97]⟩, .string ⟨#[120]⟩, .bool false, .int .i64 3, .string ⟨#[98]⟩, .string ⟨#[]⟩, .bool true, .int .i64 2] 41
theorem awT_rd (w : World) : RdE (w.alloc awObjT) (some ⟨w.heap.size, 0, none⟩) awT := by
  have hh : (w.alloc awObjT).heap[w.heap.size]? = some awObjT := heap_alloc_new w _
  refine .inr ⟨w.heap.size, 0, rfl, heap_lt hh, fun i hi => ?_⟩
  have hi2 : i < 2 := hi
  match i, hi2 with
  | 0, _ => exact ⟨by rw [Lib.cell_of_heap hh]; rfl, by rw [Lib.cell_of_heap hh]; rfl, by rw [Lib.cell_of_heap hh]; rfl, by rw [Lib.cell_of_heap hh]; rfl⟩
  | 1, _ => exact ⟨by rw [Lib.cell_of_heap hh]; rfl, by rw [Lib.cell_of_heap hh]; rfl, by rw [Lib.cell_of_heap hh]; rfl, by rw [Lib.cell_of_heap hh]; rfl⟩
theorem keepT {W a b : World} {c g : Nat} {k v k' v' : ByteArray} {t t' : Bool} {q q' : Int} (h : EBox a c k v t q ∧ EBox a g k' v' t' q' ∧ Below W.heap.size W a) (hb : Below a.heap.size a b) :
    EBox b c k v t q ∧ EBox b g k' v' t' q' ∧ Below W.heap.size W b := ⟨h.1.below hb, h.2.1.below hb, h.2.2.trans (hb.mono h.2.2.size)⟩
/-- Range of a table whose clip is known, its length by a number. -/
theorem trange_at (v : Value) (es : List Ent) (g : Bool) (lo hi : ByteArray) (h1 : okS lo) (h2 : okS hi) (m : Nat) (L : List Ent) (hL : clipL lo hi es = L) (hm : L.length = m) (w : World) (h : TP w v es g) :
    Calls Tryz.prog 14 #[v, .agg #[.string lo, .string hi]] w fun e w' => ∃ a' c', e = .returned (.slice a' m c') ∧ RdE w' a' L ∧ Below w.heap.size w w' := by
  have := trange_any v es g lo hi h1 h2 w h
  unfold CL at this
  rw [hL, hm] at this
  exact this
set_option maxHeartbeats 8000000 in
theorem awakeT_any (w : World) : Calls Tryz.prog 6 #[] w fun e w' => e = .returned (.bool true) ∧ Below w.heap.size w w' := by
  have HRd := Lib.hid (awT_rd w)
  have HW0 : Hid (Below w.heap.size w (w.alloc awObjT)) := Lib.hid ((Below.refl _ _).alloc (Nat.le_refl _) _)
  have HP := Lib.hid (tbuild_any (some ⟨w.heap.size, 0, none⟩) 2 2 awT (w.alloc awObjT) (by decide) rfl (by decide) (awT_rd w) awT_okV)
  go_enter Tryz.func6, Tryz.ntmps6
  go_wp2_with fail
  refine HP.out.mono ?_
  rintro e w1 ⟨rfl, b1⟩
  rw [if_pos awT_ok]
  have HW1 := Lib.hid (HW0.out.trans (b1.mono HW0.out.size))
  have HR1 := Lib.hid (HRd.out.old b1)
  have hbl := buildT_len (okT_iff.1 awT_ok).2
  obtain ⟨s, hs⟩ : ∃ s : ByteArray, s = ⟨(buildT awT).toArray⟩ := ⟨_, rfl⟩
  have hss : s.size ≤ 16777216 := by rw [hs, size_mkl]; omega
  have hop := fun w => topen_any s w hss
  have hsl : s.data.toList = buildT awT := by rw [hs]
  rw [hsl, openT_put awT_ok] at hop
  have HOP := Lib.hid hop
  rw [← hs]
  clear hbl hs hss hop hsl b1 HP HRd HW0
  go_wp2_with fail
  refine (HOP.out _).mono ?_
  rintro e w2 ⟨h1, _, b2⟩
  obtain ⟨T, rfl, ht, hTw⟩ := h1 awT rfl
  have HW2 := Lib.hid (HW1.out.trans (b2.mono HW1.out.size))
  have HR2 := Lib.hid (HR1.out.old b2)
  have HT2 : Hid (TP w2 (.pointer (some ⟨T, 0, none⟩)) awT true) := Lib.hid (.inl ⟨rfl, T, rfl, ht⟩)
  clear h1 b2 ht hTw HOP HW1 HR1
  go_wp2_with fail
  refine (tget_any _ awT true ⟨#[97]⟩ 9 _ HT2.out).mono ?_
  rintro e w3 ⟨rfl, b3⟩
  rw [awT_find]
  rw [show fnd (some (⟨#[97]⟩, ⟨#[120]⟩, false, 3)) = .tuple #[.agg #[.string ⟨#[97]⟩, .string ⟨#[120]⟩, .bool false, .int .i64 3], .bool true] from rfl]
  have HW3 := Lib.hid (HW2.out.trans (b3.mono HW2.out.size))
  have HR3 := Lib.hid (HR2.out.old b3)
  have HT3 := Lib.hid (HT2.out.old b3)
  have HA3 : Hid (Below w3.heap.size w3 (w3.alloc (.cells #[.string ⟨#[97]⟩, .string ⟨#[120]⟩, .bool false, .int .i64 3] 41))) := Lib.hid ((Below.refl _ _).alloc (Nat.le_refl _) _)
  have hx3 := EBox.new w3 41 ⟨#[97]⟩ ⟨#[120]⟩ false 3
  clear b3 HR2 HT2 HW2
  obtain ⟨W, hW⟩ : ∃ W, W = w3.alloc (.cells #[.string ⟨#[97]⟩, .string ⟨#[120]⟩, .bool false, .int .i64 3] 41) := ⟨_, rfl⟩
  rw [← hW] at HA3 hx3
  have HR4 := Lib.hid (HR3.out.old HA3.out)
  have HT4 := Lib.hid (HT3.out.old HA3.out)
  have HW4 := Lib.hid (HW3.out.trans (HA3.out.mono HW3.out.size))
  have HX4 := Lib.hid hx3
  clear HR3 HT3 HA3 hx3
  have HE := Lib.hid (tends_any _ awT true W HT4.out)
  go_wp2_with fail
  rw [← hW]
  refine HE.out.mono ?_
  rintro e w5 ⟨rfl, b5⟩
  rw [show endsE awT = (⟨#[97]⟩, ⟨#[98]⟩) from rfl]
  have HR5 := Lib.hid (HR4.out.old b5)
  have HT5 := Lib.hid (HT4.out.old b5)
  have HW5 := Lib.hid (HW4.out.trans (b5.mono HW4.out.size))
  obtain ⟨x0, x1, x2, x3, x4⟩ := HX4.out.below b5
  clear hW b5 HR4 HT4 HW4 HX4 HE
  have HL := Lib.hid fun (wx : World) (hx : Below w5.heap.size w5 wx) => tlen_any _ awT true wx (HT5.out.old hx)
  rw [show ((awT.length : Nat) : Int) = 2 from rfl] at HL
  have HM := Lib.hid fun (wx : World) (hx : Below w5.heap.size w5 wx) => tmayk_any _ awT true ⟨#[97]⟩ wx (by decide) (HT5.out.old hx)
  rw [awT_may] at HM
  obtain ⟨b, off, hbo, hbl, hcc⟩ := HR5.out.at_
  obtain rfl : b = w.heap.size := by have := hbo (by decide); simp at this; exact this.1.symm
  obtain rfl : off = 0 := by have := hbo (by decide); simp at this; exact this.symm
  have hbl' := hbl (by decide)
  have g0 := hcc 0 (by decide)
  simp only [awT, List.getElem_cons_zero, List.getElem_cons_succ] at g0
  obtain ⟨g00, g01, g02, g03⟩ := g0
  simp only [Nat.zero_mul, Nat.zero_add, Nat.one_mul] at g00 g01 g02 g03
  clear hbo hbl hcc
  go_wp2
  have HXG : Hid (EBox w5 w3.heap.size ⟨#[97]⟩ ⟨#[120]⟩ false 3 ∧ EBox w5 w.heap.size ⟨#[97]⟩ ⟨#[120]⟩ false 3) := Lib.hid ⟨⟨x0, x1, x2, x3, x4⟩, ⟨g00, g01, g02, g03, hbl'⟩⟩
  go_region_held3 (fun w' => (w'.cell? ⟨w3.heap.size, 0, none⟩ = some (.string ⟨#[97]⟩) ∧ w'.cell? ⟨w3.heap.size, 1, none⟩ = some (.string ⟨#[120]⟩) ∧ w'.cell? ⟨w3.heap.size, 2, none⟩ = some (.bool false) ∧ w'.cell? ⟨w3.heap.size, 3, none⟩ = some (.int .i64 3) ∧ w3.heap.size < w'.heap.size) ∧ (w'.cell? ⟨w.heap.size, 0, none⟩ = some (.string ⟨#[97]⟩) ∧ w'.cell? ⟨w.heap.size, 1, none⟩ = some (.string ⟨#[120]⟩) ∧ w'.cell? ⟨w.heap.size, 2, none⟩ = some (.bool false) ∧ w'.cell? ⟨w.heap.size, 3, none⟩ = some (.int .i64 3) ∧ w.heap.size < w'.heap.size) ∧ Below w5.heap.size w5 w')
    (first | assumption | exact keepT (by assumption) (by assumption) | exact ⟨HXG.out.1, HXG.out.2, (Below.refl _ _).drew⟩)
    (first
      | (go_at_call 12; (with_reducible refine (HL.out _ (And.right (And.right (by assumption)))).mono ?_); rintro e w' ⟨rfl, bb⟩)
      | (go_at_call 17; (with_reducible refine (HM.out _ (And.right (And.right (by assumption)))).mono ?_); rintro e w' ⟨rfl, bb⟩)
      | (go_at_call 14; (with_reducible refine (trange_at _ awT true _ _ (by unfold okS; decide) (by unfold okS; decide) 2 awT awT_clip rfl _ (HT5.out.old (And.right (And.right (by assumption))))).mono ?_); rintro e w' ⟨a', c', rfl, rr, bb⟩)
      | (go_at_call 13; refine (samee_any _ _ 2 _ _ awT _ ?_ ?_ (by omega) rfl).mono ?_; (first | assumption | exact RdE.old (by assumption) (by assumption)); (exact HR5.out.old (And.right (And.right (by assumption)))); rintro e w' ⟨rfl, bb⟩))
  all_goals
    go_wp2
    go_ret
    exact ⟨rfl, HW5.out.trans ((by assumption : _ ∧ _ ∧ Below w5.heap.size w5 _).2.2.mono HW5.out.size)⟩
end Go.Proofs.YtobhjmkaamjoeaaGreat
namespace Go.Proofs.YtobhjmkaamjoeaaGreat
set_option maxRecDepth 100000
open Go.RowKit
set_option linter.unusedVariables false
set_option linter.unusedSimpArgs false

theorem find_own {es : List Ent} (hc : chainE zE es = true) (k : Nat) (hk : k < es.length) : findB es es[k].1 es[k].2.2.2 = some es[k] := by
  unfold findB
  rw [find_skip es _ k (fun j hj hjk => ?_), List.drop_eq_getElem_cons hk, List.find?_cons_of_pos]
  · exact isE_iff.2 ⟨rfl, Int.le_refl _⟩
  · cases hi : isE es[k].1 es[k].2.2.2 es[j] with
    | false => rfl
    | true =>
      obtain ⟨h1, h2⟩ := isE_iff.1 hi
      have h3 := chain_drop j (by omega) hc
      have h4 := chain_ahead h3 es[k] (by
        rw [List.mem_iff_getElem]
        refine ⟨k - (j + 1), by rw [List.length_drop]; omega, ?_⟩
        rw [List.getElem_drop]
        congr 1
        omega)
      rw [less_same h1] at h4
      have h5 : es[k].2.2.2 < es[j].2.2.2 := of_decide_eq_true h4
      omega
theorem keysT_has {es : List Ent} {e : Ent} (h : e ∈ es) : e.1.data.toList ∈ keysT es := by
  rcases keysG_has es none e h with h | h
  · exact h
  · cases h
theorem mayT_has {es : List Ent} {e : Ent} (h : e ∈ es) : mayT es true e.1 = true := by
  unfold mayT
  rw [Bool.true_and]
  exact has_makeL (keysT_has h)
theorem mayT_find {es : List Ent} {key : ByteArray} {at_ : Int} {e : Ent} (h : findB es key at_ = some e) : mayT es true key = true := by
  have h1 := List.mem_of_find?_eq_some h
  have h2 := List.find?_some h
  rw [← (isE_iff.1 h2).1]
  exact mayT_has h1
theorem keepM {a b : World} {g i j : Nat} {u v : Value} {W : World} (h : (a.cell? ⟨g, i, none⟩ = some u ∧ a.cell? ⟨g, j, none⟩ = some v) ∧ Below W.heap.size W a) (hb : Below W.heap.size a b) (hg : g < W.heap.size) :
    (b.cell? ⟨g, i, none⟩ = some u ∧ b.cell? ⟨g, j, none⟩ = some v) ∧ Below W.heap.size W b :=
  ⟨⟨(hb.cell (p := ⟨g, i, none⟩) hg).trans h.1.1, (hb.cell (p := ⟨g, j, none⟩) hg).trans h.1.2⟩, h.2.trans hb⟩
theorem m_none {w w' : World} (h : Below w.drew.heap.size w.drew w') : Below w.heap.size w w' := ((Below.refl _ w).drew).trans h
theorem m_one {w w' : World} (h : Below (w.alloc (.cells #[.string ⟨#[]⟩, .string ⟨#[]⟩, .bool false, .int .i64 0] 41)).drew.heap.size (w.alloc (.cells #[.string ⟨#[]⟩, .string ⟨#[]⟩, .bool false, .int .i64 0] 41)).drew w') :
    Below w.heap.size w w' ∧ EBox w' w.heap.size ⟨#[]⟩ ⟨#[]⟩ false 0 ∧ EFree w' w.heap.size := by
  have h' : Below (w.alloc (.cells #[.string ⟨#[]⟩, .string ⟨#[]⟩, .bool false, .int .i64 0] 41)).heap.size (w.alloc (.cells #[.string ⟨#[]⟩, .string ⟨#[]⟩, .bool false, .int .i64 0] 41)) w' := ((Below.refl _ _).drew).trans h
  exact ⟨below_al h', (EBox.new w 41 ⟨#[]⟩ ⟨#[]⟩ false 0).below h', (EFree.new w ⟨#[]⟩ ⟨#[]⟩ false 0 41).below (by simp) h'⟩
end Go.Proofs.YtobhjmkaamjoeaaGreat
