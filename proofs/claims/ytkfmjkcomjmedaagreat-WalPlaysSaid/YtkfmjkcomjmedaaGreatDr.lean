/-
  Layer 5 (fs), contracts of Sync, Rename, Remove, Read, Sure, Fuse, Off, New. Conditions: texts within the form's reach.
-/
import Derived.Test.YtkfmjkcomjmedaaGreatQ8
namespace Go.Proofs.YtkfmjkcomjmedaaGreat
open Go.RowKit Go.Lib
set_option linter.unusedVariables false

set_option maxRecDepth 100000 in
set_option maxHeartbeats 2000000 in
theorem sync_any {own : Nat → Prop} {w : World} {d : Nat} {S : Ds} (h : DiskAt own w d S) (name : ByteArray) (hn : name.size ≤ maxLen) :
    Calls Tryz.prog 48 #[.pointer (some ⟨d, 0, none⟩), .string name] w fun e w' => e = .returned (.int .i64 (S.sync name.data.toList).2) ∧ DiskAt own w' d (S.sync name.data.toList).1 ∧ Keeps own w w' := by
  obtain ⟨m, G, h, hF⟩ := h
  have A := change1 h name hn
  have hc := chg_cases hF (namL name.data.toList) name.data.toList
  have HF := Lib.hid hF
  clear h hF
  unfold Ds.sync
  rcases hc with ⟨g, hg, h0, hgS, hX⟩ | ⟨X, hX3, hP, hE, hX⟩
  · rw [h0, hg] at A
    simp only [chgP, chgE, findP, findE, if_true] at A
    rw [if_pos hX, hgS]
    dsimp only
    have HG := Lib.hid hg
    have A := Lib.hid A
    clear h0 hX hgS hg
    go_enter Tryz.func48, Tryz.ntmps48
    go_wp2_with fail
    refine A.out.mono ?_
    rintro e w1 ⟨rfl, h1, k1⟩
    obtain ⟨a, cap, c0, c1, f0, f1, lt, ho, hob, hsu, hle, hh⟩ := h1.fileCells HG.out
    have H1 := Lib.hid h1
    have K1 := Lib.hid k1
    clear h1 k1 ho hob hh
    go_wp2
    go_ret
    obtain ⟨h5, k5⟩ := H1.out.reSure HG.out g.fl.bytes.length (Nat.le_refl _)
    exact ⟨rfl, ⟨m, _, h5, by rw [mapL_setL, HF.out]⟩, K1.out.trans k5⟩
  · rw [hP, hE] at A
    rw [hX, if_neg (show ¬ X = 0 by omega)]
    clear hP hE hX
    rcases hX3 with rfl | rfl | rfl
    all_goals
      go_enter Tryz.func48, Tryz.ntmps48
      go_wp2_with fail
      refine A.mono ?_
      rintro e w1 ⟨rfl, h1, k1⟩
      have H1 := Lib.hid h1
      have K1 := Lib.hid k1
      clear h1 k1 A
      go_wp2
      go_ret
      exact ⟨rfl, ⟨m, G, H1.out, HF.out⟩, K1.out⟩

set_option maxRecDepth 100000 in
set_option maxHeartbeats 2000000 in
theorem remove_any {own : Nat → Prop} {w : World} {d : Nat} {S : Ds} (h : DiskAt own w d S) (name : ByteArray) (hn : name.size ≤ maxLen) :
    Calls Tryz.prog 64 #[.pointer (some ⟨d, 0, none⟩), .string name] w fun e w' => e = .returned (.int .i64 (S.remove name.data.toList).2) ∧ DiskAt own w' d (S.remove name.data.toList).1 ∧ Keeps own w w' := by
  obtain ⟨m, G, h, hF⟩ := h
  have A := change1 h name hn
  have hc := chg_cases hF (namL name.data.toList) name.data.toList
  have hkey : keyOf Tryz.prog 9 (.string name) = some (.string name.data.toList) := WideMaps.keyOf_string_mk Tryz.underlying9 hn
  have HK := Lib.hid hkey
  have HF := Lib.hid hF
  clear h hF hkey
  unfold Ds.remove
  rcases hc with ⟨g, hg, h0, hgS, hX⟩ | ⟨X, hX3, hP, hE, hX⟩
  · rw [h0, hg] at A
    simp only [chgP, chgE, findP, findE, if_true] at A
    rw [if_pos hX]
    dsimp only
    have HG := Lib.hid hg
    have A := Lib.hid A
    clear h0 hX hgS hg
    go_enter Tryz.func64, Tryz.ntmps64
    go_wp2_with fail
    refine A.out.mono ?_
    rintro e w1 ⟨rfl, h1, k1⟩
    obtain ⟨c0, c1, c2, c3, f2, f3, lt⟩ := h1.cells
    have HM := Lib.hid h1.mp
    have H1 := Lib.hid h1
    have K1 := Lib.hid k1
    clear h1 k1
    go_wp2_with (at_delete; refine wpList_delete_own _ rfl _ _ 47 9 rfl 83 (Maps.string_keyed Tryz.underlying9) Tryz.underlying47 fR m _ _ rfl HM.out _ _ rfl HK.out ?_; intro w2 o2 t2; have O2 := Lib.hid o2; have T2 := Lib.hid t2; clear o2 t2)
    go_ret
    have o2 := O2.out
    rw [fD_del] at o2
    have g2 := T2.out.grown
    exact ⟨rfl, ⟨m, _, H1.out.delFile g2 o2, by rw [mapL_delL, HF.out]⟩, K1.out.trans (H1.out.mapKeeps g2)⟩
  · rw [hP, hE] at A
    rw [hX, if_neg (show ¬ X = 0 by omega)]
    clear hP hE hX
    rcases hX3 with rfl | rfl | rfl
    all_goals
      go_enter Tryz.func64, Tryz.ntmps64
      go_wp2_with fail
      refine A.mono ?_
      rintro e w1 ⟨rfl, h1, k1⟩
      have H1 := Lib.hid h1
      have K1 := Lib.hid k1
      clear h1 k1 A
      go_wp2
      go_ret
      exact ⟨rfl, ⟨m, G, H1.out, HF.out⟩, K1.out⟩

end Go.Proofs.YtkfmjkcomjmedaaGreat
