/-
  Layer 5 (fs), contracts of Sync, Rename, Remove, Read, Sure, Fuse, Off, New. Conditions: texts within the form's reach.
-/
import Derived.Test.YtoidfjglimafbaaDq
namespace Go.Proofs.Ytoidfjglimafbaa
open Go.RowKit Go.Lib
set_option linter.unusedVariables false

set_option maxRecDepth 100000 in
set_option maxHeartbeats 2000000 in
theorem sync_any {own : Nat → Prop} {w : World} {d : Nat} {S : Ds} (h : DiskAt own w d S) (name : ByteArray) (hn : name.size ≤ maxLen) :
    Calls Try.prog 12 #[.pointer (some ⟨d, 0, none⟩), .string name] w fun e w' => e = .returned (.int .i64 (S.sync name.data.toList).2) ∧ DiskAt own w' d (S.sync name.data.toList).1 ∧ Keeps own w w' := by
  obtain ⟨m, G, h, hF⟩ := h
  have A := change1 h name hn
  have hc := chg_cases hF (namL name.data.toList) name.data.toList
  have HF := Lib.hid hF
  clear h hF
  unfold Ds.sync
  rcases hc with ⟨g, hg, h0, hgS, hX⟩ | ⟨X, hX3, hP, hE, hX⟩
  · rw [h0, hg] at A
    simp only [chgP, chgE, findP, findE, if_true] at A
    rw [if_pos hX, hgS]
    dsimp only
    have HG := Lib.hid hg
    have A := Lib.hid A
    clear h0 hX hgS hg
    go_enter Try.func12, Try.ntmps12
    go_wp2_with fail
    refine A.out.mono ?_
    rintro e w1 ⟨rfl, h1, k1⟩
    obtain ⟨a, cap, c0, c1, f0, f1, lt, ho, hob, hsu, hle, hh⟩ := h1.fileCells HG.out
    have H1 := Lib.hid h1
    have K1 := Lib.hid k1
    clear h1 k1 ho hob hh
    go_wp2
    go_ret
    obtain ⟨h5, k5⟩ := H1.out.reSure HG.out g.fl.bytes.length (Nat.le_refl _)
    exact ⟨rfl, ⟨m, _, h5, by rw [mapL_setL, HF.out]⟩, K1.out.trans k5⟩
  · rw [hP, hE] at A
    rw [hX, if_neg (show ¬ X = 0 by omega)]
    clear hP hE hX
    rcases hX3 with rfl | rfl | rfl
    all_goals
      go_enter Try.func12, Try.ntmps12
      go_wp2_with fail
      refine A.mono ?_
      rintro e w1 ⟨rfl, h1, k1⟩
      have H1 := Lib.hid h1
      have K1 := Lib.hid k1
      clear h1 k1 A
      go_wp2
      go_ret
      exact ⟨rfl, ⟨m, G, H1.out, HF.out⟩, K1.out⟩

set_option maxRecDepth 100000 in
set_option maxHeartbeats 2000000 in
theorem remove_any {own : Nat → Prop} {w : World} {d : Nat} {S : Ds} (h : DiskAt own w d S) (name : ByteArray) (hn : name.size ≤ maxLen) :
    Calls Try.prog 22 #[.pointer (some ⟨d, 0, none⟩), .string name] w fun e w' => e = .returned (.int .i64 (S.remove name.data.toList).2) ∧ DiskAt own w' d (S.remove name.data.toList).1 ∧ Keeps own w w' := by
  obtain ⟨m, G, h, hF⟩ := h
  have A := change1 h name hn
  have hc := chg_cases hF (namL name.data.toList) name.data.toList
  have hkey : keyOf Try.prog 9 (.string name) = some (.string name.data.toList) := WideMaps.keyOf_string_mk Try.underlying9 hn
  have HK := Lib.hid hkey
  have HF := Lib.hid hF
  clear h hF hkey
  unfold Ds.remove
  rcases hc with ⟨g, hg, h0, hgS, hX⟩ | ⟨X, hX3, hP, hE, hX⟩
  · rw [h0, hg] at A
    simp only [chgP, chgE, findP, findE, if_true] at A
    rw [if_pos hX]
    dsimp only
    have HG := Lib.hid hg
    have A := Lib.hid A
    clear h0 hX hgS hg
    go_enter Try.func22, Try.ntmps22
    go_wp2_with fail
    refine A.out.mono ?_
    rintro e w1 ⟨rfl, h1, k1⟩
    obtain ⟨c0, c1, c2, c3, f2, f3, lt⟩ := h1.cells
    have HM := Lib.hid h1.mp
    have H1 := Lib.hid h1
    have K1 := Lib.hid k1
    clear h1 k1
    go_wp2_with (at_delete; refine wpList_delete_own _ rfl _ _ 45 9 rfl 52 (Maps.string_keyed Try.underlying9) Try.underlying45 fR m _ _ rfl HM.out _ _ rfl HK.out ?_; intro w2 o2 t2; have O2 := Lib.hid o2; have T2 := Lib.hid t2; clear o2 t2)
    go_ret
    have o2 := O2.out
    rw [fD_del] at o2
    have g2 := T2.out.grown
    exact ⟨rfl, ⟨m, _, H1.out.delFile g2 o2, by rw [mapL_delL, HF.out]⟩, K1.out.trans (H1.out.mapKeeps g2)⟩
  · rw [hP, hE] at A
    rw [hX, if_neg (show ¬ X = 0 by omega)]
    clear hP hE hX
    rcases hX3 with rfl | rfl | rfl
    all_goals
      go_enter Try.func22, Try.ntmps22
      go_wp2_with fail
      refine A.mono ?_
      rintro e w1 ⟨rfl, h1, k1⟩
      have H1 := Lib.hid h1
      have K1 := Lib.hid k1
      clear h1 k1 A
      go_wp2
      go_ret
      exact ⟨rfl, ⟨m, G, H1.out, HF.out⟩, K1.out⟩

set_option maxRecDepth 100000 in
set_option maxHeartbeats 2000000 in
theorem rename_any {own : Nat → Prop} {w : World} {d : Nat} {S : Ds} (h : DiskAt own w d S) (name to : ByteArray) (hn : name.size ≤ maxLen) (ht : to.size ≤ maxLen) :
    Calls Try.prog 20 #[.pointer (some ⟨d, 0, none⟩), .string name, .string to] w fun e w' => e = .returned (.int .i64 (S.rename name.data.toList to.data.toList).2) ∧ DiskAt own w' d (S.rename name.data.toList to.data.toList).1 ∧ Keeps own w w' := by
  obtain ⟨m, G, h, hF⟩ := h
  have A := change2 h name to hn ht
  have hc := chg_cases hF (namL name.data.toList && namL to.data.toList) name.data.toList
  have hkey : keyOf Try.prog 9 (.string name) = some (.string name.data.toList) := WideMaps.keyOf_string_mk Try.underlying9 hn
  have hkey2 : keyOf Try.prog 9 (.string to) = some (.string to.data.toList) := WideMaps.keyOf_string_mk Try.underlying9 ht
  have HK := Lib.hid hkey
  have HK2 := Lib.hid hkey2
  have HF := Lib.hid hF
  clear h hF hkey hkey2
  unfold Ds.rename
  rcases hc with ⟨g, hg, h0, hgS, hX⟩ | ⟨X, hX3, hP, hE, hX⟩
  · rw [h0, hg] at A
    simp only [chgP, chgE, findP, findE, if_true] at A
    rw [if_pos hX, hgS]
    dsimp only
    have HG := Lib.hid hg
    have A := Lib.hid A
    clear h0 hX hgS hg
    go_enter Try.func20, Try.ntmps20
    go_wp2_with fail
    refine A.out.mono ?_
    rintro e w1 ⟨rfl, h1, k1⟩
    obtain ⟨c0, c1, c2, c3, f2, f3, lt⟩ := h1.cells
    have HM := Lib.hid h1.mp
    have H1 := Lib.hid h1
    have K1 := Lib.hid k1
    clear h1 k1
    go_wp2_with (first
      | (at_delete; refine wpList_delete_own _ rfl _ _ 45 9 rfl 52 (Maps.string_keyed Try.underlying9) Try.underlying45 fR m _ _ rfl HM.out _ _ rfl HK.out ?_; intro w2 o2 t2; rw [fD_del] at o2; (have h2 := H1.out.delFile t2.grown o2); (have d1 : w2.cell? ⟨d, 1, none⟩ = some (.map (some m)) := h2.cells.c1); (have lt2 : d < w2.heap.size := h2.d_lt); (have H2 := Lib.hid h2); (have O2 := Lib.hid h2.mp); (have T2 := Lib.hid t2.grown); clear o2 t2 h2)
      | (at_mapUpdate; refine wpList_mapUpdate_own _ rfl _ _ _ 45 rfl 9 52 (Maps.string_keyed Try.underlying9) Try.underlying45 fR m _ _ rfl O2.out (by unfold maxLen; have := H2.out.len; omega) _ _ _ rfl rfl HK2.out (.lit (.int .i64 ((g.blk : Nat) : Int))) [] rfl ?_; intro w4 o4 g4))
    go_ret
    have hin : (name.data.toList, g) ∈ G := (getL_iff H1.out.srt).1 HG.out
    have hgf : FileAt w1 g := H1.out.file _ hin
    obtain ⟨es, c, hmo⟩ := H1.out.m_obj
    have hf2 : FileAt w2 g := hgf.same (T2.out.block _ hgf.lt (fun e => (hgf.not_map hmo).1 (Option.some.inj e))) fun r hr => T2.out.block _ (hgf.row_lt hr) (fun e => (hgf.not_map hmo).2 (e ▸ hr))
    rw [fD_put] at o4
    have hdl := length_delL H1.out.srt HG.out
    have h5 := H2.out.putFile hf2 g4 o4
      (fun p hp _ e => (mem_delL.1 hp).2 (H1.out.blk _ (mem_delL.1 hp).1 _ hin e))
      (fun p hp _ r hr e => (mem_delL.1 hp).2 (H1.out.row _ (mem_delL.1 hp).1 _ hin r hr e))
      (fun b hb => (H1.out.own b hb).2.2.2 _ hin)
      (by have := length_putL_le to.data.toList g (delL name.data.toList G); have := H1.out.len; omega)
    exact ⟨rfl, ⟨m, _, h5, by rw [mapL_putL, mapL_delL, HF.out]⟩, (K1.out.trans (H1.out.mapKeeps T2.out)).trans (H2.out.mapKeeps g4)⟩
  · rw [hP, hE] at A
    rw [hX, if_neg (show ¬ X = 0 by omega)]
    clear hP hE hX
    rcases hX3 with rfl | rfl | rfl
    all_goals
      go_enter Try.func20, Try.ntmps20
      go_wp2_with fail
      refine A.mono ?_
      rintro e w1 ⟨rfl, h1, k1⟩
      have H1 := Lib.hid h1
      have K1 := Lib.hid k1
      clear h1 k1 A
      go_wp2
      go_ret
      exact ⟨rfl, ⟨m, G, H1.out, HF.out⟩, K1.out⟩
end Go.Proofs.Ytoidfjglimafbaa
