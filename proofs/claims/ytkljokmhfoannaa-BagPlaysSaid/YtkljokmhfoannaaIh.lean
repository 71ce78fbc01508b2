/-
  Layer 15 (bag): contract of Take. Conditions: none.
-/
import Derived.Test.YtkljokmhfoannaaIg
namespace Go.Proofs.Ytkljokmhfoannaa
open Go.RowKit Go.Maps
set_option linter.unusedVariables false
set_option linter.unusedSimpArgs false

theorem Kp.set {own : Nat → Prop} {w W : World} (h : Kp own w W) {x : Nat} (hx : ¬ own x) (i : Nat) (u : Value) : Kp own w (W.setCell ⟨x, i, none⟩ u) :=
  ⟨h.os, h.tape, h.output, by have := h.size; simpa [World.setCell] using this, fun b hb => (Below.heap_setCell _ _ _ _ (fun e => hx (by rw [← show b = x from e]; exact hb))).trans (h.block b hb)⟩
theorem Kp.set3 {own : Nat → Prop} {w W : World} (h : Kp own w W) {x : Nat} (hx : ¬ own x) (u v z : Value) : Kp own w (((W.setCell ⟨x, 0, none⟩ u).setCell ⟨x, 1, none⟩ v).setCell ⟨x, 2, none⟩ z) := ((h.set hx 0 u).set hx 1 v).set hx 2 z
theorem BagAt.set3 {own : Nat → Prop} {W : World} {b n c : Nat} {q : Wq} (h : BagAt own W b n c q) {x : Nat} (hx : own x) (u v z : Value) : BagAt own (((W.setCell ⟨x, 0, none⟩ u).setCell ⟨x, 1, none⟩ v).setCell ⟨x, 2, none⟩ z) b n c q := ((h.setCell hx 0 u).setCell hx 1 v).setCell hx 2 z
def TKR (own : Nat → Prop) (w : World) (b n c : Nat) (q : Wq) (k j : Int) (e : Ending) (w' : World) : Prop :=
  e = .returned (.tuple #[lv (fndL n c q k j), .int .i64 (fndE n c q k j)]) ∧ BagAt own w' b n c (takeQ n c q k j) ∧ Kp own w w'
set_option maxRecDepth 100000 in
set_option maxHeartbeats 4000000 in
theorem take15_any {own : Nat → Prop} {w : World} {b n c : Nat} {q : Wq} (h : BagAt own w b n c q) (k j : Int) (hk : (Lit.int .i64 k).wf = true) :
    Calls Try.prog 16 #[.pointer (some ⟨b, 0, none⟩), .int .i64 k, .int .i64 j] w (TKR own w b n c q k j) := by
  have H0 := Lib.hid h
  have HK := Lib.hid hk
  obtain ⟨L, hL⟩ : ∃ L, L = fndL n c q k j := ⟨_, rfl⟩
  obtain ⟨er, her⟩ : ∃ er, er = fndE n c q k j := ⟨_, rfl⟩
  unfold TKR
  rw [← hL, ← her]
  have HL := Lib.hid hL
  have HE := Lib.hid her
  have hlb := LBox.new w zL
  have hb1 := bal (Below.refl _ w) (.cells #[.int .i64 zL.fr, .int .i64 zL.to, .string zL.tx] 39)
  obtain ⟨o1, ho1⟩ : ∃ o, o = Obj.cells #[.int .i64 zL.fr, .int .i64 zL.to, .string zL.tx] 39 := ⟨_, rfl⟩
  rw [← ho1] at hlb hb1
  have HO1 : Hid (o1 = Obj.cells #[.int .i64 0, .int .i64 0, .string ⟨#[]⟩] 39) := Lib.hid ho1
  clear hL her hk h ho1
  go_enter Try.func16, Try.ntmps16
  go_upto_region 1 with fail
  rw [← HO1.out]
  obtain ⟨xb, hxb⟩ : ∃ xb, xb = w.heap.size := ⟨_, rfl⟩
  rw [← hxb] at hlb ⊢
  have HXB := Lib.hid hxb
  obtain ⟨w1, hw1⟩ : ∃ w1, w1 = w.alloc o1 := ⟨_, rfl⟩
  rw [← hw1] at hlb hb1 ⊢
  have HF := Lib.hid (find15_any (H0.out.below hb1) k j HK.out)
  rw [← HL.out, ← HE.out] at HF
  have HB1 := Lib.hid hb1
  have HBX1 := Lib.hid hlb
  clear hw1 hxb hlb hb1
  go_upto_region 2 with (go_at_call 39; refine HF.out.mono ?_; rintro e w2 ⟨rfl, hb2⟩; unfold lv)
  have hb3 := bal hb2 (.cells #[.int .i64 L.fr, .int .i64 L.to, .string L.tx] 39)
  have hly := LBox.new w2 L
  obtain ⟨yb, hyb⟩ : ∃ yb, yb = w2.heap.size := ⟨_, rfl⟩
  obtain ⟨W2, hW2⟩ : ∃ W2, W2 = w2.alloc (.cells #[.int .i64 L.fr, .int .i64 L.to, .string L.tx] 39) := ⟨_, rfl⟩
  have hsz : W2.heap.size = w2.heap.size + 1 := by rw [hW2]; simp
  rw [← hW2] at hb3 hly ⊢
  rw [← hyb] at hly ⊢
  have hlx := HBX1.out.below hb3
  have HX := Lib.hid hlx
  have HY := Lib.hid hly
  have HBB := Lib.hid (HB1.out.trans (hb3.mono HB1.out.size))
  have HFR := Lib.hid (H0.out.fresh HBB.out)
  have hr : (w.heap.size ≤ xb ∧ xb < W2.heap.size) ∧ w.heap.size ≤ yb ∧ yb < W2.heap.size := by
    have h1 := HB1.out.size
    have h2 := hb2.size
    have h3 := hlx.lt
    rw [HXB.out] at h3 ⊢
    rw [hyb, hsz]
    rw [hsz] at h3
    omega
  have HRN := Lib.hid hr
  clear hW2 hb2 hb3 hyb hsz hr HF
  by_cases h0 : er = 0
  · subst h0
    obtain ⟨hp, hj0, hjm⟩ := fndE_zero.1 HE.out.symm
    obtain ⟨i, rfl⟩ : ∃ i : Nat, j = (i : Int) := ⟨j.toNat, by omega⟩
    obtain ⟨mb, S, D, hB⟩ := HFR.out
    have HBI := Lib.hid hB
    have HP := Lib.hid hp
    have hil : i < (q k).length := by omega
    have hml := (hB.home k).2.2
    obtain ⟨g, cp, hsv⟩ : ∃ g cp, sV (S k) = .slice (some ⟨g, 0, none⟩) (q k).length cp := by
      rcases (hB.row k hp).2 with ⟨h, h0⟩ | ⟨g, cp', _, h, _⟩
      · omega
      · exact ⟨g, cp', h⟩
    have hSg : (S k).1 = some g := by rw [← sV_own, hsv]; rfl
    have HSG := Lib.hid hSg
    obtain ⟨c0, c1, hlt⟩ := hB.cells
    have hrow := hB.row k hp
    rw [hsv] at hrow
    obtain ⟨m, hm⟩ : ∃ m, m = (q k).length := ⟨_, rfl⟩
    have HM := Lib.hid hm
    have hlkd := (hB.below (Below.refl _ W2).drew).look k HK.out hp
    rw [hsv, ← hm] at hlkd
    have HSV := Lib.hid hsv
    have hwr : IntKind.i64.wrap ((i : Int) + 1) = ((i + 1 : Nat) : Int) := by rw [IntWalk.i64_in _ (by omega)]; omega
    have HDL := Lib.hid (delete15_any (below_own hrow (Below.refl _ W2).drew) i hil hml)
    rw [← hm] at HDL
    have c1d : W2.drew.cell? ⟨b, 1, none⟩ = some (.map (some mb)) := c1
    have HC1 := Lib.hid (And.intro c1 hlt)
    have HSM := Lib.hid (show Maps.size D < maxLen by have := hB.small; unfold maxLen; omega)
    obtain ⟨i2, hi2⟩ : ∃ i2, i2 = i + 1 := ⟨_, rfl⟩
    rw [← hi2] at hwr HDL
    clear hsv hSg hrow hm hB hil hml hp hj0 hjm c1 c0 hi2 hlx hly
    go_upto_region 3 with fail
    refine mixed_region (D := (fun v => v.cell? ⟨b, 1, none⟩ = some (.map (some mb)) ∧ (Instr.lookup 58 (.map (some mb)) (.int .i64 k) false).run Try.prog v = .ok (.slice (some ⟨g, 0, none⟩) m cp) v)) [0, 1, 2, 3, 4, 5, 6, 7, 8, 9, 10, 11, 12, 13] [14, 15] 15 (by kernel_rfl) (by kernel_rfl) (by decide) (⟨c1d, hlkd⟩) ?_
    simp only [List.filterMap_cons, List.filterMap_nil, List.getElem?_cons_zero, List.getElem?_cons_succ]
    repeat (
      (first
       | (refine calm_move _ rfl ?_)
       | (apply calm_cons
          · (intro w' hw'
             first | (obtain ⟨hwa', hwb', hwc'⟩ := hw') | (obtain ⟨hwa', hwb'⟩ := hw') | skip
             go_simp
             first
             | done
             | exact rfl)))
      simp only [Act.put, Act.eval, List.setIfInBounds_toArray, List.set_cons_zero, List.set_cons_succ, Array.getD_eq_getD_getElem?, List.getElem?_toArray, List.getElem?_cons_zero, List.getElem?_cons_succ, Option.getD_some])
    refine calm_nil ?_
    refine loud_cons fun K hK => ?_
    go_wp2_with fail
    refine HDL.out.mono ?_
    rintro e W3 ⟨rfl, hown3, hgrow3⟩
    have HG3 : Hid (W2.drew.grownBy W3 (S k).1) := Lib.hid (by rw [HSG.out]; exact hgrow3)
    have hlen3 : ((q k).eraseIdx i).length = (q k).length - 1 := by rw [List.length_eraseIdx, if_pos (by have := (fnd_get HE.out.symm).1; simpa using this)]
    have HO3 : Hid (W3.ownsRow 0 39 3 (sV (some g, (q k).length - 1, cp)) ((q k).eraseIdx i).length (lcs ((q k).eraseIdx i))) := Lib.hid (by
      have h := hown3
      rw [hlen3] at h ⊢
      exact h)
    have hgb := (HBI.out.rb HP.out HSG.out)
    have hm3 : W3.ownsMap Try.prog 3 sR mb (Maps.size D) D := map_same15 HBI.out.map (hgrow3.block mb HBI.out.map.lt (fun e => hgb.2 (Option.some.inj e).symm))
    have HM3 := Lib.hid hm3
    have hc3 : W3.cell? ⟨b, 1, none⟩ = some (.map (some mb)) := (World.cell?_of_block (w := W2.drew) (a := ⟨b, 1, none⟩) (hgrow3.block b HC1.out.2 (fun e => hgb.1 (Option.some.inj e).symm))).trans HC1.out.1
    have HC3 := Lib.hid hc3
    clear hown3 hgrow3 hlen3 hgb hm3 hc3
    go_wp2_with fail
    refine hK _ _ (fun _ => ⟨HC3.out, ?_⟩) ?_
    · have h := look_map (x := S k) HM3.out HK.out (HBI.out.at_ k HP.out)
      rw [HSV.out, ← HM.out] at h
      exact h
    clear hK K
    refine loud_cons fun K hK => ?_
    refine wpList_mapUpdate_in _ rfl _ _ _ 58 rfl 3 28 (int_keyed Try.underlying3) Try.underlying58 sR mb _ D rfl HM3.out HSM.out (.int .i64 k) (sV (some g, (q k).length - 1, cp)) (ik k) rfl rfl (keyI k HK.out) (sD (some g, (q k).length - 1, cp)) [] (sR_mk (some g, (q k).length - 1, cp)) ?_
    intro w4 hown4 hturn4
    go_wp2_with fail
    refine hK _ _ (fun h => absurd rfl h) ?_
    clear hK K
    have hst := HBI.out.store (k := k) (x := (some g, (q k).length - 1, cp)) (L := (q k).eraseIdx i) HP.out (Below.refl _ W2).drew HG3.out HO3.out (fun r hr => .inl (by rw [HSG.out]; exact hr)) hown4 hturn4 (fun y hy => (HBI.out.home k).1 y ((List.eraseIdx_sublist _ _).subset hy)) (Nat.le_trans (List.eraseIdx_sublist _ _).length_le (HBI.out.home k).2.2)
    have HST := Lib.hid hst
    have hly := HY.out.kp (hst.2.block yb (.inr HRN.out.2)) hst.2.size
    have hlx := HX.out.kp (hst.2.block xb (.inr HRN.out.1)) hst.2.size
    have HX4 := Lib.hid hlx
    obtain ⟨y0, y1, y2, yl, -, -, -⟩ := hly
    obtain ⟨x0, x1, x2, xl, f0, f1, f2⟩ := hlx
    have hnx : ¬ own xb := fun h => by have := H0.out.lt xb h; have := HRN.out.1.1; omega
    clear hown4 hturn4 hst
    refine loud_nil ?_
    go_wp2_with fail
    refine bodyPost_ret (v := .tuple #[lv L, .int .i64 0]) ?_ rfl ⟨rfl, ?_, ?_⟩
    · exact take_res _ _ xb _ _ (HX4.out.store L).rng rfl rfl
    · unfold takeQ
      rw [if_pos HE.out.symm]
      exact (HST.out.1.set3 (.inr HRN.out.1) _ _ _).weaken fun _ h => .inl h
    · exact ((Kp.of_below HBB.out H0.out.lt).trans (HST.out.2.mono fun _ h => .inl h)).set3 hnx _ _ _
  · obtain ⟨y0, y1, y2, yl, -, -, -⟩ := hly
    obtain ⟨x0, x1, x2, xl, f0, f1, f2⟩ := hlx
    have hnx : ¬ own xb := fun h => by have := H0.out.lt xb h; have := HRN.out.1.1; omega
    go_wp2_with fail
    refine bodyPost_ret (v := .tuple #[lv L, .int .i64 er]) ?_ rfl ⟨rfl, ?_, ?_⟩
    · exact take_res _ _ xb _ _ (HX.out.store L).rng rfl rfl
    · unfold takeQ
      rw [if_neg (fun h => h0 (HE.out.trans h))]
      exact (HFR.out.set3 (.inr HRN.out.1) _ _ _).weaken fun _ h => .inl h
    · exact (Kp.of_below HBB.out H0.out.lt).set3 hnx _ _ _
end Go.Proofs.Ytkljokmhfoannaa
