/-
  Layer 16 (post): the walk of PostPuts. Conditions: none.
-/
import Derived.Test.YtdnhmkfgcpdbkaaAj
import Derived.Test.YtdnhmkfgcpdbkaaA6
namespace Go.Proofs.Ytdnhmkfgcpdbkaa
open Go.RowKit
set_option linter.unusedVariables false
set_option linter.unusedSimpArgs false

theorem quiet_load_mid {P : Program} {o : Oper} {a : Act} {C : World → Prop} {next : Act → Prop} (ty : TypeId) (x : Operand) (ho : o.op = .load ty x) (b off : Nat) (hx : a.eval x = .pointer (some ⟨b, off, none⟩)) (cs : List Value) (d : TypeDesc)
    (hS : ∀ w, C w → w.rangeAt b off cs) (hu : P.underlying ty = some d) (hd : d.isRow = true) (hi : (P.info? ty).map (·.size) = some cs.length) (h : next (a.put o.dst (.agg cs.toArray))) : o.quiet P a C next :=
  ⟨.agg cs.toArray, fun w hw => by
    unfold Oper.quietAt execOp
    simp only [ho, hx, Instr.loadAt, Instr.sureAddr, Sem.run_bind, Sem.run_pure, Result.andThen_ok, run_loadVar_mid w b off ty cs d (hS w hw) hu hd hi]
    exact ⟨rfl, rfl⟩, h⟩
theorem nF_nF (x : Fld) : nF (nF x) = nF x := by cases x <;> rfl
theorem nE_nE (l : List Fld) : (l.map nF).map nF = l.map nF := by rw [List.map_map]; exact List.map_congr_left fun x _ => nF_nF x
theorem nL_nL (L : List (List Fld)) : (L.map (·.map nF)).map (·.map nF) = L.map (·.map nF) := by rw [List.map_map]; exact List.map_congr_left fun x _ => nE_nE x
theorem nM_nM (m : Mg) : nM (nM m) = nM m := by
  unfold nM
  simp only [nE_nE, nL_nL]
theorem okF_n (x : Fld) : okF (nF x) = okF x := by cases x <;> rfl
theorem okE_n (l : List Fld) : okE (l.map nF) = okE l := by
  unfold okE
  rw [List.all_map]
  congr 1
  funext x
  exact okF_n x
theorem okLs_n (k : Nat) (L : List (List Fld)) : okLs k (L.map (·.map nF)) = okLs k L := by
  unfold okLs
  rw [List.length_map, List.all_map]
  congr 2
  funext x
  exact okE_n x
theorem okM_n (m : Mg) : okM (nM m) = okM m := by
  unfold okM okSg nM
  simp only [okE_n, okLs_n]
theorem prN_n {x : List Fld} (h : slPr x) : prN (x.map nF) = 0 := by obtain ⟨_, _, _, _, _, _, _, _, _, rfl⟩ := h; rfl
theorem bareL_n {L : List (List Fld)} (h : ∀ x ∈ L, slPr x) : bareL (L.map (·.map nF)) = true := by
  unfold bareL
  rw [List.all_map]
  exact List.all_eq_true.2 fun x hx => decide_eq_true (prN_n (h x hx))
theorem MV.seen {R : Nat → Value → List (List Fld) → Prop} {VL : List Value} {m : Mg} (h : MV R VL m) : ∀ x ∈ m.SE, slPr x := by
  obtain ⟨kd, a1, a2, a3, a4, a5, a6, wh, ok, oy, ov, od, og, OW, ol, oh, om, er, rv, rg, RP, ru, MP, EN, SE, v1, v2, v3, v4, v5, e1, e2, r1, r2, r3, r4, r5, s1, s2, s3, s4, s5⟩ := h
  subst e1
  exact s5
set_option maxRecDepth 100000 in
set_option maxHeartbeats 8000000 in
theorem walk_PostPuts (VL : List Value) (m : Mg) (w : World) (h : MV (LRd w) VL m) :
    Calls Try.prog 3 #[.agg VL.toArray] w fun e w' => e = .returned (.bool true) ∧ Below w.heap.size w w' := by
  have HLT := Lib.hid (fun W (hb : Below w.heap.size w W) => light16 VL m W (h.old hb))
  have HPT := Lib.hid (fun W (hb : Below w.heap.size w W) => put16 VL m W (h.old hb))
  have HRP := Lib.hid (fun W (hb : Below w.heap.size w W) => rput16 VL m W (h.old hb))
  have HCK := Lib.hid (fun W (hb : Below w.heap.size w W) => check16 VL m W (h.old hb))
  have HRC := Lib.hid (fun W (hb : Below w.heap.size w W) => rcheck16 VL m W (h.old hb))
  have HMV := Lib.hid (fun W (hb : Below w.heap.size w W) => (h.old hb).v)
  have HSU : Hid ((Try.prog.info? 35).map (·.size) = some VL.length) := Lib.hid (by rw [h.len]; exact Try.sizeMsg)
  have HSH := Lib.hid (And.intro h.shl h.seen)
  obtain ⟨ck, hck⟩ : ∃ x : Int, x = (if (okM m && bareL m.SE) = true then 0 else 1) := ⟨_, rfl⟩
  rw [← hck] at HCK HRC
  obtain ⟨pS, hpS⟩ : ∃ x, x = putS m := ⟨_, rfl⟩
  obtain ⟨pE, hpE⟩ : ∃ x, x = putE m := ⟨_, rfl⟩
  rw [← hpS, ← hpE] at HPT HRP
  have HPS := Lib.hid (And.intro hpS hpE)
  have hc := box_range w VL 35
  have hb := (Below.refl w.heap.size w).alloc (Nat.le_refl _) (.cells VL.toArray 35)
  have hz : (w.alloc (.cells VL.toArray 35)).heap.size = w.heap.size + 1 := by simp
  obtain ⟨mb, hmb⟩ : ∃ x, x = w.heap.size := ⟨_, rfl⟩
  obtain ⟨w1, hw1⟩ : ∃ W, W = w.alloc (.cells VL.toArray 35) := ⟨_, rfl⟩
  rw [← hw1] at hb hc hz
  rw [← hmb] at hc
  have hml : mb < w1.heap.size := by omega
  have HRG : Hid (∀ W, Below w1.heap.size w1 W → W.rangeAt mb 0 VL) := Lib.hid (fun W hb j v hj => (hb.cell (p := ⟨mb, _, none⟩) hml).trans (hc j v hj))
  have HR1 := Lib.hid hc
  have HB1 := Lib.hid hb
  have HX := Lib.hid hmb
  clear h hc hb hmb hck hpS hpE hz
  go_enter Try.func3, Try.ntmps3
  go_upto_region 1 with fail
  rw [← hw1, ← HX.out]
  clear hw1
  go_wp2_with (refine wpList_load_mid rfl 35 (.tmp 1) rfl mb 0 rfl VL _ HR1.out Try.underlying35 rfl HSU.out ?_)
  refine (HLT.out _ HB1.out).mono ?_
  rintro e w2 ⟨⟨b0, rfl⟩, hb⟩
  have HC2 := Lib.hid hb
  have HB2 := Lib.hid (HB1.out.trans (hb.mono HB1.out.size))
  have HR2 := Lib.hid (HRG.out w2 hb)
  clear hb HLT HR1
  cases b0 with
  | false =>
    go_wp2_with fail
    refine (awake16_any w2).mono ?_
    rintro e w6 ⟨rfl, hb⟩
    have HB6 := Lib.hid (HB2.out.trans (hb.mono HB2.out.size))
    clear hb
    go_wp2_with fail
    go_ret
    exact ⟨rfl, HB6.out⟩
  | true =>
  go_wp2_with (refine wpList_load_mid rfl 35 (.tmp 1) rfl mb 0 rfl VL _ HR2.out Try.underlying35 rfl HSU.out ?_)
  refine (HPT.out _ HB2.out).mono ?_
  rintro e w3 ⟨rfl, hb⟩
  have HC3 := Lib.hid (HC2.out.trans (hb.mono HC2.out.size))
  have HB3 := Lib.hid (HB2.out.trans (hb.mono HB2.out.size))
  have HR3 := Lib.hid (HRG.out w3 HC3.out)
  clear hb HPT HR2 HB2 HC2
  go_wp2_with (refine wpList_load_mid rfl 35 (.tmp 1) rfl mb 0 rfl VL _ HR3.out Try.underlying35 rfl HSU.out ?_)
  refine (HRP.out _ HB3.out).mono ?_
  rintro e w5 ⟨rfl, hb⟩
  have HC5 := Lib.hid (HC3.out.trans (hb.mono HC3.out.size))
  have HB5 := Lib.hid (HB3.out.trans (hb.mono HB3.out.size))
  have HRW : Hid (∀ W, Below w5.heap.size w5 W → W.rangeAt mb 0 VL) := Lib.hid (fun W hw => HRG.out W (HC5.out.trans (hw.mono HC5.out.size)))
  have hml5 : mb < w5.heap.size := Nat.lt_of_lt_of_le hml HC5.out.size
  clear hb HRP HR3 HB3 HC3
  go_upto_region 5 with fail
  refine wp_region_below (by kernel_rfl) (by kernel_rfl) ?_
  repeat (first
    | go_big_quiet_skip
    | (go_big_quiet_want
       first
       | (refine BigFrame.quiet_move _ rfl ?_)
       | (refine BigFrame.quiet_assign _ rfl ?_)
       | (refine quiet_load_mid 35 (.tmp 1) rfl mb 0 rfl VL _ HRW.out Try.underlying35 rfl HSU.out ?_)
       | (unfold Oper.quiet
          apply Exists.intro
          refine ⟨fun w' hw' => ?_, ?_⟩
          · (obtain ⟨hc', hf'⟩ := bcell hw'
             go_simp
             first
             | done
             | exact rfl
             | (go_at_call 12; (with_reducible refine (HCK.out _ (HB5.out.trans (hw'.mono HB5.out.size))).mono ?_); rintro e w'' ⟨rfl, bb⟩; exact ⟨rfl, by first | exact bt hw' bb | simpa using bt hw' bb⟩)
             | (go_at_call 13; (with_reducible refine (HRC.out _ (HB5.out.trans (hw'.mono HB5.out.size))).mono ?_); rintro e w'' ⟨rfl, bb⟩; exact ⟨rfl, by first | exact bt hw' bb | simpa using bt hw' bb⟩)))
       go_big_quiet_on
       simp only [Act.put, Act.eval, List.setIfInBounds_toArray, List.set_cons_zero, List.set_cons_succ, Array.getD_eq_getD_getElem?, List.getElem?_toArray, List.getElem?_cons_zero, List.getElem?_cons_succ, Option.getD_some]))
  refine wpQuiet_nil ?_
  intro w' hw'
  have HB7 := Lib.hid (HB5.out.trans (hw'.mono HB5.out.size))
  have HR7 := Lib.hid (HRW.out w' hw')
  have hml7 : mb < w'.heap.size := Nat.lt_of_lt_of_le hml5 hw'.size
  clear hw' HCK HRC HRW HB5 HC5 HRG hml5 hml
  by_cases hpo : putOk m = true
  case neg =>
    obtain rfl : pS = ⟨#[]⟩ := by rw [HPS.out.1]; unfold putS; rw [if_neg hpo]
    obtain rfl : pE = 1 := by rw [HPS.out.2]; unfold putE; rw [if_neg hpo]
    clear hpo HPS
    go_wp2_with fail
    refine (awake16_any w').mono ?_
    rintro e w6 ⟨rfl, hb⟩
    have HB6 := Lib.hid (HB7.out.trans (hb.mono HB7.out.size))
    clear hb
    go_wp2_with fail
    go_ret
    exact ⟨rfl, HB6.out⟩
  obtain rfl : pE = 0 := by rw [HPS.out.2]; unfold putE; rw [if_pos hpo]
  have hpz : pS = sealB (txM m) := by rw [HPS.out.1]; unfold putS; rw [if_pos hpo]
  unfold putOk at hpo
  simp only [Bool.and_eq_true, decide_eq_true_eq] at hpo
  have htp := take_put m HSH.out.1.1 HSH.out.1.2.1 HSH.out.1.2.2 hpo.1.1
  rw [← hpz] at htp hpo
  have HTK : Hid (∀ W, Calls Try.prog 14 #[.string pS] W fun e w' => Below W.heap.size W w' ∧ ∃ TL : List Value, e = .returned (.tuple #[.agg TL.toArray, .int .i64 0]) ∧ MV (LRv w') TL (nM m)) := Lib.hid fun W => by
    refine (take16 pS W (by omega)).mono ?_
    rintro e w' ⟨hb, h | ⟨_, TL, h1, h2⟩⟩
    · rw [htp.1] at h; cases h.1
    · rw [htp.2] at h2; exact ⟨hb, TL, h1, h2⟩
  have HSM : Hid (∀ W TL, MV (LRv W) TL (nM m) → MV (LRv W) VL m → Calls Try.prog 15 #[.agg TL.toArray, .agg VL.toArray] W fun e w' => e = .returned (.bool true) ∧ Below W.heap.size W w') := Lib.hid fun W TL h k => by
    refine (same16x TL VL (nM m) m W h k (bareL_n HSH.out.2) hpo.1.2 (by rw [okM_n]; exact hpo.1.1) hpo.1.1).mono ?_
    rintro e w' ⟨⟨q, rfl, hq⟩, hb⟩
    rw [hq.2 (nM_nM m)]
    exact ⟨rfl, hb⟩
  have HM7 := Lib.hid (HMV.out w' HB7.out)
  clear hpo hpz htp HPS HSH HMV
  rename World => w2
  go_wp2_with fail
  refine (HTK.out _).mono ?_
  rintro e w3 ⟨hb, TL, rfl, hmt⟩
  have hst := msg_store (w := w3) hmt.len hmt.one
  have hu1 := hmt.len
  have HB8 := Lib.hid (HB7.out.trans (hb.mono HB7.out.size))
  have HB9 := Lib.hid (HB8.out.trans (hst.2.2.mono HB8.out.size))
  have hml8 : mb < w3.heap.size := Nat.lt_of_lt_of_le hml7 hb.size
  have HM9 := Lib.hid (HM7.out.oldv (hb.trans (hst.2.2.mono hb.size)))
  have HT9 := Lib.hid (hmt.oldv hst.2.2)
  have HR9 : Hid (((w3.alloc (.cells #[.int .i64 0, .int .i64 0, .int .i64 0, .int .i64 0, .int .i64 0, .int .i64 0, .int .i64 0, .bool false, .int .i64 0, .string ⟨#[]⟩, .string ⟨#[]⟩, .string ⟨#[]⟩, .bool false, .slice none 0 0, .string ⟨#[]⟩, .string ⟨#[]⟩, .int .i64 0, .int .i64 0, .string ⟨#[]⟩, .bool false, .slice none 0 0, .string ⟨#[]⟩, .slice none 0 0, .slice none 0 0, .slice none 0 0] 35)).setCells w3.heap.size 0 TL).rangeAt mb 0 VL) := Lib.hid (fun j v hj => (hst.2.2.cell (p := ⟨mb, _, none⟩) hml8).trans ((hb.cell (p := ⟨mb, _, none⟩) hml7).trans (HR7.out j v hj)))
  have HT5 : Hid (((w3.alloc (.cells #[.int .i64 0, .int .i64 0, .int .i64 0, .int .i64 0, .int .i64 0, .int .i64 0, .int .i64 0, .bool false, .int .i64 0, .string ⟨#[]⟩, .string ⟨#[]⟩, .string ⟨#[]⟩, .bool false, .slice none 0 0, .string ⟨#[]⟩, .string ⟨#[]⟩, .int .i64 0, .int .i64 0, .string ⟨#[]⟩, .bool false, .slice none 0 0, .string ⟨#[]⟩, .slice none 0 0, .slice none 0 0, .slice none 0 0] 35)).setCells w3.heap.size 0 TL).rangeAt w3.heap.size 0 TL) := Lib.hid (World.rangeAt_setCells_same _ _ _ _ (by have := hst.1; rw [List.size_toArray] at this; exact this))
  have HST := Lib.hid (And.intro hst.1 (And.intro hst.2.1 hmt.one))
  have HSL : Hid ((Try.prog.info? 35).map (·.size) = some TL.length) := Lib.hid (by rw [hu1]; exact Try.sizeMsg)
  have HSA := Lib.hid (HSM.out _ TL HT9.out HM9.out)
  clear hb hst hu1 hmt HTK HSM HB8 HR7 HM7 HM9 HT9 hml7
  go_wp2_with (first
    | (refine wpList_store_mid rfl 35 (.tmp 7) (.tmp 48) rfl w3.heap.size 0 TL.toArray ?f1 ?f2 ?f3 ?f4 ?f5 ?_)
    | (refine wpList_load_want rfl 35 (.tmp 7) rfl w3.heap.size 0 rfl TL _ HT5.out Try.underlying35 rfl HSL.out ?_)
    | (refine wpList_load_want rfl 35 (.tmp 1) rfl mb 0 rfl VL _ HR9.out Try.underlying35 rfl HSU.out ?_))
  case f4 => exact HST.out.2.1
  case f5 => exact HST.out.2.2
  case f1 => rfl
  case f2 => rfl
  case f3 => exact HST.out.1
  refine HSA.out.mono ?_
  rintro e w5 ⟨rfl, hb⟩
  have HB10 := Lib.hid (HB9.out.trans (hb.mono HB9.out.size))
  clear hb
  go_wp2_with fail
  refine (awake16_any w5).mono ?_
  rintro e w6 ⟨rfl, hb⟩
  have HB11 := Lib.hid (HB10.out.trans (hb.mono HB10.out.size))
  clear hb
  go_wp2_with fail
  go_ret
  exact ⟨rfl, HB11.out⟩
end Go.Proofs.Ytdnhmkfgcpdbkaa
