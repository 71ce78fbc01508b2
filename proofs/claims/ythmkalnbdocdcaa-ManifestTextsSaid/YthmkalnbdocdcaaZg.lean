/-
  Layer 12 (manifest): the walk of ManifestTexts. Conditions: none beyond the row's own.
-/
import Derived.Test.YthmkalnbdocdcaaZf
import Derived.Test.YthmkalnbdocdcaaQt
import Derived.Test.YthmkalnbdocdcaaYp
namespace Go.Proofs.Ythmkalnbdocdcaa
set_option maxRecDepth 100000
open Go.RowKit
set_option linter.unusedVariables false
set_option linter.unusedSimpArgs false

set_option maxRecDepth 1000000 in
set_option maxHeartbeats 16000000 in
theorem texts_main (V : Value) (e : Ed) (s : ByteArray) (w : World) (h : EV w V e) (hs : s.size ≤ 140737488351232) :
    Calls Try.prog 3 #[V, .string s] w fun x w' => x = .returned (.bool true) ∧ Below w.heap.size w w' := by
  have hEV := h
  obtain ⟨aa, an, ac, da', dn, dc, rfl, -, -, -⟩ := h
  have bx := EdBox.new w 25 (.slice aa an ac) (.slice da' dn dc) e.2.2.1 e.2.2.2
  have b0 := box_bel w (.cells #[.slice aa an ac, .slice da' dn dc, .int .i64 e.2.2.1, .int .i64 e.2.2.2] 25)
  obtain ⟨xa, hxa⟩ : ∃ xa, xa = w.heap.size := ⟨_, rfl⟩
  rw [← hxa] at bx
  go_enter Try.func3, Try.ntmps3
  go_upto_region 1 with fail
  rw [← hxa]
  clear hxa
  generalize w.alloc (.cells #[.slice aa an ac, .slice da' dn dc, .int .i64 e.2.2.1, .int .i64 e.2.2.2] 25) = w1 at *
  obtain ⟨Lg, hLg⟩ : ∃ Lg, Lg = e.2.2.1 := ⟨_, rfl⟩
  obtain ⟨Nx, hNx⟩ : ∃ Nx, Nx = e.2.2.2 := ⟨_, rfl⟩
  rw [← hLg, ← hNx] at bx hEV ⊢
  clear hLg hNx
  have HB := Lib.hid b0
  have HEV := Lib.hid (hEV.old b0)
  have HBX := Lib.hid bx
  clear hEV b0 bx
  obtain ⟨y0, y1, y2, y3, y4⟩ := HBX.out
  have HLI := Lib.hid (light12_any _ _ _ HEV.out)
  obtain ⟨lt, hlt⟩ : ∃ lt, lt = liteEd e := ⟨_, rfl⟩
  rw [← hlt] at HLI
  have HLT := Lib.hid hlt
  clear hlt
  by_cases hgo : lt = true ∧ s.size ≤ 4096
  case neg =>
    cases lt with
    | false =>
      clear hgo
      go_wp2_with fail
      refine HLI.out.mono ?_
      rintro e' w2 ⟨rfl, hb2⟩
      have HB2 := Lib.hid (HB.out.trans (hb2.mono HB.out.size))
      clear hb2 HLI
      go_wp2_with fail
      refine (awake12_any w2).mono ?_
      rintro e' w3 ⟨rfl, hb3⟩
      have HB3 := Lib.hid (HB2.out.trans (hb3.mono HB2.out.size))
      clear hb3
      go_wp2_with fail
      go_ret
      exact ⟨rfl, HB3.out⟩
    | true =>
      have hbig : (4096 : Int) < (s.size : Int) := by
        have : ¬ s.size ≤ 4096 := fun q => hgo ⟨rfl, q⟩
        omega
      clear hgo
      go_wp2_with fail
      refine HLI.out.mono ?_
      rintro e' w2 ⟨rfl, hb2⟩
      have HB2 := Lib.hid (HB.out.trans (hb2.mono HB.out.size))
      clear hb2 HLI
      go_wp2_with fail
      refine (awake12_any w2).mono ?_
      rintro e' w3 ⟨rfl, hb3⟩
      have HB3 := Lib.hid (HB2.out.trans (hb3.mono HB2.out.size))
      clear hb3
      go_wp2_with fail
      go_ret
      exact ⟨rfl, HB3.out⟩
  obtain ⟨rfl, hs2⟩ := hgo
  have hsm : ¬ (4096 : Int) < (s.size : Int) := by omega
  obtain ⟨sA, nA, hA1, hA2, hA3⟩ := pue_pair e HLT.out.symm
  have HA := Lib.hid hA2
  have HA3 := Lib.hid hA3
  clear hA2 hA3
  go_upto_region 3 with (go_at_call 9; refine HLI.out.mono ?_; rintro e' w2 ⟨rfl, hb2⟩; have HB2 := Lib.hid hb2; clear hb2)
  clear HLI y0 y1 y2 y3 y4
  obtain ⟨y0, y1, y2, y3, y4⟩ := HBX.out.below HB2.out
  have HP1 := Lib.hid (put12_any _ _ w2 (HEV.out.old HB2.out))
  go_upto_region 4 with (go_at_call 11; refine HP1.out.mono ?_; rintro e' w3 he; obtain ⟨rfl, hb3⟩ := HA.out _ _ _ he; clear he; have HB3 := Lib.hid (HB2.out.trans (hb3.mono HB2.out.size)); clear hb3)
  clear HP1 y0 y1 y2 y3 y4
  obtain ⟨y0, y1, y2, y3, y4⟩ := HBX.out.below HB3.out
  have HP2 := Lib.hid (rput12_any _ _ w3 (HEV.out.old HB3.out))
  go_upto_region 5 with (go_at_call 12; refine HP2.out.mono ?_; rintro e' w4 he; obtain ⟨rfl, hb4⟩ := HA.out _ _ _ he; clear he; have HB4 := Lib.hid (HB3.out.trans (hb4.mono HB3.out.size)); clear hb4)
  clear HP2 y0 y1 y2 y3 y4
  obtain ⟨D, hD⟩ : ∃ D, D = tkD s := ⟨_, rfl⟩
  obtain ⟨N, hN⟩ : ∃ N, N = tkN s := ⟨_, rfl⟩
  have HTQ : Hid (∀ wx x w', TKE s wx x w' → ∃ V, x = .returned (.tuple #[V, .int .i64 N]) ∧ EV w' V D ∧ Below wx.heap.size wx w') := Lib.hid (by intro wx x w' q; rw [hD, hN]; exact q)
  clear hD hN
  have HT1 := Lib.hid (take12_any s (by omega) w4)
  have HT2 := Lib.hid fun wx : World => rtake12_any s (by omega) wx
  have HT3 := Lib.hid fun wx : World => take12_any sA (by omega) wx
  obtain ⟨L1, hL1⟩ : ∃ L, L = D.2.2.1 := ⟨_, rfl⟩
  obtain ⟨N1, hN1⟩ : ∃ L, L = D.2.2.2 := ⟨_, rfl⟩
  have HLN := Lib.hid (And.intro hL1 hN1)
  clear hL1 hN1
  go_upto_region 6 with (go_at_call 13; refine HT1.out.mono ?_; rintro e' w5 he; obtain ⟨V5, rfl, hv5, hb5⟩ := HTQ.out _ _ _ he; clear he; have HB5 := Lib.hid (HB4.out.trans (hb5.mono HB4.out.size)); have HV5 := Lib.hid hv5; obtain ⟨aa5, an5, ac5, da5, dn5, dc5, rfl, -, -, -⟩ := hv5; rw [← HLN.out.1, ← HLN.out.2] at HV5 ⊢; clear hb5)
  have bz := EdBox.new w5 25 (.slice aa5 an5 ac5) (.slice da5 dn5 dc5) L1 N1
  have b0 := box_bel w5 (.cells #[.slice aa5 an5 ac5, .slice da5 dn5 dc5, .int .i64 L1, .int .i64 N1] 25)
  obtain ⟨xd, hxd⟩ : ∃ x, x = w5.heap.size := ⟨_, rfl⟩
  rw [← hxd] at bz ⊢
  clear hxd
  generalize w5.alloc (.cells #[.slice aa5 an5 ac5, .slice da5 dn5 dc5, .int .i64 L1, .int .i64 N1] 25) = w6 at *
  have HB6 := Lib.hid (HB5.out.trans (b0.mono HB5.out.size))
  have HV6 := Lib.hid (HV5.out.old b0)
  have HZ6 := Lib.hid bz
  clear bz b0 HV5 HT1
  go_upto_region 7 with (go_at_call 14; refine (HT2.out _).mono ?_; rintro e' w7 he; obtain ⟨V7, rfl, hv7, hb7⟩ := HTQ.out _ _ _ he; clear he; have HB7 := Lib.hid hb7; have HV7 := Lib.hid hv7; obtain ⟨aa7, an7, ac7, da7, dn7, dc7, rfl, -, -, -⟩ := hv7; rw [← HLN.out.1, ← HLN.out.2] at HV7 ⊢; clear hb7)
  have bz := EdBox.new w7 25 (.slice aa7 an7 ac7) (.slice da7 dn7 dc7) L1 N1
  have b0 := box_bel w7 (.cells #[.slice aa7 an7 ac7, .slice da7 dn7 dc7, .int .i64 L1, .int .i64 N1] 25)
  obtain ⟨xe, hxd⟩ : ∃ x, x = w7.heap.size := ⟨_, rfl⟩
  rw [← hxd] at bz ⊢
  clear hxd
  generalize w7.alloc (.cells #[.slice aa7 an7 ac7, .slice da7 dn7 dc7, .int .i64 L1, .int .i64 N1] 25) = w8 at *
  have HB68 := Lib.hid (HB7.out.trans (b0.mono HB7.out.size))
  have HB8 := Lib.hid (HB6.out.trans (HB68.out.mono HB6.out.size))
  have HV8 := Lib.hid (HV7.out.old b0)
  have HZ8 := Lib.hid bz
  have HW6 := Lib.hid (HV6.out.old HB68.out)
  have HE8 := Lib.hid (HEV.out.old HB8.out)
  clear bz b0 HV7 HT2
  obtain ⟨y0, y1, y2, y3, y4⟩ := HBX.out.below HB8.out
  obtain ⟨u0, u1, u2, u3, u4⟩ := HZ6.out.below HB68.out
  obtain ⟨v0, v1, v2, v3, v4⟩ := HZ8.out
  have HSE := Lib.hid fun (wx : World) (hx : Below w8.heap.size w8 wx) => sameed_any _ _ _ wx (HW6.out.old hx) (HV8.out.old hx)
  have HC1 := Lib.hid fun (wx : World) (hx : Below w8.heap.size w8 wx) => chk12_any _ _ wx (HE8.out.old hx)
  have HC2 := Lib.hid fun (wx : World) (hx : Below w8.heap.size w8 wx) => rchk12_any _ _ wx (HE8.out.old hx)
  refine wp_region_below (by kernel_rfl) (by kernel_rfl) ?_
  repeat (first
    | go_big_quiet_skip
    | (go_big_quiet_want
       first
       | (refine BigFrame.quiet_move _ rfl ?_)
       | (refine BigFrame.quiet_assign _ rfl ?_)
       | (unfold Oper.quiet
          apply Exists.intro
          refine ⟨fun w' hw' => ?_, ?_⟩
          · (obtain ⟨hc', hf'⟩ := bcell hw'
             go_simp
             first
             | done
             | exact rfl
             | (go_at_call 15; (with_reducible refine (HSE.out _ hw').mono ?_); rintro e w'' ⟨rfl, bb⟩; exact ⟨rfl, by first | exact bt hw' bb | simpa using bt hw' bb⟩)
             | (go_at_call 16; (with_reducible refine (HC1.out _ hw').mono ?_); rintro e w'' ⟨rfl, bb⟩; exact ⟨rfl, by first | exact bt hw' bb | simpa using bt hw' bb⟩)
             | (go_at_call 17; (with_reducible refine (HC2.out _ hw').mono ?_); rintro e w'' ⟨rfl, bb⟩; exact ⟨rfl, by first | exact bt hw' bb | simpa using bt hw' bb⟩)))
       go_big_quiet_on
       simp only [Act.put, Act.eval, List.setIfInBounds_toArray, List.set_cons_zero, List.set_cons_succ, Array.getD_eq_getD_getElem?, List.getElem?_toArray, List.getElem?_cons_zero, List.getElem?_cons_succ, Option.getD_some]))
  refine wpQuiet_nil ?_
  intro w' hw'
  have HBW := Lib.hid (HB8.out.trans ((show Below w8.heap.size w8 w' from hw').mono HB8.out.size))
  have HBT := Lib.hid (HB.out.trans (HBW.out.mono HB.out.size))
  clear hw' y0 y1 y2 y3 y4 u0 u1 u2 u3 u4 v0 v1 v2 v3 v4 HSE HC1 HC2
  rcases HA3.out with ⟨rfl, htd, htn⟩ | rfl
  case inr =>
    go_wp2_with fail
    refine (awake12_any w').mono ?_
    rintro e' w9 ⟨rfl, hb9⟩
    have HB9 := Lib.hid (HBT.out.trans (hb9.mono HBT.out.size))
    clear hb9
    go_wp2_with fail
    go_ret
    exact ⟨rfl, HB9.out⟩
  have HTD := Lib.hid htd
  have HTN := Lib.hid htn
  clear htd htn
  obtain ⟨y0, y1, y2, y3, y4⟩ := HBX.out.below HBW.out
  go_upto_region 12 with (go_at_call 13; refine (HT3.out _).mono ?_; rintro e' w9 ⟨V9, rfl, hv9, hb9⟩; rw [HTD.out] at hv9; rw [HTN.out]; have HB9 := Lib.hid (HBW.out.trans (hb9.mono HBW.out.size)); have HV9 := Lib.hid hv9; obtain ⟨aa9, an9, ac9, da9, dn9, dc9, rfl, -, -, -⟩ := hv9; clear hb9)
  have bz := EdBox.new w9 25 (.slice aa9 an9 ac9) (.slice da9 dn9 dc9) e.2.2.1 e.2.2.2
  have b0 := box_bel w9 (.cells #[.slice aa9 an9 ac9, .slice da9 dn9 dc9, .int .i64 e.2.2.1, .int .i64 e.2.2.2] 25)
  obtain ⟨xf, hxd⟩ : ∃ x, x = w9.heap.size := ⟨_, rfl⟩
  rw [← hxd] at bz ⊢
  clear hxd y0 y1 y2 y3 y4
  generalize w9.alloc (.cells #[.slice aa9 an9 ac9, .slice da9 dn9 dc9, .int .i64 e.2.2.1, .int .i64 e.2.2.2] 25) = wA at *
  have HBA := Lib.hid (HB9.out.trans (b0.mono HB9.out.size))
  have HVA := Lib.hid (HV9.out.old b0)
  have HBF := Lib.hid (HB.out.trans (HBA.out.mono HB.out.size))
  have HSA := Lib.hid (sameed_any _ _ _ wA HVA.out (HEV.out.old HBA.out))
  obtain ⟨v0, v1, v2, v3, v4⟩ := bz
  obtain ⟨y0, y1, y2, y3, y4⟩ := HBX.out.below HBA.out
  clear b0 HV9 HT3
  go_wp2_with fail
  refine HSA.out.mono ?_
  rintro e' wB ⟨rfl, hbB⟩
  have HBB := Lib.hid (HBF.out.trans (hbB.mono HBF.out.size))
  clear hbB HSA v0 v1 v2 v3 v4 y0 y1 y2 y3 y4
  go_wp2_with fail
  refine (awake12_any wB).mono ?_
  rintro e' wC ⟨rfl, hbC⟩
  have HBC := Lib.hid (HBB.out.trans (hbC.mono HBB.out.size))
  clear hbC
  go_wp2_with fail
  go_ret
  exact ⟨rfl, HBC.out⟩
end Go.Proofs.Ythmkalnbdocdcaa
