/-
  Layer 14 (once): the walk of OnceRises. Conditions: none beyond the row's own.
-/
import Derived.Test.YtnjpgepdfclalaaNq
import Derived.Test.YtnjpgepdfclalaaBt
namespace Go.Proofs.Ytnjpgepdfclalaa
open Go.RowKit
set_option linter.unusedVariables false
set_option linter.unusedSimpArgs false

theorem low3 (n : Int) : ∃ k : Nat, bits .and .i64 n 7 = (k : Int) ∧ k < 8 :=
  ⟨(n % 8).toNat, by rw [i64_lowb 3 (by decide) 7 n (by decide)]; show n % 8 = _; omega, by omega⟩
set_option maxRecDepth 100000 in
set_option maxHeartbeats 8000000 in
theorem walk_OnceRises (a : Option Addr) (n cap : Nat) (l : List Sn) (x : Sn) (cl : Int) (hcl : (Lit.int .i64 cl).wf = true) (w : World) (h : SS w a n cap l) :
    Calls Try.prog 6 #[.slice a n cap, sa x, .int .i64 cl] w fun e w' => e = .returned (.bool true) ∧ Below w.heap.size w w' := by
  obtain ⟨b1, hb1⟩ : ∃ b, b = liteS l := ⟨_, rfl⟩
  obtain ⟨b2, hb2⟩ : ∃ b, b = liteS [x] := ⟨_, rfl⟩
  obtain ⟨r, hr⟩ : ∃ r, r = mayS x := ⟨_, rfl⟩
  have hbb := box_bel14 w (.cells #[.int .i64 x.c, .int .i64 x.s, .int .i64 x.e, .string x.v, .bool x.h, .slice x.p x.n x.k, .string x.u] 29)
  have hsb := SBox.new w 29 x
  have hss := h.old hbb
  have HK : Hid (∀ W, Below (w.alloc (.cells #[.int .i64 x.c, .int .i64 x.s, .int .i64 x.e, .string x.v, .bool x.h, .slice x.p x.n x.k, .string x.u] 29)).heap.size (w.alloc (.cells #[.int .i64 x.c, .int .i64 x.s, .int .i64 x.e, .string x.v, .bool x.h, .slice x.p x.n x.k, .string x.u] 29)) W → SS W a n cap l ∧ SBox W w.heap.size x) := Lib.hid fun W hW => ⟨hss.old hW, hsb.below hW⟩
  have HW0 := Lib.hid hbb
  have HLT := Lib.hid (show ∀ W, SS W a n cap l → Calls Try.prog 8 #[.slice a n cap] W fun e w' => e = .returned (.bool b1) ∧ Below W.heap.size W w' from fun W hW => light14_any a n cap l b1 hb1.symm W hW)
  have HLX := Lib.hid (show ∀ a n cap W, SS W a n cap [x] → Calls Try.prog 8 #[.slice a n cap] W fun e w' => e = .returned (.bool b2) ∧ Below W.heap.size W w' from fun a n cap W hW => light14_any a n cap [x] b2 hb2.symm W hW)
  obtain ⟨C, hC⟩ : ∃ C, C = chkE [x] := ⟨_, rfl⟩
  have HCX := Lib.hid (show ∀ a n cap W, SS W a n cap [x] → Calls Try.prog 17 #[.slice a n cap] W fun e w' => e = .returned (.int .i64 C) ∧ Below W.heap.size W w' from fun a n cap W hW => by rw [hC]; exact rcheck14_any a n cap [x] W hW)
  have hC2 : C = if r = true then 0 else 1 := by rw [hC, hr]; unfold chkE; rw [chk_one]
  have HC2 := Lib.hid hC2
  have HR := Lib.hid hr
  obtain ⟨m, hm⟩ : ∃ m, m = md l := ⟨_, rfl⟩
  have HMD := Lib.hid (show ∀ W, SS W a n cap l → Calls Try.prog 20 #[.slice a n cap] W (LT m W) from fun W hW => by rw [hm]; exact made14_any a n cap l W hW)
  have HCM := Lib.hid (show chk m = true by rw [hm]; exact md_chk l)
  clear hbb hsb hss hb1 hb2 hr hC hC2 hm h
  go_enter Try.func6, Try.ntmps6
  go_upto_region 1 with fail
  obtain ⟨xb, hxb⟩ : ∃ xb, xb = w.heap.size := ⟨_, rfl⟩
  rw [← hxb] at HK ⊢
  have HXB := Lib.hid hxb
  clear hxb
  generalize w.alloc (.cells #[.int .i64 x.c, .int .i64 x.s, .int .i64 x.e, .string x.v, .bool x.h, .slice x.p x.n x.k, .string x.u] 29) = w0 at *
  have HN := Lib.hid (HK.out w0 (Below.refl _ _))
  go_wp2_with fail
  refine (HLT.out _ HN.out.1).mono ?_
  rintro e w1 ⟨rfl, hb⟩
  have HB1 := Lib.hid hb
  have HN1 := Lib.hid (HK.out w1 hb)
  clear hb HN HLT
  cases b1 with
  | false =>
    go_wp2_with fail
    refine (awake14_any w1).mono ?_
    rintro e wz ⟨rfl, hb⟩
    have HBA := Lib.hid (HB1.out.trans (hb.mono HB1.out.size))
    clear hb
    go_wp2_with fail
    go_ret
    exact ⟨rfl, HW0.out.trans (HBA.out.mono HW0.out.size)⟩
  | true =>
  obtain ⟨q0, q1, q2, q3, q4, q5, q6, q7⟩ := HN1.out.2
  go_wp2_with fail
  refine (HLX.out _ _ _ _ (SS.lit w1 x _)).mono ?_
  rintro e w2 ⟨rfl, hb⟩
  have HB2 := Lib.hid ((HB1.out.alloc HB1.out.size (.cells #[.int .i64 x.c, .int .i64 x.s, .int .i64 x.e, .string x.v, .bool x.h, .slice x.p x.n x.k, .string x.u] 29)).trans (hb.mono (HB1.out.alloc HB1.out.size (.cells #[.int .i64 x.c, .int .i64 x.s, .int .i64 x.e, .string x.v, .bool x.h, .slice x.p x.n x.k, .string x.u] 29)).size))
  have HN2 := Lib.hid (HK.out w2 HB2.out)
  clear hb HN1 HLX q0 q1 q2 q3 q4 q5 q6 q7 HB1
  cases b2 with
  | false =>
    go_wp2_with fail
    refine (awake14_any w2).mono ?_
    rintro e wz ⟨rfl, hb⟩
    have HBA := Lib.hid (HB2.out.trans (hb.mono HB2.out.size))
    clear hb
    go_wp2_with fail
    go_ret
    exact ⟨rfl, HW0.out.trans (HBA.out.mono HW0.out.size)⟩
  | true =>
  obtain ⟨q0, q1, q2, q3, q4, q5, q6, q7⟩ := HN2.out.2
  go_wp2_with fail
  refine (HCX.out _ _ _ _ (SS.lit w2 x _)).mono ?_
  rintro e w3 ⟨rfl, hb⟩
  have HB3 := Lib.hid ((HB2.out.alloc HB2.out.size (.cells #[.int .i64 x.c, .int .i64 x.s, .int .i64 x.e, .string x.v, .bool x.h, .slice x.p x.n x.k, .string x.u] 29)).trans (hb.mono (HB2.out.alloc HB2.out.size (.cells #[.int .i64 x.c, .int .i64 x.s, .int .i64 x.e, .string x.v, .bool x.h, .slice x.p x.n x.k, .string x.u] 29)).size))
  have HN3 := Lib.hid (HK.out w3 HB3.out)
  clear hb HN2 HCX q0 q1 q2 q3 q4 q5 q6 q7 HB2
  cases r with
  | false =>
    obtain rfl : C = 1 := HC2.out
    go_wp2_with fail
    refine (awake14_any w3).mono ?_
    rintro e wz ⟨rfl, hb⟩
    have HBA := Lib.hid (HB3.out.trans (hb.mono HB3.out.size))
    clear hb
    go_wp2_with fail
    go_ret
    exact ⟨rfl, HW0.out.trans (HBA.out.mono HW0.out.size)⟩
  | true =>
  obtain rfl : C = 0 := HC2.out
  have HMX := Lib.hid (show mayS x = true from HR.out.symm)
  clear HC2 HR
  go_wp2_with fail
  refine (HMD.out w3 HN3.out.1).mono ?_
  rintro e w4 ⟨ma, mn, mc, rfl, hs, hb⟩
  have HB4 := Lib.hid (HB3.out.trans (hb.mono HB3.out.size))
  have HM4 := Lib.hid hs
  have HN4 := Lib.hid (HK.out w4 HB4.out)
  clear hb hs HB3 HN3 HMD
  obtain ⟨E, hE⟩ : ∃ E, E = putE m x := ⟨_, rfl⟩
  obtain ⟨L, hL⟩ : ∃ L, L = (putL m x).map normS := ⟨_, rfl⟩
  have HPU := Lib.hid (put14_any ma mn mc m x w4 HM4.out)
  rw [← hE, ← hL] at HPU
  have HEL := Lib.hid (And.intro hE hL)
  clear hE hL
  obtain ⟨q0, q1, q2, q3, q4, q5, q6, q7⟩ := HN4.out.2
  go_wp2_with fail
  refine HPU.out.mono ?_
  rintro e w5 ⟨na, nn, nc, rfl, hs, hb⟩
  have HB5 := Lib.hid (HB4.out.trans (hb.mono HB4.out.size))
  have HM5 := Lib.hid (HM4.out.old hb)
  have HL5 := Lib.hid hs
  have HN5 := Lib.hid (HK.out w5 HB5.out)
  clear hb hs HB4 HN4 HM4 HPU q0 q1 q2 q3 q4 q5 q6 q7
  by_cases hE0 : E = 0
  case neg =>
    have hpn := put_not HCM.out HMX.out (by rw [← HEL.out.1]; exact hE0)
    obtain rfl : E = 140 := by rw [HEL.out.1]; exact hpn.1
    obtain rfl : L = [] := by rw [HEL.out.2, putL_no (by rw [hpn.1]; decide)]; rfl
    obtain rfl : nn = 0 := HL5.out.1.symm
    obtain ⟨F, hF⟩ : ∃ F, F = fndE m x.c x.s := ⟨_, rfl⟩
    obtain ⟨Y, hY⟩ : ∃ Y, Y = normS (fndS m x.c x.s) := ⟨_, rfl⟩
    have HFD := Lib.hid (find14_any ma mn mc m x.c x.s w5 HM5.out)
    have hf2 := hpn.2
    rw [← hF] at HFD hf2
    rw [← hY] at HFD
    have HF2 := Lib.hid hf2
    clear hE0 hpn hF hY hf2
    obtain ⟨q0, q1, q2, q3, q4, q5, q6, q7⟩ := HN5.out.2
    go_wp2_with fail
    refine HFD.out.mono ?_
    rintro e w6 ⟨rfl, hb⟩
    have HB6 := Lib.hid (HB5.out.trans (hb.mono HB5.out.size))
    clear hb q0 q1 q2 q3 q4 q5 q6 q7
    rcases HF2.out with rfl | rfl
    all_goals
      go_wp2_with fail
      refine (awake14_any _).mono ?_
      rintro e wz ⟨rfl, hb⟩
      have HBA := Lib.hid ((HB6.out.alloc HB6.out.size (.cells #[.int .i64 Y.e, .string Y.v, .bool Y.h, .slice Y.p Y.n Y.k, .string Y.u] 27)).trans (hb.mono (HB6.out.alloc HB6.out.size (.cells #[.int .i64 Y.e, .string Y.v, .bool Y.h, .slice Y.p Y.n Y.k, .string Y.u] 27)).size))
      clear hb
      go_wp2_with fail
      go_ret
      exact ⟨rfl, HW0.out.trans (HBA.out.mono HW0.out.size)⟩
  subst hE0
  obtain ⟨hc1, hc2, hc3, hc4, hc5⟩ := put_yes HCM.out HMX.out HEL.out.1.symm
  rw [← HEL.out.2] at hc1 hc2 hc3 hc4 hc5
  obtain ⟨k, hk, hk2⟩ := low3 cl
  obtain ⟨kk, hkk⟩ : ∃ kk, kk = (k : Int) := ⟨_, rfl⟩
  rw [← hkk] at hk
  have HC1 := Lib.hid (show chkE L = 0 by unfold chkE; rw [hc1]; rfl)
  obtain ⟨R1, hR1⟩ : ∃ R, R = normS (fndS L x.c x.s) := ⟨_, rfl⟩
  have HFA := Lib.hid (find14_any na nn nc L x.c x.s w5 HL5.out)
  rw [hc2, ← hR1] at HFA
  have HSA := Lib.hid (show ∀ W, Calls Try.prog 14 #[ra R1, ra x] W fun e w' => e = .returned (.bool true) ∧ Below W.heap.size W w' from fun W => by
    rw [hR1, hc3]
    exact sameReply_any (normS (normS x)) x (bareS_norm _) (bareS_may HMX.out) rfl rfl W)
  have HPB := Lib.hid (fun W (hW : SS W na nn nc L) => put14_any na nn nc L x W hW)
  rw [hc4, putL_no (l := L) (x := x) (by rw [hc4]; decide)] at HPB
  obtain ⟨A1, hA1⟩ : ∃ A, A = normS (fndS m kk 5) := ⟨_, rfl⟩
  obtain ⟨A2, hA2⟩ : ∃ A, A = normS (fndS L kk 5) := ⟨_, rfl⟩
  obtain ⟨G1, hG1⟩ : ∃ G, G = fndE m kk 5 := ⟨_, rfl⟩
  obtain ⟨G2, hG2⟩ : ∃ G, G = fndE L kk 5 := ⟨_, rfl⟩
  have HFC := Lib.hid (fun W (hW : SS W ma mn mc m) => find14_any ma mn mc m kk 5 W hW)
  have HFE := Lib.hid (fun W (hW : SS W na nn nc L) => find14_any na nn nc L kk 5 W hW)
  rw [← hA1, ← hG1] at HFC
  rw [← hA2, ← hG2] at HFE
  have HOT := Lib.hid (show ¬ kk = x.c → G1 = G2 ∧ A2 = A1 from fun hne => ⟨by rw [hG1, hG2, (hc5 kk hne).1], by rw [hA1, hA2, (hc5 kk hne).2]⟩)
  have HSB := Lib.hid (show ∀ W, Calls Try.prog 14 #[ra A1, ra A1] W fun e w' => e = .returned (.bool true) ∧ Below W.heap.size W w' from fun W => by
    rw [hA1]
    exact sameReply_any _ _ (bareS_norm _) (bareS_norm _) rfl rfl W)
  have HKK := Lib.hid (And.intro hk hkk)
  clear hc1 hc2 hc3 hc4 hc5 hR1 hA1 hA2 hG1 hG2 hk hkk hk2
  obtain ⟨q0, q1, q2, q3, q4, q5, q6, q7⟩ := HN5.out.2
  go_wp2_with fail
  refine HFA.out.mono ?_
  rintro e w6 ⟨rfl, hb⟩
  clear q0 q1 q2 q3 q4 q5 q6 q7 HN5 HFA
  go_upto_region 9 with fail
  have hal := box_bel14 w6 (.cells #[.int .i64 R1.e, .string R1.v, .bool R1.h, .slice R1.p R1.n R1.k, .string R1.u] 27)
  have HB7 := Lib.hid ((HB5.out.trans (hb.mono HB5.out.size)).trans (hal.mono (HB5.out.trans (hb.mono HB5.out.size)).size))
  have HR1 := Lib.hid (RpBox.new w6 27 R1)
  have HM7 := Lib.hid ((HM5.out.old hb).old hal)
  have HL7 := Lib.hid ((HL5.out.old hb).old hal)
  have HN7 := Lib.hid (HK.out _ HB7.out)
  clear hb hal HB5 HM5 HL5
  generalize w6.alloc (.cells #[.int .i64 R1.e, .string R1.v, .bool R1.h, .slice R1.p R1.n R1.k, .string R1.u] 27) = w7 at *
  generalize w6.heap.size = rb1 at *
  obtain ⟨q0, q1, q2, q3, q4, q5, q6, q7⟩ := HN7.out.2
  go_wp2_with fail
  refine (HPB.out w7 HL7.out).mono ?_
  rintro e w8 ⟨ga, gn, gc, rfl, -, hb⟩
  have HB8 := Lib.hid (HB7.out.trans (hb.mono HB7.out.size))
  have HR2 := Lib.hid (HR1.out.below hb)
  have HM8 := Lib.hid (HM7.out.old hb)
  have HL8 := Lib.hid (HL7.out.old hb)
  have HN8 := Lib.hid (HK.out _ HB8.out)
  clear hb HB7 HM7 HL7 HN7 HR1 HPB q0 q1 q2 q3 q4 q5 q6 q7
  go_upto_region 11 with fail
  rw [HKK.out.1]
  go_wp2_with fail
  refine (HFC.out w8 HM8.out).mono ?_
  rintro e w9 ⟨rfl, hb⟩
  go_upto_region 12 with fail
  have hal := box_bel14 w9 (.cells #[.int .i64 A1.e, .string A1.v, .bool A1.h, .slice A1.p A1.n A1.k, .string A1.u] 27)
  have HB10 := Lib.hid ((HB8.out.trans (hb.mono HB8.out.size)).trans (hal.mono (HB8.out.trans (hb.mono HB8.out.size)).size))
  have HR3 := Lib.hid ((HR2.out.below hb).below hal)
  have HA3 := Lib.hid (RpBox.new w9 27 A1)
  have HL10 := Lib.hid ((HL8.out.old hb).old hal)
  clear hb hal HB8 HR2 HM8 HL8 HN8 HFC
  generalize w9.alloc (.cells #[.int .i64 A1.e, .string A1.v, .bool A1.h, .slice A1.p A1.n A1.k, .string A1.u] 27) = w10 at *
  generalize w9.heap.size = rb2 at *
  go_wp2_with fail
  refine (HFE.out w10 HL10.out).mono ?_
  rintro e w11 ⟨rfl, hb⟩
  go_upto_region 13 with fail
  have hal := box_bel14 w11 (.cells #[.int .i64 A2.e, .string A2.v, .bool A2.h, .slice A2.p A2.n A2.k, .string A2.u] 27)
  have HB12 := Lib.hid ((HB10.out.trans (hb.mono HB10.out.size)).trans (hal.mono (HB10.out.trans (hb.mono HB10.out.size)).size))
  have HR4 := Lib.hid ((HR3.out.below hb).below hal)
  have HA4 := Lib.hid ((HA3.out.below hb).below hal)
  have HD4 := Lib.hid (RpBox.new w11 27 A2)
  have HL12 := Lib.hid ((HL10.out.old hb).old hal)
  have HN12 := Lib.hid (HK.out _ HB12.out)
  clear hb hal HB10 HR3 HA3 HL10 HFE
  generalize w11.alloc (.cells #[.int .i64 A2.e, .string A2.v, .bool A2.h, .slice A2.p A2.n A2.k, .string A2.u] 27) = w12 at *
  generalize w11.heap.size = rb3 at *
  obtain ⟨q0, q1, q2, q3, q4, q5, q6, q7⟩ := HN12.out.2
  obtain ⟨p0, p1, p2, p3, p4, p5⟩ := HR4.out
  go_wp2_with fail
  refine (HSA.out w12).mono ?_
  rintro e w13 ⟨rfl, hb⟩
  have HB13 := Lib.hid (HB12.out.trans (hb.mono HB12.out.size))
  have HA5 := Lib.hid (HA4.out.below hb)
  have HD5 := Lib.hid (HD4.out.below hb)
  have HL13 := Lib.hid (HL12.out.old hb)
  have HN13 := Lib.hid (HK.out _ HB13.out)
  have HCL := Lib.hid (fun W (hW : SS W na nn nc L) => check14_any na nn nc L W hW)
  rw [HC1.out] at HCL
  clear hb HB12 HR4 HA4 HD4 HL12 HN12 q0 q1 q2 q3 q4 q5 q6 q7 p0 p1 p2 p3 p4 p5 HSA
  obtain ⟨q0, q1, q2, q3, q4, q5, q6, q7⟩ := HN13.out.2
  by_cases hkc : kk = x.c
  · have hq : (kk == x.c) = true := by rw [beq_iff_eq]; exact hkc
    clear hkc
    go_wp2_with fail
    refine (HCL.out w13 HL13.out).mono ?_
    rintro e w14 ⟨rfl, hb⟩
    have HB14 := Lib.hid (HB13.out.trans (hb.mono HB13.out.size))
    clear hb q0 q1 q2 q3 q4 q5 q6 q7
    go_wp2_with fail
    refine (awake14_any w14).mono ?_
    rintro e wz ⟨rfl, hb⟩
    have HBA := Lib.hid (HB14.out.trans (hb.mono HB14.out.size))
    clear hb
    go_wp2_with fail
    go_ret
    exact ⟨rfl, HW0.out.trans (HBA.out.mono HW0.out.size)⟩
  · have hq : (kk == x.c) = false := by rw [beq_eq_false_iff_ne]; exact hkc
    obtain ⟨rfl, rfl⟩ := HOT.out hkc
    obtain ⟨p0, p1, p2, p3, p4, p5⟩ := HA5.out
    obtain ⟨z0, z1, z2, z3, z4, z5⟩ := HD5.out
    clear hkc
    go_wp2_with fail
    refine (HSB.out w13).mono ?_
    rintro e w14 ⟨rfl, hb⟩
    have HB14 := Lib.hid (HB13.out.trans (hb.mono HB13.out.size))
    have HL14 := Lib.hid (HL13.out.old hb)
    clear hb q0 q1 q2 q3 q4 q5 q6 q7 p0 p1 p2 p3 p4 p5 z0 z1 z2 z3 z4 z5
    go_wp2_with fail
    refine (HCL.out w14 HL14.out).mono ?_
    rintro e w15 ⟨rfl, hb⟩
    have HB15 := Lib.hid (HB14.out.trans (hb.mono HB14.out.size))
    clear hb
    go_wp2_with fail
    refine (awake14_any w15).mono ?_
    rintro e wz ⟨rfl, hb⟩
    have HBA := Lib.hid (HB15.out.trans (hb.mono HB15.out.size))
    clear hb
    go_wp2_with fail
    go_ret
    exact ⟨rfl, HW0.out.trans (HBA.out.mono HW0.out.size)⟩
end Go.Proofs.Ytnjpgepdfclalaa
