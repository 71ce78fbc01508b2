/-
  Layer 12 (manifest): the contract of Apply. Conditions: at most 50000 tables, a state that was kept.
-/
import Derived.Test.YthmkalnbdocdcaaZc
import Derived.Test.YthmkalnbdocdcaaYm
namespace Go.Proofs.Ythmkalnbdocdcaa
set_option maxRecDepth 100000
open Go.RowKit
set_option linter.unusedVariables false
set_option linter.unusedSimpArgs false

/-- A state's box that may be written. -/
def SW (w : World) (x : Nat) (A : Value) (lg nx : Int) : Prop := SBox w x A lg nx ∧ w.frozen? ⟨x, 0, none⟩ = false ∧ w.frozen? ⟨x, 1, none⟩ = false ∧ w.frozen? ⟨x, 2, none⟩ = false
theorem SW.new (w : World) (T : TypeId) (A : Value) (lg nx : Int) : SW (w.alloc (.cells #[A, .int .i64 lg, .int .i64 nx] T)) w.heap.size A lg nx := ⟨SBox.new w T A lg nx, by simp, by simp, by simp⟩
theorem SBox.keep {w w' : World} {x m : Nat} {A : Value} {lg nx : Int} (h : SBox w x A lg nx) (hb : Below m w w') (hx : x < m) : SBox w' x A lg nx :=
  ⟨(hb.cell (p := ⟨x, 0, none⟩) hx).trans h.1, (hb.cell (p := ⟨x, 1, none⟩) hx).trans h.2.1, (hb.cell (p := ⟨x, 2, none⟩) hx).trans h.2.2.1, Nat.lt_of_lt_of_le h.2.2.2 hb.size⟩
theorem SW.keep {w w' : World} {x m : Nat} {A : Value} {lg nx : Int} (h : SW w x A lg nx) (hb : Below m w w') (hx : x < m) : SW w' x A lg nx :=
  ⟨h.1.keep hb hx, (hb.frozen (p := ⟨x, 0, none⟩) hx).trans h.2.1, (hb.frozen (p := ⟨x, 1, none⟩) hx).trans h.2.2.1, (hb.frozen (p := ⟨x, 2, none⟩) hx).trans h.2.2.2⟩
set_option maxRecDepth 1000000 in
set_option maxHeartbeats 16000000 in
theorem apply12_any (V1 V2 : Value) (s : St) (e : Ed) (w : World) (h1 : SV w V1 s) (h2 : EV w V2 e) (hs : OkT s.1 s.2.2) (hn : s.1.length ≤ 50000) :
    Calls Try.prog 18 #[V1, V2] w (APe s e w) := by
  have hEV := h2
  obtain ⟨a, n, cap, rfl, hst, hok⟩ := h1
  obtain ⟨aa, an, ac, da', dn, dc, rfl, het, hez, heo⟩ := h2
  obtain ⟨ss, sl, sn⟩ := s
  obtain ⟨ts, zs, lg, nx⟩ := e
  simp only at *
  obtain ⟨o1, ho1⟩ : ∃ o, o = Obj.cells #[.slice a n cap, .int .i64 sl, .int .i64 sn] 38 := ⟨_, rfl⟩
  obtain ⟨o2, ho2⟩ : ∃ o, o = Obj.cells #[.slice aa an ac, .slice da' dn dc, .int .i64 lg, .int .i64 nx] 25 := ⟨_, rfl⟩
  obtain ⟨o3, ho3⟩ : ∃ o, o = Obj.cells #[.slice none 0 0, .int .i64 0, .int .i64 0] 38 := ⟨_, rfl⟩
  have sA : SBox (w.alloc o1) w.heap.size (.slice a n cap) sl sn := by rw [ho1]; exact SBox.new _ _ _ _ _
  have sB : EdBox ((w.alloc o1).alloc o2) (w.alloc o1).heap.size (.slice aa an ac) (.slice da' dn dc) lg nx := by rw [ho2]; exact EdBox.new _ _ _ _ _ _
  have sC : SW (((w.alloc o1).alloc o2).alloc o3) ((w.alloc o1).alloc o2).heap.size (.slice none 0 0) 0 0 := by rw [ho3]; exact SW.new _ _ _ _ _
  have b1 : Below w.heap.size w (w.alloc o1) := box_bel w o1
  have b2 := box_bel (w.alloc o1) o2
  have b3 := box_bel ((w.alloc o1).alloc o2) o3
  have k1 : (w.alloc o1).heap.size = w.heap.size + 1 := by simp [go_sem]
  have k2 : ((w.alloc o1).alloc o2).heap.size = w.heap.size + 1 + 1 := by simp [go_sem]
  have k3 : (((w.alloc o1).alloc o2).alloc o3).heap.size = w.heap.size + 1 + 1 + 1 := by simp [go_sem]
  rw [k1] at sB b2
  rw [k2] at sC b3
  replace sA := (sA.below (by rw [k1]; exact b2)).below (by rw [k2]; exact b3)
  replace sB := sB.below (by rw [k2]; exact b3)
  have hb : Below w.heap.size w (((w.alloc o1).alloc o2).alloc o3) := b1.trans ((b2.mono (by omega)).trans (b3.mono (by omega)))
  obtain ⟨w3, hw3⟩ : ∃ w3, w3 = ((w.alloc o1).alloc o2).alloc o3 := ⟨_, rfl⟩
  rw [← hw3] at sA sB sC hb k3
  have HW3 := Lib.hid hw3
  have HO := Lib.hid (And.intro ho1 (And.intro ho2 ho3))
  have HB := Lib.hid hb
  have hEV3 := hEV.old hb
  have hst3 := hst.old hb
  have CK := Lib.hid (chk12_any _ _ _ hEV3)
  obtain ⟨m, hm⟩ : ∃ m, mayEd (ts, zs, lg, nx) = m := ⟨_, rfl⟩
  have hed : edN (ts, zs, lg, nx) = if m = true then 0 else 1 := by unfold edN; rw [hm]
  rw [hed] at CK
  have HFIN : Hid (∀ (wf : World) (u0 u1 u2 : Value), Below w3.heap.size w3 wf → Below w.heap.size w (((wf.setCell ⟨w.heap.size + 1 + 1, 0, none⟩ u0).setCell ⟨w.heap.size + 1 + 1, 1, none⟩ u1).setCell ⟨w.heap.size + 1 + 1, 2, none⟩ u2)) := Lib.hid fun wf u0 u1 u2 hb' =>
    below_new (below_new (below_new (hb.trans (hb'.mono hb.size)) (by omega) 0 u0) (by omega) 1 u1) (by omega) 2 u2
  have HLT : Hid (w.heap.size < w3.heap.size ∧ w.heap.size + 1 < w3.heap.size ∧ w.heap.size + 1 + 1 < w3.heap.size) := Lib.hid (by omega)
  obtain ⟨xc, hxc⟩ : ∃ xc, xc = w.heap.size + 1 + 1 := ⟨_, rfl⟩
  rw [← hxc] at sC HFIN HLT
  obtain ⟨xb, hxb⟩ : ∃ xb, xb = w.heap.size + 1 := ⟨_, rfl⟩
  rw [← hxb] at sB HLT hxc
  obtain ⟨xa, hxa⟩ : ∃ xa, xa = w.heap.size := ⟨_, rfl⟩
  rw [← hxa] at sA HLT
  have HX := Lib.hid (And.intro hxa (And.intro hxb hxc))
  have HA := Lib.hid sA
  have HE := Lib.hid sB
  have HR := Lib.hid sC
  have HS := Lib.hid hs
  have HEV := Lib.hid hEV3
  have HST := Lib.hid hst3
  have HOK := Lib.hid hok
  have HM := Lib.hid hm
  have HN := Lib.hid hn
  clear b1 b2 b3 k1 k2 k3 hb hEV hEV3 hst hst3 hs hok het hez heo hed hm hn
  obtain ⟨x0, x1, x2, x3⟩ := sA
  obtain ⟨y0, y1, y2, y3, y4⟩ := sB
  obtain ⟨⟨z0, z1, z2, z3⟩, f0, f1, f2⟩ := sC
  go_enter Try.func18, Try.ntmps18
  go_upto_region 1 with fail
  rw [← ho1, ← ho2, ← ho3, ← hw3, ← hxb, ← hxc, ← hxa]
  clear ho1 ho2 ho3 hw3 hxa hxb hxc HW3 HO
  go_wp2_with fail
  refine CK.out.mono ?_
  rintro e w4 ⟨rfl, hb4⟩
  have HB4 := Lib.hid hb4
  clear CK hb4 x0 x1 x2 x3 y0 y1 y2 y3 y4 z0 z1 z2 z3 f0 f1 f2
  have HZERO : Hid (∀ (wf : World) (N : Int), Below w3.heap.size w3 wf → apN (ss, sl, sn) (ts, zs, lg, nx) = N ∧ apS (ss, sl, sn) (ts, zs, lg, nx) = ([], 0, 0) → APe (ss, sl, sn) (ts, zs, lg, nx) w (.returned (.tuple #[.agg #[.slice none 0 0, .int .i64 0, .int .i64 0], .int .i64 N])) (((wf.setCell ⟨xc, 0, none⟩ (.slice none 0 0)).setCell ⟨xc, 1, none⟩ (.int .i64 0)).setCell ⟨xc, 2, none⟩ (.int .i64 0))) := Lib.hid fun wf N hb hN =>
    ⟨_, by rw [hN.1], by rw [hN.2]; exact SV.zero _, HFIN.out wf _ _ _ hb⟩
  cases m with
  | false =>
    have hN := ap_may (s := (ss, sl, sn)) (e := (ts, zs, lg, nx)) (by rw [HM.out]; decide)
    rw [if_neg (by decide)]
    obtain ⟨⟨z0, z1, z2, z3⟩, f0, f1, f2⟩ := HR.out.keep HB4.out HLT.out.2.2
    go_wp2_with fail
    try simp only [Exit.inBlock, Exit.then]
    refine bodyPost_ret (v := .tuple #[.agg #[.slice none 0 0, .int .i64 0, .int .i64 0], .int .i64 1]) (by simp [results, Try.results18, go_sem, z0, z1, z2, z3]) rfl ?_
    exact HZERO.out _ _ HB4.out hN
  | true =>
  rw [if_pos rfl]
  obtain ⟨⟨z0, z1, z2, z3⟩, f0, f1, f2⟩ := HR.out.keep HB4.out HLT.out.2.2
  obtain ⟨x0, x1, x2, x3⟩ := HA.out.below HB4.out
  obtain ⟨y0, y1, y2, y3, y4⟩ := HE.out.below HB4.out
  by_cases h1 : lg < sl
  · have hN := ap_no HM.out (app_log (s := (ss, sl, sn)) (e := (ts, zs, lg, nx)) h1)
    have HNO := Lib.hid hN
    clear hN
    go_wp2_with fail
    try simp only [Exit.inBlock, Exit.then]
    refine bodyPost_ret (v := .tuple #[.agg #[.slice none 0 0, .int .i64 0, .int .i64 0], .int .i64 120]) (by simp [results, Try.results18, go_sem, z0, z1, z2, z3]) rfl ?_
    exact HZERO.out _ _ HB4.out HNO.out
  by_cases h2 : nx < sn
  · have hN := ap_no HM.out (app_next (s := (ss, sl, sn)) (e := (ts, zs, lg, nx)) h2)
    have HNO := Lib.hid hN
    clear hN
    go_wp2_with fail
    try simp only [Exit.inBlock, Exit.then]
    refine bodyPost_ret (v := .tuple #[.agg #[.slice none 0 0, .int .i64 0, .int .i64 0], .int .i64 120]) (by simp [results, Try.results18, go_sem, z0, z1, z2, z3]) rfl ?_
    exact HZERO.out _ _ HB4.out HNO.out
  have CG := Lib.hid (changed_any a n cap ss _ _ _ (HST.out.old HB4.out) HOK.out HN.out HS.out.ids HS.out.may (HEV.out.old HB4.out) HM.out)
  go_upto_region 6 with (go_at_call 42; refine CG.out.mono ?_; rintro e w5 ⟨hb5, hres⟩; have HB5 := Lib.hid hb5; have HRES := Lib.hid hres; clear hb5 hres CG; have hpick := HRES.out; rcases hpick with ⟨hft, v, base, rfl, hbs, hbe, hrow⟩ | ⟨hft, v, rfl⟩)
  rotate_left
  · have hN := ap_no HM.out (app_fit (s := (ss, sl, sn)) (e := (ts, zs, lg, nx)) hft)
    have HNO := Lib.hid hN
    have HBZ := Lib.hid (HB4.out.trans (HB5.out.mono HB4.out.size))
    clear hN hft HRES z0 z1 z2 z3 f0 f1 f2 x0 x1 x2 x3 y0 y1 y2 y3 y4
    obtain ⟨⟨z0, z1, z2, z3⟩, f0, f1, f2⟩ := HR.out.keep HBZ.out HLT.out.2.2
    go_wp2_with fail
    try simp only [Exit.inBlock, Exit.then]
    refine bodyPost_ret (v := .tuple #[.agg #[.slice none 0 0, .int .i64 0, .int .i64 0], .int .i64 120]) (by simp [results, Try.results18, go_sem, z0, z1, z2, z3]) rfl ?_
    exact HZERO.out _ _ HBZ.out HNO.out
  have HBZ := Lib.hid (HB4.out.trans (HB5.out.mono HB4.out.size))
  have hkn : (keptT ss zs ++ ts).length ≤ 100000 := by
    rw [List.length_append]
    have h1 := (kept_sub ss zs).length_le
    have h2 := (mayEd_iff.1 HM.out).1
    have h3 := HN.out
    simp only at h2
    omega
  obtain ⟨a', cap', rfl, hcall⟩ := sortTab_any base v _ w5 hbe hkn hrow
  have HCALL := Lib.hid hcall
  have HFAR := Lib.hid (own_far hrow)
  have HFT := Lib.hid hft
  have HKN := Lib.hid hkn
  have HBS := Lib.hid hbs
  have HBE := Lib.hid hbe
  have HBL : Hid (w3.heap.size ≤ base) := Lib.hid (by have := HB4.out.size; omega)
  clear hcall hrow hft hkn hbs hbe HRES z0 z1 z2 z3 f0 f1 f2 x0 x1 x2 x3 y0 y1 y2 y3 y4
  obtain ⟨NL, hNL⟩ : ∃ NL, NL = (keptT ss zs ++ ts).length := ⟨_, rfl⟩
  rw [← hNL] at HCALL HKN ⊢
  have HNL := Lib.hid hNL
  clear hNL
  go_wp2_with fail
  refine HCALL.out.mono ?_
  rintro e w6 ⟨rfl, L, hp, hw, hst, hb6⟩
  have HP := Lib.hid hp
  have HW := Lib.hid hw
  have HST6 := Lib.hid hst
  have HB6 := Lib.hid hb6
  have HAP := Lib.hid (apart_any _ _ _ _ _ hst HKN.out)
  have HBQ := Lib.hid (HBZ.out.trans (hb6.mono HBL.out))
  obtain ⟨c, hc⟩ : ∃ c, nearT L = c := ⟨_, rfl⟩
  rw [hc] at HAP
  have HCC := Lib.hid hc
  clear hp hw hst hb6 HCALL hc
  go_wp2_with fail
  refine HAP.out.mono ?_
  rintro e w7 ⟨rfl, hb7⟩
  have HB7 := Lib.hid hb7
  have HB37 := Lib.hid (HBQ.out.trans (hb7.mono (HBQ.out.size)))
  have hne := near_next HS.out HM.out HFT.out HP.out HW.out
  have HNE := Lib.hid hne
  clear hne HAP hb7
  obtain ⟨⟨z0, z1, z2, z3⟩, f0, f1, f2⟩ := HR.out.keep HB37.out HLT.out.2.2
  obtain ⟨y0, y1, y2, y3, y4⟩ := HE.out.keep HB37.out HLT.out.2.1
  cases c with
  | false =>
    have hN := ap_no HM.out (app_apt (s := (ss, sl, sn)) (e := (ts, zs, lg, nx)) (fun q => by have := HNE.out.1.2 q; rw [HCC.out] at this; cases this))
    have HNO := Lib.hid hN
    clear hN
    go_wp2_with fail
    try simp only [Exit.inBlock, Exit.then]
    refine bodyPost_ret (v := .tuple #[.agg #[.slice none 0 0, .int .i64 0, .int .i64 0], .int .i64 120]) (by simp [results, Try.results18, go_sem, z0, z1, z2, z3]) rfl ?_
    exact HZERO.out _ _ HB37.out HNO.out
  | true =>
    have hN := ap_yes HM.out (app_all (s := (ss, sl, sn)) (e := (ts, zs, lg, nx)) (by show ¬ lg < sl; omega) (by show ¬ nx < sn; omega) HFT.out (HNE.out.1.1 HCC.out))
    have HNO := Lib.hid hN
    have hLe : L = nextT ss (ts, zs, lg, nx) := HNE.out.2 HCC.out
    have HLe := Lib.hid hLe
    have hmy : okT L := fun t ht => okTb_may (all_may HS.out HM.out t (HP.out.mem_iff.1 ht))
    have HMY := Lib.hid hmy
    have HFX : Hid (∀ y, a' = some y → y.block ≠ xc) := Lib.hid fun y hy => by have q1 := HFAR.out y hy; have q2 := HBL.out; have q3 := HLT.out.2.2; omega
    clear hN hLe hmy
    go_wp2_with fail
    try simp only [Exit.inBlock, Exit.then]
    refine bodyPost_ret (v := .tuple #[.agg #[.slice a' NL cap', .int .i64 lg, .int .i64 nx], .int .i64 0]) (by simp [results, Try.results18, go_sem, z0, z1, z2, z3]) rfl ?_
    refine ⟨_, by rw [HNO.out.1], ?_, HFIN.out _ _ _ _ HB37.out⟩
    rw [HNO.out.2]
    have h7 := HST6.out.old HB7.out
    rw [HLe.out] at h7
    have hm := HMY.out
    rw [HLe.out] at hm
    exact ⟨a', NL, cap', rfl, ((h7.set HFX.out).set HFX.out).set HFX.out, hm⟩
end Go.Proofs.Ythmkalnbdocdcaa
