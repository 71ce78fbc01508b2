/-
  Layer 14 (once): the walk of OnceFinds. Conditions: none beyond the row's own.
-/
import Derived.Test.YtnjpgepdfclalaaNm
import Derived.Test.YtnjpgepdfclalaaNo
namespace Go.Proofs.Ytnjpgepdfclalaa
open Go.RowKit
set_option linter.unusedVariables false
set_option linter.unusedSimpArgs false

theorem SS.lit (W : World) (x : Sn) (t : TypeId) : SS (W.alloc (.cells #[.int .i64 x.c, .int .i64 x.s, .int .i64 x.e, .string x.v, .bool x.h, .slice x.p x.n x.k, .string x.u] t)) (some ⟨W.heap.size, 0, Option.none⟩) 1 1 [x] :=
  ⟨rfl, .inr ⟨W.heap.size, 0, rfl, by simp, fun i hi => by
    have : i = 0 := by simpa using hi
    subst this
    exact ⟨by simp, by simp, by simp, by simp, by simp, by simp, by simp⟩⟩, Nat.le_refl _, by unfold maxLen; omega⟩
/-- A reply in a block of its own. -/
def RpBox (w : World) (b : Nat) (x : Sn) : Prop := w.cell? ⟨b, 0, none⟩ = some (.int .i64 x.e) ∧ w.cell? ⟨b, 1, none⟩ = some (.string x.v) ∧ w.cell? ⟨b, 2, none⟩ = some (.bool x.h) ∧ w.cell? ⟨b, 3, none⟩ = some (.slice x.p x.n x.k) ∧ w.cell? ⟨b, 4, none⟩ = some (.string x.u) ∧ b < w.heap.size
theorem RpBox.new (w : World) (t : TypeId) (x : Sn) : RpBox (w.alloc (.cells #[.int .i64 x.e, .string x.v, .bool x.h, .slice x.p x.n x.k, .string x.u] t)) w.heap.size x := ⟨by simp, by simp, by simp, by simp, by simp, by simp⟩
theorem RpBox.below {w w' : World} {b : Nat} {x : Sn} (h : RpBox w b x) (hb : Below w.heap.size w w') : RpBox w' b x := by
  obtain ⟨h0, h1, h2, h3, h4, hl⟩ := h
  exact ⟨(hb.cell (p := ⟨b, 0, none⟩) hl).trans h0, (hb.cell (p := ⟨b, 1, none⟩) hl).trans h1, (hb.cell (p := ⟨b, 2, none⟩) hl).trans h2, (hb.cell (p := ⟨b, 3, none⟩) hl).trans h3, (hb.cell (p := ⟨b, 4, none⟩) hl).trans h4, Nat.lt_of_lt_of_le hl hb.size⟩
theorem lite_one (x : Sn) : liteS [x] = lite1 x := by unfold liteS; simp
theorem bare_fnd {l : List Sn} {c s : Int} : bareS (fndS l c s) := by
  unfold fndS
  by_cases h : fndE l c s = 0
  · rw [if_pos h]
    cases hl : look l c with
    | none => exact bareS_Z0
    | some y =>
      have hc : chk l = true := by
        unfold fndE at h
        by_cases q : (chk l && cliB c && seqB s) = true
        · simp at q; exact q.1.1
        · rw [if_neg q] at h; cases h
      exact bareS_may ((chk_iff.1 hc).1 y (look_some hl).1)
  · rw [if_neg h]; exact bareS_Z0
theorem bare_chk {l : List Sn} (h : chk l = true) : ∀ x ∈ l, bareS x := fun x hx => bareS_may ((chk_iff.1 h).1 x hx)
theorem bare_map (l : List Sn) : ∀ x ∈ l.map normS, bareS x := fun x hx => by
  rw [List.mem_map] at hx
  obtain ⟨y, _, rfl⟩ := hx
  exact bareS_norm y
theorem bare_put (l : List Sn) (x : Sn) : ∀ y ∈ putL l x, bareS y := by
  by_cases h : putE l x = 0
  · rw [(putL_ok h).1]
    exact bare_chk (pt_chk (putL_ok h).2.1 (putL_ok h).2.2.1)
  · rw [putL_no h]; intro y hy; simp at hy
theorem map_norm2 (l : List Sn) : (l.map normS).map normS = l.map normS := by rw [List.map_map]; rfl
set_option maxRecDepth 100000 in
set_option maxHeartbeats 8000000 in
theorem walk_OnceFinds (a : Option Addr) (n cap : Nat) (l : List Sn) (y0 y1 : Int) (x : Sn) (w : World) (h : SS w a n cap l) :
    Calls Try.prog 3 #[.slice a n cap, .agg #[.int .i64 y0, .int .i64 y1], sa x] w fun e w' => e = .returned (.bool true) ∧ Below w.heap.size w w' := by
  obtain ⟨b1, hb1⟩ : ∃ b, b = liteS l := ⟨_, rfl⟩
  obtain ⟨b2, hb2⟩ : ∃ b, b = liteS [x] := ⟨_, rfl⟩
  obtain ⟨o1, ho1⟩ : ∃ o, o = Obj.cells #[.int .i64 y0, .int .i64 y1] 23 := ⟨_, rfl⟩
  obtain ⟨o2, ho2⟩ : ∃ o, o = Obj.cells #[.int .i64 x.c, .int .i64 x.s, .int .i64 x.e, .string x.v, .bool x.h, .slice x.p x.n x.k, .string x.u] 29 := ⟨_, rfl⟩
  have hk1 : (w.alloc o1).cell? ⟨w.heap.size, 0, none⟩ = some (.int .i64 y0) ∧ (w.alloc o1).cell? ⟨w.heap.size, 1, none⟩ = some (.int .i64 y1) ∧ w.heap.size < (w.alloc o1).heap.size := by rw [ho1]; exact ⟨by simp, by simp, by simp⟩
  have hk2 : SBox ((w.alloc o1).alloc o2) (w.alloc o1).heap.size x := by rw [ho2]; exact SBox.new _ _ x
  have hbb := box_bel14 (w.alloc o1) o2
  have hw0 := (box_bel14 w o1).alloc (show w.heap.size ≤ (w.alloc o1).heap.size by simp) o2
  have hl2 : SS ((w.alloc o1).alloc o2) a n cap l := h.old hw0
  have hk3 : ((w.alloc o1).alloc o2).cell? ⟨w.heap.size, 0, none⟩ = some (.int .i64 y0) ∧ ((w.alloc o1).alloc o2).cell? ⟨w.heap.size, 1, none⟩ = some (.int .i64 y1) ∧ w.heap.size < ((w.alloc o1).alloc o2).heap.size :=
    ⟨(hbb.cell (p := ⟨w.heap.size, 0, none⟩) hk1.2.2).trans hk1.1, (hbb.cell (p := ⟨w.heap.size, 1, none⟩) hk1.2.2).trans hk1.2.1, Nat.lt_of_lt_of_le hk1.2.2 hbb.size⟩
  rw [show (w.alloc o1).heap.size = w.heap.size + 1 by simp] at hk2
  have HK : Hid (∀ W, Below ((w.alloc o1).alloc o2).heap.size ((w.alloc o1).alloc o2) W → SS W a n cap l ∧ SBox W (w.heap.size + 1) x ∧ (W.cell? ⟨w.heap.size, 0, none⟩ = some (.int .i64 y0) ∧ W.cell? ⟨w.heap.size, 1, none⟩ = some (.int .i64 y1) ∧ w.heap.size < W.heap.size)) := Lib.hid fun W hW =>
    ⟨hl2.old hW, hk2.below hW, (hW.cell (p := ⟨w.heap.size, 0, none⟩) hk3.2.2).trans hk3.1, (hW.cell (p := ⟨w.heap.size, 1, none⟩) hk3.2.2).trans hk3.2.1, Nat.lt_of_lt_of_le hk3.2.2 hW.size⟩
  have HW0 := Lib.hid hw0
  have HLT := Lib.hid (show ∀ W, SS W a n cap l → Calls Try.prog 8 #[.slice a n cap] W fun e w' => e = .returned (.bool b1) ∧ Below W.heap.size W w' from fun W hW => light14_any a n cap l b1 hb1.symm W hW)
  have HLX := Lib.hid (show ∀ a n cap W, SS W a n cap [x] → Calls Try.prog 8 #[.slice a n cap] W fun e w' => e = .returned (.bool b2) ∧ Below W.heap.size W w' from fun a n cap W hW => light14_any a n cap [x] b2 hb2.symm W hW)
  obtain ⟨E1, hE1⟩ : ∃ E, E = fndE l y0 y1 := ⟨_, rfl⟩
  obtain ⟨X1, hX1⟩ : ∃ X, X = normS (fndS l y0 y1) := ⟨_, rfl⟩
  obtain ⟨X2, hX2⟩ : ∃ X, X = fndS l y0 y1 := ⟨_, rfl⟩
  have HF1 := Lib.hid (show ∀ W, SS W a n cap l → Calls Try.prog 10 #[.slice a n cap, .int .i64 y0, .int .i64 y1] W fun e w' => e = .returned (.tuple #[ra X1, .int .i64 E1]) ∧ Below W.heap.size W w' from fun W hW => by rw [hX1, hE1]; exact find14_any a n cap l y0 y1 W hW)
  have HF2 := Lib.hid (show ∀ W, SS W a n cap l → Calls Try.prog 11 #[.slice a n cap, .int .i64 y0, .int .i64 y1] W fun e w' => e = .returned (.tuple #[ra X2, .int .i64 E1]) ∧ Below W.heap.size W w' from fun W hW => by rw [hX2, hE1]; exact rFind14_any a n cap l y0 y1 W hW)
  have HSR := Lib.hid (sameReply_any X1 X2 (by rw [hX1]; exact bareS_norm _) (by rw [hX2]; exact bare_fnd) (by rw [hX1, hX2]; rfl) (by rw [hX1, hX2]; rfl))
  obtain ⟨E2, hE2⟩ : ∃ E, E = putE l x := ⟨_, rfl⟩
  obtain ⟨L1, hL1⟩ : ∃ L, L = (putL l x).map normS := ⟨_, rfl⟩
  obtain ⟨L2, hL2⟩ : ∃ L, L = putL l x := ⟨_, rfl⟩
  have HP1 := Lib.hid (show ∀ W, SS W a n cap l → Calls Try.prog 12 #[.slice a n cap, sa x] W (LE L1 E2 W) from fun W hW => by rw [hL1, hE2]; exact put14_any a n cap l x W hW)
  have HSM := Lib.hid (And.intro (show ∀ y ∈ L1, bareS y by rw [hL1]; exact bare_map _) (And.intro (show ∀ y ∈ L2, bareS y by rw [hL2]; exact bare_put l x) (show L1.map normS = L2.map normS by rw [hL1, hL2, map_norm2])))
  obtain ⟨C, hC⟩ : ∃ C, C = chkE l := ⟨_, rfl⟩
  have HC1 := Lib.hid (show ∀ W, SS W a n cap l → Calls Try.prog 16 #[.slice a n cap] W fun e w' => e = .returned (.int .i64 C) ∧ Below W.heap.size W w' from fun W hW => by rw [hC]; exact check14_any a n cap l W hW)
  have HC2 := Lib.hid (show ∀ W, SS W a n cap l → Calls Try.prog 17 #[.slice a n cap] W fun e w' => e = .returned (.int .i64 C) ∧ Below W.heap.size W w' from fun W hW => by rw [hC]; exact rcheck14_any a n cap l W hW)
  have HP2 := Lib.hid (show n ≤ 100 → ∀ W, SS W a n cap l → Calls Try.prog 13 #[.slice a n cap, sa x] W (LE L2 E2 W) from fun hn W hW => by rw [hL2, hE2]; exact rPut14_any a n cap l x hn W hW)
  have HLN := Lib.hid (show b1 = true → n ≤ 100 from fun hb => by
    rw [hb1] at hb
    unfold liteS at hb
    rw [Bool.and_eq_true, decide_eq_true_eq, h.1] at hb
    omega)
  clear hk1 hk2 hbb hw0 hl2 hk3 hb1 hb2 hE1 hX1 hX2 hE2 hL1 hL2 hC h
  go_enter Try.func3, Try.ntmps3
  go_upto_region 1 with fail
  rw [← ho1, ← ho2]
  clear ho1 ho2
  obtain ⟨yb, hyb⟩ : ∃ yb, yb = w.heap.size := ⟨_, rfl⟩
  obtain ⟨xb, hxb⟩ : ∃ xb, xb = w.heap.size + 1 := ⟨_, rfl⟩
  rw [← hxb, ← hyb] at HK ⊢
  have HYX := Lib.hid (And.intro hyb hxb)
  clear hyb hxb
  generalize (w.alloc o1).alloc o2 = w0 at *
  have HN := Lib.hid (HK.out w0 (Below.refl _ _))
  go_wp2_with fail
  refine (HLT.out _ HN.out.1).mono ?_
  rintro e w1 ⟨rfl, hb⟩
  have HB1 := Lib.hid hb
  have HN1 := Lib.hid (HK.out w1 hb)
  clear hb HN HLT
  cases b1 with
  | false =>
    go_wp2_with fail
    refine (awake14_any w1).mono ?_
    rintro e w2 ⟨rfl, hb⟩
    have HB2 := Lib.hid (HB1.out.trans (hb.mono HB1.out.size))
    clear hb
    go_wp2_with fail
    go_ret
    exact ⟨rfl, HW0.out.trans (HB2.out.mono HW0.out.size)⟩
  | true =>
  obtain ⟨q0, q1, q2, q3, q4, q5, q6, q7⟩ := HN1.out.2.1
  go_wp2_with fail
  refine (HLX.out _ _ _ _ (SS.lit w1 x _)).mono ?_
  rintro e w2 ⟨rfl, hb⟩
  have HB2 := Lib.hid ((HB1.out.alloc HB1.out.size (.cells #[.int .i64 x.c, .int .i64 x.s, .int .i64 x.e, .string x.v, .bool x.h, .slice x.p x.n x.k, .string x.u] 29)).trans (hb.mono (HB1.out.alloc HB1.out.size (.cells #[.int .i64 x.c, .int .i64 x.s, .int .i64 x.e, .string x.v, .bool x.h, .slice x.p x.n x.k, .string x.u] 29)).size))
  have HN2 := Lib.hid (HK.out w2 HB2.out)
  clear hb HN1 HLX q0 q1 q2 q3 q4 q5 q6 q7 HB1
  cases b2 with
  | false =>
    go_wp2_with fail
    refine (awake14_any w2).mono ?_
    rintro e w3 ⟨rfl, hb⟩
    have HB3 := Lib.hid (HB2.out.trans (hb.mono HB2.out.size))
    clear hb
    go_wp2_with fail
    go_ret
    exact ⟨rfl, HW0.out.trans (HB3.out.mono HW0.out.size)⟩
  | true =>
  obtain ⟨k0, k1, k2⟩ := HN2.out.2.2
  go_wp2_with fail
  refine (HF1.out w2 HN2.out.1).mono ?_
  rintro e w3 ⟨rfl, hb⟩
  clear k0 k1 k2 HN2
  go_upto_region 4 with fail
  have HB4 := Lib.hid ((HB2.out.trans (hb.mono HB2.out.size)).alloc (HB2.out.trans (hb.mono HB2.out.size)).size (.cells #[.int .i64 X1.e, .string X1.v, .bool X1.h, .slice X1.p X1.n X1.k, .string X1.u] 27))
  have HR1 := Lib.hid (RpBox.new w3 27 X1)
  have HN4 := Lib.hid (HK.out _ HB4.out)
  generalize w3.alloc (.cells #[.int .i64 X1.e, .string X1.v, .bool X1.h, .slice X1.p X1.n X1.k, .string X1.u] 27) = w4 at *
  generalize w3.heap.size = r1 at *
  obtain ⟨k0, k1, k2⟩ := HN4.out.2.2
  clear hb HB2 HF1
  go_wp2_with fail
  refine (HF2.out w4 HN4.out.1).mono ?_
  rintro e w5 ⟨rfl, hb⟩
  clear k0 k1 k2 HN4
  have HR1b := Lib.hid ((HR1.out.below hb).below (box_bel14 w5 (.cells #[.int .i64 X2.e, .string X2.v, .bool X2.h, .slice X2.p X2.n X2.k, .string X2.u] 27)))
  clear HR1
  go_upto_region 5 with fail
  have HB6 := Lib.hid ((HB4.out.trans (hb.mono HB4.out.size)).alloc (HB4.out.trans (hb.mono HB4.out.size)).size (.cells #[.int .i64 X2.e, .string X2.v, .bool X2.h, .slice X2.p X2.n X2.k, .string X2.u] 27))
  have HR2 := Lib.hid (RpBox.new w5 27 X2)
  have HN6 := Lib.hid (HK.out _ HB6.out)
  generalize w5.alloc (.cells #[.int .i64 X2.e, .string X2.v, .bool X2.h, .slice X2.p X2.n X2.k, .string X2.u] 27) = w6 at *
  generalize w5.heap.size = r2 at *
  obtain ⟨q0, q1, q2, q3, q4, q5, q6, q7⟩ := HN6.out.2.1
  clear hb HB4 HF2
  go_wp2_with fail
  refine (HP1.out w6 HN6.out.1).mono ?_
  rintro e w7 ⟨a1, n1, c1, rfl, hs, hb⟩
  have HB7 := Lib.hid (HB6.out.trans (hb.mono HB6.out.size))
  have HS1 := Lib.hid hs
  have HR1c := Lib.hid (HR1b.out.below hb)
  have HR2c := Lib.hid (HR2.out.below hb)
  have HN7 := Lib.hid (HK.out w7 HB7.out)
  clear hb hs HB6 HR1b HR2 HN6 q0 q1 q2 q3 q4 q5 q6 q7 HP1
  obtain ⟨q0, q1, q2, q3, q4, q5, q6, q7⟩ := HN7.out.2.1
  go_wp2_with fail
  refine (HP2.out (HLN.out (by simp)) w7 HN7.out.1).mono ?_
  rintro e w8 ⟨a2, n2, c2, rfl, hs, hb⟩
  have HB8 := Lib.hid (HB7.out.trans (hb.mono HB7.out.size))
  have HS2 := Lib.hid hs
  have HS1b := Lib.hid (HS1.out.old hb)
  have HR1d := Lib.hid (HR1c.out.below hb)
  have HR2d := Lib.hid (HR2c.out.below hb)
  clear hb hs HB7 HR1c HR2c HN7 q0 q1 q2 q3 q4 q5 q6 q7 HP2 HS1
  obtain ⟨p0, p1, p2, p3, p4, p5⟩ := HR1d.out
  obtain ⟨q0, q1, q2, q3, q4, q5⟩ := HR2d.out
  go_wp2_with fail
  refine (HSR.out w8).mono ?_
  rintro e w9 ⟨rfl, hb⟩
  have HB9 := Lib.hid (HB8.out.trans (hb.mono HB8.out.size))
  have HS2c := Lib.hid (HS2.out.old hb)
  have HS1c := Lib.hid (HS1b.out.old hb)
  clear hb HB8 HS2 HS1b p0 p1 p2 p3 p4 p5 q0 q1 q2 q3 q4 q5 HSR HR1d HR2d
  go_wp2_with fail
  refine (same14_any a1 n1 c1 L1 a2 n2 c2 L2 w9 HS1c.out HS2c.out HSM.out.1 HSM.out.2.1 HSM.out.2.2).mono ?_
  rintro e w10 ⟨rfl, hb⟩
  have HB10 := Lib.hid (HB9.out.trans (hb.mono HB9.out.size))
  have HN10 := Lib.hid (HK.out w10 HB10.out)
  clear hb HB9 HS1c HS2c HSM
  go_wp2_with fail
  refine (HC1.out w10 HN10.out.1).mono ?_
  rintro e w11 ⟨rfl, hb⟩
  have HB11 := Lib.hid (HB10.out.trans (hb.mono HB10.out.size))
  have HN11 := Lib.hid (HK.out w11 HB11.out)
  clear hb HB10 HN10
  go_wp2_with fail
  refine (HC2.out w11 HN11.out.1).mono ?_
  rintro e w12 ⟨rfl, hb⟩
  have HB12 := Lib.hid (HB11.out.trans (hb.mono HB11.out.size))
  clear hb HB11 HN11
  go_wp2_with fail
  refine (awake14_any w12).mono ?_
  rintro e w13 ⟨rfl, hb⟩
  have HB13 := Lib.hid (HB12.out.trans (hb.mono HB12.out.size))
  clear hb
  go_wp2_with fail
  go_ret
  exact ⟨rfl, HW0.out.trans (HB13.out.mono HW0.out.size)⟩
end Go.Proofs.Ytnjpgepdfclalaa
