/-
  Layer 14 (once): contracts of Put, Join, of the code. Conditions: lists that are read.
-/
import Derived.Test.YtemaonfgledcmaaNe
namespace Go.Proofs.Ytemaonfgledcmaa
open Go.RowKit
set_option linter.unusedVariables false
set_option linter.unusedSimpArgs false

/-- A list and an error that a call hands back. -/
def LE (l : List Sn) (E : Int) (w : World) (e : Ending) (w' : World) : Prop := ∃ a n cap, e = .returned (.tuple #[.slice a n cap, .int .i64 E]) ∧ SS w' a n cap l ∧ Below w.heap.size w w'
set_option maxRecDepth 100000 in
set_option maxHeartbeats 4000000 in
theorem put14_any (a : Option Addr) (n cap : Nat) (l : List Sn) (x : Sn) (w : World) (h : SS w a n cap l) :
    Calls Try.prog 26 #[.slice a n cap, sa x] w (LE ((putL l x).map normS) (putE l x) w) := by
  obtain ⟨b, hb⟩ : ∃ b, b = chk l := ⟨_, rfl⟩
  have HS0 := Lib.hid (SBox.new w 39 x)
  have b0 := box_bel14 w (.cells #[.int .i64 x.c, .int .i64 x.s, .int .i64 x.e, .string x.v, .bool x.h, .slice x.p x.n x.k, .string x.u] 39)
  have HP := Lib.hid (place14_any a n cap l (w.alloc (.cells #[.int .i64 x.c, .int .i64 x.s, .int .i64 x.e, .string x.v, .bool x.h, .slice x.p x.n x.k, .string x.u] 39)) (h.old b0) b hb.symm)
  obtain ⟨PP, hPP⟩ : ∃ PP, PP = if b = true then plcd l else fun _ => Z0 := ⟨_, rfl⟩
  rw [← hPP] at HP
  have HPP := Lib.hid hPP
  have HSZ := Lib.hid (size8_of PP)
  obtain ⟨r, hr⟩ : ∃ r, r = mayS x := ⟨_, rfl⟩
  have HM := Lib.hid (mayBe14_any x r hr.symm)
  have HBB := Lib.hid (And.intro hb hr)
  obtain ⟨E, hE⟩ : ∃ E, E = putE l x := ⟨_, rfl⟩
  obtain ⟨X, hX⟩ : ∃ X, X = (putL l x).map normS := ⟨_, rfl⟩
  rw [← hE, ← hX]
  have HEX := Lib.hid (And.intro hE hX)
  have hno : (b && r) = false → E = 1 ∧ X = [] := fun k => by
    have : putE l x = 1 := by unfold putE; rw [← hb, ← hr, k]; rfl
    rw [hE, hX, putL_no (by rw [this]; decide), this]; exact ⟨rfl, rfl⟩
  have HNO := Lib.hid hno
  clear hno hE hX hb hr hPP h
  go_enter Try.func26, Try.ntmps26
  go_wp2_with fail
  have HB0 := Lib.hid b0
  obtain ⟨xb, hxb⟩ : ∃ xb, xb = w.heap.size := ⟨_, rfl⟩
  have HXB := Lib.hid hxb
  rw [← hxb] at HS0 ⊢
  clear hxb b0
  have hw1 : w.heap.size ≤ (w.alloc (.cells #[.int .i64 x.c, .int .i64 x.s, .int .i64 x.e, .string x.v, .bool x.h, .slice x.p x.n x.k, .string x.u] 39)).heap.size := by simp
  generalize w.alloc (.cells #[.int .i64 x.c, .int .i64 x.s, .int .i64 x.e, .string x.v, .bool x.h, .slice x.p x.n x.k, .string x.u] 39) = w1 at *
  refine HP.out.mono ?_
  rintro e w2 ⟨rfl, hb2⟩
  have HB2 := Lib.hid (HB0.out.trans (hb2.mono hw1))
  have HS2 := Lib.hid (HS0.out.below hb2)
  clear hb2 HP HB0 HS0 hw1
  go_upto_region 2 with (with_reducible refine wpList_store_mid rfl 69 (.tmp 6) (.tmp 11) rfl w2.heap.size 0 (cells8 PP).toArray ?e11 ?e12 ?e13 HSZ.out (cells8_one _) ?_)
  case e11 => rfl
  case e12 => rfl
  case e13 => exact there8 _ _
  rw [zero8]
  have HP3 := Lib.hid ((PL.new w2 (fun _ => Z0) 69).all (q := PP))
  have HB3 := Lib.hid (below_setCells (cells8 PP) 0 _ (HB2.out.alloc HB2.out.size (.cells (cells8 fun _ => Z0).toArray 69)) HB2.out.size)
  have HS3 := Lib.hid (HS2.out.below (below_setCells (cells8 PP) 0 _ (box_bel14 w2 (.cells (cells8 fun _ => Z0).toArray 69)) (Nat.le_refl _)))
  obtain ⟨y, hy⟩ : ∃ y, y = w2.heap.size := ⟨_, rfl⟩
  rw [← hy] at HP3 HB3 HS3 ⊢
  have hry : ¬ xb = y := by have := HS2.out.2.2.2.2.2.2.2; omega
  have hwy : w.heap.size ≤ y := by rw [hy]; exact HB2.out.size
  clear hy HB2 HS2
  generalize (w2.alloc (.cells (cells8 fun _ => Z0).toArray 69)).setCells y 0 (cells8 PP) = w3 at *
  cases b with
  | false =>
    obtain ⟨rfl, rfl⟩ := HNO.out rfl
    clear HNO
    go_wp2_with fail
    go_ret2
    exact ⟨none, 0, 0, rfl, SS.none _, HB3.out⟩
  | true =>
    obtain ⟨q0, q1, q2, q3, q4, q5, q6, q7⟩ := HS3.out
    go_wp2_with fail
    refine (HM.out _).mono ?_
    rintro e w4 ⟨rfl, hb4⟩
    have HS4 := Lib.hid (HS3.out.below hb4)
    have HP4 := Lib.hid (HP3.out.below hb4)
    have HB4 := Lib.hid (HB3.out.trans (hb4.mono HB3.out.size))
    clear q0 q1 q2 q3 q4 q5 q6 q7 hb4 HS3 HP3 HB3 HM
    cases r with
    | false =>
      obtain ⟨rfl, rfl⟩ := HNO.out rfl
      clear HNO
      go_wp2_with fail
      go_ret2
      exact ⟨none, 0, 0, rfl, SS.none _, HB4.out⟩
    | true =>
      clear HNO
      have hPP : PP = plcd l := HPP.out
      have hmx := mayS_iff.1 HBB.out.2.symm
      have HMX := Lib.hid hmx
      obtain ⟨i, hi0⟩ : ∃ i : Nat, x.c = (i : Int) := ⟨x.c.toNat, by omega⟩
      have hi : i < 8 := by omega
      have hii : (i : Int) < 8 := by omega
      obtain ⟨z, hz⟩ : ∃ z, z = PP i := ⟨_, rfl⟩
      obtain ⟨c0, c1, c2, c3, c4, c5, c6⟩ := HP4.out.cells hi
      obtain ⟨q0, q1, q2, q3, q4, q5, q6, q7⟩ := HS4.out
      rw [← hz] at c0 c1 c2 c3 c4 c5 c6
      have hzs : (z.s < x.s ↔ newer (look l x.c) x.s = true) := by
        rw [hz, hPP, plcd_at HBB.out.1.symm, ← hi0]
        cases look l x.c with
        | none => simp only [newer, iff_true]; show (0 : Int) < x.s; omega
        | some y => simp only [newer, decide_eq_true_eq]; exact Iff.rfl
      have hE0 : E = if newer (look l x.c) x.s = true then 0 else 140 := by rw [HEX.out.1]; unfold putE; rw [← HBB.out.1, ← HBB.out.2]; rfl
      have HZS := Lib.hid (And.intro hzs hE0)
      rw [hi0] at q0
      have HI0 := Lib.hid hi0
      clear hz hPP hmx hzs hE0 hi0
      have hy4 : y < w4.heap.size := HP4.out.lt
      by_cases hlt : z.s < x.s
      · have hgt : ¬ z.s ≥ x.s := by omega
        obtain rfl : E = 0 := by rw [HZS.out.2, if_pos (HZS.out.1.1 hlt)]
        have hXX : X = (pt x false l).map normS := by rw [HEX.out.2, (putL_ok HEX.out.1.symm).1]
        have HXX := Lib.hid (hXX.trans (by rw [← lst_put HBB.out.1.symm HBB.out.2.symm, ← show PP = plcd l from HPP.out]) : X = lstP (setP PP x) 8)
        clear hXX
        go_wp2_with fail
        go_quiet (fail)
        have HBd := (Below.refl w4.heap.size w4)
        have HB5 := Lib.hid (HB4.out.trans ((below_drewN (Below.refl _ w4) nq).mono HB4.out.size))
        have HP5 := Lib.hid (HP4.out.below (below_drewN (Below.refl _ w4) nq))
        have HS5 := Lib.hid (HS4.out.below (below_drewN (Below.refl _ w4) nq))
        clear c0 c1 c2 c3 c4 c5 c6 q0 q1 q2 q3 q4 q5 q6 q7 HBd HS4 HP4 HB4
        generalize w4.drewN nq = w5 at *
        obtain ⟨q0, q1, q2, q3, q4, q5, q6, q7⟩ := HS5.out
        go_wp2_with fail
        refine (set14_any y PP x HMX.out.1 HMX.out.2.2.1 HMX.out.2.2.2.2.1 w5 HP5.out).mono ?_
        rintro e w6 ⟨rfl, hp6, hk6, hb6⟩
        have HP6 := Lib.hid hp6
        have HB6 := Lib.hid (HB5.out.trans (hb6.mono hwy))
        clear hp6 hk6 hb6 q0 q1 q2 q3 q4 q5 q6 q7
        go_wp2_with fail
        refine (list14_any y _ w6 HP6.out).mono ?_
        rintro e w7 ⟨a7, n7, c7, rfl, hs7, hb7⟩
        have HS7 := Lib.hid hs7
        have HB7 := Lib.hid (HB6.out.trans (hb7.mono HB6.out.size))
        clear hs7 hb7
        go_wp2_with fail
        go_ret2
        exact ⟨a7, n7, c7, rfl, by rw [HXX.out]; exact HS7.out, HB7.out⟩
      · have hgt : z.s ≥ x.s := by omega
        obtain rfl : E = 140 := by rw [HZS.out.2, if_neg (fun k => hlt (HZS.out.1.2 k))]
        obtain rfl : X = [] := by rw [HEX.out.2, putL_no (by rw [← HEX.out.1]; decide)]; rfl
        go_wp2_with fail
        go_quiet (fail)
        have HB5 := Lib.hid (HB4.out.trans ((below_drewN (Below.refl _ w4) nq).mono HB4.out.size))
        clear c0 c1 c2 c3 c4 c5 c6 q0 q1 q2 q3 q4 q5 q6 q7
        generalize w4.drewN nq = w5 at *
        go_wp2_with fail
        go_ret2
        exact ⟨none, 0, 0, rfl, SS.none _, HB5.out⟩
end Go.Proofs.Ytemaonfgledcmaa
