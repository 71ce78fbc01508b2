/-
  Layer 14 (once): contract of Join, of the code. Conditions: lists that are read.
-/
import Derived.Test.YtnjpgepdfclalaaNf
namespace Go.Proofs.Ytnjpgepdfclalaa
open Go.RowKit
set_option linter.unusedVariables false
set_option linter.unusedSimpArgs false

theorem Try.sizeSn : (Try.prog.info? 29).map (·.size) = some 7 := by kernel_rfl
theorem index8 (q : Pl) (k : Nat) (hk : k < 8) (w : World) : (Instr.index 53 (.agg (cells8 q).toArray) (.int .i64 (k : Int))).run Try.prog w = .ok (sa (q k)) w := by
  have hg : ∀ j, j < 7 → (cells8 q)[k * 7 + j]? = (cv (q k))[j]? := by
    intro j hj
    have : cells8 q = cvs ((List.range 8).map q) := by unfold cells8 cvs; rw [List.flatMap_map]
    rw [this, cvs_get _ k j (by simpa using hk) hj]
    simp
  have h1 : ((0 : Int) ≤ (k : Int) ∧ (k : Int) < (8 : Nat)) := by omega
  have hx : List.take 7 (List.drop (k * 7) (cells8 q)) = cv (q k) := by
    apply List.ext_getElem?
    intro j
    rw [List.getElem?_take]
    by_cases hj : j < 7
    · rw [if_pos hj, List.getElem?_drop, hg j hj]
    · rw [if_neg hj, List.getElem?_eq_none (by rw [cv_length]; omega)]
  obtain ⟨i0, hi0, hz0, hz1, hz2⟩ := info_parts Try.infoSn
  simp [Instr.index, run_underlying Try.underlying53, asIntOf, h1, go_sem, sizeOf, typeInfo, hi0, hz1, hx, hk]
  rfl
/-- The code's Join after k rounds. -/
theorem jp_succ (p q : Pl) (k : Nat) : jp p q (k + 1) = if (jp p q k (q k).c.toNat).s < (q k).s then setP (jp p q k) (q k) else jp p q k := rfl
def jnE (a b : List Sn) : Int := if (chk a && chk b) = true then 0 else 1
def jnR (a b : List Sn) : List Sn := if (chk a && chk b) = true then jnL a b else []
set_option maxRecDepth 100000 in
set_option maxHeartbeats 4000000 in
theorem join14_any (a : Option Addr) (n cap : Nat) (l : List Sn) (a2 : Option Addr) (n2 cap2 : Nat) (m : List Sn) (w : World) (h : SS w a n cap l) (h2 : SS w a2 n2 cap2 m) :
    Calls Try.prog 18 #[.slice a n cap, .slice a2 n2 cap2] w (LE ((jnR l m).map normS) (jnE l m) w) := by
  obtain ⟨b, hb⟩ : ∃ b, b = chk l := ⟨_, rfl⟩
  obtain ⟨c, hc⟩ : ∃ c, c = chk m := ⟨_, rfl⟩
  have HP := Lib.hid (place14_any a n cap l w h b hb.symm)
  have HQ := Lib.hid (fun (wx : World) (hx : Below w.heap.size w wx) => place14_any a2 n2 cap2 m wx (h2.old hx) c hc.symm)
  obtain ⟨PP, hPP⟩ : ∃ PP, PP = if b = true then plcd l else fun _ => Z0 := ⟨_, rfl⟩
  obtain ⟨QQ, hQQ⟩ : ∃ QQ, QQ = if c = true then plcd m else fun _ => Z0 := ⟨_, rfl⟩
  rw [← hPP] at HP
  rw [← hQQ] at HQ
  have HPP := Lib.hid (And.intro hPP hQQ)
  obtain ⟨E, hE⟩ : ∃ E, E = jnE l m := ⟨_, rfl⟩
  obtain ⟨X, hX⟩ : ∃ X, X = (jnR l m).map normS := ⟨_, rfl⟩
  rw [← hE, ← hX]
  have HBB := Lib.hid (And.intro hb hc)
  have hno : (b && c) = false → E = 1 ∧ X = [] := fun k => by
    rw [hE, hX]
    unfold jnE jnR
    rw [← hb, ← hc, k]; exact ⟨rfl, rfl⟩
  have hyes : (b && c) = true → E = 0 ∧ X = (jnL l m).map normS := fun k => by
    rw [hE, hX]
    unfold jnE jnR
    rw [← hb, ← hc, k]; exact ⟨rfl, rfl⟩
  have HNO := Lib.hid hno
  have HYE := Lib.hid hyes
  have HSP := Lib.hid (size8_of PP)
  have HSQ := Lib.hid (size8_of QQ)
  clear hno hyes hE hX hb hc hPP hQQ h h2
  go_enter Try.func18, Try.ntmps18
  go_wp2_with fail
  refine HP.out.mono ?_
  rintro e w2 ⟨rfl, hb2⟩
  have HB2 := Lib.hid hb2
  clear hb2 HP
  go_upto_region 2 with (with_reducible refine wpList_store_mid rfl 53 (.tmp 6) (.tmp 15) rfl w2.heap.size 0 (cells8 PP).toArray ?e11 ?e12 ?e13 HSP.out (cells8_one _) ?_)
  case e11 => rfl
  case e12 => rfl
  case e13 => exact there8 _ _
  rw [zero8]
  have HP3 := Lib.hid ((PL.new w2 (fun _ => Z0) 53).all (q := PP))
  have HB3 := Lib.hid (below_setCells (cells8 PP) 0 _ (HB2.out.alloc HB2.out.size (.cells (cells8 fun _ => Z0).toArray 53)) HB2.out.size)
  obtain ⟨y, hy⟩ : ∃ y, y = w2.heap.size := ⟨_, rfl⟩
  rw [← hy] at HP3 HB3 ⊢
  have hwy : w.heap.size ≤ y := by rw [hy]; exact HB2.out.size
  clear hy HB2
  generalize (w2.alloc (.cells (cells8 fun _ => Z0).toArray 53)).setCells y 0 (cells8 PP) = w3 at *
  go_wp2_with fail
  refine (HQ.out w3 HB3.out).mono ?_
  rintro e w4 ⟨rfl, hb4⟩
  have HP4 := Lib.hid (HP3.out.below hb4)
  have HB4 := Lib.hid (HB3.out.trans (hb4.mono HB3.out.size))
  clear hb4 HQ HP3 HB3
  go_upto_region 3 with (with_reducible refine wpList_store_mid rfl 53 (.tmp 8) (.tmp 20) rfl w4.heap.size 0 (cells8 QQ).toArray ?e21 ?e22 ?e23 HSQ.out (cells8_one _) ?_)
  case e21 => rfl
  case e22 => rfl
  case e23 => exact there8 _ _
  rw [zero8]
  have HQ5 := Lib.hid ((PL.new w4 (fun _ => Z0) 53).all (q := QQ))
  have HP5 := Lib.hid (HP4.out.below (below_setCells (cells8 QQ) 0 _ (box_bel14 w4 (.cells (cells8 fun _ => Z0).toArray 53)) (Nat.le_refl _)))
  have HB5 := Lib.hid (below_setCells (cells8 QQ) 0 _ (HB4.out.alloc HB4.out.size (.cells (cells8 fun _ => Z0).toArray 53)) HB4.out.size)
  obtain ⟨z, hz⟩ : ∃ z, z = w4.heap.size := ⟨_, rfl⟩
  rw [← hz] at HQ5 HP5 HB5 ⊢
  have hzy : ¬ z = y := by have := HP4.out.lt; omega
  clear hz HP4 HB4
  generalize (w4.alloc (.cells (cells8 fun _ => Z0).toArray 53)).setCells z 0 (cells8 QQ) = w5 at *
  cases b with
  | false =>
    obtain ⟨rfl, rfl⟩ := HNO.out (by simp)
    clear HNO HYE
    go_wp2_with fail
    go_ret2
    exact ⟨none, 0, 0, rfl, SS.none _, HB5.out⟩
  | true =>
    cases c with
    | false =>
      obtain ⟨rfl, rfl⟩ := HNO.out rfl
      clear HNO HYE
      go_wp2_with fail
      go_ret2
      exact ⟨none, 0, 0, rfl, SS.none _, HB5.out⟩
    | true =>
      obtain ⟨rfl, hXX⟩ := HYE.out rfl
      have hPP : PP = plcd l := HPP.out.1
      have hQQ : QQ = plcd m := HPP.out.2
      have HWP := Lib.hid (show WfP PP by rw [hPP]; exact plcd_wf HBB.out.1.symm)
      have HWQ := Lib.hid (show WfP QQ by rw [hQQ]; exact plcd_wf HBB.out.2.symm)
      have HXX := Lib.hid (show X = lstP (jp PP QQ 8) 8 by rw [hXX, hPP, hQQ, lst_join HBB.out.1.symm HBB.out.2.symm])
      have HSL := Lib.hid (show (Try.prog.info? 53).map (·.size) = some (cells8 QQ).length by rw [Try.size8, cells8_len])
      clear hXX hPP hQQ HNO HYE HSP HSQ HPP
      go_wp2_with (refine wpList_load_mid rfl 53 (.tmp 8) rfl z 0 rfl (cells8 QQ) _ HQ5.out.whole Try.underlying53 rfl HSL.out ?_)
      clear HQ5
      go_loopw [11, 29] (fun _ i wr => ∃ k : Nat, i = .int .i64 k ∧ k ≤ 8 ∧ Hid (PL wr y (jp PP QQ k)) ∧ Hid (Below w.heap.size w wr)) (fun _ i _ => 8 - (intOf i).toNat)
      case atStart => exact ⟨0, by first | rfl | go_num, by omega, HP5, HB5⟩
      case round =>
        obtain ⟨k, rfl, hk, HPK, HW⟩ := hrel
        by_cases hlt : k < 8
        · have hki : (k : Int) < 8 := by omega
          have hix := fun W => index8 QQ k hlt W
          obtain ⟨x, hx⟩ : ∃ x, x = QQ k := ⟨_, rfl⟩
          obtain ⟨P, hP⟩ : ∃ P, P = jp PP QQ k := ⟨_, rfl⟩
          have HJ := Lib.hid (jp_succ PP QQ k)
          rw [← hx] at hix HJ
          rw [← hP] at HPK HJ
          have hxm : (0 ≤ x.c ∧ x.c ≤ 7) ∧ x.v.size = 0 ∧ x.u.size = 0 := by
            rw [hx]
            by_cases q : 0 < (QQ k).s
            · have := mayS_iff.1 (HWQ.out.on k hlt q).1
              exact ⟨this.1, this.2.2.1, this.2.2.2.2.1⟩
            · rw [HWQ.out.off k hlt q]; exact ⟨by decide, rfl, rfl⟩
          have HXM := Lib.hid hxm
          clear hx hP
          obtain ⟨i, hi0⟩ : ∃ i : Nat, x.c = (i : Int) := ⟨x.c.toNat, by omega⟩
          have hi : i < 8 := by omega
          have hii : (i : Int) < 8 := by omega
          have HI0 := Lib.hid hi0
          clear hi0
          go_upto_region 8 with fail
          obtain ⟨o2, ho⟩ : ∃ o, o = Obj.cells #[.int .i64 x.c, .int .i64 x.s, .int .i64 x.e, .string x.v, .bool x.h, .slice x.p x.n x.k, .string x.u] 29 := ⟨_, rfl⟩
          have hB2 : SBox (wr.alloc o2) wr.heap.size x := by rw [ho]; exact SBox.new wr _ x
          have HB1 := Lib.hid (HW.out.alloc (by exact HW.out.size) o2)
          have HP1 := Lib.hid (HPK.out.fresh o2)
          rw [← ho]
          clear ho
          obtain ⟨v, hv⟩ : ∃ v, v = wr.heap.size := ⟨_, rfl⟩
          rw [← hv] at hB2 ⊢
          have hvy : ¬ v = y := by have := HPK.out.lt; omega
          clear hv hxm hix
          generalize wr.alloc o2 = w6 at *
          have HBX := Lib.hid hB2
          obtain ⟨q0, q1, q2, q3, q4, q5, q6, q7⟩ := hB2
          obtain ⟨c0, c1, c2, c3, c4, c5, c6⟩ := HP1.out.cells hi
          obtain ⟨u, hu⟩ : ∃ u, u = P i := ⟨_, rfl⟩
          rw [← hu] at c0 c1 c2 c3 c4 c5 c6
          rw [HI0.out, show ((i : Int)).toNat = i by omega, ← hu] at HJ
          rw [HI0.out] at q0
          clear hu
          have hy6 : y < w6.heap.size := HP1.out.lt
          by_cases hls : u.s < x.s
          · have HJ2 := Lib.hid (HJ.out.trans (if_pos hls))
            go_quiet (fail)
            have HB7 := Lib.hid (HB1.out.trans ((below_drewN (Below.refl _ w6) nq).mono HB1.out.size))
            have HP7 := Lib.hid (HP1.out.below (below_drewN (Below.refl _ w6) nq))
            have HS7 := Lib.hid (HBX.out.below (below_drewN (Below.refl _ w6) nq))
            clear c0 c1 c2 c3 c4 c5 c6 q0 q1 q2 q3 q4 q5 q6 q7 HBX HP1 HB1
            generalize w6.drewN nq = w7 at *
            obtain ⟨q0, q1, q2, q3, q4, q5, q6, q7⟩ := HS7.out
            go_wp2_with fail
            refine (set14_any y P x HXM.out.1 HXM.out.2.1 HXM.out.2.2 w7 HP7.out).mono ?_
            rintro e w8 ⟨rfl, hp8, hk8, hb8⟩
            have HP8 := Lib.hid (show PL w8 y (jp PP QQ (k + 1)) by rw [HJ2.out]; exact hp8)
            have HB8 := Lib.hid (HB7.out.trans (hb8.mono hwy))
            clear hp8 hk8 hb8 q0 q1 q2 q3 q4 q5 q6 q7 HS7
            go_wp2_with fail
            go_roundw
            case rel => exact ⟨k + 1, by go_num, by omega, HP8, HB8⟩
            case measure => simp [intOf]; omega
          · have HJ2 := Lib.hid (HJ.out.trans (if_neg hls))
            have hge : ¬ x.s > u.s := hls
            go_quiet (fail)
            have HB7 := Lib.hid (HB1.out.trans ((below_drewN (Below.refl _ w6) nq).mono HB1.out.size))
            have HP7 := Lib.hid (show PL (w6.drewN nq) y (jp PP QQ (k + 1)) by rw [HJ2.out]; exact HP1.out.below (below_drewN (Below.refl _ w6) nq))
            clear c0 c1 c2 c3 c4 c5 c6 q0 q1 q2 q3 q4 q5 q6 q7
            generalize w6.drewN nq = w7 at *
            go_wp2_with fail
            go_roundw
            case rel => exact ⟨k + 1, by go_num, by omega, HP7, HB7⟩
            case measure => simp [intOf]; omega
        · obtain rfl : k = 8 := by omega
          go_wp2_with fail
          refine (list14_any y _ wr HPK.out).mono ?_
          rintro e w7 ⟨a7, n7, c7, rfl, hs7, hb7⟩
          have HS7 := Lib.hid hs7
          have HB7 := Lib.hid (HW.out.trans (hb7.mono HW.out.size))
          clear hs7 hb7
          go_wp2_with fail
          go_ret2
          exact ⟨a7, n7, c7, rfl, by rw [HXX.out]; exact HS7.out, HB7.out⟩
end Go.Proofs.Ytnjpgepdfclalaa
