/-
  Layer 14 (once): the walk of OnceThree. Conditions: none beyond the row's own.
-/
import Derived.Test.YtnjpgepdfclalaaNq
namespace Go.Proofs.Ytnjpgepdfclalaa
open Go.RowKit
set_option linter.unusedVariables false
set_option linter.unusedSimpArgs false

theorem jc_at (a : Option Addr) (n cap : Nat) (l : List Sn) (a2 : Option Addr) (n2 cap2 : Nat) (m : List Sn) (hl : chk l = true) (hm : chk m = true) (w : World) (h : SS w a n cap l) (h2 : SS w a2 n2 cap2 m) :
    Calls Try.prog 18 #[.slice a n cap, .slice a2 n2 cap2] w (LE (jc l m) 0 w) := by
  have := join14_any a n cap l a2 n2 cap2 m w h h2
  rw [(jn_ok hl hm).1, (jn_ok hl hm).2] at this
  exact this
theorem jc_bare (x y : List Sn) : ∀ z ∈ jc x y, bareS z := bare_map _
set_option maxRecDepth 100000 in
set_option maxHeartbeats 8000000 in
theorem walk_OnceThree (a0 : Option Addr) (n0 p0 : Nat) (l0 : List Sn) (a1 : Option Addr) (n1 p1 : Nat) (l1 : List Sn) (a2 : Option Addr) (n2 p2 : Nat) (l2 : List Sn) (w : World) (h0 : SS w a0 n0 p0 l0) (h1 : SS w a1 n1 p1 l1) (h2 : SS w a2 n2 p2 l2) :
    Calls Try.prog 7 #[.slice a0 n0 p0, .slice a1 n1 p1, .slice a2 n2 p2] w fun e w' => e = .returned (.bool true) ∧ Below w.heap.size w w' := by
  obtain ⟨b0, hb0⟩ : ∃ b, b = liteS l0 := ⟨_, rfl⟩
  obtain ⟨b1, hb1⟩ : ∃ b, b = liteS l1 := ⟨_, rfl⟩
  obtain ⟨b2, hb2⟩ : ∃ b, b = liteS l2 := ⟨_, rfl⟩
  have HL0 := Lib.hid (light14_any a0 n0 p0 l0 b0 hb0.symm w h0)
  have HL1 := Lib.hid (fun W (hW : Below w.heap.size w W) => light14_any a1 n1 p1 l1 b1 hb1.symm W (h1.old hW))
  have HL2 := Lib.hid (fun W (hW : Below w.heap.size w W) => light14_any a2 n2 p2 l2 b2 hb2.symm W (h2.old hW))
  obtain ⟨x, hx⟩ : ∃ x, x = md l0 := ⟨_, rfl⟩
  obtain ⟨y, hy⟩ : ∃ y, y = md l1 := ⟨_, rfl⟩
  obtain ⟨z, hz⟩ : ∃ z, z = md l2 := ⟨_, rfl⟩
  have HM0 := Lib.hid (fun W (hW : Below w.heap.size w W) => made14_any a0 n0 p0 l0 W (h0.old hW))
  have HM1 := Lib.hid (fun W (hW : Below w.heap.size w W) => made14_any a1 n1 p1 l1 W (h1.old hW))
  have HM2 := Lib.hid (fun W (hW : Below w.heap.size w W) => made14_any a2 n2 p2 l2 W (h2.old hW))
  rw [← hx] at HM0
  rw [← hy] at HM1
  rw [← hz] at HM2
  have HX := Lib.hid (show chk x = true by rw [hx]; exact md_chk _)
  have HY := Lib.hid (show chk y = true by rw [hy]; exact md_chk _)
  have HZ := Lib.hid (show chk z = true by rw [hz]; exact md_chk _)
  have HQV := Lib.hid (jc_three HX.out HY.out HZ.out)
  clear hb0 hb1 hb2 hx hy hz h0 h1 h2
  go_enter Try.func7, Try.ntmps7
  go_wp2_with fail
  refine HL0.out.mono ?_
  rintro e w1 ⟨rfl, hb⟩
  have HB1 := Lib.hid hb
  clear hb HL0
  cases b0 with
  | false =>
    go_wp2_with fail
    refine (awake14_any w1).mono ?_
    rintro e w2 ⟨rfl, hb⟩
    have HB2 := Lib.hid (HB1.out.trans (hb.mono HB1.out.size))
    clear hb
    go_wp2_with fail
    go_ret
    exact ⟨rfl, HB2.out⟩
  | true =>
  go_wp2_with fail
  refine (HL1.out w1 HB1.out).mono ?_
  rintro e w2 ⟨rfl, hb⟩
  have HB2 := Lib.hid (HB1.out.trans (hb.mono HB1.out.size))
  clear hb HL1 HB1
  cases b1 with
  | false =>
    go_wp2_with fail
    refine (awake14_any w2).mono ?_
    rintro e w3 ⟨rfl, hb⟩
    have HB3 := Lib.hid (HB2.out.trans (hb.mono HB2.out.size))
    clear hb
    go_wp2_with fail
    go_ret
    exact ⟨rfl, HB3.out⟩
  | true =>
  go_wp2_with fail
  refine (HL2.out w2 HB2.out).mono ?_
  rintro e w3 ⟨rfl, hb⟩
  have HB3 := Lib.hid (HB2.out.trans (hb.mono HB2.out.size))
  clear hb HL2 HB2
  cases b2 with
  | false =>
    go_wp2_with fail
    refine (awake14_any w3).mono ?_
    rintro e w4 ⟨rfl, hb⟩
    have HB4 := Lib.hid (HB3.out.trans (hb.mono HB3.out.size))
    clear hb
    go_wp2_with fail
    go_ret
    exact ⟨rfl, HB4.out⟩
  | true =>
  go_wp2_with fail
  refine (HM0.out w3 HB3.out).mono ?_
  rintro e w4 ⟨xa, xn, xc, rfl, hs, hb⟩
  have HB4 := Lib.hid (HB3.out.trans (hb.mono HB3.out.size))
  have HX4 := Lib.hid hs
  clear hb hs HB3 HM0
  go_wp2_with fail
  refine (HM1.out w4 HB4.out).mono ?_
  rintro e w5 ⟨ya, yn, yc, rfl, hs, hb⟩
  have HB5 := Lib.hid (HB4.out.trans (hb.mono HB4.out.size))
  have HX5 := Lib.hid (HX4.out.old hb)
  have HY5 := Lib.hid hs
  clear hb hs HB4 HM1 HX4
  go_wp2_with fail
  refine (HM2.out w5 HB5.out).mono ?_
  rintro e w6 ⟨za, zn, zc, rfl, hs, hb⟩
  have HB6 := Lib.hid (HB5.out.trans (hb.mono HB5.out.size))
  have HX6 := Lib.hid (HX5.out.old hb)
  have HY6 := Lib.hid (HY5.out.old hb)
  have HZ6 := Lib.hid hs
  clear hb hs HB5 HM2 HX5 HY5
  go_wp2_with fail
  refine (jc_at xa xn xc x ya yn yc y HX.out HY.out w6 HX6.out HY6.out).mono ?_
  rintro e w7 ⟨pa, pn, pc, rfl, hs, hb⟩
  have HB7 := Lib.hid (HB6.out.trans (hb.mono HB6.out.size))
  have HX7 := Lib.hid (HX6.out.old hb)
  have HY7 := Lib.hid (HY6.out.old hb)
  have HZ7 := Lib.hid (HZ6.out.old hb)
  have HP7 := Lib.hid hs
  clear hb hs HB6 HX6 HY6 HZ6
  go_wp2_with fail
  refine (jc_at pa pn pc _ za zn zc z (jc_chk HX.out HY.out) HZ.out w7 HP7.out HZ7.out).mono ?_
  rintro e w8 ⟨qa, qn, qc, rfl, hs, hb⟩
  have HB8 := Lib.hid (HB7.out.trans (hb.mono HB7.out.size))
  have HX8 := Lib.hid (HX7.out.old hb)
  have HY8 := Lib.hid (HY7.out.old hb)
  have HZ8 := Lib.hid (HZ7.out.old hb)
  have HQ8 := Lib.hid hs
  clear hb hs HB7 HX7 HY7 HZ7 HP7
  go_wp2_with fail
  refine (jc_at ya yn yc y za zn zc z HY.out HZ.out w8 HY8.out HZ8.out).mono ?_
  rintro e w9 ⟨ua, un, uc, rfl, hs, hb⟩
  have HB9 := Lib.hid (HB8.out.trans (hb.mono HB8.out.size))
  have HX9 := Lib.hid (HX8.out.old hb)
  have HQ9 := Lib.hid (HQ8.out.old hb)
  have HU9 := Lib.hid hs
  clear hb hs HB8 HX8 HY8 HZ8 HQ8
  go_wp2_with fail
  refine (jc_at xa xn xc x ua un uc _ HX.out (jc_chk HY.out HZ.out) w9 HX9.out HU9.out).mono ?_
  rintro e w10 ⟨va, vn, vc, rfl, hs, hb⟩
  have HB10 := Lib.hid (HB9.out.trans (hb.mono HB9.out.size))
  have HQ10 := Lib.hid (HQ9.out.old hb)
  obtain ⟨Q, hQ⟩ : ∃ Q, Q = jc (jc x y) z := ⟨_, rfl⟩
  have HV10 := Lib.hid hs
  rw [← HQV.out, ← hQ] at HV10
  rw [← hQ] at HQ10
  have HBQ := Lib.hid (show ∀ k ∈ Q, bareS k by rw [hQ]; exact jc_bare _ _)
  have HCQ := Lib.hid (show chkE Q = 0 by unfold chkE; rw [hQ, if_pos (jc_chk (jc_chk HX.out HY.out) HZ.out)])
  obtain rfl : qn = vn := HQ10.out.1.symm.trans HV10.out.1
  clear hb hs HB9 HX9 HQ9 HU9 hQ HQV HX HY HZ
  have hnm : qn ≤ maxLen := Nat.le_trans HQ10.out.2.2.1 HQ10.out.2.2.2
  unfold maxLen at hnm
  go_wp2_with fail
  go_loopw [18] (fun i wr => ∃ k : Nat, i = .int .i64 k ∧ k ≤ qn ∧ Hid (Below w10.heap.size w10 wr)) (fun i _ => qn - (intOf i).toNat)
  case atStart => exact ⟨0, by first | rfl | go_num, by omega, Lib.hid (Below.refl _ _)⟩
  case round =>
    obtain ⟨k, rfl, hk, HW⟩ := hrel
    by_cases hlt : k < qn
    · have hki : (k : Int) < (qn : Int) := by omega
      obtain ⟨qb, qo, ha, hb, hc⟩ := HQ10.out.2.1.at_
      obtain ⟨vb, vo, ha2, hb2, hc2⟩ := HV10.out.2.1.at_
      rw [HQ10.out.1] at ha hb
      rw [HV10.out.1] at ha2 hb2
      obtain rfl := ha (by omega)
      obtain rfl := ha2 (by omega)
      have hbw := hb (by omega)
      have hbw2 := hb2 (by omega)
      have hkl : k < Q.length := by rw [HQ10.out.1]; exact hlt
      have hws := HW.out.size
      have hbr : qb < wr.heap.size := Nat.lt_of_lt_of_le hbw hws
      have hbr2 : vb < wr.heap.size := Nat.lt_of_lt_of_le hbw2 hws
      obtain ⟨c0, c1, c2, c3, c4, c5, c6⟩ := hc.old hbw HW.out k hkl
      obtain ⟨d0, d1, d2, d3, d4, d5, d6⟩ := hc2.old hbw2 HW.out k hkl
      have hbk := HBQ.out Q[k] (List.getElem_mem hkl)
      obtain ⟨g, hg⟩ : ∃ g, g = Q[k] := ⟨_, rfl⟩
      rw [← hg] at c0 c1 c2 c3 c4 c5 c6 d0 d1 d2 d3 d4 d5 d6 hbk
      have HSR := Lib.hid (sameReply_any g g hbk hbk rfl rfl)
      clear hg hbk hc hc2 ha ha2 hb hb2
      go_wp2_with fail
      refine wp_region_below (by kernel_rfl) (by kernel_rfl) ?_
      repeat (first
        | go_big_quiet_skip
        | (go_big_quiet_want
           first
           | (refine BigFrame.quiet_move _ rfl ?_)
           | (refine BigFrame.quiet_assign _ rfl ?_)
           | (unfold Oper.quiet
              apply Exists.intro
              refine ⟨fun w' hw' => ?_, ?_⟩
              · (obtain ⟨hc', hf'⟩ := bcell hw'
                 go_simp
                 first
                 | done
                 | exact rfl
                 | (go_at_call 14; (with_reducible refine (HSR.out _).mono ?_); rintro e w'' ⟨rfl, bb⟩; exact ⟨rfl, by first | exact bt hw' bb | simpa using bt hw' bb⟩)))
           go_big_quiet_on
           simp only [Act.put, Act.eval, List.setIfInBounds_toArray, List.set_cons_zero, List.set_cons_succ, Array.getD_eq_getD_getElem?, List.getElem?_toArray, List.getElem?_cons_zero, List.getElem?_cons_succ, Option.getD_some]))
      refine wpQuiet_nil ?_
      intro w' hw'
      clear c0 c1 c2 c3 c4 c5 c6 d0 d1 d2 d3 d4 d5 d6
      go_wp2_with fail
      go_roundw
      case rel => exact ⟨k + 1, by go_num, by omega, Lib.hid (HW.out.trans (hw'.mono hws))⟩
      case measure => simp [intOf]; omega
    · obtain rfl : k = qn := by omega
      have HCC := Lib.hid (check14_any qa k qc Q wr (HQ10.out.old HW.out))
      rw [HCQ.out] at HCC
      have HBW := Lib.hid (HB10.out.trans (HW.out.mono HB10.out.size))
      go_wp2_with fail
      refine HCC.out.mono ?_
      rintro e w11 ⟨rfl, hb⟩
      have HB11 := Lib.hid (HBW.out.trans (hb.mono HBW.out.size))
      clear hb
      go_wp2_with fail
      refine (awake14_any w11).mono ?_
      rintro e w12 ⟨rfl, hb⟩
      have HB12 := Lib.hid (HB11.out.trans (hb.mono HB11.out.size))
      clear hb
      go_wp2_with fail
      go_ret
      exact ⟨rfl, HB12.out⟩
end Go.Proofs.Ytnjpgepdfclalaa
