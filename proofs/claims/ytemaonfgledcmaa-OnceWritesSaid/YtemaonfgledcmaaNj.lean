/-
  Layer 14 (once): contracts of Find, Put, Join, of the document. Conditions: lists that are read, at most 100.
-/
import Derived.Test.YtemaonfgledcmaaNi
namespace Go.Proofs.Ytemaonfgledcmaa
open Go.RowKit
set_option linter.unusedVariables false
set_option linter.unusedSimpArgs false

theorem fx_newer {l : List Sn} {c : Int} {s : Int} {z : Int} (h : FX l c z) : (z = -1 ∧ newer (look l c) s = true) ∨ ∃ k, ∃ h : k < l.length, z = (k : Int) ∧ newer (look l c) s = decide (l[k].s < s) := by
  rcases h with ⟨rfl, h⟩ | ⟨k, hk, rfl, h⟩
  · exact .inl ⟨rfl, by rw [h]; rfl⟩
  · exact .inr ⟨k, hk, rfl, by rw [h]; rfl⟩
set_option maxRecDepth 100000 in
set_option maxHeartbeats 4000000 in
theorem rPut14_any (a : Option Addr) (n cap : Nat) (l : List Sn) (x : Sn) (hn : n ≤ 100) (w : World) (h : SS w a n cap l) :
    Calls Try.prog 38 #[.slice a n cap, sa x] w (LE (putL l x) (putE l x) w) := by
  obtain ⟨ab, off, ha, hb', hc⟩ := h.2.1.at_
  have hl := h.1
  rw [hl] at ha hb'
  have HSS := Lib.hid h
  have HC := Lib.hid hc
  have HL := Lib.hid hl
  obtain ⟨b, hb⟩ : ∃ b, b = chk l := ⟨_, rfl⟩
  have HS0 := Lib.hid (SBox.new w 39 x)
  have b0 := box_bel14 w (.cells #[.int .i64 x.c, .int .i64 x.s, .int .i64 x.e, .string x.v, .bool x.h, .slice x.p x.n x.k, .string x.u] 39)
  have HP := Lib.hid (rMay14_any a n cap l b hb.symm (w.alloc (.cells #[.int .i64 x.c, .int .i64 x.s, .int .i64 x.e, .string x.v, .bool x.h, .slice x.p x.n x.k, .string x.u] 39)) (h.old b0))
  obtain ⟨r, hr⟩ : ∃ r, r = mayS x := ⟨_, rfl⟩
  have HM := Lib.hid (rmay14_any x r hr.symm)
  have HBB := Lib.hid (And.intro hb hr)
  obtain ⟨E, hE⟩ : ∃ E, E = putE l x := ⟨_, rfl⟩
  obtain ⟨X, hX⟩ : ∃ X, X = putL l x := ⟨_, rfl⟩
  rw [← hE, ← hX]
  have HEX := Lib.hid (And.intro hE hX)
  have hno : (b && r) = false → E = 1 ∧ X = [] := fun k => by
    have : putE l x = 1 := by unfold putE; rw [← hb, ← hr, k]; rfl
    rw [hE, hX, putL_no (by rw [this]; decide), this]; exact ⟨rfl, rfl⟩
  have HNO := Lib.hid hno
  clear hno hE hX hb hr hc hl h
  go_enter Try.func38, Try.ntmps38
  go_wp2_with fail
  have HB0 := Lib.hid b0
  obtain ⟨xb, hxb⟩ : ∃ xb, xb = w.heap.size := ⟨_, rfl⟩
  have HXB := Lib.hid hxb
  rw [← hxb] at HS0 ⊢
  clear hxb b0
  have hw1 : w.heap.size ≤ (w.alloc (.cells #[.int .i64 x.c, .int .i64 x.s, .int .i64 x.e, .string x.v, .bool x.h, .slice x.p x.n x.k, .string x.u] 39)).heap.size := by simp
  generalize w.alloc (.cells #[.int .i64 x.c, .int .i64 x.s, .int .i64 x.e, .string x.v, .bool x.h, .slice x.p x.n x.k, .string x.u] 39) = w1 at *
  refine HP.out.mono ?_
  rintro e w3 ⟨rfl, hb2⟩
  have HB3 := Lib.hid (HB0.out.trans (hb2.mono hw1))
  have HS3 := Lib.hid (HS0.out.below hb2)
  clear hb2 HP HB0 HS0 hw1
  cases b with
  | false =>
    obtain ⟨rfl, rfl⟩ := HNO.out rfl
    clear HNO
    go_wp2_with fail
    go_ret2
    exact ⟨none, 0, 0, rfl, SS.none _, HB3.out⟩
  | true =>
    obtain ⟨q0, q1, q2, q3, q4, q5, q6, q7⟩ := HS3.out
    go_wp2_with fail
    refine (HM.out _).mono ?_
    rintro e w4 ⟨rfl, hb4⟩
    have HS4 := Lib.hid (HS3.out.below hb4)
    have HB4 := Lib.hid (HB3.out.trans (hb4.mono HB3.out.size))
    clear q0 q1 q2 q3 q4 q5 q6 q7 hb4 HS3 HB3 HM
    cases r with
    | false =>
      obtain ⟨rfl, rfl⟩ := HNO.out rfl
      clear HNO
      go_wp2_with fail
      go_ret2
      exact ⟨none, 0, 0, rfl, SS.none _, HB4.out⟩
    | true =>
      clear HNO
      have hE0 : E = if newer (look l x.c) x.s = true then 0 else 140 := by rw [HEX.out.1]; unfold putE; rw [← HBB.out.1, ← HBB.out.2]; rfl
      have HE0 := Lib.hid hE0
      clear hE0
      obtain ⟨q0, q1, q2, q3, q4, q5, q6, q7⟩ := HS4.out
      go_wp2_with fail
      refine (rfind14_any a n cap l x.c w4 (HSS.out.old HB4.out)).mono ?_
      rintro e w' ⟨z, rfl, hfx, rfl⟩
      rcases fx_newer (s := x.s) hfx with ⟨rfl, hnw⟩ | ⟨k, hkl, rfl, hnw⟩
      · obtain rfl : E = 0 := by rw [HE0.out, if_pos hnw]
        have HXX := Lib.hid (show X = pt x false l by rw [HEX.out.2, (putL_ok HEX.out.1.symm).1])
        clear hnw hfx
        go_wp2_with fail
        refine wp_region_below (by kernel_rfl) (by kernel_rfl) ?_
        repeat (first
          | go_big_quiet_skip
          | (go_big_quiet_want
             first
             | (refine BigFrame.quiet_move _ rfl ?_)
             | (refine BigFrame.quiet_assign _ rfl ?_)
             | (unfold Oper.quiet
                apply Exists.intro
                refine ⟨fun w' hw' => ?_, ?_⟩
                · (obtain ⟨hc', hf'⟩ := bcell hw'
                   go_simp
                   first
                   | done
                   | exact rfl))
             go_big_quiet_on
             simp only [Act.put, Act.eval, List.setIfInBounds_toArray, List.set_cons_zero, List.set_cons_succ, Array.getD_eq_getD_getElem?, List.getElem?_toArray, List.getElem?_cons_zero, List.getElem?_cons_succ, Option.getD_some]))
        refine wpQuiet_nil ?_
        intro w' hw'
        have HB5 := Lib.hid (HB4.out.trans (hw'.mono HB4.out.size))
        have HS5 := Lib.hid (HS4.out.below hw')
        clear q0 q1 q2 q3 q4 q5 q6 q7 HS4 HB4 hw'
        generalize w' = w5 at *
        obtain ⟨q0, q1, q2, q3, q4, q5, q6, q7⟩ := HS5.out
        go_wp2_with fail
        refine (rput14_any a n cap l x hn w5 (HSS.out.old HB5.out)).mono ?_
        rintro e w7 ⟨a7, n7, c7, rfl, hs7, hb7⟩
        have HS7 := Lib.hid hs7
        have HB7 := Lib.hid (HB5.out.trans (hb7.mono HB5.out.size))
        clear hs7 hb7 q0 q1 q2 q3 q4 q5 q6 q7
        go_wp2_with fail
        go_ret2
        exact ⟨a7, n7, c7, rfl, by rw [HXX.out]; exact HS7.out, HB7.out⟩
      · have hkn : k < n := by rw [← HL.out]; exact hkl
        have hki : (k : Int) < (n : Int) := by omega
        have hk0 : (k : Int) ≥ 0 := by omega
        obtain rfl := ha (by omega)
        have hbw := hb' (by omega)
        have hbr : ab < w4.heap.size := Nat.lt_of_lt_of_le hbw HB4.out.size
        obtain ⟨c0, c1, c2, c3, c4, c5, c6⟩ := HC.out.old hbw HB4.out k hkl
        obtain ⟨y, hy⟩ : ∃ y, y = l[k] := ⟨_, rfl⟩
        rw [← hy] at c0 c1 c2 c3 c4 c5 c6 hnw
        clear hy hfx
        by_cases hlt : y.s < x.s
        · have hge : ¬ y.s ≥ x.s := by omega
          obtain rfl : E = 0 := by rw [HE0.out, hnw, if_pos (decide_eq_true hlt)]
          have HXX := Lib.hid (show X = pt x false l by rw [HEX.out.2, (putL_ok HEX.out.1.symm).1])
          clear hnw
          go_wp2_with fail
          refine wp_region_below (by kernel_rfl) (by kernel_rfl) ?_
          repeat (first
            | go_big_quiet_skip
            | (go_big_quiet_want
               first
               | (refine BigFrame.quiet_move _ rfl ?_)
               | (refine BigFrame.quiet_assign _ rfl ?_)
               | (unfold Oper.quiet
                  apply Exists.intro
                  refine ⟨fun w' hw' => ?_, ?_⟩
                  · (obtain ⟨hc', hf'⟩ := bcell hw'
                     go_simp
                     first
                     | done
                     | exact rfl))
               go_big_quiet_on
               simp only [Act.put, Act.eval, List.setIfInBounds_toArray, List.set_cons_zero, List.set_cons_succ, Array.getD_eq_getD_getElem?, List.getElem?_toArray, List.getElem?_cons_zero, List.getElem?_cons_succ, Option.getD_some]))
          refine wpQuiet_nil ?_
          intro w' hw'
          have HB5 := Lib.hid (HB4.out.trans (hw'.mono HB4.out.size))
          have HS5 := Lib.hid (HS4.out.below hw')
          clear q0 q1 q2 q3 q4 q5 q6 q7 c0 c1 c2 c3 c4 c5 c6 HS4 HB4 hw'
          generalize w' = w5 at *
          obtain ⟨q0, q1, q2, q3, q4, q5, q6, q7⟩ := HS5.out
          go_wp2_with fail
          refine (rput14_any _ n cap l x hn w5 (HSS.out.old HB5.out)).mono ?_
          rintro e w7 ⟨a7, n7, c7, rfl, hs7, hb7⟩
          have HS7 := Lib.hid hs7
          have HB7 := Lib.hid (HB5.out.trans (hb7.mono HB5.out.size))
          clear hs7 hb7 q0 q1 q2 q3 q4 q5 q6 q7
          go_wp2_with fail
          go_ret2
          exact ⟨a7, n7, c7, rfl, by rw [HXX.out]; exact HS7.out, HB7.out⟩
        · have hge : y.s ≥ x.s := by omega
          obtain rfl : E = 140 := by rw [HE0.out, hnw, if_neg (by rw [decide_eq_true_eq]; exact hlt)]
          obtain rfl : X = [] := by rw [HEX.out.2, putL_no (by rw [← HEX.out.1]; decide)]
          clear hnw
          go_wp2_with fail
          refine wp_region_below (by kernel_rfl) (by kernel_rfl) ?_
          repeat (first
            | go_big_quiet_skip
            | (go_big_quiet_want
               first
               | (refine BigFrame.quiet_move _ rfl ?_)
               | (refine BigFrame.quiet_assign _ rfl ?_)
               | (unfold Oper.quiet
                  apply Exists.intro
                  refine ⟨fun w' hw' => ?_, ?_⟩
                  · (obtain ⟨hc', hf'⟩ := bcell hw'
                     go_simp
                     first
                     | done
                     | exact rfl))
               go_big_quiet_on
               simp only [Act.put, Act.eval, List.setIfInBounds_toArray, List.set_cons_zero, List.set_cons_succ, Array.getD_eq_getD_getElem?, List.getElem?_toArray, List.getElem?_cons_zero, List.getElem?_cons_succ, Option.getD_some]))
          refine wpQuiet_nil ?_
          intro w' hw'
          have HB5 := Lib.hid (HB4.out.trans (hw'.mono HB4.out.size))
          clear q0 q1 q2 q3 q4 q5 q6 q7 c0 c1 c2 c3 c4 c5 c6 hw'
          go_wp2_with fail
          go_ret2
          exact ⟨none, 0, 0, rfl, SS.none _, HB5.out⟩
theorem rj_drop {a m out : List Sn} {k : Nat} (hk : k < m.length) : rj a out (m.drop k) = rj a (if newer (look a m[k].c) m[k].s = true then pt m[k] false out else out) (m.drop (k + 1)) := by
  rw [List.drop_eq_getElem_cons hk]; rfl
end Go.Proofs.Ytemaonfgledcmaa
