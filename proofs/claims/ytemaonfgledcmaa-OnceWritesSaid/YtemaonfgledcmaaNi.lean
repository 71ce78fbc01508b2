/-
  Layer 14 (once): contracts of Find, put, of the document. Conditions: lists that are read.
-/
import Derived.Test.YtemaonfgledcmaaNh
namespace Go.Proofs.Ytemaonfgledcmaa
open Go.RowKit
set_option linter.unusedVariables false
set_option linter.unusedSimpArgs false

theorem pt_none (x : Sn) (d : Bool) : pt x d [] = if d = true then [] else [x] := rfl
theorem pt_cons (x : Sn) (d : Bool) (y : Sn) (l : List Sn) : pt x d (y :: l) = (if d = false ∧ x.c ≤ y.c then [x] else []) ++ (if y.c = x.c then [] else [y]) ++ pt x (d || decide (x.c ≤ y.c)) l := rfl
set_option maxRecDepth 100000 in
set_option maxHeartbeats 8000000 in
theorem rput14_any (a : Option Addr) (n cap : Nat) (l : List Sn) (x : Sn) (hn : n ≤ 100) (w : World) (h : SS w a n cap l) :
    Calls Try.prog 59 #[.slice a n cap, sa x] w (LT (pt x false l) w) := by
  obtain ⟨i0, hi0, hz0, hz1, hz2⟩ := info_parts Try.infoSn
  obtain ⟨ab, off, ha, hb', hc⟩ := h.2.1.at_
  have hl := h.1
  rw [hl] at ha hb'
  have HC := Lib.hid hc
  have HL := Lib.hid hl
  have HS0 := Lib.hid (SBox.new w 39 x)
  have HB0 := Lib.hid (box_bel14 w (.cells #[.int .i64 x.c, .int .i64 x.s, .int .i64 x.e, .string x.v, .bool x.h, .slice x.p x.n x.k, .string x.u] 39))
  clear hc hl h
  go_enter Try.func59, Try.ntmps59
  go_upto_region 1 with fail
  obtain ⟨xb, hxb⟩ : ∃ xb, xb = w.heap.size := ⟨_, rfl⟩
  have HXB := Lib.hid hxb
  rw [← hxb] at HS0 ⊢
  clear hxb
  have HW1 := Lib.hid (show w.heap.size ≤ (w.alloc (.cells #[.int .i64 x.c, .int .i64 x.s, .int .i64 x.e, .string x.v, .bool x.h, .slice x.p x.n x.k, .string x.u] 39)).heap.size by simp)
  generalize w.alloc (.cells #[.int .i64 x.c, .int .i64 x.s, .int .i64 x.e, .string x.v, .bool x.h, .slice x.p x.n x.k, .string x.u] 39) = w1 at *
  have HC1 := Lib.hid (fun hlt : 0 < n => HC.out.old (hb' hlt) HB0.out)
  replace hb' := fun hlt : 0 < n => Nat.lt_of_lt_of_le (hb' hlt) HW1.out
  obtain ⟨B, hB⟩ : ∃ B, B = w1.heap.size := ⟨_, rfl⟩
  have hnone : w1.ownsRow B 39 7 (.slice none 0 0) ([] : List Sn).length (cvs []) := World.ownsRow_nil _ _ _ _
  have HR0 := Lib.hid hnone
  have HBW := Lib.hid hB
  rw [← hB] at hb'
  clear hnone hB
  go_wp2_with fail
  go_loopw [5, 6, 7] (fun s d i wr => ∃ (k m : Nat) (a : Option Addr) (cap : Nat) (dn : Bool) (O : List Sn), s = .slice a m cap ∧ d = .bool dn ∧ i = .int .i64 k ∧ k ≤ n ∧ m ≤ 2 * k ∧ Hid (m = O.length) ∧ Hid (O ++ pt x dn (l.drop k) = pt x false l) ∧ Hid (wr.ownsRow B 39 7 (.slice a m cap) m (cvs O)) ∧ Hid (Below B w1 wr)) (fun _ _ i _ => n - (intOf i).toNat)
  case atStart => exact ⟨0, 0, none, 0, false, [], rfl, rfl, by first | rfl | go_num, by omega, by omega, Lib.hid rfl, Lib.hid rfl, HR0, Lib.hid (Below.refl _ _)⟩
  case round =>
    obtain ⟨k, m, oa, ocap, dn, O, rfl, rfl, rfl, hk, hm, HM, HO, HR, HW⟩ := hrel
    have hBr : B ≤ wr.heap.size := by rw [HBW.out]; exact HW.out.size
    have hxr : xb < wr.heap.size := by have := HS0.out.2.2.2.2.2.2.2; rw [← HBW.out] at this; omega
    by_cases hlt : k < n
    · have hki : (k : Int) < (n : Int) := by omega
      obtain rfl := ha (by omega)
      have hbw := hb' (by omega)
      have hkl : k < l.length := by rw [HL.out]; exact hlt
      have hbr : ab < wr.heap.size := by omega
      have HCW := Lib.hid (fun (wx : World) (hx : Below B w1 wx) => And.intro ((HC1.out (by omega)).low hbw hx k hkl) (HS0.out.low (by have := HS0.out.2.2.2.2.2.2.2; rw [← HBW.out] at this; exact this) hx))
      obtain ⟨y, hy⟩ : ∃ y, y = l[k] := ⟨_, rfl⟩
      have HPT := Lib.hid (show O ++ ((if dn = false ∧ x.c ≤ y.c then [x] else []) ++ (if y.c = x.c then [] else [y]) ++ pt x (dn || decide (x.c ≤ y.c)) (l.drop (k + 1))) = pt x false l by rw [← HO.out, List.drop_eq_getElem_cons hkl, ← hy]; rfl)
      rw [← hy] at HCW
      clear hy HO
      by_cases hA : dn = false ∧ x.c ≤ y.c
      · obtain ⟨rfl, hle⟩ := hA
        have hge : y.c ≥ x.c := hle
        by_cases heq : y.c = x.c
        · have hq : (y.c != x.c) = false := by simp [heq]
          have HPO : Hid ((O ++ [x]) ++ pt x true (l.drop (k + 1)) = pt x false l) := Lib.hid (by rw [← HPT.out, if_pos ⟨rfl, hle⟩, if_pos heq, decide_eq_true hle]; simp)
          have HMO : Hid (m + 1 = (O ++ [x]).length) := Lib.hid (by rw [List.length_append, ← HM.out]; rfl)
          clear heq hle
          obtain ⟨⟨c0, c1, c2, c3, c4, c5, c6⟩, q0, q1, q2, q3, q4, q5, q6, q7⟩ := HCW.out wr HW.out
          go_wp2_with fail
          refine wp_region_below (by kernel_rfl) (by kernel_rfl) ?_
          repeat (first
            | go_big_quiet_skip
            | (go_big_quiet_want
               first
               | (refine BigFrame.quiet_move _ rfl ?_)
               | (refine BigFrame.quiet_assign _ rfl ?_)
               | (unfold Oper.quiet
                  apply Exists.intro
                  refine ⟨fun w' hw' => ?_, ?_⟩
                  · (obtain ⟨hc', hf'⟩ := bcell hw'
                     go_simp
                     first
                     | done
                     | exact rfl))
               go_big_quiet_on
               simp only [Act.put, Act.eval, List.setIfInBounds_toArray, List.set_cons_zero, List.set_cons_succ, Array.getD_eq_getD_getElem?, List.getElem?_toArray, List.getElem?_cons_zero, List.getElem?_cons_succ, Option.getD_some]))
          refine wpQuiet_nil ?_
          intro w' hw'
          have HB6 := Lib.hid (HW.out.trans (hw'.mono hBr))
          have HR6 := Lib.hid (below_own HR.out hw')
          clear c0 c1 c2 c3 c4 c5 c6 q0 q1 q2 q3 q4 q5 q6 q7
          have hBs : B ≤ w'.heap.size := by rw [HBW.out]; exact HB6.out.size
          generalize w' = w6 at *
          obtain ⟨⟨c0, c1, c2, c3, c4, c5, c6⟩, q0, q1, q2, q3, q4, q5, q6, q7⟩ := HCW.out w6 HB6.out
          have hb6 : ab < w6.heap.size := by omega
          have hx6 : xb < w6.heap.size := by omega
          go_wp2_with (at_builtin; generalize hG : wpList _ _ _ _ _ _ = G)
          rw [← hG]
          clear hG
          refine wpList_append_own _ rfl (.tmp 26) (.tmp 28) 22 rfl B 39 i0 (.agg #[.int .i64 0, .int .i64 0, .int .i64 0, .string ⟨#[]⟩, .bool false, .slice none 0 0, .string ⟨#[]⟩]) 7 88 Try.underlying22 hi0 hz0 hz1 hz2 rfl (by decide) _ _ _ rfl (HR6.out.alloc _) ⟨w6.heap.size, 0, none⟩ 1 1 (cv x) rfl rfl ?c11 ?c12 ?c13 ?c14 ?c15 ?_
          case c11 => exact cell_new7 w6 x _
          case c12 => exact cv_one _
          case c13 => unfold maxLen; omega
          case c14 => omega
          case c15 => simp [go_sem]; omega
          intro v' w8 hown6 hgrow _
          obtain ⟨oa1, oc1, rfl⟩ := own_form14 hown6 (by decide)
          have HBA1 := Lib.hid (((Below.refl B w6).alloc hBs _).grown hgrow (by simp [go_sem]; omega) (fun k hk => (HR6.out.lt k hk).1))
          rw [cvs_snoc] at hown6
          have HRA1 := Lib.hid hown6
          clear hown6 hgrow
          have HB8 := Lib.hid (HB6.out.trans HBA1.out)
          clear c0 c1 c2 c3 c4 c5 c6 q0 q1 q2 q3 q4 q5 q6 q7
          have HCD2 := Lib.hid (HCW.out w8 HB8.out)
          obtain ⟨⟨c0, c1, c2, c3, c4, c5, c6⟩, q0, q1, q2, q3, q4, q5, q6, q7⟩ := HCD2.out
          have hBs2 : B ≤ w8.heap.size := by rw [HBW.out]; exact HB8.out.size
          have hb2 : ab < w8.heap.size := by omega
          go_wp2_with fail
          refine wp_region_below (by kernel_rfl) (by kernel_rfl) ?_
          repeat (first
            | go_big_quiet_skip
            | (go_big_quiet_want
               first
               | (refine BigFrame.quiet_move _ rfl ?_)
               | (refine BigFrame.quiet_assign _ rfl ?_)
               | (unfold Oper.quiet
                  apply Exists.intro
                  refine ⟨fun w' hw' => ?_, ?_⟩
                  · (obtain ⟨hc', hf'⟩ := bcell hw'
                     go_simp
                     first
                     | done
                     | exact rfl))
               go_big_quiet_on
               simp only [Act.put, Act.eval, List.setIfInBounds_toArray, List.set_cons_zero, List.set_cons_succ, Array.getD_eq_getD_getElem?, List.getElem?_toArray, List.getElem?_cons_zero, List.getElem?_cons_succ, Option.getD_some]))
          refine wpQuiet_nil ?_
          intro w' hw'
          have HB9 := Lib.hid (HB8.out.trans (hw'.mono hBs2))
          have HR9 := Lib.hid (below_own HRA1.out hw')
          clear c0 c1 c2 c3 c4 c5 c6 q0 q1 q2 q3 q4 q5 q6 q7
          go_wp2_with fail
          go_roundw
          case rel => exact ⟨k + 1, (m + 1), _, _, true, _, rfl, rfl, by go_num, by omega, by omega, HMO, HPO, HR9, HB9⟩
          case measure => simp [intOf]; omega
        · have hq : (y.c != x.c) = true := by simp [heq]
          have HPO : Hid (((O ++ [x]) ++ [y]) ++ pt x true (l.drop (k + 1)) = pt x false l) := Lib.hid (by rw [← HPT.out, if_pos ⟨rfl, hle⟩, if_neg heq, decide_eq_true hle]; simp)
          have HMO : Hid (m + 1 + 1 = ((O ++ [x]) ++ [y]).length) := Lib.hid (by rw [List.length_append, List.length_append, ← HM.out]; rfl)
          clear heq hle
          obtain ⟨⟨c0, c1, c2, c3, c4, c5, c6⟩, q0, q1, q2, q3, q4, q5, q6, q7⟩ := HCW.out wr HW.out
          go_wp2_with fail
          refine wp_region_below (by kernel_rfl) (by kernel_rfl) ?_
          repeat (first
            | go_big_quiet_skip
            | (go_big_quiet_want
               first
               | (refine BigFrame.quiet_move _ rfl ?_)
               | (refine BigFrame.quiet_assign _ rfl ?_)
               | (unfold Oper.quiet
                  apply Exists.intro
                  refine ⟨fun w' hw' => ?_, ?_⟩
                  · (obtain ⟨hc', hf'⟩ := bcell hw'
                     go_simp
                     first
                     | done
                     | exact rfl))
               go_big_quiet_on
               simp only [Act.put, Act.eval, List.setIfInBounds_toArray, List.set_cons_zero, List.set_cons_succ, Array.getD_eq_getD_getElem?, List.getElem?_toArray, List.getElem?_cons_zero, List.getElem?_cons_succ, Option.getD_some]))
          refine wpQuiet_nil ?_
          intro w' hw'
          have HB6 := Lib.hid (HW.out.trans (hw'.mono hBr))
          have HR6 := Lib.hid (below_own HR.out hw')
          clear c0 c1 c2 c3 c4 c5 c6 q0 q1 q2 q3 q4 q5 q6 q7
          have hBs : B ≤ w'.heap.size := by rw [HBW.out]; exact HB6.out.size
          generalize w' = w6 at *
          obtain ⟨⟨c0, c1, c2, c3, c4, c5, c6⟩, q0, q1, q2, q3, q4, q5, q6, q7⟩ := HCW.out w6 HB6.out
          have hb6 : ab < w6.heap.size := by omega
          have hx6 : xb < w6.heap.size := by omega
          go_wp2_with (at_builtin; generalize hG : wpList _ _ _ _ _ _ = G)
          rw [← hG]
          clear hG
          refine wpList_append_own _ rfl (.tmp 26) (.tmp 28) 22 rfl B 39 i0 (.agg #[.int .i64 0, .int .i64 0, .int .i64 0, .string ⟨#[]⟩, .bool false, .slice none 0 0, .string ⟨#[]⟩]) 7 88 Try.underlying22 hi0 hz0 hz1 hz2 rfl (by decide) _ _ _ rfl (HR6.out.alloc _) ⟨w6.heap.size, 0, none⟩ 1 1 (cv x) rfl rfl ?c21 ?c22 ?c23 ?c24 ?c25 ?_
          case c21 => exact cell_new7 w6 x _
          case c22 => exact cv_one _
          case c23 => unfold maxLen; omega
          case c24 => omega
          case c25 => simp [go_sem]; omega
          intro v' w8 hown6 hgrow _
          obtain ⟨oa2, oc2, rfl⟩ := own_form14 hown6 (by decide)
          have HBA2 := Lib.hid (((Below.refl B w6).alloc hBs _).grown hgrow (by simp [go_sem]; omega) (fun k hk => (HR6.out.lt k hk).1))
          rw [cvs_snoc] at hown6
          have HRA2 := Lib.hid hown6
          clear hown6 hgrow
          have HB8 := Lib.hid (HB6.out.trans HBA2.out)
          clear c0 c1 c2 c3 c4 c5 c6 q0 q1 q2 q3 q4 q5 q6 q7
          have HCD2 := Lib.hid (HCW.out w8 HB8.out)
          obtain ⟨⟨c0, c1, c2, c3, c4, c5, c6⟩, q0, q1, q2, q3, q4, q5, q6, q7⟩ := HCD2.out
          have hBs2 : B ≤ w8.heap.size := by rw [HBW.out]; exact HB8.out.size
          have hb2 : ab < w8.heap.size := by omega
          go_wp2_with fail
          refine wp_region_below (by kernel_rfl) (by kernel_rfl) ?_
          repeat (first
            | go_big_quiet_skip
            | (go_big_quiet_want
               first
               | (refine BigFrame.quiet_move _ rfl ?_)
               | (refine BigFrame.quiet_assign _ rfl ?_)
               | (unfold Oper.quiet
                  apply Exists.intro
                  refine ⟨fun w' hw' => ?_, ?_⟩
                  · (obtain ⟨hc', hf'⟩ := bcell hw'
                     go_simp
                     first
                     | done
                     | exact rfl))
               go_big_quiet_on
               simp only [Act.put, Act.eval, List.setIfInBounds_toArray, List.set_cons_zero, List.set_cons_succ, Array.getD_eq_getD_getElem?, List.getElem?_toArray, List.getElem?_cons_zero, List.getElem?_cons_succ, Option.getD_some]))
          refine wpQuiet_nil ?_
          intro w' hw'
          have HB9 := Lib.hid (HB8.out.trans (hw'.mono hBs2))
          have HR9 := Lib.hid (below_own HRA2.out hw')
          clear c0 c1 c2 c3 c4 c5 c6 q0 q1 q2 q3 q4 q5 q6 q7
          have hBs : B ≤ w'.heap.size := by rw [HBW.out]; exact HB9.out.size
          generalize w' = w9 at *
          have HCD3 := Lib.hid (HCW.out w9 HB9.out)
          obtain ⟨⟨c0, c1, c2, c3, c4, c5, c6⟩, q0, q1, q2, q3, q4, q5, q6, q7⟩ := HCD3.out
          have hb3 : ab < w9.heap.size := by omega
          go_wp2_with (at_builtin; generalize hG : wpList _ _ _ _ _ _ = G)
          rw [← hG]
          clear hG
          refine wpList_append_own _ rfl (.tmp 38) (.tmp 43) 22 rfl B 39 i0 (.agg #[.int .i64 0, .int .i64 0, .int .i64 0, .string ⟨#[]⟩, .bool false, .slice none 0 0, .string ⟨#[]⟩]) 7 88 Try.underlying22 hi0 hz0 hz1 hz2 rfl (by decide) _ _ _ rfl (HR9.out.alloc _) ⟨w9.heap.size, 0, none⟩ 1 1 (cv y) rfl rfl ?c31 ?c32 ?c33 ?c34 ?c35 ?_
          case c31 => exact cell_new7 w9 y _
          case c32 => exact cv_one _
          case c33 => unfold maxLen; omega
          case c34 => omega
          case c35 => simp [go_sem]; omega
          intro v' wa hown6 hgrow _
          obtain ⟨oa3, oc3, rfl⟩ := own_form14 hown6 (by decide)
          have HBA3 := Lib.hid (((Below.refl B w9).alloc hBs _).grown hgrow (by simp [go_sem]; omega) (fun k hk => (HR9.out.lt k hk).1))
          rw [cvs_snoc] at hown6
          have HRA3 := Lib.hid hown6
          clear hown6 hgrow
          have HBB := Lib.hid (HB9.out.trans HBA3.out)
          clear c0 c1 c2 c3 c4 c5 c6 q0 q1 q2 q3 q4 q5 q6 q7
          go_wp2_with fail
          go_roundw
          case rel => exact ⟨k + 1, (m + 1) + 1, _, _, true, _, rfl, rfl, by go_num, by omega, by omega, HMO, HPO, HRA3, HBB⟩
          case measure => simp [intOf]; omega
      · have hdn : (dn || decide (x.c ≤ y.c)) = dn := by
          cases dn with
          | true => rfl
          | false => rw [Bool.false_or]; exact decide_eq_false (fun q => hA ⟨rfl, q⟩)
        by_cases heq : y.c = x.c
        · have hq : (y.c != x.c) = false := by simp [heq]
          have HPO : Hid (O ++ pt x dn (l.drop (k + 1)) = pt x false l) := Lib.hid (by rw [← HPT.out, if_neg hA, if_pos heq, hdn]; simp)
          have HMO : Hid (m = O.length) := HM
          clear heq hdn
          cases dn with
          | true =>
            clear hA
            obtain ⟨⟨c0, c1, c2, c3, c4, c5, c6⟩, q0, q1, q2, q3, q4, q5, q6, q7⟩ := HCW.out wr HW.out
            go_wp2_with fail
            refine wp_region_below (by kernel_rfl) (by kernel_rfl) ?_
            repeat (first
              | go_big_quiet_skip
              | (go_big_quiet_want
                 first
                 | (refine BigFrame.quiet_move _ rfl ?_)
                 | (refine BigFrame.quiet_assign _ rfl ?_)
                 | (unfold Oper.quiet
                    apply Exists.intro
                    refine ⟨fun w' hw' => ?_, ?_⟩
                    · (obtain ⟨hc', hf'⟩ := bcell hw'
                       go_simp
                       first
                       | done
                       | exact rfl))
                 go_big_quiet_on
                 simp only [Act.put, Act.eval, List.setIfInBounds_toArray, List.set_cons_zero, List.set_cons_succ, Array.getD_eq_getD_getElem?, List.getElem?_toArray, List.getElem?_cons_zero, List.getElem?_cons_succ, Option.getD_some]))
            refine wpQuiet_nil ?_
            intro w' hw'
            have HB6 := Lib.hid (HW.out.trans (hw'.mono hBr))
            have HR6 := Lib.hid (below_own HR.out hw')
            clear c0 c1 c2 c3 c4 c5 c6 q0 q1 q2 q3 q4 q5 q6 q7
            have hBs : B ≤ w'.heap.size := by rw [HBW.out]; exact HB6.out.size
            generalize w' = w6 at *
            have HCD2 := Lib.hid (HCW.out w6 HB6.out)
            obtain ⟨⟨c0, c1, c2, c3, c4, c5, c6⟩, q0, q1, q2, q3, q4, q5, q6, q7⟩ := HCD2.out
            have hBs2 : B ≤ w6.heap.size := by rw [HBW.out]; exact HB6.out.size
            have hb2 : ab < w6.heap.size := by omega
            go_wp2_with fail
            refine wp_region_below (by kernel_rfl) (by kernel_rfl) ?_
            repeat (first
              | go_big_quiet_skip
              | (go_big_quiet_want
                 first
                 | (refine BigFrame.quiet_move _ rfl ?_)
                 | (refine BigFrame.quiet_assign _ rfl ?_)
                 | (unfold Oper.quiet
                    apply Exists.intro
                    refine ⟨fun w' hw' => ?_, ?_⟩
                    · (obtain ⟨hc', hf'⟩ := bcell hw'
                       go_simp
                       first
                       | done
                       | exact rfl))
                 go_big_quiet_on
                 simp only [Act.put, Act.eval, List.setIfInBounds_toArray, List.set_cons_zero, List.set_cons_succ, Array.getD_eq_getD_getElem?, List.getElem?_toArray, List.getElem?_cons_zero, List.getElem?_cons_succ, Option.getD_some]))
            refine wpQuiet_nil ?_
            intro w' hw'
            have HB9 := Lib.hid (HB6.out.trans (hw'.mono hBs2))
            have HR9 := Lib.hid (below_own HR6.out hw')
            clear c0 c1 c2 c3 c4 c5 c6 q0 q1 q2 q3 q4 q5 q6 q7
            go_wp2_with fail
            go_roundw
            case rel => exact ⟨k + 1, m, _, _, true, _, rfl, rfl, by go_num, by omega, by omega, HMO, HPO, HR9, HB9⟩
            case measure => simp [intOf]; omega
          | false =>
            have hge : ¬ y.c ≥ x.c := fun q => hA ⟨rfl, q⟩
            clear hA
            obtain ⟨⟨c0, c1, c2, c3, c4, c5, c6⟩, q0, q1, q2, q3, q4, q5, q6, q7⟩ := HCW.out wr HW.out
            go_wp2_with fail
            refine wp_region_below (by kernel_rfl) (by kernel_rfl) ?_
            repeat (first
              | go_big_quiet_skip
              | (go_big_quiet_want
                 first
                 | (refine BigFrame.quiet_move _ rfl ?_)
                 | (refine BigFrame.quiet_assign _ rfl ?_)
                 | (unfold Oper.quiet
                    apply Exists.intro
                    refine ⟨fun w' hw' => ?_, ?_⟩
                    · (obtain ⟨hc', hf'⟩ := bcell hw'
                       go_simp
                       first
                       | done
                       | exact rfl))
                 go_big_quiet_on
                 simp only [Act.put, Act.eval, List.setIfInBounds_toArray, List.set_cons_zero, List.set_cons_succ, Array.getD_eq_getD_getElem?, List.getElem?_toArray, List.getElem?_cons_zero, List.getElem?_cons_succ, Option.getD_some]))
            refine wpQuiet_nil ?_
            intro w' hw'
            have HB6 := Lib.hid (HW.out.trans (hw'.mono hBr))
            have HR6 := Lib.hid (below_own HR.out hw')
            clear c0 c1 c2 c3 c4 c5 c6 q0 q1 q2 q3 q4 q5 q6 q7
            have hBs : B ≤ w'.heap.size := by rw [HBW.out]; exact HB6.out.size
            generalize w' = w6 at *
            have HCD2 := Lib.hid (HCW.out w6 HB6.out)
            obtain ⟨⟨c0, c1, c2, c3, c4, c5, c6⟩, q0, q1, q2, q3, q4, q5, q6, q7⟩ := HCD2.out
            have hBs2 : B ≤ w6.heap.size := by rw [HBW.out]; exact HB6.out.size
            have hb2 : ab < w6.heap.size := by omega
            go_wp2_with fail
            refine wp_region_below (by kernel_rfl) (by kernel_rfl) ?_
            repeat (first
              | go_big_quiet_skip
              | (go_big_quiet_want
                 first
                 | (refine BigFrame.quiet_move _ rfl ?_)
                 | (refine BigFrame.quiet_assign _ rfl ?_)
                 | (unfold Oper.quiet
                    apply Exists.intro
                    refine ⟨fun w' hw' => ?_, ?_⟩
                    · (obtain ⟨hc', hf'⟩ := bcell hw'
                       go_simp
                       first
                       | done
                       | exact rfl))
                 go_big_quiet_on
                 simp only [Act.put, Act.eval, List.setIfInBounds_toArray, List.set_cons_zero, List.set_cons_succ, Array.getD_eq_getD_getElem?, List.getElem?_toArray, List.getElem?_cons_zero, List.getElem?_cons_succ, Option.getD_some]))
            refine wpQuiet_nil ?_
            intro w' hw'
            have HB9 := Lib.hid (HB6.out.trans (hw'.mono hBs2))
            have HR9 := Lib.hid (below_own HR6.out hw')
            clear c0 c1 c2 c3 c4 c5 c6 q0 q1 q2 q3 q4 q5 q6 q7
            go_wp2_with fail
            go_roundw
            case rel => exact ⟨k + 1, m, _, _, false, _, rfl, rfl, by go_num, by omega, by omega, HMO, HPO, HR9, HB9⟩
            case measure => simp [intOf]; omega
        · have hq : (y.c != x.c) = true := by simp [heq]
          have HPO : Hid ((O ++ [y]) ++ pt x dn (l.drop (k + 1)) = pt x false l) := Lib.hid (by rw [← HPT.out, if_neg hA, if_neg heq, hdn]; simp)
          have HMO : Hid (m + 1 = (O ++ [y]).length) := Lib.hid (by rw [List.length_append, ← HM.out]; rfl)
          clear heq hdn
          cases dn with
          | true =>
            clear hA
            obtain ⟨⟨c0, c1, c2, c3, c4, c5, c6⟩, q0, q1, q2, q3, q4, q5, q6, q7⟩ := HCW.out wr HW.out
            go_wp2_with fail
            refine wp_region_below (by kernel_rfl) (by kernel_rfl) ?_
            repeat (first
              | go_big_quiet_skip
              | (go_big_quiet_want
                 first
                 | (refine BigFrame.quiet_move _ rfl ?_)
                 | (refine BigFrame.quiet_assign _ rfl ?_)
                 | (unfold Oper.quiet
                    apply Exists.intro
                    refine ⟨fun w' hw' => ?_, ?_⟩
                    · (obtain ⟨hc', hf'⟩ := bcell hw'
                       go_simp
                       first
                       | done
                       | exact rfl))
                 go_big_quiet_on
                 simp only [Act.put, Act.eval, List.setIfInBounds_toArray, List.set_cons_zero, List.set_cons_succ, Array.getD_eq_getD_getElem?, List.getElem?_toArray, List.getElem?_cons_zero, List.getElem?_cons_succ, Option.getD_some]))
            refine wpQuiet_nil ?_
            intro w' hw'
            have HB6 := Lib.hid (HW.out.trans (hw'.mono hBr))
            have HR6 := Lib.hid (below_own HR.out hw')
            clear c0 c1 c2 c3 c4 c5 c6 q0 q1 q2 q3 q4 q5 q6 q7
            have hBs : B ≤ w'.heap.size := by rw [HBW.out]; exact HB6.out.size
            generalize w' = w6 at *
            have HCD2 := Lib.hid (HCW.out w6 HB6.out)
            obtain ⟨⟨c0, c1, c2, c3, c4, c5, c6⟩, q0, q1, q2, q3, q4, q5, q6, q7⟩ := HCD2.out
            have hBs2 : B ≤ w6.heap.size := by rw [HBW.out]; exact HB6.out.size
            have hb2 : ab < w6.heap.size := by omega
            go_wp2_with fail
            refine wp_region_below (by kernel_rfl) (by kernel_rfl) ?_
            repeat (first
              | go_big_quiet_skip
              | (go_big_quiet_want
                 first
                 | (refine BigFrame.quiet_move _ rfl ?_)
                 | (refine BigFrame.quiet_assign _ rfl ?_)
                 | (unfold Oper.quiet
                    apply Exists.intro
                    refine ⟨fun w' hw' => ?_, ?_⟩
                    · (obtain ⟨hc', hf'⟩ := bcell hw'
                       go_simp
                       first
                       | done
                       | exact rfl))
                 go_big_quiet_on
                 simp only [Act.put, Act.eval, List.setIfInBounds_toArray, List.set_cons_zero, List.set_cons_succ, Array.getD_eq_getD_getElem?, List.getElem?_toArray, List.getElem?_cons_zero, List.getElem?_cons_succ, Option.getD_some]))
            refine wpQuiet_nil ?_
            intro w' hw'
            have HB9 := Lib.hid (HB6.out.trans (hw'.mono hBs2))
            have HR9 := Lib.hid (below_own HR6.out hw')
            clear c0 c1 c2 c3 c4 c5 c6 q0 q1 q2 q3 q4 q5 q6 q7
            have hBs : B ≤ w'.heap.size := by rw [HBW.out]; exact HB9.out.size
            generalize w' = w9 at *
            have HCD3 := Lib.hid (HCW.out w9 HB9.out)
            obtain ⟨⟨c0, c1, c2, c3, c4, c5, c6⟩, q0, q1, q2, q3, q4, q5, q6, q7⟩ := HCD3.out
            have hb3 : ab < w9.heap.size := by omega
            go_wp2_with (at_builtin; generalize hG : wpList _ _ _ _ _ _ = G)
            rw [← hG]
            clear hG
            refine wpList_append_own _ rfl (.tmp 38) (.tmp 43) 22 rfl B 39 i0 (.agg #[.int .i64 0, .int .i64 0, .int .i64 0, .string ⟨#[]⟩, .bool false, .slice none 0 0, .string ⟨#[]⟩]) 7 88 Try.underlying22 hi0 hz0 hz1 hz2 rfl (by decide) _ _ _ rfl (HR9.out.alloc _) ⟨w9.heap.size, 0, none⟩ 1 1 (cv y) rfl rfl ?c41 ?c42 ?c43 ?c44 ?c45 ?_
            case c41 => exact cell_new7 w9 y _
            case c42 => exact cv_one _
            case c43 => unfold maxLen; omega
            case c44 => omega
            case c45 => simp [go_sem]; omega
            intro v' wa hown6 hgrow _
            obtain ⟨oa4, oc4, rfl⟩ := own_form14 hown6 (by decide)
            have HBA4 := Lib.hid (((Below.refl B w9).alloc hBs _).grown hgrow (by simp [go_sem]; omega) (fun k hk => (HR9.out.lt k hk).1))
            rw [cvs_snoc] at hown6
            have HRA4 := Lib.hid hown6
            clear hown6 hgrow
            have HBB := Lib.hid (HB9.out.trans HBA4.out)
            clear c0 c1 c2 c3 c4 c5 c6 q0 q1 q2 q3 q4 q5 q6 q7
            go_wp2_with fail
            go_roundw
            case rel => exact ⟨k + 1, m + 1, _, _, true, _, rfl, rfl, by go_num, by omega, by omega, HMO, HPO, HRA4, HBB⟩
            case measure => simp [intOf]; omega
          | false =>
            have hge : ¬ y.c ≥ x.c := fun q => hA ⟨rfl, q⟩
            clear hA
            obtain ⟨⟨c0, c1, c2, c3, c4, c5, c6⟩, q0, q1, q2, q3, q4, q5, q6, q7⟩ := HCW.out wr HW.out
            go_wp2_with fail
            refine wp_region_below (by kernel_rfl) (by kernel_rfl) ?_
            repeat (first
              | go_big_quiet_skip
              | (go_big_quiet_want
                 first
                 | (refine BigFrame.quiet_move _ rfl ?_)
                 | (refine BigFrame.quiet_assign _ rfl ?_)
                 | (unfold Oper.quiet
                    apply Exists.intro
                    refine ⟨fun w' hw' => ?_, ?_⟩
                    · (obtain ⟨hc', hf'⟩ := bcell hw'
                       go_simp
                       first
                       | done
                       | exact rfl))
                 go_big_quiet_on
                 simp only [Act.put, Act.eval, List.setIfInBounds_toArray, List.set_cons_zero, List.set_cons_succ, Array.getD_eq_getD_getElem?, List.getElem?_toArray, List.getElem?_cons_zero, List.getElem?_cons_succ, Option.getD_some]))
            refine wpQuiet_nil ?_
            intro w' hw'
            have HB6 := Lib.hid (HW.out.trans (hw'.mono hBr))
            have HR6 := Lib.hid (below_own HR.out hw')
            clear c0 c1 c2 c3 c4 c5 c6 q0 q1 q2 q3 q4 q5 q6 q7
            have hBs : B ≤ w'.heap.size := by rw [HBW.out]; exact HB6.out.size
            generalize w' = w6 at *
            have HCD2 := Lib.hid (HCW.out w6 HB6.out)
            obtain ⟨⟨c0, c1, c2, c3, c4, c5, c6⟩, q0, q1, q2, q3, q4, q5, q6, q7⟩ := HCD2.out
            have hBs2 : B ≤ w6.heap.size := by rw [HBW.out]; exact HB6.out.size
            have hb2 : ab < w6.heap.size := by omega
            go_wp2_with fail
            refine wp_region_below (by kernel_rfl) (by kernel_rfl) ?_
            repeat (first
              | go_big_quiet_skip
              | (go_big_quiet_want
                 first
                 | (refine BigFrame.quiet_move _ rfl ?_)
                 | (refine BigFrame.quiet_assign _ rfl ?_)
                 | (unfold Oper.quiet
                    apply Exists.intro
                    refine ⟨fun w' hw' => ?_, ?_⟩
                    · (obtain ⟨hc', hf'⟩ := bcell hw'
                       go_simp
                       first
                       | done
                       | exact rfl))
                 go_big_quiet_on
                 simp only [Act.put, Act.eval, List.setIfInBounds_toArray, List.set_cons_zero, List.set_cons_succ, Array.getD_eq_getD_getElem?, List.getElem?_toArray, List.getElem?_cons_zero, List.getElem?_cons_succ, Option.getD_some]))
            refine wpQuiet_nil ?_
            intro w' hw'
            have HB9 := Lib.hid (HB6.out.trans (hw'.mono hBs2))
            have HR9 := Lib.hid (below_own HR6.out hw')
            clear c0 c1 c2 c3 c4 c5 c6 q0 q1 q2 q3 q4 q5 q6 q7
            have hBs : B ≤ w'.heap.size := by rw [HBW.out]; exact HB9.out.size
            generalize w' = w9 at *
            have HCD3 := Lib.hid (HCW.out w9 HB9.out)
            obtain ⟨⟨c0, c1, c2, c3, c4, c5, c6⟩, q0, q1, q2, q3, q4, q5, q6, q7⟩ := HCD3.out
            have hb3 : ab < w9.heap.size := by omega
            go_wp2_with (at_builtin; generalize hG : wpList _ _ _ _ _ _ = G)
            rw [← hG]
            clear hG
            refine wpList_append_own _ rfl (.tmp 38) (.tmp 43) 22 rfl B 39 i0 (.agg #[.int .i64 0, .int .i64 0, .int .i64 0, .string ⟨#[]⟩, .bool false, .slice none 0 0, .string ⟨#[]⟩]) 7 88 Try.underlying22 hi0 hz0 hz1 hz2 rfl (by decide) _ _ _ rfl (HR9.out.alloc _) ⟨w9.heap.size, 0, none⟩ 1 1 (cv y) rfl rfl ?c51 ?c52 ?c53 ?c54 ?c55 ?_
            case c51 => exact cell_new7 w9 y _
            case c52 => exact cv_one _
            case c53 => unfold maxLen; omega
            case c54 => omega
            case c55 => simp [go_sem]; omega
            intro v' wa hown6 hgrow _
            obtain ⟨oa5, oc5, rfl⟩ := own_form14 hown6 (by decide)
            have HBA5 := Lib.hid (((Below.refl B w9).alloc hBs _).grown hgrow (by simp [go_sem]; omega) (fun k hk => (HR9.out.lt k hk).1))
            rw [cvs_snoc] at hown6
            have HRA5 := Lib.hid hown6
            clear hown6 hgrow
            have HBB := Lib.hid (HB9.out.trans HBA5.out)
            clear c0 c1 c2 c3 c4 c5 c6 q0 q1 q2 q3 q4 q5 q6 q7
            go_wp2_with fail
            go_roundw
            case rel => exact ⟨k + 1, m + 1, _, _, false, _, rfl, rfl, by go_num, by omega, by omega, HMO, HPO, HRA5, HBB⟩
            case measure => simp [intOf]; omega
    · obtain rfl : k = n := by omega
      obtain ⟨q0, q1, q2, q3, q4, q5, q6, q7⟩ := HS0.out.low (by have := HS0.out.2.2.2.2.2.2.2; rw [← HBW.out] at this; exact this) HW.out
      have hBs := hBr
      have hE := HO.out
      rw [← HL.out, List.drop_length, pt_none] at hE
      have HE := Lib.hid hE
      clear hE
      cases dn with
      | true =>
        clear q0 q1 q2 q3 q4 q5 q6 q7
        go_wp2_with fail
        go_ret
        obtain ⟨a', c', e, hs⟩ := own_ss HR.out HM.out.symm
        obtain ⟨rfl, rfl⟩ : oa = a' ∧ ocap = c' := by injection e with e1 _ e2; exact ⟨e1, e2⟩
        refine ⟨_, _, _, rfl, ?_, HB0.out.trans (HW.out.mono (by rw [HBW.out]; exact HW1.out))⟩
        have := HE.out
        simp only [if_true, List.append_nil] at this
        rw [← this]; exact hs
      | false =>
        go_wp2_with (at_builtin; generalize hG : wpList _ _ _ _ _ _ = G)
        rw [← hG]
        clear hG
        refine wpList_append_own _ rfl (.tmp 47) (.tmp 49) 22 rfl B 39 i0 (.agg #[.int .i64 0, .int .i64 0, .int .i64 0, .string ⟨#[]⟩, .bool false, .slice none 0 0, .string ⟨#[]⟩]) 7 88 Try.underlying22 hi0 hz0 hz1 hz2 rfl (by decide) _ _ _ rfl (HR.out.alloc _) ⟨wr.heap.size, 0, none⟩ 1 1 (cv x) rfl rfl ?c61 ?c62 ?c63 ?c64 ?c65 ?_
        case c61 => exact cell_new7 wr x _
        case c62 => exact cv_one _
        case c63 => unfold maxLen; omega
        case c64 => omega
        case c65 => simp [go_sem]; omega
        intro v' w8 hown6 hgrow _
        obtain ⟨oa6, oc6, rfl⟩ := own_form14 hown6 (by decide)
        have HBA6 := Lib.hid (((Below.refl B wr).alloc hBs _).grown hgrow (by simp [go_sem]; omega) (fun k hk => (HR.out.lt k hk).1))
        rw [cvs_snoc] at hown6
        have HRA6 := Lib.hid hown6
        clear hown6 hgrow
        clear q0 q1 q2 q3 q4 q5 q6 q7
        go_wp2_with fail
        go_ret
        have hln : (O ++ [x]).length = m + 1 := by rw [List.length_append, ← HM.out]; rfl
        obtain ⟨a', c', e, hs⟩ := own_ss HRA6.out hln
        obtain ⟨rfl, rfl⟩ : oa6 = a' ∧ oc6 = c' := by injection e with e1 _ e2; exact ⟨e1, e2⟩
        refine ⟨_, _, _, rfl, ?_, HB0.out.trans ((HW.out.trans HBA6.out).mono (by rw [HBW.out]; exact HW1.out))⟩
        have := HE.out
        simp only [Bool.false_eq_true, if_false] at this
        rw [← this]; exact hs
end Go.Proofs.Ytemaonfgledcmaa
