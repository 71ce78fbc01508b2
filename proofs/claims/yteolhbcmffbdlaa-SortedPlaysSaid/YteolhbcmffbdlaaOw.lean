/-
  Layer 7 (sorted): a tree of values (int): the contract of balanced: keys and values stand as they stood. Conditions: fewer keys than 2^40.
-/
import Derived.Test.YteolhbcmffbdlaaOv
namespace Go.Proofs.Yteolhbcmffbdlaa.TI
open Go.RowKit
set_option linter.unusedVariables false
set_option linter.unusedSimpArgs false

set_option maxHeartbeats 1000000 in
theorem balanced_left_as {w : World} {p : Option Addr} {T O : BT Int} {k : Ky} {v : Int} (h : IsT w p (BT.node T k v O)) (hn : (BT.node T k v O).cnt < lim) (hs : O.cnt < T.cnt) (hA : T.cnt + 1 ≤ 3 * (O.cnt + 1)) :
    Calls Try.prog 46 #[.pointer p] w (TreeR w fun t' => t' = (BT.node T k v O)) := by
  have HH := Lib.hid h
  have HN := Lib.hid hn
  have HS := Lib.hid hs
  obtain ⟨g, pl, pr, rfl, hlt, h0, h1, h2, h3, h4, hl, hr⟩ := h
  rw [BT.cnt_node] at hn
  have hnT : T.cnt < lim := by omega
  have hnO : O.cnt < lim := by omega
  unfold lim at hn
  obtain ⟨q, hq, hd⟩ : ∃ q : Int, IntKind.i64.wrap (3 * ((O.cnt : Int) + 1)) = q ∧ decide ((T.cnt : Int) + 1 ≤ q) = true := ⟨_, IntWalk.i64_in _ (by omega), by simp; omega⟩
  have HT := Lib.hid hl
  have HO := Lib.hid hr
  have HNT := Lib.hid hnT
  have HNO := Lib.hid hnO
  clear hl hr hnT hnO hs hA
  have hw1 : IntKind.i64.wrap 1 = 1 := by decide
  have hw0 : IntKind.i64.wrap 0 = 0 := by decide
  go_enter Try.func46, Try.ntmps46
  go_wp2_with fail
  refine (heavier_left HH.out HN.out HS.out).mono ?_
  rintro e w1 ⟨rfl, b1⟩
  have B1 := Lib.hid b1
  obtain ⟨hc, hf⟩ := bcell b1
  have hlt' : g < w1.heap.size := Nat.lt_of_lt_of_le hlt b1.size
  clear b1
  go_wp2_with fail
  have HTB := Lib.hid (HT.out.below B1.out)
  have HOB := Lib.hid (HO.out.below B1.out)
  refine wp_region_below (by kernel_rfl) (by kernel_rfl) ?_
  repeat (first
    | go_big_quiet_skip
    | (go_big_quiet_want
       first
       | (refine BigFrame.quiet_move _ rfl ?_)
       | (refine BigFrame.quiet_assign _ rfl ?_)
       | (unfold Oper.quiet
          apply Exists.intro
          refine ⟨fun w' hw' => ?_, ?_⟩
          · (obtain ⟨hc', hf'⟩ := bcell hw'
             go_simp
             first
             | done
             | exact rfl
             | (go_at_call 55; (with_reducible refine (weight_any (HTB.out.below hw') HNT.out).mono ?_); rintro e w'' ⟨rfl, bb⟩; exact ⟨rfl, by first | exact bt hw' bb | simpa using bt hw' bb⟩)
             | (go_at_call 55; (with_reducible refine (weight_any (HOB.out.below hw') HNO.out).mono ?_); rintro e w'' ⟨rfl, bb⟩; exact ⟨rfl, by first | exact bt hw' bb | simpa using bt hw' bb⟩)))
       go_big_quiet_on
       simp only [Act.put, Act.eval, List.setIfInBounds_toArray, List.set_cons_zero, List.set_cons_succ, Array.getD_eq_getD_getElem?, List.getElem?_toArray, List.getElem?_cons_zero, List.getElem?_cons_succ, Option.getD_some]))
  refine wpQuiet_nil ?_
  intro w' hw'
  have HW := Lib.hid (bt B1.out hw')
  clear hw'
  go_wp2_with fail
  go_ret
  exact ⟨_, _, rfl, HW.out, HH.out.below HW.out, rfl⟩

set_option maxRecDepth 100000 in
set_option maxHeartbeats 2000000 in
theorem balanced_left_one {w : World} {p : Option Addr} {x y O : BT Int} {k k2 : Ky} {v v2 : Int} (h : IsT w p (BT.node (.node x k2 v2 y) k v O)) (hn : (BT.node (.node x k2 v2 y) k v O).cnt < lim) (hs : O.cnt < (BT.cnt (.node x k2 v2 y))) (hA : 3 * (O.cnt + 1) < (BT.cnt (.node x k2 v2 y)) + 1) (hI : y.cnt + 1 < 2 * (x.cnt + 1)) :
    Calls Try.prog 46 #[.pointer p] w (TreeR w fun t' => t' = (.node x k2 v2 (.node y k v O))) := by
  have HH := Lib.hid h
  have HN := Lib.hid hn
  have HS := Lib.hid hs
  obtain ⟨g, pl, pr, rfl, hlt, h0, h1, h2, h3, h4, hl, hr⟩ := h
  rw [BT.cnt_node, BT.cnt_node] at hn
  have hnT : (BT.cnt (.node x k2 v2 y)) < lim := by rw [BT.cnt_node]; omega
  have hnx : x.cnt < lim := by omega
  have hny : y.cnt < lim := by omega
  have hnO : O.cnt < lim := by omega
  unfold lim at hn
  rw [BT.cnt_node] at hA
  obtain ⟨q, hq, hd⟩ : ∃ q : Int, IntKind.i64.wrap (3 * ((O.cnt : Int) + 1)) = q ∧ decide (((BT.cnt (.node x k2 v2 y) : Nat) : Int) + 1 ≤ q) = false := ⟨_, IntWalk.i64_in _ (by omega), by rw [BT.cnt_node]; simp; omega⟩
  obtain ⟨q2, hq2, hd2⟩ : ∃ q : Int, IntKind.i64.wrap (2 * ((x.cnt : Int) + 1)) = q ∧ decide (q ≤ (y.cnt : Int) + 1) = false := ⟨_, IntWalk.i64_in _ (by omega), by simp; omega⟩
  have HT := Lib.hid hl
  have HO := Lib.hid hr
  have HT2 := HT.out
  obtain ⟨g2, ql, qr, rfl, hlt2, j0, j1, j2, j3, j4, hl2, hr2⟩ := HT2
  have HX := Lib.hid hl2
  have HY := Lib.hid hr2
  have HNT := Lib.hid hnT
  have HNO := Lib.hid hnO
  have HNX := Lib.hid hnx
  have HNY := Lib.hid hny
  clear hl hr hl2 hr2 hnT hnO hnx hny hs hA hI
  have hw1 : IntKind.i64.wrap 1 = 1 := by decide
  have hw0 : IntKind.i64.wrap 0 = 0 := by decide
  go_enter Try.func46, Try.ntmps46
  go_wp2_with fail
  refine (heavier_left HH.out HN.out HS.out).mono ?_
  rintro e w1 ⟨rfl, b1⟩
  have B1 := Lib.hid b1
  obtain ⟨hc, hf⟩ := bcell b1
  have hlt' : g < w1.heap.size := Nat.lt_of_lt_of_le hlt b1.size
  clear b1
  go_wp2_with fail
  have hlt2' : g2 < w1.heap.size := Nat.lt_of_lt_of_le hlt2 B1.out.size
  have HTB := Lib.hid (HT.out.below B1.out)
  have HOB := Lib.hid (HO.out.below B1.out)
  refine wp_region_below (by kernel_rfl) (by kernel_rfl) ?_
  repeat (first
    | go_big_quiet_skip
    | (go_big_quiet_want
       first
       | (refine BigFrame.quiet_move _ rfl ?_)
       | (refine BigFrame.quiet_assign _ rfl ?_)
       | (unfold Oper.quiet
          apply Exists.intro
          refine ⟨fun w' hw' => ?_, ?_⟩
          · (obtain ⟨hc', hf'⟩ := bcell hw'
             go_simp
             first
             | done
             | exact rfl
             | (go_at_call 55; (with_reducible refine (weight_any (HTB.out.below hw') HNT.out).mono ?_); rintro e w'' ⟨rfl, bb⟩; exact ⟨rfl, by first | exact bt hw' bb | simpa using bt hw' bb⟩)
             | (go_at_call 55; (with_reducible refine (weight_any (HOB.out.below hw') HNO.out).mono ?_); rintro e w'' ⟨rfl, bb⟩; exact ⟨rfl, by first | exact bt hw' bb | simpa using bt hw' bb⟩)))
       go_big_quiet_on
       simp only [Act.put, Act.eval, List.setIfInBounds_toArray, List.set_cons_zero, List.set_cons_succ, Array.getD_eq_getD_getElem?, List.getElem?_toArray, List.getElem?_cons_zero, List.getElem?_cons_succ, Option.getD_some]))
  refine wpQuiet_nil ?_
  intro w' hw'
  have HW2 := Lib.hid (bt B1.out hw')
  obtain ⟨hc2, hf2⟩ := bcell HW2.out
  have hlt3 : g < w'.heap.size := Nat.lt_of_lt_of_le hlt HW2.out.size
  have hlt4 : g2 < w'.heap.size := Nat.lt_of_lt_of_le hlt2 HW2.out.size
  clear hc hf hw' hlt' hlt2'
  obtain ⟨w2, rfl⟩ : ∃ x, x = w' := ⟨_, rfl⟩
  go_wp2_with fail
  have HXB := Lib.hid (HX.out.below HW2.out)
  have HYB := Lib.hid (HY.out.below HW2.out)
  refine wp_region_below (by kernel_rfl) (by kernel_rfl) ?_
  repeat (first
    | go_big_quiet_skip
    | (go_big_quiet_want
       first
       | (refine BigFrame.quiet_move _ rfl ?_)
       | (refine BigFrame.quiet_assign _ rfl ?_)
       | (unfold Oper.quiet
          apply Exists.intro
          refine ⟨fun w' hw' => ?_, ?_⟩
          · (obtain ⟨hc', hf'⟩ := bcell hw'
             go_simp
             first
             | done
             | exact rfl
             | (go_at_call 55; (with_reducible refine (weight_any (HXB.out.below hw') HNX.out).mono ?_); rintro e w'' ⟨rfl, bb⟩; exact ⟨rfl, by first | exact bt hw' bb | simpa using bt hw' bb⟩)
             | (go_at_call 55; (with_reducible refine (weight_any (HYB.out.below hw') HNY.out).mono ?_); rintro e w'' ⟨rfl, bb⟩; exact ⟨rfl, by first | exact bt hw' bb | simpa using bt hw' bb⟩)))
       go_big_quiet_on
       simp only [Act.put, Act.eval, List.setIfInBounds_toArray, List.set_cons_zero, List.set_cons_succ, Array.getD_eq_getD_getElem?, List.getElem?_toArray, List.getElem?_cons_zero, List.getElem?_cons_succ, Option.getD_some]))
  refine wpQuiet_nil ?_
  intro w' hw'
  have HW3 := Lib.hid (bt HW2.out hw')
  clear hw'
  go_wp2_with fail
  refine (turned_left (HH.out.below HW3.out) HN.out).mono ?_
  rintro e w4 ⟨q5, t5, rfl, b5, i5, rfl⟩
  have HB5 := Lib.hid (bt HW3.out b5)
  have HI5 := Lib.hid i5
  clear b5 i5
  go_wp2_with fail
  go_ret
  exact ⟨_, _, rfl, HB5.out, HI5.out, rfl⟩

set_option maxRecDepth 100000 in
set_option maxHeartbeats 2000000 in
theorem balanced_left_two {w : World} {p : Option Addr} {x y a b O : BT Int} {k k2 k3 : Ky} {v v2 v3 : Int} (hy : y = (.node a k3 v3 b)) (h : IsT w p (BT.node (.node x k2 v2 y) k v O)) (hn : (BT.node (.node x k2 v2 y) k v O).cnt < lim) (hs : O.cnt < (BT.cnt (.node x k2 v2 y))) (hA : 3 * (O.cnt + 1) < (BT.cnt (.node x k2 v2 y)) + 1) (hI : 2 * (x.cnt + 1) ≤ y.cnt + 1) :
    Calls Try.prog 46 #[.pointer p] w (TreeR w fun t' => t' = (.node (.node x k2 v2 a) k3 v3 (.node b k v O))) := by
  have hnt : (BT.node (.node (.node x k2 v2 a) k3 v3 b) k v O).cnt < lim := by subst hy; simp only [BT.cnt_node] at hn ⊢; omega
  have HNT2 := Lib.hid hnt
  have HYE := Lib.hid hy
  clear hnt hy
  have HH := Lib.hid h
  have HN := Lib.hid hn
  have HS := Lib.hid hs
  obtain ⟨g, pl, pr, rfl, hlt, h0, h1, h2, h3, h4, hl, hr⟩ := h
  rw [BT.cnt_node, BT.cnt_node] at hn
  have hnT : (BT.cnt (.node x k2 v2 y)) < lim := by rw [BT.cnt_node]; omega
  have hnx : x.cnt < lim := by omega
  have hny : y.cnt < lim := by omega
  have hnO : O.cnt < lim := by omega
  unfold lim at hn
  rw [BT.cnt_node] at hA
  obtain ⟨q, hq, hd⟩ : ∃ q : Int, IntKind.i64.wrap (3 * ((O.cnt : Int) + 1)) = q ∧ decide (((BT.cnt (.node x k2 v2 y) : Nat) : Int) + 1 ≤ q) = false := ⟨_, IntWalk.i64_in _ (by omega), by rw [BT.cnt_node]; simp; omega⟩
  obtain ⟨q2, hq2, hd2⟩ : ∃ q : Int, IntKind.i64.wrap (2 * ((x.cnt : Int) + 1)) = q ∧ decide (q ≤ (y.cnt : Int) + 1) = true := ⟨_, IntWalk.i64_in _ (by omega), by simp; omega⟩
  have HT := Lib.hid hl
  have HO := Lib.hid hr
  have HT2 := HT.out
  obtain ⟨g2, ql, qr, rfl, hlt2, j0, j1, j2, j3, j4, hl2, hr2⟩ := HT2
  have HX := Lib.hid hl2
  have HY := Lib.hid hr2
  have HNT := Lib.hid hnT
  have HNO := Lib.hid hnO
  have HNX := Lib.hid hnx
  have HNY := Lib.hid hny
  clear hl hr hl2 hr2 hnT hnO hnx hny hs hA hI
  have hw1 : IntKind.i64.wrap 1 = 1 := by decide
  have hw0 : IntKind.i64.wrap 0 = 0 := by decide
  go_enter Try.func46, Try.ntmps46
  go_wp2_with fail
  refine (heavier_left HH.out HN.out HS.out).mono ?_
  rintro e w1 ⟨rfl, b1⟩
  have B1 := Lib.hid b1
  obtain ⟨hc, hf⟩ := bcell b1
  have hlt' : g < w1.heap.size := Nat.lt_of_lt_of_le hlt b1.size
  clear b1
  go_wp2_with fail
  have hlt2' : g2 < w1.heap.size := Nat.lt_of_lt_of_le hlt2 B1.out.size
  have HTB := Lib.hid (HT.out.below B1.out)
  have HOB := Lib.hid (HO.out.below B1.out)
  refine wp_region_below (by kernel_rfl) (by kernel_rfl) ?_
  repeat (first
    | go_big_quiet_skip
    | (go_big_quiet_want
       first
       | (refine BigFrame.quiet_move _ rfl ?_)
       | (refine BigFrame.quiet_assign _ rfl ?_)
       | (unfold Oper.quiet
          apply Exists.intro
          refine ⟨fun w' hw' => ?_, ?_⟩
          · (obtain ⟨hc', hf'⟩ := bcell hw'
             go_simp
             first
             | done
             | exact rfl
             | (go_at_call 55; (with_reducible refine (weight_any (HTB.out.below hw') HNT.out).mono ?_); rintro e w'' ⟨rfl, bb⟩; exact ⟨rfl, by first | exact bt hw' bb | simpa using bt hw' bb⟩)
             | (go_at_call 55; (with_reducible refine (weight_any (HOB.out.below hw') HNO.out).mono ?_); rintro e w'' ⟨rfl, bb⟩; exact ⟨rfl, by first | exact bt hw' bb | simpa using bt hw' bb⟩)))
       go_big_quiet_on
       simp only [Act.put, Act.eval, List.setIfInBounds_toArray, List.set_cons_zero, List.set_cons_succ, Array.getD_eq_getD_getElem?, List.getElem?_toArray, List.getElem?_cons_zero, List.getElem?_cons_succ, Option.getD_some]))
  refine wpQuiet_nil ?_
  intro w' hw'
  have HW2 := Lib.hid (bt B1.out hw')
  obtain ⟨hc2, hf2⟩ := bcell HW2.out
  have hlt3 : g < w'.heap.size := Nat.lt_of_lt_of_le hlt HW2.out.size
  have hlt4 : g2 < w'.heap.size := Nat.lt_of_lt_of_le hlt2 HW2.out.size
  clear hc hf hw' hlt' hlt2'
  obtain ⟨w2, rfl⟩ : ∃ x, x = w' := ⟨_, rfl⟩
  go_wp2_with fail
  have HXB := Lib.hid (HX.out.below HW2.out)
  have HYB := Lib.hid (HY.out.below HW2.out)
  refine wp_region_below (by kernel_rfl) (by kernel_rfl) ?_
  repeat (first
    | go_big_quiet_skip
    | (go_big_quiet_want
       first
       | (refine BigFrame.quiet_move _ rfl ?_)
       | (refine BigFrame.quiet_assign _ rfl ?_)
       | (unfold Oper.quiet
          apply Exists.intro
          refine ⟨fun w' hw' => ?_, ?_⟩
          · (obtain ⟨hc', hf'⟩ := bcell hw'
             go_simp
             first
             | done
             | exact rfl
             | (go_at_call 55; (with_reducible refine (weight_any (HXB.out.below hw') HNX.out).mono ?_); rintro e w'' ⟨rfl, bb⟩; exact ⟨rfl, by first | exact bt hw' bb | simpa using bt hw' bb⟩)
             | (go_at_call 55; (with_reducible refine (weight_any (HYB.out.below hw') HNY.out).mono ?_); rintro e w'' ⟨rfl, bb⟩; exact ⟨rfl, by first | exact bt hw' bb | simpa using bt hw' bb⟩)))
       go_big_quiet_on
       simp only [Act.put, Act.eval, List.setIfInBounds_toArray, List.set_cons_zero, List.set_cons_succ, Array.getD_eq_getD_getElem?, List.getElem?_toArray, List.getElem?_cons_zero, List.getElem?_cons_succ, Option.getD_some]))
  refine wpQuiet_nil ?_
  intro w' hw'
  have HW3 := Lib.hid (bt HW2.out hw')
  clear hw'
  go_wp2_with fail
  refine (turned_right (a := x) (b := a) (c := b) (k := k2) (k2 := k3) (v := v2) (v2 := v3) (by have h := HT.out.below HW3.out; rw [HYE.out] at h; exact h) (by have h := HNT.out; rw [HYE.out] at h; exact h)).mono ?_
  rintro e w4 ⟨q5, t5, rfl, b5, i5, rfl⟩
  have HB5 := Lib.hid (bt HW3.out b5)
  have HI5 := Lib.hid i5
  clear b5 i5
  go_wp2_with fail
  refine (with_left (HH.out.below HB5.out) HI5.out HNT2.out).mono ?_
  rintro e w6 ⟨rfl, b6, i6⟩
  have HB6 := Lib.hid (bt HB5.out b6)
  have HI6 := Lib.hid i6
  clear b6 i6
  go_wp2_with fail
  refine (turned_left HI6.out HNT2.out).mono ?_
  rintro e w7 ⟨q7, t7, rfl, b7, i7, rfl⟩
  have HB7 := Lib.hid (bt HB6.out b7)
  have HI7 := Lib.hid i7
  clear b7 i7
  go_wp2_with fail
  go_ret
  exact ⟨_, _, rfl, HB7.out, HI7.out, rfl⟩

set_option maxHeartbeats 1000000 in
theorem balanced_right_as {w : World} {p : Option Addr} {T O : BT Int} {k : Ky} {v : Int} (h : IsT w p (BT.node O k v T)) (hn : (BT.node O k v T).cnt < lim) (hs : O.cnt ≤ T.cnt) (hA : T.cnt + 1 ≤ 3 * (O.cnt + 1)) :
    Calls Try.prog 46 #[.pointer p] w (TreeR w fun t' => t' = (BT.node O k v T)) := by
  have HH := Lib.hid h
  have HN := Lib.hid hn
  have HS := Lib.hid hs
  obtain ⟨g, pl, pr, rfl, hlt, h0, h1, h2, h3, h4, hl, hr⟩ := h
  rw [BT.cnt_node] at hn
  have hnT : T.cnt < lim := by omega
  have hnO : O.cnt < lim := by omega
  unfold lim at hn
  obtain ⟨q, hq, hd⟩ : ∃ q : Int, IntKind.i64.wrap (3 * ((O.cnt : Int) + 1)) = q ∧ decide ((T.cnt : Int) + 1 ≤ q) = true := ⟨_, IntWalk.i64_in _ (by omega), by simp; omega⟩
  have HT := Lib.hid hr
  have HO := Lib.hid hl
  have HNT := Lib.hid hnT
  have HNO := Lib.hid hnO
  clear hl hr hnT hnO hs hA
  have hw1 : IntKind.i64.wrap 1 = 1 := by decide
  have hw0 : IntKind.i64.wrap 0 = 0 := by decide
  go_enter Try.func46, Try.ntmps46
  go_wp2_with fail
  refine (heavier_right HH.out HN.out HS.out).mono ?_
  rintro e w1 ⟨rfl, b1⟩
  have B1 := Lib.hid b1
  obtain ⟨hc, hf⟩ := bcell b1
  have hlt' : g < w1.heap.size := Nat.lt_of_lt_of_le hlt b1.size
  clear b1
  go_wp2_with fail
  have HTB := Lib.hid (HT.out.below B1.out)
  have HOB := Lib.hid (HO.out.below B1.out)
  refine wp_region_below (by kernel_rfl) (by kernel_rfl) ?_
  repeat (first
    | go_big_quiet_skip
    | (go_big_quiet_want
       first
       | (refine BigFrame.quiet_move _ rfl ?_)
       | (refine BigFrame.quiet_assign _ rfl ?_)
       | (unfold Oper.quiet
          apply Exists.intro
          refine ⟨fun w' hw' => ?_, ?_⟩
          · (obtain ⟨hc', hf'⟩ := bcell hw'
             go_simp
             first
             | done
             | exact rfl
             | (go_at_call 55; (with_reducible refine (weight_any (HTB.out.below hw') HNT.out).mono ?_); rintro e w'' ⟨rfl, bb⟩; exact ⟨rfl, by first | exact bt hw' bb | simpa using bt hw' bb⟩)
             | (go_at_call 55; (with_reducible refine (weight_any (HOB.out.below hw') HNO.out).mono ?_); rintro e w'' ⟨rfl, bb⟩; exact ⟨rfl, by first | exact bt hw' bb | simpa using bt hw' bb⟩)))
       go_big_quiet_on
       simp only [Act.put, Act.eval, List.setIfInBounds_toArray, List.set_cons_zero, List.set_cons_succ, Array.getD_eq_getD_getElem?, List.getElem?_toArray, List.getElem?_cons_zero, List.getElem?_cons_succ, Option.getD_some]))
  refine wpQuiet_nil ?_
  intro w' hw'
  have HW := Lib.hid (bt B1.out hw')
  clear hw'
  go_wp2_with fail
  go_ret
  exact ⟨_, _, rfl, HW.out, HH.out.below HW.out, rfl⟩

set_option maxRecDepth 100000 in
set_option maxHeartbeats 2000000 in
theorem balanced_right_one {w : World} {p : Option Addr} {x y O : BT Int} {k k2 : Ky} {v v2 : Int} (h : IsT w p (BT.node O k v (.node y k2 v2 x))) (hn : (BT.node O k v (.node y k2 v2 x)).cnt < lim) (hs : O.cnt ≤ (BT.cnt (.node y k2 v2 x))) (hA : 3 * (O.cnt + 1) < (BT.cnt (.node y k2 v2 x)) + 1) (hI : y.cnt + 1 < 2 * (x.cnt + 1)) :
    Calls Try.prog 46 #[.pointer p] w (TreeR w fun t' => t' = (.node (.node O k v y) k2 v2 x)) := by
  have HH := Lib.hid h
  have HN := Lib.hid hn
  have HS := Lib.hid hs
  obtain ⟨g, pl, pr, rfl, hlt, h0, h1, h2, h3, h4, hl, hr⟩ := h
  rw [BT.cnt_node, BT.cnt_node] at hn
  have hnT : (BT.cnt (.node y k2 v2 x)) < lim := by rw [BT.cnt_node]; omega
  have hnx : x.cnt < lim := by omega
  have hny : y.cnt < lim := by omega
  have hnO : O.cnt < lim := by omega
  unfold lim at hn
  rw [BT.cnt_node] at hA
  obtain ⟨q, hq, hd⟩ : ∃ q : Int, IntKind.i64.wrap (3 * ((O.cnt : Int) + 1)) = q ∧ decide (((BT.cnt (.node y k2 v2 x) : Nat) : Int) + 1 ≤ q) = false := ⟨_, IntWalk.i64_in _ (by omega), by rw [BT.cnt_node]; simp; omega⟩
  obtain ⟨q2, hq2, hd2⟩ : ∃ q : Int, IntKind.i64.wrap (2 * ((x.cnt : Int) + 1)) = q ∧ decide (q ≤ (y.cnt : Int) + 1) = false := ⟨_, IntWalk.i64_in _ (by omega), by simp; omega⟩
  have HT := Lib.hid hr
  have HO := Lib.hid hl
  have HT2 := HT.out
  obtain ⟨g2, ql, qr, rfl, hlt2, j0, j1, j2, j3, j4, hl2, hr2⟩ := HT2
  have HX := Lib.hid hr2
  have HY := Lib.hid hl2
  have HNT := Lib.hid hnT
  have HNO := Lib.hid hnO
  have HNX := Lib.hid hnx
  have HNY := Lib.hid hny
  clear hl hr hl2 hr2 hnT hnO hnx hny hs hA hI
  have hw1 : IntKind.i64.wrap 1 = 1 := by decide
  have hw0 : IntKind.i64.wrap 0 = 0 := by decide
  go_enter Try.func46, Try.ntmps46
  go_wp2_with fail
  refine (heavier_right HH.out HN.out HS.out).mono ?_
  rintro e w1 ⟨rfl, b1⟩
  have B1 := Lib.hid b1
  obtain ⟨hc, hf⟩ := bcell b1
  have hlt' : g < w1.heap.size := Nat.lt_of_lt_of_le hlt b1.size
  clear b1
  go_wp2_with fail
  have hlt2' : g2 < w1.heap.size := Nat.lt_of_lt_of_le hlt2 B1.out.size
  have HTB := Lib.hid (HT.out.below B1.out)
  have HOB := Lib.hid (HO.out.below B1.out)
  refine wp_region_below (by kernel_rfl) (by kernel_rfl) ?_
  repeat (first
    | go_big_quiet_skip
    | (go_big_quiet_want
       first
       | (refine BigFrame.quiet_move _ rfl ?_)
       | (refine BigFrame.quiet_assign _ rfl ?_)
       | (unfold Oper.quiet
          apply Exists.intro
          refine ⟨fun w' hw' => ?_, ?_⟩
          · (obtain ⟨hc', hf'⟩ := bcell hw'
             go_simp
             first
             | done
             | exact rfl
             | (go_at_call 55; (with_reducible refine (weight_any (HTB.out.below hw') HNT.out).mono ?_); rintro e w'' ⟨rfl, bb⟩; exact ⟨rfl, by first | exact bt hw' bb | simpa using bt hw' bb⟩)
             | (go_at_call 55; (with_reducible refine (weight_any (HOB.out.below hw') HNO.out).mono ?_); rintro e w'' ⟨rfl, bb⟩; exact ⟨rfl, by first | exact bt hw' bb | simpa using bt hw' bb⟩)))
       go_big_quiet_on
       simp only [Act.put, Act.eval, List.setIfInBounds_toArray, List.set_cons_zero, List.set_cons_succ, Array.getD_eq_getD_getElem?, List.getElem?_toArray, List.getElem?_cons_zero, List.getElem?_cons_succ, Option.getD_some]))
  refine wpQuiet_nil ?_
  intro w' hw'
  have HW2 := Lib.hid (bt B1.out hw')
  obtain ⟨hc2, hf2⟩ := bcell HW2.out
  have hlt3 : g < w'.heap.size := Nat.lt_of_lt_of_le hlt HW2.out.size
  have hlt4 : g2 < w'.heap.size := Nat.lt_of_lt_of_le hlt2 HW2.out.size
  clear hc hf hw' hlt' hlt2'
  obtain ⟨w2, rfl⟩ : ∃ x, x = w' := ⟨_, rfl⟩
  go_wp2_with fail
  have HXB := Lib.hid (HX.out.below HW2.out)
  have HYB := Lib.hid (HY.out.below HW2.out)
  refine wp_region_below (by kernel_rfl) (by kernel_rfl) ?_
  repeat (first
    | go_big_quiet_skip
    | (go_big_quiet_want
       first
       | (refine BigFrame.quiet_move _ rfl ?_)
       | (refine BigFrame.quiet_assign _ rfl ?_)
       | (unfold Oper.quiet
          apply Exists.intro
          refine ⟨fun w' hw' => ?_, ?_⟩
          · (obtain ⟨hc', hf'⟩ := bcell hw'
             go_simp
             first
             | done
             | exact rfl
             | (go_at_call 55; (with_reducible refine (weight_any (HXB.out.below hw') HNX.out).mono ?_); rintro e w'' ⟨rfl, bb⟩; exact ⟨rfl, by first | exact bt hw' bb | simpa using bt hw' bb⟩)
             | (go_at_call 55; (with_reducible refine (weight_any (HYB.out.below hw') HNY.out).mono ?_); rintro e w'' ⟨rfl, bb⟩; exact ⟨rfl, by first | exact bt hw' bb | simpa using bt hw' bb⟩)))
       go_big_quiet_on
       simp only [Act.put, Act.eval, List.setIfInBounds_toArray, List.set_cons_zero, List.set_cons_succ, Array.getD_eq_getD_getElem?, List.getElem?_toArray, List.getElem?_cons_zero, List.getElem?_cons_succ, Option.getD_some]))
  refine wpQuiet_nil ?_
  intro w' hw'
  have HW3 := Lib.hid (bt HW2.out hw')
  clear hw'
  go_wp2_with fail
  refine (turned_right (HH.out.below HW3.out) HN.out).mono ?_
  rintro e w4 ⟨q5, t5, rfl, b5, i5, rfl⟩
  have HB5 := Lib.hid (bt HW3.out b5)
  have HI5 := Lib.hid i5
  clear b5 i5
  go_wp2_with fail
  go_ret
  exact ⟨_, _, rfl, HB5.out, HI5.out, rfl⟩

set_option maxRecDepth 100000 in
set_option maxHeartbeats 2000000 in
theorem balanced_right_two {w : World} {p : Option Addr} {x y a b O : BT Int} {k k2 k3 : Ky} {v v2 v3 : Int} (hy : y = (.node a k3 v3 b)) (h : IsT w p (BT.node O k v (.node y k2 v2 x))) (hn : (BT.node O k v (.node y k2 v2 x)).cnt < lim) (hs : O.cnt ≤ (BT.cnt (.node y k2 v2 x))) (hA : 3 * (O.cnt + 1) < (BT.cnt (.node y k2 v2 x)) + 1) (hI : 2 * (x.cnt + 1) ≤ y.cnt + 1) :
    Calls Try.prog 46 #[.pointer p] w (TreeR w fun t' => t' = (.node (.node O k v a) k3 v3 (.node b k2 v2 x))) := by
  have hnt : (BT.node O k v (.node a k3 v3 (.node b k2 v2 x))).cnt < lim := by subst hy; simp only [BT.cnt_node] at hn ⊢; omega
  have HNT2 := Lib.hid hnt
  have HYE := Lib.hid hy
  clear hnt hy
  have HH := Lib.hid h
  have HN := Lib.hid hn
  have HS := Lib.hid hs
  obtain ⟨g, pl, pr, rfl, hlt, h0, h1, h2, h3, h4, hl, hr⟩ := h
  rw [BT.cnt_node, BT.cnt_node] at hn
  have hnT : (BT.cnt (.node y k2 v2 x)) < lim := by rw [BT.cnt_node]; omega
  have hnx : x.cnt < lim := by omega
  have hny : y.cnt < lim := by omega
  have hnO : O.cnt < lim := by omega
  unfold lim at hn
  rw [BT.cnt_node] at hA
  obtain ⟨q, hq, hd⟩ : ∃ q : Int, IntKind.i64.wrap (3 * ((O.cnt : Int) + 1)) = q ∧ decide (((BT.cnt (.node y k2 v2 x) : Nat) : Int) + 1 ≤ q) = false := ⟨_, IntWalk.i64_in _ (by omega), by rw [BT.cnt_node]; simp; omega⟩
  obtain ⟨q2, hq2, hd2⟩ : ∃ q : Int, IntKind.i64.wrap (2 * ((x.cnt : Int) + 1)) = q ∧ decide (q ≤ (y.cnt : Int) + 1) = true := ⟨_, IntWalk.i64_in _ (by omega), by simp; omega⟩
  have HT := Lib.hid hr
  have HO := Lib.hid hl
  have HT2 := HT.out
  obtain ⟨g2, ql, qr, rfl, hlt2, j0, j1, j2, j3, j4, hl2, hr2⟩ := HT2
  have HX := Lib.hid hr2
  have HY := Lib.hid hl2
  have HNT := Lib.hid hnT
  have HNO := Lib.hid hnO
  have HNX := Lib.hid hnx
  have HNY := Lib.hid hny
  clear hl hr hl2 hr2 hnT hnO hnx hny hs hA hI
  have hw1 : IntKind.i64.wrap 1 = 1 := by decide
  have hw0 : IntKind.i64.wrap 0 = 0 := by decide
  go_enter Try.func46, Try.ntmps46
  go_wp2_with fail
  refine (heavier_right HH.out HN.out HS.out).mono ?_
  rintro e w1 ⟨rfl, b1⟩
  have B1 := Lib.hid b1
  obtain ⟨hc, hf⟩ := bcell b1
  have hlt' : g < w1.heap.size := Nat.lt_of_lt_of_le hlt b1.size
  clear b1
  go_wp2_with fail
  have hlt2' : g2 < w1.heap.size := Nat.lt_of_lt_of_le hlt2 B1.out.size
  have HTB := Lib.hid (HT.out.below B1.out)
  have HOB := Lib.hid (HO.out.below B1.out)
  refine wp_region_below (by kernel_rfl) (by kernel_rfl) ?_
  repeat (first
    | go_big_quiet_skip
    | (go_big_quiet_want
       first
       | (refine BigFrame.quiet_move _ rfl ?_)
       | (refine BigFrame.quiet_assign _ rfl ?_)
       | (unfold Oper.quiet
          apply Exists.intro
          refine ⟨fun w' hw' => ?_, ?_⟩
          · (obtain ⟨hc', hf'⟩ := bcell hw'
             go_simp
             first
             | done
             | exact rfl
             | (go_at_call 55; (with_reducible refine (weight_any (HTB.out.below hw') HNT.out).mono ?_); rintro e w'' ⟨rfl, bb⟩; exact ⟨rfl, by first | exact bt hw' bb | simpa using bt hw' bb⟩)
             | (go_at_call 55; (with_reducible refine (weight_any (HOB.out.below hw') HNO.out).mono ?_); rintro e w'' ⟨rfl, bb⟩; exact ⟨rfl, by first | exact bt hw' bb | simpa using bt hw' bb⟩)))
       go_big_quiet_on
       simp only [Act.put, Act.eval, List.setIfInBounds_toArray, List.set_cons_zero, List.set_cons_succ, Array.getD_eq_getD_getElem?, List.getElem?_toArray, List.getElem?_cons_zero, List.getElem?_cons_succ, Option.getD_some]))
  refine wpQuiet_nil ?_
  intro w' hw'
  have HW2 := Lib.hid (bt B1.out hw')
  obtain ⟨hc2, hf2⟩ := bcell HW2.out
  have hlt3 : g < w'.heap.size := Nat.lt_of_lt_of_le hlt HW2.out.size
  have hlt4 : g2 < w'.heap.size := Nat.lt_of_lt_of_le hlt2 HW2.out.size
  clear hc hf hw' hlt' hlt2'
  obtain ⟨w2, rfl⟩ : ∃ x, x = w' := ⟨_, rfl⟩
  go_wp2_with fail
  have HXB := Lib.hid (HX.out.below HW2.out)
  have HYB := Lib.hid (HY.out.below HW2.out)
  refine wp_region_below (by kernel_rfl) (by kernel_rfl) ?_
  repeat (first
    | go_big_quiet_skip
    | (go_big_quiet_want
       first
       | (refine BigFrame.quiet_move _ rfl ?_)
       | (refine BigFrame.quiet_assign _ rfl ?_)
       | (unfold Oper.quiet
          apply Exists.intro
          refine ⟨fun w' hw' => ?_, ?_⟩
          · (obtain ⟨hc', hf'⟩ := bcell hw'
             go_simp
             first
             | done
             | exact rfl
             | (go_at_call 55; (with_reducible refine (weight_any (HXB.out.below hw') HNX.out).mono ?_); rintro e w'' ⟨rfl, bb⟩; exact ⟨rfl, by first | exact bt hw' bb | simpa using bt hw' bb⟩)
             | (go_at_call 55; (with_reducible refine (weight_any (HYB.out.below hw') HNY.out).mono ?_); rintro e w'' ⟨rfl, bb⟩; exact ⟨rfl, by first | exact bt hw' bb | simpa using bt hw' bb⟩)))
       go_big_quiet_on
       simp only [Act.put, Act.eval, List.setIfInBounds_toArray, List.set_cons_zero, List.set_cons_succ, Array.getD_eq_getD_getElem?, List.getElem?_toArray, List.getElem?_cons_zero, List.getElem?_cons_succ, Option.getD_some]))
  refine wpQuiet_nil ?_
  intro w' hw'
  have HW3 := Lib.hid (bt HW2.out hw')
  clear hw'
  go_wp2_with fail
  refine (turned_left (a := a) (b := b) (c := x) (k := k3) (k2 := k2) (v := v3) (v2 := v2) (by have h := HT.out.below HW3.out; rw [HYE.out] at h; exact h) (by have h := HNT.out; rw [HYE.out] at h; exact h)).mono ?_
  rintro e w4 ⟨q5, t5, rfl, b5, i5, rfl⟩
  have HB5 := Lib.hid (bt HW3.out b5)
  have HI5 := Lib.hid i5
  clear b5 i5
  go_wp2_with fail
  refine (with_right (HH.out.below HB5.out) HI5.out HNT2.out).mono ?_
  rintro e w6 ⟨rfl, b6, i6⟩
  have HB6 := Lib.hid (bt HB5.out b6)
  have HI6 := Lib.hid i6
  clear b6 i6
  go_wp2_with fail
  refine (turned_right HI6.out HNT2.out).mono ?_
  rintro e w7 ⟨q7, t7, rfl, b7, i7, rfl⟩
  have HB7 := Lib.hid (bt HB6.out b7)
  have HI7 := Lib.hid i7
  clear b7 i7
  go_wp2_with fail
  go_ret
  exact ⟨_, _, rfl, HB7.out, HI7.out, rfl⟩

/-- Whatever the sides weigh: keys and values stand as they stood. -/
theorem balanced_any {w : World} {p : Option Addr} {l r : BT Int} {k : Ky} {v : Int} (h : IsT w p (.node l k v r)) (hn : (BT.node l k v r).cnt < lim) :
    Calls Try.prog 46 #[.pointer p] w (TreeR w fun t' => t'.all = (BT.node l k v r).all) := by
  have go : ∀ {T : BT Int}, T.all = (BT.node l k v r).all → Calls Try.prog 46 #[.pointer p] w (TreeR w fun t' => t' = T) → Calls Try.prog 46 #[.pointer p] w (TreeR w fun t' => t'.all = (BT.node l k v r).all) :=
    fun e hc => hc.mono fun _ _ ⟨q, t, h1, h2, h3, h4⟩ => ⟨q, t, h1, h2, h3, by subst h4; exact e⟩
  by_cases hs : r.cnt < l.cnt
  · by_cases hA : l.cnt + 1 ≤ 3 * (r.cnt + 1)
    · exact go rfl (balanced_left_as h hn hs hA)
    · obtain ⟨x, k2, v2, y, rfl⟩ := BT.of_cnt (t := l) (by omega)
      by_cases hI : 2 * (x.cnt + 1) ≤ y.cnt + 1
      · obtain ⟨a, k3, v3, b, e⟩ := BT.of_cnt (t := y) (by omega)
        exact go (by subst e; simp [BT.all]) (balanced_left_two e h hn hs (by omega) hI)
      · exact go (by simp [BT.all]) (balanced_left_one h hn hs (by omega) (by omega))
  · have hs : l.cnt ≤ r.cnt := by omega
    by_cases hA : r.cnt + 1 ≤ 3 * (l.cnt + 1)
    · exact go rfl (balanced_right_as h hn hs hA)
    · obtain ⟨y, k2, v2, x, rfl⟩ := BT.of_cnt (t := r) (by omega)
      have hc := BT.cnt_node y k2 v2 x
      by_cases hI : 2 * (x.cnt + 1) ≤ y.cnt + 1
      · obtain ⟨a, k3, v3, b, e⟩ := BT.of_cnt (t := y) (by omega)
        exact go (by subst e; simp [BT.all]) (balanced_right_two e h hn hs (by omega) hI)
      · exact go (by simp [BT.all]) (balanced_right_one h hn hs (by omega) (by omega))
end Go.Proofs.Yteolhbcmffbdlaa.TI
