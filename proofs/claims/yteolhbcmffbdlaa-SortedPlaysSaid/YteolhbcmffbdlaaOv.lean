/-
  Layer 7 (sorted): a tree of values (int): the contracts of heavier, turned, balanced: keys and values stand as they stood. Conditions: fewer keys than 2^40.
-/
import Derived.Test.YteolhbcmffbdlaaOt
namespace Go.Proofs.Yteolhbcmffbdlaa.TI
open Go.RowKit
set_option linter.unusedVariables false
set_option linter.unusedSimpArgs false

/-- A tree is handed back: what there was lies as it lay. -/
def TreeR (w : World) (T : BT Int → Prop) (e : Ending) (w' : World) : Prop := ∃ q t, e = .returned (.pointer q) ∧ Below w.heap.size w w' ∧ IsT w' q t ∧ T t

set_option maxHeartbeats 1000000 in
theorem heavier_left {w : World} {p : Option Addr} {l r : BT Int} {k : Ky} {v : Int} (h : IsT w p (.node l k v r)) (hn : (BT.node l k v r).cnt < lim) (hs : r.cnt < l.cnt) :
    Calls Try.prog 54 #[.pointer p] w fun e w' => e = .returned (.int .i64 0) ∧ Below w.heap.size w w' := by
  obtain ⟨b, pl, pr, rfl, hlt, h0, h1, h2, h3, h4, hl, hr⟩ := h
  rw [BT.cnt_node] at hn
  have hnl : l.cnt < lim := by omega
  have hnr : r.cnt < lim := by omega
  unfold lim at hn
  have hd : decide ((r.cnt : Int) + 1 < (l.cnt : Int) + 1) = true := by simp; omega
  have HL := Lib.hid hl
  have HR := Lib.hid hr
  have HNL := Lib.hid hnl
  have HNR := Lib.hid hnr
  clear hl hr hnl hnr
  go_enter Try.func54, Try.ntmps54
  go_wp2
  refine wp_region_below (by kernel_rfl) (by kernel_rfl) ?_
  repeat (first
    | go_big_quiet_skip
    | (go_big_quiet_want
       first
       | (refine BigFrame.quiet_move _ rfl ?_)
       | (refine BigFrame.quiet_assign _ rfl ?_)
       | (unfold Oper.quiet
          apply Exists.intro
          refine ⟨fun w' hw' => ?_, ?_⟩
          · (obtain ⟨hc', hf'⟩ := bcell hw'
             go_simp
             first
             | done
             | exact rfl
             | (go_at_call 55; (with_reducible refine (weight_any (HL.out.below hw') HNL.out).mono ?_); rintro e w'' ⟨rfl, bb⟩; exact ⟨rfl, by first | exact bt hw' bb | simpa using bt hw' bb⟩)
             | (go_at_call 55; (with_reducible refine (weight_any (HR.out.below hw') HNR.out).mono ?_); rintro e w'' ⟨rfl, bb⟩; exact ⟨rfl, by first | exact bt hw' bb | simpa using bt hw' bb⟩)))
       go_big_quiet_on
       simp only [Act.put, Act.eval, List.setIfInBounds_toArray, List.set_cons_zero, List.set_cons_succ, Array.getD_eq_getD_getElem?, List.getElem?_toArray, List.getElem?_cons_zero, List.getElem?_cons_succ, Option.getD_some]))
  refine wpQuiet_nil ?_
  intro w' hw'
  have HW := Lib.hid hw'
  clear hw'
  go_wp2
  go_ret
  exact ⟨rfl, HW.out⟩

set_option maxHeartbeats 1000000 in
theorem heavier_right {w : World} {p : Option Addr} {l r : BT Int} {k : Ky} {v : Int} (h : IsT w p (.node l k v r)) (hn : (BT.node l k v r).cnt < lim) (hs : l.cnt ≤ r.cnt) :
    Calls Try.prog 54 #[.pointer p] w fun e w' => e = .returned (.int .i64 1) ∧ Below w.heap.size w w' := by
  obtain ⟨b, pl, pr, rfl, hlt, h0, h1, h2, h3, h4, hl, hr⟩ := h
  rw [BT.cnt_node] at hn
  have hnl : l.cnt < lim := by omega
  have hnr : r.cnt < lim := by omega
  unfold lim at hn
  have hd : decide ((r.cnt : Int) + 1 < (l.cnt : Int) + 1) = false := by simp; omega
  have HL := Lib.hid hl
  have HR := Lib.hid hr
  have HNL := Lib.hid hnl
  have HNR := Lib.hid hnr
  clear hl hr hnl hnr
  go_enter Try.func54, Try.ntmps54
  go_wp2
  refine wp_region_below (by kernel_rfl) (by kernel_rfl) ?_
  repeat (first
    | go_big_quiet_skip
    | (go_big_quiet_want
       first
       | (refine BigFrame.quiet_move _ rfl ?_)
       | (refine BigFrame.quiet_assign _ rfl ?_)
       | (unfold Oper.quiet
          apply Exists.intro
          refine ⟨fun w' hw' => ?_, ?_⟩
          · (obtain ⟨hc', hf'⟩ := bcell hw'
             go_simp
             first
             | done
             | exact rfl
             | (go_at_call 55; (with_reducible refine (weight_any (HL.out.below hw') HNL.out).mono ?_); rintro e w'' ⟨rfl, bb⟩; exact ⟨rfl, by first | exact bt hw' bb | simpa using bt hw' bb⟩)
             | (go_at_call 55; (with_reducible refine (weight_any (HR.out.below hw') HNR.out).mono ?_); rintro e w'' ⟨rfl, bb⟩; exact ⟨rfl, by first | exact bt hw' bb | simpa using bt hw' bb⟩)))
       go_big_quiet_on
       simp only [Act.put, Act.eval, List.setIfInBounds_toArray, List.set_cons_zero, List.set_cons_succ, Array.getD_eq_getD_getElem?, List.getElem?_toArray, List.getElem?_cons_zero, List.getElem?_cons_succ, Option.getD_some]))
  refine wpQuiet_nil ?_
  intro w' hw'
  have HW := Lib.hid hw'
  clear hw'
  go_wp2
  go_ret
  exact ⟨rfl, HW.out⟩

set_option maxHeartbeats 1000000 in
theorem turned_left {w : World} {p : Option Addr} {a b c : BT Int} {k k2 : Ky} {v v2 : Int} (h : IsT w p (.node (.node a k v b) k2 v2 c)) (hn : (BT.cnt (.node (.node a k v b) k2 v2 c)) < lim) :
    Calls Try.prog 56 #[.pointer p, .int .i64 0] w (TreeR w fun t => t = (.node a k v (.node b k2 v2 c))) := by
  have HH := Lib.hid h
  have hn1 : (BT.node b k2 v2 c).cnt < lim := by simp only [BT.cnt_node] at hn ⊢; omega
  have hn2 : (BT.cnt (.node a k v (.node b k2 v2 c))) < lim := by simp only [BT.cnt_node] at hn ⊢; omega
  have HN1 := Lib.hid hn1
  have HN2 := Lib.hid hn2
  obtain ⟨g, pl, pr, rfl, hlt, h0, h1, h2, h3, h4, hl, hr⟩ := h
  have HT := Lib.hid hl
  obtain ⟨g2, ql, qr, rfl, hlt2, j0, j1, j2, j3, j4, hl2, hr2⟩ := hl
  have HU := Lib.hid hr2
  clear hn hn1 hn2 hr hl2 hr2
  go_enter Try.func56, Try.ntmps56
  go_wp2_with fail
  refine (with_left HH.out HU.out HN1.out).mono ?_
  rintro e w1 ⟨rfl, b1, t1⟩
  have B1 := Lib.hid b1
  have T1 := Lib.hid t1
  have HT1 := Lib.hid (HT.out.below b1)
  clear b1 t1
  go_wp2_with fail
  refine (with_right HT1.out T1.out HN2.out).mono ?_
  rintro e w2 ⟨rfl, b2, t2⟩
  have B2 := Lib.hid (bt B1.out b2)
  have T2 := Lib.hid t2
  clear b2 t2
  go_wp2
  go_ret
  exact ⟨_, _, rfl, B2.out, T2.out, rfl⟩

set_option maxHeartbeats 1000000 in
theorem turned_right {w : World} {p : Option Addr} {a b c : BT Int} {k k2 : Ky} {v v2 : Int} (h : IsT w p (.node a k v (.node b k2 v2 c))) (hn : (BT.cnt (.node a k v (.node b k2 v2 c))) < lim) :
    Calls Try.prog 56 #[.pointer p, .int .i64 1] w (TreeR w fun t => t = (.node (.node a k v b) k2 v2 c)) := by
  have HH := Lib.hid h
  have hn1 : (BT.node a k v b).cnt < lim := by simp only [BT.cnt_node] at hn ⊢; omega
  have hn2 : (BT.cnt (.node (.node a k v b) k2 v2 c)) < lim := by simp only [BT.cnt_node] at hn ⊢; omega
  have HN1 := Lib.hid hn1
  have HN2 := Lib.hid hn2
  obtain ⟨g, pl, pr, rfl, hlt, h0, h1, h2, h3, h4, hl, hr⟩ := h
  have HT := Lib.hid hr
  obtain ⟨g2, ql, qr, rfl, hlt2, j0, j1, j2, j3, j4, hl2, hr2⟩ := hr
  have HU := Lib.hid hl2
  clear hn hn1 hn2 hl hl2 hr2
  go_enter Try.func56, Try.ntmps56
  go_wp2_with fail
  refine (with_right HH.out HU.out HN1.out).mono ?_
  rintro e w1 ⟨rfl, b1, t1⟩
  have B1 := Lib.hid b1
  have T1 := Lib.hid t1
  have HT1 := Lib.hid (HT.out.below b1)
  clear b1 t1
  go_wp2_with fail
  refine (with_left HT1.out T1.out HN2.out).mono ?_
  rintro e w2 ⟨rfl, b2, t2⟩
  have B2 := Lib.hid (bt B1.out b2)
  have T2 := Lib.hid t2
  clear b2 t2
  go_wp2
  go_ret
  exact ⟨_, _, rfl, B2.out, T2.out, rfl⟩
end Go.Proofs.Yteolhbcmffbdlaa.TI
