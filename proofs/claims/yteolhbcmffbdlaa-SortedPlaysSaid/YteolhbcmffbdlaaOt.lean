/-
  Layer 7 (sorted): a tree of values (int) in memory; the contracts of count, weight, side, with, heavier, turned. Conditions: fewer keys than 2^40.
-/
import Derived.Test.YteolhbcmffbdlaaTr
import Derived.Test.YteolhbcmffbdlaaClone
import Derived.Test.YteolhbcmffbdlaaQt
import Derived.Lib.Hide
import Derived.IntWalk
namespace Go.Proofs.Yteolhbcmffbdlaa.TI
open Go.RowKit
set_option linter.unusedVariables false
set_option linter.unusedSimpArgs false

/-- The tree t lies at p: a node: five cells: key, value, the side ahead, the side behind, how many keys. -/
def IsT (w : World) : Option Addr → BT Int → Prop
  | p, .nil => p = none
  | p, .node l k v r => ∃ (b : Nat) (pl pr : Option Addr), p = some ⟨b, 0, none⟩ ∧ b < w.heap.size ∧ w.cell? ⟨b, 0, none⟩ = some (.string ⟨k.toArray⟩) ∧ w.cell? ⟨b, 1, none⟩ = some (.int .i64 v) ∧ w.cell? ⟨b, 2, none⟩ = some (.pointer pl) ∧ w.cell? ⟨b, 3, none⟩ = some (.pointer pr) ∧ w.cell? ⟨b, 4, none⟩ = some (.int .i64 ((BT.node l k v r).cnt : Nat)) ∧ IsT w pl l ∧ IsT w pr r
theorem IsT.below {w w' : World} (hb : Below w.heap.size w w') : ∀ {t : BT Int} {p : Option Addr}, IsT w p t → IsT w' p t
  | .nil, _, h => h
  | .node _ _ _ _, _, ⟨b, pl, pr, hp, hlt, h0, h1, h2, h3, h4, hl, hr⟩ =>
    ⟨b, pl, pr, hp, Nat.lt_of_lt_of_le hlt hb.size, (hb.cell (p := ⟨b, 0, none⟩) hlt).trans h0, (hb.cell (p := ⟨b, 1, none⟩) hlt).trans h1, (hb.cell (p := ⟨b, 2, none⟩) hlt).trans h2, (hb.cell (p := ⟨b, 3, none⟩) hlt).trans h3, (hb.cell (p := ⟨b, 4, none⟩) hlt).trans h4, IsT.below hb hl, IsT.below hb hr⟩
/-- A tree lies in blocks of its own: a block that is none of them may be written. -/
theorem IsT.same {w w' : World} (hs : w.heap.size ≤ w'.heap.size) {m : Nat} (hb : ∀ b, b < w.heap.size → b ≠ m → w'.heap[b]? = w.heap[b]?) (hm : w.cell? ⟨m, 4, none⟩ = none) : ∀ {t : BT Int} {p : Option Addr}, IsT w p t → IsT w' p t
  | .nil, _, h => h
  | .node _ _ _ _, _, ⟨b, pl, pr, hp, hlt, h0, h1, h2, h3, h4, hl, hr⟩ =>
    have hne : b ≠ m := fun e => by subst e; rw [hm] at h4; cases h4
    have hc : ∀ i, w'.cell? ⟨b, i, none⟩ = w.cell? ⟨b, i, none⟩ := fun i => World.cell?_of_block (w := w) (hb b hlt hne)
    ⟨b, pl, pr, hp, Nat.lt_of_lt_of_le hlt hs, (hc 0).trans h0, (hc 1).trans h1, (hc 2).trans h2, (hc 3).trans h3, (hc 4).trans h4, IsT.same hs hb hm hl, IsT.same hs hb hm hr⟩
def lim : Nat := 1099511627776

theorem count_any {w : World} {p : Option Addr} {t : BT Int} (h : IsT w p t) :
    Calls Try.prog 35 #[.pointer p] w fun e w' => e = .returned (.int .i64 (t.cnt : Nat)) ∧ Below w.heap.size w w' := by
  cases t with
  | nil =>
    obtain rfl : p = none := h
    go_enter Try.func35, Try.ntmps35
    go_wp2
    go_ret
    exact ⟨rfl, Below.refl _ _⟩
  | node l k v r =>
    obtain ⟨b, pl, pr, rfl, hlt, h0, h1, h2, h3, h4, hl, hr⟩ := h
    go_enter Try.func35, Try.ntmps35
    go_wp2
    go_ret
    exact ⟨rfl, Below.refl _ _⟩
theorem weight_any {w : World} {p : Option Addr} {t : BT Int} (h : IsT w p t) (hn : t.cnt < lim) :
    Calls Try.prog 55 #[.pointer p] w fun e w' => e = .returned (.int .i64 ((t.cnt : Int) + 1)) ∧ Below w.heap.size w w' := by
  unfold lim at hn
  go_enter Try.func55, Try.ntmps55
  go_wp2_with (go_at_call 35; refine (count_any h).mono ?_; rintro e w' ⟨rfl, bb⟩)
  go_ret
  exact ⟨rfl, bb⟩
theorem side_less {w : World} {b : Nat} {k s : Ky} (h : w.cell? ⟨b, 0, none⟩ = some (.string ⟨k.toArray⟩)) (hs : Op.bytesLess s k = true) :
    Calls Try.prog 44 #[.pointer (some ⟨b, 0, none⟩), .string ⟨s.toArray⟩] w fun e w' => e = .returned (.int .i64 0) ∧ Below w.heap.size w w' := by
  go_enter Try.func44, Try.ntmps44
  go_wp2
  go_ret
  exact ⟨rfl, Below.refl _ _⟩
theorem side_more {w : World} {b : Nat} {k s : Ky} (h : w.cell? ⟨b, 0, none⟩ = some (.string ⟨k.toArray⟩)) (hs : Op.bytesLess s k = false) :
    Calls Try.prog 44 #[.pointer (some ⟨b, 0, none⟩), .string ⟨s.toArray⟩] w fun e w' => e = .returned (.int .i64 1) ∧ Below w.heap.size w w' := by
  go_enter Try.func44, Try.ntmps44
  go_wp2
  go_ret
  exact ⟨rfl, Below.refl _ _⟩
set_option maxHeartbeats 1000000 in
theorem with_left {w : World} {p q : Option Addr} {l r u : BT Int} {k : Ky} {v : Int} (h : IsT w p (.node l k v r)) (hu : IsT w q u) (hn : (BT.node u k v r).cnt < lim) :
    Calls Try.prog 45 #[.pointer p, .int .i64 0, .pointer q] w fun e w' => e = .returned (.pointer (some ⟨w.heap.size, 0, none⟩)) ∧ Below w.heap.size w w' ∧ IsT w' (some ⟨w.heap.size, 0, none⟩) (.node u k v r) := by
  obtain ⟨b, pl, pr, rfl, hlt, h0, h1, h2, h3, h4, hl, hr⟩ := h
  have b0 := (Below.refl w.heap.size w).alloc (Nat.le_refl _) (.cells #[.string ⟨k.toArray⟩, .int .i64 v, .pointer q, .pointer pr, .int .i64 ((BT.node l k v r).cnt : Nat)] 70)
  have HA0 := Lib.hid hu
  have HB0 := Lib.hid hr
  have HA := Lib.hid (hu.below b0)
  have HB := Lib.hid (hr.below b0)
  have B0 := Lib.hid b0
  rw [BT.cnt_node] at hn
  unfold lim at hn
  clear hu hr hl b0
  go_enter Try.func45, Try.ntmps45
  go_wp2
  have c0 : (w.alloc (.cells #[.string ⟨k.toArray⟩, .int .i64 v, .pointer q, .pointer pr, .int .i64 ((BT.node l k v r).cnt : Nat)] 70)).cell? ⟨w.heap.size, 0, none⟩ = some (.string ⟨k.toArray⟩) := by simp
  have c1 : (w.alloc (.cells #[.string ⟨k.toArray⟩, .int .i64 v, .pointer q, .pointer pr, .int .i64 ((BT.node l k v r).cnt : Nat)] 70)).cell? ⟨w.heap.size, 1, none⟩ = some (.int .i64 v) := by simp
  have c2 : (w.alloc (.cells #[.string ⟨k.toArray⟩, .int .i64 v, .pointer q, .pointer pr, .int .i64 ((BT.node l k v r).cnt : Nat)] 70)).cell? ⟨w.heap.size, 2, none⟩ = some (.pointer q) := by simp
  have c3 : (w.alloc (.cells #[.string ⟨k.toArray⟩, .int .i64 v, .pointer q, .pointer pr, .int .i64 ((BT.node l k v r).cnt : Nat)] 70)).cell? ⟨w.heap.size, 3, none⟩ = some (.pointer pr) := by simp
  have c4 : (w.alloc (.cells #[.string ⟨k.toArray⟩, .int .i64 v, .pointer q, .pointer pr, .int .i64 ((BT.node l k v r).cnt : Nat)] 70)).cell? ⟨w.heap.size, 4, none⟩ = some (.int .i64 ((BT.node l k v r).cnt : Nat)) := by simp
  have f4 : (w.alloc (.cells #[.string ⟨k.toArray⟩, .int .i64 v, .pointer q, .pointer pr, .int .i64 ((BT.node l k v r).cnt : Nat)] 70)).frozen? ⟨w.heap.size, 4, none⟩ = false := by simp [go_sem]
  have hz : w.heap.size < (w.alloc (.cells #[.string ⟨k.toArray⟩, .int .i64 v, .pointer q, .pointer pr, .int .i64 ((BT.node l k v r).cnt : Nat)] 70)).heap.size := by simp
  generalize w.alloc (.cells #[.string ⟨k.toArray⟩, .int .i64 v, .pointer q, .pointer pr, .int .i64 ((BT.node l k v r).cnt : Nat)] 70) = W at *
  clear h0 h1 h2 h3 h4
  refine below_tail 10 (by kernel_rfl) (by kernel_rfl) ?_
  simp only [List.take_succ_cons, List.take_zero, List.drop_succ_cons, List.drop_zero]
  repeat (first
    | go_big_quiet_skip
    | (go_big_quiet_want
       first
       | (refine BigFrame.quiet_move _ rfl ?_)
       | (refine BigFrame.quiet_assign _ rfl ?_)
       | (unfold Oper.quiet
          apply Exists.intro
          refine ⟨fun w' hw' => ?_, ?_⟩
          · (obtain ⟨hc', hf'⟩ := bcell hw'
             go_simp
             first
             | done
             | exact rfl
             | (go_at_call 35; (with_reducible refine (count_any (HA.out.below hw')).mono ?_); rintro e w'' ⟨rfl, bb⟩; exact ⟨rfl, by first | exact bt hw' bb | simpa using bt hw' bb⟩)
             | (go_at_call 35; (with_reducible refine (count_any (HB.out.below hw')).mono ?_); rintro e w'' ⟨rfl, bb⟩; exact ⟨rfl, by first | exact bt hw' bb | simpa using bt hw' bb⟩)))
       go_big_quiet_on
       simp only [Act.put, Act.eval, List.setIfInBounds_toArray, List.set_cons_zero, List.set_cons_succ, Array.getD_eq_getD_getElem?, List.getElem?_toArray, List.getElem?_cons_zero, List.getElem?_cons_succ, Option.getD_some]))
  refine wpQuiet_nil ?_
  intro w' hw'
  have e1 : IntKind.i64.wrap ((u.cnt : Int) + 1) = (u.cnt : Int) + 1 := IntWalk.i64_in _ (by omega)
  have e2 : IntKind.i64.wrap ((u.cnt : Int) + 1 + (r.cnt : Int)) = ((u.cnt + 1 + r.cnt : Nat) : Int) := by rw [IntWalk.i64_in _ (by omega)]; omega
  rw [e1, e2]
  clear e1 e2
  have hlt' : w.heap.size < w'.heap.size := Nat.lt_of_lt_of_le hz hw'.size
  have HW := Lib.hid hw'
  have HZ := Lib.hid hz
  obtain ⟨hc, hf⟩ := bcell hw'
  clear hw'
  go_wp2
  go_ret
  have hB : Below w.heap.size w (w'.setCell ⟨w.heap.size, 4, none⟩ (.int .i64 ((u.cnt : Int) + 1 + (r.cnt : Int)))) := (B0.out.trans (HW.out.mono (Nat.le_of_lt HZ.out))).setCell (Nat.le_refl _) _
  refine ⟨rfl, hB, w.heap.size, q, pr, rfl, by simpa [World.setCell] using hlt', ?_, ?_, ?_, ?_, ?_, HA0.out.below hB, HB0.out.below hB⟩
  · simp [go_sem, hc, hz, c0]
  · simp [go_sem, hc, hz, c1]
  · simp [go_sem, hc, hz, c2]
  · simp [go_sem, hc, hz, c3]
  · simp [go_sem, hc, hz, c4, BT.cnt_node]
set_option maxHeartbeats 1000000 in
theorem with_right {w : World} {p q : Option Addr} {l r u : BT Int} {k : Ky} {v : Int} (h : IsT w p (.node l k v r)) (hu : IsT w q u) (hn : (BT.node l k v u).cnt < lim) :
    Calls Try.prog 45 #[.pointer p, .int .i64 1, .pointer q] w fun e w' => e = .returned (.pointer (some ⟨w.heap.size, 0, none⟩)) ∧ Below w.heap.size w w' ∧ IsT w' (some ⟨w.heap.size, 0, none⟩) (.node l k v u) := by
  obtain ⟨b, pl, pr, rfl, hlt, h0, h1, h2, h3, h4, hl, hr⟩ := h
  have b0 := (Below.refl w.heap.size w).alloc (Nat.le_refl _) (.cells #[.string ⟨k.toArray⟩, .int .i64 v, .pointer pl, .pointer q, .int .i64 ((BT.node l k v r).cnt : Nat)] 70)
  have HA0 := Lib.hid hl
  have HB0 := Lib.hid hu
  have HA := Lib.hid (hl.below b0)
  have HB := Lib.hid (hu.below b0)
  have B0 := Lib.hid b0
  rw [BT.cnt_node] at hn
  unfold lim at hn
  clear hu hr hl b0
  go_enter Try.func45, Try.ntmps45
  go_wp2
  have c0 : (w.alloc (.cells #[.string ⟨k.toArray⟩, .int .i64 v, .pointer pl, .pointer q, .int .i64 ((BT.node l k v r).cnt : Nat)] 70)).cell? ⟨w.heap.size, 0, none⟩ = some (.string ⟨k.toArray⟩) := by simp
  have c1 : (w.alloc (.cells #[.string ⟨k.toArray⟩, .int .i64 v, .pointer pl, .pointer q, .int .i64 ((BT.node l k v r).cnt : Nat)] 70)).cell? ⟨w.heap.size, 1, none⟩ = some (.int .i64 v) := by simp
  have c2 : (w.alloc (.cells #[.string ⟨k.toArray⟩, .int .i64 v, .pointer pl, .pointer q, .int .i64 ((BT.node l k v r).cnt : Nat)] 70)).cell? ⟨w.heap.size, 2, none⟩ = some (.pointer pl) := by simp
  have c3 : (w.alloc (.cells #[.string ⟨k.toArray⟩, .int .i64 v, .pointer pl, .pointer q, .int .i64 ((BT.node l k v r).cnt : Nat)] 70)).cell? ⟨w.heap.size, 3, none⟩ = some (.pointer q) := by simp
  have c4 : (w.alloc (.cells #[.string ⟨k.toArray⟩, .int .i64 v, .pointer pl, .pointer q, .int .i64 ((BT.node l k v r).cnt : Nat)] 70)).cell? ⟨w.heap.size, 4, none⟩ = some (.int .i64 ((BT.node l k v r).cnt : Nat)) := by simp
  have f4 : (w.alloc (.cells #[.string ⟨k.toArray⟩, .int .i64 v, .pointer pl, .pointer q, .int .i64 ((BT.node l k v r).cnt : Nat)] 70)).frozen? ⟨w.heap.size, 4, none⟩ = false := by simp [go_sem]
  have hz : w.heap.size < (w.alloc (.cells #[.string ⟨k.toArray⟩, .int .i64 v, .pointer pl, .pointer q, .int .i64 ((BT.node l k v r).cnt : Nat)] 70)).heap.size := by simp
  generalize w.alloc (.cells #[.string ⟨k.toArray⟩, .int .i64 v, .pointer pl, .pointer q, .int .i64 ((BT.node l k v r).cnt : Nat)] 70) = W at *
  clear h0 h1 h2 h3 h4
  refine below_tail 10 (by kernel_rfl) (by kernel_rfl) ?_
  simp only [List.take_succ_cons, List.take_zero, List.drop_succ_cons, List.drop_zero]
  repeat (first
    | go_big_quiet_skip
    | (go_big_quiet_want
       first
       | (refine BigFrame.quiet_move _ rfl ?_)
       | (refine BigFrame.quiet_assign _ rfl ?_)
       | (unfold Oper.quiet
          apply Exists.intro
          refine ⟨fun w' hw' => ?_, ?_⟩
          · (obtain ⟨hc', hf'⟩ := bcell hw'
             go_simp
             first
             | done
             | exact rfl
             | (go_at_call 35; (with_reducible refine (count_any (HA.out.below hw')).mono ?_); rintro e w'' ⟨rfl, bb⟩; exact ⟨rfl, by first | exact bt hw' bb | simpa using bt hw' bb⟩)
             | (go_at_call 35; (with_reducible refine (count_any (HB.out.below hw')).mono ?_); rintro e w'' ⟨rfl, bb⟩; exact ⟨rfl, by first | exact bt hw' bb | simpa using bt hw' bb⟩)))
       go_big_quiet_on
       simp only [Act.put, Act.eval, List.setIfInBounds_toArray, List.set_cons_zero, List.set_cons_succ, Array.getD_eq_getD_getElem?, List.getElem?_toArray, List.getElem?_cons_zero, List.getElem?_cons_succ, Option.getD_some]))
  refine wpQuiet_nil ?_
  intro w' hw'
  have e1 : IntKind.i64.wrap ((l.cnt : Int) + 1) = (l.cnt : Int) + 1 := IntWalk.i64_in _ (by omega)
  have e2 : IntKind.i64.wrap ((l.cnt : Int) + 1 + (u.cnt : Int)) = ((l.cnt + 1 + u.cnt : Nat) : Int) := by rw [IntWalk.i64_in _ (by omega)]; omega
  rw [e1, e2]
  clear e1 e2
  have hlt' : w.heap.size < w'.heap.size := Nat.lt_of_lt_of_le hz hw'.size
  have HW := Lib.hid hw'
  have HZ := Lib.hid hz
  obtain ⟨hc, hf⟩ := bcell hw'
  clear hw'
  go_wp2
  go_ret
  have hB : Below w.heap.size w (w'.setCell ⟨w.heap.size, 4, none⟩ (.int .i64 ((l.cnt : Int) + 1 + (u.cnt : Int)))) := (B0.out.trans (HW.out.mono (Nat.le_of_lt HZ.out))).setCell (Nat.le_refl _) _
  refine ⟨rfl, hB, w.heap.size, pl, q, rfl, by simpa [World.setCell] using hlt', ?_, ?_, ?_, ?_, ?_, HA0.out.below hB, HB0.out.below hB⟩
  · simp [go_sem, hc, hz, c0]
  · simp [go_sem, hc, hz, c1]
  · simp [go_sem, hc, hz, c2]
  · simp [go_sem, hc, hz, c3]
  · simp [go_sem, hc, hz, c4, BT.cnt_node]
end Go.Proofs.Yteolhbcmffbdlaa.TI
