/-
  Layer 4 (span): the walks of the laws SpanCuts, SpanBack, SpanMeets. Conditions: texts within the form's reach.
-/
import Derived.Test.YtmglgmljlaplcaaSlA
namespace Go.Proofs.Ytmglgmljlaplcaa
open Go.RowKit

/-- A range in a block of its own. -/
def Box (w : World) (g : Nat) (lo hi : ByteArray) : Prop := w.cell? ⟨g, 0, none⟩ = some (.string lo) ∧ w.cell? ⟨g, 1, none⟩ = some (.string hi) ∧ g < w.heap.size
theorem Box.new (w : World) (t : TypeId) (lo hi : ByteArray) : Box (w.alloc (.cells #[.string lo, .string hi] t)) w.heap.size lo hi := ⟨by simp [go_sem], by simp [go_sem], by simp⟩
theorem Box.alloc {w : World} {g : Nat} {lo hi : ByteArray} (h : Box w g lo hi) (o : Obj) : Box (w.alloc o) g lo hi :=
  ⟨(World.cell?_alloc_lt w o ⟨g, 0, none⟩ h.2.2).trans h.1, (World.cell?_alloc_lt w o ⟨g, 1, none⟩ h.2.2).trans h.2.1, by have := h.2.2; simp; omega⟩
theorem Box.new2 (w : World) (o : Obj) (t : TypeId) (lo hi : ByteArray) : Box ((w.alloc o).alloc (.cells #[.string lo, .string hi] t)) (w.heap.size + 1) lo hi := by
  have h := Box.new (w.alloc o) t lo hi
  rw [show (w.alloc o).heap.size = w.heap.size + 1 by simp] at h
  exact h
theorem Box.below {w w' : World} {g : Nat} {lo hi : ByteArray} (h : Box w g lo hi) (hb : Below w.heap.size w w') : Box w' g lo hi :=
  ⟨(hb.cell (p := ⟨g, 0, none⟩) h.2.2).trans h.1, (hb.cell (p := ⟨g, 1, none⟩) h.2.2).trans h.2.1, Nat.lt_of_lt_of_le h.2.2 hb.size⟩

theorem cut_both (lo hi k : ByteArray) (h1 : okS lo) (h2 : okS hi) (h3 : okS k) : ∃ (p q r s : ByteArray) (n : Int),
    (∀ w : World, Calls Try.prog 17 #[.agg #[.string lo, .string hi], .string k] w fun x w' => x = .returned (.tuple #[.agg #[.string p, .string q], .agg #[.string r, .string s], .int .i64 n]) ∧ Below w.heap.size w w') ∧
    (∀ w : World, Calls Try.prog 18 #[.agg #[.string lo, .string hi], .string k] w fun x w' => x = .returned (.tuple #[.agg #[.string p, .string q], .agg #[.string r, .string s], .int .i64 n]) ∧ Below w.heap.size w w') := by
  cases h : cutB lo hi k with
  | true => exact ⟨lo, k, k, hi, 0, cut_yes lo hi k h h1 h2 h3, rcut_yes lo hi k h h1 h2 h3⟩
  | false => exact ⟨_, _, _, _, 1, cut_no lo hi k h h1 h2 h3, rcut_no lo hi k h h1 h2 h3⟩
theorem join_both (lo hi lo' hi' : ByteArray) (h1 : okS lo) (h2 : okS hi) (h3 : okS lo') (h4 : okS hi') : ∃ (p q : ByteArray) (n : Int),
    (∀ w : World, Calls Try.prog 19 #[.agg #[.string lo, .string hi], .agg #[.string lo', .string hi']] w fun x w' => x = .returned (.tuple #[.agg #[.string p, .string q], .int .i64 n]) ∧ Below w.heap.size w w') ∧
    (∀ w : World, Calls Try.prog 20 #[.agg #[.string lo, .string hi], .agg #[.string lo', .string hi']] w fun x w' => x = .returned (.tuple #[.agg #[.string p, .string q], .int .i64 n]) ∧ Below w.heap.size w w') := by
  cases h : joinB lo hi lo' hi' with
  | true => exact ⟨lo, hi', 0, join_yes lo hi lo' hi' h h1 h2 h3 h4, rjoin_yes lo hi lo' hi' h h1 h2 h3 h4⟩
  | false => exact ⟨_, _, 1, join_no lo hi lo' hi' h h1 h2 h3 h4, rjoin_no lo hi lo' hi' h h1 h2 h3 h4⟩
theorem meetB_parts (lo hi lo' hi' : ByteArray) : (mayB lo hi && mayB lo' hi' && mayB (maxS lo lo') (endS hi hi')) = meetB lo hi lo' hi' := by
  cases m1 : mayB lo hi with
  | false => unfold meetB; rw [m1]; rfl
  | true =>
    cases m2 : mayB lo' hi' with
    | false => unfold meetB; rw [m1, m2]; rfl
    | true => rw [meet_may_iff m1 m2]; rfl
theorem okS_max {a b : ByteArray} (h : okS a) (k : okS b) : okS (maxS a b) := maxS_size h k
theorem okS_end {a b : ByteArray} (h : okS a) (k : okS b) : okS (endS a b) := endS_size h k
/-- What Meet leaves. -/
def meetL (lo lo' : ByteArray) (b : Bool) : ByteArray := if b = true then maxS lo lo' else ⟨#[]⟩
def meetH (hi hi' : ByteArray) (b : Bool) : ByteArray := if b = true then endS hi hi' else ⟨#[]⟩
theorem meet_code (lo hi lo' hi' : ByteArray) (b : Bool) (h : meetB lo hi lo' hi' = b) (h1 : okS lo) (h2 : okS hi) (h3 : okS lo') (h4 : okS hi') (w : World) :
    Calls Try.prog 21 #[.agg #[.string lo, .string hi], .agg #[.string lo', .string hi']] w fun x w' => x = .returned (.tuple #[.agg #[.string (meetL lo lo' b), .string (meetH hi hi' b)], .bool b]) ∧ Below w.heap.size w w' := by
  cases b with
  | true => exact meet_yes lo hi lo' hi' h h1 h2 h3 h4 w
  | false => exact meet_no lo hi lo' hi' h h1 h2 h3 h4 w
theorem meet_ref (lo hi lo' hi' : ByteArray) (b : Bool) (h : meetB lo hi lo' hi' = b) (h1 : okS lo) (h2 : okS hi) (h3 : okS lo') (h4 : okS hi') (w : World) :
    Calls Try.prog 22 #[.agg #[.string lo, .string hi], .agg #[.string lo', .string hi']] w fun x w' => x = .returned (.tuple #[.agg #[.string (meetL lo lo' b), .string (meetH hi hi' b)], .bool b]) ∧ Below w.heap.size w w' := by
  have h5 := rmeet_any lo hi lo' hi' _ _ _ _ _ rfl rfl rfl rfl rfl h1 h2 h3 h4 (okS_max h1 h3) (okS_end h2 h4) w
  rw [meetB_parts, h] at h5
  cases b with
  | true => exact h5
  | false => exact h5
theorem meet_both (lo hi lo' hi' : ByteArray) (h1 : okS lo) (h2 : okS hi) (h3 : okS lo') (h4 : okS hi') : ∃ (p q : ByteArray) (b : Bool),
    (∀ w : World, Calls Try.prog 21 #[.agg #[.string lo, .string hi], .agg #[.string lo', .string hi']] w fun x w' => x = .returned (.tuple #[.agg #[.string p, .string q], .bool b]) ∧ Below w.heap.size w w') ∧
    (∀ w : World, Calls Try.prog 22 #[.agg #[.string lo, .string hi], .agg #[.string lo', .string hi']] w fun x w' => x = .returned (.tuple #[.agg #[.string p, .string q], .bool b]) ∧ Below w.heap.size w w') :=
  ⟨_, _, _, meet_code lo hi lo' hi' _ rfl h1 h2 h3 h4, meet_ref lo hi lo' hi' _ rfl h1 h2 h3 h4⟩

set_option maxRecDepth 100000 in
set_option maxHeartbeats 4000000 in
theorem walk_SpanCuts (lo hi : ByteArray) (h1 : okS lo) (h2 : okS hi) (lo' hi' : ByteArray) (h3 : okS lo') (h4 : okS hi') (k : ByteArray) (h5 : okS k) (w : World) :
    Calls Try.prog 4 #[.agg #[.string lo, .string hi], .agg #[.string lo', .string hi'], .string k] w fun e w' => e = .returned (.bool true) ∧ Below w.heap.size w w' := by
  obtain ⟨p1, q1, r1, s1, n1, A1, A2⟩ := cut_both lo hi k h1 h2 h5
  obtain ⟨p2, q2, n2, B1, B2⟩ := join_both lo hi lo' hi' h1 h2 h3 h4
  obtain ⟨p3, q3, c3, C1, C2⟩ := meet_both lo hi lo' hi' h1 h2 h3 h4
  have A1 := Lib.hid A1
  have A2 := Lib.hid A2
  have B1 := Lib.hid B1
  have B2 := Lib.hid B2
  have C1 := Lib.hid C1
  have C2 := Lib.hid C2
  clear h1 h2 h3 h4 h5
  go_enter Try.func4, Try.ntmps4
  go_wp2_with fail
  refine (A1.out _).mono ?_
  rintro e w1 ⟨rfl, b1⟩
  have X1 := Lib.hid (((Box.new w 23 lo hi).alloc (.cells #[.string lo', .string hi'] 23)).below b1)
  have Y1 := Lib.hid ((Box.new2 w (.cells #[.string lo, .string hi] 23) 23 lo' hi').below b1)
  have D1 := Lib.hid (below_box2 b1)
  clear b1
  obtain ⟨fX0, fX1, fX2⟩ := X1.out
  obtain ⟨fY0, fY1, fY2⟩ := Y1.out
  go_wp2_with fail
  refine (A2.out _).mono ?_
  rintro e w2 ⟨rfl, b2⟩
  have X2 := Lib.hid (((X1.out.alloc (.cells #[.string p1, .string q1] 23)).alloc (.cells #[.string r1, .string s1] 23)).below b2)
  have Y2 := Lib.hid (((Y1.out.alloc (.cells #[.string p1, .string q1] 23)).alloc (.cells #[.string r1, .string s1] 23)).below b2)
  have Za2 := Lib.hid (((Box.new w1 23 p1 q1).alloc (.cells #[.string r1, .string s1] 23)).below b2)
  have Zb2 := Lib.hid ((Box.new2 w1 (.cells #[.string p1, .string q1] 23) 23 r1 s1).below b2)
  have D2 := Lib.hid (D1.out.trans ((below_box2 b2).mono D1.out.size))
  clear X1 Y1 D1 fX0 fX1 fX2 fY0 fY1 fY2
  clear b2
  obtain ⟨fX0, fX1, fX2⟩ := X2.out
  obtain ⟨fY0, fY1, fY2⟩ := Y2.out
  obtain ⟨fZa0, fZa1, fZa2⟩ := Za2.out
  obtain ⟨fZb0, fZb1, fZb2⟩ := Zb2.out
  go_wp2_with fail
  refine (B1.out _).mono ?_
  rintro e w3 ⟨rfl, b3⟩
  have X3 := Lib.hid (((X2.out.alloc (.cells #[.string p1, .string q1] 23)).alloc (.cells #[.string r1, .string s1] 23)).below b3)
  have Y3 := Lib.hid (((Y2.out.alloc (.cells #[.string p1, .string q1] 23)).alloc (.cells #[.string r1, .string s1] 23)).below b3)
  have Za3 := Lib.hid (((Za2.out.alloc (.cells #[.string p1, .string q1] 23)).alloc (.cells #[.string r1, .string s1] 23)).below b3)
  have Zb3 := Lib.hid (((Zb2.out.alloc (.cells #[.string p1, .string q1] 23)).alloc (.cells #[.string r1, .string s1] 23)).below b3)
  have Zc3 := Lib.hid (((Box.new w2 23 p1 q1).alloc (.cells #[.string r1, .string s1] 23)).below b3)
  have Zd3 := Lib.hid ((Box.new2 w2 (.cells #[.string p1, .string q1] 23) 23 r1 s1).below b3)
  have D3 := Lib.hid (D2.out.trans ((below_box2 b3).mono D2.out.size))
  clear X2 Y2 Za2 Zb2 D2 fX0 fX1 fX2 fY0 fY1 fY2 fZa0 fZa1 fZa2 fZb0 fZb1 fZb2
  clear b3
  obtain ⟨fX0, fX1, fX2⟩ := X3.out
  obtain ⟨fY0, fY1, fY2⟩ := Y3.out
  obtain ⟨fZa0, fZa1, fZa2⟩ := Za3.out
  obtain ⟨fZb0, fZb1, fZb2⟩ := Zb3.out
  obtain ⟨fZc0, fZc1, fZc2⟩ := Zc3.out
  obtain ⟨fZd0, fZd1, fZd2⟩ := Zd3.out
  go_wp2_with fail
  refine (B2.out _).mono ?_
  rintro e w4 ⟨rfl, b4⟩
  have X4 := Lib.hid ((X3.out.alloc (.cells #[.string p2, .string q2] 23)).below b4)
  have Y4 := Lib.hid ((Y3.out.alloc (.cells #[.string p2, .string q2] 23)).below b4)
  have Za4 := Lib.hid ((Za3.out.alloc (.cells #[.string p2, .string q2] 23)).below b4)
  have Zb4 := Lib.hid ((Zb3.out.alloc (.cells #[.string p2, .string q2] 23)).below b4)
  have Zc4 := Lib.hid ((Zc3.out.alloc (.cells #[.string p2, .string q2] 23)).below b4)
  have Zd4 := Lib.hid ((Zd3.out.alloc (.cells #[.string p2, .string q2] 23)).below b4)
  have Zj4 := Lib.hid ((Box.new w3 23 p2 q2).below b4)
  have D4 := Lib.hid (D3.out.trans ((below_box b4).mono D3.out.size))
  clear X3 Y3 Za3 Zb3 Zc3 Zd3 D3 fX0 fX1 fX2 fY0 fY1 fY2 fZa0 fZa1 fZa2 fZb0 fZb1 fZb2 fZc0 fZc1 fZc2 fZd0 fZd1 fZd2
  clear b4
  obtain ⟨fX0, fX1, fX2⟩ := X4.out
  obtain ⟨fY0, fY1, fY2⟩ := Y4.out
  obtain ⟨fZa0, fZa1, fZa2⟩ := Za4.out
  obtain ⟨fZb0, fZb1, fZb2⟩ := Zb4.out
  obtain ⟨fZc0, fZc1, fZc2⟩ := Zc4.out
  obtain ⟨fZd0, fZd1, fZd2⟩ := Zd4.out
  obtain ⟨fZj0, fZj1, fZj2⟩ := Zj4.out
  go_wp2_with fail
  refine (C1.out _).mono ?_
  rintro e w5 ⟨rfl, b5⟩
  have X5 := Lib.hid ((X4.out.alloc (.cells #[.string p2, .string q2] 23)).below b5)
  have Y5 := Lib.hid ((Y4.out.alloc (.cells #[.string p2, .string q2] 23)).below b5)
  have Za5 := Lib.hid ((Za4.out.alloc (.cells #[.string p2, .string q2] 23)).below b5)
  have Zb5 := Lib.hid ((Zb4.out.alloc (.cells #[.string p2, .string q2] 23)).below b5)
  have Zc5 := Lib.hid ((Zc4.out.alloc (.cells #[.string p2, .string q2] 23)).below b5)
  have Zd5 := Lib.hid ((Zd4.out.alloc (.cells #[.string p2, .string q2] 23)).below b5)
  have Zj5 := Lib.hid ((Zj4.out.alloc (.cells #[.string p2, .string q2] 23)).below b5)
  have Zk5 := Lib.hid ((Box.new w4 23 p2 q2).below b5)
  have D5 := Lib.hid (D4.out.trans ((below_box b5).mono D4.out.size))
  clear X4 Y4 Za4 Zb4 Zc4 Zd4 Zj4 D4 fX0 fX1 fX2 fY0 fY1 fY2 fZa0 fZa1 fZa2 fZb0 fZb1 fZb2 fZc0 fZc1 fZc2 fZd0 fZd1 fZd2 fZj0 fZj1 fZj2
  clear b5
  obtain ⟨fX0, fX1, fX2⟩ := X5.out
  obtain ⟨fY0, fY1, fY2⟩ := Y5.out
  obtain ⟨fZa0, fZa1, fZa2⟩ := Za5.out
  obtain ⟨fZb0, fZb1, fZb2⟩ := Zb5.out
  obtain ⟨fZc0, fZc1, fZc2⟩ := Zc5.out
  obtain ⟨fZd0, fZd1, fZd2⟩ := Zd5.out
  obtain ⟨fZj0, fZj1, fZj2⟩ := Zj5.out
  obtain ⟨fZk0, fZk1, fZk2⟩ := Zk5.out
  go_wp2_with fail
  refine (C2.out _).mono ?_
  rintro e w6 ⟨rfl, b6⟩
  have X6 := Lib.hid ((X5.out.alloc (.cells #[.string p3, .string q3] 23)).below b6)
  have Y6 := Lib.hid ((Y5.out.alloc (.cells #[.string p3, .string q3] 23)).below b6)
  have Za6 := Lib.hid ((Za5.out.alloc (.cells #[.string p3, .string q3] 23)).below b6)
  have Zb6 := Lib.hid ((Zb5.out.alloc (.cells #[.string p3, .string q3] 23)).below b6)
  have Zc6 := Lib.hid ((Zc5.out.alloc (.cells #[.string p3, .string q3] 23)).below b6)
  have Zd6 := Lib.hid ((Zd5.out.alloc (.cells #[.string p3, .string q3] 23)).below b6)
  have Zj6 := Lib.hid ((Zj5.out.alloc (.cells #[.string p3, .string q3] 23)).below b6)
  have Zk6 := Lib.hid ((Zk5.out.alloc (.cells #[.string p3, .string q3] 23)).below b6)
  have Zm6 := Lib.hid ((Box.new w5 23 p3 q3).below b6)
  have D6 := Lib.hid (D5.out.trans ((below_box b6).mono D5.out.size))
  clear X5 Y5 Za5 Zb5 Zc5 Zd5 Zj5 Zk5 D5 fX0 fX1 fX2 fY0 fY1 fY2 fZa0 fZa1 fZa2 fZb0 fZb1 fZb2 fZc0 fZc1 fZc2 fZd0 fZd1 fZd2 fZj0 fZj1 fZj2 fZk0 fZk1 fZk2
  clear b6
  obtain ⟨fX0, fX1, fX2⟩ := X6.out
  obtain ⟨fY0, fY1, fY2⟩ := Y6.out
  obtain ⟨fZa0, fZa1, fZa2⟩ := Za6.out
  obtain ⟨fZb0, fZb1, fZb2⟩ := Zb6.out
  obtain ⟨fZc0, fZc1, fZc2⟩ := Zc6.out
  obtain ⟨fZd0, fZd1, fZd2⟩ := Zd6.out
  obtain ⟨fZj0, fZj1, fZj2⟩ := Zj6.out
  obtain ⟨fZk0, fZk1, fZk2⟩ := Zk6.out
  obtain ⟨fZm0, fZm1, fZm2⟩ := Zm6.out
  go_wp2_with fail
  refine (awake_any _).mono ?_
  rintro e w7 ⟨rfl, b7⟩
  go_wp2
  go_ret
  exact ⟨rfl, D6.out.trans ((below_box b7).mono D6.out.size)⟩
end Go.Proofs.Ytmglgmljlaplcaa
