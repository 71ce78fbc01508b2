/-
  Layer 4 (span): the walks of the laws SpanBack, SpanMeets. Conditions: texts within the form's reach.
-/
import Derived.Test.YtmglgmljlaplcaaSlB
namespace Go.Proofs.Ytmglgmljlaplcaa
open Go.RowKit

set_option maxRecDepth 100000 in
set_option maxHeartbeats 4000000 in
theorem back_no (lo hi : ByteArray) (h1 : okS lo) (h2 : okS hi) (k : ByteArray) (h3 : okS k) (o : ByteArray) (h : cutB lo hi k = false) (w : World) :
    Calls Try.prog 5 #[.agg #[.string lo, .string hi], .string k, .string o] w fun e w' => e = .returned (.bool true) ∧ Below w.heap.size w w' := by
  have A1 := Lib.hid fun w => cut_no lo hi k h h1 h2 h3 w
  clear h h1 h2 h3
  go_enter Try.func5, Try.ntmps5
  go_wp2_with fail
  refine (A1.out _).mono ?_
  rintro e w1 ⟨rfl, b1⟩
  have D1 := Lib.hid (below_box b1)
  clear b1
  go_wp2_with fail
  refine (awake_any _).mono ?_
  rintro e w2 ⟨rfl, b2⟩
  go_wp2
  go_ret
  exact ⟨rfl, D1.out.trans ((below_box2 b2).mono D1.out.size)⟩
set_option maxRecDepth 100000 in
set_option maxHeartbeats 4000000 in
theorem back_yes (lo hi : ByteArray) (h1 : okS lo) (h2 : okS hi) (k : ByteArray) (h3 : okS k) (o : ByteArray) (h4 : okS o) (h : cutB lo hi k = true) (w : World) :
    Calls Try.prog 5 #[.agg #[.string lo, .string hi], .string k, .string o] w fun e w' => e = .returned (.bool true) ∧ Below w.heap.size w w' := by
  have A1 := Lib.hid fun w => cut_yes lo hi k h h1 h2 h3 w
  have A2 := Lib.hid fun w => join_yes lo k k hi (cut_join h) h1 h3 h3 h2 w
  have A3 := Lib.hid fun w => meet_no lo k k hi (cut_meet h) h1 h3 h3 h2 w
  have e1 := cut_has h o
  have e2 := cut_one h o
  obtain ⟨ha, hA⟩ : ∃ b, hasB lo k o = b := ⟨_, rfl⟩
  obtain ⟨hb, hB⟩ : ∃ b, hasB k hi o = b := ⟨_, rfl⟩
  rw [hA, hB] at e1 e2
  have A4 := Lib.hid fun w => has_any lo hi o _ e1.symm h1 h2 h4 w
  have A5 := Lib.hid fun w => has_any lo k o _ hA h1 h3 h4 w
  have A6 := Lib.hid fun w => has_any k hi o _ hB h3 h2 h4 w
  have E2 := Lib.hid e2
  clear h h1 h2 h3 h4 e1 e2 hA hB
  go_enter Try.func5, Try.ntmps5
  go_wp2_with fail
  refine (A1.out _).mono ?_
  rintro e w1 ⟨rfl, b1⟩
  have X1 := Lib.hid ((Box.new w 23 lo hi).below b1)
  have D1 := Lib.hid (below_box b1)
  clear b1
  obtain ⟨fX0, fX1, fX2⟩ := X1.out
  go_wp2_with fail
  refine (A2.out _).mono ?_
  rintro e w2 ⟨rfl, b2⟩
  have X2 := Lib.hid (((X1.out.alloc (.cells #[.string lo, .string k] 23)).alloc (.cells #[.string k, .string hi] 23)).below b2)
  have Za2 := Lib.hid (((Box.new w1 23 lo k).alloc (.cells #[.string k, .string hi] 23)).below b2)
  have Zb2 := Lib.hid ((Box.new2 w1 (.cells #[.string lo, .string k] 23) 23 k hi).below b2)
  have D2 := Lib.hid (D1.out.trans ((below_box2 b2).mono D1.out.size))
  clear X1 D1 b2 fX0 fX1 fX2
  obtain ⟨fX0, fX1, fX2⟩ := X2.out
  obtain ⟨fZa0, fZa1, fZa2⟩ := Za2.out
  obtain ⟨fZb0, fZb1, fZb2⟩ := Zb2.out
  go_wp2_with fail
  refine (A3.out _).mono ?_
  rintro e w3 ⟨rfl, b3⟩
  have X3 := Lib.hid ((X2.out.alloc (.cells #[.string lo, .string hi] 23)).below b3)
  have Za3 := Lib.hid ((Za2.out.alloc (.cells #[.string lo, .string hi] 23)).below b3)
  have Zb3 := Lib.hid ((Zb2.out.alloc (.cells #[.string lo, .string hi] 23)).below b3)
  have Zj3 := Lib.hid ((Box.new w2 23 lo hi).below b3)
  have D3 := Lib.hid (D2.out.trans ((below_box b3).mono D2.out.size))
  clear X2 Za2 Zb2 D2 b3 fX0 fX1 fX2 fZa0 fZa1 fZa2 fZb0 fZb1 fZb2
  obtain ⟨fX0, fX1, fX2⟩ := X3.out
  obtain ⟨fZa0, fZa1, fZa2⟩ := Za3.out
  obtain ⟨fZb0, fZb1, fZb2⟩ := Zb3.out
  obtain ⟨fZj0, fZj1, fZj2⟩ := Zj3.out
  go_wp2_with fail
  refine (A4.out _).mono ?_
  rintro e w4 ⟨rfl, b4⟩
  have X4 := Lib.hid ((X3.out.alloc (.cells #[.string ⟨#[]⟩, .string ⟨#[]⟩] 23)).below b4)
  have Za4 := Lib.hid ((Za3.out.alloc (.cells #[.string ⟨#[]⟩, .string ⟨#[]⟩] 23)).below b4)
  have Zb4 := Lib.hid ((Zb3.out.alloc (.cells #[.string ⟨#[]⟩, .string ⟨#[]⟩] 23)).below b4)
  have Zj4 := Lib.hid ((Zj3.out.alloc (.cells #[.string ⟨#[]⟩, .string ⟨#[]⟩] 23)).below b4)
  have Zm4 := Lib.hid ((Box.new w3 23 ⟨#[]⟩ ⟨#[]⟩).below b4)
  have D4 := Lib.hid (D3.out.trans ((below_box b4).mono D3.out.size))
  clear X3 Za3 Zb3 Zj3 D3 b4 fX0 fX1 fX2 fZa0 fZa1 fZa2 fZb0 fZb1 fZb2 fZj0 fZj1 fZj2
  obtain ⟨fX0, fX1, fX2⟩ := X4.out
  obtain ⟨fZa0, fZa1, fZa2⟩ := Za4.out
  obtain ⟨fZb0, fZb1, fZb2⟩ := Zb4.out
  obtain ⟨fZj0, fZj1, fZj2⟩ := Zj4.out
  obtain ⟨fZm0, fZm1, fZm2⟩ := Zm4.out
  go_wp2_with fail
  refine (A5.out _).mono ?_
  rintro e w5 ⟨rfl, b5⟩
  have X5 := Lib.hid (X4.out.below b5)
  have Za5 := Lib.hid (Za4.out.below b5)
  have Zb5 := Lib.hid (Zb4.out.below b5)
  have Zj5 := Lib.hid (Zj4.out.below b5)
  have Zm5 := Lib.hid (Zm4.out.below b5)
  have D5 := Lib.hid (D4.out.trans (b5.mono D4.out.size))
  clear X4 Za4 Zb4 Zj4 Zm4 D4 b5 fX0 fX1 fX2 fZa0 fZa1 fZa2 fZb0 fZb1 fZb2 fZj0 fZj1 fZj2 fZm0 fZm1 fZm2
  obtain ⟨fX0, fX1, fX2⟩ := X5.out
  obtain ⟨fZa0, fZa1, fZa2⟩ := Za5.out
  obtain ⟨fZb0, fZb1, fZb2⟩ := Zb5.out
  obtain ⟨fZj0, fZj1, fZj2⟩ := Zj5.out
  obtain ⟨fZm0, fZm1, fZm2⟩ := Zm5.out
  cases ha with
  | true =>
    obtain rfl : hb = false := E2.out
    go_wp2_with fail
    refine (A5.out _).mono ?_
    rintro e w6 ⟨rfl, b6⟩
    have X6 := Lib.hid (X5.out.below b6)
    have Za6 := Lib.hid (Za5.out.below b6)
    have Zb6 := Lib.hid (Zb5.out.below b6)
    have Zj6 := Lib.hid (Zj5.out.below b6)
    have Zm6 := Lib.hid (Zm5.out.below b6)
    have D6 := Lib.hid (D5.out.trans (b6.mono D5.out.size))
    clear X5 Za5 Zb5 Zj5 Zm5 D5 b6 fX0 fX1 fX2 fZa0 fZa1 fZa2 fZb0 fZb1 fZb2 fZj0 fZj1 fZj2 fZm0 fZm1 fZm2
    obtain ⟨fX0, fX1, fX2⟩ := X6.out
    obtain ⟨fZa0, fZa1, fZa2⟩ := Za6.out
    obtain ⟨fZb0, fZb1, fZb2⟩ := Zb6.out
    obtain ⟨fZj0, fZj1, fZj2⟩ := Zj6.out
    obtain ⟨fZm0, fZm1, fZm2⟩ := Zm6.out
    go_wp2_with fail
    refine (A6.out _).mono ?_
    rintro e w7 ⟨rfl, b7⟩
    have X7 := Lib.hid (X6.out.below b7)
    have Za7 := Lib.hid (Za6.out.below b7)
    have Zb7 := Lib.hid (Zb6.out.below b7)
    have Zj7 := Lib.hid (Zj6.out.below b7)
    have Zm7 := Lib.hid (Zm6.out.below b7)
    have D7 := Lib.hid (D6.out.trans (b7.mono D6.out.size))
    clear X6 Za6 Zb6 Zj6 Zm6 D6 b7 fX0 fX1 fX2 fZa0 fZa1 fZa2 fZb0 fZb1 fZb2 fZj0 fZj1 fZj2 fZm0 fZm1 fZm2
    obtain ⟨fX0, fX1, fX2⟩ := X7.out
    obtain ⟨fZa0, fZa1, fZa2⟩ := Za7.out
    obtain ⟨fZb0, fZb1, fZb2⟩ := Zb7.out
    obtain ⟨fZj0, fZj1, fZj2⟩ := Zj7.out
    obtain ⟨fZm0, fZm1, fZm2⟩ := Zm7.out
    go_wp2_with fail
    refine (awake_any _).mono ?_
    rintro e w8 ⟨rfl, b8⟩
    go_wp2
    go_ret
    exact ⟨rfl, D7.out.trans (b8.mono D7.out.size)⟩
  | false =>
    cases hb with
    | true =>
      go_wp2_with fail
      refine (A6.out _).mono ?_
      rintro e w6 ⟨rfl, b6⟩
      have X6 := Lib.hid (X5.out.below b6)
      have Za6 := Lib.hid (Za5.out.below b6)
      have Zb6 := Lib.hid (Zb5.out.below b6)
      have Zj6 := Lib.hid (Zj5.out.below b6)
      have Zm6 := Lib.hid (Zm5.out.below b6)
      have D6 := Lib.hid (D5.out.trans (b6.mono D5.out.size))
      clear X5 Za5 Zb5 Zj5 Zm5 D5 b6 fX0 fX1 fX2 fZa0 fZa1 fZa2 fZb0 fZb1 fZb2 fZj0 fZj1 fZj2 fZm0 fZm1 fZm2
      obtain ⟨fX0, fX1, fX2⟩ := X6.out
      obtain ⟨fZa0, fZa1, fZa2⟩ := Za6.out
      obtain ⟨fZb0, fZb1, fZb2⟩ := Zb6.out
      obtain ⟨fZj0, fZj1, fZj2⟩ := Zj6.out
      obtain ⟨fZm0, fZm1, fZm2⟩ := Zm6.out
      go_wp2_with fail
      refine (A5.out _).mono ?_
      rintro e w7 ⟨rfl, b7⟩
      have X7 := Lib.hid (X6.out.below b7)
      have Za7 := Lib.hid (Za6.out.below b7)
      have Zb7 := Lib.hid (Zb6.out.below b7)
      have Zj7 := Lib.hid (Zj6.out.below b7)
      have Zm7 := Lib.hid (Zm6.out.below b7)
      have D7 := Lib.hid (D6.out.trans (b7.mono D6.out.size))
      clear X6 Za6 Zb6 Zj6 Zm6 D6 b7 fX0 fX1 fX2 fZa0 fZa1 fZa2 fZb0 fZb1 fZb2 fZj0 fZj1 fZj2 fZm0 fZm1 fZm2
      obtain ⟨fX0, fX1, fX2⟩ := X7.out
      obtain ⟨fZa0, fZa1, fZa2⟩ := Za7.out
      obtain ⟨fZb0, fZb1, fZb2⟩ := Zb7.out
      obtain ⟨fZj0, fZj1, fZj2⟩ := Zj7.out
      obtain ⟨fZm0, fZm1, fZm2⟩ := Zm7.out
      go_wp2_with fail
      refine (awake_any _).mono ?_
      rintro e w8 ⟨rfl, b8⟩
      go_wp2
      go_ret
      exact ⟨rfl, D7.out.trans (b8.mono D7.out.size)⟩
    | false =>
      go_wp2_with fail
      refine (A6.out _).mono ?_
      rintro e w6 ⟨rfl, b6⟩
      have X6 := Lib.hid (X5.out.below b6)
      have Za6 := Lib.hid (Za5.out.below b6)
      have Zb6 := Lib.hid (Zb5.out.below b6)
      have Zj6 := Lib.hid (Zj5.out.below b6)
      have Zm6 := Lib.hid (Zm5.out.below b6)
      have D6 := Lib.hid (D5.out.trans (b6.mono D5.out.size))
      clear X5 Za5 Zb5 Zj5 Zm5 D5 b6 fX0 fX1 fX2 fZa0 fZa1 fZa2 fZb0 fZb1 fZb2 fZj0 fZj1 fZj2 fZm0 fZm1 fZm2
      obtain ⟨fX0, fX1, fX2⟩ := X6.out
      obtain ⟨fZa0, fZa1, fZa2⟩ := Za6.out
      obtain ⟨fZb0, fZb1, fZb2⟩ := Zb6.out
      obtain ⟨fZj0, fZj1, fZj2⟩ := Zj6.out
      obtain ⟨fZm0, fZm1, fZm2⟩ := Zm6.out
      go_wp2_with fail
      refine (A5.out _).mono ?_
      rintro e w7 ⟨rfl, b7⟩
      have X7 := Lib.hid (X6.out.below b7)
      have Za7 := Lib.hid (Za6.out.below b7)
      have Zb7 := Lib.hid (Zb6.out.below b7)
      have Zj7 := Lib.hid (Zj6.out.below b7)
      have Zm7 := Lib.hid (Zm6.out.below b7)
      have D7 := Lib.hid (D6.out.trans (b7.mono D6.out.size))
      clear X6 Za6 Zb6 Zj6 Zm6 D6 b7 fX0 fX1 fX2 fZa0 fZa1 fZa2 fZb0 fZb1 fZb2 fZj0 fZj1 fZj2 fZm0 fZm1 fZm2
      obtain ⟨fX0, fX1, fX2⟩ := X7.out
      obtain ⟨fZa0, fZa1, fZa2⟩ := Za7.out
      obtain ⟨fZb0, fZb1, fZb2⟩ := Zb7.out
      obtain ⟨fZj0, fZj1, fZj2⟩ := Zj7.out
      obtain ⟨fZm0, fZm1, fZm2⟩ := Zm7.out
      go_wp2_with fail
      refine (awake_any _).mono ?_
      rintro e w8 ⟨rfl, b8⟩
      go_wp2
      go_ret
      exact ⟨rfl, D7.out.trans (b8.mono D7.out.size)⟩
theorem walk_SpanBack (lo hi : ByteArray) (h1 : okS lo) (h2 : okS hi) (k : ByteArray) (h3 : okS k) (o : ByteArray) (h4 : okS o) (w : World) :
    Calls Try.prog 5 #[.agg #[.string lo, .string hi], .string k, .string o] w fun e w' => e = .returned (.bool true) ∧ Below w.heap.size w w' := by
  cases h : cutB lo hi k with
  | true => exact back_yes lo hi h1 h2 k h3 o h4 h w
  | false => exact back_no lo hi h1 h2 k h3 o h w
/-! ### SpanMeets -/
theorem keep_box3 {w a b : World} {g1 g2 g3 : Nat} {p1 q1 p2 q2 p3 q3 : ByteArray}
    (h : Box a g1 p1 q1 ∧ Box a g2 p2 q2 ∧ Box a g3 p3 q3 ∧ Below w.heap.size w a) (hb : Below a.heap.size a b) :
    Box b g1 p1 q1 ∧ Box b g2 p2 q2 ∧ Box b g3 p3 q3 ∧ Below w.heap.size w b :=
  ⟨h.1.below hb, h.2.1.below hb, h.2.2.1.below hb, h.2.2.2.trans (hb.mono h.2.2.2.size)⟩
theorem keep_drew {w a : World} {g1 g2 g3 : Nat} {p1 q1 p2 q2 p3 q3 : ByteArray}
    (h : Box a g1 p1 q1 ∧ Box a g2 p2 q2 ∧ Box a g3 p3 q3 ∧ Below w.heap.size w a) :
    Box a.drew g1 p1 q1 ∧ Box a.drew g2 p2 q2 ∧ Box a.drew g3 p3 q3 ∧ Below w.heap.size w a.drew := ⟨h.1, h.2.1, h.2.2.1, h.2.2.2.drew⟩
set_option maxRecDepth 100000 in
set_option maxHeartbeats 4000000 in
theorem walk_SpanMeets (lo hi : ByteArray) (h1 : okS lo) (h2 : okS hi) (lo' hi' : ByteArray) (h3 : okS lo') (h4 : okS hi') (k : ByteArray) (h5 : okS k) (w : World) :
    Calls Try.prog 6 #[.agg #[.string lo, .string hi], .agg #[.string lo', .string hi'], .string k] w fun e w' => e = .returned (.bool true) ∧ Below w.heap.size w w' := by
  obtain ⟨m, hm⟩ : ∃ b, meetB lo hi lo' hi' = b := ⟨_, rfl⟩
  have A1 := fun w => meet_code lo hi lo' hi' m hm h1 h2 h3 h4 w
  have A2 := fun w => meet_code lo' hi' lo hi m ((meetB_comm _ _ _ _).trans hm) h3 h4 h1 h2 w
  have c1 : meetL lo' lo m = meetL lo lo' m := by unfold meetL; rw [maxS_comm]
  have c2 : meetH hi' hi m = meetH hi hi' m := by unfold meetH; rw [endS_comm]
  rw [c1, c2] at A2
  have oL : okS (meetL lo lo' m) := by unfold meetL; split; exact okS_max h1 h3; exact okS_key (by decide)
  have oH : okS (meetH hi hi' m) := by unfold meetH; split; exact okS_end h2 h4; exact okS_key (by decide)
  have e1 : (m && hasB (meetL lo lo' m) (meetH hi hi' m) k) = (hasB lo hi k && hasB lo' hi' k) := by
    rw [← meet_has, hm]
    cases m <;> rfl
  obtain ⟨L, hL⟩ : ∃ L, L = meetL lo lo' m := ⟨_, rfl⟩
  obtain ⟨H, hH⟩ : ∃ H, H = meetH hi hi' m := ⟨_, rfl⟩
  rw [← hL, ← hH] at A1 A2 e1
  rw [← hL] at oL
  rw [← hH] at oH
  obtain ⟨a, ha⟩ : ∃ b, hasB L H k = b := ⟨_, rfl⟩
  obtain ⟨b, hb⟩ : ∃ b, hasB lo hi k = b := ⟨_, rfl⟩
  obtain ⟨c, hc⟩ : ∃ b, hasB lo' hi' k = b := ⟨_, rfl⟩
  have A3 := Lib.hid fun w => has_any L H k a ha oL oH h5 w
  have A4 := Lib.hid fun w => has_any lo hi k b hb h1 h2 h5 w
  have A5 := Lib.hid fun w => has_any lo' hi' k c hc h3 h4 h5 w
  rw [ha, hb, hc] at e1
  have B1 := Lib.hid A1
  have B2 := Lib.hid A2
  have E := Lib.hid e1
  clear A1 A2
  clear hm h1 h2 h3 h4 h5 c1 c2 oL oH hL hH ha hb hc e1
  go_enter Try.func6, Try.ntmps6
  go_wp2_with fail
  refine (B1.out _).mono ?_
  rintro e w1 ⟨rfl, b1⟩
  have X1 := Lib.hid (((Box.new w 23 lo hi).alloc (.cells #[.string lo', .string hi'] 23)).below b1)
  have Y1 := Lib.hid ((Box.new2 w (.cells #[.string lo, .string hi] 23) 23 lo' hi').below b1)
  have D1 := Lib.hid (below_box2 b1)
  clear b1
  obtain ⟨fX0, fX1, fX2⟩ := X1.out
  obtain ⟨fY0, fY1, fY2⟩ := Y1.out
  go_wp2_with fail
  refine (B2.out _).mono ?_
  rintro e w2 ⟨rfl, b2⟩
  have X2 := Lib.hid ((X1.out.alloc (.cells #[.string L, .string H] 23)).below b2)
  have Y2 := Lib.hid ((Y1.out.alloc (.cells #[.string L, .string H] 23)).below b2)
  have Za2 := Lib.hid ((Box.new w1 23 L H).below b2)
  have D2 := Lib.hid (D1.out.trans ((below_box b2).mono D1.out.size))
  clear X1 Y1 D1 b2 fX0 fX1 fX2 fY0 fY1 fY2
  obtain ⟨fX0, fX1, fX2⟩ := X2.out
  obtain ⟨fY0, fY1, fY2⟩ := Y2.out
  obtain ⟨fZa0, fZa1, fZa2⟩ := Za2.out
  have SS : Box (w2.alloc (.cells #[.string L, .string H] 23)) w.heap.size lo hi ∧ Box (w2.alloc (.cells #[.string L, .string H] 23)) (w.heap.size + 1) lo' hi' ∧ Box (w2.alloc (.cells #[.string L, .string H] 23)) w1.heap.size L H ∧ Below w.heap.size w (w2.alloc (.cells #[.string L, .string H] 23)) := ⟨X2.out.alloc _, Y2.out.alloc _, Za2.out.alloc _, D2.out.alloc D2.out.size _⟩
  have HS := Lib.hid SS
  clear SS X2 Y2 Za2 D2
  cases m
  all_goals
    cases b
    all_goals
      cases c
      all_goals
        first
        | (exfalso; have hE := E.out; simp at hE; done)
        | (obtain rfl : a = _ := E.out)
        | skip
      all_goals
        clear E
        go_wp2_with fail
        obtain ⟨W, hW⟩ : ∃ W, W = w2.alloc (.cells #[.string L, .string H] 23) := ⟨_, rfl⟩
        rw [← hW] at HS ⊢
        clear hW fX0 fX1 fX2 fY0 fY1 fY2 fZa0 fZa1 fZa2
        obtain ⟨⟨fX0, fX1, fX2⟩, ⟨fY0, fY1, fY2⟩, ⟨fZ0, fZ1, fZ2⟩, DW⟩ := HS.out
        clear HS
        refine wp_region_below (by kernel_rfl) (by kernel_rfl) ?_
        repeat (first
          | (refine BigFrame.wpQuiet_skip ?_ ?_; rfl; simp only [Act.put, List.setIfInBounds_toArray, List.set_cons_zero, List.set_cons_succ])
          | (apply quiet_op
             rfl
             · (intro w' hw'
                obtain ⟨hc', hf'⟩ := bcell hw'
                go_simp
                first
                | done
                | exact rfl
                | (go_at_call 14; (with_reducible refine (A3.out _).mono ?_); rintro e w'' ⟨rfl, bb⟩; exact ⟨rfl, bt hw' bb⟩)
                | (go_at_call 14; (with_reducible refine (A4.out _).mono ?_); rintro e w'' ⟨rfl, bb⟩; exact ⟨rfl, bt hw' bb⟩)
                | (go_at_call 14; (with_reducible refine (A5.out _).mono ?_); rintro e w'' ⟨rfl, bb⟩; exact ⟨rfl, bt hw' bb⟩)
                | (go_at_call 16; refine (awake_any _).mono ?_; rintro e w'' ⟨rfl, bb⟩; exact ⟨rfl, bt hw' bb⟩))
             simp only [Act.put, List.setIfInBounds_toArray, List.set_cons_zero, List.set_cons_succ]))
        refine wpQuiet_nil ?_
        intro w' hw'
        go_wp2
        go_ret
        exact ⟨rfl, DW.trans (hw'.mono DW.size)⟩
end Go.Proofs.Ytmglgmljlaplcaa
