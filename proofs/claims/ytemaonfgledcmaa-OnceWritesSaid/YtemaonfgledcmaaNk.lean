/-
  Layer 14 (once): contracts of SameReply, Same, light, made. Conditions: lists that are read; for Same that they are the same.
-/
import Derived.Test.YtemaonfgledcmaaNj
namespace Go.Proofs.Ytemaonfgledcmaa
open Go.RowKit
set_option linter.unusedVariables false
set_option linter.unusedSimpArgs false

/-- No value, no pairs, no end. -/
def bareS (x : Sn) : Prop := x.v.size = 0 ∧ x.n = 0 ∧ x.u.size = 0
theorem bareS_may {x : Sn} (h : mayS x = true) : bareS x := ⟨(mayS_iff.1 h).2.2.1, (mayS_iff.1 h).2.2.2.1, (mayS_iff.1 h).2.2.2.2.1⟩
theorem bareS_norm (x : Sn) : bareS (normS x) := ⟨rfl, rfl, rfl⟩
theorem bareS_Z0 : bareS Z0 := ⟨rfl, rfl, rfl⟩
set_option maxRecDepth 100000 in
set_option maxHeartbeats 2000000 in
theorem sameReply_any (x y : Sn) (hx : bareS x) (hy : bareS y) (he : x.e = y.e) (hh : x.h = y.h) (w : World) :
    Calls Try.prog 32 #[ra x, ra y] w fun e w' => e = .returned (.bool true) ∧ Below w.heap.size w w' := by
  obtain ⟨c, s, e, v, hs, p, n, k, u⟩ := x
  obtain ⟨c2, s2, e2, v2, hs2, p2, n2, k2, u2⟩ := y
  obtain ⟨h1, h2, h3⟩ := hx
  obtain ⟨g1, g2, g3⟩ := hy
  simp only at h1 h2 h3 g1 g2 g3 he hh
  obtain rfl := str_empty h1
  obtain rfl := str_empty h3
  obtain rfl := str_empty g1
  obtain rfl := str_empty g3
  subst he hh h2 g2
  clear h1 h3 g1 g3
  go_enter Try.func32, Try.ntmps32
  cases hs with
  | true =>
    go_wp2_with fail
    refine wp_loop_rounds 1 ?_
    rw [rounds_succ]
    go_wp2_with fail
    go_ret
    exact ⟨rfl, (box_bel14 w _).alloc (by simp) _⟩
  | false =>
    go_wp2_with fail
    refine wp_loop_rounds 1 ?_
    rw [rounds_succ]
    go_wp2_with fail
    go_ret
    exact ⟨rfl, (box_bel14 w _).alloc (by simp) _⟩
theorem norm_eq {x y : Sn} (h : normS x = normS y) : x.c = y.c ∧ x.s = y.s ∧ x.e = y.e ∧ x.h = y.h := by
  unfold normS at h
  injection h with h1 h2 h3 h4 h5
  exact ⟨h1, h2, h3, h5⟩
set_option maxRecDepth 100000 in
set_option maxHeartbeats 4000000 in
theorem same14_any (a : Option Addr) (n cap : Nat) (l : List Sn) (a2 : Option Addr) (n2 cap2 : Nat) (m : List Sn) (w : World) (h : SS w a n cap l) (h2 : SS w a2 n2 cap2 m)
    (hl : ∀ x ∈ l, bareS x) (hm : ∀ x ∈ m, bareS x) (he : l.map normS = m.map normS) :
    Calls Try.prog 13 #[.slice a n cap, .slice a2 n2 cap2] w fun e w' => e = .returned (.bool true) ∧ Below w.heap.size w w' := by
  have hnn : n2 = n := by rw [← h.1, ← h2.1, show l.length = (l.map normS).length by simp, he, List.length_map]
  subst hnn
  obtain ⟨ab, off, ha, hb, hc⟩ := h.2.1.at_
  obtain ⟨ab2, off2, ha2, hb2, hc2⟩ := h2.2.1.at_
  have hnm : n2 ≤ maxLen := Nat.le_trans h.2.2.1 h.2.2.2
  unfold maxLen at hnm
  rw [h.1] at ha hb
  rw [h2.1] at ha2 hb2
  have HL := Lib.hid (And.intro h.1 h2.1)
  have HC := Lib.hid (And.intro hc hc2)
  have HE := Lib.hid he
  have HLM := Lib.hid (And.intro hl hm)
  clear hc hc2 he hl hm h h2
  go_enter Try.func13, Try.ntmps13
  go_wp2_with fail
  go_loopw [5] (fun i wr => ∃ k : Nat, i = .int .i64 k ∧ k ≤ n2 ∧ Hid (Below w.heap.size w wr)) (fun i _ => n2 - (intOf i).toNat)
  case atStart => exact ⟨0, by first | rfl | go_num, by omega, Lib.hid (Below.refl _ _)⟩
  case round =>
    obtain ⟨k, rfl, hk, HW⟩ := hrel
    by_cases hlt : k < n2
    · have hki : (k : Int) < (n2 : Int) := by omega
      obtain rfl := ha (by omega)
      obtain rfl := ha2 (by omega)
      have hbw := hb (by omega)
      have hbw2 := hb2 (by omega)
      have hkl : k < l.length := by rw [HL.out.1]; exact hlt
      have hkm : k < m.length := by rw [HL.out.2]; exact hlt
      have hws := HW.out.size
      have hbr : ab < wr.heap.size := Nat.lt_of_lt_of_le hbw hws
      have hbr2 : ab2 < wr.heap.size := Nat.lt_of_lt_of_le hbw2 hws
      obtain ⟨c0, c1, c2, c3, c4, c5, c6⟩ := HC.out.1.old hbw HW.out k hkl
      obtain ⟨d0, d1, d2, d3, d4, d5, d6⟩ := HC.out.2.old hbw2 HW.out k hkm
      have hnq : normS l[k] = normS m[k] := by
        have h1 : (l.map normS)[k]? = (m.map normS)[k]? := by rw [HE.out]
        rw [List.getElem?_map, List.getElem?_map, List.getElem?_eq_getElem hkl, List.getElem?_eq_getElem hkm] at h1
        simpa using h1
      have hb1 := HLM.out.1 l[k] (List.getElem_mem hkl)
      have hb2' := HLM.out.2 m[k] (List.getElem_mem hkm)
      obtain ⟨x, hx⟩ : ∃ x, x = l[k] := ⟨_, rfl⟩
      obtain ⟨y, hy⟩ : ∃ y, y = m[k] := ⟨_, rfl⟩
      rw [← hx] at c0 c1 c2 c3 c4 c5 c6 hnq hb1
      rw [← hy] at d0 d1 d2 d3 d4 d5 d6 hnq hb2'
      obtain ⟨n0, n1, n2', n3⟩ := norm_eq hnq
      have HSR := Lib.hid (sameReply_any x y hb1 hb2' n2' n3)
      rw [← n0] at d0
      rw [← n1] at d1
      clear hx hy hnq hb1 hb2' n0 n1 n2' n3
      go_wp2_with fail
      refine wp_region_below (by kernel_rfl) (by kernel_rfl) ?_
      repeat (first
        | go_big_quiet_skip
        | (go_big_quiet_want
           first
           | (refine BigFrame.quiet_move _ rfl ?_)
           | (refine BigFrame.quiet_assign _ rfl ?_)
           | (unfold Oper.quiet
              apply Exists.intro
              refine ⟨fun w' hw' => ?_, ?_⟩
              · (obtain ⟨hc', hf'⟩ := bcell hw'
                 go_simp
                 first
                 | done
                 | exact rfl
                 | (go_at_call 32; (with_reducible refine (HSR.out _).mono ?_); rintro e w'' ⟨rfl, bb⟩; exact ⟨rfl, by first | exact bt hw' bb | simpa using bt hw' bb⟩)))
           go_big_quiet_on
           simp only [Act.put, Act.eval, List.setIfInBounds_toArray, List.set_cons_zero, List.set_cons_succ, Array.getD_eq_getD_getElem?, List.getElem?_toArray, List.getElem?_cons_zero, List.getElem?_cons_succ, Option.getD_some]))
      refine wpQuiet_nil ?_
      intro w' hw'
      clear c0 c1 c2 c3 c4 c5 c6 d0 d1 d2 d3 d4 d5 d6
      go_wp2_with fail
      go_roundw
      case rel => exact ⟨k + 1, by go_num, by omega, Lib.hid (HW.out.trans (hw'.mono hws))⟩
      case measure => simp [intOf]; omega
    · obtain rfl : k = n2 := by omega
      go_wp2_with fail
      go_ret
      exact ⟨rfl, HW.out⟩
/-- Is there little of each client? -/
def lite1 (x : Sn) : Bool := decide (x.v.size ≤ 100) && decide (x.n ≤ 20) && decide (x.u.size ≤ 100)
def liteS (l : List Sn) : Bool := l.all lite1 && decide (l.length ≤ 20)
theorem lite_take {l : List Sn} {k : Nat} (hk : k < l.length) : (l.take (k + 1)).all lite1 = ((l.take k).all lite1 && lite1 l[k]) := by
  rw [List.take_succ_eq_append_getElem hk, List.all_append]; simp
theorem lite_no {l : List Sn} {k : Nat} (hk : k < l.length) (h : lite1 l[k] = false) : liteS l = false := by
  unfold liteS
  cases q : l.all lite1 with
  | false => rfl
  | true => rw [List.all_eq_true] at q; rw [q _ (List.getElem_mem hk)] at h; cases h
set_option maxRecDepth 100000 in
set_option maxHeartbeats 4000000 in
theorem light14_any (a : Option Addr) (n cap : Nat) (l : List Sn) (b : Bool) (hb0 : liteS l = b) (w : World) (h : SS w a n cap l) :
    Calls Try.prog 9 #[.slice a n cap] w fun e w' => e = .returned (.bool b) ∧ Below w.heap.size w w' := by
  obtain ⟨ab, off, ha, hb, hc⟩ := h.2.1.at_
  have hnm : n ≤ maxLen := Nat.le_trans h.2.2.1 h.2.2.2
  unfold maxLen at hnm
  rw [h.1] at ha hb
  have HL := Lib.hid h.1
  have HC := Lib.hid hc
  have HB := Lib.hid hb0
  clear hc hb0 h
  go_enter Try.func9, Try.ntmps9
  go_wp2_with fail
  go_loopw [3] (fun i wr => ∃ k : Nat, i = .int .i64 k ∧ k ≤ n ∧ k ≤ 20 ∧ Hid ((l.take k).all lite1 = true) ∧ Hid (Below w.heap.size w wr)) (fun i _ => n - (intOf i).toNat)
  case atStart => exact ⟨0, by first | rfl | go_num, by omega, by omega, Lib.hid rfl, Lib.hid (Below.refl _ _)⟩
  case round =>
    obtain ⟨k, rfl, hk, hk20, HK, HW⟩ := hrel
    have hws := HW.out.size
    by_cases hlt : k < n
    · have hki : (k : Int) < (n : Int) := by omega
      by_cases h20 : k < 20
      · have h20i : (k : Int) < 20 := by omega
        obtain rfl := ha (by omega)
        have hbw := hb (by omega)
        have hkl : k < l.length := by rw [HL.out]; exact hlt
        have hbr : ab < wr.heap.size := Nat.lt_of_lt_of_le hbw hws
        obtain ⟨c0, c1, c2, c3, c4, c5, c6⟩ := HC.out.old hbw HW.out k hkl
        have hno := lite_no hkl
        have hyes := lite_take hkl
        rw [HK.out, Bool.true_and] at hyes
        obtain ⟨x, hx⟩ : ∃ x, x = l[k] := ⟨_, rfl⟩
        rw [← hx] at c0 c1 c2 c3 c4 c5 c6 hno hyes
        rw [HB.out] at hno
        obtain ⟨xc, xs, xe, xv, xh, xp, xn, xk, xu⟩ := x
        simp only at c0 c1 c2 c3 c4 c5 c6
        have HNO := Lib.hid hno
        have HYE := Lib.hid hyes
        clear hx hno hyes
        by_cases h1 : xv.size ≤ 100
        case neg =>
          obtain rfl : b = false := HNO.out (by unfold lite1; rw [decide_eq_false (show ¬ xv.size ≤ 100 from h1)]; rfl)
          have h1i : (xv.size : Int) > 100 := by omega
          go_wp2_with fail
          go_ret
          exact ⟨rfl, HW.out⟩
        have h1i : ¬ (xv.size : Int) > 100 := by omega
        by_cases h2 : xn ≤ 20
        case neg =>
          obtain rfl : b = false := HNO.out (by unfold lite1; rw [decide_eq_false (show ¬ xn ≤ 20 from h2)]; simp)
          have h2i : (xn : Int) > 20 := by omega
          go_wp2_with fail
          go_ret
          exact ⟨rfl, HW.out⟩
        have h2i : ¬ (xn : Int) > 20 := by omega
        by_cases h3 : xu.size ≤ 100
        case neg =>
          obtain rfl : b = false := HNO.out (by unfold lite1; rw [decide_eq_false (show ¬ xu.size ≤ 100 from h3)]; simp)
          have h3i : (xu.size : Int) > 100 := by omega
          go_wp2_with fail
          go_ret
          exact ⟨rfl, HW.out⟩
        have h3i : ¬ (xu.size : Int) > 100 := by omega
        have HK2 := Lib.hid (HYE.out.trans (show lite1 ⟨xc, xs, xe, xv, xh, xp, xn, xk, xu⟩ = true by unfold lite1; simp [h1, h2, h3]))
        go_wp2_with fail
        go_roundw
        case rel => exact ⟨k + 1, by go_num, by omega, by omega, HK2, Lib.hid (HW.out)⟩
        case measure => simp [intOf]; omega
      · have h20i : ¬ (k : Int) < 20 := by omega
        obtain rfl : b = false := by rw [← HB.out]; unfold liteS; rw [HL.out, decide_eq_false (by omega)]; simp
        have hn20 : ¬ (n : Int) ≤ 20 := by omega
        go_wp2_with fail
        go_ret
        exact ⟨rfl, HW.out⟩
    · obtain rfl : k = n := by omega
      obtain rfl : b = true := by
        rw [← HB.out]; unfold liteS
        have := HK.out
        rw [← HL.out, List.take_length] at this
        rw [this, HL.out, decide_eq_true hk20]; rfl
      have hn20 : (k : Int) ≤ 20 := by omega
      go_wp2_with fail
      go_ret
      exact ⟨rfl, HW.out⟩
theorem md_drop {l O : List Sn} {k : Nat} (hk : k < l.length) : (l.drop k).foldl mdS O = (l.drop (k + 1)).foldl mdS (mdS O l[k]) := by
  rw [List.drop_eq_getElem_cons hk]; rfl
set_option maxRecDepth 100000 in
set_option maxHeartbeats 4000000 in
theorem made14_any (a : Option Addr) (n cap : Nat) (l : List Sn) (w : World) (h : SS w a n cap l) :
    Calls Try.prog 16 #[.slice a n cap] w (LT (md l) w) := by
  obtain ⟨ab, off, ha, hb, hc⟩ := h.2.1.at_
  have hnm : n ≤ maxLen := Nat.le_trans h.2.2.1 h.2.2.2
  unfold maxLen at hnm
  rw [h.1] at ha hb
  have HL := Lib.hid h.1
  have HC := Lib.hid hc
  clear hc h
  go_enter Try.func16, Try.ntmps16
  go_wp2_with fail
  go_loopw [3, 4, 5, 6] (fun s i _ _ wr => ∃ (k q : Nat) (oa : Option Addr) (oc : Nat) (O : List Sn), s = .slice oa q oc ∧ i = .int .i64 k ∧ k ≤ n ∧ Hid ((l.drop k).foldl mdS O = md l) ∧ Hid (chk O = true) ∧ Hid (SS wr oa q oc O) ∧ Hid (Below w.heap.size w wr)) (fun _ i _ _ _ => n - (intOf i).toNat)
  case atStart => exact ⟨0, 0, none, 0, [], rfl, by first | rfl | go_num, by omega, Lib.hid rfl, Lib.hid rfl, Lib.hid (SS.none _), Lib.hid (Below.refl _ _)⟩
  case round =>
    obtain ⟨k, q, oa, oc, O, rfl, rfl, hk, HF, HCO, HSO, HW⟩ := hrel
    have hws := HW.out.size
    by_cases hlt : k < n
    · have hki : (k : Int) < (n : Int) := by omega
      obtain rfl := ha (by omega)
      have hbw := hb (by omega)
      have hkl : k < l.length := by rw [HL.out]; exact hlt
      have hbr : ab < wr.heap.size := Nat.lt_of_lt_of_le hbw hws
      obtain ⟨c0, c1, c2, c3, c4, c5, c6⟩ := HC.out.old hbw HW.out k hkl
      obtain ⟨x, hx⟩ : ∃ x, x = l[k] := ⟨_, rfl⟩
      have hmd := md_drop (O := O) hkl
      rw [← hx] at c0 c1 c2 c3 c4 c5 c6 hmd
      rw [HF.out] at hmd
      have HMD := Lib.hid hmd
      have HQ : Hid (q ≤ 8) := Lib.hid (by rw [← HSO.out.1]; exact chk_len HCO.out)
      obtain ⟨E, hE⟩ : ∃ E, E = putE O x := ⟨_, rfl⟩
      have HPU := Lib.hid (rPut14_any oa q oc O x (by have := HQ.out; omega) wr HSO.out)
      rw [← hE] at HPU
      have HE := Lib.hid hE
      clear hx hmd hE
      go_wp2_with fail
      refine HPU.out.mono ?_
      rintro e w2 ⟨a2, n2, c2', rfl, hs2, hb2⟩
      have HS2 := Lib.hid hs2
      have HB2 := Lib.hid (HW.out.trans (hb2.mono hws))
      have HSO2 := Lib.hid (HSO.out.old hb2)
      clear hs2 hb2 c0 c1 c2 c3 c4 c5 c6 HPU
      by_cases hE0 : E = 0
      · have HE0 : Hid (putE O x = 0) := Lib.hid (HE.out.symm.trans hE0)
        have hq : (E == 0) = true := by rw [hE0]; rfl
        have HF2 : Hid ((l.drop (k + 1)).foldl mdS (putL O x) = md l) := Lib.hid (by rw [HMD.out]; unfold mdS; rw [if_pos HE0.out, (putL_ok HE0.out).1])
        have HC2 : Hid (chk (putL O x) = true) := Lib.hid (by rw [(putL_ok HE0.out).1]; exact pt_chk HCO.out (putL_ok HE0.out).2.2.1)
        clear hE0
        go_wp2_with fail
        go_roundw
        case rel => exact ⟨k + 1, n2, a2, c2', _, rfl, by go_num, by omega, HF2, HC2, HS2, HB2⟩
        case measure => simp [intOf]; omega
      · have HE0 : Hid (¬ putE O x = 0) := Lib.hid (by rw [← HE.out]; exact hE0)
        have hq : (E == 0) = false := by rw [beq_eq_false_iff_ne]; exact hE0
        have HF2 : Hid ((l.drop (k + 1)).foldl mdS O = md l) := Lib.hid (by rw [HMD.out]; unfold mdS; rw [if_neg HE0.out])
        clear hE0
        go_wp2_with fail
        go_roundw
        case rel => exact ⟨k + 1, q, oa, oc, _, rfl, by go_num, by omega, HF2, HCO, HSO2, HB2⟩
        case measure => simp [intOf]; omega
    · obtain rfl : k = n := by omega
      have hf := HF.out
      rw [← HL.out, List.drop_length] at hf
      have HF2 := Lib.hid (show O = md l from hf)
      clear hf
      go_wp2_with fail
      go_ret
      exact ⟨oa, q, oc, rfl, by rw [← HF2.out]; exact HSO.out, HW.out⟩
end Go.Proofs.Ytemaonfgledcmaa
