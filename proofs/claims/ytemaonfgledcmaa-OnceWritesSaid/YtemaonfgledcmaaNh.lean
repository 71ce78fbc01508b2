/-
  Layer 14 (once): contracts of may, May, Check, find, Find, of the document. Conditions: lists that are read.
-/
import Derived.Test.YtemaonfgledcmaaNg
import Derived.Test.YtemaonfgledcmaaRg
import Derived.Lib.MinMax
namespace Go.Proofs.Ytemaonfgledcmaa
open Go.RowKit
set_option linter.unusedVariables false
set_option linter.unusedSimpArgs false

set_option maxRecDepth 100000 in
set_option maxHeartbeats 2000000 in
theorem rmay14_any (x : Sn) (b : Bool) (h : mayS x = b) (w : World) : Calls Try.prog 36 #[sa x] w fun e w' => e = .returned (.bool b) ∧ Below w.heap.size w w' := by
  have HM := Lib.hid h
  clear h
  obtain ⟨c, s, e, v, hs, p, n, k, u⟩ := x
  have hno : ∀ P : Prop, (mayS ⟨c, s, e, v, hs, p, n, k, u⟩ = true → P) → ¬ P → b = false := fun P h1 h2 => by
    rw [← HM.out]
    cases q : mayS _ with
    | false => rfl
    | true => exact absurd (h1 q) h2
  by_cases c0 : 0 ≤ c
  case neg =>
    obtain rfl := hno _ (fun q => (mayS_iff.1 q).1.1) (by show ¬ 0 ≤ c; omega)
    clear hno
    go_enter Try.func36, Try.ntmps36
    go_wp2_with fail
    go_ret
    exact ⟨rfl, ((box_bel14 w _).alloc (by simp) _)⟩
  by_cases c1 : c ≤ 7
  case neg =>
    obtain rfl := hno _ (fun q => (mayS_iff.1 q).1.2) (by show ¬ c ≤ 7; omega)
    clear hno
    go_enter Try.func36, Try.ntmps36
    go_wp2_with fail
    go_ret
    exact ⟨rfl, ((box_bel14 w _).alloc (by simp) _)⟩
  by_cases s0 : 1 ≤ s
  case neg =>
    obtain rfl := hno _ (fun q => (mayS_iff.1 q).2.1.1) (by show ¬ 1 ≤ s; omega)
    clear hno
    go_enter Try.func36, Try.ntmps36
    go_wp2_with fail
    go_ret
    exact ⟨rfl, ((box_bel14 w _).alloc (by simp) _)⟩
  by_cases s1 : s ≤ 1099511627775
  case neg =>
    obtain rfl := hno _ (fun q => (mayS_iff.1 q).2.1.2) (by show ¬ s ≤ 1099511627775; omega)
    clear hno
    go_enter Try.func36, Try.ntmps36
    go_wp2_with fail
    go_ret
    exact ⟨rfl, ((box_bel14 w _).alloc (by simp) _)⟩
  by_cases hv : v.size = 0
  case neg =>
    obtain ⟨v1, v2⟩ := str_some hv
    obtain rfl := hno _ (fun q => (mayS_iff.1 q).2.2.1) hv
    clear hno
    go_enter Try.func36, Try.ntmps36
    go_wp2_with fail
    go_ret
    exact ⟨rfl, ((box_bel14 w _).alloc (by simp) _)⟩
  obtain rfl := str_empty hv
  by_cases hn : n = 0
  case neg =>
    obtain rfl := hno _ (fun q => (mayS_iff.1 q).2.2.2.1) hn
    have hn1 : ((n : Int) == 0) = false := by simpa using hn
    clear hno
    go_enter Try.func36, Try.ntmps36
    go_wp2_with fail
    go_ret
    exact ⟨rfl, ((box_bel14 w _).alloc (by simp) _)⟩
  subst hn
  by_cases hu : u.size = 0
  case neg =>
    obtain ⟨v1, v2⟩ := str_some hu
    obtain rfl := hno _ (fun q => (mayS_iff.1 q).2.2.2.2.1) hu
    clear hno
    go_enter Try.func36, Try.ntmps36
    go_wp2_with fail
    go_ret
    exact ⟨rfl, ((box_bel14 w _).alloc (by simp) _)⟩
  obtain rfl := str_empty hu
  by_cases e0 : 0 ≤ e
  case neg =>
    obtain rfl := hno _ (fun q => (mayS_iff.1 q).2.2.2.2.2.1) (by show ¬ 0 ≤ e; omega)
    clear hno
    go_enter Try.func36, Try.ntmps36
    go_wp2_with fail
    go_ret
    exact ⟨rfl, ((box_bel14 w _).alloc (by simp) _)⟩
  by_cases e1 : e ≤ 999
  case neg =>
    obtain rfl := hno _ (fun q => (mayS_iff.1 q).2.2.2.2.2.2) (by show ¬ e ≤ 999; omega)
    clear hno
    go_enter Try.func36, Try.ntmps36
    go_wp2_with fail
    go_ret
    exact ⟨rfl, ((box_bel14 w _).alloc (by simp) _)⟩
  obtain rfl : b = true := by
    rw [← HM.out]
    exact mayS_iff.2 ⟨⟨c0, c1⟩, ⟨s0, s1⟩, rfl, rfl, rfl, e0, e1⟩
  clear hno hv hu
  go_enter Try.func36, Try.ntmps36
  go_wp2_with fail
  go_ret
  exact ⟨rfl, ((box_bel14 w _).alloc (by simp) _)⟩
/-- The client ahead. -/
def lastc (l : List Sn) (k : Nat) : Int := if h : 0 < k ∧ k ≤ l.length then (l[k - 1]'(by omega)).c else -1
theorem lastc_succ {l : List Sn} {k : Nat} (h : k < l.length) : lastc l (k + 1) = l[k].c := by
  unfold lastc
  rw [dif_pos ⟨by omega, by omega⟩]
  rfl
set_option maxRecDepth 100000 in
set_option maxHeartbeats 4000000 in
theorem rMay14_any (a : Option Addr) (n cap : Nat) (l : List Sn) (b : Bool) (hb : chk l = b) (w : World) (h : SS w a n cap l) :
    Calls Try.prog 57 #[.slice a n cap] w fun e w' => e = .returned (.bool b) ∧ Below w.heap.size w w' := by
  obtain ⟨ab, off, ha, hb', hc⟩ := h.2.1.at_
  have hl := h.1
  have hnm : n ≤ maxLen := Nat.le_trans h.2.2.1 h.2.2.2
  unfold maxLen at hnm
  rw [hl] at ha hb'
  have HC := Lib.hid hc
  have HL := Lib.hid hl
  have HB := Lib.hid hb
  clear hc hl hb h
  go_enter Try.func57, Try.ntmps57
  go_wp2_with fail
  go_loopw [3] (fun i wr => ∃ k : Nat, i = .int .i64 k ∧ k ≤ n ∧ Hid (up (lastc l k) (l.drop k) = b) ∧ Hid (Below w.heap.size w wr)) (fun i _ => n - (intOf i).toNat)
  case atStart => exact ⟨0, by first | rfl | go_num, by omega, HB, Lib.hid (Below.refl _ _)⟩
  case round =>
    obtain ⟨k, rfl, hk, HU, HW⟩ := hrel
    by_cases hlt : k < n
    · have hki : (k : Int) < (n : Int) := by omega
      obtain rfl := ha (by omega)
      have hbw := hb' (by omega)
      have hkl : k < l.length := by rw [HL.out]; exact hlt
      have hws := HW.out.size
      have hbr : ab < wr.heap.size := Nat.lt_of_lt_of_le hbw hws
      have hcell := HC.out.old hbw HW.out
      obtain ⟨c0, c1, c2, c3, c4, c5, c6⟩ := hcell k hkl
      obtain ⟨z, hz⟩ : ∃ z, z = l[k] := ⟨_, rfl⟩
      have hu := up_drop (b := lastc l k) hkl
      have hls := lastc_succ hkl
      rw [HU.out, ← hz] at hu
      rw [← hz] at c0 c1 c2 c3 c4 c5 c6 hls
      obtain ⟨r, hr⟩ : ∃ r, r = mayS z := ⟨_, rfl⟩
      have HMB := Lib.hid (fun W => rmay14_any z r hr.symm W)
      rw [← hr] at hu
      have HU2 := Lib.hid hu
      have HLS := Lib.hid hls
      have HRM := Lib.hid hr
      clear hu hz hls hr
      rcases Nat.eq_zero_or_pos k with rfl | hk0
      · rw [Nat.zero_mul, Nat.add_zero] at c0 c1 c2 c3 c4 c5 c6
        clear hcell
        cases r with
        | false =>
          obtain rfl : b = false := by have := HU2.out; simpa using this
          go_wp2_with fail
          refine wp_region_below (by kernel_rfl) (by kernel_rfl) ?_
          repeat (first
            | go_big_quiet_skip
            | (go_big_quiet_want
               first
               | (refine BigFrame.quiet_move _ rfl ?_)
               | (refine BigFrame.quiet_assign _ rfl ?_)
               | (unfold Oper.quiet
                  apply Exists.intro
                  refine ⟨fun w' hw' => ?_, ?_⟩
                  · (obtain ⟨hc', hf'⟩ := bcell hw'
                     go_simp
                     first
                     | done
                     | exact rfl
                     | (go_at_call 36; (with_reducible refine (HMB.out _).mono ?_); rintro e w'' ⟨rfl, bb⟩; exact ⟨rfl, by first | exact bt hw' bb | simpa using bt hw' bb⟩)))
               go_big_quiet_on
               simp only [Act.put, Act.eval, List.setIfInBounds_toArray, List.set_cons_zero, List.set_cons_succ, Array.getD_eq_getD_getElem?, List.getElem?_toArray, List.getElem?_cons_zero, List.getElem?_cons_succ, Option.getD_some]))
          refine wpQuiet_nil ?_
          intro w' hw'
          clear c0 c1 c2 c3 c4 c5 c6
          go_wp2_with fail
          go_ret
          exact ⟨rfl, HW.out.trans (hw'.mono hws)⟩
        | true =>
          have hm := mayS_iff.1 HRM.out.symm
          have HU3 : Hid (up (lastc l (0 + 1)) (l.drop (0 + 1)) = b) := Lib.hid (by
            rw [HLS.out]
            have := HU2.out
            rw [Bool.true_and, decide_eq_true (show lastc l 0 < z.c by unfold lastc; rw [dif_neg (by omega)]; omega), Bool.true_and] at this
            exact this.symm)
          clear hm
          go_wp2_with fail
          refine wp_region_below (by kernel_rfl) (by kernel_rfl) ?_
          repeat (first
            | go_big_quiet_skip
            | (go_big_quiet_want
               first
               | (refine BigFrame.quiet_move _ rfl ?_)
               | (refine BigFrame.quiet_assign _ rfl ?_)
               | (unfold Oper.quiet
                  apply Exists.intro
                  refine ⟨fun w' hw' => ?_, ?_⟩
                  · (obtain ⟨hc', hf'⟩ := bcell hw'
                     go_simp
                     first
                     | done
                     | exact rfl
                     | (go_at_call 36; (with_reducible refine (HMB.out _).mono ?_); rintro e w'' ⟨rfl, bb⟩; exact ⟨rfl, by first | exact bt hw' bb | simpa using bt hw' bb⟩)))
               go_big_quiet_on
               simp only [Act.put, Act.eval, List.setIfInBounds_toArray, List.set_cons_zero, List.set_cons_succ, Array.getD_eq_getD_getElem?, List.getElem?_toArray, List.getElem?_cons_zero, List.getElem?_cons_succ, Option.getD_some]))
          refine wpQuiet_nil ?_
          intro w' hw'
          clear c0 c1 c2 c3 c4 c5 c6
          go_wp2_with fail
          go_roundw
          case rel => exact ⟨0 + 1, by go_num, by omega, HU3, Lib.hid (HW.out.trans (hw'.mono hws))⟩
          case measure => simp [intOf]; omega
      · obtain ⟨j, hj⟩ : ∃ j, k = j + 1 := ⟨k - 1, by omega⟩
        have hjl : j < l.length := by omega
        obtain ⟨d0, -⟩ := hcell j hjl
        obtain ⟨la, hla⟩ : ∃ la, la = l[j].c := ⟨_, rfl⟩
        rw [← hla] at d0
        have HLA := Lib.hid (show lastc l k = la by rw [hj, lastc_succ hjl, hla])
        clear hla hcell
        have hjn : j < n := by omega
        have hji : (j : Int) < (n : Int) := by omega
        have hj0 : (0 : Int) ≤ (j : Int) := by omega
        have hk00 : (0 : Int) < (k : Int) := by omega
        have hsub : (k : Int) - 1 = (j : Int) := by omega
        have hwr : IntKind.i64.wrap (j : Int) = (j : Int) := IntWalk.i64_in _ (by omega)
        rw [HLA.out] at HU2
        clear hj
        cases r with
        | false =>
          obtain rfl : b = false := by have := HU2.out; simpa using this
          go_wp2_with fail
          refine wp_region_below (by kernel_rfl) (by kernel_rfl) ?_
          repeat (first
            | go_big_quiet_skip
            | (go_big_quiet_want
               first
               | (refine BigFrame.quiet_move _ rfl ?_)
               | (refine BigFrame.quiet_assign _ rfl ?_)
               | (unfold Oper.quiet
                  apply Exists.intro
                  refine ⟨fun w' hw' => ?_, ?_⟩
                  · (obtain ⟨hc', hf'⟩ := bcell hw'
                     go_simp
                     first
                     | done
                     | exact rfl
                     | (go_at_call 36; (with_reducible refine (HMB.out _).mono ?_); rintro e w'' ⟨rfl, bb⟩; exact ⟨rfl, by first | exact bt hw' bb | simpa using bt hw' bb⟩)))
               go_big_quiet_on
               simp only [Act.put, Act.eval, List.setIfInBounds_toArray, List.set_cons_zero, List.set_cons_succ, Array.getD_eq_getD_getElem?, List.getElem?_toArray, List.getElem?_cons_zero, List.getElem?_cons_succ, Option.getD_some]))
          refine wpQuiet_nil ?_
          intro w' hw'
          clear c0 c1 c2 c3 c4 c5 c6 d0
          go_wp2_with fail
          go_ret
          exact ⟨rfl, HW.out.trans (hw'.mono hws)⟩
        | true =>
          by_cases hcl : la < z.c
          · have HU3 : Hid (up (lastc l (k + 1)) (l.drop (k + 1)) = b) := Lib.hid (by
              rw [HLS.out]
              have := HU2.out
              rw [Bool.true_and, decide_eq_true hcl, Bool.true_and] at this
              exact this.symm)
            have hge : ¬ la ≥ z.c := by omega
            go_wp2_with fail
            refine wp_region_below (by kernel_rfl) (by kernel_rfl) ?_
            repeat (first
              | go_big_quiet_skip
              | (go_big_quiet_want
                 first
                 | (refine BigFrame.quiet_move _ rfl ?_)
                 | (refine BigFrame.quiet_assign _ rfl ?_)
                 | (unfold Oper.quiet
                    apply Exists.intro
                    refine ⟨fun w' hw' => ?_, ?_⟩
                    · (obtain ⟨hc', hf'⟩ := bcell hw'
                       go_simp
                       first
                       | done
                       | exact rfl
                       | (go_at_call 36; (with_reducible refine (HMB.out _).mono ?_); rintro e w'' ⟨rfl, bb⟩; exact ⟨rfl, by first | exact bt hw' bb | simpa using bt hw' bb⟩)))
                 go_big_quiet_on
                 simp only [Act.put, Act.eval, List.setIfInBounds_toArray, List.set_cons_zero, List.set_cons_succ, Array.getD_eq_getD_getElem?, List.getElem?_toArray, List.getElem?_cons_zero, List.getElem?_cons_succ, Option.getD_some]))
            refine wpQuiet_nil ?_
            intro w' hw'
            clear c0 c1 c2 c3 c4 c5 c6 d0
            go_wp2_with fail
            go_roundw
            case rel => exact ⟨k + 1, by go_num, by omega, HU3, Lib.hid (HW.out.trans (hw'.mono hws))⟩
            case measure => simp [intOf]; omega
          · obtain rfl : b = false := by have := HU2.out; rw [this]; simp [hcl]
            have hge : la ≥ z.c := by omega
            go_wp2_with fail
            refine wp_region_below (by kernel_rfl) (by kernel_rfl) ?_
            repeat (first
              | go_big_quiet_skip
              | (go_big_quiet_want
                 first
                 | (refine BigFrame.quiet_move _ rfl ?_)
                 | (refine BigFrame.quiet_assign _ rfl ?_)
                 | (unfold Oper.quiet
                    apply Exists.intro
                    refine ⟨fun w' hw' => ?_, ?_⟩
                    · (obtain ⟨hc', hf'⟩ := bcell hw'
                       go_simp
                       first
                       | done
                       | exact rfl
                       | (go_at_call 36; (with_reducible refine (HMB.out _).mono ?_); rintro e w'' ⟨rfl, bb⟩; exact ⟨rfl, by first | exact bt hw' bb | simpa using bt hw' bb⟩)))
                 go_big_quiet_on
                 simp only [Act.put, Act.eval, List.setIfInBounds_toArray, List.set_cons_zero, List.set_cons_succ, Array.getD_eq_getD_getElem?, List.getElem?_toArray, List.getElem?_cons_zero, List.getElem?_cons_succ, Option.getD_some]))
            refine wpQuiet_nil ?_
            intro w' hw'
            clear c0 c1 c2 c3 c4 c5 c6 d0
            go_wp2_with fail
            go_ret
            exact ⟨rfl, HW.out.trans (hw'.mono hws)⟩
    · obtain rfl : k = n := by omega
      obtain rfl : b = true := by
        have := HU.out
        rw [← HL.out, List.drop_length] at this
        exact this.symm
      go_wp2_with fail
      go_ret
      exact ⟨rfl, HW.out⟩
/-- Where a client stands. -/
def FX (l : List Sn) (c : Int) (z : Int) : Prop := (z = -1 ∧ look l c = none) ∨ ∃ k, ∃ h : k < l.length, z = (k : Int) ∧ look l c = some l[k]
def FXR (l : List Sn) (c : Int) (w : World) (e : Ending) (w' : World) : Prop := ∃ z, e = .returned (.int .i64 z) ∧ FX l c z ∧ w = w'
theorem look_take {l : List Sn} {c : Int} {k : Nat} (h : k < l.length) (hn : look (l.take k) c = none) : (l[k].c = c → look l c = some l[k]) ∧ (¬ l[k].c = c → look (l.take (k + 1)) c = none) := by
  constructor
  · intro e
    have e2 : look (l.take k ++ l[k] :: l.drop (k + 1)) c = some l[k] := by rw [look_app, hn, Option.none_or, look_cons, if_pos e]
    rwa [← List.drop_eq_getElem_cons h, List.take_append_drop] at e2
  · intro e
    rw [List.take_succ_eq_append_getElem h, look_app, hn, Option.none_or, look_cons, if_neg e, look_nil]
set_option maxRecDepth 100000 in
set_option maxHeartbeats 2000000 in
theorem rfind14_any (a : Option Addr) (n cap : Nat) (l : List Sn) (c : Int) (w : World) (h : SS w a n cap l) :
    Calls Try.prog 58 #[.slice a n cap, .int .i64 c] w (FXR l c w) := by
  obtain ⟨ab, off, ha, hb', hc⟩ := h.2.1.at_
  have hl := h.1
  have hnm : n ≤ maxLen := Nat.le_trans h.2.2.1 h.2.2.2
  unfold maxLen at hnm
  rw [hl] at ha hb'
  have HC := Lib.hid hc
  have HL := Lib.hid hl
  clear hc hl h
  go_enter Try.func58, Try.ntmps58
  go_wp2_with fail
  go_loop [5] (fun i => ∃ k : Nat, i = .int .i64 k ∧ k ≤ n ∧ Hid (look (l.take k) c = none)) (fun i => n - (intOf i).toNat)
  case atStart => exact ⟨0, by first | rfl | go_num, by omega, Lib.hid (by simp [look_nil])⟩
  case round =>
    obtain ⟨k, rfl, hk, HU⟩ := hrel
    by_cases hlt : k < n
    · have hki : (k : Int) < (n : Int) := by omega
      obtain rfl := ha (by omega)
      have hkl : k < l.length := by rw [HL.out]; exact hlt
      obtain ⟨c0, -⟩ := HC.out k hkl
      obtain ⟨z, hz⟩ : ∃ z, z = l[k].c := ⟨_, rfl⟩
      have HLT := Lib.hid (look_take hkl HU.out)
      rw [← hz] at c0
      rw [← hz] at HLT
      clear hz
      by_cases heq : z = c
      · have hq : (z == c) = true := by simpa using heq
        have HFX := Lib.hid (HLT.out.1 heq)
        clear heq
        go_wp2_with fail
        go_ret
        exact ⟨_, rfl, .inr ⟨k, hkl, rfl, HFX.out⟩, rfl⟩
      · have hq : (z == c) = false := by simpa using heq
        have HFX := Lib.hid (HLT.out.2 heq)
        clear heq
        go_wp2_with fail
        go_round
        case rel => exact ⟨k + 1, by go_num, by omega, HFX⟩
        case measure => simp [intOf]; omega
    · obtain rfl : k = n := by omega
      go_wp2_with fail
      go_ret
      refine ⟨_, rfl, .inl ⟨rfl, ?_⟩, rfl⟩
      have := HU.out
      rwa [← HL.out, List.take_length] at this
end Go.Proofs.Ytemaonfgledcmaa
