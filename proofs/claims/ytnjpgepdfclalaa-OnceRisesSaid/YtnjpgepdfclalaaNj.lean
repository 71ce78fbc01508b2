/-
  Layer 14 (once): contracts of Find, Put, Join, of the document. Conditions: lists that are read, at most 100.
-/
import Derived.Test.YtnjpgepdfclalaaNi
namespace Go.Proofs.Ytnjpgepdfclalaa
open Go.RowKit
set_option linter.unusedVariables false
set_option linter.unusedSimpArgs false

theorem rfind_res (tmps : Array Value) (w : World) (x : Nat) (X : Sn) (E : Int) (h : w.rangeAt x 0 [.int .i64 X.e, .string X.v, .bool X.h, .slice X.p X.n X.k, .string X.u]) (h2 : tmps.getD 6 undef = .pointer (some ⟨x, 0, none⟩)) (h3 : tmps.getD 7 undef = .int .i64 E) :
    (results Try.f11 tmps).run Try.prog w = .ok (.tuple #[ra X, .int .i64 E]) w := by
  have hl := run_loadVar_mid (P := Try.prog) w x 0 27 _ _ h Try.underlying27 rfl size5
  rw [Array.getD_eq_getD_getElem?] at h2 h3
  simp [results, Try.results11, asAddr, hl, h2, h3]
set_option maxRecDepth 100000 in
set_option maxHeartbeats 4000000 in
theorem rFind14_any (a : Option Addr) (n cap : Nat) (l : List Sn) (c s : Int) (w : World) (h : SS w a n cap l) :
    Calls Try.prog 11 #[.slice a n cap, .int .i64 c, .int .i64 s] w fun e w' => e = .returned (.tuple #[ra (fndS l c s), .int .i64 (fndE l c s)]) ∧ Below w.heap.size w w' := by
  obtain ⟨ab, off, ha, hb', hc⟩ := h.2.1.at_
  have hl := h.1
  have hnm : n ≤ maxLen := Nat.le_trans h.2.2.1 h.2.2.2
  unfold maxLen at hnm
  rw [hl] at ha hb'
  have HSS := Lib.hid h
  have HC := Lib.hid hc
  have HL := Lib.hid hl
  obtain ⟨b, hb⟩ : ∃ b, b = chk l := ⟨_, rfl⟩
  have b0 := box_bel14 w (.cells #[.int .i64 0, .string ⟨#[]⟩, .bool false, .slice none 0 0, .string ⟨#[]⟩] 27)
  have HP := Lib.hid (rMay14_any a n cap l b hb.symm (w.alloc (.cells #[.int .i64 0, .string ⟨#[]⟩, .bool false, .slice none 0 0, .string ⟨#[]⟩] 27)) (h.old b0))
  have HBB := Lib.hid hb
  obtain ⟨E, hE⟩ : ∃ E, E = fndE l c s := ⟨_, rfl⟩
  obtain ⟨X, hX⟩ : ∃ X, X = fndS l c s := ⟨_, rfl⟩
  rw [← hE, ← hX]
  have HEX := Lib.hid (And.intro hE hX)
  have hno : (chk l && cliB c && seqB s) = false → E = 1 ∧ X = Z0 := fun k => by
    have : fndE l c s = 1 := by unfold fndE; rw [k]; rfl
    rw [hE, hX]
    unfold fndS
    rw [this]; exact ⟨rfl, rfl⟩
  have HNO := Lib.hid hno
  clear hno hE hX hb hc hl h
  go_enter Try.func11, Try.ntmps11
  go_wp2_with fail
  have HB0 := Lib.hid b0
  have HTH := Lib.hid (there5 w)
  obtain ⟨rb, hrb⟩ : ∃ rb, rb = w.heap.size := ⟨_, rfl⟩
  have HRB := Lib.hid hrb
  rw [← hrb] at HTH ⊢
  clear hrb b0
  have hw1 : w.heap.size ≤ (w.alloc (.cells #[.int .i64 0, .string ⟨#[]⟩, .bool false, .slice none 0 0, .string ⟨#[]⟩] 27)).heap.size := by simp
  have HLT := Lib.hid (show rb < (w.alloc (.cells #[.int .i64 0, .string ⟨#[]⟩, .bool false, .slice none 0 0, .string ⟨#[]⟩] 27)).heap.size by rw [HRB.out]; simp)
  generalize w.alloc (.cells #[.int .i64 0, .string ⟨#[]⟩, .bool false, .slice none 0 0, .string ⟨#[]⟩] 27) = w1 at *
  refine HP.out.mono ?_
  rintro e w3 ⟨rfl, hb2⟩
  have HB3 := Lib.hid (HB0.out.trans (hb2.mono hw1))
  have HT3 := Lib.hid (there_below HTH.out HLT.out hb2)
  clear hb2 HP HB0 HTH HLT hw1
  cases b with
  | false =>
    obtain ⟨rfl, rfl⟩ := HNO.out (by rw [← HBB.out]; rfl)
    clear HNO
    go_wp2_with (with_reducible refine wpList_store_mid rfl 27 (.tmp 6) (.tmp 28) rfl rb 0 #[.int .i64 0, .string ⟨#[]⟩, .bool false, .slice none 0 0, .string ⟨#[]⟩] ?e11 ?e12 ?e13 ?e14 ?e15 ?_)
    case e14 => exact size5
    case e15 => exact one5 Z0
    case e11 => rfl
    case e12 => rfl
    case e13 => exact HT3.out
    refine bodyPost_ret (v := .tuple #[ra Z0, .int .i64 1]) ?_ rfl ⟨rfl, below_setCells _ _ _ HB3.out (by rw [HRB.out]; exact Nat.le_refl _)⟩
    exact rfind_res _ _ rb Z0 1 (World.rangeAt_setCells_same _ _ _ _ (HT3.out)) rfl rfl
  | true =>
    by_cases hc0 : c < 0
    · obtain ⟨rfl, rfl⟩ := HNO.out (by rw [show cliB c = false from decide_eq_false (by omega)]; simp)
      clear HNO
      go_wp2_with (with_reducible refine wpList_store_mid rfl 27 (.tmp 6) (.tmp 28) rfl rb 0 #[.int .i64 0, .string ⟨#[]⟩, .bool false, .slice none 0 0, .string ⟨#[]⟩] ?e21 ?e22 ?e23 ?e24 ?e25 ?_)
      case e24 => exact size5
      case e25 => exact one5 Z0
      case e21 => rfl
      case e22 => rfl
      case e23 => exact HT3.out
      refine bodyPost_ret (v := .tuple #[ra Z0, .int .i64 1]) ?_ rfl ⟨rfl, below_setCells _ _ _ HB3.out (by rw [HRB.out]; exact Nat.le_refl _)⟩
      exact rfind_res _ _ rb Z0 1 (World.rangeAt_setCells_same _ _ _ _ (HT3.out)) rfl rfl
    by_cases hc1 : c > 7
    · obtain ⟨rfl, rfl⟩ := HNO.out (by rw [show cliB c = false from decide_eq_false (by omega)]; simp)
      clear HNO
      go_wp2_with (with_reducible refine wpList_store_mid rfl 27 (.tmp 6) (.tmp 28) rfl rb 0 #[.int .i64 0, .string ⟨#[]⟩, .bool false, .slice none 0 0, .string ⟨#[]⟩] ?e31 ?e32 ?e33 ?e34 ?e35 ?_)
      case e34 => exact size5
      case e35 => exact one5 Z0
      case e31 => rfl
      case e32 => rfl
      case e33 => exact HT3.out
      refine bodyPost_ret (v := .tuple #[ra Z0, .int .i64 1]) ?_ rfl ⟨rfl, below_setCells _ _ _ HB3.out (by rw [HRB.out]; exact Nat.le_refl _)⟩
      exact rfind_res _ _ rb Z0 1 (World.rangeAt_setCells_same _ _ _ _ (HT3.out)) rfl rfl
    by_cases hs0 : s < 1
    · obtain ⟨rfl, rfl⟩ := HNO.out (by rw [show seqB s = false from decide_eq_false (by omega)]; simp)
      clear HNO
      go_wp2_with (with_reducible refine wpList_store_mid rfl 27 (.tmp 6) (.tmp 28) rfl rb 0 #[.int .i64 0, .string ⟨#[]⟩, .bool false, .slice none 0 0, .string ⟨#[]⟩] ?e41 ?e42 ?e43 ?e44 ?e45 ?_)
      case e44 => exact size5
      case e45 => exact one5 Z0
      case e41 => rfl
      case e42 => rfl
      case e43 => exact HT3.out
      refine bodyPost_ret (v := .tuple #[ra Z0, .int .i64 1]) ?_ rfl ⟨rfl, below_setCells _ _ _ HB3.out (by rw [HRB.out]; exact Nat.le_refl _)⟩
      exact rfind_res _ _ rb Z0 1 (World.rangeAt_setCells_same _ _ _ _ (HT3.out)) rfl rfl
    by_cases hs1 : s > 1099511627775
    · obtain ⟨rfl, rfl⟩ := HNO.out (by rw [show seqB s = false from decide_eq_false (by omega)]; simp)
      clear HNO
      go_wp2_with (with_reducible refine wpList_store_mid rfl 27 (.tmp 6) (.tmp 28) rfl rb 0 #[.int .i64 0, .string ⟨#[]⟩, .bool false, .slice none 0 0, .string ⟨#[]⟩] ?e51 ?e52 ?e53 ?e54 ?e55 ?_)
      case e54 => exact size5
      case e55 => exact one5 Z0
      case e51 => rfl
      case e52 => rfl
      case e53 => exact HT3.out
      refine bodyPost_ret (v := .tuple #[ra Z0, .int .i64 1]) ?_ rfl ⟨rfl, below_setCells _ _ _ HB3.out (by rw [HRB.out]; exact Nat.le_refl _)⟩
      exact rfind_res _ _ rb Z0 1 (World.rangeAt_setCells_same _ _ _ _ (HT3.out)) rfl rfl
    have hE0 : E = (match look l c with | none => 3 | some x => if x.s < s then 3 else if s < x.s then 140 else 0) := by
      rw [HEX.out.1]; unfold fndE
      rw [if_pos (by rw [← HBB.out, cliB_iff.2 ⟨by omega, by omega⟩, seqB_iff.2 ⟨by omega, by omega⟩]; rfl)]
      cases look l c <;> rfl
    have HE0 := Lib.hid hE0
    clear hE0 HNO
    go_wp2_with fail
    refine (rfind14_any a n cap l c w3 (HSS.out.old HB3.out)).mono ?_
    rintro e w' ⟨z, rfl, hfx, rfl⟩
    rcases hfx with ⟨rfl, hlk⟩ | ⟨k, hkl, rfl, hlk⟩
    · obtain rfl : E = 3 := by rw [HE0.out, hlk]
      obtain rfl : X = Z0 := by rw [HEX.out.2]; unfold fndS; rw [← HEX.out.1]; rfl
      clear hlk
      go_wp2_with (with_reducible refine wpList_store_mid rfl 27 (.tmp 6) (.tmp 43) rfl rb 0 #[.int .i64 0, .string ⟨#[]⟩, .bool false, .slice none 0 0, .string ⟨#[]⟩] ?e61 ?e62 ?e63 ?e64 ?e65 ?_)
      case e64 => exact size5
      case e65 => exact one5 Z0
      case e61 => rfl
      case e62 => rfl
      case e63 => exact HT3.out
      refine bodyPost_ret (v := .tuple #[ra Z0, .int .i64 3]) ?_ rfl ⟨rfl, below_setCells _ _ _ HB3.out (by rw [HRB.out]; exact Nat.le_refl _)⟩
      exact rfind_res _ _ rb Z0 3 (World.rangeAt_setCells_same _ _ _ _ (HT3.out)) rfl rfl
    · have hkn : k < n := by rw [← HL.out]; exact hkl
      have hki : (k : Int) < (n : Int) := by omega
      have hk0 : ¬ (k : Int) < 0 := by omega
      obtain rfl := ha (by omega)
      have hbw := hb' (by omega)
      have hbr : ab < w3.heap.size := Nat.lt_of_lt_of_le hbw HB3.out.size
      obtain ⟨c0, c1, c2, c3, c4, c5, c6⟩ := HC.out.old hbw HB3.out k hkl
      obtain ⟨y, hy⟩ : ∃ y, y = l[k] := ⟨_, rfl⟩
      rw [← hy] at c0 c1 c2 c3 c4 c5 c6 hlk
      have hE1 : E = if y.s < s then 3 else if s < y.s then 140 else 0 := by rw [HE0.out, hlk]
      have HLK := Lib.hid hlk
      have HE1 := Lib.hid hE1
      clear hy hlk hE1
      by_cases h1 : y.s < s
      · obtain rfl : E = 3 := by rw [HE1.out, if_pos h1]
        obtain rfl : X = Z0 := by rw [HEX.out.2]; unfold fndS; rw [← HEX.out.1]; rfl
        go_wp2_with (with_reducible refine wpList_store_mid rfl 27 (.tmp 6) (.tmp 43) rfl rb 0 #[.int .i64 0, .string ⟨#[]⟩, .bool false, .slice none 0 0, .string ⟨#[]⟩] ?e71 ?e72 ?e73 ?e74 ?e75 ?_)
        case e74 => exact size5
        case e75 => exact one5 Z0
        case e71 => rfl
        case e72 => rfl
        case e73 => exact HT3.out
        refine bodyPost_ret (v := .tuple #[ra Z0, .int .i64 3]) ?_ rfl ⟨rfl, below_setCells _ _ _ HB3.out (by rw [HRB.out]; exact Nat.le_refl _)⟩
        exact rfind_res _ _ rb Z0 3 (World.rangeAt_setCells_same _ _ _ _ (HT3.out)) rfl rfl
      · by_cases h2 : s < y.s
        · have h3 : y.s > s := h2
          obtain rfl : E = 140 := by rw [HE1.out, if_neg h1, if_pos h2]
          obtain rfl : X = Z0 := by rw [HEX.out.2]; unfold fndS; rw [← HEX.out.1]; rfl
          go_wp2_with (with_reducible refine wpList_store_mid rfl 27 (.tmp 6) (.tmp 51) rfl rb 0 #[.int .i64 0, .string ⟨#[]⟩, .bool false, .slice none 0 0, .string ⟨#[]⟩] ?e81 ?e82 ?e83 ?e84 ?e85 ?_)
          case e84 => exact size5
          case e85 => exact one5 Z0
          case e81 => rfl
          case e82 => rfl
          case e83 => exact HT3.out
          refine bodyPost_ret (v := .tuple #[ra Z0, .int .i64 140]) ?_ rfl ⟨rfl, below_setCells _ _ _ HB3.out (by rw [HRB.out]; exact Nat.le_refl _)⟩
          exact rfind_res _ _ rb Z0 140 (World.rangeAt_setCells_same _ _ _ _ (HT3.out)) rfl rfl
        · have h3 : ¬ y.s > s := h2
          obtain rfl : E = 0 := by rw [HE1.out, if_neg h1, if_neg h2]
          obtain rfl : X = y := by rw [HEX.out.2]; unfold fndS; rw [← HEX.out.1, HLK.out]; rfl
          go_wp2_with (with_reducible refine wpList_store_mid rfl 27 (.tmp 6) (.tmp 56) rfl rb 0 #[.int .i64 X.e, .string X.v, .bool X.h, .slice X.p X.n X.k, .string X.u] ?e91 ?e92 ?e93 ?e94 ?e95 ?_)
          case e94 => exact size5
          case e95 => exact one5 X
          case e91 => rfl
          case e92 => rfl
          case e93 => exact HT3.out
          refine bodyPost_ret (v := .tuple #[ra X, .int .i64 0]) ?_ rfl ⟨rfl, below_setCells _ _ _ HB3.out (by rw [HRB.out]; exact Nat.le_refl _)⟩
          exact rfind_res _ _ rb X 0 (World.rangeAt_setCells_same _ _ _ _ (HT3.out)) rfl rfl
theorem fx_newer {l : List Sn} {c : Int} {s : Int} {z : Int} (h : FX l c z) : (z = -1 ∧ newer (look l c) s = true) ∨ ∃ k, ∃ h : k < l.length, z = (k : Int) ∧ newer (look l c) s = decide (l[k].s < s) := by
  rcases h with ⟨rfl, h⟩ | ⟨k, hk, rfl, h⟩
  · exact .inl ⟨rfl, by rw [h]; rfl⟩
  · exact .inr ⟨k, hk, rfl, by rw [h]; rfl⟩
set_option maxRecDepth 100000 in
set_option maxHeartbeats 4000000 in
theorem rPut14_any (a : Option Addr) (n cap : Nat) (l : List Sn) (x : Sn) (hn : n ≤ 100) (w : World) (h : SS w a n cap l) :
    Calls Try.prog 13 #[.slice a n cap, sa x] w (LE (putL l x) (putE l x) w) := by
  obtain ⟨ab, off, ha, hb', hc⟩ := h.2.1.at_
  have hl := h.1
  rw [hl] at ha hb'
  have HSS := Lib.hid h
  have HC := Lib.hid hc
  have HL := Lib.hid hl
  obtain ⟨b, hb⟩ : ∃ b, b = chk l := ⟨_, rfl⟩
  have HS0 := Lib.hid (SBox.new w 29 x)
  have b0 := box_bel14 w (.cells #[.int .i64 x.c, .int .i64 x.s, .int .i64 x.e, .string x.v, .bool x.h, .slice x.p x.n x.k, .string x.u] 29)
  have HP := Lib.hid (rMay14_any a n cap l b hb.symm (w.alloc (.cells #[.int .i64 x.c, .int .i64 x.s, .int .i64 x.e, .string x.v, .bool x.h, .slice x.p x.n x.k, .string x.u] 29)) (h.old b0))
  obtain ⟨r, hr⟩ : ∃ r, r = mayS x := ⟨_, rfl⟩
  have HM := Lib.hid (rmay14_any x r hr.symm)
  have HBB := Lib.hid (And.intro hb hr)
  obtain ⟨E, hE⟩ : ∃ E, E = putE l x := ⟨_, rfl⟩
  obtain ⟨X, hX⟩ : ∃ X, X = putL l x := ⟨_, rfl⟩
  rw [← hE, ← hX]
  have HEX := Lib.hid (And.intro hE hX)
  have hno : (b && r) = false → E = 1 ∧ X = [] := fun k => by
    have : putE l x = 1 := by unfold putE; rw [← hb, ← hr, k]; rfl
    rw [hE, hX, putL_no (by rw [this]; decide), this]; exact ⟨rfl, rfl⟩
  have HNO := Lib.hid hno
  clear hno hE hX hb hr hc hl h
  go_enter Try.func13, Try.ntmps13
  go_wp2_with fail
  have HB0 := Lib.hid b0
  obtain ⟨xb, hxb⟩ : ∃ xb, xb = w.heap.size := ⟨_, rfl⟩
  have HXB := Lib.hid hxb
  rw [← hxb] at HS0 ⊢
  clear hxb b0
  have hw1 : w.heap.size ≤ (w.alloc (.cells #[.int .i64 x.c, .int .i64 x.s, .int .i64 x.e, .string x.v, .bool x.h, .slice x.p x.n x.k, .string x.u] 29)).heap.size := by simp
  generalize w.alloc (.cells #[.int .i64 x.c, .int .i64 x.s, .int .i64 x.e, .string x.v, .bool x.h, .slice x.p x.n x.k, .string x.u] 29) = w1 at *
  refine HP.out.mono ?_
  rintro e w3 ⟨rfl, hb2⟩
  have HB3 := Lib.hid (HB0.out.trans (hb2.mono hw1))
  have HS3 := Lib.hid (HS0.out.below hb2)
  clear hb2 HP HB0 HS0 hw1
  cases b with
  | false =>
    obtain ⟨rfl, rfl⟩ := HNO.out rfl
    clear HNO
    go_wp2_with fail
    go_ret2
    exact ⟨none, 0, 0, rfl, SS.none _, HB3.out⟩
  | true =>
    obtain ⟨q0, q1, q2, q3, q4, q5, q6, q7⟩ := HS3.out
    go_wp2_with fail
    refine (HM.out _).mono ?_
    rintro e w4 ⟨rfl, hb4⟩
    have HS4 := Lib.hid (HS3.out.below hb4)
    have HB4 := Lib.hid (HB3.out.trans (hb4.mono HB3.out.size))
    clear q0 q1 q2 q3 q4 q5 q6 q7 hb4 HS3 HB3 HM
    cases r with
    | false =>
      obtain ⟨rfl, rfl⟩ := HNO.out rfl
      clear HNO
      go_wp2_with fail
      go_ret2
      exact ⟨none, 0, 0, rfl, SS.none _, HB4.out⟩
    | true =>
      clear HNO
      have hE0 : E = if newer (look l x.c) x.s = true then 0 else 140 := by rw [HEX.out.1]; unfold putE; rw [← HBB.out.1, ← HBB.out.2]; rfl
      have HE0 := Lib.hid hE0
      clear hE0
      obtain ⟨q0, q1, q2, q3, q4, q5, q6, q7⟩ := HS4.out
      go_wp2_with fail
      refine (rfind14_any a n cap l x.c w4 (HSS.out.old HB4.out)).mono ?_
      rintro e w' ⟨z, rfl, hfx, rfl⟩
      rcases fx_newer (s := x.s) hfx with ⟨rfl, hnw⟩ | ⟨k, hkl, rfl, hnw⟩
      · obtain rfl : E = 0 := by rw [HE0.out, if_pos hnw]
        have HXX := Lib.hid (show X = pt x false l by rw [HEX.out.2, (putL_ok HEX.out.1.symm).1])
        clear hnw hfx
        go_wp2_with fail
        refine wp_region_below (by kernel_rfl) (by kernel_rfl) ?_
        repeat (first
          | go_big_quiet_skip
          | (go_big_quiet_want
             first
             | (refine BigFrame.quiet_move _ rfl ?_)
             | (refine BigFrame.quiet_assign _ rfl ?_)
             | (unfold Oper.quiet
                apply Exists.intro
                refine ⟨fun w' hw' => ?_, ?_⟩
                · (obtain ⟨hc', hf'⟩ := bcell hw'
                   go_simp
                   first
                   | done
                   | exact rfl))
             go_big_quiet_on
             simp only [Act.put, Act.eval, List.setIfInBounds_toArray, List.set_cons_zero, List.set_cons_succ, Array.getD_eq_getD_getElem?, List.getElem?_toArray, List.getElem?_cons_zero, List.getElem?_cons_succ, Option.getD_some]))
        refine wpQuiet_nil ?_
        intro w' hw'
        have HB5 := Lib.hid (HB4.out.trans (hw'.mono HB4.out.size))
        have HS5 := Lib.hid (HS4.out.below hw')
        clear q0 q1 q2 q3 q4 q5 q6 q7 HS4 HB4 hw'
        generalize w' = w5 at *
        obtain ⟨q0, q1, q2, q3, q4, q5, q6, q7⟩ := HS5.out
        go_wp2_with fail
        refine (rput14_any a n cap l x hn w5 (HSS.out.old HB5.out)).mono ?_
        rintro e w7 ⟨a7, n7, c7, rfl, hs7, hb7⟩
        have HS7 := Lib.hid hs7
        have HB7 := Lib.hid (HB5.out.trans (hb7.mono HB5.out.size))
        clear hs7 hb7 q0 q1 q2 q3 q4 q5 q6 q7
        go_wp2_with fail
        go_ret2
        exact ⟨a7, n7, c7, rfl, by rw [HXX.out]; exact HS7.out, HB7.out⟩
      · have hkn : k < n := by rw [← HL.out]; exact hkl
        have hki : (k : Int) < (n : Int) := by omega
        have hk0 : (k : Int) ≥ 0 := by omega
        obtain rfl := ha (by omega)
        have hbw := hb' (by omega)
        have hbr : ab < w4.heap.size := Nat.lt_of_lt_of_le hbw HB4.out.size
        obtain ⟨c0, c1, c2, c3, c4, c5, c6⟩ := HC.out.old hbw HB4.out k hkl
        obtain ⟨y, hy⟩ : ∃ y, y = l[k] := ⟨_, rfl⟩
        rw [← hy] at c0 c1 c2 c3 c4 c5 c6 hnw
        clear hy hfx
        by_cases hlt : y.s < x.s
        · have hge : ¬ y.s ≥ x.s := by omega
          obtain rfl : E = 0 := by rw [HE0.out, hnw, if_pos (decide_eq_true hlt)]
          have HXX := Lib.hid (show X = pt x false l by rw [HEX.out.2, (putL_ok HEX.out.1.symm).1])
          clear hnw
          go_wp2_with fail
          refine wp_region_below (by kernel_rfl) (by kernel_rfl) ?_
          repeat (first
            | go_big_quiet_skip
            | (go_big_quiet_want
               first
               | (refine BigFrame.quiet_move _ rfl ?_)
               | (refine BigFrame.quiet_assign _ rfl ?_)
               | (unfold Oper.quiet
                  apply Exists.intro
                  refine ⟨fun w' hw' => ?_, ?_⟩
                  · (obtain ⟨hc', hf'⟩ := bcell hw'
                     go_simp
                     first
                     | done
                     | exact rfl))
               go_big_quiet_on
               simp only [Act.put, Act.eval, List.setIfInBounds_toArray, List.set_cons_zero, List.set_cons_succ, Array.getD_eq_getD_getElem?, List.getElem?_toArray, List.getElem?_cons_zero, List.getElem?_cons_succ, Option.getD_some]))
          refine wpQuiet_nil ?_
          intro w' hw'
          have HB5 := Lib.hid (HB4.out.trans (hw'.mono HB4.out.size))
          have HS5 := Lib.hid (HS4.out.below hw')
          clear q0 q1 q2 q3 q4 q5 q6 q7 c0 c1 c2 c3 c4 c5 c6 HS4 HB4 hw'
          generalize w' = w5 at *
          obtain ⟨q0, q1, q2, q3, q4, q5, q6, q7⟩ := HS5.out
          go_wp2_with fail
          refine (rput14_any _ n cap l x hn w5 (HSS.out.old HB5.out)).mono ?_
          rintro e w7 ⟨a7, n7, c7, rfl, hs7, hb7⟩
          have HS7 := Lib.hid hs7
          have HB7 := Lib.hid (HB5.out.trans (hb7.mono HB5.out.size))
          clear hs7 hb7 q0 q1 q2 q3 q4 q5 q6 q7
          go_wp2_with fail
          go_ret2
          exact ⟨a7, n7, c7, rfl, by rw [HXX.out]; exact HS7.out, HB7.out⟩
        · have hge : y.s ≥ x.s := by omega
          obtain rfl : E = 140 := by rw [HE0.out, hnw, if_neg (by rw [decide_eq_true_eq]; exact hlt)]
          obtain rfl : X = [] := by rw [HEX.out.2, putL_no (by rw [← HEX.out.1]; decide)]
          clear hnw
          go_wp2_with fail
          refine wp_region_below (by kernel_rfl) (by kernel_rfl) ?_
          repeat (first
            | go_big_quiet_skip
            | (go_big_quiet_want
               first
               | (refine BigFrame.quiet_move _ rfl ?_)
               | (refine BigFrame.quiet_assign _ rfl ?_)
               | (unfold Oper.quiet
                  apply Exists.intro
                  refine ⟨fun w' hw' => ?_, ?_⟩
                  · (obtain ⟨hc', hf'⟩ := bcell hw'
                     go_simp
                     first
                     | done
                     | exact rfl))
               go_big_quiet_on
               simp only [Act.put, Act.eval, List.setIfInBounds_toArray, List.set_cons_zero, List.set_cons_succ, Array.getD_eq_getD_getElem?, List.getElem?_toArray, List.getElem?_cons_zero, List.getElem?_cons_succ, Option.getD_some]))
          refine wpQuiet_nil ?_
          intro w' hw'
          have HB5 := Lib.hid (HB4.out.trans (hw'.mono HB4.out.size))
          clear q0 q1 q2 q3 q4 q5 q6 q7 c0 c1 c2 c3 c4 c5 c6 hw'
          go_wp2_with fail
          go_ret2
          exact ⟨none, 0, 0, rfl, SS.none _, HB5.out⟩
theorem rj_drop {a m out : List Sn} {k : Nat} (hk : k < m.length) : rj a out (m.drop k) = rj a (if newer (look a m[k].c) m[k].s = true then pt m[k] false out else out) (m.drop (k + 1)) := by
  rw [List.drop_eq_getElem_cons hk]; rfl
set_option maxRecDepth 100000 in
set_option maxHeartbeats 4000000 in
theorem rJoin14_any (a : Option Addr) (n cap : Nat) (l : List Sn) (a2 : Option Addr) (n2 cap2 : Nat) (m : List Sn) (w : World) (h : SS w a n cap l) (h2 : SS w a2 n2 cap2 m) :
    Calls Try.prog 19 #[.slice a n cap, .slice a2 n2 cap2] w (LE (jnR l m) (jnE l m) w) := by
  obtain ⟨ab, off, ha, hb', hc'⟩ := h.2.1.at_
  have hl := h.1
  rw [hl] at ha hb'
  obtain ⟨ab2, off2, ha2, hb2', hc2'⟩ := h2.2.1.at_
  have hl2 := h2.1
  rw [hl2] at ha2 hb2'
  have HL := Lib.hid (And.intro hl hl2)
  have HC := Lib.hid hc'
  have HC2 := Lib.hid hc2'
  have HSS := Lib.hid h
  have HSS2 := Lib.hid h2
  obtain ⟨b, hb⟩ : ∃ b, b = chk l := ⟨_, rfl⟩
  obtain ⟨c, hc⟩ : ∃ c, c = chk m := ⟨_, rfl⟩
  have HP := Lib.hid (rMay14_any a n cap l b hb.symm w h)
  have HQ := Lib.hid (fun (wx : World) (hx : Below w.heap.size w wx) => rMay14_any a2 n2 cap2 m c hc.symm wx (h2.old hx))
  obtain ⟨E, hE⟩ : ∃ E, E = jnE l m := ⟨_, rfl⟩
  obtain ⟨X, hX⟩ : ∃ X, X = jnR l m := ⟨_, rfl⟩
  rw [← hE, ← hX]
  have HBB := Lib.hid (And.intro hb hc)
  have hno : (b && c) = false → E = 1 ∧ X = [] := fun k => by
    rw [hE, hX]
    unfold jnE jnR
    rw [← hb, ← hc, k]; exact ⟨rfl, rfl⟩
  have hyes : (b && c) = true → E = 0 ∧ X = jnL l m := fun k => by
    rw [hE, hX]
    unfold jnE jnR
    rw [← hb, ← hc, k]; exact ⟨rfl, rfl⟩
  have HNO := Lib.hid hno
  have HYE := Lib.hid hyes
  clear hno hyes hE hX hb hc h h2 hl hl2 hc' hc2'
  go_enter Try.func19, Try.ntmps19
  go_wp2_with fail
  refine HP.out.mono ?_
  rintro e w2 ⟨rfl, hb2⟩
  have HB2 := Lib.hid hb2
  clear hb2 HP
  cases b with
  | false =>
    obtain ⟨rfl, rfl⟩ := HNO.out (by simp)
    clear HNO HYE
    go_wp2_with fail
    go_ret2
    exact ⟨none, 0, 0, rfl, SS.none _, HB2.out⟩
  | true =>
    go_wp2_with fail
    refine (HQ.out w2 HB2.out).mono ?_
    rintro e w3 ⟨rfl, hb3⟩
    have HB3 := Lib.hid (HB2.out.trans (hb3.mono HB2.out.size))
    clear hb3 HQ HB2
    cases c with
    | false =>
      obtain ⟨rfl, rfl⟩ := HNO.out rfl
      clear HNO HYE
      go_wp2_with fail
      go_ret2
      exact ⟨none, 0, 0, rfl, SS.none _, HB3.out⟩
    | true =>
      obtain ⟨rfl, hXX⟩ := HYE.out rfl
      have HXX := Lib.hid hXX
      have hn8 : n ≤ 8 := by rw [← HL.out.1]; exact chk_len HBB.out.1.symm
      have hn28 : n2 ≤ 8 := by rw [← HL.out.2]; exact chk_len HBB.out.2.symm
      have HMM := Lib.hid (chk_iff.1 HBB.out.2.symm).1
      clear hXX HNO HYE
      go_wp2_with fail
      go_loopw [6, 7, 8] (fun s i _ wr => ∃ (k q : Nat) (oa : Option Addr) (oc : Nat) (O : List Sn), s = .slice oa q oc ∧ i = .int .i64 k ∧ k ≤ n2 ∧ Hid (rj l O (m.drop k) = jnL l m) ∧ Hid (chk O = true) ∧ Hid (SS wr oa q oc O) ∧ Hid (Below w.heap.size w wr)) (fun _ i _ _ => n2 - (intOf i).toNat)
      case atStart => exact ⟨0, n, a, cap, l, rfl, by first | rfl | go_num, by omega, Lib.hid rfl, Lib.hid HBB.out.1.symm, Lib.hid (HSS.out.old HB3.out), HB3⟩
      case round =>
        obtain ⟨k, q, oa, oc, O, rfl, rfl, hk, HRJ, HCO, HSO, HW⟩ := hrel
        by_cases hlt : k < n2
        · have hki : (k : Int) < (n2 : Int) := by omega
          obtain rfl := ha2 (by omega)
          have hbw := hb2' (by omega)
          have hkl : k < m.length := by rw [HL.out.2]; exact hlt
          have hws := HW.out.size
          have hbr : ab2 < wr.heap.size := Nat.lt_of_lt_of_le hbw hws
          obtain ⟨c0, c1, c2, c3, c4, c5, c6⟩ := HC2.out.old hbw HW.out k hkl
          obtain ⟨y, hy⟩ : ∃ y, y = m[k] := ⟨_, rfl⟩
          have hrj := rj_drop (a := l) (out := O) hkl
          have HMY := Lib.hid (HMM.out m[k] (List.getElem_mem hkl))
          have HYY := Lib.hid hy.symm
          rw [← hy] at c0 c1 c2 c3 c4 c5 c6 hrj HMY
          rw [HRJ.out] at hrj
          have HRJ2 := Lib.hid hrj
          have HQ8 : Hid (q ≤ 8) := Lib.hid (by rw [← HSO.out.1]; exact chk_len HCO.out)
          clear hy hrj
          go_wp2_with fail
          refine (rfind14_any a n cap l y.c wr (HSS.out.old HW.out)).mono ?_
          rintro e w' ⟨z, rfl, hfx, rfl⟩
          rcases fx_newer (s := y.s) hfx with ⟨rfl, hnw⟩ | ⟨j, hjl, rfl, hnw⟩
          · have HRJ3 := Lib.hid (show rj l (pt y false O) (m.drop (k + 1)) = jnL l m by rw [HRJ2.out, if_pos hnw])
            have HC3 := Lib.hid (pt_chk HCO.out HMY.out)
            clear hnw hfx
            go_wp2_with fail
            refine wp_region_below (by kernel_rfl) (by kernel_rfl) ?_
            repeat (first
              | go_big_quiet_skip
              | (go_big_quiet_want
                 first
                 | (refine BigFrame.quiet_move _ rfl ?_)
                 | (refine BigFrame.quiet_assign _ rfl ?_)
                 | (unfold Oper.quiet
                    apply Exists.intro
                    refine ⟨fun w' hw' => ?_, ?_⟩
                    · (obtain ⟨hc', hf'⟩ := bcell hw'
                       go_simp
                       first
                       | done
                       | exact rfl))
                 go_big_quiet_on
                 simp only [Act.put, Act.eval, List.setIfInBounds_toArray, List.set_cons_zero, List.set_cons_succ, Array.getD_eq_getD_getElem?, List.getElem?_toArray, List.getElem?_cons_zero, List.getElem?_cons_succ, Option.getD_some]))
            refine wpQuiet_nil ?_
            intro w' hw'
            have HB5 := Lib.hid (HW.out.trans (hw'.mono hws))
            have HS5 := Lib.hid (HSO.out.old hw')
            have hbr5 : ab2 < w'.heap.size := Nat.lt_of_lt_of_le hbw HB5.out.size
            have HD5 := Lib.hid (HC2.out.old hbw HB5.out k hkl)
            clear c0 c1 c2 c3 c4 c5 c6
            obtain ⟨c0, c1, c2, c3, c4, c5, c6⟩ := HD5.out
            have hyy : m[k] = y := HYY.out
            rw [hyy] at c0 c1 c2 c3 c4 c5 c6
            clear hyy
            generalize w' = w5 at *
            go_wp2_with fail
            refine (rput14_any oa q oc O y (by have := HQ8.out; omega) w5 HS5.out).mono ?_
            rintro e w7 ⟨a7, n7, c7, rfl, hs7, hb7⟩
            have HS7 := Lib.hid hs7
            have HB7 := Lib.hid (HB5.out.trans (hb7.mono HB5.out.size))
            clear hs7 hb7 c0 c1 c2 c3 c4 c5 c6
            go_wp2_with fail
            go_roundw
            case rel => exact ⟨k + 1, n7, a7, c7, _, rfl, by go_num, by omega, HRJ3, HC3, HS7, HB7⟩
            case measure => simp [intOf]; omega
          · have hjn : j < n := by rw [← HL.out.1]; exact hjl
            have hji : (j : Int) < (n : Int) := by omega
            have hj0 : decide ((j : Int) < 0) = false := decide_eq_false (by omega)
            obtain rfl := ha (by omega)
            have hbw1 := hb' (by omega)
            have hbr1 : ab < wr.heap.size := Nat.lt_of_lt_of_le hbw1 hws
            obtain ⟨d0, d1, -⟩ := HC.out.old hbw1 HW.out j hjl
            obtain ⟨u, hu⟩ : ∃ u, u = l[j].s := ⟨_, rfl⟩
            rw [← hu] at d1 hnw
            clear hu hfx d0
            by_cases hls : u < y.s
            · have HRJ3 := Lib.hid (show rj l (pt y false O) (m.drop (k + 1)) = jnL l m by rw [HRJ2.out, hnw, if_pos (decide_eq_true hls)])
              have HC3 := Lib.hid (pt_chk HCO.out HMY.out)
              clear hnw
              go_wp2_with fail
              refine wp_region_below (by kernel_rfl) (by kernel_rfl) ?_
              repeat (first
                | go_big_quiet_skip
                | (go_big_quiet_want
                   first
                   | (refine BigFrame.quiet_move _ rfl ?_)
                   | (refine BigFrame.quiet_assign _ rfl ?_)
                   | (unfold Oper.quiet
                      apply Exists.intro
                      refine ⟨fun w' hw' => ?_, ?_⟩
                      · (obtain ⟨hc', hf'⟩ := bcell hw'
                         go_simp
                         first
                         | done
                         | exact rfl))
                   go_big_quiet_on
                   simp only [Act.put, Act.eval, List.setIfInBounds_toArray, List.set_cons_zero, List.set_cons_succ, Array.getD_eq_getD_getElem?, List.getElem?_toArray, List.getElem?_cons_zero, List.getElem?_cons_succ, Option.getD_some]))
              refine wpQuiet_nil ?_
              intro w' hw'
              have HB5 := Lib.hid (HW.out.trans (hw'.mono hws))
              have HS5 := Lib.hid (HSO.out.old hw')
              have hbr5 : ab2 < w'.heap.size := Nat.lt_of_lt_of_le hbw HB5.out.size
              have HD5 := Lib.hid (HC2.out.old hbw HB5.out k hkl)
              clear c0 c1 c2 c3 c4 c5 c6 d1
              obtain ⟨c0, c1, c2, c3, c4, c5, c6⟩ := HD5.out
              have hyy : m[k] = y := HYY.out
              rw [hyy] at c0 c1 c2 c3 c4 c5 c6
              clear hyy
              generalize w' = w5 at *
              go_wp2_with fail
              refine (rput14_any oa q oc O y (by have := HQ8.out; omega) w5 HS5.out).mono ?_
              rintro e w7 ⟨a7, n7, c7, rfl, hs7, hb7⟩
              have HS7 := Lib.hid hs7
              have HB7 := Lib.hid (HB5.out.trans (hb7.mono HB5.out.size))
              clear hs7 hb7 c0 c1 c2 c3 c4 c5 c6
              go_wp2_with fail
              go_roundw
              case rel => exact ⟨k + 1, n7, a7, c7, _, rfl, by go_num, by omega, HRJ3, HC3, HS7, HB7⟩
              case measure => simp [intOf]; omega
            · have HRJ3 := Lib.hid (show rj l O (m.drop (k + 1)) = jnL l m by rw [HRJ2.out, hnw, if_neg (by rw [decide_eq_true_eq]; exact hls)])
              clear hnw
              go_wp2_with fail
              refine wp_region_below (by kernel_rfl) (by kernel_rfl) ?_
              repeat (first
                | go_big_quiet_skip
                | (go_big_quiet_want
                   first
                   | (refine BigFrame.quiet_move _ rfl ?_)
                   | (refine BigFrame.quiet_assign _ rfl ?_)
                   | (unfold Oper.quiet
                      apply Exists.intro
                      refine ⟨fun w' hw' => ?_, ?_⟩
                      · (obtain ⟨hc', hf'⟩ := bcell hw'
                         go_simp
                         first
                         | done
                         | exact rfl))
                   go_big_quiet_on
                   simp only [Act.put, Act.eval, List.setIfInBounds_toArray, List.set_cons_zero, List.set_cons_succ, Array.getD_eq_getD_getElem?, List.getElem?_toArray, List.getElem?_cons_zero, List.getElem?_cons_succ, Option.getD_some]))
              refine wpQuiet_nil ?_
              intro w' hw'
              have HB5 := Lib.hid (HW.out.trans (hw'.mono hws))
              have HS5 := Lib.hid (HSO.out.old hw')
              clear c0 c1 c2 c3 c4 c5 c6 d1
              generalize w' = w5 at *
              go_wp2_with fail
              go_roundw
              case rel => exact ⟨k + 1, q, oa, oc, _, rfl, by go_num, by omega, HRJ3, HCO, HS5, HB5⟩
              case measure => simp [intOf]; omega
        · obtain rfl : k = n2 := by omega
          have hrj := HRJ.out
          rw [← HL.out.2, List.drop_length] at hrj
          have HRJ2 := Lib.hid (show O = jnL l m from hrj)
          clear hrj
          go_wp2_with fail
          go_ret2
          exact ⟨oa, q, oc, rfl, by rw [HXX.out, ← HRJ2.out]; exact HSO.out, HW.out⟩

end Go.Proofs.Ytnjpgepdfclalaa
