/-
  Layer 10 (table), contracts of the document's own Chunk and Range. Conditions: texts within the reach.
-/
import Derived.Test.YtobhjmkaamjoeaaQ6
namespace Go.Proofs.Ytobhjmkaamjoeaa
set_option maxRecDepth 100000
open Go.RowKit
set_option linter.unusedVariables false
set_option linter.unusedSimpArgs false

set_option maxHeartbeats 2000000 in
theorem rrange_any (a : Option Addr) (n cap : Nat) (es : List Ent) (lo hi : ByteArray) (h1 : okS lo) (h2 : okS hi) (w : World) (hn : n ≤ 4096) (hl : es.length = n) (h : RdE w a es) (hok : okE es) :
    Calls Try.prog 23 #[.slice a n cap, .agg #[.string lo, .string hi]] w (CL lo hi es w) := by
  have HC := Lib.hid (rclip_any a n cap es lo hi h1 h2 (w.alloc (.cells #[.string lo, .string hi] 24)) (by omega) hl (h.old ((Below.refl _ w).alloc (Nat.le_refl _) _)) hok)
  clear hl h hok h1 h2
  go_enter Try.func23, Try.ntmps23
  go_wp2_with fail
  refine HC.out.mono ?_
  rintro e w2 ⟨a2, cap2, rfl, hr2, b2⟩
  have HW2 := Lib.hid (((Below.refl _ w).alloc (Nat.le_refl _) (.cells #[.string lo, .string hi] 24)).trans (b2.mono (by simp)))
  have HRD := Lib.hid hr2
  clear b2 hr2
  go_wp2
  go_ret
  exact ⟨a2, cap2, rfl, HRD.out, HW2.out⟩
theorem wn_drop {es : List Ent} {k M q : Nat} (hk : k ≤ es.length) (h1 : k + q ≤ es.length) (h2 : min M (es.length - k) ≤ q) (h3 : ∀ j (h : j < es.length), k + min M (es.length - k) ≤ j → j < k + q → es[j].1 = (es[j - 1]'(by omega)).1) (h4 : ∀ h : k + q < es.length, 0 < q → ¬ es[k + q].1 = (es[k + q - 1]'(by omega)).1) (hM : 1 ≤ M) : WN (es.drop k) M q := by
  have idx : ∀ (x y : Nat) (hx : x < es.length) (hy : y < es.length), x = y → es[x].1 = es[y].1 := fun x y hx hy e => by subst e; rfl
  refine ⟨by rw [List.length_drop]; exact h2, by rw [List.length_drop]; omega, fun j h hj1 hj2 => ?_, fun h => ?_⟩
  · rw [List.length_drop] at h hj1
    have := h3 (k + j) (by omega) (by omega) (by omega)
    rw [List.getElem_drop, List.getElem_drop, this]
    exact idx _ _ _ _ (by omega)
  · rw [List.length_drop] at h
    have := h4 (by omega) (by omega)
    rw [List.getElem_drop, List.getElem_drop]
    rw [idx (k + (q - 1)) (k + q - 1) (by omega) (by omega) (by omega)]
    exact this
set_option maxHeartbeats 8000000 in
theorem rchunk_any (b off n cap : Nat) (es : List Ent) (key : ByteArray) (most : Int) (w : World) (hn : n ≤ 4096) (hnc : n ≤ cap) (hl : es.length = n) (hbw : b < w.heap.size) (hat : EAt w b off es) :
    Calls Try.prog 15 #[.slice (some ⟨b, off, none⟩) n cap, .string key, .int .i64 most] w (CH es key (mostN most) w) := by
  have HL := Lib.hid hl
  have HAT := Lib.hid hat
  obtain ⟨M, hM⟩ : ∃ M, M = mostN most := ⟨_, rfl⟩
  have hmx : max (1 : Int) most = (M : Int) := by rw [hM]; unfold mostN; omega
  have hM1 : 1 ≤ M := by rw [hM]; exact mostN_pos most
  rw [← hM]
  clear hM hl hat
  go_enter Try.func15, Try.ntmps15
  go_wp2
  go_loopw [8] (fun i wr => ∃ k : Nat, i = .int .i64 k ∧ k ≤ n ∧ Hid (∀ j (h : j < es.length), j < k → ltB es[j].1 key = true) ∧ Hid (Below w.heap.size w wr)) (fun i _ => n - (intOf i).toNat)
  case atStart => exact ⟨0, rfl, by omega, Lib.hid (fun j h h0 => absurd h0 (Nat.not_lt_zero _)), Lib.hid (Below.refl _ _)⟩
  case round =>
    obtain ⟨k, rfl, hk, HK, HW⟩ := hrel
    have hws := HW.out.size
    obtain ⟨p, hp⟩ : ∃ p, p = (if h : k < es.length then ltB es[k].1 key else false) := ⟨_, rfl⟩
    have HP := Lib.hid hp
    go_upto_region 2 with fail
    go_cut [22] (fun s22 wx => s22 = .bool p ∧ wx = wr)
    case first =>
      by_cases hlt : k < n
      · have hki : (k : Int) < (n : Int) := by omega
        have hk0 : (0 : Int) ≤ (k : Int) := by omega
        have hkl : k < es.length := by rw [HL.out]; exact hlt
        have hbr : b < wr.heap.size := Nat.lt_of_lt_of_le hbw hws
        have g0 := (HAT.out.old hbw HW.out k hkl).1
        rw [dif_pos hkl] at hp
        obtain ⟨ek, hek⟩ : ∃ ek, ek = es[k].1 := ⟨_, rfl⟩
        rw [← hek] at g0 hp
        have hbl : Op.bytesLess ek.toList key.toList = p := hp.symm
        clear hp hek
        go_wp2_with fail
        go_meet
        case rel => exact ⟨rfl, rfl⟩
      · have hki : (n : Int) ≤ (k : Int) := by omega
        rw [dif_neg (by rw [HL.out]; exact hlt)] at hp
        subst hp
        go_wp2_with fail
        go_meet
        case rel => exact ⟨rfl, rfl⟩
    case rest =>
      obtain ⟨rfl, rfl⟩ := hcut
      cases p with
      | true =>
        have hkl : k < es.length := by
          have := HP.out
          by_cases h : k < es.length
          · exact h
          · rw [dif_neg h] at this; cases this
        have hlt : k < n := by rw [← HL.out]; exact hkl
        have HK2 : Hid (∀ j (h : j < es.length), j < k + 1 → ltB es[j].1 key = true) := Lib.hid fun j h hj => by
          rcases Nat.lt_or_ge j k with h1 | h1
          · exact HK.out j h h1
          · obtain rfl : j = k := by omega
            have := HP.out
            rw [dif_pos h] at this
            exact this.symm
        clear hp
        go_wp2
        go_roundw
        case rel => exact ⟨k + 1, by go_num, by omega, HK2, HW⟩
        case measure => simp [intOf]; omega
      | false =>
        have HF : Hid (FN es key k) := Lib.hid ⟨by rw [HL.out]; exact hk, HK.out, fun h => by have := HP.out; rw [dif_pos h] at this; exact this.symm⟩
        clear hp HP HK
        obtain ⟨m0, hm0⟩ : ∃ m0, m0 = min M (n - k) := ⟨_, rfl⟩
        have HM0 := Lib.hid hm0
        have hm0k : k + m0 ≤ n := by omega
        have hm0M : m0 ≤ M := by omega
        clear hm0
        have hwc := HW.out.size
        go_wp2
        go_loopw [9] (fun i wx => ∃ N : Nat, i = .int .i64 N ∧ k ≤ N ∧ N ≤ n ∧ Hid (∀ j (h : j < es.length), k + m0 ≤ j → j < N → es[j].1 = (es[j - 1]'(by omega)).1) ∧ Hid (Below wc.heap.size wc wx)) (fun i _ => n - (intOf i).toNat)
        case atStart => exact ⟨k, rfl, Nat.le_refl _, hk, Lib.hid (fun j h h1 h2 => absurd h2 (by omega)), Lib.hid (Below.refl _ _)⟩
        case round =>
          obtain ⟨N, rfl, hkN, hN, HE, HX⟩ := hrel
          have hWX : Below w.heap.size w wr := HW.out.trans (HX.out.mono hwc)
          have HWX := Lib.hid hWX
          have hwr := hWX.size
          have idx : ∀ (x y : Nat) (hx : x < es.length) (hy : y < es.length), x = y → es[x].1 = es[y].1 := fun x y hx hy e => by subst e; rfl
          have HIX := Lib.hid idx
          have hbr : b < wr.heap.size := Nat.lt_of_lt_of_le hbw hwr
          obtain ⟨p2, hp2⟩ : ∃ p2, p2 = (if h : N < es.length then (decide (N - k < M) || (es[N].1.toList == (es[N - 1]'(by omega)).1.toList)) else false) := ⟨_, rfl⟩
          have HP2 := Lib.hid hp2
          clear hWX idx
          obtain ⟨ee, hee⟩ : ∃ ee, ee = N - k := ⟨_, rfl⟩
          have hsub : (N : Int) - (k : Int) = (ee : Int) := by omega
          have hwe : IntKind.i64.wrap (ee : Int) = (ee : Int) := IntWalk.i64_in _ (by omega)
          go_upto_region 5 with fail
          go_cut [51] (fun s51 wy => s51 = .bool p2 ∧ Below wr.heap.size wr wy)
          case first =>
            by_cases hlt : N < n
            · have hNi : (N : Int) < (n : Int) := by omega
              have hN0 : (0 : Int) ≤ (N : Int) := by omega
              have hNl : N < es.length := by rw [HL.out]; exact hlt
              rw [dif_pos hNl, ← hee] at hp2
              by_cases hM : ee < M
              · have hMi : (ee : Int) < (M : Int) := by omega
                rw [decide_eq_true hM, Bool.true_or] at hp2
                subst hp2
                clear hee hM
                go_wp2
                refine wp_region_below (by kernel_rfl) (by kernel_rfl) ?_
                repeat (first
                  | go_big_quiet_skip
                  | (go_big_quiet_want
                     first
                     | (refine BigFrame.quiet_move _ rfl ?_)
                     | (refine BigFrame.quiet_assign _ rfl ?_)
                     | (unfold Oper.quiet
                        apply Exists.intro
                        refine ⟨fun w' hw' => ?_, ?_⟩
                        · (obtain ⟨hc', hf'⟩ := bcell hw'
                           go_simp
                           first
                           | done
                           | exact rfl))
                     go_big_quiet_on
                     simp only [Act.put, Act.eval, List.setIfInBounds_toArray, List.set_cons_zero, List.set_cons_succ, Array.getD_eq_getD_getElem?, List.getElem?_toArray, List.getElem?_cons_zero, List.getElem?_cons_succ, Option.getD_some]))
                refine wpQuiet_nil ?_
                intro w' hw'
                go_wp2_with fail
                go_meet
                exact ⟨rfl, hw'⟩
              · have hMi : (M : Int) ≤ (ee : Int) := by omega
                rw [decide_eq_false hM, Bool.false_or] at hp2
                obtain ⟨j, HJ⟩ : ∃ j, Hid (N = j + 1) := ⟨N - 1, Lib.hid (by omega)⟩
                have hjN : (N : Int) - 1 = (j : Int) := by have := HJ.out; omega
                have hj0 : (0 : Int) ≤ (j : Int) := by omega
                have hjn : (j : Int) < (n : Int) := by omega
                have hjnn : j < n := by omega
                have hwj : IntKind.i64.wrap (j : Int) = (j : Int) := IntWalk.i64_in _ (by omega)
                have hjl : j < es.length := by rw [HL.out]; exact hjnn
                have g0 := (HAT.out.old hbw HWX.out N hNl).1
                have q0 := (HAT.out.old hbw HWX.out j hjl).1
                rw [HIX.out (N - 1) j (by omega) hjl (by have := HJ.out; omega)] at hp2
                obtain ⟨ek, hek⟩ : ∃ ek, ek = es[N].1 := ⟨_, rfl⟩
                obtain ⟨ej, hej⟩ : ∃ ej, ej = es[j].1 := ⟨_, rfl⟩
                rw [← hek] at g0 hp2
                rw [← hej] at q0 hp2
                have hb1 : (ek.toList == ej.toList) = p2 := hp2.symm
                have hMd : decide ((ee : Int) < (M : Int)) = false := by simp; omega
                have hMn : M ≤ ee := by omega
                clear hp2 hek hej hee
                cases p2
                all_goals
                  go_wp2
                  refine wp_region_below (by kernel_rfl) (by kernel_rfl) ?_
                  repeat (first
                    | go_big_quiet_skip
                    | (go_big_quiet_want
                       first
                       | (refine BigFrame.quiet_move _ rfl ?_)
                       | (refine BigFrame.quiet_assign _ rfl ?_)
                       | (unfold Oper.quiet
                          apply Exists.intro
                          refine ⟨fun w' hw' => ?_, ?_⟩
                          · (obtain ⟨hc', hf'⟩ := bcell hw'
                             go_simp
                             first
                             | done
                             | exact rfl))
                       go_big_quiet_on
                       simp only [Act.put, Act.eval, List.setIfInBounds_toArray, List.set_cons_zero, List.set_cons_succ, Array.getD_eq_getD_getElem?, List.getElem?_toArray, List.getElem?_cons_zero, List.getElem?_cons_succ, Option.getD_some]))
                  refine wpQuiet_nil ?_
                  intro w' hw'
                  go_wp2_with fail
                  go_meet
                  exact ⟨rfl, hw'⟩
            · have hNi : (n : Int) ≤ (N : Int) := by omega
              rw [dif_neg (by rw [HL.out]; exact hlt)] at hp2
              subst hp2
              clear hee
              go_wp2
              refine wp_region_below (by kernel_rfl) (by kernel_rfl) ?_
              repeat (first
                | go_big_quiet_skip
                | (go_big_quiet_want
                   first
                   | (refine BigFrame.quiet_move _ rfl ?_)
                   | (refine BigFrame.quiet_assign _ rfl ?_)
                   | (unfold Oper.quiet
                      apply Exists.intro
                      refine ⟨fun w' hw' => ?_, ?_⟩
                      · (obtain ⟨hc', hf'⟩ := bcell hw'
                         go_simp
                         first
                         | done
                         | exact rfl))
                   go_big_quiet_on
                   simp only [Act.put, Act.eval, List.setIfInBounds_toArray, List.set_cons_zero, List.set_cons_succ, Array.getD_eq_getD_getElem?, List.getElem?_toArray, List.getElem?_cons_zero, List.getElem?_cons_succ, Option.getD_some]))
              refine wpQuiet_nil ?_
              intro w' hw'
              go_wp2_with fail
              go_meet
              exact ⟨rfl, hw'⟩
          case rest =>
            obtain ⟨rfl, hby⟩ := hcut
            have HBY := Lib.hid (HX.out.trans (hby.mono HX.out.size))
            have HWY := Lib.hid (HWX.out.trans (hby.mono hwr))
            clear hp2 hsub hwe
            cases p2 with
            | true =>
              have hNl : N < es.length := by
                have := HP2.out
                by_cases h : N < es.length
                · exact h
                · rw [dif_neg h] at this; cases this
              have hlt : N < n := by rw [← HL.out]; exact hNl
              have HE2 : Hid (∀ j (h : j < es.length), k + m0 ≤ j → j < N + 1 → es[j].1 = (es[j - 1]'(by omega)).1) := Lib.hid fun j h h1 h2 => by
                rcases Nat.lt_or_ge j N with h3 | h3
                · exact HE.out j h h1 h3
                · obtain rfl : j = N := by omega
                  have h4 := HP2.out
                  rw [dif_pos h] at h4
                  rcases Bool.or_eq_true_iff.1 h4.symm with h5 | h5
                  · have h6 := of_decide_eq_true h5
                    have h7 := HM0.out
                    omega
                  · exact ba_ext (eq_of_beq h5)
              clear hby
              go_wp2
              go_roundw
              case rel => exact ⟨N + 1, by go_num, by omega, by omega, HE2, HBY⟩
              case measure => simp [intOf]; omega
            | false =>
              have hq2 : min M (n - k) ≤ N - k := by
                by_cases h : N < n
                · have h4 := HP2.out
                  rw [dif_pos (by rw [HL.out]; exact h)] at h4
                  have h5 := (Bool.or_eq_false_iff.1 h4.symm).1
                  have h6 := of_decide_eq_false h5
                  omega
                · omega
              have hwn : WN (es.drop k) M (N - k) := wn_drop (by rw [HL.out]; exact hk) (by rw [HL.out]; omega) (by rw [HL.out]; exact hq2) (fun j h h1 h2 => HE.out j h (by rw [HM0.out]; rw [HL.out] at h1; exact h1) (by omega)) (fun h h0 => by
                have hNl : N < es.length := by omega
                have h4 := HP2.out
                rw [dif_pos hNl] at h4
                have h5 := (Bool.or_eq_false_iff.1 h4.symm).2
                rw [beq_eq_false_iff_ne] at h5
                intro h6
                refine h5 ?_
                rw [HIX.out N (k + (N - k)) hNl (by omega) (by omega), HIX.out (N - 1) (k + (N - k) - 1) (by omega) (by omega) (by omega), h6]) hM1
              have hcl : ((es.drop k).take (N - k)).length = N - k := by rw [List.length_take, List.length_drop, HL.out]; omega
              have HCL := Lib.hid hcl
              have HWN := Lib.hid hwn
              have hbc : b < wc.heap.size := Nat.lt_of_lt_of_le hbw HWY.out.size
              have hatc := HAT.out.old hbw HWY.out
              have HAC := Lib.hid hatc
              have hki2 : (k : Int) ≤ (N : Int) := by omega
              have hNc : N ≤ cap := by omega
              have hNci : (N : Int) ≤ (cap : Int) := by omega
              have hkc : k ≤ cap := by omega
              have hkci : (k : Int) ≤ (cap : Int) := by omega
              have hk00 : (0 : Int) ≤ (k : Int) := by omega
              have hN00 : (0 : Int) ≤ (N : Int) := by omega
              have hl2 : ((es.drop k).take (N - k)).length ≤ cap - k := by rw [hcl]; omega
              have HL2 := Lib.hid hl2
              have hys := HWY.out.size
              clear hwn hcl hby hl2 hee hq2
              by_cases hNn : N = n
              · subst hNn
                have HCK : Hid (CK es key M ((es.drop k).take (N - k)) ⟨#[]⟩) := Lib.hid ⟨k, N - k, HF.out, HWN.out, rfl, by rw [dif_neg (by rw [HL.out]; omega)]⟩
                clear hatc
                by_cases hck : cap = k
                · have hNk : N = k := by omega
                  subst hNk
                  subst hck
                  go_wp2
                  go_ret2
                  exact ⟨some ⟨b, off, none⟩, 0, _, _, by rw [HCL.out, Nat.sub_self]; rfl, HCK.out, .inl (List.length_eq_zero_iff.1 (by rw [HCL.out, Nat.sub_self])), by rw [HCL.out, Nat.sub_self]; exact Nat.le_refl _, HWY.out⟩
                · go_wp2
                  go_ret2
                  exact ⟨some ⟨b, off + k * 4, none⟩, cap - k, _, _, by rw [HCL.out]; rfl, HCK.out, ((HAC.out.drop k).take (N - k)).rd hbc, HL2.out, HWY.out⟩
              · have hlt : N < n := by omega
                have hNi : (N : Int) < (n : Int) := by omega
                have hNb : ((N : Int) == (n : Int)) = false := by simp; omega
                have hNl : N < es.length := by rw [HL.out]; exact hlt
                have g0 := (hatc N hNl).1
                obtain ⟨ek, hek⟩ : ∃ ek, ek = es[N].1 := ⟨_, rfl⟩
                rw [← hek] at g0
                have HCK : Hid (CK es key M ((es.drop k).take (N - k)) ek) := Lib.hid ⟨k, N - k, HF.out, HWN.out, rfl, by
                  rw [dif_pos (by omega), hek]
                  exact HIX.out _ _ _ _ (by omega)⟩
                have hck : ¬ cap = k := by omega
                clear hatc hek
                go_wp2
                refine wp_region_below (by kernel_rfl) (by kernel_rfl) ?_
                repeat (first
                  | go_big_quiet_skip
                  | (go_big_quiet_want
                     first
                     | (refine BigFrame.quiet_move _ rfl ?_)
                     | (refine BigFrame.quiet_assign _ rfl ?_)
                     | (unfold Oper.quiet
                        apply Exists.intro
                        refine ⟨fun w' hw' => ?_, ?_⟩
                        · (obtain ⟨hc', hf'⟩ := bcell hw'
                           go_simp
                           first
                           | done
                           | exact rfl))
                     go_big_quiet_on
                     simp only [Act.put, Act.eval, List.setIfInBounds_toArray, List.set_cons_zero, List.set_cons_succ, Array.getD_eq_getD_getElem?, List.getElem?_toArray, List.getElem?_cons_zero, List.getElem?_cons_succ, Option.getD_some]))
                refine wpQuiet_nil ?_
                intro w' hw'
                go_wp2
                go_ret2
                exact ⟨some ⟨b, off + k * 4, none⟩, cap - k, _, _, by rw [HCL.out]; rfl, HCK.out, (((HAC.out.drop k).take (N - k)).rd hbc).old hw', HL2.out, HWY.out.trans (hw'.mono hys)⟩
end Go.Proofs.Ytobhjmkaamjoeaa
