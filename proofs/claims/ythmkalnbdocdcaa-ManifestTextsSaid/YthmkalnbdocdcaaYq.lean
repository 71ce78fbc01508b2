/-
  Layer 12 (manifest): contracts of the document's num, text, Put. Conditions: texts within the reach.
-/
import Derived.Test.YthmkalnbdocdcaaYg
import Derived.Test.YthmkalnbdocdcaaRg
import Derived.Test.YthmkalnbdocdcaaVp
import Derived.Deep.RegionHeld3
namespace Go.Proofs.Ythmkalnbdocdcaa
set_option maxRecDepth 100000
open Go.RowKit
set_option linter.unusedVariables false
set_option linter.unusedSimpArgs false

theorem rnumS_any (z : Int) (n : Nat) (hz : z = (n : Int)) (hn : n ≤ 4611686018427387904) (w : World) :
    Calls Try.prog 33 #[.int .i64 z] w fun e w' => e = .returned (.string ⟨(vL n).toArray⟩) ∧ Below w.heap.size w w' := by
  subst hz
  have HP := Lib.hid fun w => put_ref n w hn
  go_enter Try.func33, Try.ntmps33
  go_wp2_with fail
  refine (HP.out _).mono ?_
  rintro e w1 ⟨rfl, b1⟩
  have HB := Lib.hid b1
  clear b1
  go_wp2
  go_ret
  exact ⟨rfl, HB.out⟩
theorem rtextS_any (s : ByteArray) (h : s.size ≤ 262144) (w : World) :
    Calls Try.prog 34 #[.string s] w fun e w' => e = .returned (.string ⟨(txL s.data.toList).toArray⟩) ∧ Below w.heap.size w w' := by
  have HP := Lib.hid fun w => text_ref s w h
  go_enter Try.func34, Try.ntmps34
  go_wp2_with fail
  refine (HP.out _).mono ?_
  rintro e w1 ⟨rfl, b1⟩
  have HB := Lib.hid b1
  clear b1
  go_wp2
  go_ret
  exact ⟨rfl, HB.out⟩
theorem cat_mk {X Y : List UInt8} {x y z : ByteArray} (hx : x = ⟨X.toArray⟩) (hy : y = ⟨Y.toArray⟩) (hz : z = ⟨(X ++ Y).toArray⟩) (hl : X.length + Y.length ≤ 100000000) (w : World) : (Op.stringOp .add x y).run Try.prog w = .ok (.string z) w := by
  rw [run_string_add_sum w x y (by rw [hx, hy, mk_size, mk_size]; omega)]
  refine congrArg (fun q => Result.ok (Value.string q) w) ?_
  rw [hx, hy, hz]
  apply ByteArray.ext
  simp
set_option maxRecDepth 1000000 in
set_option maxHeartbeats 16000000 in
theorem rput12_any (V : Value) (d : Ed) (w : World) (h : EV w V d) : Calls Try.prog 12 #[V] w (PUe d w) := by
  have CK := Lib.hid fun (wx : World) (hx : Below w.heap.size w wx) => rmay12_any V d wx (h.old hx)
  obtain ⟨aa, an, ac, da, dn, dc, rfl, hst, hsz, hok⟩ := h
  obtain ⟨ts, zs, lg, nx⟩ := d
  obtain ⟨b, off, ha, hb, hc⟩ := hst.2.1.at_
  obtain ⟨b2, off2, ha2, hb2, hc2⟩ := hsz.2.1.at_
  simp only at *
  have hl := hst.1
  have hl2 := hsz.1
  rw [hl] at ha hb
  rw [hl2] at ha2 hb2
  have HB0 := Lib.hid (box_bel w (.cells #[.slice aa an ac, .slice da dn dc, .int .i64 lg, .int .i64 nx] 25))
  have bx := EdBox.new w 25 (.slice aa an ac) (.slice da dn dc) lg nx
  have HC := Lib.hid hc
  have HC2 := Lib.hid hc2
  have HL := Lib.hid hl
  have HL2 := Lib.hid hl2
  have BX := Lib.hid bx
  obtain ⟨m, hm⟩ : ∃ m, mayEd (ts, zs, lg, nx) = m := ⟨_, rfl⟩
  have HM := Lib.hid hm
  rw [hm] at CK
  clear hm hc hc2 hl hl2 bx hok hst hsz
  go_enter Try.func12, Try.ntmps12
  go_wp2_with fail
  refine (CK.out _ HB0.out).mono ?_
  rintro e w1 ⟨rfl, b1⟩
  have HB1 := Lib.hid (HB0.out.trans (b1.mono HB0.out.size))
  have BX1 := Lib.hid (BX.out.below b1)
  clear b1 CK
  cases m with
  | false =>
    go_wp2_with fail
    go_ret2
    exact PUe.no (by rw [HM.out]; decide) rfl HB1.out
  | true =>
    obtain ⟨m1, m2, m3, m4, m5, m6⟩ := mayEd_iff.1 HM.out
    simp only at m1 m2 m3 m4 m5 m6
    rw [HL.out] at m1
    rw [HL2.out] at m2
    have HMT := Lib.hid m3
    have HMZ := Lib.hid m4
    have C0 := Lib.hid (rnumS_any (an : Int) an rfl (by omega))
    obtain ⟨S0, hS0⟩ : ∃ S0 : ByteArray, S0 = ⟨(vL an).toArray⟩ := ⟨_, rfl⟩
    rw [← hS0] at C0
    have HS0 := Lib.hid hS0
    clear m3 m4 hS0
    obtain ⟨xb, hxb⟩ : ∃ xb, xb = w.heap.size := ⟨_, rfl⟩
    obtain ⟨y0, y1, y2, y3, y4⟩ := BX1.out
    go_wp2_with fail
    rw [← hxb] at BX1 ⊢
    have HXB := Lib.hid hxb
    clear hxb y0 y1 y2 y3 y4
    refine (C0.out _).mono ?_
    rintro e w2 ⟨rfl, b2'⟩
    have HB2 := Lib.hid b2'
    clear b2' C0
    go_wp2_with fail
    go_loopw [4, 5] (fun v i wr => ∃ (k : Nat) (M : ByteArray), i = .int .i64 k ∧ v = .string M ∧ k ≤ an ∧ Hid (M = ⟨(vL an ++ tabsB (ts.take k)).toArray⟩) ∧ Hid (Below w1.heap.size w1 wr)) (fun _ i _ => an - (intOf i).toNat)
    case atStart => exact ⟨0, S0, rfl, rfl, by omega, Lib.hid (by rw [HS0.out]; simp [tabsB]), HB2⟩
    case round =>
      obtain ⟨k, M, rfl, rfl, hk, HMM, HW⟩ := hrel
      obtain ⟨y0, y1, y2, y3, y4⟩ := BX1.out.below HW.out
      have hlen := tabsB_len (ts := ts.take k) (fun e he => HMT.out e (List.mem_of_mem_take he))
      rw [List.length_take] at hlen
      have hv0 := vL_len9 (n := an) (by omega)
      by_cases hlt : k < an
      · obtain rfl := ha (by omega)
        have hbw := hb (by omega)
        have hkl : k < ts.length := by rw [HL.out]; exact hlt
        have hki : (k : Int) < (an : Int) := by omega
        have hB1s := HB1.out.size
        have hWs := HW.out.size
        have hbr : b < wr.heap.size := by omega
        obtain ⟨g0, g1, g2, g3⟩ := (HC.out.old hbw HB1.out).old (by omega : b < w1.heap.size) HW.out k hkl
        have hmt := HMT.out _ (List.getElem_mem hkl)
        have hbody := tabsB_snoc (ts.take k) ts[k]
        rw [← List.take_succ_eq_append_getElem hkl] at hbody
        obtain ⟨E, hE⟩ : ∃ E, E = ts[k] := ⟨_, rfl⟩
        rw [← hE] at g0 g1 g2 g3 hmt hbody
        obtain ⟨x1, x2, x3, x4⟩ := E
        obtain ⟨⟨i1, i2⟩, ⟨v1, v2⟩, k1, k2, -⟩ := mayT_iff.1 hmt
        simp only at i1 i2 v1 v2 k1 k2
        have hk1 := (keyB_iff.1 k1).2
        have hk2 := (keyB_iff.1 k2).2
        obtain ⟨L, hL⟩ : ∃ L, L = vL an ++ tabsB (ts.take k) := ⟨_, rfl⟩
        have hLs : L.length ≤ 80000000 := by
          rw [hL, List.length_append]
          have : min k ts.length ≤ 128 := by omega
          omega
        have hMe := HMM.out
        rw [← hL] at hMe
        have HBody : (vL an ++ tabsB (ts.take (k + 1)) = L ++ vL x1.toNat ++ vL x2.toNat ++ txL x3.data.toList ++ txL x4.data.toList) := by
          rw [hbody, ← List.append_assoc, ← hL]
          unfold tabB
          simp only [List.append_assoc]
        have q1 := vL_len9 (n := x1.toNat) (by omega)
        have q2 := vL_len9 (n := x2.toNat) (by omega)
        have q3 := txL_size x3.data.toList (by rw [size_list]; omega)
        have q4 := txL_size x4.data.toList (by rw [size_list]; omega)
        have C1 := Lib.hid (rnumS_any x1 x1.toNat (by omega) (by omega))
        have C2 := Lib.hid (rnumS_any x2 x2.toNat (by omega) (by omega))
        have C3 := Lib.hid (rtextS_any x3 (by omega))
        have C4 := Lib.hid (rtextS_any x4 (by omega))
        obtain ⟨S1, hS1⟩ : ∃ S : ByteArray, S = ⟨(vL x1.toNat).toArray⟩ := ⟨_, rfl⟩
        obtain ⟨S2, hS2⟩ : ∃ S : ByteArray, S = ⟨(vL x2.toNat).toArray⟩ := ⟨_, rfl⟩
        obtain ⟨S3, hS3⟩ : ∃ S : ByteArray, S = ⟨(txL x3.data.toList).toArray⟩ := ⟨_, rfl⟩
        obtain ⟨S4, hS4⟩ : ∃ S : ByteArray, S = ⟨(txL x4.data.toList).toArray⟩ := ⟨_, rfl⟩
        obtain ⟨M1, hM1⟩ : ∃ S : ByteArray, S = ⟨(L ++ vL x1.toNat).toArray⟩ := ⟨_, rfl⟩
        obtain ⟨M2, hM2⟩ : ∃ S : ByteArray, S = ⟨(L ++ vL x1.toNat ++ vL x2.toNat).toArray⟩ := ⟨_, rfl⟩
        obtain ⟨M3, hM3⟩ : ∃ S : ByteArray, S = ⟨(L ++ vL x1.toNat ++ vL x2.toNat ++ txL x3.data.toList).toArray⟩ := ⟨_, rfl⟩
        obtain ⟨M4, hM4⟩ : ∃ S : ByteArray, S = ⟨(L ++ vL x1.toNat ++ vL x2.toNat ++ txL x3.data.toList ++ txL x4.data.toList).toArray⟩ := ⟨_, rfl⟩
        have hc1 := cat_mk (x := M) (y := S1) (z := M1) hMe hS1 hM1 (by omega)
        have hc2 := cat_mk (x := M1) (y := S2) (z := M2) hM1 hS2 hM2 (by simp only [List.length_append]; omega)
        have hc3 := cat_mk (x := M2) (y := S3) (z := M3) hM2 hS3 hM3 (by simp only [List.length_append]; omega)
        have hc4 := cat_mk (x := M3) (y := S4) (z := M4) hM3 hS4 hM4 (by simp only [List.length_append]; omega)
        rw [← hS1] at C1
        rw [← hS2] at C2
        rw [← hS3] at C3
        rw [← hS4] at C4
        have HN : Hid (M4 = ⟨(vL an ++ tabsB (ts.take (k + 1))).toArray⟩) := Lib.hid (by rw [hM4, HBody])
        clear hbody hlen hL hE hmt k1 k2 HBody hM1 hM2 hM3 hM4 hS1 hS2 hS3 hS4 hMe HMM q1 q2 q3 q4 hLs
        go_wp2_with fail
        refine wp_region_below (by kernel_rfl) (by kernel_rfl) ?_
        repeat (first
          | go_big_quiet_skip
          | (go_big_quiet_want
             first
             | (refine BigFrame.quiet_move _ rfl ?_)
             | (refine BigFrame.quiet_assign _ rfl ?_)
             | (unfold Oper.quiet
                apply Exists.intro
                refine ⟨fun w' hw' => ?_, ?_⟩
                · (obtain ⟨hc', hf'⟩ := bcell hw'
                   go_simp
                   first
                   | done
                   | exact rfl
                   | (go_at_call 33; (with_reducible refine (C1.out _).mono ?_); rintro e w'' ⟨rfl, bb⟩; exact ⟨rfl, by first | exact bt hw' bb | simpa using bt hw' bb⟩)
                   | (go_at_call 33; (with_reducible refine (C2.out _).mono ?_); rintro e w'' ⟨rfl, bb⟩; exact ⟨rfl, by first | exact bt hw' bb | simpa using bt hw' bb⟩)
                   | (go_at_call 34; (with_reducible refine (C3.out _).mono ?_); rintro e w'' ⟨rfl, bb⟩; exact ⟨rfl, by first | exact bt hw' bb | simpa using bt hw' bb⟩)
                   | (go_at_call 34; (with_reducible refine (C4.out _).mono ?_); rintro e w'' ⟨rfl, bb⟩; exact ⟨rfl, by first | exact bt hw' bb | simpa using bt hw' bb⟩)))
             go_big_quiet_on
             simp only [Act.put, Act.eval, List.setIfInBounds_toArray, List.set_cons_zero, List.set_cons_succ, Array.getD_eq_getD_getElem?, List.getElem?_toArray, List.getElem?_cons_zero, List.getElem?_cons_succ, Option.getD_some]))
        refine wpQuiet_nil ?_
        intro w' hw'
        have HW' := Lib.hid (HW.out.trans (hw'.mono hWs))
        clear hw'
        go_wp2_with fail
        go_roundw
        case rel => exact ⟨k + 1, M4, by go_num, rfl, by omega, HN, HW'⟩
        case measure => simp [intOf]; omega
      · obtain rfl : k = an := by omega
        have hMe := HMM.out
        rw [← HL.out, List.take_length, HL.out] at hMe
        obtain ⟨L, hL⟩ : ∃ L, L = vL k ++ tabsB ts := ⟨_, rfl⟩
        have hLs : L.length ≤ 80000000 := by
          rw [hL, List.length_append]
          have := tabsB_len HMT.out
          have := HL.out
          omega
        rw [← hL] at hMe
        have HLE := Lib.hid hL
        have q1 := vL_len9 (n := dn) (by omega)
        have C1 := Lib.hid (rnumS_any (dn : Int) dn rfl (by omega))
        obtain ⟨S1, hS1⟩ : ∃ S : ByteArray, S = ⟨(vL dn).toArray⟩ := ⟨_, rfl⟩
        obtain ⟨M1, hM1⟩ : ∃ S : ByteArray, S = ⟨(L ++ vL dn).toArray⟩ := ⟨_, rfl⟩
        have hc1 := cat_mk (x := M) (y := S1) (z := M1) hMe hS1 hM1 (by omega)
        rw [← hS1] at C1
        have HM1 := Lib.hid hM1
        have hs0 := HW.out.size
        clear hlen hL hMe hM1 hS1 HMM
        go_wp2_with fail
        refine (C1.out _).mono ?_
        rintro e w3 ⟨rfl, b3⟩
        have HW3 := Lib.hid (HW.out.trans (b3.mono hs0))
        clear b3 C1 HW hs0 y0 y1 y2 y3 y4
        go_wp2_with fail
        clear hc1
        go_loopw [4, 6] (fun v i wr => ∃ (j : Nat) (M : ByteArray), i = .int .i64 j ∧ v = .string M ∧ j ≤ dn ∧ Hid (M = ⟨(L ++ vL dn ++ intsB (zs.take j)).toArray⟩) ∧ Hid (Below w1.heap.size w1 wr)) (fun _ i _ => dn - (intOf i).toNat)
        case atStart => exact ⟨0, M1, rfl, rfl, by omega, Lib.hid (by rw [HM1.out]; simp [intsB]), HW3⟩
        case round =>
          obtain ⟨j, M2, rfl, rfl, hj, HMM, HW⟩ := hrel
          obtain ⟨y0, y1, y2, y3, y4⟩ := BX1.out.below HW.out
          have hlen := intsB_len (zs := zs.take j) (fun e he => HMZ.out e (List.mem_of_mem_take he))
          rw [List.length_take] at hlen
          have hws := HW.out.size
          by_cases hlt2 : j < dn
          · obtain rfl := ha2 (by omega)
            have hbw := hb2 (by omega)
            have hkl : j < zs.length := by rw [HL2.out]; exact hlt2
            have hki : (j : Int) < (dn : Int) := by omega
            have hB1s := HB1.out.size
            have hbr : b2 < wr.heap.size := by omega
            have g0 := (HC2.out.old hbw HB1.out).old (by omega : b2 < w1.heap.size) HW.out j hkl
            have hmz := HMZ.out _ (List.getElem_mem hkl)
            have hbody := intsB_snoc (zs.take j) zs[j]
            rw [← List.take_succ_eq_append_getElem hkl] at hbody
            obtain ⟨E, hE⟩ : ∃ E, E = zs[j] := ⟨_, rfl⟩
            rw [← hE] at g0 hmz hbody
            obtain ⟨N, hN⟩ : ∃ N, N = L ++ vL dn ++ intsB (zs.take j) := ⟨_, rfl⟩
            have hMl : N.length ≤ 90000000 := by rw [hN]; simp only [List.length_append]; omega
            have hMe := HMM.out
            rw [← hN] at hMe
            have q2 := vL_len9 (n := E.toNat) (by omega)
            have C1 := Lib.hid (rnumS_any E E.toNat (by omega) (by omega))
            obtain ⟨S1, hS1⟩ : ∃ S : ByteArray, S = ⟨(vL E.toNat).toArray⟩ := ⟨_, rfl⟩
            obtain ⟨M3, hM3⟩ : ∃ S : ByteArray, S = ⟨(N ++ vL E.toNat).toArray⟩ := ⟨_, rfl⟩
            have hc1 := cat_mk (x := M2) (y := S1) (z := M3) hMe hS1 hM3 (by omega)
            rw [← hS1] at C1
            have HN : Hid (M3 = ⟨(L ++ vL dn ++ intsB (zs.take (j + 1))).toArray⟩) := Lib.hid (by rw [hM3, hbody, ← List.append_assoc, ← hN])
            clear hN hbody hE hlen hMe hM3 hS1 HMM hmz
            go_wp2_with fail
            refine (C1.out _).mono ?_
            rintro e w4 ⟨rfl, b4⟩
            have HW4 := Lib.hid (HW.out.trans (b4.mono hws))
            clear b4 C1
            go_wp2_with fail
            go_roundw
            case rel => exact ⟨j + 1, M3, by go_num, rfl, by omega, HN, HW4⟩
            case measure => simp [intOf]; omega
          · obtain rfl : j = dn := by omega
            have hMe := HMM.out
            rw [← HL2.out, List.take_length, HL2.out] at hMe
            obtain ⟨N, hN⟩ : ∃ N, N = L ++ vL j ++ intsB zs := ⟨_, rfl⟩
            have hMl : N.length ≤ 90000000 := by rw [hN]; simp only [List.length_append]; have := intsB_len HMZ.out; have := HL2.out; omega
            rw [← hN] at hMe
            have q2 := vL_len9 (n := lg.toNat) (by omega)
            have q3 := vL_len9 (n := nx.toNat) (by omega)
            have C1 := Lib.hid (rnumS_any lg lg.toNat (by omega) (by omega))
            have C2 := Lib.hid (rnumS_any nx nx.toNat (by omega) (by omega))
            obtain ⟨S1, hS1⟩ : ∃ S : ByteArray, S = ⟨(vL lg.toNat).toArray⟩ := ⟨_, rfl⟩
            obtain ⟨S2, hS2⟩ : ∃ S : ByteArray, S = ⟨(vL nx.toNat).toArray⟩ := ⟨_, rfl⟩
            obtain ⟨M3, hM3⟩ : ∃ S : ByteArray, S = ⟨(N ++ vL lg.toNat).toArray⟩ := ⟨_, rfl⟩
            obtain ⟨M4, hM4⟩ : ∃ S : ByteArray, S = ⟨(N ++ vL lg.toNat ++ vL nx.toNat).toArray⟩ := ⟨_, rfl⟩
            have hc1 := cat_mk (x := M2) (y := S1) (z := M3) hMe hS1 hM3 (by omega)
            have hc2 := cat_mk (x := M3) (y := S2) (z := M4) hM3 hS2 hM4 (by simp only [List.length_append]; omega)
            rw [← hS1] at C1
            rw [← hS2] at C2
            have HN : Hid (M4 = ⟨(edB (ts, zs, lg, nx)).toArray⟩) := Lib.hid (by
              rw [hM4, hN, HLE.out]
              unfold edB
              rw [HL.out, HL2.out])
            clear hN hlen hMe hM3 hM4 hS1 hS2 HMM
            go_wp2_with fail
            refine wp_region_below (by kernel_rfl) (by kernel_rfl) ?_
            repeat (first
              | go_big_quiet_skip
              | (go_big_quiet_want
                 first
                 | (refine BigFrame.quiet_move _ rfl ?_)
                 | (refine BigFrame.quiet_assign _ rfl ?_)
                 | (unfold Oper.quiet
                    apply Exists.intro
                    refine ⟨fun w' hw' => ?_, ?_⟩
                    · (obtain ⟨hc', hf'⟩ := bcell hw'
                       go_simp
                       first
                       | done
                       | exact rfl
                       | (go_at_call 33; (with_reducible refine (C1.out _).mono ?_); rintro e w'' ⟨rfl, bb⟩; exact ⟨rfl, by first | exact bt hw' bb | simpa using bt hw' bb⟩)
                       | (go_at_call 33; (with_reducible refine (C2.out _).mono ?_); rintro e w'' ⟨rfl, bb⟩; exact ⟨rfl, by first | exact bt hw' bb | simpa using bt hw' bb⟩)))
                 go_big_quiet_on
                 simp only [Act.put, Act.eval, List.setIfInBounds_toArray, List.set_cons_zero, List.set_cons_succ, Array.getD_eq_getD_getElem?, List.getElem?_toArray, List.getElem?_cons_zero, List.getElem?_cons_succ, Option.getD_some]))
            refine wpQuiet_nil ?_
            intro w' hw'
            have HW' := Lib.hid (HB1.out.trans ((HW.out.trans (hw'.mono hws)).mono HB1.out.size))
            clear hw'
            go_wp2_with fail
            go_ret2
            refine PUe.yes HM.out ?_ HW'.out
            exact congrArg Ending.returned (congrArg (fun x => Value.tuple #[.string x, .int .i64 0]) HN.out)
end Go.Proofs.Ythmkalnbdocdcaa
