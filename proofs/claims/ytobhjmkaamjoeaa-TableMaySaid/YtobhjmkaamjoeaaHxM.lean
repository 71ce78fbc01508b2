/-
  Layer 10 (table), the walk of the law TableMay. Conditions: texts within the reach.
-/
import Derived.Test.YtobhjmkaamjoeaaQ6
namespace Go.Proofs.Ytobhjmkaamjoeaa
set_option maxRecDepth 100000
open Go.RowKit
set_option linter.unusedVariables false
set_option linter.unusedSimpArgs false

set_option maxHeartbeats 8000000 in
theorem walk_TableMay (a : Option Addr) (cap : Nat) (es : List Ent) (key : ByteArray) (hkey : key.size ≤ 140737488351232) (w : World) (h : RdE w a es) (hok : okV es) (hl : es.length ≤ maxLen) :
    Calls Try.prog 5 #[.slice a es.length cap, .string key] w fun e w' => e = .returned (.bool true) ∧ Below w.heap.size w w' := by
  unfold maxLen at hl
  obtain ⟨n, hn⟩ : ∃ n, es.length = n := ⟨_, rfl⟩
  rw [hn] at hl ⊢
  have hkz : (key.size : Int) ≤ 140737488351232 := by omega
  have HLi := Lib.hid fun r hr => light_any a n cap es w (by omega) hn h hok r hr
  have HA := Lib.hid fun w => awakeT_any w
  cases hb : liteB es with
  | false =>
    have HL0 := Lib.hid (HLi.out false hb)
    clear HLi h hok hb hn
    go_enter Try.func5, Try.ntmps5
    go_wp2_with fail
    refine HL0.out.mono ?_
    rintro e w1 ⟨rfl, b1⟩
    go_wp2_with fail
    refine (HA.out _).mono ?_
    rintro e w2 ⟨rfl, b2⟩
    go_wp2
    go_ret
    exact ⟨rfl, b1.trans (b2.mono b1.size)⟩
  | true =>
    have HL0 := Lib.hid (HLi.out true hb)
    have hn80 : n ≤ 80 := by have := (lite_yes hb).1; omega
    have HO := Lib.hid fun w h => opened_any a n cap es w hn80 hn h hok
    have HR := Lib.hid h
    obtain ⟨ms, hms⟩ : ∃ ms, ms = madeT es := ⟨_, rfl⟩
    have hmk := madeT_ok es (by omega)
    rw [← hms] at HO hmk
    have HMK := Lib.hid hmk
    clear HLi h hok hb hn hms hmk
    by_cases hk : key.size ≤ 100
    · have hki : (key.size : Int) ≤ 100 := by omega
      go_enter Try.func5, Try.ntmps5
      go_wp2_with fail
      refine HL0.out.mono ?_
      rintro e w1 ⟨rfl, b1⟩
      have HW1 := Lib.hid b1
      clear b1
      go_wp2_with fail
      refine (HO.out _ (HR.out.old HW1.out)).mono ?_
      rintro e w2 ⟨b2, d, m, c, s2, h2⟩
      have HW2 := Lib.hid (HW1.out.trans (b2.mono HW1.out.size))
      have HS2 := Lib.hid s2
      clear b2 HW1 HO HR HL0
      rcases h2 with ⟨h2, rfl⟩ | ⟨hm0, T, rfl, ht⟩
      · go_wp2_with fail
        refine (HA.out _).mono ?_
        rintro e w3 ⟨rfl, b3⟩
        have HW3 := Lib.hid (HW2.out.trans (b3.mono HW2.out.size))
        go_wp2
        go_ret
        exact ⟨rfl, HW3.out⟩
      · have HT2 : Hid (TP w2 (.pointer (some ⟨T, 0, none⟩)) ms true) := Lib.hid (.inl ⟨rfl, T, rfl, ht⟩)
        have hml : ms.length = m := s2.1
        have hm80 : m ≤ 80 := by have := HMK.out.2; omega
        have HML := Lib.hid hml
        have hfr := HS2.out.2.1
        obtain ⟨b, off, ha, hb, hat⟩ := hfr.at_
        obtain rfl := ha (by omega)
        have hbw := hb (by omega)
        have HAT := Lib.hid hat
        have hW2s := HW2.out.size
        clear s2 ht hml ha hb hat hfr
        go_wp2
        go_loopw [8, 9, 10] (fun i _ _ wr => ∃ k : Nat, i = .int .i64 k ∧ k ≤ m ∧ Hid (Below w2.heap.size w2 wr)) (fun i _ _ _ => m - (intOf i).toNat)
        case atStart => exact ⟨0, rfl, by omega, Lib.hid (Below.refl _ _)⟩
        case round =>
          obtain ⟨k, rfl, hk, HW⟩ := hrel
          have hws := HW.out.size
          by_cases hlt : k < m
          · have hki2 : (k : Int) < (m : Int) := by omega
            have hk0 : (0 : Int) ≤ (k : Int) := by omega
            have hkl : k < ms.length := by rw [HML.out]; exact hlt
            have hbr : b < wr.heap.size := Nat.lt_of_lt_of_le hbw hws
            obtain ⟨g0, g1, g2, g3⟩ := HAT.out.old hbw HW.out k hkl
            have HFO := find_own (okB_iff.1 HMK.out.1).2 k hkl
            have HMY := mayT_has (List.getElem_mem hkl)
            obtain ⟨E, hE⟩ : ∃ E, E = ms[k] := ⟨_, rfl⟩
            have hkz0 := okB_key64 HMK.out.1 ms[k] (List.getElem_mem hkl)
            rw [← hE] at g0 g1 g2 g3 HFO HMY hkz0
            obtain ⟨ek, evl, eg, eq⟩ := E
            simp only at g0 g1 g2 g3 HFO HMY hkz0
            have HG := Lib.hid fun (wx : World) (hx : Below wr.heap.size wr wx) => tget_any _ ms true ek eq wx ((HT2.out.old HW.out).old hx)
            rw [HFO, show fnd (some (ek, evl, eg, eq)) = .tuple #[.agg #[.string ek, .string evl, .bool eg, .int .i64 eq], .bool true] from rfl] at HG
            have HM := Lib.hid fun (wx : World) (hx : Below wr.heap.size wr wx) => tmayk_any _ ms true ek wx (by omega) ((HT2.out.old HW.out).old hx)
            rw [HMY] at HM
            have HSS : Hid ((wr.cell? ⟨b, off + k * 4, none⟩ = some (.string ek) ∧ wr.cell? ⟨b, off + k * 4 + 3, none⟩ = some (.int .i64 eq)) ∧ Below wr.heap.size wr wr) := Lib.hid ⟨⟨g0, g3⟩, Below.refl _ _⟩
            have HGG : Hid (EAt wr b (off + k * 4) [(ek, evl, eg, eq)]) := Lib.hid fun i hi => by
              obtain rfl : i = 0 := by simpa using hi
              simpa using ⟨g0, g1, g2, g3⟩
            clear hE HFO HMY hkz0 hkl
            go_upto_region 9 with fail
            go_cut [9, 10] (fun s9 s10 wx => ∃ g, s9 = .pointer (some ⟨g, 0, none⟩) ∧ s10 = .bool true ∧ EBox wx g ek evl eg eq ∧ Below wr.heap.size wr wx)
            case first =>
              go_region_held3 (fun w' => (w'.cell? ⟨b, off + k * 4, none⟩ = some (.string ek) ∧ w'.cell? ⟨b, off + k * 4 + 3, none⟩ = some (.int .i64 eq)) ∧ Below wr.heap.size wr w')
                (first
                  | assumption
                  | (refine keepM HSS.out ?_ hbr
                     repeat (first | assumption | exact Below.refl _ _ | (refine Below.alloc ?_ ?_ _) | (refine Below.setCell ?_ ?_ _) | (refine Below.drew ?_))
                     all_goals (first | omega | (simp; done) | (simp; omega))))
                (first
                  | (go_at_call 12; refine (HG.out _ ((((Below.refl _ _).alloc (Nat.le_refl _) _)).drew)).mono ?_; rintro e w4 ⟨rfl, bb⟩; have hq := m_one bb; obtain ⟨hB', hE4, hF4⟩ := hq; have ZE4 := Lib.hid hE4; obtain ⟨z0, z1, z2, z3, z4⟩ := hE4; obtain ⟨f0, f1, f2, f3⟩ := hF4; have S4 := Lib.hid bb.size)
                  | (go_at_call 12; refine (HG.out _ ((Below.refl _ _).drew)).mono ?_; rintro e w4 ⟨rfl, bb⟩; have hB' := m_none bb; have S4 := Lib.hid bb.size))
              all_goals
                go_wp2_with fail
                go_meet
                refine ⟨_, rfl, rfl, ?_, ?_⟩
                · first | exact EBox.new _ _ _ _ _ _ | exact ZE4.out.put
                · first | exact hB'.alloc hB'.size _ | exact below_put hB' (Nat.le_refl _) _ _ _ _
            case rest =>
              obtain ⟨g, rfl, rfl, hx, bx⟩ := hcut
              have HW3 := Lib.hid (HW.out.trans (bx.mono hws))
              have HM3 := Lib.hid fun (wx : World) (hx : Below wc.heap.size wc wx) => HM.out wx (bx.trans (hx.mono bx.size))
              have hbc : b < wc.heap.size := Nat.lt_of_lt_of_le hbr bx.size
              obtain ⟨q0, q1, q2, q3⟩ := HGG.out.old hbr bx 0 (by simp)
              simp only [Nat.zero_mul, Nat.add_zero, List.getElem_cons_zero] at q0 q1 q2 q3
              obtain ⟨x0, x1, x2, x3, x4⟩ := hx
              clear bx g0 g1 g2 g3 HM HG HSS HGG HW
              have hwc := HW3.out.size
              go_wp2
              refine wp_region_below (by kernel_rfl) (by kernel_rfl) ?_
              repeat (first
                | go_big_quiet_skip
                | (go_big_quiet_want
                   first
                   | (refine BigFrame.quiet_move _ rfl ?_)
                   | (refine BigFrame.quiet_assign _ rfl ?_)
                   | (unfold Oper.quiet
                      apply Exists.intro
                      refine ⟨fun w' hw' => ?_, ?_⟩
                      · (obtain ⟨hc', hf'⟩ := bcell hw'
                         go_simp
                         first
                         | done
                         | exact rfl
                         | (go_at_call 19; (with_reducible refine (HM3.out _ hw').mono ?_); rintro e w'' ⟨rfl, bb⟩; exact ⟨rfl, by first | exact bt hw' bb | simpa using bt hw' bb⟩)))
                   go_big_quiet_on
                   simp only [Act.put, Act.eval, List.setIfInBounds_toArray, List.set_cons_zero, List.set_cons_succ, Array.getD_eq_getD_getElem?, List.getElem?_toArray, List.getElem?_cons_zero, List.getElem?_cons_succ, Option.getD_some]))
              refine wpQuiet_nil ?_
              intro w' hw'
              have HW4 := Lib.hid (HW3.out.trans (hw'.mono hwc))
              clear hw'
              go_wp2
              go_roundw
              case rel => exact ⟨k + 1, by go_num, by omega, HW4⟩
              case measure => simp [intOf]; omega
          · obtain rfl : k = m := by omega
            have HT3 := Lib.hid (HT2.out.old HW.out)
            have HW3 := Lib.hid (HW2.out.trans (HW.out.mono HW2.out.size))
            have HG := Lib.hid (tget_any _ ms true key 1099511627776 _ HT3.out)
            obtain ⟨r, hr⟩ : ∃ r, r = mayT ms true key := ⟨_, rfl⟩
            have hM := fun (wx : World) (hx : Below wr.heap.size wr wx) => tmayk_any _ ms true key wx hkey (HT3.out.old hx)
            rw [← hr] at hM
            have HM := Lib.hid hM
            have HRE := Lib.hid hr
            clear hM hr HW hws
            cases ho : findB ms key 1099511627776 with
            | none =>
              rw [ho, show fnd none = .tuple #[.agg #[.string ⟨#[]⟩, .string ⟨#[]⟩, .bool false, .int .i64 0], .bool false] from rfl] at HG
              clear ho
              go_wp2_with fail
              refine HG.out.mono ?_
              rintro e w5 ⟨rfl, b5⟩
              have HW5 := Lib.hid (HW3.out.trans (b5.mono HW3.out.size))
              have HM5 := Lib.hid (HM.out _ (b5.trans ((Below.refl _ _).alloc (Nat.le_refl _) (.cells #[.string ⟨#[]⟩, .string ⟨#[]⟩, .bool false, .int .i64 0] 32) |>.mono b5.size)))
              have hw5 := HW5.out.size
              clear b5 HM
              go_wp2_with fail
              refine HM5.out.mono ?_
              rintro e w6 ⟨rfl, b6⟩
              have HW6 := Lib.hid (HW5.out.trans ((below_al b6).mono hw5))
              clear b6
              cases r
              all_goals
                go_wp2_with fail
                refine (HA.out _).mono ?_
                rintro e w7 ⟨rfl, b7⟩
                have HW7 := Lib.hid (HW6.out.trans (b7.mono HW6.out.size))
                go_wp2
                go_ret
                exact ⟨rfl, HW7.out⟩
            | some E =>
              obtain ⟨ek, evl, eg, eq⟩ := E
              obtain rfl : r = true := by rw [HRE.out]; exact mayT_find ho
              rw [ho, show fnd (some (ek, evl, eg, eq)) = .tuple #[.agg #[.string ek, .string evl, .bool eg, .int .i64 eq], .bool true] from rfl] at HG
              clear ho
              go_wp2_with fail
              refine HG.out.mono ?_
              rintro e w5 ⟨rfl, b5⟩
              have HW5 := Lib.hid (HW3.out.trans (b5.mono HW3.out.size))
              have HM5 := Lib.hid (HM.out _ (b5.trans ((Below.refl _ _).alloc (Nat.le_refl _) (.cells #[.string ek, .string evl, .bool eg, .int .i64 eq] 32) |>.mono b5.size)))
              have hw5 := HW5.out.size
              clear b5 HM
              go_wp2_with fail
              refine HM5.out.mono ?_
              rintro e w6 ⟨rfl, b6⟩
              have HW6 := Lib.hid (HW5.out.trans ((below_al b6).mono hw5))
              clear b6
              go_wp2_with fail
              refine (HA.out _).mono ?_
              rintro e w7 ⟨rfl, b7⟩
              have HW7 := Lib.hid (HW6.out.trans (b7.mono HW6.out.size))
              go_wp2
              go_ret
              exact ⟨rfl, HW7.out⟩
    · have hki : (100 : Int) < (key.size : Int) := by omega
      clear HO HR
      go_enter Try.func5, Try.ntmps5
      go_wp2_with fail
      refine HL0.out.mono ?_
      rintro e w1 ⟨rfl, b1⟩
      go_wp2_with fail
      refine (HA.out _).mono ?_
      rintro e w2 ⟨rfl, b2⟩
      go_wp2
      go_ret
      exact ⟨rfl, b1.trans (b2.mono b1.size)⟩
end Go.Proofs.Ytobhjmkaamjoeaa
