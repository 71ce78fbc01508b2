/-
  Layer 10 (table), the walk of the law TableBuilds. Conditions: texts within the reach.
-/
import Derived.Test.YtobhjmkaamjoeaaGreatQ6
import Derived.Test.YtobhjmkaamjoeaaGreatHl
namespace Go.Proofs.YtobhjmkaamjoeaaGreat
set_option maxRecDepth 100000
open Go.RowKit
set_option linter.unusedVariables false
set_option linter.unusedSimpArgs false

theorem bu_form (es : List Ent) : ∃ (x : ByteArray) (e : Int), (if okT es = true then Value.tuple #[.string ⟨(buildT es).toArray⟩, .int .i64 0] else .tuple #[.string ⟨#[]⟩, .int .i64 1]) = .tuple #[.string x, .int .i64 e] := by
  split
  · exact ⟨_, _, rfl⟩
  · exact ⟨_, _, rfl⟩
set_option maxHeartbeats 8000000 in
theorem walk_TableBuilds (a : Option Addr) (cap : Nat) (es : List Ent) (w : World) (h : RdE w a es) (hok : okV es) (hl : es.length ≤ maxLen) (hcap : es.length ≤ cap) :
    Calls Tryz.prog 3 #[.slice a es.length cap] w fun e w' => e = .returned (.bool true) ∧ Below w.heap.size w w' := by
  unfold maxLen at hl
  obtain ⟨n, hn⟩ : ∃ n, es.length = n := ⟨_, rfl⟩
  rw [hn] at hl hcap ⊢
  have HLi := Lib.hid fun r hr => light_any a n cap es w (by omega) hn h hok r hr
  have HA := Lib.hid fun w => awakeT_any w
  cases hb : liteB es with
  | false =>
    have HL0 := Lib.hid (HLi.out false hb)
    clear HLi h hok hb hn
    go_enter Tryz.func3, Tryz.ntmps3
    go_wp2_with fail
    refine HL0.out.mono ?_
    rintro e w1 ⟨rfl, b1⟩
    go_wp2_with fail
    refine (HA.out _).mono ?_
    rintro e w2 ⟨rfl, b2⟩
    go_wp2
    go_ret
    exact ⟨rfl, b1.trans (b2.mono b1.size)⟩
  | true =>
    have HL0 := Lib.hid (HLi.out true hb)
    have hn80 : n ≤ 80 := by have := (lite_yes hb).1; omega
    have HM := Lib.hid fun w h => madeT_any a n cap es w hn80 hn h hok
    obtain ⟨x1, e1, hx1⟩ := bu_form es
    have HB1 := Lib.hid fun w h => tbuild_any a n cap es w (by omega) hn hcap h hok
    have HB2 := Lib.hid fun w h => rbuild_any a n cap es w (by omega) hn hcap h hok
    unfold BU at HB1 HB2
    rw [hx1] at HB1 HB2
    have HR := Lib.hid h
    obtain ⟨ms, hms⟩ : ∃ ms, ms = madeT es := ⟨_, rfl⟩
    have hmk := madeT_ok es (by omega)
    have hmv := madeT_okV hok
    rw [← hms] at HM hmk hmv
    have HMV := Lib.hid hmv
    have HMK := Lib.hid hmk
    obtain ⟨x2, e2, hx2⟩ := bu_form ms
    have HX2 := Lib.hid hx2
    clear HLi h hok hb hn hms hmk hmv hx1 hx2
    go_enter Tryz.func3, Tryz.ntmps3
    go_wp2_with fail
    refine HL0.out.mono ?_
    rintro e w1 ⟨rfl, b1⟩
    have HW1 := Lib.hid b1
    clear b1
    go_wp2_with fail
    refine (HB1.out _ (HR.out.old HW1.out)).mono ?_
    rintro e w2 ⟨rfl, b2⟩
    have HW2 := Lib.hid (HW1.out.trans (b2.mono HW1.out.size))
    clear b2 HW1
    go_wp2_with fail
    refine (HB2.out _ (HR.out.old HW2.out)).mono ?_
    rintro e w3 ⟨rfl, b3⟩
    have HW3 := Lib.hid (HW2.out.trans (b3.mono HW2.out.size))
    clear b3 HW2
    go_wp2_with fail
    refine (HM.out _ (HR.out.old HW3.out)).mono ?_
    rintro e w4 ⟨d4, m4, c4, rfl, s4, b4⟩
    have HW4 := Lib.hid (HW3.out.trans (b4.mono HW3.out.size))
    have hm4 : m4 ≤ 80 := by have := HMK.out.2; rw [s4.1] at this; exact this
    have HT4 := Lib.hid (tbuild_any d4 m4 c4 ms w4 (by omega) s4.1 s4.2.2.1 s4.2.1 HMV.out)
    unfold BU at HT4
    rw [HX2.out] at HT4
    clear b4 s4 HW3
    go_wp2_with fail
    refine HT4.out.mono ?_
    rintro e w5 ⟨rfl, b5⟩
    have HW5 := Lib.hid (HW4.out.trans (b5.mono HW4.out.size))
    clear b5 HW4 HT4
    go_wp2_with fail
    refine (HM.out _ (HR.out.old HW5.out)).mono ?_
    rintro e w6 ⟨d6, m6, c6, rfl, s6, b6⟩
    have HW6 := Lib.hid (HW5.out.trans (b6.mono HW5.out.size))
    have hm6 : m6 ≤ 80 := by have := HMK.out.2; rw [s6.1] at this; exact this
    have HT6 := Lib.hid (rbuild_any d6 m6 c6 ms w6 (by omega) s6.1 s6.2.2.1 s6.2.1 HMV.out)
    unfold BU at HT6
    rw [HX2.out] at HT6
    clear b6 s6 HW5
    go_wp2_with fail
    refine HT6.out.mono ?_
    rintro e w7 ⟨rfl, b7⟩
    have HW7 := Lib.hid (HW6.out.trans (b7.mono HW6.out.size))
    clear b7 HW6 HT6
    go_wp2_with fail
    refine (HA.out _).mono ?_
    rintro e w8 ⟨rfl, b8⟩
    have HW8 := Lib.hid (HW7.out.trans (b8.mono HW7.out.size))
    go_wp2
    go_ret
    exact ⟨rfl, HW8.out⟩
end Go.Proofs.YtobhjmkaamjoeaaGreat
