/-
  Layer 11 (merge): the walk of the law MergePrunes. Conditions: a list and numbers that came in.
-/
import Derived.Test.YtdpinkipcaolhaaMpb
import Derived.Test.YtdpinkipcaolhaaMpr
namespace Go.Proofs.Ytdpinkipcaolhaa
set_option maxRecDepth 100000
open Go.RowKit
set_option linter.unusedVariables false
set_option linter.unusedSimpArgs false

theorem pin_of_row {w : World} {ka : Option Addr} {kl kc : Nat} {zs : List Int} (h : IsRow .i64 w ka kl kc zs) : ∃ ps : List Int, ps.length = kl ∧ RdPin w ka ps := by
  by_cases h0 : 0 < kl
  · obtain ⟨b, off, rfl, hb, hlz, hcm, hlc, hcell, hwz⟩ := h.at_ h0
    refine ⟨zs.take kl, by rw [List.length_take]; omega, .inr ⟨b, off, rfl, hb, fun i hi => ?_⟩⟩
    rw [List.length_take] at hi
    rw [hcell i (by omega), List.getElem_take, List.getD_eq_getElem?_getD, List.getElem?_eq_getElem (by omega)]
    rfl
  · exact ⟨[], by simp; omega, .inl rfl⟩
set_option maxHeartbeats 64000000 in
theorem prunes_main (a : Option Addr) (cap : Nat) (es : List Ent) (pa : Option Addr) (pn pc : Nat) (ps : List Int) (bottom : Bool) (w : World) (h : SE w a es.length cap es) (hok : okV es) (hpl : ps.length = pn) (hpn0 : pn ≤ maxLen) (hpr : RdPin w pa ps) :
    Calls Try.prog 6 #[.slice a es.length cap, .slice pa pn pc, .bool bottom] w fun e w' => e = .returned (.bool true) ∧ Below w.heap.size w w' := by
  obtain ⟨n, hn⟩ : ∃ n, n = es.length := ⟨_, rfl⟩
  rw [← hn] at h ⊢
  have hm63 : n ≤ 9223372036854775807 := by have := h.2.2.1; have := h.2.2.2; unfold maxLen at this; omega
  have HLi := Lib.hid fun r hr => light_any a n cap es w hm63 hn.symm h.2.1 hok r hr
  have HA := Lib.hid fun w => awake11_any w
  have HS := Lib.hid h
  have HOK := Lib.hid hok
  have HPR := Lib.hid (And.intro hpl hpr)
  clear h hok hpl hpr hpn0
  cases hb : liteB es with
  | false =>
    have HL0 := Lib.hid (HLi.out false hb)
    clear HLi hb hn
    go_enter Try.func6, Try.ntmps6
    go_wp2_with fail
    refine HL0.out.mono ?_
    rintro e w1 ⟨rfl, b1⟩
    have HW1 := Lib.hid b1
    clear b1
    go_wp2_with fail
    refine (HA.out _).mono ?_
    rintro e w2 ⟨rfl, b2⟩
    have HW2 := Lib.hid (HW1.out.trans (b2.mono HW1.out.size))
    clear b2
    go_wp2
    go_ret
    exact ⟨rfl, HW2.out⟩
  | true =>
    have HL0 := Lib.hid (HLi.out true hb)
    by_cases hp20 : pn ≤ 20
    case neg =>
      have hpi : (20 : Int) < (pn : Int) := by omega
      clear HLi hb hn
      go_enter Try.func6, Try.ntmps6
      go_wp2_with fail
      refine HL0.out.mono ?_
      rintro e w1 ⟨rfl, b1⟩
      have HW1 := Lib.hid b1
      clear b1
      go_wp2_with fail
      refine (HA.out _).mono ?_
      rintro e w2 ⟨rfl, b2⟩
      have HW2 := Lib.hid (HW1.out.trans (b2.mono HW1.out.size))
      clear b2
      go_wp2
      go_ret
      exact ⟨rfl, HW2.out⟩
    have hpi : ¬ (20 : Int) < (pn : Int) := by omega
    have hn60 : n ≤ 60 := by rw [hn]; exact (lite_yes hb).1
    obtain ⟨hmk, hml⟩ := madeT_ok es (lite_yes hb).1
    have hmo := madeT_okV HOK.out
    have HM := Lib.hid fun (wx : World) (hx : Below w.heap.size w wx) => madeT_any a n cap es wx hn60 hn.symm (HS.out.2.1.old hx) HOK.out
    obtain ⟨ms, hms⟩ : ∃ ms, ms = madeT es := ⟨_, rfl⟩
    rw [← hms] at HM hmk hml hmo
    have HMO := Lib.hid (And.intro hml hmo)
    obtain ⟨L1, hL1⟩ : ∃ L, (if okB es = true then pruM es ps bottom else []) = L := ⟨_, rfl⟩
    obtain ⟨L2, hL2⟩ : ∃ L, (if okB ms = true then pruM ms ps bottom else []) = L := ⟨_, rfl⟩
    have HP1 := Lib.hid fun (wx : World) (hx : Below w.heap.size w wx) => by
      have h := pru11_any a n cap es pa pn pc ps bottom wx hm63 ⟨HS.out.1, HS.out.2.1.old hx, HS.out.2.2⟩ HOK.out HPR.out.1 (by omega) (HPR.out.2.old hx)
      rw [pruA_eq, hL1] at h
      exact h
    have HR1 := Lib.hid fun (wx : World) (hx : Below w.heap.size w wx) => by
      have h := rpru11_any a n cap es pa pn pc ps bottom wx hm63 hn.symm (HS.out.2.1.old hx) HOK.out HPR.out.1 (by omega) (HPR.out.2.old hx)
      rw [hL1] at h
      exact h
    have HP2 := Lib.hid fun (wx : World) (ma : Option Addr) (mn mc : Nat) (hmn : mn ≤ 60) (hs : SE wx ma mn mc ms) (hx : Below w.heap.size w wx) => by
      have h := pru11_any ma mn mc ms pa pn pc ps bottom wx (by omega) hs hmo HPR.out.1 (by omega) (HPR.out.2.old hx)
      rw [pruA_eq, hL2] at h
      exact h
    have HR2 := Lib.hid fun (wx : World) (ma : Option Addr) (mn mc : Nat) (hmn : mn ≤ 60) (hs : SE wx ma mn mc ms) (hx : Below w.heap.size w wx) => by
      have h := rpru11_any ma mn mc ms pa pn pc ps bottom wx (by omega) hs.1 hs.2.1 hmo HPR.out.1 (by omega) (HPR.out.2.old hx)
      rw [hL2] at h
      exact h
    clear HLi hb hn hL1 hL2 hmk hml hmo hms
    go_enter Try.func6, Try.ntmps6
    go_wp2_with fail
    refine HL0.out.mono ?_
    rintro e w1 ⟨rfl, b1⟩
    have HW1 := Lib.hid b1
    clear b1
    go_wp2_with fail
    refine (HM.out _ HW1.out).mono ?_
    rintro e w2 ⟨ma, mn, mc, rfl, hs2, b2⟩
    have HW2 := Lib.hid (HW1.out.trans (b2.mono HW1.out.size))
    have HS2 := Lib.hid hs2
    have hmn : mn ≤ 60 := by rw [← hs2.1]; exact HMO.out.1
    clear b2 hs2 HM HL0
    go_wp2_with fail
    refine (HP1.out _ HW2.out).mono ?_
    rintro e w3 ⟨oa, on, oc, rfl, hs3, b3⟩
    have HW3 := Lib.hid (HW2.out.trans (b3.mono HW2.out.size))
    have HS3 := Lib.hid (And.intro hs3 (HS2.out.old b3))
    clear b3 hs3 HP1 HS2
    go_wp2_with fail
    refine (HR1.out _ HW3.out).mono ?_
    rintro e w4 ⟨xa, xn, xc, rfl, hs4, b4⟩
    have HW4 := Lib.hid (HW3.out.trans (b4.mono HW3.out.size))
    obtain rfl : on = xn := HS3.out.1.1.symm.trans hs4.1
    have HS4 := Lib.hid (And.intro (HS3.out.1.old b4) (And.intro hs4 (HS3.out.2.old b4)))
    have hon : on < 9223372036854775808 := by have := hs4.2.2.1; have := hs4.2.2.2; unfold maxLen at this; omega
    clear b4 hs4 HR1 HS3
    go_wp2_with fail
    refine (samee_any _ _ on _ _ L1 _ HS4.out.1.2.1 HS4.out.2.1.2.1 hon HS4.out.1.1).mono ?_
    rintro e w5 ⟨rfl, b5⟩
    have HW5 := Lib.hid (HW4.out.trans (b5.mono HW4.out.size))
    have HS5 := Lib.hid (HS4.out.2.2.old b5)
    clear b5 HS4
    go_wp2_with fail
    refine (HP2.out _ ma mn mc hmn HS5.out HW5.out).mono ?_
    rintro e w6 ⟨ua, un, uc, rfl, hs6, b6⟩
    have HW6 := Lib.hid (HW5.out.trans (b6.mono HW5.out.size))
    have HS6 := Lib.hid (And.intro hs6 (HS5.out.old b6))
    clear b6 hs6 HP2 HS5
    go_wp2_with fail
    refine (HR2.out _ ma mn mc hmn HS6.out.2 HW6.out).mono ?_
    rintro e w7 ⟨va, vn, vc, rfl, hs7, b7⟩
    have HW7 := Lib.hid (HW6.out.trans (b7.mono HW6.out.size))
    obtain rfl : un = vn := HS6.out.1.1.symm.trans hs7.1
    have HS7 := Lib.hid (And.intro (HS6.out.1.old b7) hs7)
    have hun : un < 9223372036854775808 := by have := hs7.2.2.1; have := hs7.2.2.2; unfold maxLen at this; omega
    clear b7 hs7 HR2 HS6
    go_wp2_with fail
    refine (samee_any _ _ un _ _ L2 _ HS7.out.1.2.1 HS7.out.2.2.1 hun HS7.out.1.1).mono ?_
    rintro e w8 ⟨rfl, b8⟩
    have HW8 := Lib.hid (HW7.out.trans (b8.mono HW7.out.size))
    clear b8 HS7
    go_wp2_with fail
    refine (HA.out _).mono ?_
    rintro e w9 ⟨rfl, b9⟩
    have HW9 := Lib.hid (HW8.out.trans (b9.mono HW8.out.size))
    clear b9
    go_wp2
    go_ret
    exact ⟨rfl, HW9.out⟩
theorem walk_MergePrunes (a : Option Addr) (cap : Nat) (es : List Ent) (pa : Option Addr) (pn pc : Nat) (zs : List Int) (bottom : Bool) (w : World) (h : SE w a es.length cap es) (hok : okV es) (hp : IsRow .i64 w pa pn pc zs) :
    Calls Try.prog 6 #[.slice a es.length cap, .slice pa pn pc, .bool bottom] w fun e w' => e = .returned (.bool true) ∧ Below w.heap.size w w' := by
  obtain ⟨ps, h1, h2⟩ := pin_of_row hp
  refine prunes_main a cap es pa pn pc ps bottom w h hok h1 ?_ h2
  by_cases h0 : 0 < pn
  · obtain ⟨b, off, rfl, hb, hlz, hcm, hlc, hcell, hwz⟩ := hp.at_ h0
    omega
  · omega
end Go.Proofs.Ytdpinkipcaolhaa
