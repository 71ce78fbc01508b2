/-
  Layer 11 (merge): the walk of the law MergeVisible. Conditions: a list that came in.
-/
import Derived.Test.YtgkkgiaaillhpaaMw
namespace Go.Proofs.Ytgkkgiaaillhpaa
set_option maxRecDepth 100000
open Go.RowKit
set_option linter.unusedVariables false
set_option linter.unusedSimpArgs false

abbrev visL (es : List Ent) (at_ : Int) : List Par := if okB es = true then visM es at_ else []
abbrev sinL (es : List Ent) (at_ : Int) : List Ent := if okB es = true then sinM es at_ else []
theorem visL_le (es : List Ent) (at_ : Int) : (visL es at_).length ≤ es.length := by
  unfold visL visM
  split
  · rw [List.length_map]; exact List.length_filter_le _ _
  · exact Nat.zero_le _
theorem sinL_le (es : List Ent) (at_ : Int) : (sinL es at_).length ≤ es.length := by
  unfold sinL sinM
  split
  · exact List.length_filter_le _ _
  · exact Nat.zero_le _
theorem vis_at (a : Option Addr) (n cap : Nat) (es : List Ent) (at_ : Int) (L : List Par) (m : Nat) (hL : visL es at_ = L) (hm : L.length = m) (w : World) (hn : n ≤ 9223372036854775807) (hs : SE w a n cap es) (hok : okV es) :
    Calls Try.prog 19 #[.slice a n cap, .int .i64 at_] w fun e w' => ∃ a' c', e = .returned (.slice a' m c') ∧ RdP w' a' L ∧ Below w.heap.size w w' := by
  have h := vis11_any a n cap es at_ w hn hs hok
  rw [visA_eq] at h
  refine h.mono ?_
  rintro e w' ⟨a', n', c', rfl, hs, hb⟩
  have e1 := hs.1
  have e2 := hs.2.1
  rw [show (if okB es = true then visM es at_ else []) = L from hL] at e1 e2
  obtain rfl : m = n' := hm.symm.trans e1
  exact ⟨a', c', rfl, e2, hb⟩
theorem rvis_at (a : Option Addr) (n cap : Nat) (es : List Ent) (at_ : Int) (L : List Par) (m : Nat) (hL : visL es at_ = L) (hm : L.length = m) (w : World) (hn : n ≤ 9223372036854775807) (hs : SE w a n cap es) (hok : okV es) :
    Calls Try.prog 20 #[.slice a n cap, .int .i64 at_] w fun e w' => ∃ a' c', e = .returned (.slice a' m c') ∧ RdP w' a' L ∧ Below w.heap.size w w' := by
  refine (rvis11_any a n cap es at_ w hn hs.1 hs.2.1 hok).mono ?_
  rintro e w' ⟨a', n', c', rfl, hs, hb⟩
  have e1 := hs.1
  have e2 := hs.2.1
  rw [show (if okB es = true then visM es at_ else []) = L from hL] at e1 e2
  obtain rfl : m = n' := hm.symm.trans e1
  exact ⟨a', c', rfl, e2, hb⟩
theorem sin_at (a : Option Addr) (n cap : Nat) (es : List Ent) (at_ : Int) (L : List Ent) (m : Nat) (hL : sinL es at_ = L) (hm : L.length = m) (w : World) (hn : n ≤ 9223372036854775807) (hs : SE w a n cap es) (hok : okV es) :
    Calls Try.prog 21 #[.slice a n cap, .int .i64 at_] w fun e w' => ∃ a' c', e = .returned (.slice a' m c') ∧ RdE w' a' L ∧ Below w.heap.size w w' := by
  have h := sin11_any a n cap es at_ w hn hs hok
  rw [sinA_eq] at h
  refine h.mono ?_
  rintro e w' ⟨a', n', c', rfl, hs, hb⟩
  have e1 := hs.1
  have e2 := hs.2.1
  rw [show (if okB es = true then sinM es at_ else []) = L from hL] at e1 e2
  obtain rfl : m = n' := hm.symm.trans e1
  exact ⟨a', c', rfl, e2, hb⟩
theorem rsin_at (a : Option Addr) (n cap : Nat) (es : List Ent) (at_ : Int) (L : List Ent) (m : Nat) (hL : sinL es at_ = L) (hm : L.length = m) (w : World) (hn : n ≤ 9223372036854775807) (hs : SE w a n cap es) (hok : okV es) :
    Calls Try.prog 22 #[.slice a n cap, .int .i64 at_] w fun e w' => ∃ a' c', e = .returned (.slice a' m c') ∧ RdE w' a' L ∧ Below w.heap.size w w' := by
  refine (rsin11_any a n cap es at_ w hn hs.1 hs.2.1 hok).mono ?_
  rintro e w' ⟨a', n', c', rfl, hs, hb⟩
  have e1 := hs.1
  have e2 := hs.2.1
  rw [show (if okB es = true then sinM es at_ else []) = L from hL] at e1 e2
  obtain rfl : m = n' := hm.symm.trans e1
  exact ⟨a', c', rfl, e2, hb⟩
set_option maxHeartbeats 64000000 in
theorem walk_MergeVisible (a : Option Addr) (cap : Nat) (es : List Ent) (at_ : Int) (hat : (Lit.int .i64 at_).wf = true) (w : World) (h : SE w a es.length cap es) (hok : okV es) :
    Calls Try.prog 5 #[.slice a es.length cap, .int .i64 at_] w fun e w' => e = .returned (.bool true) ∧ Below w.heap.size w w' := by
  obtain ⟨n, hn⟩ : ∃ n, n = es.length := ⟨_, rfl⟩
  rw [← hn] at h ⊢
  have hm63 : n ≤ 9223372036854775807 := by have := h.2.2.1; have := h.2.2.2; unfold maxLen at this; omega
  have HLi := Lib.hid fun r hr => light_any a n cap es w hm63 hn.symm h.2.1 hok r hr
  have HA := Lib.hid fun w => awake11_any w
  have HS := Lib.hid h
  have HOK := Lib.hid hok
  clear h hok
  cases hb : liteB es with
  | false =>
    have HL0 := Lib.hid (HLi.out false hb)
    clear HLi hb hn
    go_enter Try.func5, Try.ntmps5
    go_wp2_with fail
    refine HL0.out.mono ?_
    rintro e w1 ⟨rfl, b1⟩
    have HW1 := Lib.hid b1
    clear b1
    go_wp2_with fail
    refine (HA.out _).mono ?_
    rintro e w2 ⟨rfl, b2⟩
    have HW2 := Lib.hid (HW1.out.trans (b2.mono HW1.out.size))
    clear b2
    go_wp2
    go_ret
    exact ⟨rfl, HW2.out⟩
  | true =>
    have HL0 := Lib.hid (HLi.out true hb)
    have hn60 : n ≤ 60 := by rw [hn]; exact (lite_yes hb).1
    obtain ⟨hmk, hml⟩ := madeT_ok es (lite_yes hb).1
    have hmo := madeT_okV HOK.out
    have HM := Lib.hid fun (wx : World) (hx : Below w.heap.size w wx) => madeT_any a n cap es wx hn60 hn.symm (HS.out.2.1.old hx) HOK.out
    obtain ⟨ms, hms⟩ : ∃ ms, ms = madeT es := ⟨_, rfl⟩
    rw [← hms] at HM hmk hml hmo
    obtain ⟨L1, hL1⟩ : ∃ L, visL es at_ = L := ⟨_, rfl⟩
    obtain ⟨L2, hL2⟩ : ∃ L, visL ms at_ = L := ⟨_, rfl⟩
    obtain ⟨L3, hL3⟩ : ∃ L, sinL es at_ = L := ⟨_, rfl⟩
    obtain ⟨L4, hL4⟩ : ∃ L, sinL ms at_ = L := ⟨_, rfl⟩
    obtain ⟨m1, hm1⟩ : ∃ m, L1.length = m := ⟨_, rfl⟩
    obtain ⟨m2, hm2⟩ : ∃ m, L2.length = m := ⟨_, rfl⟩
    obtain ⟨m3, hm3⟩ : ∃ m, L3.length = m := ⟨_, rfl⟩
    obtain ⟨m4, hm4⟩ : ∃ m, L4.length = m := ⟨_, rfl⟩
    have hb1 : m1 ≤ 60 := by rw [← hm1, ← hL1]; have := visL_le es at_; omega
    have hb2 : m2 ≤ 60 := by rw [← hm2, ← hL2]; have := visL_le ms at_; omega
    have hb3 : m3 ≤ 60 := by rw [← hm3, ← hL3]; have := sinL_le es at_; omega
    have hb4 : m4 ≤ 60 := by rw [← hm4, ← hL4]; have := sinL_le ms at_; omega
    have HZ := Lib.hid (And.intro hm1 (And.intro hm2 (And.intro hm3 (And.intro hm4 (And.intro hb1 (And.intro hb2 (And.intro hb3 hb4)))))))
    have HV1 := Lib.hid fun (wx : World) (hx : Below w.heap.size w wx) => vis_at a n cap es at_ L1 m1 hL1 hm1 wx (by omega) ⟨hn.symm, HS.out.2.1.old hx, HS.out.2.2⟩ HOK.out
    have HR1 := Lib.hid fun (wx : World) (hx : Below w.heap.size w wx) => rvis_at a n cap es at_ L1 m1 hL1 hm1 wx (by omega) ⟨hn.symm, HS.out.2.1.old hx, HS.out.2.2⟩ HOK.out
    have HV3 := Lib.hid fun (wx : World) (hx : Below w.heap.size w wx) => sin_at a n cap es at_ L3 m3 hL3 hm3 wx (by omega) ⟨hn.symm, HS.out.2.1.old hx, HS.out.2.2⟩ HOK.out
    have HR3 := Lib.hid fun (wx : World) (hx : Below w.heap.size w wx) => rsin_at a n cap es at_ L3 m3 hL3 hm3 wx (by omega) ⟨hn.symm, HS.out.2.1.old hx, HS.out.2.2⟩ HOK.out
    have HML := Lib.hid (And.intro hml hmo)
    have HQ := Lib.hid (And.intro hL2 (And.intro hL4 (And.intro hm2 hm4)))
    clear HLi hb hn hmk hml hmo hms hL1 hL2 hL3 hL4 hm1 hm2 hm3 hm4 hb1 hb2 hb3 hb4
    go_enter Try.func5, Try.ntmps5
    go_wp2_with fail
    refine HL0.out.mono ?_
    rintro e w1 ⟨rfl, b1⟩
    have HW1 := Lib.hid b1
    clear b1
    go_wp2_with fail
    refine (HM.out _ HW1.out).mono ?_
    rintro e w2 ⟨ma, mn, mc, rfl, hs2, b2⟩
    have HW2 := Lib.hid (HW1.out.trans (b2.mono HW1.out.size))
    have hmn : mn ≤ 60 := by rw [← hs2.1]; exact HML.out.1
    have HV2 := Lib.hid fun (wx : World) (hx : Below w2.heap.size w2 wx) => vis_at ma mn mc ms at_ L2 m2 HQ.out.1 HQ.out.2.2.1 wx (by omega) (hs2.old hx) HML.out.2
    have HR2 := Lib.hid fun (wx : World) (hx : Below w2.heap.size w2 wx) => rvis_at ma mn mc ms at_ L2 m2 HQ.out.1 HQ.out.2.2.1 wx (by omega) (hs2.old hx) HML.out.2
    have HV4 := Lib.hid fun (wx : World) (hx : Below w2.heap.size w2 wx) => sin_at ma mn mc ms at_ L4 m4 HQ.out.2.1 HQ.out.2.2.2 wx (by omega) (hs2.old hx) HML.out.2
    have HR4 := Lib.hid fun (wx : World) (hx : Below w2.heap.size w2 wx) => rsin_at ma mn mc ms at_ L4 m4 HQ.out.2.1 HQ.out.2.2.2 wx (by omega) (hs2.old hx) HML.out.2
    have HU := Lib.hid fun (wx : World) (hx : Below w2.heap.size w2 wx) => HW2.out.trans (hx.mono HW2.out.size)
    clear b2 hs2 HM HW1 HL0 HS HOK HML HQ hmn
    go_wp2_with fail
    have HB0 : Hid (Below w2.heap.size w2 w2) := Lib.hid (Below.refl _ _)
    refine (HV1.out _ (HU.out _ HB0.out)).mono ?_
    rintro e x0 ⟨a0, c0, rfl, rr0, bb⟩
    have HC0 := Lib.hid (HB0.out.trans (bb.mono HB0.out.size))
    have HRa0 := Lib.hid rr0
    clear bb rr0 HB0
    go_wp2_with fail
    refine (HR1.out _ (HU.out _ HC0.out)).mono ?_
    rintro e y0 ⟨b0, d0, rfl, rb, bb⟩
    have HD0 := Lib.hid (HC0.out.trans (bb.mono HC0.out.size))
    have ra := HRa0.out.old bb
    have HSM := Lib.hid (And.intro ra rb)
    clear bb ra rb HRa0 HC0
    go_wp2_with fail
    refine (samep_any _ _ m1 m1 _ _ L1 _ HZ.out.1 HZ.out.1 HSM.out.1 HSM.out.2 (by have := HZ.out; omega)).mono ?_
    rintro e z0 ⟨rfl, bb⟩
    have HB1 := Lib.hid (HD0.out.trans (bb.mono HD0.out.size))
    clear bb HSM HD0
    go_wp2_with fail
    refine (HV2.out _ (HB1.out)).mono ?_
    rintro e x1 ⟨a1, c1, rfl, rr1, bb⟩
    have HC1 := Lib.hid (HB1.out.trans (bb.mono HB1.out.size))
    have HRa1 := Lib.hid rr1
    clear bb rr1 HB1
    go_wp2_with fail
    refine (HR2.out _ (HC1.out)).mono ?_
    rintro e y1 ⟨b1, d1, rfl, rb, bb⟩
    have HD1 := Lib.hid (HC1.out.trans (bb.mono HC1.out.size))
    have ra := HRa1.out.old bb
    have HSM := Lib.hid (And.intro ra rb)
    clear bb ra rb HRa1 HC1
    go_wp2_with fail
    refine (samep_any _ _ m2 m2 _ _ L2 _ HZ.out.2.1 HZ.out.2.1 HSM.out.1 HSM.out.2 (by have := HZ.out; omega)).mono ?_
    rintro e z1 ⟨rfl, bb⟩
    have HB2 := Lib.hid (HD1.out.trans (bb.mono HD1.out.size))
    clear bb HSM HD1
    go_wp2_with fail
    refine (HV3.out _ (HU.out _ HB2.out)).mono ?_
    rintro e x2 ⟨a2, c2, rfl, rr2, bb⟩
    have HC2 := Lib.hid (HB2.out.trans (bb.mono HB2.out.size))
    have HRa2 := Lib.hid rr2
    clear bb rr2 HB2
    go_wp2_with fail
    refine (HR3.out _ (HU.out _ HC2.out)).mono ?_
    rintro e y2 ⟨b2, d2, rfl, rb, bb⟩
    have HD2 := Lib.hid (HC2.out.trans (bb.mono HC2.out.size))
    have ra := HRa2.out.old bb
    have HSM := Lib.hid (And.intro ra rb)
    clear bb ra rb HRa2 HC2
    go_wp2_with fail
    refine (samee_any _ _ m3 _ _ L3 _ HSM.out.1 HSM.out.2 (by have := HZ.out; omega) HZ.out.2.2.1).mono ?_
    rintro e z2 ⟨rfl, bb⟩
    have HB3 := Lib.hid (HD2.out.trans (bb.mono HD2.out.size))
    clear bb HSM HD2
    go_wp2_with fail
    refine (HV4.out _ (HB3.out)).mono ?_
    rintro e x3 ⟨a3, c3, rfl, rr3, bb⟩
    have HC3 := Lib.hid (HB3.out.trans (bb.mono HB3.out.size))
    have HRa3 := Lib.hid rr3
    clear bb rr3 HB3
    go_wp2_with fail
    refine (HR4.out _ (HC3.out)).mono ?_
    rintro e y3 ⟨b3, d3, rfl, rb, bb⟩
    have HD3 := Lib.hid (HC3.out.trans (bb.mono HC3.out.size))
    have ra := HRa3.out.old bb
    have HSM := Lib.hid (And.intro ra rb)
    clear bb ra rb HRa3 HC3
    go_wp2_with fail
    refine (samee_any _ _ m4 _ _ L4 _ HSM.out.1 HSM.out.2 (by have := HZ.out; omega) HZ.out.2.2.2.1).mono ?_
    rintro e z3 ⟨rfl, bb⟩
    have HB4 := Lib.hid (HD3.out.trans (bb.mono HD3.out.size))
    clear bb HSM HD3
    go_wp2_with fail
    refine (HA.out _).mono ?_
    rintro e z9 ⟨rfl, bb⟩
    have HB9 := Lib.hid (HB4.out.trans (bb.mono HB4.out.size))
    clear bb
    go_wp2
    go_ret
    exact ⟨rfl, HU.out _ HB9.out⟩
end Go.Proofs.Ytgkkgiaaillhpaa
