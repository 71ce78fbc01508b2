/-
  Layer 11 (merge): the walk of the law MergeKeeps. Conditions: a list and numbers that came in.
-/
import Derived.Test.YtgkkgiaaillhpaaMpc
import Derived.Test.YtgkkgiaaillhpaaMx
import Derived.Lib.MinMax
import Derived.Deep.RegionHeld3
namespace Go.Proofs.Ytgkkgiaaillhpaa
set_option maxRecDepth 100000
open Go.RowKit
set_option linter.unusedVariables false
set_option linter.unusedSimpArgs false

theorem rdpin_of_row {w : World} {ka : Option Addr} {kl kc : Nat} {zs : List Int} (h : IsRow .i64 w ka kl kc zs) : ∃ ps : List Int, ps.length = kl ∧ RdPin w ka ps := by
  by_cases h0 : 0 < kl
  · obtain ⟨b, off, rfl, hb, hlz, hcm, hlc, hcell, hwz⟩ := h.at_ h0
    refine ⟨zs.take kl, by rw [List.length_take]; omega, .inr ⟨b, off, rfl, hb, fun i hi => ?_⟩⟩
    rw [List.length_take] at hi
    rw [hcell i (by omega), List.getElem_take, List.getD_eq_getElem?_getD, List.getElem?_eq_getElem (by omega)]
    rfl
  · exact ⟨[], by simp; omega, .inl rfl⟩
theorem keepK {V a b : World} {x y : Nat} {u : Value} (h : a.cell? ⟨x, y, none⟩ = some u ∧ Below V.heap.size V a) (hb : Below a.heap.size a b) : b.cell? ⟨x, y, none⟩ = some u ∧ Below V.heap.size V b :=
  ⟨(hb.cell (p := ⟨x, y, none⟩) (cell_lt h.1)).trans h.1, h.2.trans (hb.mono h.2.size)⟩
set_option maxHeartbeats 64000000 in
theorem keeps_main (a : Option Addr) (cap : Nat) (es : List Ent) (pa : Option Addr) (pn pc : Nat) (ps : List Int) (bottom : Bool) (w : World) (h : SE w a es.length cap es) (hok : okV es) (hpl : ps.length = pn) (hpn0 : pn ≤ maxLen) (hpr : RdPin w pa ps) :
    Calls Try.prog 7 #[.slice a es.length cap, .slice pa pn pc, .bool bottom] w fun e w' => e = .returned (.bool true) ∧ Below w.heap.size w w' := by
  obtain ⟨n, hn⟩ : ∃ n, n = es.length := ⟨_, rfl⟩
  rw [← hn] at h ⊢
  have hm63 : n ≤ 9223372036854775807 := by have := h.2.2.1; have := h.2.2.2; unfold maxLen at this; omega
  have HLi := Lib.hid fun r hr => light_any a n cap es w hm63 hn.symm h.2.1 hok r hr
  have HA := Lib.hid fun w => awake11_any w
  have HS := Lib.hid h
  have HOK := Lib.hid hok
  have HPR := Lib.hid (And.intro hpl hpr)
  clear h hok hpl hpr hpn0
  cases hb : liteB es with
  | false =>
    have HL0 := Lib.hid (HLi.out false hb)
    clear HLi hb hn
    go_enter Try.func7, Try.ntmps7
    go_wp2_with fail
    refine HL0.out.mono ?_
    rintro e w1 ⟨rfl, b1⟩
    have HW1 := Lib.hid b1
    clear b1
    go_wp2_with fail
    refine (HA.out _).mono ?_
    rintro e w2 ⟨rfl, b2⟩
    have HW2 := Lib.hid (HW1.out.trans (b2.mono HW1.out.size))
    clear b2
    go_wp2
    go_ret
    exact ⟨rfl, HW2.out⟩
  | true =>
    have HL0 := Lib.hid (HLi.out true hb)
    by_cases hp20 : pn ≤ 20
    case neg =>
      have hpi : (20 : Int) < (pn : Int) := by omega
      clear HLi hb hn
      go_enter Try.func7, Try.ntmps7
      go_wp2_with fail
      refine HL0.out.mono ?_
      rintro e w1 ⟨rfl, b1⟩
      have HW1 := Lib.hid b1
      clear b1
      go_wp2_with fail
      refine (HA.out _).mono ?_
      rintro e w2 ⟨rfl, b2⟩
      have HW2 := Lib.hid (HW1.out.trans (b2.mono HW1.out.size))
      clear b2
      go_wp2
      go_ret
      exact ⟨rfl, HW2.out⟩
    have hpi : ¬ (20 : Int) < (pn : Int) := by omega
    have hn60 : n ≤ 60 := by rw [hn]; exact (lite_yes hb).1
    obtain ⟨hmk, hml⟩ := madeT_ok es (lite_yes hb).1
    have hmo := madeT_okV HOK.out
    have HM := Lib.hid fun (wx : World) (hx : Below w.heap.size w wx) => madeT_any a n cap es wx hn60 hn.symm (HS.out.2.1.old hx) HOK.out
    obtain ⟨ms, hms⟩ : ∃ ms, ms = madeT es := ⟨_, rfl⟩
    rw [← hms] at HM hmk hml hmo
    obtain ⟨O, hO⟩ : ∃ O, O = pruM ms ps bottom := ⟨_, rfl⟩
    have hpA : pruA ps bottom (allG ms) = O := by rw [pruA_eq, if_pos hmk, hO]
    obtain ⟨hOk, hOl⟩ := pru_ok hmk ps bottom
    have hOo : okV O := fun e he => hmo e (by rw [hO] at he; exact (List.mem_filter.1 (List.mem_filter.1 he).1).1)
    have hbig : ∀ e ∈ ms, e.2.2.2 ≤ 1099511627776 := fun e he => by
      have := okB_may hmk e he
      obtain ⟨k, v, g, q⟩ := e
      obtain ⟨-, -, -, -, h5⟩ := may_iff.1 this
      show q ≤ 1099511627776
      omega
    have hvis : ∀ q, (q ∈ ps ∨ q = 1099511627776) → visL O q = visL ms q ∧ sinL O q = sinL ms q := fun q hq => by
      have hsee : SeeAt ms ps q := hq.imp id fun e => by rw [e]; exact hbig
      unfold visL sinL
      rw [hO, if_pos hOk, if_pos hmk, if_pos hOk, if_pos hmk, vis_pru hsee, sin_pru hsee]
      exact ⟨rfl, rfl⟩
    rw [← hO] at hOk hOl
    have HQ := Lib.hid (And.intro hmk (And.intro hml (And.intro hmo (And.intro hOk (And.intro hOl (And.intro hOo (And.intro hpA hvis)))))))
    clear HLi hb hn hmk hml hmo hms hO hpA hOk hOl hOo hbig hvis
    go_enter Try.func7, Try.ntmps7
    go_wp2_with fail
    refine HL0.out.mono ?_
    rintro e w1 ⟨rfl, b1⟩
    have HW1 := Lib.hid b1
    clear b1
    go_wp2_with fail
    refine (HM.out _ HW1.out).mono ?_
    rintro e w2 ⟨ma, mn, mc, rfl, hs2, b2⟩
    have HW2 := Lib.hid (HW1.out.trans (b2.mono HW1.out.size))
    have HS2 := Lib.hid hs2
    have hmn : mn ≤ 60 := by rw [← hs2.1]; exact HQ.out.2.1
    have HP := Lib.hid (pru11_any ma mn mc ms pa pn pc ps bottom w2 (by omega) hs2 HQ.out.2.2.1 HPR.out.1 (by omega) (HPR.out.2.old HW2.out))
    rw [HQ.out.2.2.2.2.2.2.1] at HP
    clear b2 hs2 HM HW1 HL0 HS HOK
    go_wp2_with fail
    refine HP.out.mono ?_
    rintro e w3 ⟨oa, on, oc, rfl, hs3, b3⟩
    have HW3 := Lib.hid (HW2.out.trans (b3.mono HW2.out.size))
    have hs23 := HS2.out.old b3
    have hon : on ≤ mn := by rw [← hs3.1, ← hs23.1]; exact HQ.out.2.2.2.2.1
    have honi : ¬ (mn : Int) < (on : Int) := by omega
    have HCk := Lib.hid (rchk9_any oa on oc O w3 (by omega) hs3.1 hs3.2.1 HQ.out.2.2.2.2.2.1 true HQ.out.2.2.2.1)
    have HVa := Lib.hid fun (q : Int) (L : List Par) (m : Nat) (hL : visL ms q = L) (hm : L.length = m) (wx : World) (hx : Below w3.heap.size w3 wx) => vis_at ma mn mc ms q L m hL hm wx (by omega) (hs23.old hx) HQ.out.2.2.1
    have HVb := Lib.hid fun (q : Int) (L : List Par) (m : Nat) (hL : visL O q = L) (hm : L.length = m) (wx : World) (hx : Below w3.heap.size w3 wx) => vis_at oa on oc O q L m hL hm wx (by omega) (hs3.old hx) HQ.out.2.2.2.2.2.1
    have HIa := Lib.hid fun (q : Int) (L : List Ent) (m : Nat) (hL : sinL ms q = L) (hm : L.length = m) (wx : World) (hx : Below w3.heap.size w3 wx) => sin_at ma mn mc ms q L m hL hm wx (by omega) (hs23.old hx) HQ.out.2.2.1
    have HIb := Lib.hid fun (q : Int) (L : List Ent) (m : Nat) (hL : sinL O q = L) (hm : L.length = m) (wx : World) (hx : Below w3.heap.size w3 wx) => sin_at oa on oc O q L m hL hm wx (by omega) (hs3.old hx) HQ.out.2.2.2.2.2.1
    have hm60 : ms.length ≤ 60 := HQ.out.2.1
    obtain ⟨pb, po, hpa, hpb, hpc⟩ := (HPR.out.2.old HW3.out).at_
    rw [HPR.out.1] at hpa hpb
    have HPC := Lib.hid hpc
    clear b3 hs3 hs23 HP HS2 hpc
    unfold chkV at HCk
    go_wp2_with fail
    refine HCk.out.mono ?_
    rintro e w4 ⟨rfl, b4⟩
    have HB4 := Lib.hid b4
    obtain ⟨L, hL⟩ : ∃ L, visL ms 1099511627776 = L := ⟨_, rfl⟩
    obtain ⟨m, hm⟩ : ∃ m, L.length = m := ⟨_, rfl⟩
    have hml2 : m ≤ 60 := by rw [← hm, ← hL]; have := visL_le ms 1099511627776; omega
    have C1 := Lib.hid (HVa.out 1099511627776 L m hL hm)
    have C2 := Lib.hid (HVb.out 1099511627776 L m ((HQ.out.2.2.2.2.2.2.2 _ (.inr rfl)).1.trans hL) hm)
    have HLM := Lib.hid hm
    clear b4 hL hm HCk
    go_wp2_with fail
    refine (C1.out _ HB4.out).mono ?_
    rintro e w5 ⟨va, vc, rfl, r5, b5⟩
    have HB5 := Lib.hid (HB4.out.trans (b5.mono HB4.out.size))
    have HR5 := Lib.hid r5
    clear b5 r5
    go_wp2_with fail
    refine (C2.out _ HB5.out).mono ?_
    rintro e w6 ⟨ua, uc, rfl, r6, b6⟩
    have HB6 := Lib.hid (HB5.out.trans (b6.mono HB5.out.size))
    have HR6 := Lib.hid (And.intro (HR5.out.old b6) r6)
    clear b6 r6 HR5
    go_wp2_with fail
    refine (samep_any _ _ m m _ _ L _ HLM.out HLM.out HR6.out.1 HR6.out.2 (by omega)).mono ?_
    rintro e w7 ⟨rfl, b7⟩
    have HB7 := Lib.hid (HB6.out.trans (b7.mono HB6.out.size))
    clear b7 HR6 C1 C2 HB4 HB5 HB6 HLM
    go_wp2_with fail
    go_loopw [9, 10] (fun lv i wr => ∃ (k : Nat) (lz : Int), i = .int .i64 k ∧ k ≤ pn ∧ lv = .int .i64 lz ∧ Hid (lz ∈ ps ∨ lz = 1099511627776) ∧ Hid (Below w3.heap.size w3 wr)) (fun _ i _ => pn - (intOf i).toNat)
    case atStart => exact ⟨0, _, rfl, by omega, rfl, Lib.hid (.inr rfl), HB7⟩
    case round =>
      obtain ⟨k, lz, rfl, hk, rfl, HZ, HW⟩ := hrel
      by_cases hlt : k < pn
      · have hki : (k : Int) < (pn : Int) := by omega
        have hkl : k < ps.length := by rw [HPR.out.1]; exact hlt
        obtain rfl := hpa (by omega)
        have hpb3 := hpb (by omega)
        have p0 := (HW.out.cell (p := ⟨pb, po + k, none⟩) hpb3).trans (HPC.out k hkl)
        have hpr : pb < wr.heap.size := Nat.lt_of_lt_of_le hpb3 HW.out.size
        have hin := List.getElem_mem hkl
        obtain ⟨q, hq⟩ : ∃ q, q = ps[k] := ⟨_, rfl⟩
        rw [← hq] at p0 hin
        obtain ⟨L, hL⟩ : ∃ L, visL ms q = L := ⟨_, rfl⟩
        obtain ⟨m, hm⟩ : ∃ m, L.length = m := ⟨_, rfl⟩
        have hml2 : m ≤ 60 := by rw [← hm, ← hL]; have := visL_le ms q; omega
        have C1 := Lib.hid (HVa.out q L m hL hm)
        have C2 := Lib.hid (HVb.out q L m ((HQ.out.2.2.2.2.2.2.2 _ (.inl hin)).1.trans hL) hm)
        have HLM := Lib.hid hm
        have HIN := Lib.hid hin
        have HU := Lib.hid fun (wx : World) (hx : Below wr.heap.size wr wx) => HW.out.trans (hx.mono HW.out.size)
        have hminz : Hid (min lz q ∈ ps ∨ min lz q = 1099511627776) := Lib.hid (by
          rcases Int.le_total lz q with h | h
          · rw [Int.min_eq_left h]; exact HZ.out
          · rw [Int.min_eq_right h]; exact .inl HIN.out)
        clear hq hL hm hin
        go_wp2_with fail
        go_region_held3 (fun w' => w'.cell? ⟨pb, po + k, none⟩ = some (.int .i64 q) ∧ Below wr.heap.size wr w')
          (first | assumption | exact keepK (by assumption) (by assumption) | exact ⟨p0, (Below.refl _ _).drew⟩)
          (first
            | (go_at_call 19; (first | (with_reducible refine (C1.out _ (HU.out _ (And.right (by assumption)))).mono ?_) | (with_reducible refine (C2.out _ (HU.out _ (And.right (by assumption)))).mono ?_)); rintro e w' ⟨a', c', rfl, rr, bb⟩)
            | (go_at_call 18; refine (samep_any _ _ m m _ _ L _ HLM.out HLM.out ?_ ?_ (by omega)).mono ?_; (first | assumption | exact RdP.old (by assumption) (by assumption)); (first | assumption | exact RdP.old (by assumption) (by assumption)); rintro e w' ⟨rfl, bb⟩))
        all_goals
          have hS := (by assumption : _ ∧ Below wr.heap.size wr _)
          have pX := hS.1
          have hbX := cell_lt pX
          have HX := Lib.hid (HU.out _ hS.2)
          clear hS
          go_wp2_with fail
          go_roundw
          case rel =>
            first
            | exact ⟨k + 1, _, by go_num, by omega, rfl, hminz, HX⟩
            | exact ⟨_, _, _, ⟨k + 1, rfl, by omega, _, rfl, hminz⟩, rfl, rfl, by go_num⟩
            | exact ⟨_, _, _, ⟨k + 1, rfl, by omega, _, rfl, hminz, HX⟩, rfl, rfl, by go_num⟩
            | trace_state
          case measure => simp [intOf]; omega
      · obtain rfl : k = pn := by omega
        obtain ⟨L, hL⟩ : ∃ L, sinL ms lz = L := ⟨_, rfl⟩
        obtain ⟨m, hm⟩ : ∃ m, L.length = m := ⟨_, rfl⟩
        have hml2 : m ≤ 60 := by rw [← hm, ← hL]; have := sinL_le ms lz; omega
        have C1 := Lib.hid (HIa.out lz L m hL hm)
        have C2 := Lib.hid (HIb.out lz L m ((HQ.out.2.2.2.2.2.2.2 _ HZ.out).2.trans hL) hm)
        have HLM := Lib.hid hm
        clear hL hm
        go_wp2_with fail
        refine (C1.out _ HW.out).mono ?_
        rintro e w8 ⟨va, vc, rfl, r5, b5⟩
        have HB5 := Lib.hid (HW.out.trans (b5.mono HW.out.size))
        have HR5 := Lib.hid r5
        clear b5 r5
        go_wp2_with fail
        refine (C2.out _ HB5.out).mono ?_
        rintro e w9 ⟨ua, uc, rfl, r6, b6⟩
        have HB6 := Lib.hid (HB5.out.trans (b6.mono HB5.out.size))
        have HR6 := Lib.hid (And.intro (HR5.out.old b6) r6)
        clear b6 r6 HR5
        go_wp2_with fail
        refine (samee_any _ _ m _ _ L _ HR6.out.1 HR6.out.2 (by omega) HLM.out).mono ?_
        rintro e w10 ⟨rfl, b7⟩
        have HB8 := Lib.hid (HB6.out.trans (b7.mono HB6.out.size))
        clear b7 HR6
        go_wp2_with fail
        refine (HA.out _).mono ?_
        rintro e w11 ⟨rfl, b8⟩
        have HB9 := Lib.hid (HB8.out.trans (b8.mono HB8.out.size))
        clear b8
        go_wp2
        go_ret
        exact ⟨rfl, HW3.out.trans (HB9.out.mono HW3.out.size)⟩
theorem walk_MergeKeeps (a : Option Addr) (cap : Nat) (es : List Ent) (pa : Option Addr) (pn pc : Nat) (zs : List Int) (bottom : Bool) (w : World) (h : SE w a es.length cap es) (hok : okV es) (hr : IsRow .i64 w pa pn pc zs) :
    Calls Try.prog 7 #[.slice a es.length cap, .slice pa pn pc, .bool bottom] w fun e w' => e = .returned (.bool true) ∧ Below w.heap.size w w' := by
  obtain ⟨ps, hl, hp⟩ := rdpin_of_row hr
  refine keeps_main a cap es pa pn pc ps bottom w h hok hl ?_ hp
  by_cases h0 : 0 < pn
  · obtain ⟨b, off, rfl, hb, hlz, hcm, hlc, hcell, hwz⟩ := hr.at_ h0
    omega
  · omega
end Go.Proofs.Ytgkkgiaaillhpaa
