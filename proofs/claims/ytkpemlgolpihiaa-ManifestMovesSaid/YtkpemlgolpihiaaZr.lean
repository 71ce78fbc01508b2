/-
  Layer 12 (manifest): the walk of ManifestMoves. Conditions: none beyond the row's own.
-/
import Derived.Test.YtkpemlgolpihiaaZo
import Derived.Test.YtkpemlgolpihiaaRH
import Derived.Test.YtkpemlgolpihiaaQt
import Derived.Deep.RegionHeld3
import Derived.Deep.DeepCutAuto
import Derived.Deep.CutRange
import Derived.Deep.CutBlock
import Derived.Deep.QuietTactic
import Derived.Laws.Cover1
import Derived.Laws.StructEq
import Derived.Lib.MinMax
namespace Go.Proofs.Ytkpemlgolpihiaa
set_option maxRecDepth 100000
open Go.RowKit
set_option linter.unusedVariables false
set_option linter.unusedSimpArgs false

theorem st_one {w : World} {x : Nat} {t : Tb} (h : TBox w x t) : ST w (some ⟨x, 0, none⟩) 1 1 [t] := ⟨rfl, .inr ⟨_, _, rfl, h.2.2.2.2, fun i hi => by
  have h0 : i = 0 := by simp at hi; exact hi
  subst h0
  obtain ⟨q0, q1, q2, q3, -⟩ := h
  exact ⟨q0, q1, q2, q3⟩⟩, Nat.le_refl _, by decide⟩
theorem sz_one {w : World} {x : Nat} {z : Int} (h : w.cell? ⟨x, 0, none⟩ = some (.int .i64 z)) (hx : x < w.heap.size) : SZ w (some ⟨x, 0, none⟩) 1 1 [z] := ⟨rfl, .inr ⟨_, _, rfl, hx, fun i hi => by
  have h0 : i = 0 := by simp at hi; exact hi
  subst h0
  exact h⟩, Nat.le_refl _, by decide⟩
set_option maxRecDepth 1000000 in
set_option maxHeartbeats 16000000 in
theorem walk_ManifestMoves (a : Option Addr) (n cap : Nat) (es : List Ed) (wh : Int) (hwh : (Lit.int .i64 wh).wf = true) (lv : Int) (hlv : (Lit.int .i64 lv).wf = true) (w : World) (h : SEd w a n cap es) :
    Calls Try.prog 7 #[.slice a n cap, .int .i64 wh, .int .i64 lv] w fun x w' => x = .returned (.bool true) ∧ Below w.heap.size w w' := by
  obtain ⟨b, off, ha, hb, hc⟩ := h.2.1.at_
  have hl := h.1
  rw [hl] at ha hb
  have HC := Lib.hid fun (_ : 0 < n) => hc
  have HL := Lib.hid hl
  have HB1 := Lib.hid (Below.refl w.heap.size w)
  have HR1 := Lib.hid (Below.refl w.heap.size w)
  clear hc hl
  go_enter Try.func7, Try.ntmps7
  by_cases hn : n ≤ 10
  case neg =>
    have hni : (10 : Int) < (n : Int) := by omega
    go_wp2_with fail
    refine (awake12_any w).mono ?_
    rintro e' wz ⟨rfl, hbz⟩
    have HBZ := Lib.hid (HR1.out.trans (hbz.mono HR1.out.size))
    clear hbz
    go_wp2_with fail
    go_ret
    exact ⟨rfl, HB1.out.trans (HBZ.out.mono HB1.out.size)⟩
  have hni : ¬ (10 : Int) < (n : Int) := by omega
  have hs0 := LS.zero w 38
  have b2 := box_bel w (.cells #[.slice none 0 0, .int .i64 0, .int .i64 0] 38)
  go_upto_region 4 with fail
  obtain ⟨xs, hxs⟩ : ∃ xs, xs = w.heap.size := ⟨_, rfl⟩
  rw [← hxs] at hs0 ⊢
  have hx1 : w.heap.size ≤ xs := by omega
  clear hxs
  generalize w.alloc (.cells #[.slice none 0 0, .int .i64 0, .int .i64 0] 38) = w0 at *
  have HS0 := Lib.hid hs0
  have HB0 := Lib.hid b2
  have HXS := Lib.hid hx1
  clear hs0 b2
  go_wp2_with fail
  go_loopw [8, 9, 10] (fun i _ _ wr => ∃ (k : Nat) (s : St) (sa : Option Addr) (sc : Nat), i = .int .i64 k ∧ k ≤ n ∧ Hid (LS wr xs k s sa sc) ∧ Hid (Below w.heap.size w wr)) (fun i _ _ _ => n - (intOf i).toNat)
  case atStart => exact ⟨0, ([], 0, 0), none, 0, by first | rfl | go_num, by omega, HS0, HB0⟩
  case round =>
    obtain ⟨k, s, sa, sc, rfl, hk, HS, HW⟩ := hrel
    by_cases hlt : k < n
    · have hki : (k : Int) < (n : Int) := by omega
      obtain rfl := ha (by omega)
      have hbw := hb (by omega)
      have hkl : k < es.length := by rw [HL.out]; exact hlt
      obtain ⟨aa, an, ac, da, dn, dc, c0, c1, c2, c3, hev⟩ := ((HC.out (by omega)).old hbw HW.out) k hkl
      obtain ⟨E, hE⟩ : ∃ E, E = es[k] := ⟨_, rfl⟩
      rw [← hE] at c2 c3 hev
      have hbr : b < wr.heap.size := Nat.lt_of_lt_of_le hbw HW.out.size
      obtain ⟨lg, hlg⟩ : ∃ lg, lg = E.2.2.1 := ⟨_, rfl⟩
      obtain ⟨nx, hnx⟩ : ∃ nx, nx = E.2.2.2 := ⟨_, rfl⟩
      rw [← hlg] at c2 hev
      rw [← hnx] at c3 hev
      have HEV := Lib.hid hev
      have HLI := Lib.hid (light12_any _ _ _ hev)
      obtain ⟨lt, hlt2⟩ : ∃ lt, lt = liteEd E := ⟨_, rfl⟩
      rw [← hlt2] at HLI
      have HCE := Lib.hid (And.intro c0 (And.intro c1 (And.intro c2 c3)))
      clear hE hlg hnx hev hlt2
      go_wp2_with fail
      refine HLI.out.mono ?_
      rintro e' w2 ⟨rfl, hb2⟩
      have HB2 := Lib.hid hb2
      have HW2 := Lib.hid (HW.out.trans (hb2.mono HW.out.size))
      clear hb2 HLI
      cases lt with
      | false =>
        clear c0 c1 c2 c3
        go_wp2_with fail
        refine (awake12_any w2).mono ?_
        rintro e' wz ⟨rfl, hbz⟩
        have HBZ := Lib.hid (HW2.out.trans (hbz.mono HW2.out.size))
        clear hbz
        go_wp2_with fail
        go_ret
        exact ⟨rfl, HB1.out.trans (HBZ.out.mono HB1.out.size)⟩
      | true =>
      have HCE2 := Lib.hid (And.intro ((HB2.out.cell (p := ⟨b, off + k * 4, none⟩) hbr).trans HCE.out.1) (And.intro ((HB2.out.cell (p := ⟨b, off + k * 4 + 1, none⟩) hbr).trans HCE.out.2.1) (And.intro ((HB2.out.cell (p := ⟨b, off + k * 4 + 2, none⟩) hbr).trans HCE.out.2.2.1) ((HB2.out.cell (p := ⟨b, off + k * 4 + 3, none⟩) hbr).trans HCE.out.2.2.2))))
      have HS2 := Lib.hid (HS.out.keep HB2.out (Nat.le_refl _))
      have HEV2 := Lib.hid (HEV.out.old HB2.out)
      clear c0 c1 c2 c3
      obtain ⟨c0, c1, c2, c3⟩ := HCE2.out
      obtain ⟨q0, q1, q2, q3⟩ := HS2.out.1.1.1
      obtain ⟨NN, hNN⟩ : ∃ NN, NN = apN s E := ⟨_, rfl⟩
      obtain ⟨S', hS'⟩ : ∃ S', S' = apS s E := ⟨_, rfl⟩
      have hx2 : xs < w2.heap.size := HS2.out.1.lt
      have HKE := Lib.hid (And.intro q0 (And.intro q1 (And.intro q2 HCE2.out)))
      have HF := Lib.hid fun (wx : World) (hx : Below w2.heap.size w2 wx) => apply12_any _ _ s E wx (HS2.out.sv.old hx) (HEV2.out.old hx) HS2.out.2.2.1 (by have := HS2.out.2.2.2.2.1; omega)
      have HFE : Hid (∀ x wa wb, APe s E wa x wb → ∃ a' c', x = .returned (.tuple #[.agg #[.slice a' S'.1.length c', .int .i64 S'.2.1, .int .i64 S'.2.2], .int .i64 NN]) ∧ ST wb a' S'.1.length c' S'.1 ∧ okT S'.1 ∧ Below wa.heap.size wa wb) := Lib.hid (by
        rintro x wa wb ⟨V, rfl, ⟨a', m', c', rfl, hst, hok⟩, hbb⟩
        rw [hNN, hS']
        obtain rfl := hst.1
        exact ⟨a', c', rfl, hst, hok, hbb⟩)
      obtain ⟨sl, hsl⟩ : ∃ sl, sl = s.1.length := ⟨_, rfl⟩
      obtain ⟨sg, hsg⟩ : ∃ sg, sg = s.2.1 := ⟨_, rfl⟩
      obtain ⟨sx, hsx⟩ : ∃ sx, sx = s.2.2 := ⟨_, rfl⟩
      rw [← hsl, ← hsg, ← hsx] at HF HKE
      rw [← hsl] at q0
      rw [← hsg] at q1
      rw [← hsx] at q2
      obtain ⟨L', hL'⟩ : ∃ L', L' = S'.1.length := ⟨_, rfl⟩
      obtain ⟨G', hG'⟩ : ∃ G', G' = S'.2.1 := ⟨_, rfl⟩
      obtain ⟨X', hX'⟩ : ∃ X', X' = S'.2.2 := ⟨_, rfl⟩
      rw [← hL', ← hG', ← hX'] at HFE
      have HEQ := Lib.hid (And.intro hL' (And.intro hG' (And.intro hX' (And.intro hNN hS'))))
      have HSL := Lib.hid (And.intro hsl (And.intro hsg hsx))
      clear hsl hsg hsx hL' hG' hX' hNN hS'
      have hbr2 : b < w2.heap.size := Nat.lt_of_lt_of_le hbr HB2.out.size
      go_upto_region 9 with fail
      go_cut [9, 10] (fun s9 s10 wx => ∃ g a' c', s9 = .pointer (some ⟨g, 0, none⟩) ∧ s10 = .int .i64 NN ∧ Hid (SQ wx g (.slice a' L' c') G' X' ∧ ST wx a' L' c' S'.1 ∧ okT S'.1 ∧ w2.heap.size ≤ g ∧ Below w2.heap.size w2 wx))
      case first =>
        go_region_held3 (fun w' => w'.cell? ⟨xs, 0, none⟩ = some (.slice sa sl sc) ∧ w'.cell? ⟨xs, 1, none⟩ = some (.int .i64 sg) ∧ w'.cell? ⟨xs, 2, none⟩ = some (.int .i64 sx) ∧ w'.cell? ⟨b, off + k * 4, none⟩ = some (.slice aa an ac) ∧ w'.cell? ⟨b, off + k * 4 + 1, none⟩ = some (.slice da dn dc) ∧ w'.cell? ⟨b, off + k * 4 + 2, none⟩ = some (.int .i64 lg) ∧ w'.cell? ⟨b, off + k * 4 + 3, none⟩ = some (.int .i64 nx))
          (first
            | assumption
            | exact HKE.out
            | (refine keep7 HKE.out ?_
               repeat (first | assumption | exact Below.refl _ _ | (refine Below.alloc ?_ ?_ _) | (refine Below.setCell ?_ ?_ _) | (refine Below.drew ?_))
               all_goals (first | omega | (simp; done) | (simp; omega))))
          (first
            | (go_at_call 18; (with_reducible refine (HF.out _ (by first | exact Below.refl _ _ | exact (Below.refl _ _).drew | exact (Below.refl _ _).alloc (Nat.le_refl _) _ | exact ((Below.refl _ _).alloc (Nat.le_refl _) _).drew)).mono ?_); rintro e w4 he; obtain ⟨a', c', rfl, hst', hok', hbb⟩ := HFE.out _ _ _ he; clear he; have hq : SQ w4 _ (.slice none 0 0) 0 0 ∧ Below _ _ w4 := (by with_reducible exact sq_after hbb); obtain ⟨hqq, z4⟩ := hq; have KQ := Lib.hid hqq; have KS := Lib.hid hst'; have KB := Lib.hid z4; have hz4 := z4.size; obtain ⟨⟨⟨m0, m1, m2, m3⟩, f0, f1, f2⟩, -⟩ := hqq; obtain ⟨m4, m5, m6, m7, m8, m9, mA⟩ := keep7 HKE.out z4; clear hbb)
            | (go_at_call 18; (with_reducible refine (HF.out _ (by first | exact Below.refl _ _ | exact (Below.refl _ _).drew | exact (Below.refl _ _).alloc (Nat.le_refl _) _ | exact ((Below.refl _ _).alloc (Nat.le_refl _) _).drew)).mono ?_); rintro e w4 he; obtain ⟨a', c', rfl, hst', hok', hbb⟩ := HFE.out _ _ _ he; clear he; have hq : SQ w4 _ (.slice none 0 0) 0 0 ∧ Below _ _ w4 := (by with_reducible exact sq_afterd hbb); obtain ⟨hqq, z4⟩ := hq; have KQ := Lib.hid hqq; have KS := Lib.hid hst'; have KB := Lib.hid z4; have hz4 := z4.size; obtain ⟨⟨⟨m0, m1, m2, m3⟩, f0, f1, f2⟩, -⟩ := hqq; obtain ⟨m4, m5, m6, m7, m8, m9, mA⟩ := keep7 HKE.out z4; clear hbb)
            | (go_at_call 18; (with_reducible refine (HF.out _ (by first | exact Below.refl _ _ | exact (Below.refl _ _).drew)).mono ?_); rintro e w4 he; obtain ⟨a', c', rfl, hst', hok', hbb⟩ := HFE.out _ _ _ he; clear he; have z4 : Below w2.heap.size w2 w4 := (by first | exact hbb | exact ((Below.refl _ _).drew).trans hbb); have KS := Lib.hid hst'; have KB := Lib.hid z4; have hz4 := z4.size; obtain ⟨m4, m5, m6, m7, m8, m9, mA⟩ := keep7 HKE.out z4; clear hbb))
        all_goals
          go_wp2_with fail
          go_meet
          first
            | exact ⟨_, a', c', rfl, rfl, Lib.hid ⟨KQ.out.put _ _ _, KS.out.put3 KQ.out _ _ _, hok', Nat.le_refl _, below3 KB.out (Nat.le_refl _) _ _ _⟩⟩
            | exact ⟨_, a', c', rfl, rfl, Lib.hid ⟨SQ.new _ _ _ _ _, KS.out.old ((Below.refl _ _).alloc (Nat.le_refl _) _), hok', KB.out.size, KB.out.alloc KB.out.size _⟩⟩
      case rest =>
      obtain ⟨g, a', c', rfl, rfl, HG⟩ := hcut
      have HWC := Lib.hid (HW2.out.trans (HG.out.2.2.2.2.mono HW2.out.size))
      have HSC := Lib.hid (HS2.out.keep HG.out.2.2.2.2 (Nat.le_refl _))
      obtain ⟨⟨⟨q0, q1, q2, q3⟩, f0, f1, f2⟩, -⟩ := HSC.out.1
      obtain ⟨⟨⟨g0, g1, g2, g3⟩, -⟩, -⟩ := HG.out.1
      rw [← HSL.out.1] at q0
      rw [← HSL.out.2.1] at q1
      rw [← HSL.out.2.2] at q2
      by_cases h0 : NN = 0
      · subst h0
        have HNS : Hid (LS (((wc.setCell ⟨xs, 0, none⟩ (.slice a' L' c')).setCell ⟨xs, 1, none⟩ (.int .i64 G')).setCell ⟨xs, 2, none⟩ (.int .i64 X')) xs (k + 1) S' a' c') := Lib.hid (by
          obtain ⟨e1, e2, e3, e4, e5⟩ := HEQ.out
          rw [e1, e2, e3, e5]
          exact HSC.out.step e4.symm (by rw [← e5, ← e1]; exact HG.out.2.1) (by rw [← e5]; exact HG.out.2.2.1))
        have HNB := Lib.hid (below3 HWC.out HXS.out (.slice a' L' c') (.int .i64 G') (.int .i64 X'))
        go_wp2_with fail
        go_roundw
        case rel => exact ⟨k + 1, S', a', c', by go_num, by omega, HNS, HNB⟩
        case measure => simp [intOf]; omega
      · have HNS := Lib.hid (HSC.out.more (Nat.le_succ k))
        go_wp2_with fail
        go_roundw
        case rel => exact ⟨k + 1, s, sa, sc, by go_num, by omega, HNS, HWC⟩
        case measure => simp [intOf]; omega
    · obtain rfl : n = k := by omega
      obtain ⟨⟨⟨q0, q1, q2, q3⟩, -⟩, -⟩ := HS.out.1
      have hno := HS.out.2.2.1
      obtain ⟨ss, sg, sx⟩ := s
      simp only at q0 q1 q2 hno
      have hlg : 0 ≤ sg ∧ sg ≤ 1073741824 := HS.out.2.2.2.2.2
      obtain ⟨sl, hsl⟩ : ∃ sl, sl = ss.length := ⟨_, rfl⟩
      have hsd : sl ≤ 50000 := by rw [hsl]; have h5 : ss.length ≤ 128 * n := HS.out.2.2.2.2.1; omega
      rw [← hsl] at q0
      have HSL := Lib.hid hsl
      have HLG := Lib.hid hlg
      clear hsl hlg
      by_cases h1 : sl = 0
      case pos =>
        subst h1
        go_wp2_with fail
        refine (awake12_any wr).mono ?_
        rintro e' wz ⟨rfl, hbz⟩
        have HBZ := Lib.hid (HW.out.trans (hbz.mono HW.out.size))
        clear hbz
        go_wp2_with fail
        go_ret
        exact ⟨rfl, HB1.out.trans (HBZ.out.mono HB1.out.size)⟩
      have h1' : ¬ (sl : Int) = 0 := by omega
      by_cases h2 : sx < 1
      case pos =>
        go_wp2_with fail
        refine (awake12_any wr).mono ?_
        rintro e' wz ⟨rfl, hbz⟩
        have HBZ := Lib.hid (HW.out.trans (hbz.mono HW.out.size))
        clear hbz
        go_wp2_with fail
        go_ret
        exact ⟨rfl, HB1.out.trans (HBZ.out.mono HB1.out.size)⟩
      by_cases h3 : 536870912 < sx
      case pos =>
        go_wp2_with fail
        refine (awake12_any wr).mono ?_
        rintro e' wz ⟨rfl, hbz⟩
        have HBZ := Lib.hid (HW.out.trans (hbz.mono HW.out.size))
        clear hbz
        go_wp2_with fail
        go_ret
        exact ⟨rfl, HB1.out.trans (HBZ.out.mono HB1.out.size)⟩
      obtain ⟨m, hm, hm2⟩ := low8 wh
      obtain ⟨k, hk'⟩ : ∃ k, k = m % sl := ⟨_, rfl⟩
      have e1 : (bits .and .i64 wh 255).tmod (sl : Int) = (k : Int) := by rw [hm, Int.tmod_eq_emod_of_nonneg (by omega), hk']; exact (Int.natCast_emod _ _).symm
      have hkl : k < sl := by rw [hk']; exact Nat.mod_lt _ (by omega)
      have hki : (k : Int) < (sl : Int) := by omega
      clear hm hm2 hk'
      obtain ⟨m, hm, hm2⟩ := low8 lv
      obtain ⟨v, hv⟩ : ∃ v, v = m % 3 := ⟨_, rfl⟩
      have e2 : (bits .and .i64 lv 255).tmod 3 = (v : Int) := by rw [hm, Int.tmod_eq_emod_of_nonneg (by omega), hv]; exact (Int.natCast_emod _ _).symm
      have hv2 : v ≤ 2 := by omega
      clear hm hm2 hv
      have hst : ST wr sa sl sc ss := by have := HS.out.2.1; rwa [← HSL.out] at this
      obtain ⟨tb, tq, ta, tlt, tc⟩ := hst.2.1.at_
      have hkL : k < ss.length := by rw [← HSL.out]; exact hkl
      obtain rfl := ta (by omega)
      have tlt := tlt (by omega)
      have HTC := Lib.hid tc
      obtain ⟨z0, z1, z2, z3⟩ := tc k hkL
      have HMV := Lib.hid (mov_ap (lg := sg) (nx := sx) (v := (v : Int)) hno hkL HLG.out ⟨by omega, by omega⟩ ⟨by omega, by omega⟩)
      have HMY := Lib.hid (hno.may _ (List.getElem_mem hkL))
      obtain ⟨T, hT⟩ : ∃ T, T = ss[k] := ⟨_, rfl⟩
      rw [← hT] at z0 z1 z2 z3 HMV HMY
      have HTK := Lib.hid hT
      obtain ⟨N, hN⟩ : ∃ N : Tb, N = (sx, (v : Int), T.2.2.1, T.2.2.2) := ⟨_, rfl⟩
      have HNN := Lib.hid hN
      have b5 := box_bel wr (.cells #[.int .i64 T.1, .int .i64 T.2.1, .string T.2.2.1, .string T.2.2.2] 49)
      have t5 := TBox.new wr 49 T
      clear hT hN tc hst
      obtain ⟨x5, hx5⟩ : ∃ x5, x5 = wr.heap.size := ⟨_, rfl⟩
      go_upto_region 16 with fail
      rw [← hx5] at t5 ⊢
      clear hx5 z0 z1 z2 z3 q0 q1 q2 q3 e1
      generalize wr.alloc (.cells #[.int .i64 T.1, .int .i64 T.2.1, .string T.2.2.1, .string T.2.2.2] 49) = w5 at *
      have HS5 := Lib.hid (HS.out.keep b5 (Nat.le_refl _))
      have HB5 := Lib.hid (HW.out.trans (b5.mono HW.out.size))
      have tlt5 := Nat.lt_of_lt_of_le tlt b5.size
      have HTC5 := Lib.hid (TbAt.old HTC.out tlt b5)
      clear b5
      obtain ⟨⟨⟨q0, q1, q2, q3⟩, -⟩, -⟩ := HS5.out.1
      simp only at q0 q1 q2
      rw [← HSL.out] at q0
      have HT5 := Lib.hid t5
      obtain ⟨t0, t1, t2, t3, t4⟩ := t5
      have b6 := box_bel w5 (.cells #[.int .i64 sx, .int .i64 (v : Int), .string T.2.2.1, .string T.2.2.2] 49)
      have t6 := TBox.new w5 49 (sx, (v : Int), T.2.2.1, T.2.2.2)
      obtain ⟨x6, hx6⟩ : ∃ x6, x6 = w5.heap.size := ⟨_, rfl⟩
      go_upto_region 17 with fail
      rw [← hx6] at t6 ⊢
      clear hx6 q0 q1 q2 q3 t0 t1 t2 t3 t4 e2
      simp only at t6
      generalize w5.alloc (.cells #[.int .i64 sx, .int .i64 (v : Int), .string T.2.2.1, .string T.2.2.2] 49) = w6 at *
      have HS6 := Lib.hid (HS5.out.keep b6 (Nat.le_refl _))
      have HB6 := Lib.hid (HB5.out.trans (b6.mono HB5.out.size))
      have HT6 := Lib.hid (HT5.out.below b6)
      have HN6 := Lib.hid t6
      have tlt6 := Nat.lt_of_lt_of_le tlt5 b6.size
      have HTC6 := Lib.hid (HTC5.out.old tlt5 b6)
      clear b6 t6
      obtain ⟨⟨⟨q0, q1, q2, q3⟩, -⟩, -⟩ := HS6.out.1
      simp only at q0 q1 q2
      rw [← HSL.out] at q0
      obtain ⟨t0, t1, t2, t3, t4⟩ := HT6.out
      obtain ⟨n0, n1, n2, n3, n4⟩ := HN6.out
      simp only at n0 n1 n2 n3
      have b7 := box_bel w6 (.cells #[.int .i64 sx, .int .i64 (v : Int), .string T.2.2.1, .string T.2.2.2] 49)
      have t7 := TBox.new w6 49 (sx, (v : Int), T.2.2.1, T.2.2.2)
      obtain ⟨w7, hw7⟩ : ∃ w7, w7 = w6.alloc (.cells #[.int .i64 sx, .int .i64 (v : Int), .string T.2.2.1, .string T.2.2.2] 49) := ⟨_, rfl⟩
      rw [← hw7] at b7 t7
      have k7 : w7.heap.size = w6.heap.size + 1 := by rw [hw7]; simp [go_sem]
      have b8 := box_bel w7 (.cells #[.int .i64 T.1] 3)
      have c8 : (w7.alloc (.cells #[.int .i64 T.1] 3)).cell? ⟨w7.heap.size, 0, none⟩ = some (.int .i64 T.1) ∧ w7.heap.size < (w7.alloc (.cells #[.int .i64 T.1] 3)).heap.size := ⟨by simp, by simp⟩
      obtain ⟨w8, hw8⟩ : ∃ w8, w8 = w7.alloc (.cells #[.int .i64 T.1] 3) := ⟨_, rfl⟩
      rw [← hw8] at b8 c8
      have hev : EV w8 (.agg #[.slice (some ⟨w6.heap.size, 0, none⟩) 1 1, .slice (some ⟨w6.heap.size + 1, 0, none⟩) 1 1, .int .i64 sg, .int .i64 (sx + 1)]) (movE T sg sx (v : Int)) := by
        refine ⟨_, _, _, _, _, _, rfl, st_one (t7.below b8), ?_, fun t ht => ?_⟩
        · rw [k7] at c8
          exact sz_one c8.1 c8.2
        · obtain rfl := List.mem_singleton.1 ht
          have := okTb_may HMY.out
          exact ⟨this.1, this.2⟩
      have HB68 := Lib.hid (b7.trans (b8.mono b7.size))
      have HF := Lib.hid (apply12_any _ _ (ss, sg, sx) _ w8 (HS6.out.sv.old HB68.out) hev hno (by show ss.length ≤ 50000; rw [← HSL.out]; exact hsd))
      simp only [← HSL.out] at HF
      rw [hw8, hw7] at HF
      have hxx : sx + 1 ≤ 536870913 ∧ 0 ≤ sx + 1 := by omega
      have HFE : Hid (∀ x wb, APe (ss, sg, sx) (movE T sg sx (v : Int)) w8 x wb → ∃ a' c', x = .returned (.tuple #[.agg #[.slice a' (apS (ss, sg, sx) (movE T sg sx (v : Int))).1.length c', .int .i64 (apS (ss, sg, sx) (movE T sg sx (v : Int))).2.1, .int .i64 (apS (ss, sg, sx) (movE T sg sx (v : Int))).2.2], .int .i64 (apN (ss, sg, sx) (movE T sg sx (v : Int)))]) ∧ ST wb a' (apS (ss, sg, sx) (movE T sg sx (v : Int))).1.length c' (apS (ss, sg, sx) (movE T sg sx (v : Int))).1 ∧ Below w6.heap.size w6 wb) := Lib.hid (by
        rintro x wb ⟨V, rfl, ⟨a', m', c', rfl, hst, hok⟩, hbb⟩
        obtain rfl := hst.1
        exact ⟨a', c', rfl, hst, HB68.out.trans (hbb.mono HB68.out.size)⟩)
      rw [hw8, hw7] at HFE
      clear hw8 hw7 hev b7 t7 k7 b8 c8 HB68
      obtain ⟨NN, hNN⟩ : ∃ NN, NN = apN (ss, sg, sx) (movE T sg sx (v : Int)) := ⟨_, rfl⟩
      obtain ⟨S', hS'⟩ : ∃ S', S' = apS (ss, sg, sx) (movE T sg sx (v : Int)) := ⟨_, rfl⟩
      rw [← hNN, ← hS'] at HFE HMV
      clear hNN hS'
      obtain ⟨L', hL'⟩ : ∃ L', L' = S'.1.length := ⟨_, rfl⟩
      obtain ⟨G', hG'⟩ : ∃ G', G' = S'.2.1 := ⟨_, rfl⟩
      obtain ⟨X', hX'⟩ : ∃ X', X' = S'.2.2 := ⟨_, rfl⟩
      rw [← hL', ← hG', ← hX'] at HFE
      rw [← hL'] at HMV
      clear hL' hG' hX'
      go_upto_region 18 with (go_at_call 18; refine HF.out.mono ?_; rintro e w9 he; obtain ⟨a', c', rfl, hst', hbb⟩ := HFE.out _ _ he; clear he; have HST' := Lib.hid hst'; have HBB := Lib.hid hbb; clear hst' hbb)
      have sq9 := SQ.new w9 38 (.slice a' L' c') G' X'
      have b9 := box_bel w9 (.cells #[.slice a' L' c', .int .i64 G', .int .i64 X'] 38)
      obtain ⟨x9, hx9⟩ : ∃ x9, x9 = w9.heap.size := ⟨_, rfl⟩
      rw [← hx9] at sq9 ⊢
      clear hx9 q0 q1 q2 q3 t0 t1 t2 t3 t4 n0 n1 n2 n3 n4
      generalize w9.alloc (.cells #[.slice a' L' c', .int .i64 G', .int .i64 X'] 38) = wz at *
      have HBz := Lib.hid (HBB.out.trans (b9.mono HBB.out.size))
      have HSQ := Lib.hid sq9
      have HSTz := Lib.hid (HST'.out.old b9)
      have HSz := Lib.hid (HS6.out.keep HBz.out (Nat.le_refl _))
      have HTz := Lib.hid (HT6.out.below HBz.out)
      have HNz := Lib.hid (HN6.out.below HBz.out)
      have HWz := Lib.hid (HB6.out.trans (HBz.out.mono HB6.out.size))
      have tltz := Nat.lt_of_lt_of_le tlt6 HBz.out.size
      have HTCz := Lib.hid (HTC6.out.old tlt6 HBz.out)
      clear b9 sq9 HF HFE HST' HBB HTC6 HTC5 HTC HS5 HS6 HT5 HT6 HN6 HBz
      obtain ⟨⟨⟨q0, q1, q2, q3⟩, -⟩, -⟩ := HSz.out.1
      simp only at q0 q1 q2
      rw [← HSL.out] at q0
      obtain ⟨t0, t1, t2, t3, t4⟩ := HTz.out
      obtain ⟨n0, n1, n2, n3, n4⟩ := HNz.out
      simp only at n0 n1 n2 n3
      rcases HMV.out with ⟨rfl, hl, hmem⟩ | ⟨rfl, hv0, hov⟩
      case inr =>
        have hv0' : (0 : Int) < (v : Int) := hv0
        have HOV := Lib.hid (ov_any _ (ss, sg, sx) (v : Int) T.2.2.1 T.2.2.2 wz HSz.out.sv (by show ss.length ≤ 50000; rw [← HSL.out]; exact hsd) _ hno)
        simp only [← HSL.out] at HOV
        obtain ⟨X, hX⟩ : ∃ X, X = ovT ss (v : Int) T.2.2.1 T.2.2.2 := ⟨_, rfl⟩
        rw [← hX] at HOV hov
        obtain ⟨p, hp⟩ : ∃ p, p = X.length := ⟨_, rfl⟩
        rw [← hp] at hov
        have hpi : (0 : Int) < (p : Int) := by omega
        clear hX hv0 hov
        go_wp2_with fail
        refine HOV.out.mono ?_
        rintro e' wo ho
        obtain ⟨a2, c2, rfl, -, hbo⟩ := pt_out hp ho
        have HBo := Lib.hid (HWz.out.trans (hbo.mono HWz.out.size))
        clear ho hbo hp
        go_wp2_with fail
        refine (awake12_any wo).mono ?_
        rintro e' wy ⟨rfl, hby⟩
        have HBy := Lib.hid (HBo.out.trans (hby.mono HBo.out.size))
        clear hby
        go_wp2_with fail
        go_ret
        exact ⟨rfl, HBy.out⟩
      case inl =>
      rw [← HSL.out] at hl
      obtain rfl : sl = L' := hl.symm
      obtain ⟨us, hus⟩ : ∃ us, us = S'.1 := ⟨_, rfl⟩
      rw [← hus] at hmem HSTz
      have HMEM := Lib.hid hmem
      have HUL := Lib.hid HSTz.out.1
      obtain ⟨ub, uq, ua, ult, uc⟩ := HSTz.out.2.1.at_
      rw [HUL.out] at ua ult
      obtain rfl := ua (by omega)
      have ult := ult (by omega)
      have HUC := Lib.hid uc
      obtain ⟨⟨⟨p0, p1, p2, p3⟩, -⟩, -⟩ := HSQ.out
      clear hmem uc hus
      go_upto_region 22 with fail
      clear q0 q1 q2 q3 t0 t1 t2 t3 t4 n0 n1 n2 n3 n4 p0 p1 p2 p3
      go_wp2_with fail
      go_loopw [16, 17, 18] (fun i _ _ wr => ∃ x : Nat, i = .int .i64 x ∧ x ≤ sl ∧ Hid (Below wz.heap.size wz wr)) (fun i _ _ _ => sl - (intOf i).toNat)
      case atStart => exact ⟨0, by first | rfl | go_num, by omega, Lib.hid (Below.refl _ _)⟩
      case round =>
        obtain ⟨x, rfl, hx, HW4⟩ := hrel
        obtain ⟨⟨⟨p0, p1, p2, p3⟩, -⟩, -⟩ := HSQ.out.keep HW4.out HSQ.out.lt
        by_cases hltx : x < sl
        · have hxi : (x : Int) < (sl : Int) := by omega
          have hxl : x < us.length := by rw [HUL.out]; exact hltx
          obtain ⟨h0, h1, h2, h3⟩ := HUC.out.old ult HW4.out x hxl
          have htr := Nat.lt_of_lt_of_le ult HW4.out.size
          obtain ⟨n0, n1, n2, n3, n4⟩ := HNz.out.below HW4.out
          simp only at n0 n1 n2 n3
          obtain ⟨F, hF⟩ : ∃ F, F = us[x] := ⟨_, rfl⟩
          have HFM := Lib.hid (HMEM.out F (by rw [hF]; exact List.getElem_mem hxl))
          have HFF := Lib.hid hF
          rw [← hF] at h0 h1 h2 h3
          obtain ⟨d, hd⟩ : ∃ d, d = decide (F = (sx, (v : Int), T.2.2.1, T.2.2.2)) := ⟨_, rfl⟩
          have heq := fun W => eq_tab F (sx, (v : Int), T.2.2.1, T.2.2.2) W
          simp only [← hd] at heq
          have HD := Lib.hid hd
          clear hF hd
          go_wp2_with fail
          go_quiet (fail)
          have HB5' := Lib.hid (HW4.out.trans ((below_drewN (Below.refl _ wr) nq).mono HW4.out.size))
          generalize wr.drewN nq = wd at *
          clear p0 p1 p2 p3 h0 h1 h2 h3 n0 n1 n2 n3 n4 htr heq
          go_wp2_with fail
          go_loopw [17, 18] (fun c j wr => ∃ (y : Nat) (c0 : Bool), c = .bool c0 ∧ j = .int .i64 y ∧ y ≤ sl ∧ Hid (c0 = true ↔ (d = true ∨ ∃ j, ∃ (h : j < ss.length), j < y ∧ j ≠ k ∧ ss[j] = F)) ∧ Hid (Below wz.heap.size wz wr)) (fun _ j _ => sl - (intOf j).toNat)
          case atStart => exact ⟨0, d, rfl, by first | rfl | go_num, by omega, Lib.hid (by simp), HB5'⟩
          case round =>
            obtain ⟨y, c0, rfl, rfl, hy, HX, HW6⟩ := hrel
            obtain ⟨⟨⟨q0, q1, q2, q3⟩, -⟩, -⟩ := HSz.out.1.keep HW6.out HSz.out.1.lt
            simp only at q0 q1 q2
            rw [← HSL.out] at q0
            by_cases hlty : y < sl
            · have hyi : (y : Int) < (sl : Int) := by omega
              have hyl : y < ss.length := by rw [← HSL.out]; exact hlty
              obtain ⟨⟨⟨p0, p1, p2, p3⟩, -⟩, -⟩ := HSQ.out.keep HW6.out HSQ.out.lt
              obtain ⟨h0, h1, h2, h3⟩ := HUC.out.old ult HW6.out x hxl
              obtain ⟨g0, g1, g2, g3⟩ := HTCz.out.old tltz HW6.out y hyl
              have htr := Nat.lt_of_lt_of_le ult HW6.out.size
              have hsr := Nat.lt_of_lt_of_le tltz HW6.out.size
              obtain ⟨E, hE⟩ : ∃ E, E = ss[y] := ⟨_, rfl⟩
              rw [← hE] at g0 g1 g2 g3
              rw [← HFF.out] at h0 h1 h2 h3
              obtain ⟨d2, hd2⟩ : ∃ d, d = decide (E = F) := ⟨_, rfl⟩
              have heq := fun W => eq_tab E F W
              simp only [← hd2] at heq
              have HN : Hid ((c0 || (d2 && decide (y ≠ k))) = true ↔ (d = true ∨ ∃ j, ∃ (h : j < ss.length), j < y + 1 ∧ j ≠ k ∧ ss[j] = F)) := Lib.hid (by
                rw [Bool.or_eq_true, HX.out, Bool.and_eq_true, hd2, decide_eq_true_eq, decide_eq_true_eq]
                constructor
                · rintro ((h | ⟨j, h1, h2, h3, h4⟩) | ⟨h1, h2⟩)
                  · exact .inl h
                  · exact .inr ⟨j, h1, by omega, h3, h4⟩
                  · exact .inr ⟨y, hyl, by omega, h2, by rw [← hE]; exact h1⟩
                · rintro (h | ⟨j, h1, h2, h3, h4⟩)
                  · exact .inl (.inl h)
                  · by_cases e : j = y
                    · subst e; exact .inr ⟨by rw [hE]; exact h4, h3⟩
                    · exact .inl (.inr ⟨j, h1, by omega, h3, h4⟩))
              clear hE hd2
              have hend : ∀ c1 : Bool, c1 = (c0 || (d2 && decide (y ≠ k))) → Hid (c1 = true ↔ (d = true ∨ ∃ j, ∃ (h : j < ss.length), j < y + 1 ∧ j ≠ k ∧ ss[j] = F)) := fun c1 hc1 => by rw [hc1]; exact HN
              have HEND := Lib.hid hend
              clear hend HN
              cases c0 with
              | true =>
                go_wp2_with fail
                go_quiet (fail)
                have HB7 := Lib.hid (HW6.out.trans ((below_drewN (Below.refl _ wr) nq).mono HW6.out.size))
                generalize wr.drewN nq = wd at *
                go_wp2_with fail
                go_roundw
                case rel => exact ⟨y + 1, true, rfl, by go_num, by omega, HEND.out true rfl, HB7⟩
                case measure => simp [intOf]; omega
              | false =>
              cases d2 with
              | false =>
                go_wp2_with fail
                go_quiet (fail)
                have HB7 := Lib.hid (HW6.out.trans ((below_drewN (Below.refl _ wr) nq).mono HW6.out.size))
                generalize wr.drewN nq = wd at *
                go_wp2_with fail
                go_roundw
                case rel => exact ⟨y + 1, false, rfl, by go_num, by omega, HEND.out false rfl, HB7⟩
                case measure => simp [intOf]; omega
              | true =>
              by_cases hyk : y = k
              · have HNO := Lib.hid (fun (_ : True) => HEND.out false (by simp [hyk]))
                subst hyk
                go_wp2_with fail
                go_quiet (fail)
                have HB7 := Lib.hid (HW6.out.trans ((below_drewN (Below.refl _ wr) nq).mono HW6.out.size))
                generalize wr.drewN nq = wd at *
                go_wp2_with fail
                go_roundw
                case rel => exact ⟨_, false, rfl, by go_num, by omega, HNO.out trivial, HB7⟩
                case measure => simp [intOf]; omega
              · have HK := Lib.hid hyk
                have hyk' : ¬ (y : Int) = (k : Int) := by omega
                clear hyk
                go_wp2_with fail
                go_quiet (fail)
                have HB7 := Lib.hid (HW6.out.trans ((below_drewN (Below.refl _ wr) nq).mono HW6.out.size))
                generalize wr.drewN nq = wd at *
                go_wp2_with fail
                go_roundw
                case rel => exact ⟨y + 1, _, rfl, by go_num, by omega, HEND.out _ (by have h := HK.out; simp [h, hyk']), HB7⟩
                case measure => simp [intOf]; omega
            · obtain rfl : sl = y := by omega
              obtain rfl : c0 = true := by
                refine HX.out.2 ?_
                rcases HFM.out with h | ⟨j, h1, h2, h3⟩
                · exact .inl (by rw [HD.out]; exact decide_eq_true h)
                · exact .inr ⟨j, h1, by rw [HSL.out]; exact h1, h2, h3⟩
              clear HX
              go_wp2_with fail
              go_roundw
              case rel => exact ⟨x + 1, by go_num, by omega, HW6⟩
              case measure => simp [intOf]; omega
        · obtain rfl : sl = x := by omega
          have HBE := Lib.hid (HWz.out.trans (HW4.out.mono HWz.out.size))
          go_wp2_with fail
          refine (awake12_any wr).mono ?_
          rintro e' wy ⟨rfl, hby⟩
          have HBy := Lib.hid (HBE.out.trans (hby.mono HBE.out.size))
          clear hby
          go_wp2_with fail
          go_ret
          exact ⟨rfl, HBy.out⟩
end Go.Proofs.Ytkpemlgolpihiaa
