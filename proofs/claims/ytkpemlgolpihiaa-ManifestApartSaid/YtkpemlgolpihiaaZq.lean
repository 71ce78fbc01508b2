/-
  Layer 12 (manifest): the walk of ManifestApart. Conditions: none beyond the row's own.
-/
import Derived.Test.YtkpemlgolpihiaaZo
import Derived.Test.YtkpemlgolpihiaaRH
import Derived.Test.YtkpemlgolpihiaaQt
import Derived.Deep.RegionHeld3
import Derived.Deep.DeepCutAuto
import Derived.Deep.CutRange
import Derived.Deep.CutBlock
import Derived.Deep.QuietTactic
import Derived.Laws.Cover1
import Derived.Laws.StructEq
import Derived.Lib.MinMax
namespace Go.Proofs.Ytkpemlgolpihiaa
set_option maxRecDepth 100000
open Go.RowKit
set_option linter.unusedVariables false
set_option linter.unusedSimpArgs false

set_option maxRecDepth 1000000 in
set_option maxHeartbeats 16000000 in
theorem walk_ManifestApart (a : Option Addr) (n cap : Nat) (es : List Ed) (w : World) (h : SEd w a n cap es) :
    Calls Try.prog 6 #[.slice a n cap] w fun x w' => x = .returned (.bool true) ∧ Below w.heap.size w w' := by
  obtain ⟨b, off, ha, hb, hc⟩ := h.2.1.at_
  have hl := h.1
  rw [hl] at ha hb
  have HC := Lib.hid fun (_ : 0 < n) => hc
  have HL := Lib.hid hl
  have HB1 := Lib.hid (Below.refl w.heap.size w)
  have HR1 := Lib.hid (Below.refl w.heap.size w)
  clear hc hl
  go_enter Try.func6, Try.ntmps6
  by_cases hn : n ≤ 20
  case neg =>
    have hni : (20 : Int) < (n : Int) := by omega
    go_wp2_with fail
    refine (awake12_any w).mono ?_
    rintro e' wz ⟨rfl, hbz⟩
    have HBZ := Lib.hid (HR1.out.trans (hbz.mono HR1.out.size))
    clear hbz
    go_wp2_with fail
    go_ret
    exact ⟨rfl, HB1.out.trans (HBZ.out.mono HB1.out.size)⟩
  have hni : ¬ (20 : Int) < (n : Int) := by omega
  have hs0 := LS.zero w 38
  have b2 := box_bel w (.cells #[.slice none 0 0, .int .i64 0, .int .i64 0] 38)
  go_upto_region 4 with fail
  obtain ⟨xs, hxs⟩ : ∃ xs, xs = w.heap.size := ⟨_, rfl⟩
  rw [← hxs] at hs0 ⊢
  have hx1 : w.heap.size ≤ xs := by omega
  clear hxs
  generalize w.alloc (.cells #[.slice none 0 0, .int .i64 0, .int .i64 0] 38) = w0 at *
  have HS0 := Lib.hid hs0
  have HB0 := Lib.hid b2
  have HXS := Lib.hid hx1
  clear hs0 b2
  go_wp2_with fail
  go_loopw [4, 5, 6, 7, 8, 9, 10] (fun i _ _ _ _ _ _ wr => ∃ (k : Nat) (s : St) (sa : Option Addr) (sc : Nat), i = .int .i64 k ∧ k ≤ n ∧ Hid (LS wr xs k s sa sc) ∧ Hid (Below w.heap.size w wr)) (fun i _ _ _ _ _ _ _ => n - (intOf i).toNat)
  case atStart => exact ⟨0, ([], 0, 0), none, 0, by first | rfl | go_num, by omega, HS0, HB0⟩
  case round =>
    obtain ⟨k, s, sa, sc, rfl, hk, HS, HW⟩ := hrel
    by_cases hlt : k < n
    · have hki : (k : Int) < (n : Int) := by omega
      obtain rfl := ha (by omega)
      have hbw := hb (by omega)
      have hkl : k < es.length := by rw [HL.out]; exact hlt
      obtain ⟨aa, an, ac, da, dn, dc, c0, c1, c2, c3, hev⟩ := ((HC.out (by omega)).old hbw HW.out) k hkl
      obtain ⟨E, hE⟩ : ∃ E, E = es[k] := ⟨_, rfl⟩
      rw [← hE] at c2 c3 hev
      have hbr : b < wr.heap.size := Nat.lt_of_lt_of_le hbw HW.out.size
      obtain ⟨lg, hlg⟩ : ∃ lg, lg = E.2.2.1 := ⟨_, rfl⟩
      obtain ⟨nx, hnx⟩ : ∃ nx, nx = E.2.2.2 := ⟨_, rfl⟩
      rw [← hlg] at c2 hev
      rw [← hnx] at c3 hev
      have HEV := Lib.hid hev
      have HLI := Lib.hid (light12_any _ _ _ hev)
      obtain ⟨lt, hlt2⟩ : ∃ lt, lt = liteEd E := ⟨_, rfl⟩
      rw [← hlt2] at HLI
      have HCE := Lib.hid (And.intro c0 (And.intro c1 (And.intro c2 c3)))
      clear hE hlg hnx hev hlt2
      go_wp2_with fail
      refine HLI.out.mono ?_
      rintro e' w2 ⟨rfl, hb2⟩
      have HB2 := Lib.hid hb2
      have HW2 := Lib.hid (HW.out.trans (hb2.mono HW.out.size))
      clear hb2 HLI
      cases lt with
      | false =>
        clear c0 c1 c2 c3
        go_wp2_with fail
        refine (awake12_any w2).mono ?_
        rintro e' wz ⟨rfl, hbz⟩
        have HBZ := Lib.hid (HW2.out.trans (hbz.mono HW2.out.size))
        clear hbz
        go_wp2_with fail
        go_ret
        exact ⟨rfl, HB1.out.trans (HBZ.out.mono HB1.out.size)⟩
      | true =>
      have HCE2 := Lib.hid (And.intro ((HB2.out.cell (p := ⟨b, off + k * 4, none⟩) hbr).trans HCE.out.1) (And.intro ((HB2.out.cell (p := ⟨b, off + k * 4 + 1, none⟩) hbr).trans HCE.out.2.1) (And.intro ((HB2.out.cell (p := ⟨b, off + k * 4 + 2, none⟩) hbr).trans HCE.out.2.2.1) ((HB2.out.cell (p := ⟨b, off + k * 4 + 3, none⟩) hbr).trans HCE.out.2.2.2))))
      have HS2 := Lib.hid (HS.out.keep HB2.out (Nat.le_refl _))
      have HEV2 := Lib.hid (HEV.out.old HB2.out)
      clear c0 c1 c2 c3
      obtain ⟨c0, c1, c2, c3⟩ := HCE2.out
      obtain ⟨q0, q1, q2, q3⟩ := HS2.out.1.1.1
      obtain ⟨NN, hNN⟩ : ∃ NN, NN = apN s E := ⟨_, rfl⟩
      obtain ⟨S', hS'⟩ : ∃ S', S' = apS s E := ⟨_, rfl⟩
      have hx2 : xs < w2.heap.size := HS2.out.1.lt
      have HKE := Lib.hid (And.intro q0 (And.intro q1 (And.intro q2 HCE2.out)))
      have HF := Lib.hid fun (wx : World) (hx : Below w2.heap.size w2 wx) => apply12_any _ _ s E wx (HS2.out.sv.old hx) (HEV2.out.old hx) HS2.out.2.2.1 (by have := HS2.out.2.2.2.2.1; omega)
      have HFE : Hid (∀ x wa wb, APe s E wa x wb → ∃ a' c', x = .returned (.tuple #[.agg #[.slice a' S'.1.length c', .int .i64 S'.2.1, .int .i64 S'.2.2], .int .i64 NN]) ∧ ST wb a' S'.1.length c' S'.1 ∧ okT S'.1 ∧ Below wa.heap.size wa wb) := Lib.hid (by
        rintro x wa wb ⟨V, rfl, ⟨a', m', c', rfl, hst, hok⟩, hbb⟩
        rw [hNN, hS']
        obtain rfl := hst.1
        exact ⟨a', c', rfl, hst, hok, hbb⟩)
      obtain ⟨sl, hsl⟩ : ∃ sl, sl = s.1.length := ⟨_, rfl⟩
      obtain ⟨sg, hsg⟩ : ∃ sg, sg = s.2.1 := ⟨_, rfl⟩
      obtain ⟨sx, hsx⟩ : ∃ sx, sx = s.2.2 := ⟨_, rfl⟩
      rw [← hsl, ← hsg, ← hsx] at HF HKE
      rw [← hsl] at q0
      rw [← hsg] at q1
      rw [← hsx] at q2
      obtain ⟨L', hL'⟩ : ∃ L', L' = S'.1.length := ⟨_, rfl⟩
      obtain ⟨G', hG'⟩ : ∃ G', G' = S'.2.1 := ⟨_, rfl⟩
      obtain ⟨X', hX'⟩ : ∃ X', X' = S'.2.2 := ⟨_, rfl⟩
      rw [← hL', ← hG', ← hX'] at HFE
      have HEQ := Lib.hid (And.intro hL' (And.intro hG' (And.intro hX' (And.intro hNN hS'))))
      have HSL := Lib.hid (And.intro hsl (And.intro hsg hsx))
      clear hsl hsg hsx hL' hG' hX' hNN hS'
      have hbr2 : b < w2.heap.size := Nat.lt_of_lt_of_le hbr HB2.out.size
      go_upto_region 9 with fail
      go_cut [5, 6] (fun s9 s10 wx => ∃ g a' c', s9 = .pointer (some ⟨g, 0, none⟩) ∧ s10 = .int .i64 NN ∧ Hid (SQ wx g (.slice a' L' c') G' X' ∧ ST wx a' L' c' S'.1 ∧ okT S'.1 ∧ w2.heap.size ≤ g ∧ Below w2.heap.size w2 wx))
      case first =>
        go_region_held3 (fun w' => w'.cell? ⟨xs, 0, none⟩ = some (.slice sa sl sc) ∧ w'.cell? ⟨xs, 1, none⟩ = some (.int .i64 sg) ∧ w'.cell? ⟨xs, 2, none⟩ = some (.int .i64 sx) ∧ w'.cell? ⟨b, off + k * 4, none⟩ = some (.slice aa an ac) ∧ w'.cell? ⟨b, off + k * 4 + 1, none⟩ = some (.slice da dn dc) ∧ w'.cell? ⟨b, off + k * 4 + 2, none⟩ = some (.int .i64 lg) ∧ w'.cell? ⟨b, off + k * 4 + 3, none⟩ = some (.int .i64 nx))
          (first
            | assumption
            | exact HKE.out
            | (refine keep7 HKE.out ?_
               repeat (first | assumption | exact Below.refl _ _ | (refine Below.alloc ?_ ?_ _) | (refine Below.setCell ?_ ?_ _) | (refine Below.drew ?_))
               all_goals (first | omega | (simp; done) | (simp; omega))))
          (first
            | (go_at_call 18; (with_reducible refine (HF.out _ (by first | exact Below.refl _ _ | exact (Below.refl _ _).drew | exact (Below.refl _ _).alloc (Nat.le_refl _) _ | exact ((Below.refl _ _).alloc (Nat.le_refl _) _).drew)).mono ?_); rintro e w4 he; obtain ⟨a', c', rfl, hst', hok', hbb⟩ := HFE.out _ _ _ he; clear he; have hq : SQ w4 _ (.slice none 0 0) 0 0 ∧ Below _ _ w4 := (by with_reducible exact sq_after hbb); obtain ⟨hqq, z4⟩ := hq; have KQ := Lib.hid hqq; have KS := Lib.hid hst'; have KB := Lib.hid z4; have hz4 := z4.size; obtain ⟨⟨⟨m0, m1, m2, m3⟩, f0, f1, f2⟩, -⟩ := hqq; obtain ⟨m4, m5, m6, m7, m8, m9, mA⟩ := keep7 HKE.out z4; clear hbb)
            | (go_at_call 18; (with_reducible refine (HF.out _ (by first | exact Below.refl _ _ | exact (Below.refl _ _).drew | exact (Below.refl _ _).alloc (Nat.le_refl _) _ | exact ((Below.refl _ _).alloc (Nat.le_refl _) _).drew)).mono ?_); rintro e w4 he; obtain ⟨a', c', rfl, hst', hok', hbb⟩ := HFE.out _ _ _ he; clear he; have hq : SQ w4 _ (.slice none 0 0) 0 0 ∧ Below _ _ w4 := (by with_reducible exact sq_afterd hbb); obtain ⟨hqq, z4⟩ := hq; have KQ := Lib.hid hqq; have KS := Lib.hid hst'; have KB := Lib.hid z4; have hz4 := z4.size; obtain ⟨⟨⟨m0, m1, m2, m3⟩, f0, f1, f2⟩, -⟩ := hqq; obtain ⟨m4, m5, m6, m7, m8, m9, mA⟩ := keep7 HKE.out z4; clear hbb)
            | (go_at_call 18; (with_reducible refine (HF.out _ (by first | exact Below.refl _ _ | exact (Below.refl _ _).drew)).mono ?_); rintro e w4 he; obtain ⟨a', c', rfl, hst', hok', hbb⟩ := HFE.out _ _ _ he; clear he; have z4 : Below w2.heap.size w2 w4 := (by first | exact hbb | exact ((Below.refl _ _).drew).trans hbb); have KS := Lib.hid hst'; have KB := Lib.hid z4; have hz4 := z4.size; obtain ⟨m4, m5, m6, m7, m8, m9, mA⟩ := keep7 HKE.out z4; clear hbb))
        all_goals
          go_wp2_with fail
          go_meet
          first
            | exact ⟨_, a', c', rfl, rfl, Lib.hid ⟨KQ.out.put _ _ _, KS.out.put3 KQ.out _ _ _, hok', Nat.le_refl _, below3 KB.out (Nat.le_refl _) _ _ _⟩⟩
            | exact ⟨_, a', c', rfl, rfl, Lib.hid ⟨SQ.new _ _ _ _ _, KS.out.old ((Below.refl _ _).alloc (Nat.le_refl _) _), hok', KB.out.size, KB.out.alloc KB.out.size _⟩⟩
      case rest =>
      obtain ⟨g, a', c', rfl, rfl, HG⟩ := hcut
      have HWC := Lib.hid (HW2.out.trans (HG.out.2.2.2.2.mono HW2.out.size))
      have HSC := Lib.hid (HS2.out.keep HG.out.2.2.2.2 (Nat.le_refl _))
      obtain ⟨⟨⟨q0, q1, q2, q3⟩, f0, f1, f2⟩, -⟩ := HSC.out.1
      obtain ⟨⟨⟨g0, g1, g2, g3⟩, -⟩, -⟩ := HG.out.1
      rw [← HSL.out.1] at q0
      rw [← HSL.out.2.1] at q1
      rw [← HSL.out.2.2] at q2
      by_cases h0 : NN = 0
      case neg =>
        have HNS := Lib.hid (HSC.out.more (Nat.le_succ k))
        go_wp2_with fail
        go_roundw
        case rel => exact ⟨k + 1, s, sa, sc, by go_num, by omega, HNS, HWC⟩
        case measure => simp [intOf]; omega
      subst h0
      have hup := step_ok (e := E) HSC.out.2.2.1 HEQ.out.2.2.2.1.symm
      have hlog : ¬ G' < sg := by rw [HEQ.out.2.1, HEQ.out.2.2.2.2, HSL.out.2.1]; have := hup.2.1; omega
      have hnext : ¬ X' < sx := by rw [HEQ.out.2.2.1, HEQ.out.2.2.2.2, HSL.out.2.2]; have := hup.2.2.1; omega
      clear hup
      have HNS : Hid (LS (((wc.setCell ⟨xs, 0, none⟩ (.slice a' L' c')).setCell ⟨xs, 1, none⟩ (.int .i64 G')).setCell ⟨xs, 2, none⟩ (.int .i64 X')) xs (k + 1) S' a' c') := Lib.hid (by
        obtain ⟨e1, e2, e3, e4, e5⟩ := HEQ.out
        rw [e1, e2, e3, e5]
        exact HSC.out.step e4.symm (by rw [← e5, ← e1]; exact HG.out.2.1) (by rw [← e5]; exact HG.out.2.2.1))
      have HNB := Lib.hid (below3 HWC.out HXS.out (.slice a' L' c') (.int .i64 G') (.int .i64 X'))
      go_upto_region 14 with fail
      generalize ((wc.setCell ⟨xs, 0, none⟩ (.slice a' L' c')).setCell ⟨xs, 1, none⟩ (.int .i64 G')).setCell ⟨xs, 2, none⟩ (.int .i64 X') = wq at *
      clear q0 q1 q2 q3 f0 f1 f2 g0 g1 g2 g3 HF HFE HG HSC HWC hlog hnext hbr hbr2 c0 c1 c2 c3
      have HQQ : Hid (SQ wq xs (.slice a' L' c') G' X') := Lib.hid (by rw [HEQ.out.1, HEQ.out.2.1, HEQ.out.2.2.1]; exact HNS.out.1)
      have HTT : Hid (ST wq a' L' c' S'.1) := Lib.hid (by rw [HEQ.out.1]; exact HNS.out.2.1)
      have HOO : Hid (OkT S'.1 X') := Lib.hid (by rw [HEQ.out.2.2.1]; exact HNS.out.2.2.1)
      have hL5 : L' ≤ 50000 := by rw [HEQ.out.1]; have := HNS.out.2.2.2.2.1; omega
      obtain ⟨ts, hts⟩ : ∃ ts, ts = S'.1 := ⟨_, rfl⟩
      rw [← hts] at HTT HOO
      have HTL := Lib.hid HTT.out.1
      obtain ⟨tb, tq, ta, tlt, tc⟩ := HTT.out.2.1.at_
      have HTC := Lib.hid tc
      rw [HTL.out] at ta tlt
      clear tc hts
      go_wp2_with fail
      go_loopw [7, 8, 9, 10] (fun i _ _ _ wr => ∃ x : Nat, i = .int .i64 x ∧ x ≤ L' ∧ Hid (Below wq.heap.size wq wr)) (fun i _ _ _ _ => L' - (intOf i).toNat)
      case atStart => exact ⟨0, by first | rfl | go_num, by omega, Lib.hid (Below.refl _ _)⟩
      case round =>
        obtain ⟨x, rfl, hx, HW4⟩ := hrel
        obtain ⟨⟨⟨q0, q1, q2, q3⟩, -⟩, -⟩ := HQQ.out.keep HW4.out HQQ.out.lt
        by_cases hltx : x < L'
        · have hxi : (x : Int) < (L' : Int) := by omega
          have hxl : x < ts.length := by rw [HTL.out]; exact hltx
          obtain rfl := ta (by omega)
          have tlt := tlt (by omega)
          obtain ⟨h0, h1, h2, h3⟩ := HTC.out.old tlt HW4.out x hxl
          have htr := Nat.lt_of_lt_of_le tlt HW4.out.size
          obtain ⟨F, hF⟩ : ∃ F, F = ts[x] := ⟨_, rfl⟩
          obtain ⟨o1, o2, o3⟩ := ok_one HOO.out hxl
          rw [← hF] at h0 h1 h2 h3 o1 o2
          have HFF := Lib.hid hF
          have o1' : ¬ X' ≤ F.1 := by omega
          have hb1 := box_bel wr (.cells #[.int .i64 F.1, .int .i64 F.2.1, .string F.2.2.1, .string F.2.2.2] 49)
          have ht1 := TBox.new wr 49 F
          obtain ⟨z, hz⟩ : ∃ z, z = wr.heap.size := ⟨_, rfl⟩
          clear hF o1 o3
          go_upto_region 18 with fail
          rw [← hz] at ht1 ⊢
          clear hz q0 q1 q2 q3 h0 h1 h2 h3
          generalize wr.alloc (.cells #[.int .i64 F.1, .int .i64 F.2.1, .string F.2.2.1, .string F.2.2.2] 49) = wa at *
          have HW5 := Lib.hid (HW4.out.trans (hb1.mono HW4.out.size))
          have HT1 := Lib.hid ht1
          clear hb1 ht1
          obtain ⟨⟨⟨q0, q1, q2, q3⟩, -⟩, -⟩ := HQQ.out.keep HW5.out HQQ.out.lt
          obtain ⟨t0, t1, t2, t3, t4⟩ := HT1.out
          have HO2 := Lib.hid o2
          clear o2
          go_cut [76] from 65 to 76 (fun s wx => s = .bool false ∧ wx = wa)
          case first =>
            rcases cmp3 F.2.2.1 F.2.2.2 with ⟨p1, p2, p3, p4⟩ | ⟨p1, p2, p3, p4⟩ | ⟨p1, p2, p3, p4⟩
            case inr.inl =>
              have o2 : Op.bytesLess F.2.2.2.toList F.2.2.1.toList = false := HO2.out
              rw [p2] at o2
              cases o2
            all_goals
              go_wp2_with fail
              go_meet
              case rel => exact ⟨rfl, rfl⟩
          case rest =>
          obtain ⟨rfl, rfl⟩ := hcut
          clear q0 q1 q2 q3 t0 t1 t2 t3 t4 o1'
          go_wp2_with fail
          go_loopw [9, 10] (fun i _ wr => ∃ y : Nat, i = .int .i64 y ∧ y ≤ x ∧ Hid (Below wc.heap.size wc wr)) (fun i _ _ => x - (intOf i).toNat)
          case atStart => exact ⟨0, by first | rfl | go_num, by omega, Lib.hid (Below.refl _ _)⟩
          case round =>
            obtain ⟨y, rfl, hy, HW6⟩ := hrel
            have HW7 := Lib.hid (HW5.out.trans (HW6.out.mono HW5.out.size))
            by_cases hlty : y < x
            · have hyi : (y : Int) < (x : Int) := by omega
              have hyi2 : (y : Int) < (L' : Int) := by omega
              have hyl : y < ts.length := by omega
              obtain ⟨⟨⟨q0, q1, q2, q3⟩, -⟩, -⟩ := HQQ.out.keep HW7.out HQQ.out.lt
              obtain ⟨h0, h1, h2, h3⟩ := HTC.out.old tlt HW7.out y hyl
              have htr := Nat.lt_of_lt_of_le tlt HW7.out.size
              obtain ⟨G, hG⟩ : ∃ G, G = ts[y] := ⟨_, rfl⟩
              obtain ⟨o1, o2, o3⟩ := ok_pair HOO.out hlty hxl
              rw [← hG] at h0 h1 h2 h3 o1 o2 o3
              rw [← HFF.out] at o1 o2 o3
              have HO3 := Lib.hid o3
              have o2' : ¬ F.2.1 < G.2.1 := by omega
              have hb1 := box_bel wr (.cells #[.int .i64 G.1, .int .i64 G.2.1, .string G.2.2.1, .string G.2.2.2] 49)
              have ht1 := TBox.new wr 49 G
              obtain ⟨z', hz⟩ : ∃ z, z = wr.heap.size := ⟨_, rfl⟩
              clear hG o2 o3
              go_upto_region 24 with fail
              rw [← hz] at ht1 ⊢
              clear hz q0 q1 q2 q3 h0 h1 h2 h3
              have HT2 := Lib.hid (HT1.out.below (HW6.out.trans (hb1.mono HW6.out.size)))
              generalize wr.alloc (.cells #[.int .i64 G.1, .int .i64 G.2.1, .string G.2.2.1, .string G.2.2.2] 49) = wa at *
              have HW8 := Lib.hid (HW6.out.trans (hb1.mono HW6.out.size))
              clear hb1
              obtain ⟨t0, t1, t2, t3, t4⟩ := HT2.out
              obtain ⟨u0, u1, u2, u3, u4⟩ := ht1
              by_cases hp : 0 < F.2.1
              case neg =>
                go_wp2_with fail
                go_roundw
                case rel => exact ⟨y + 1, by go_num, by omega, HW8⟩
                case measure => simp [intOf]; omega
              by_cases he : G.2.1 = F.2.1
              case neg =>
                go_wp2_with fail
                go_roundw
                case rel => exact ⟨y + 1, by go_num, by omega, HW8⟩
                case measure => simp [intOf]; omega
              have hbl : Op.bytesLess G.2.2.2.toList F.2.2.1.toList = true := HO3.out hp he
              rw [he] at u1
              clear he o2'
              go_wp2_with fail
              go_roundw
              case rel => exact ⟨y + 1, by go_num, by omega, HW8⟩
              case measure => simp [intOf]; omega
            · obtain rfl : x = y := by omega
              go_wp2_with fail
              go_roundw
              case rel => exact ⟨x + 1, by go_num, by omega, HW7⟩
              case measure => simp [intOf]; omega
        · obtain rfl : L' = x := by omega
          have HNE := Lib.hid (HNB.out.trans (HW4.out.mono HNB.out.size))
          have HLE := Lib.hid (HNS.out.keep HW4.out (Nat.le_refl _))
          go_wp2_with fail
          go_roundw
          case rel => exact ⟨k + 1, S', a', c', by go_num, by omega, HLE, HNE⟩
          case measure => simp [intOf]; omega
    · obtain rfl : n = k := by omega
      go_wp2_with fail
      refine (awake12_any wr).mono ?_
      rintro e' wz ⟨rfl, hbz⟩
      have HBZ := Lib.hid (HW.out.trans (hbz.mono HW.out.size))
      clear hbz
      go_wp2_with fail
      go_ret
      exact ⟨rfl, HB1.out.trans (HBZ.out.mono HB1.out.size)⟩
end Go.Proofs.Ytkpemlgolpihiaa
