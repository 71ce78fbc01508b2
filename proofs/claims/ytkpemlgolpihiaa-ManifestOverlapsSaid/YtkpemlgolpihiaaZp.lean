/-
  Layer 12 (manifest): the walk of ManifestOverlaps. Conditions: none beyond the row's own.
-/
import Derived.Test.YtkpemlgolpihiaaZo
import Derived.Test.YtkpemlgolpihiaaRH
import Derived.Test.YtkpemlgolpihiaaQt
import Derived.Deep.RegionHeld3
import Derived.Deep.DeepCutAuto
import Derived.Deep.CutRange
import Derived.Deep.CutBlock
import Derived.Deep.QuietTactic
import Derived.Laws.Cover1
import Derived.Laws.StructEq
import Derived.Lib.MinMax
namespace Go.Proofs.Ytkpemlgolpihiaa
set_option maxRecDepth 100000
open Go.RowKit
set_option linter.unusedVariables false
set_option linter.unusedSimpArgs false

set_option maxRecDepth 1000000 in
set_option maxHeartbeats 16000000 in
theorem walk_ManifestOverlaps (a : Option Addr) (n cap : Nat) (es : List Ed) (A B C : ByteArray) (hA0 : A.size ≤ maxLen) (hB0 : B.size ≤ maxLen) (hC0 : C.size ≤ maxLen) (lv : Int) (hlv : (Lit.int .i64 lv).wf = true) (w : World) (h : SEd w a n cap es) :
    Calls Try.prog 8 #[.slice a n cap, .agg #[.string A, .string B, .string C], .int .i64 lv] w fun x w' => x = .returned (.bool true) ∧ Below w.heap.size w w' := by
  obtain ⟨b, off, ha, hb, hc⟩ := h.2.1.at_
  have hl := h.1
  rw [hl] at ha hb
  have HC := Lib.hid hc
  have HL := Lib.hid hl
  obtain ⟨o1, ho1⟩ : ∃ o, o = Obj.cells #[.string A, .string B, .string C] 52 := ⟨_, rfl⟩
  have hk0 : (w.alloc o1).cell? ⟨w.heap.size, 0, none⟩ = some (.string A) ∧ (w.alloc o1).cell? ⟨w.heap.size, 1, none⟩ = some (.string B) ∧ (w.alloc o1).cell? ⟨w.heap.size, 2, none⟩ = some (.string C) ∧ w.heap.size < (w.alloc o1).heap.size := by rw [ho1]; exact ⟨by simp, by simp, by simp, by simp⟩
  have b1 := box_bel w o1
  have HK0 := Lib.hid hk0
  clear hk0 hc hl
  go_enter Try.func8, Try.ntmps8
  go_upto_region 1 with fail
  rw [← ho1]
  obtain ⟨xk, hxk⟩ : ∃ xk, xk = w.heap.size := ⟨_, rfl⟩
  rw [← hxk] at HK0 ⊢
  have hxk' : w.heap.size ≤ xk := by omega
  clear ho1 hxk
  generalize w.alloc o1 = w1 at *
  have HB1 := Lib.hid b1
  have HR1 := Lib.hid (Below.refl w1.heap.size w1)
  have HC := Lib.hid fun (hlt : 0 < n) => HC.out.old (hb hlt) HB1.out
  replace hb := fun hlt : 0 < n => Nat.lt_of_lt_of_le (hb hlt) HB1.out.size
  clear b1
  by_cases hn : n ≤ 10
  case neg =>
    have hni : (10 : Int) < (n : Int) := by omega
    go_wp2_with fail
    refine (awake12_any w1).mono ?_
    rintro e' wz ⟨rfl, hbz⟩
    have HBZ := Lib.hid (HR1.out.trans (hbz.mono HR1.out.size))
    clear hbz
    go_wp2_with fail
    go_ret
    exact ⟨rfl, HB1.out.trans (HBZ.out.mono HB1.out.size)⟩
  have hni : ¬ (10 : Int) < (n : Int) := by omega
  have hs0 := LS.zero w1 38
  have b2 := box_bel w1 (.cells #[.slice none 0 0, .int .i64 0, .int .i64 0] 38)
  go_upto_region 4 with fail
  obtain ⟨xs, hxs⟩ : ∃ xs, xs = w1.heap.size := ⟨_, rfl⟩
  rw [← hxs] at hs0 ⊢
  have hx1 : w1.heap.size ≤ xs := by omega
  clear hxs
  generalize w1.alloc (.cells #[.slice none 0 0, .int .i64 0, .int .i64 0] 38) = w0 at *
  have HS0 := Lib.hid hs0
  have HB0 := Lib.hid b2
  have HXS := Lib.hid hx1
  clear hs0 b2
  go_wp2_with fail
  go_loopw [8, 9, 10] (fun i _ _ wr => ∃ (k : Nat) (s : St) (sa : Option Addr) (sc : Nat), i = .int .i64 k ∧ k ≤ n ∧ Hid (LS wr xs k s sa sc) ∧ Hid (Below w1.heap.size w1 wr)) (fun i _ _ _ => n - (intOf i).toNat)
  case atStart => exact ⟨0, ([], 0, 0), none, 0, by first | rfl | go_num, by omega, HS0, HB0⟩
  case round =>
    obtain ⟨k, s, sa, sc, rfl, hk, HS, HW⟩ := hrel
    by_cases hlt : k < n
    · have hki : (k : Int) < (n : Int) := by omega
      obtain rfl := ha (by omega)
      have hbw := hb (by omega)
      have hkl : k < es.length := by rw [HL.out]; exact hlt
      obtain ⟨aa, an, ac, da, dn, dc, c0, c1, c2, c3, hev⟩ := ((HC.out (by omega)).old hbw HW.out) k hkl
      obtain ⟨E, hE⟩ : ∃ E, E = es[k] := ⟨_, rfl⟩
      rw [← hE] at c2 c3 hev
      have hbr : b < wr.heap.size := Nat.lt_of_lt_of_le hbw HW.out.size
      obtain ⟨lg, hlg⟩ : ∃ lg, lg = E.2.2.1 := ⟨_, rfl⟩
      obtain ⟨nx, hnx⟩ : ∃ nx, nx = E.2.2.2 := ⟨_, rfl⟩
      rw [← hlg] at c2 hev
      rw [← hnx] at c3 hev
      have HEV := Lib.hid hev
      have HLI := Lib.hid (light12_any _ _ _ hev)
      obtain ⟨lt, hlt2⟩ : ∃ lt, lt = liteEd E := ⟨_, rfl⟩
      rw [← hlt2] at HLI
      have HCE := Lib.hid (And.intro c0 (And.intro c1 (And.intro c2 c3)))
      clear hE hlg hnx hev hlt2
      go_wp2_with fail
      refine HLI.out.mono ?_
      rintro e' w2 ⟨rfl, hb2⟩
      have HB2 := Lib.hid hb2
      have HW2 := Lib.hid (HW.out.trans (hb2.mono HW.out.size))
      clear hb2 HLI
      cases lt with
      | false =>
        clear c0 c1 c2 c3
        go_wp2_with fail
        refine (awake12_any w2).mono ?_
        rintro e' wz ⟨rfl, hbz⟩
        have HBZ := Lib.hid (HW2.out.trans (hbz.mono HW2.out.size))
        clear hbz
        go_wp2_with fail
        go_ret
        exact ⟨rfl, HB1.out.trans (HBZ.out.mono HB1.out.size)⟩
      | true =>
      have HCE2 := Lib.hid (And.intro ((HB2.out.cell (p := ⟨b, off + k * 4, none⟩) hbr).trans HCE.out.1) (And.intro ((HB2.out.cell (p := ⟨b, off + k * 4 + 1, none⟩) hbr).trans HCE.out.2.1) (And.intro ((HB2.out.cell (p := ⟨b, off + k * 4 + 2, none⟩) hbr).trans HCE.out.2.2.1) ((HB2.out.cell (p := ⟨b, off + k * 4 + 3, none⟩) hbr).trans HCE.out.2.2.2))))
      have HS2 := Lib.hid (HS.out.keep HB2.out (Nat.le_refl _))
      have HEV2 := Lib.hid (HEV.out.old HB2.out)
      clear c0 c1 c2 c3
      obtain ⟨c0, c1, c2, c3⟩ := HCE2.out
      obtain ⟨q0, q1, q2, q3⟩ := HS2.out.1.1.1
      obtain ⟨NN, hNN⟩ : ∃ NN, NN = apN s E := ⟨_, rfl⟩
      obtain ⟨S', hS'⟩ : ∃ S', S' = apS s E := ⟨_, rfl⟩
      have hx2 : xs < w2.heap.size := HS2.out.1.lt
      have HKE := Lib.hid (And.intro q0 (And.intro q1 (And.intro q2 HCE2.out)))
      have HF := Lib.hid fun (wx : World) (hx : Below w2.heap.size w2 wx) => apply12_any _ _ s E wx (HS2.out.sv.old hx) (HEV2.out.old hx) HS2.out.2.2.1 (by have := HS2.out.2.2.2.2.1; omega)
      have HFE : Hid (∀ x wa wb, APe s E wa x wb → ∃ a' c', x = .returned (.tuple #[.agg #[.slice a' S'.1.length c', .int .i64 S'.2.1, .int .i64 S'.2.2], .int .i64 NN]) ∧ ST wb a' S'.1.length c' S'.1 ∧ okT S'.1 ∧ Below wa.heap.size wa wb) := Lib.hid (by
        rintro x wa wb ⟨V, rfl, ⟨a', m', c', rfl, hst, hok⟩, hbb⟩
        rw [hNN, hS']
        obtain rfl := hst.1
        exact ⟨a', c', rfl, hst, hok, hbb⟩)
      obtain ⟨sl, hsl⟩ : ∃ sl, sl = s.1.length := ⟨_, rfl⟩
      obtain ⟨sg, hsg⟩ : ∃ sg, sg = s.2.1 := ⟨_, rfl⟩
      obtain ⟨sx, hsx⟩ : ∃ sx, sx = s.2.2 := ⟨_, rfl⟩
      rw [← hsl, ← hsg, ← hsx] at HF HKE
      rw [← hsl] at q0
      rw [← hsg] at q1
      rw [← hsx] at q2
      obtain ⟨L', hL'⟩ : ∃ L', L' = S'.1.length := ⟨_, rfl⟩
      obtain ⟨G', hG'⟩ : ∃ G', G' = S'.2.1 := ⟨_, rfl⟩
      obtain ⟨X', hX'⟩ : ∃ X', X' = S'.2.2 := ⟨_, rfl⟩
      rw [← hL', ← hG', ← hX'] at HFE
      have HEQ := Lib.hid (And.intro hL' (And.intro hG' (And.intro hX' (And.intro hNN hS'))))
      have HSL := Lib.hid (And.intro hsl (And.intro hsg hsx))
      clear hsl hsg hsx hL' hG' hX' hNN hS'
      have hbr2 : b < w2.heap.size := Nat.lt_of_lt_of_le hbr HB2.out.size
      go_upto_region 9 with fail
      go_cut [9, 10] (fun s9 s10 wx => ∃ g a' c', s9 = .pointer (some ⟨g, 0, none⟩) ∧ s10 = .int .i64 NN ∧ Hid (SQ wx g (.slice a' L' c') G' X' ∧ ST wx a' L' c' S'.1 ∧ okT S'.1 ∧ w2.heap.size ≤ g ∧ Below w2.heap.size w2 wx))
      case first =>
        go_region_held3 (fun w' => w'.cell? ⟨xs, 0, none⟩ = some (.slice sa sl sc) ∧ w'.cell? ⟨xs, 1, none⟩ = some (.int .i64 sg) ∧ w'.cell? ⟨xs, 2, none⟩ = some (.int .i64 sx) ∧ w'.cell? ⟨b, off + k * 4, none⟩ = some (.slice aa an ac) ∧ w'.cell? ⟨b, off + k * 4 + 1, none⟩ = some (.slice da dn dc) ∧ w'.cell? ⟨b, off + k * 4 + 2, none⟩ = some (.int .i64 lg) ∧ w'.cell? ⟨b, off + k * 4 + 3, none⟩ = some (.int .i64 nx))
          (first
            | assumption
            | exact HKE.out
            | (refine keep7 HKE.out ?_
               repeat (first | assumption | exact Below.refl _ _ | (refine Below.alloc ?_ ?_ _) | (refine Below.setCell ?_ ?_ _) | (refine Below.drew ?_))
               all_goals (first | omega | (simp; done) | (simp; omega))))
          (first
            | (go_at_call 18; (with_reducible refine (HF.out _ (by first | exact Below.refl _ _ | exact (Below.refl _ _).drew | exact (Below.refl _ _).alloc (Nat.le_refl _) _ | exact ((Below.refl _ _).alloc (Nat.le_refl _) _).drew)).mono ?_); rintro e w4 he; obtain ⟨a', c', rfl, hst', hok', hbb⟩ := HFE.out _ _ _ he; clear he; have hq : SQ w4 _ (.slice none 0 0) 0 0 ∧ Below _ _ w4 := (by with_reducible exact sq_after hbb); obtain ⟨hqq, z4⟩ := hq; have KQ := Lib.hid hqq; have KS := Lib.hid hst'; have KB := Lib.hid z4; have hz4 := z4.size; obtain ⟨⟨⟨m0, m1, m2, m3⟩, f0, f1, f2⟩, -⟩ := hqq; obtain ⟨m4, m5, m6, m7, m8, m9, mA⟩ := keep7 HKE.out z4; clear hbb)
            | (go_at_call 18; (with_reducible refine (HF.out _ (by first | exact Below.refl _ _ | exact (Below.refl _ _).drew | exact (Below.refl _ _).alloc (Nat.le_refl _) _ | exact ((Below.refl _ _).alloc (Nat.le_refl _) _).drew)).mono ?_); rintro e w4 he; obtain ⟨a', c', rfl, hst', hok', hbb⟩ := HFE.out _ _ _ he; clear he; have hq : SQ w4 _ (.slice none 0 0) 0 0 ∧ Below _ _ w4 := (by with_reducible exact sq_afterd hbb); obtain ⟨hqq, z4⟩ := hq; have KQ := Lib.hid hqq; have KS := Lib.hid hst'; have KB := Lib.hid z4; have hz4 := z4.size; obtain ⟨⟨⟨m0, m1, m2, m3⟩, f0, f1, f2⟩, -⟩ := hqq; obtain ⟨m4, m5, m6, m7, m8, m9, mA⟩ := keep7 HKE.out z4; clear hbb)
            | (go_at_call 18; (with_reducible refine (HF.out _ (by first | exact Below.refl _ _ | exact (Below.refl _ _).drew)).mono ?_); rintro e w4 he; obtain ⟨a', c', rfl, hst', hok', hbb⟩ := HFE.out _ _ _ he; clear he; have z4 : Below w2.heap.size w2 w4 := (by first | exact hbb | exact ((Below.refl _ _).drew).trans hbb); have KS := Lib.hid hst'; have KB := Lib.hid z4; have hz4 := z4.size; obtain ⟨m4, m5, m6, m7, m8, m9, mA⟩ := keep7 HKE.out z4; clear hbb))
        all_goals
          go_wp2_with fail
          go_meet
          first
            | exact ⟨_, a', c', rfl, rfl, Lib.hid ⟨KQ.out.put _ _ _, KS.out.put3 KQ.out _ _ _, hok', Nat.le_refl _, below3 KB.out (Nat.le_refl _) _ _ _⟩⟩
            | exact ⟨_, a', c', rfl, rfl, Lib.hid ⟨SQ.new _ _ _ _ _, KS.out.old ((Below.refl _ _).alloc (Nat.le_refl _) _), hok', KB.out.size, KB.out.alloc KB.out.size _⟩⟩
      case rest =>
      obtain ⟨g, a', c', rfl, rfl, HG⟩ := hcut
      have HWC := Lib.hid (HW2.out.trans (HG.out.2.2.2.2.mono HW2.out.size))
      have HSC := Lib.hid (HS2.out.keep HG.out.2.2.2.2 (Nat.le_refl _))
      obtain ⟨⟨⟨q0, q1, q2, q3⟩, f0, f1, f2⟩, -⟩ := HSC.out.1
      obtain ⟨⟨⟨g0, g1, g2, g3⟩, -⟩, -⟩ := HG.out.1
      rw [← HSL.out.1] at q0
      rw [← HSL.out.2.1] at q1
      rw [← HSL.out.2.2] at q2
      by_cases h0 : NN = 0
      · subst h0
        have HNS : Hid (LS (((wc.setCell ⟨xs, 0, none⟩ (.slice a' L' c')).setCell ⟨xs, 1, none⟩ (.int .i64 G')).setCell ⟨xs, 2, none⟩ (.int .i64 X')) xs (k + 1) S' a' c') := Lib.hid (by
          obtain ⟨e1, e2, e3, e4, e5⟩ := HEQ.out
          rw [e1, e2, e3, e5]
          exact HSC.out.step e4.symm (by rw [← e5, ← e1]; exact HG.out.2.1) (by rw [← e5]; exact HG.out.2.2.1))
        have HNB := Lib.hid (below3 HWC.out HXS.out (.slice a' L' c') (.int .i64 G') (.int .i64 X'))
        go_wp2_with fail
        go_roundw
        case rel => exact ⟨k + 1, S', a', c', by go_num, by omega, HNS, HNB⟩
        case measure => simp [intOf]; omega
      · have HNS := Lib.hid (HSC.out.more (Nat.le_succ k))
        go_wp2_with fail
        go_roundw
        case rel => exact ⟨k + 1, s, sa, sc, by go_num, by omega, HNS, HWC⟩
        case measure => simp [intOf]; omega
    · obtain rfl : n = k := by omega
      have HKB := Lib.hid (And.intro ((HW.out.cell (p := ⟨xk, 0, none⟩) HK0.out.2.2.2).trans HK0.out.1) (And.intro ((HW.out.cell (p := ⟨xk, 1, none⟩) HK0.out.2.2.2).trans HK0.out.2.1) (And.intro ((HW.out.cell (p := ⟨xk, 2, none⟩) HK0.out.2.2.2).trans HK0.out.2.2.1) (Nat.lt_of_lt_of_le HK0.out.2.2.2 HW.out.size))))
      obtain ⟨y0, y1, y2, y3⟩ := HKB.out
      go_wp2_with fail
      go_quiet (fail)
      have bd : Below wr.heap.size wr (wr.drewN nq) := below_drewN (Below.refl _ _) _
      have HD := Lib.hid (HW.out.trans (bd.mono HW.out.size))
      have HSD := Lib.hid (HS.out.keep bd (Nat.le_refl _))
      generalize wr.drewN nq = wd at *
      clear y0 y1 y2 y3 bd HKB HK0
      obtain ⟨c, hcc⟩ : ∃ c, c = (decide (A.size ≤ 100) && decide (B.size ≤ 100) && decide (C.size ≤ 100) && !ltB B A && !ltB C B) := ⟨_, rfl⟩
      go_upto_region 13 with fail
      go_cut [80] from 58 to 80 (fun s80 wx => s80 = .bool (!c) ∧ wx = wd)
      case first =>
        by_cases hA : A.size ≤ 100
        case neg =>
          have hAi : (100 : Int) < (A.size : Int) := by omega
          obtain rfl : c = false := by rw [hcc]; simp [hA]
          clear hcc
          go_wp2_with fail
          go_meet
          case rel => exact ⟨rfl, rfl⟩
        have hAi : ¬ (100 : Int) < (A.size : Int) := by omega
        by_cases hB : B.size ≤ 100
        case neg =>
          have hBi : (100 : Int) < (B.size : Int) := by omega
          obtain rfl : c = false := by rw [hcc]; simp [hB]
          clear hcc
          go_wp2_with fail
          go_meet
          case rel => exact ⟨rfl, rfl⟩
        have hBi : ¬ (100 : Int) < (B.size : Int) := by omega
        by_cases hC : C.size ≤ 100
        case neg =>
          have hCi : (100 : Int) < (C.size : Int) := by omega
          obtain rfl : c = false := by rw [hcc]; simp [hC]
          clear hcc
          go_wp2_with fail
          go_meet
          case rel => exact ⟨rfl, rfl⟩
        have hCi : ¬ (100 : Int) < (C.size : Int) := by omega
        have hc2 : c = (!ltB B A && !ltB C B) := by rw [hcc]; simp [hA, hB, hC]
        clear hcc
        rcases cmp3 A B with ⟨p1, p2, p3, p4⟩ | ⟨p1, p2, p3, p4⟩ | ⟨p1, p2, p3, p4⟩
        case inr.inl =>
          obtain rfl : c = false := by rw [hc2, show ltB B A = true from p2]; rfl
          clear hc2
          go_wp2_with fail
          go_meet
          case rel => exact ⟨rfl, rfl⟩
        all_goals
          rcases cmp3 B C with ⟨r1, r2, r3, r4⟩ | ⟨r1, r2, r3, r4⟩ | ⟨r1, r2, r3, r4⟩
          all_goals
            have hc3 : c = !ltB C B := by rw [hc2, show ltB B A = false from p2]; rfl
            have hc4 : ltB C B = Op.bytesLess C.toList B.toList := rfl
            rw [hc4, r2] at hc3
            simp only [Bool.not_true, Bool.not_false] at hc3
            subst hc3
            clear hc2 hc4
            go_wp2_with fail
            go_meet
            case rel => exact ⟨rfl, rfl⟩
      case rest =>
      obtain ⟨rfl, rfl⟩ := hcut
      cases c with
      | false =>
        clear hcc
        go_wp2_with fail
        refine (awake12_any wc).mono ?_
        rintro e' wz ⟨rfl, hbz⟩
        have HBZ := Lib.hid (HD.out.trans (hbz.mono HD.out.size))
        clear hbz
        go_wp2_with fail
        go_ret
        exact ⟨rfl, HB1.out.trans (HBZ.out.mono HB1.out.size)⟩
      | true =>
      have hab : ltB B A = false := by cases q : ltB B A with | false => rfl | true => rw [q] at hcc; simp at hcc
      have hbc : ltB C B = false := by cases q : ltB C B with | false => rfl | true => rw [q] at hcc; simp at hcc
      have HAB := Lib.hid (And.intro hab hbc)
      clear hcc hab hbc
      obtain ⟨m, hm, hm2⟩ := low8 lv
      obtain ⟨v, hv⟩ : ∃ v, v = m % 3 := ⟨_, rfl⟩
      have e2 : (bits .and .i64 lv 255).tmod 3 = (v : Int) := by rw [hm, Int.tmod_eq_emod_of_nonneg (by omega), hv]; exact (Int.natCast_emod _ _).symm
      have hv2 : v ≤ 2 := by omega
      clear hv hm hm2
      go_upto_region 16 with fail
      clear e2
      have hsd : s.1.length ≤ 50000 := by have := HSD.out.2.2.2.2.1; omega
      have HPA := Lib.hid (ov_parts (v := (v : Int)) HSD.out.2.2.1 HAB.out.1 HAB.out.2)
      obtain ⟨X, hX⟩ : ∃ X, X = ovT s.1 (v : Int) A B := ⟨_, rfl⟩
      obtain ⟨Y, hY⟩ : ∃ Y, Y = ovT s.1 (v : Int) B C := ⟨_, rfl⟩
      obtain ⟨Z, hZ⟩ : ∃ Z, Z = ovT s.1 (v : Int) A C := ⟨_, rfl⟩
      have HF1 := Lib.hid fun (wx : World) (hx : Below wc.heap.size wc wx) => ov_any _ s (v : Int) A B wx (HSD.out.sv.old hx) hsd _ HSD.out.2.2.1
      have HF2 := Lib.hid fun (wx : World) (hx : Below wc.heap.size wc wx) => ov_any _ s (v : Int) B C wx (HSD.out.sv.old hx) hsd _ HSD.out.2.2.1
      have HF3 := Lib.hid fun (wx : World) (hx : Below wc.heap.size wc wx) => ov_any _ s (v : Int) A C wx (HSD.out.sv.old hx) hsd _ HSD.out.2.2.1
      rw [← hX, ← hY, ← hZ] at HPA
      rw [← hX] at HF1
      rw [← hY] at HF2
      rw [← hZ] at HF3
      have lX : X.length ≤ 50000 := by rw [hX]; exact Nat.le_trans (List.length_filter_le _ _) hsd
      have lY : Y.length ≤ 50000 := by rw [hY]; exact Nat.le_trans (List.length_filter_le _ _) hsd
      have lZ : Z.length ≤ 50000 := by rw [hZ]; exact Nat.le_trans (List.length_filter_le _ _) hsd
      clear hX hY hZ hsd
      obtain ⟨p, hp⟩ : ∃ p, p = X.length := ⟨_, rfl⟩
      obtain ⟨q, hq⟩ : ∃ q, q = Y.length := ⟨_, rfl⟩
      obtain ⟨r, hr⟩ : ∃ r, r = Z.length := ⟨_, rfl⟩
      have HE1 := Lib.hid fun x wa wb (hh : PT X wa x wb) => pt_out hp hh
      have HE2 := Lib.hid fun x wa wb (hh : PT Y wa x wb) => pt_out hq hh
      have HE3 := Lib.hid fun x wa wb (hh : PT Z wa x wb) => pt_out hr hh
      have HLN := Lib.hid (And.intro hp (And.intro hq hr))
      rw [← hp] at lX
      rw [← hq] at lY
      rw [← hr] at lZ
      clear hp hq hr
      obtain ⟨⟨⟨q0, q1, q2, q3⟩, -⟩, -⟩ := HSD.out.1
      obtain ⟨sl, hsl⟩ : ∃ sl, sl = s.1.length := ⟨_, rfl⟩
      obtain ⟨sg, hsg⟩ : ∃ sg, sg = s.2.1 := ⟨_, rfl⟩
      obtain ⟨sx, hsx⟩ : ∃ sx, sx = s.2.2 := ⟨_, rfl⟩
      rw [← hsl, ← hsg, ← hsx] at HF1 HF2 HF3
      rw [← hsl] at q0
      rw [← hsg] at q1
      rw [← hsx] at q2
      clear hsl hsg hsx
      have HKE := Lib.hid (And.intro q0 (And.intro q1 q2))
      go_cut [15, 16, 17] (fun s15 s16 s17 wx => ∃ a1 c1 a2 c2 a3 c3, s15 = .slice a1 p c1 ∧ s16 = .slice a2 q c2 ∧ s17 = .slice a3 r c3 ∧ Hid (ST wx a1 p c1 X ∧ ST wx a2 q c2 Y ∧ ST wx a3 r c3 Z ∧ Below wc.heap.size wc wx))
      case first =>
        go_region_held3 (fun w' => w'.cell? ⟨xs, 0, none⟩ = some (.slice sa sl sc) ∧ w'.cell? ⟨xs, 1, none⟩ = some (.int .i64 sg) ∧ w'.cell? ⟨xs, 2, none⟩ = some (.int .i64 sx))
          (first
            | assumption
            | exact HKE.out
            | exact keep3 HKE.out z4)
          (first
            | (go_at_call 22; (with_reducible refine (HF1.out _ (by first | exact z4 | exact Below.refl _ _ | exact (Below.refl _ _).drew)).mono ?_); rintro e w1 he; obtain ⟨a1, c1, rfl, K1, B1⟩ := HE1.out _ _ _ he; clear he; have KS1 := Lib.hid K1; have BS1 := Lib.hid B1; replace z4 : Below wc.heap.size wc w1 := (by first | exact z4.trans (B1.mono z4.size) | exact B1 | exact ((Below.refl _ _).drew).trans B1); obtain ⟨q0, q1, q2⟩ := keep3 HKE.out z4; clear K1 B1)
            | (go_at_call 22; (with_reducible refine (HF2.out _ (by first | exact z4 | exact Below.refl _ _ | exact (Below.refl _ _).drew)).mono ?_); rintro e w2 he; obtain ⟨a2, c2, rfl, K2, B2⟩ := HE2.out _ _ _ he; clear he; have KS2 := Lib.hid K2; have BS2 := Lib.hid B2; replace z4 : Below wc.heap.size wc w2 := (by first | exact z4.trans (B2.mono z4.size) | exact B2 | exact ((Below.refl _ _).drew).trans B2); obtain ⟨q0, q1, q2⟩ := keep3 HKE.out z4; clear K2 B2)
            | (go_at_call 22; (with_reducible refine (HF3.out _ (by first | exact z4 | exact Below.refl _ _ | exact (Below.refl _ _).drew)).mono ?_); rintro e w3 he; obtain ⟨a3, c3, rfl, K3, B3⟩ := HE3.out _ _ _ he; clear he; have KS3 := Lib.hid K3; have BS3 := Lib.hid B3; replace z4 : Below wc.heap.size wc w3 := (by first | exact z4.trans (B3.mono z4.size) | exact B3 | exact ((Below.refl _ _).drew).trans B3); obtain ⟨q0, q1, q2⟩ := keep3 HKE.out z4; clear K3 B3))
        all_goals
          go_wp2_with fail
          go_meet
          refine ⟨_, _, _, _, _, _, rfl, rfl, rfl, Lib.hid ⟨?_, ?_, ?_, z4⟩⟩
          · first | exact KS1.out | exact KS1.out.old BS2.out | exact KS1.out.old BS3.out | exact (KS1.out.old BS2.out).old BS3.out | exact (KS1.out.old BS3.out).old BS2.out
          · first | exact KS2.out | exact KS2.out.old BS1.out | exact KS2.out.old BS3.out | exact (KS2.out.old BS1.out).old BS3.out | exact (KS2.out.old BS3.out).old BS1.out
          · first | exact KS3.out | exact KS3.out.old BS1.out | exact KS3.out.old BS2.out | exact (KS3.out.old BS1.out).old BS2.out | exact (KS3.out.old BS2.out).old BS1.out
      case rest =>
      obtain ⟨a1, c1, a2, c2, a3, c3, rfl, rfl, rfl, HR⟩ := hcut
      have HDW := Lib.hid (HD.out.trans (HR.out.2.2.2.mono HD.out.size))
      clear HF1 HF2 HF3 HE1 HE2 HE3 HKE q0 q1 q2 q3
      go_wp2_with fail
      go_loopw [18, 19, 20, 21] (fun i _ _ _ wr => ∃ k : Nat, i = .int .i64 k ∧ k ≤ r ∧ Hid (Below wc.heap.size wc wr)) (fun i _ _ _ _ => r - (intOf i).toNat)
      case atStart => exact ⟨0, by first | rfl | go_num, by omega, Lib.hid (Below.refl _ _)⟩
      case round =>
        obtain ⟨k, rfl, hk, HW3⟩ := hrel
        by_cases hlt : k < r
        · have hki : (k : Int) < (r : Int) := by omega
          have hkl : k < Z.length := by rw [← HLN.out.2.2]; exact hlt
          obtain ⟨zb, zo, za, zlt, zc⟩ := HR.out.2.2.1.2.1.at_
          obtain rfl := za (by omega)
          have zlt := zlt (by omega)
          obtain ⟨F, hF⟩ : ∃ F, F = Z[k] := ⟨_, rfl⟩
          have HPF := Lib.hid (HPA.out.1 F (by rw [hF]; exact List.getElem_mem hkl))
          have HFF := Lib.hid hF
          have HZC := Lib.hid zc
          clear hF zc za
          go_wp2_with fail
          rename World => wo
          go_loopw [19, 20] (fun c j wr => ∃ (x : Nat) (c0 : Bool), c = .bool c0 ∧ j = .int .i64 x ∧ x ≤ p ∧ Hid (c0 = true ↔ F ∈ X.take x) ∧ Hid (Below wc.heap.size wc wr)) (fun _ j _ => p - (intOf j).toNat)
          case atStart => exact ⟨0, false, rfl, by first | rfl | go_num, by omega, Lib.hid (by simp), HW3⟩
          case round =>
            obtain ⟨x, c0, rfl, rfl, hx, HX, HW4⟩ := hrel
            by_cases hlt4 : x < p
            · have hxi : (x : Int) < (p : Int) := by omega
              have hxl : x < X.length := by rw [← HLN.out.1]; exact hlt4
              obtain ⟨xb, xo, xa, xlt, xc⟩ := HR.out.1.2.1.at_
              obtain rfl := xa (by omega)
              have xlt := xlt (by omega)
              obtain ⟨g0, g1, g2, g3⟩ := xc.old xlt HW4.out x hxl
              obtain ⟨h0, h1, h2, h3⟩ := HZC.out.old zlt HW4.out k hkl
              have hxr := Nat.lt_of_lt_of_le xlt HW4.out.size
              have hzr := Nat.lt_of_lt_of_le zlt HW4.out.size
              obtain ⟨E, hE⟩ : ∃ E, E = X[x] := ⟨_, rfl⟩
              rw [← hE] at g0 g1 g2 g3
              rw [← HFF.out] at h0 h1 h2 h3
              obtain ⟨d, hd⟩ : ∃ d, d = decide (E = F) := ⟨_, rfl⟩
              have heq := fun W => eq_tab E F W
              simp only [← hd] at heq
              have HN : Hid ((c0 || d) = true ↔ F ∈ X.take (x + 1)) := Lib.hid (by
                rw [List.take_succ_eq_append_getElem hxl, List.mem_append, List.mem_singleton, Bool.or_eq_true, HX.out, hd, decide_eq_true_eq, hE]
                exact or_congr Iff.rfl eq_comm)
              clear hE hd xc
              cases c0 with
              | true =>
                go_wp2_with fail
                go_quiet (fail)
                have HB5 := Lib.hid (HW4.out.trans ((below_drewN (Below.refl _ wr) nq).mono HW4.out.size))
                generalize wr.drewN nq = wd at *
                go_wp2_with fail
                go_roundw
                case rel => exact ⟨x + 1, true, rfl, by go_num, by omega, Lib.hid (by simpa using HN.out), HB5⟩
                case measure => simp [intOf]; omega
              | false =>
                go_wp2_with fail
                go_quiet (fail)
                have HB5 := Lib.hid (HW4.out.trans ((below_drewN (Below.refl _ wr) nq).mono HW4.out.size))
                generalize wr.drewN nq = wd at *
                go_wp2_with fail
                go_roundw
                case rel => exact ⟨x + 1, d, rfl, by go_num, by omega, Lib.hid (by simpa using HN.out), HB5⟩
                case measure => simp [intOf]; omega
            · obtain rfl : p = x := by omega
              have HX1 : Hid (c0 = true ↔ F ∈ X) := Lib.hid (by have := HX.out; rwa [HLN.out.1, List.take_length] at this)
              clear HX
              go_wp2_with fail
              rename World => wp
              go_loopw [19, 21] (fun c j wr => ∃ (x : Nat) (c0 : Bool), c = .bool c0 ∧ j = .int .i64 x ∧ x ≤ q ∧ Hid (c0 = true ↔ F ∈ X ∨ F ∈ Y.take x) ∧ Hid (Below wc.heap.size wc wr)) (fun _ j _ => q - (intOf j).toNat)
              case atStart => exact ⟨0, c0, rfl, by first | rfl | go_num, by omega, Lib.hid (by simp [HX1.out]), HW4⟩
              case round =>
                obtain ⟨x, c0, rfl, rfl, hx, HX, HW4⟩ := hrel
                by_cases hlt4 : x < q
                · have hxi : (x : Int) < (q : Int) := by omega
                  have hxl : x < Y.length := by rw [← HLN.out.2.1]; exact hlt4
                  obtain ⟨xb, xo, xa, xlt, xc⟩ := HR.out.2.1.2.1.at_
                  obtain rfl := xa (by omega)
                  have xlt := xlt (by omega)
                  obtain ⟨g0, g1, g2, g3⟩ := xc.old xlt HW4.out x hxl
                  obtain ⟨h0, h1, h2, h3⟩ := HZC.out.old zlt HW4.out k hkl
                  have hxr := Nat.lt_of_lt_of_le xlt HW4.out.size
                  have hzr := Nat.lt_of_lt_of_le zlt HW4.out.size
                  obtain ⟨E, hE⟩ : ∃ E, E = Y[x] := ⟨_, rfl⟩
                  rw [← hE] at g0 g1 g2 g3
                  rw [← HFF.out] at h0 h1 h2 h3
                  obtain ⟨d, hd⟩ : ∃ d, d = decide (E = F) := ⟨_, rfl⟩
                  have heq := fun W => eq_tab E F W
                  simp only [← hd] at heq
                  have HN : Hid ((c0 || d) = true ↔ F ∈ X ∨ F ∈ Y.take (x + 1)) := Lib.hid (by
                    rw [List.take_succ_eq_append_getElem hxl, List.mem_append, List.mem_singleton, Bool.or_eq_true, HX.out, hd, decide_eq_true_eq, hE, or_assoc]
                    exact or_congr Iff.rfl (or_congr Iff.rfl eq_comm))
                  clear hE hd xc
                  cases c0 with
                  | true =>
                    go_wp2_with fail
                    go_quiet (fail)
                    have HB5 := Lib.hid (HW4.out.trans ((below_drewN (Below.refl _ wr) nq).mono HW4.out.size))
                    generalize wr.drewN nq = wd at *
                    go_wp2_with fail
                    go_roundw
                    case rel => exact ⟨x + 1, true, rfl, by go_num, by omega, Lib.hid (by simpa using HN.out), HB5⟩
                    case measure => simp [intOf]; omega
                  | false =>
                    go_wp2_with fail
                    go_quiet (fail)
                    have HB5 := Lib.hid (HW4.out.trans ((below_drewN (Below.refl _ wr) nq).mono HW4.out.size))
                    generalize wr.drewN nq = wd at *
                    go_wp2_with fail
                    go_roundw
                    case rel => exact ⟨x + 1, d, rfl, by go_num, by omega, Lib.hid (by simpa using HN.out), HB5⟩
                    case measure => simp [intOf]; omega
                · obtain rfl : q = x := by omega
                  obtain rfl : c0 = true := by
                    refine HX.out.2 ?_
                    rw [HLN.out.2.1, List.take_length]
                    exact HPF.out.1
                  obtain ⟨h0, h1, h2, h3⟩ := HZC.out.old zlt HW4.out k hkl
                  have hzr := Nat.lt_of_lt_of_le zlt HW4.out.size
                  rw [← HFF.out] at h0 h1 h2 h3
                  obtain ⟨-, f1, f2, f3⟩ := HPF.out
                  rw [f1] at h1
                  have f2 : Op.bytesLess F.2.2.2.toList A.toList = false := f2
                  clear HX
                  rcases cmp3 F.2.2.1 C with ⟨p1, p2, p3, p4⟩ | ⟨p1, p2, p3, p4⟩ | ⟨p1, p2, p3, p4⟩
                  case inr.inl =>
                    have f3 : Op.bytesLess C.toList F.2.2.1.toList = false := f3
                    rw [p2] at f3
                    cases f3
                  all_goals
                    clear f1 f3
                    go_wp2_with fail
                    go_roundw
                    case rel => exact ⟨k + 1, by go_num, by omega, HW4⟩
                    case measure => simp [intOf]; omega
        · obtain rfl : r = k := by omega
          have hcnt : (p : Int) ≤ (r : Int) ∧ (q : Int) ≤ (r : Int) ∧ (r : Int) ≤ (p : Int) + (q : Int) := by
            obtain ⟨-, t1, t2, t3⟩ := HPA.out
            rw [← HLN.out.1, ← HLN.out.2.2] at t1
            rw [← HLN.out.2.1, ← HLN.out.2.2] at t2
            rw [← HLN.out.1, ← HLN.out.2.1, ← HLN.out.2.2] at t3
            omega
          obtain ⟨k1, k2, k3⟩ := hcnt
          have k4 : max (p : Int) (q : Int) ≤ (r : Int) := by omega
          have HBE := Lib.hid (HDW.out.trans (HW3.out.mono HDW.out.size))
          go_wp2_with fail
          refine (awake12_any wr).mono ?_
          rintro e' wz ⟨rfl, hbz⟩
          have HBZ := Lib.hid (HBE.out.trans (hbz.mono HBE.out.size))
          clear hbz
          go_wp2_with fail
          go_ret
          exact ⟨rfl, HB1.out.trans (HBZ.out.mono HB1.out.size)⟩
end Go.Proofs.Ytkpemlgolpihiaa
