/-
  Layer 12 (manifest): the walk of ManifestApplies. Conditions: none beyond the row's own.
-/
import Derived.Test.YtkpemlgolpihiaaZt
import Derived.BigRegion
import Derived.Test.YtkpemlgolpihiaaRH
import Derived.Test.YtkpemlgolpihiaaQt
import Derived.Deep.RegionHeld3
import Derived.Deep.DeepCutAuto
import Derived.Deep.CutRange
import Derived.Deep.CutBlock
import Derived.Deep.QuietTactic
import Derived.Laws.Cover1
import Derived.Laws.StructEq
import Derived.Lib.MinMax
namespace Go.Proofs.Ytkpemlgolpihiaa
set_option maxRecDepth 100000
open Go.RowKit
set_option linter.unusedVariables false
set_option linter.unusedSimpArgs false

theorem LS.other {w : World} {x y k : Nat} {s : St} {a : Option Addr} {c : Nat} {A : Value} {lg nx : Int} (h : LS w x k s a c) (hq : SQ w y A lg nx) (hne : x ≠ y) (u0 u1 u2 : Value) : LS (((w.setCell ⟨y, 0, none⟩ u0).setCell ⟨y, 1, none⟩ u1).setCell ⟨y, 2, none⟩ u2) x k s a c := by
  obtain ⟨⟨⟨⟨c0, c1, c2, c3⟩, f0, f1, f2⟩, hn⟩, h2, h3⟩ := h
  have hne' : ¬ y = x := fun e => hne e.symm
  refine ⟨⟨⟨⟨by simp [go_sem, hne, hne', c0], by simp [go_sem, hne, hne', c1], by simp [go_sem, hne, hne', c2], by simpa using c3⟩, by simpa using f0, by simpa using f1, by simpa using f2⟩, fun i hi => ?_⟩, h2.put3 hq _ _ _, h3⟩
  simp [go_sem, hne, hne', hn i hi]
theorem two_drew {w W : World} {x y k : Nat} {s : St} {a b : Option Addr} {c d : Nat} (h : LS W x k s a c ∧ LS W y k s b d ∧ Below w.heap.size w W) : LS W.drew x k s a c ∧ LS W.drew y k s b d ∧ Below w.heap.size w W.drew :=
  ⟨h.1.keep ((Below.refl W.heap.size W).drew) (Nat.le_refl _), h.2.1.keep ((Below.refl W.heap.size W).drew) (Nat.le_refl _), h.2.2.drew⟩
/-- Six cells of two blocks. -/
def Six (w : World) (g g2 : Nat) (u0 u1 u2 v0 v1 v2 : Value) : Prop := w.cell? ⟨g, 0, none⟩ = some u0 ∧ w.cell? ⟨g, 1, none⟩ = some u1 ∧ w.cell? ⟨g, 2, none⟩ = some u2 ∧ w.cell? ⟨g2, 0, none⟩ = some v0 ∧ w.cell? ⟨g2, 1, none⟩ = some v1 ∧ w.cell? ⟨g2, 2, none⟩ = some v2
theorem Six.put {w : World} {g g2 x : Nat} {u0 u1 u2 v0 v1 v2 a0 a1 a2 : Value} (h : Six w g g2 u0 u1 u2 v0 v1 v2) (h1 : ¬ x = g) (h2 : ¬ x = g2) : Six (((w.setCell ⟨x, 0, none⟩ a0).setCell ⟨x, 1, none⟩ a1).setCell ⟨x, 2, none⟩ a2) g g2 u0 u1 u2 v0 v1 v2 := by
  obtain ⟨c0, c1, c2, c3, c4, c5⟩ := h
  have h1' : ¬ g = x := fun e => h1 e.symm
  have h2' : ¬ g2 = x := fun e => h2 e.symm
  exact ⟨by simp [go_sem, h1, h1', c0], by simp [go_sem, h1, h1', c1], by simp [go_sem, h1, h1', c2], by simp [go_sem, h2, h2', c3], by simp [go_sem, h2, h2', c4], by simp [go_sem, h2, h2', c5]⟩
theorem Six.drew {w : World} {g g2 : Nat} {u0 u1 u2 v0 v1 v2 : Value} (h : Six w g g2 u0 u1 u2 v0 v1 v2) : Six w.drew g g2 u0 u1 u2 v0 v1 v2 := h
theorem LS.step' {w : World} {x k : Nat} {s : St} {a a' : Option Addr} {c c' L : Nat} {e : Ed} {S' : St} {G X : Int} (h : LS w x k s a c) (hS : S' = apS s e) (hL : L = S'.1.length) (hG : G = S'.2.1) (hX : X = S'.2.2) (h0 : apN s e = 0) (hst : ST w a' L c' S'.1) (hok : okT S'.1) :
    LS (((w.setCell ⟨x, 0, none⟩ (.slice a' L c')).setCell ⟨x, 1, none⟩ (.int .i64 G)).setCell ⟨x, 2, none⟩ (.int .i64 X)) x (k + 1) S' a' c' := by
  subst hL hG hX hS
  exact h.step h0 hst hok
set_option maxRecDepth 1000000 in
set_option maxHeartbeats 16000000 in
theorem walk_ManifestApplies (a : Option Addr) (n cap : Nat) (es : List Ed) (lo : ByteArray) (hlo : lo.size ≤ 140737488351232) (hi : ByteArray) (hhi : hi.size ≤ 140737488351232) (w : World) (h : SEd w a n cap es) :
    Calls Try.prog 4 #[.slice a n cap, .string lo, .string hi] w fun x w' => x = .returned (.bool true) ∧ Below w.heap.size w w' := by
  obtain ⟨b, off, ha, hb, hc⟩ := h.2.1.at_
  have hl := h.1
  rw [hl] at ha hb
  have HC := Lib.hid fun (_ : 0 < n) => hc
  have HL := Lib.hid hl
  have HB1 := Lib.hid (Below.refl w.heap.size w)
  have HR1 := Lib.hid (Below.refl w.heap.size w)
  clear hc hl
  go_enter Try.func4, Try.ntmps4
  by_cases hn : n ≤ 20
  case neg =>
    have hni : (20 : Int) < (n : Int) := by omega
    go_wp2_with fail
    refine (awake12_any w).mono ?_
    rintro e' wz ⟨rfl, hbz⟩
    have HBZ := Lib.hid (HR1.out.trans (hbz.mono HR1.out.size))
    clear hbz
    go_wp2_with fail
    go_ret
    exact ⟨rfl, HB1.out.trans (HBZ.out.mono HB1.out.size)⟩
  have hni : ¬ (20 : Int) < (n : Int) := by omega
  by_cases hlo2 : lo.size ≤ 100
  case neg =>
    have hloi : (100 : Int) < (lo.size : Int) := by omega
    go_wp2_with fail
    refine (awake12_any w).mono ?_
    rintro e' wz ⟨rfl, hbz⟩
    have HBZ := Lib.hid (HR1.out.trans (hbz.mono HR1.out.size))
    clear hbz
    go_wp2_with fail
    go_ret
    exact ⟨rfl, HB1.out.trans (HBZ.out.mono HB1.out.size)⟩
  have hloi : ¬ (100 : Int) < (lo.size : Int) := by omega
  by_cases hhi2 : hi.size ≤ 100
  case neg =>
    have hhii : (100 : Int) < (hi.size : Int) := by omega
    go_wp2_with fail
    refine (awake12_any w).mono ?_
    rintro e' wz ⟨rfl, hbz⟩
    have HBZ := Lib.hid (HR1.out.trans (hbz.mono HR1.out.size))
    clear hbz
    go_wp2_with fail
    go_ret
    exact ⟨rfl, HB1.out.trans (HBZ.out.mono HB1.out.size)⟩
  have hhii : ¬ (100 : Int) < (hi.size : Int) := by omega
  have hs0 := (LS.zero w 38).keep (box_bel (w.alloc (.cells #[.slice none 0 0, .int .i64 0, .int .i64 0] 38)) (.cells #[.slice none 0 0, .int .i64 0, .int .i64 0] 38)) (Nat.le_refl _)
  have ht0 := LS.zero (w.alloc (.cells #[.slice none 0 0, .int .i64 0, .int .i64 0] 38)) 38
  have b2 := (box_bel w (.cells #[.slice none 0 0, .int .i64 0, .int .i64 0] 38)).trans ((box_bel (w.alloc (.cells #[.slice none 0 0, .int .i64 0, .int .i64 0] 38)) (.cells #[.slice none 0 0, .int .i64 0, .int .i64 0] 38)).mono (box_bel w _).size)
  have k1 : (w.alloc (.cells #[.slice none 0 0, .int .i64 0, .int .i64 0] 38)).heap.size = w.heap.size + 1 := by simp [go_sem]
  rw [k1] at ht0
  clear k1
  go_upto_region 4 with fail
  obtain ⟨xs, hxs⟩ : ∃ xs, xs = w.heap.size := ⟨_, rfl⟩
  rw [← hxs] at hs0 ht0 ⊢
  obtain ⟨xq, hxq⟩ : ∃ xq, xq = xs + 1 := ⟨_, rfl⟩
  rw [← hxq] at ht0 ⊢
  have hx1 : w.heap.size ≤ xs := by omega
  have hx2 : w.heap.size ≤ xq := by omega
  have hxne : xs ≠ xq := by omega
  clear hxs hxq
  generalize (w.alloc (.cells #[.slice none 0 0, .int .i64 0, .int .i64 0] 38)).alloc (.cells #[.slice none 0 0, .int .i64 0, .int .i64 0] 38) = w0 at *
  have HS0 := Lib.hid hs0
  have HT0 := Lib.hid ht0
  have HB0 := Lib.hid b2
  have HXS := Lib.hid (And.intro hx1 (And.intro hx2 hxne))
  clear hs0 ht0 b2 hxne
  go_wp2_with fail
  go_loopw [9, 10, 11, 12, 13, 14] (fun i _ _ _ _ _ wr => ∃ (k : Nat) (s : St) (sa : Option Addr) (sc : Nat) (ra : Option Addr) (rc : Nat), i = .int .i64 k ∧ k ≤ n ∧ Hid (LS wr xs k s sa sc) ∧ Hid (LS wr xq k s ra rc) ∧ Hid (Below w.heap.size w wr)) (fun i _ _ _ _ _ _ => n - (intOf i).toNat)
  case atStart => exact ⟨0, ([], 0, 0), none, 0, none, 0, by first | rfl | go_num, by omega, HS0, HT0, HB0⟩
  case round =>
    obtain ⟨k, s, sa, sc, ra, rc, rfl, hk, HS, HRS, HW⟩ := hrel
    by_cases hlt : k < n
    · have hki : (k : Int) < (n : Int) := by omega
      obtain rfl := ha (by omega)
      have hbw := hb (by omega)
      have hkl : k < es.length := by rw [HL.out]; exact hlt
      obtain ⟨aa, an, ac, da, dn, dc, c0, c1, c2, c3, hev⟩ := ((HC.out (by omega)).old hbw HW.out) k hkl
      obtain ⟨E, hE⟩ : ∃ E, E = es[k] := ⟨_, rfl⟩
      rw [← hE] at c2 c3 hev
      have hbr : b < wr.heap.size := Nat.lt_of_lt_of_le hbw HW.out.size
      obtain ⟨lg, hlg⟩ : ∃ lg, lg = E.2.2.1 := ⟨_, rfl⟩
      obtain ⟨nx, hnx⟩ : ∃ nx, nx = E.2.2.2 := ⟨_, rfl⟩
      rw [← hlg] at c2 hev
      rw [← hnx] at c3 hev
      have HEV := Lib.hid hev
      have HLI := Lib.hid (light12_any _ _ _ hev)
      obtain ⟨lt, hlt2⟩ : ∃ lt, lt = liteEd E := ⟨_, rfl⟩
      rw [← hlt2] at HLI
      have HCE := Lib.hid (And.intro c0 (And.intro c1 (And.intro c2 c3)))
      clear hE hlg hnx hev hlt2
      go_wp2_with fail
      refine HLI.out.mono ?_
      rintro e' w2 ⟨rfl, hb2⟩
      have HB2 := Lib.hid hb2
      have HW2 := Lib.hid (HW.out.trans (hb2.mono HW.out.size))
      clear hb2 HLI
      cases lt with
      | false =>
        clear c0 c1 c2 c3
        go_wp2_with fail
        refine (awake12_any w2).mono ?_
        rintro e' wz ⟨rfl, hbz⟩
        have HBZ := Lib.hid (HW2.out.trans (hbz.mono HW2.out.size))
        clear hbz
        go_wp2_with fail
        go_ret
        exact ⟨rfl, HB1.out.trans (HBZ.out.mono HB1.out.size)⟩
      | true =>
      have HCE2 := Lib.hid (And.intro ((HB2.out.cell (p := ⟨b, off + k * 4, none⟩) hbr).trans HCE.out.1) (And.intro ((HB2.out.cell (p := ⟨b, off + k * 4 + 1, none⟩) hbr).trans HCE.out.2.1) (And.intro ((HB2.out.cell (p := ⟨b, off + k * 4 + 2, none⟩) hbr).trans HCE.out.2.2.1) ((HB2.out.cell (p := ⟨b, off + k * 4 + 3, none⟩) hbr).trans HCE.out.2.2.2))))
      have HS2 := Lib.hid (HS.out.keep HB2.out (Nat.le_refl _))
      have HEV2 := Lib.hid (HEV.out.old HB2.out)
      clear c0 c1 c2 c3
      obtain ⟨c0, c1, c2, c3⟩ := HCE2.out
      obtain ⟨q0, q1, q2, q3⟩ := HS2.out.1.1.1
      obtain ⟨NN, hNN⟩ : ∃ NN, NN = apN s E := ⟨_, rfl⟩
      obtain ⟨S', hS'⟩ : ∃ S', S' = apS s E := ⟨_, rfl⟩
      have hx2 : xs < w2.heap.size := HS2.out.1.lt
      have HKE := Lib.hid (And.intro q0 (And.intro q1 (And.intro q2 HCE2.out)))
      have HF := Lib.hid fun (wx : World) (hx : Below w2.heap.size w2 wx) => apply12_any _ _ s E wx (HS2.out.sv.old hx) (HEV2.out.old hx) HS2.out.2.2.1 (by have := HS2.out.2.2.2.2.1; omega)
      have HFE : Hid (∀ x wa wb, APe s E wa x wb → ∃ a' c', x = .returned (.tuple #[.agg #[.slice a' S'.1.length c', .int .i64 S'.2.1, .int .i64 S'.2.2], .int .i64 NN]) ∧ ST wb a' S'.1.length c' S'.1 ∧ okT S'.1 ∧ Below wa.heap.size wa wb) := Lib.hid (by
        rintro x wa wb ⟨V, rfl, ⟨a', m', c', rfl, hst, hok⟩, hbb⟩
        rw [hNN, hS']
        obtain rfl := hst.1
        exact ⟨a', c', rfl, hst, hok, hbb⟩)
      obtain ⟨sl, hsl⟩ : ∃ sl, sl = s.1.length := ⟨_, rfl⟩
      obtain ⟨sg, hsg⟩ : ∃ sg, sg = s.2.1 := ⟨_, rfl⟩
      obtain ⟨sx, hsx⟩ : ∃ sx, sx = s.2.2 := ⟨_, rfl⟩
      rw [← hsl, ← hsg, ← hsx] at HF HKE
      rw [← hsl] at q0
      rw [← hsg] at q1
      rw [← hsx] at q2
      obtain ⟨L', hL'⟩ : ∃ L', L' = S'.1.length := ⟨_, rfl⟩
      obtain ⟨G', hG'⟩ : ∃ G', G' = S'.2.1 := ⟨_, rfl⟩
      obtain ⟨X', hX'⟩ : ∃ X', X' = S'.2.2 := ⟨_, rfl⟩
      rw [← hL', ← hG', ← hX'] at HFE
      have HEQ := Lib.hid (And.intro hL' (And.intro hG' (And.intro hX' (And.intro hNN hS'))))
      have HSL := Lib.hid (And.intro hsl (And.intro hsg hsx))
      clear hsl hsg hsx hL' hG' hX' hNN hS'
      have hbr2 : b < w2.heap.size := Nat.lt_of_lt_of_le hbr HB2.out.size
      go_upto_region 9 with fail
      go_cut [10, 11] (fun s9 s10 wx => ∃ g a' c', s9 = .pointer (some ⟨g, 0, none⟩) ∧ s10 = .int .i64 NN ∧ Hid (SQ wx g (.slice a' L' c') G' X' ∧ ST wx a' L' c' S'.1 ∧ okT S'.1 ∧ w2.heap.size ≤ g ∧ Below w2.heap.size w2 wx))
      case first =>
        go_region_held3 (fun w' => w'.cell? ⟨xs, 0, none⟩ = some (.slice sa sl sc) ∧ w'.cell? ⟨xs, 1, none⟩ = some (.int .i64 sg) ∧ w'.cell? ⟨xs, 2, none⟩ = some (.int .i64 sx) ∧ w'.cell? ⟨b, off + k * 4, none⟩ = some (.slice aa an ac) ∧ w'.cell? ⟨b, off + k * 4 + 1, none⟩ = some (.slice da dn dc) ∧ w'.cell? ⟨b, off + k * 4 + 2, none⟩ = some (.int .i64 lg) ∧ w'.cell? ⟨b, off + k * 4 + 3, none⟩ = some (.int .i64 nx))
          (first
            | assumption
            | exact HKE.out
            | (refine keep7 HKE.out ?_
               repeat (first | assumption | exact Below.refl _ _ | (refine Below.alloc ?_ ?_ _) | (refine Below.setCell ?_ ?_ _) | (refine Below.drew ?_))
               all_goals (first | omega | (simp; done) | (simp; omega))))
          (first
            | (go_at_call 18; (with_reducible refine (HF.out _ (by first | exact Below.refl _ _ | exact (Below.refl _ _).drew | exact (Below.refl _ _).alloc (Nat.le_refl _) _ | exact ((Below.refl _ _).alloc (Nat.le_refl _) _).drew)).mono ?_); rintro e w4 he; obtain ⟨a', c', rfl, hst', hok', hbb⟩ := HFE.out _ _ _ he; clear he; have hq : SQ w4 _ (.slice none 0 0) 0 0 ∧ Below _ _ w4 := (by with_reducible exact sq_after hbb); obtain ⟨hqq, z4⟩ := hq; have KQ := Lib.hid hqq; have KS := Lib.hid hst'; have KB := Lib.hid z4; have hz4 := z4.size; obtain ⟨⟨⟨m0, m1, m2, m3⟩, f0, f1, f2⟩, -⟩ := hqq; obtain ⟨m4, m5, m6, m7, m8, m9, mA⟩ := keep7 HKE.out z4; clear hbb)
            | (go_at_call 18; (with_reducible refine (HF.out _ (by first | exact Below.refl _ _ | exact (Below.refl _ _).drew | exact (Below.refl _ _).alloc (Nat.le_refl _) _ | exact ((Below.refl _ _).alloc (Nat.le_refl _) _).drew)).mono ?_); rintro e w4 he; obtain ⟨a', c', rfl, hst', hok', hbb⟩ := HFE.out _ _ _ he; clear he; have hq : SQ w4 _ (.slice none 0 0) 0 0 ∧ Below _ _ w4 := (by with_reducible exact sq_afterd hbb); obtain ⟨hqq, z4⟩ := hq; have KQ := Lib.hid hqq; have KS := Lib.hid hst'; have KB := Lib.hid z4; have hz4 := z4.size; obtain ⟨⟨⟨m0, m1, m2, m3⟩, f0, f1, f2⟩, -⟩ := hqq; obtain ⟨m4, m5, m6, m7, m8, m9, mA⟩ := keep7 HKE.out z4; clear hbb)
            | (go_at_call 18; (with_reducible refine (HF.out _ (by first | exact Below.refl _ _ | exact (Below.refl _ _).drew)).mono ?_); rintro e w4 he; obtain ⟨a', c', rfl, hst', hok', hbb⟩ := HFE.out _ _ _ he; clear he; have z4 : Below w2.heap.size w2 w4 := (by first | exact hbb | exact ((Below.refl _ _).drew).trans hbb); have KS := Lib.hid hst'; have KB := Lib.hid z4; have hz4 := z4.size; obtain ⟨m4, m5, m6, m7, m8, m9, mA⟩ := keep7 HKE.out z4; clear hbb))
        all_goals
          go_wp2_with fail
          go_meet
          first
            | exact ⟨_, a', c', rfl, rfl, Lib.hid ⟨KQ.out.put _ _ _, KS.out.put3 KQ.out _ _ _, hok', Nat.le_refl _, below3 KB.out (Nat.le_refl _) _ _ _⟩⟩
            | exact ⟨_, a', c', rfl, rfl, Lib.hid ⟨SQ.new _ _ _ _ _, KS.out.old ((Below.refl _ _).alloc (Nat.le_refl _) _), hok', KB.out.size, KB.out.alloc KB.out.size _⟩⟩
      case rest =>
      obtain ⟨g, a', c', rfl, rfl, HG⟩ := hcut
      have HWC := Lib.hid (HW2.out.trans (HG.out.2.2.2.2.mono HW2.out.size))
      have HSC := Lib.hid (HS2.out.keep HG.out.2.2.2.2 (Nat.le_refl _))
      obtain ⟨⟨⟨q0, q1, q2, q3⟩, f0, f1, f2⟩, -⟩ := HSC.out.1
      obtain ⟨⟨⟨g0, g1, g2, g3⟩, -⟩, -⟩ := HG.out.1
      rw [← HSL.out.1] at q0
      rw [← HSL.out.2.1] at q1
      rw [← HSL.out.2.2] at q2
      rename World => wm
      clear q0 q1 q2 q3 f0 f1 f2 g0 g1 g2 g3 c0 c1 c2 c3 HF
      have HRM := Lib.hid ((HRS.out.keep HB2.out (Nat.le_refl _)).keep HG.out.2.2.2.2 (Nat.le_refl _))
      have hbr3 : b < wm.heap.size := Nat.lt_of_lt_of_le hbr2 HG.out.2.2.2.2.size
      have HCM := Lib.hid (And.intro ((HG.out.2.2.2.2.cell (p := ⟨b, off + k * 4, none⟩) hbr2).trans HCE2.out.1) (And.intro ((HG.out.2.2.2.2.cell (p := ⟨b, off + k * 4 + 1, none⟩) hbr2).trans HCE2.out.2.1) (And.intro ((HG.out.2.2.2.2.cell (p := ⟨b, off + k * 4 + 2, none⟩) hbr2).trans HCE2.out.2.2.1) ((HG.out.2.2.2.2.cell (p := ⟨b, off + k * 4 + 3, none⟩) hbr2).trans HCE2.out.2.2.2))))
      have HEM := Lib.hid (HEV2.out.old HG.out.2.2.2.2)
      obtain ⟨c0, c1, c2, c3⟩ := HCM.out
      obtain ⟨q0, q1, q2, q3⟩ := HRM.out.1.1.1
      have HFR := Lib.hid fun (wx : World) (hx : Below wm.heap.size wm wx) => rapply12_any _ _ s E wx (HRM.out.sv.old hx) (HEM.out.old hx) HRM.out.2.2.1 (by have := HRM.out.2.2.2.2.1; omega)
      rw [← HSL.out.1, ← HSL.out.2.1, ← HSL.out.2.2] at HFR
      rw [← HSL.out.1] at q0
      rw [← HSL.out.2.1] at q1
      rw [← HSL.out.2.2] at q2
      have HKR := Lib.hid (And.intro q0 (And.intro q1 (And.intro q2 HCM.out)))
      have hx2 : xq < wm.heap.size := HRM.out.1.lt
      go_upto_region 10 with fail
      go_cut [12, 13] (fun s9 s10 wx => ∃ g ax cx, s9 = .pointer (some ⟨g, 0, none⟩) ∧ s10 = .int .i64 NN ∧ Hid (SQ wx g (.slice ax L' cx) G' X' ∧ ST wx ax L' cx S'.1 ∧ okT S'.1 ∧ wm.heap.size ≤ g ∧ Below wm.heap.size wm wx))
      case first =>
        go_region_held3 (fun w' => w'.cell? ⟨xq, 0, none⟩ = some (.slice ra sl rc) ∧ w'.cell? ⟨xq, 1, none⟩ = some (.int .i64 sg) ∧ w'.cell? ⟨xq, 2, none⟩ = some (.int .i64 sx) ∧ w'.cell? ⟨b, off + k * 4, none⟩ = some (.slice aa an ac) ∧ w'.cell? ⟨b, off + k * 4 + 1, none⟩ = some (.slice da dn dc) ∧ w'.cell? ⟨b, off + k * 4 + 2, none⟩ = some (.int .i64 lg) ∧ w'.cell? ⟨b, off + k * 4 + 3, none⟩ = some (.int .i64 nx))
          (first
            | assumption
            | exact HKR.out
            | (refine keep7 HKR.out ?_
               repeat (first | assumption | exact Below.refl _ _ | (refine Below.alloc ?_ ?_ _) | (refine Below.setCell ?_ ?_ _) | (refine Below.drew ?_))
               all_goals (first | omega | (simp; done) | (simp; omega))))
          (first
            | (go_at_call 19; (with_reducible refine (HFR.out _ (by first | exact Below.refl _ _ | exact (Below.refl _ _).drew | exact (Below.refl _ _).alloc (Nat.le_refl _) _ | exact ((Below.refl _ _).alloc (Nat.le_refl _) _).drew)).mono ?_); rintro e w4 he; obtain ⟨ax, cx, rfl, hst', hok', hbb⟩ := HFE.out _ _ _ he; clear he; have hq : SQ w4 _ (.slice none 0 0) 0 0 ∧ Below _ _ w4 := (by with_reducible exact sq_after hbb); obtain ⟨hqq, z4⟩ := hq; have KQ := Lib.hid hqq; have KS := Lib.hid hst'; have KB := Lib.hid z4; have hz4 := z4.size; obtain ⟨⟨⟨m0, m1, m2, m3⟩, f0, f1, f2⟩, -⟩ := hqq; obtain ⟨m4, m5, m6, m7, m8, m9, mA⟩ := keep7 HKR.out z4; clear hbb)
            | (go_at_call 19; (with_reducible refine (HFR.out _ (by first | exact Below.refl _ _ | exact (Below.refl _ _).drew | exact (Below.refl _ _).alloc (Nat.le_refl _) _ | exact ((Below.refl _ _).alloc (Nat.le_refl _) _).drew)).mono ?_); rintro e w4 he; obtain ⟨ax, cx, rfl, hst', hok', hbb⟩ := HFE.out _ _ _ he; clear he; have hq : SQ w4 _ (.slice none 0 0) 0 0 ∧ Below _ _ w4 := (by with_reducible exact sq_afterd hbb); obtain ⟨hqq, z4⟩ := hq; have KQ := Lib.hid hqq; have KS := Lib.hid hst'; have KB := Lib.hid z4; have hz4 := z4.size; obtain ⟨⟨⟨m0, m1, m2, m3⟩, f0, f1, f2⟩, -⟩ := hqq; obtain ⟨m4, m5, m6, m7, m8, m9, mA⟩ := keep7 HKR.out z4; clear hbb)
            | (go_at_call 19; (with_reducible refine (HFR.out _ (by first | exact Below.refl _ _ | exact (Below.refl _ _).drew)).mono ?_); rintro e w4 he; obtain ⟨ax, cx, rfl, hst', hok', hbb⟩ := HFE.out _ _ _ he; clear he; have z4 : Below wm.heap.size wm w4 := (by first | exact hbb | exact ((Below.refl _ _).drew).trans hbb); have KS := Lib.hid hst'; have KB := Lib.hid z4; have hz4 := z4.size; obtain ⟨m4, m5, m6, m7, m8, m9, mA⟩ := keep7 HKR.out z4; clear hbb))
        all_goals
          go_wp2_with fail
          go_meet
          first
            | exact ⟨_, ax, cx, rfl, rfl, Lib.hid ⟨KQ.out.put _ _ _, KS.out.put3 KQ.out _ _ _, hok', Nat.le_refl _, below3 KB.out (Nat.le_refl _) _ _ _⟩⟩
            | exact ⟨_, ax, cx, rfl, rfl, Lib.hid ⟨SQ.new _ _ _ _ _, KS.out.old ((Below.refl _ _).alloc (Nat.le_refl _) _), hok', KB.out.size, KB.out.alloc KB.out.size _⟩⟩
      case rest =>
      obtain ⟨g2, ax, cx, rfl, rfl, HG2⟩ := hcut
      have HWD := Lib.hid (HWC.out.trans (HG2.out.2.2.2.2.mono HWC.out.size))
      have HSD := Lib.hid (HSC.out.keep HG2.out.2.2.2.2 (Nat.le_refl _))
      have HRD := Lib.hid (HRM.out.keep HG2.out.2.2.2.2 (Nat.le_refl _))
      have HGD := Lib.hid (HG.out.1.keep HG2.out.2.2.2.2 HG.out.1.lt)
      have HTD := Lib.hid (HG.out.2.1.old HG2.out.2.2.2.2)
      obtain ⟨⟨⟨v0, v1, v2, v3⟩, -⟩, -⟩ := HGD.out
      obtain ⟨⟨⟨u0, u1, u2, u3⟩, -⟩, -⟩ := HG2.out.1
      have HSM := Lib.hid (samest_any (.agg #[.slice a' L' c', .int .i64 G', .int .i64 X']) (.agg #[.slice ax L' cx, .int .i64 G', .int .i64 X']) S' wc ⟨a', L', c', by rw [HEQ.out.2.1, HEQ.out.2.2.1], HTD.out, HG.out.2.2.1⟩ ⟨ax, L', cx, by rw [HEQ.out.2.1, HEQ.out.2.2.1], HG2.out.2.1, HG.out.2.2.1⟩)
      have hgs : g < wc.heap.size := HGD.out.lt
      clear c0 c1 c2 c3 q0 q1 q2 q3 hbr3 HFR HKR
      go_upto_region 11 with fail
      go_wp2_with fail
      refine HSM.out.mono ?_
      rintro e' we ⟨rfl, hbe⟩
      have HWE := Lib.hid (HWD.out.trans (hbe.mono HWD.out.size))
      have HSE := Lib.hid (HSD.out.keep hbe (Nat.le_refl _))
      have HRE := Lib.hid (HRD.out.keep hbe (Nat.le_refl _))
      have HGE := Lib.hid (HGD.out.keep hbe HGD.out.lt)
      have HGF := Lib.hid (HG2.out.1.keep hbe HG2.out.1.lt)
      have HTE := Lib.hid (HTD.out.old hbe)
      have HTF := Lib.hid (HG2.out.2.1.old hbe)
      clear hbe HSM v0 v1 v2 v3 u0 u1 u2 u3
      by_cases h0 : NN = 0
      case neg =>
        have HA1 := Lib.hid (HSE.out.more (Nat.le_succ k))
        have HA2 := Lib.hid (HRE.out.more (Nat.le_succ k))
        have HWW := HWE
        rename World => wc
        go_wp2_with fail
        rw [show (NN == 0) = false from by simp [h0]]
        go_loopw [14] (fun v wr => ∃ y : Int, v = .int .i64 y ∧ -1 ≤ y ∧ y ≤ 4 ∧ Hid (Below wc.heap.size wc wr)) (fun v _ => (4 - intOf v).toNat)
        case atStart => exact ⟨-1, by first | rfl | go_num, by omega, by omega, Lib.hid (Below.refl _ _)⟩
        case round =>
          obtain ⟨y, rfl, hy1, hy2, HW4⟩ := hrel
          have HA3 := Lib.hid (HA1.out.keep HW4.out (Nat.le_refl _))
          have HA4 := Lib.hid (HA2.out.keep HW4.out (Nat.le_refl _))
          by_cases hlty : y < 4
          · obtain ⟨⟨⟨q0, q1, q2, q3⟩, -⟩, -⟩ := HA3.out.1
            obtain ⟨⟨⟨p0, p1, p2, p3⟩, -⟩, -⟩ := HA4.out.1
            have htl : s.1.length ≤ 50000 := by have := HA3.out.2.2.2.2.1; omega
            have HF1 := Lib.hid fun (wx : World) (hx : Below wr.heap.size wr wx) => ov_any _ s y lo hi wx (HA3.out.sv.old hx) htl _ HA3.out.2.2.1
            have HF2 := Lib.hid fun (wx : World) (hx : Below wr.heap.size wr wx) => rov_any _ s y lo hi wx (HA4.out.sv.old hx) htl
            obtain ⟨X, hX⟩ : ∃ X, X = ovT s.1 y lo hi := ⟨_, rfl⟩
            have lX : X.length ≤ 50000 := by rw [hX]; exact Nat.le_trans (List.length_filter_le _ _) htl
            rw [← hX] at HF1 HF2
            obtain ⟨p, hp⟩ : ∃ p, p = X.length := ⟨_, rfl⟩
            have HE1 := Lib.hid fun x wa wb (hh : PT X wa x wb) => pt_out hp hh
            have HP := Lib.hid hp
            rw [← hp] at lX
            obtain ⟨tl, htl'⟩ : ∃ tl, tl = s.1.length := ⟨_, rfl⟩
            obtain ⟨tg, htg⟩ : ∃ tg, tg = s.2.1 := ⟨_, rfl⟩
            obtain ⟨tx, htx⟩ : ∃ tx, tx = s.2.2 := ⟨_, rfl⟩
            rw [← htl', ← htg, ← htx] at HF1 HF2
            rw [← htl'] at q0 p0
            rw [← htg] at q1 p1
            rw [← htx] at q2 p2
            clear hX hp htl htl' htg htx
            have HKE := Lib.hid (And.intro q0 (And.intro q1 q2))
            have HKP := Lib.hid (And.intro p0 (And.intro p1 p2))
            go_upto_region 18 with fail
            go_cut [90] from 79 to 90 (fun s90 wx => s90 = .bool false ∧ Hid (Below wr.heap.size wr wx))
            case first =>
              go_region_held3 (fun w' => w'.cell? ⟨xs, 0, none⟩ = some (.slice sa tl sc) ∧ w'.cell? ⟨xs, 1, none⟩ = some (.int .i64 tg) ∧ w'.cell? ⟨xs, 2, none⟩ = some (.int .i64 tx) ∧ w'.cell? ⟨xq, 0, none⟩ = some (.slice ra tl rc) ∧ w'.cell? ⟨xq, 1, none⟩ = some (.int .i64 tg) ∧ w'.cell? ⟨xq, 2, none⟩ = some (.int .i64 tx))
                (first
                  | assumption
                  | exact ⟨HKE.out.1, HKE.out.2.1, HKE.out.2.2, HKP.out.1, HKP.out.2.1, HKP.out.2.2⟩
                  | exact ⟨(keep3 HKE.out z4).1, (keep3 HKE.out z4).2.1, (keep3 HKE.out z4).2.2, (keep3 HKP.out z4).1, (keep3 HKP.out z4).2.1, (keep3 HKP.out z4).2.2⟩)
                (first
                  | (go_at_call 22; (with_reducible refine (HF1.out _ (by first | exact z4 | exact Below.refl _ _ | exact (Below.refl _ _).drew)).mono ?_); rintro e w1x he; obtain ⟨a1x, c1x, rfl, K1, B1⟩ := HE1.out _ _ _ he; clear he; have KS1 := Lib.hid K1; have BS1 := Lib.hid B1; replace z4 : Below wr.heap.size wr w1x := (by first | exact z4.trans (B1.mono z4.size) | exact B1 | exact ((Below.refl _ _).drew).trans B1); obtain ⟨q0, q1, q2⟩ := keep3 HKE.out z4; obtain ⟨p0, p1, p2⟩ := keep3 HKP.out z4; clear K1 B1)
                  | (go_at_call 23; (with_reducible refine (HF2.out _ (by first | exact z4 | exact Below.refl _ _ | exact (Below.refl _ _).drew)).mono ?_); rintro e w2x he; obtain ⟨a2x, c2x, rfl, K2, B2⟩ := HE1.out _ _ _ he; clear he; have KS2 := Lib.hid K2; have BS2 := Lib.hid B2; replace z4 : Below wr.heap.size wr w2x := (by first | exact z4.trans (B2.mono z4.size) | exact B2 | exact ((Below.refl _ _).drew).trans B2); obtain ⟨q0, q1, q2⟩ := keep3 HKE.out z4; obtain ⟨p0, p1, p2⟩ := keep3 HKP.out z4; clear K2 B2)
                  | (go_at_call 21; refine (samet_any a1x a2x p c1x c2x X _ (by first | exact KS1.out.2.1 | exact KS1.out.2.1.old BS2.out) (by first | exact KS2.out.2.1 | exact KS2.out.2.1.old BS1.out) (by omega) HP.out.symm).mono ?_; rintro e w3x ⟨rfl, B3⟩; replace z4 : Below wr.heap.size wr w3x := z4.trans (B3.mono z4.size); clear B3))
              all_goals
                go_wp2_with fail
                go_meet
                case rel => exact ⟨rfl, Lib.hid z4⟩
            case rest =>
            obtain ⟨rfl, HBR⟩ := hcut
            have HW6 := Lib.hid (HW4.out.trans (HBR.out.mono HW4.out.size))
            clear HF1 HF2 HE1 HKE HKP q0 q1 q2 q3 p0 p1 p2 p3
            go_wp2_with fail
            go_roundw
            case rel => exact ⟨y + 1, by go_num, by omega, by omega, HW6⟩
            case measure => simp [intOf]; omega
          · obtain rfl : y = 4 := by omega
            have HBE := Lib.hid (HWW.out.trans (HW4.out.mono HWW.out.size))
            go_wp2_with fail
            go_roundw
            case rel => exact ⟨k + 1, s, sa, sc, ra, rc, by go_num, by omega, HA3, HA4, HBE⟩
            case measure => simp [intOf]; omega
      subst h0
      obtain ⟨⟨⟨v0, v1, v2, v3⟩, -⟩, -⟩ := HGE.out
      obtain ⟨⟨⟨u0, u1, u2, u3⟩, -⟩, -⟩ := HGF.out
      obtain ⟨⟨⟨q0, q1, q2, q3⟩, f0, f1, f2⟩, -⟩ := HSE.out.1
      obtain ⟨⟨⟨p0, p1, p2, p3⟩, e0, e1, e2⟩, -⟩ := HRE.out.1
      have hlt1 : xs < w2.heap.size := HS2.out.1.lt
      have hge1 : w2.heap.size ≤ g := HG.out.2.2.2.1
      have hge2 : wm.heap.size ≤ g2 := HG2.out.2.2.2.1
      have hgm : g < wm.heap.size := HG.out.1.lt
      have hxqw : xq < w2.heap.size := (HRS.out.keep HB2.out (Nat.le_refl _)).1.lt
      have d1 : ¬ xs = g := by omega
      have d2 : ¬ g = xs := by omega
      have d3 : ¬ xs = g2 := by omega
      have d4 : ¬ g2 = xs := by omega
      have d5 : ¬ xq = g := by omega
      have d6 : ¬ g = xq := by omega
      have d7 : ¬ xq = g2 := by omega
      have d8 : ¬ g2 = xq := by omega
      have d9 : ¬ xs = xq := HXS.out.2.2
      have d10 : ¬ xq = xs := fun e => d9 e.symm
      have HP1 : Hid (∀ wx, LS wx xs k s sa sc → ST wx a' L' c' S'.1 → LS (((wx.setCell ⟨xs, 0, none⟩ (.slice a' L' c')).setCell ⟨xs, 1, none⟩ (.int .i64 G')).setCell ⟨xs, 2, none⟩ (.int .i64 X')) xs (k + 1) S' a' c') := Lib.hid fun wx h1 h2 => h1.step' HEQ.out.2.2.2.2 HEQ.out.1 HEQ.out.2.1 HEQ.out.2.2.1 HEQ.out.2.2.2.1.symm h2 HG.out.2.2.1
      have HP2 : Hid (∀ wx, LS wx xq k s ra rc → ST wx ax L' cx S'.1 → LS (((wx.setCell ⟨xq, 0, none⟩ (.slice ax L' cx)).setCell ⟨xq, 1, none⟩ (.int .i64 G')).setCell ⟨xq, 2, none⟩ (.int .i64 X')) xq (k + 1) S' ax cx) := Lib.hid fun wx h1 h2 => h1.step' HEQ.out.2.2.2.2 HEQ.out.1 HEQ.out.2.1 HEQ.out.2.2.1 HEQ.out.2.2.2.1.symm h2 HG.out.2.2.1
      clear hlt1 hge1 hge2 hgm hxqw
      have HO1 : Hid (∀ W, Below we.heap.size we W → LS ((((((W.setCell ⟨xs, 0, none⟩ (.slice a' L' c')).setCell ⟨xs, 1, none⟩ (.int .i64 G')).setCell ⟨xs, 2, none⟩ (.int .i64 X')).setCell ⟨xq, 0, none⟩ (.slice ax L' cx)).setCell ⟨xq, 1, none⟩ (.int .i64 G')).setCell ⟨xq, 2, none⟩ (.int .i64 X')) xs (k + 1) S' a' c' ∧ LS ((((((W.setCell ⟨xs, 0, none⟩ (.slice a' L' c')).setCell ⟨xs, 1, none⟩ (.int .i64 G')).setCell ⟨xs, 2, none⟩ (.int .i64 X')).setCell ⟨xq, 0, none⟩ (.slice ax L' cx)).setCell ⟨xq, 1, none⟩ (.int .i64 G')).setCell ⟨xq, 2, none⟩ (.int .i64 X')) xq (k + 1) S' ax cx ∧ Below w.heap.size w ((((((W.setCell ⟨xs, 0, none⟩ (.slice a' L' c')).setCell ⟨xs, 1, none⟩ (.int .i64 G')).setCell ⟨xs, 2, none⟩ (.int .i64 X')).setCell ⟨xq, 0, none⟩ (.slice ax L' cx)).setCell ⟨xq, 1, none⟩ (.int .i64 G')).setCell ⟨xq, 2, none⟩ (.int .i64 X'))) := Lib.hid fun W hW => by
        have k1 := HSE.out.keep hW (Nat.le_refl _)
        have k2 := HRE.out.keep hW (Nat.le_refl _)
        have k3 := HTE.out.old hW
        have k4 := HTF.out.old hW
        have m1 := HP1.out W k1 k3
        have m2 := k2.other k1.1 d10 (.slice a' L' c') (.int .i64 G') (.int .i64 X')
        have m4 := ST.put3 k4 k1.1 (.slice a' L' c') (.int .i64 G') (.int .i64 X')
        exact ⟨m1.other m2.1 d9 _ _ _, HP2.out _ m2 m4, below3 (below3 (HWE.out.trans (hW.mono HWE.out.size)) HXS.out.1 _ _ _) HXS.out.2.1 _ _ _⟩
      have HO2 : Hid (∀ W, Below we.heap.size we W → LS ((((((W.setCell ⟨xq, 0, none⟩ (.slice ax L' cx)).setCell ⟨xq, 1, none⟩ (.int .i64 G')).setCell ⟨xq, 2, none⟩ (.int .i64 X')).setCell ⟨xs, 0, none⟩ (.slice a' L' c')).setCell ⟨xs, 1, none⟩ (.int .i64 G')).setCell ⟨xs, 2, none⟩ (.int .i64 X')) xs (k + 1) S' a' c' ∧ LS ((((((W.setCell ⟨xq, 0, none⟩ (.slice ax L' cx)).setCell ⟨xq, 1, none⟩ (.int .i64 G')).setCell ⟨xq, 2, none⟩ (.int .i64 X')).setCell ⟨xs, 0, none⟩ (.slice a' L' c')).setCell ⟨xs, 1, none⟩ (.int .i64 G')).setCell ⟨xs, 2, none⟩ (.int .i64 X')) xq (k + 1) S' ax cx ∧ Below w.heap.size w ((((((W.setCell ⟨xq, 0, none⟩ (.slice ax L' cx)).setCell ⟨xq, 1, none⟩ (.int .i64 G')).setCell ⟨xq, 2, none⟩ (.int .i64 X')).setCell ⟨xs, 0, none⟩ (.slice a' L' c')).setCell ⟨xs, 1, none⟩ (.int .i64 G')).setCell ⟨xs, 2, none⟩ (.int .i64 X'))) := Lib.hid fun W hW => by
        have k1 := HSE.out.keep hW (Nat.le_refl _)
        have k2 := HRE.out.keep hW (Nat.le_refl _)
        have k3 := HTE.out.old hW
        have k4 := HTF.out.old hW
        have m1 := HP2.out W k2 k4
        have m2 := k1.other k2.1 d9 (.slice ax L' cx) (.int .i64 G') (.int .i64 X')
        have m4 := ST.put3 k3 k2.1 (.slice ax L' cx) (.int .i64 G') (.int .i64 X')
        exact ⟨HP1.out _ m2 m4, m1.other m2.1 d10 _ _ _, below3 (below3 (HWE.out.trans (hW.mono HWE.out.size)) HXS.out.2.1 _ _ _) HXS.out.1 _ _ _⟩
      go_upto_region 14 with fail
      go_cut [73, 74] from 73 to 74 (fun _ _ wx => Hid (LS wx xs (k + 1) S' a' c' ∧ LS wx xq (k + 1) S' ax cx ∧ Below w.heap.size w wx))
      case first =>
        go_region
        all_goals
          go_wp2_with fail
          go_meet
          case rel =>
            refine Lib.hid ?_
            first
              | (with_reducible exact two_drew (HO1.out _ (Below.refl _ _)))
              | (with_reducible exact two_drew (HO2.out _ (Below.refl _ _)))
      case rest =>
      have HA1 := Lib.hid hcut.out.1
      have HA2 := Lib.hid hcut.out.2.1
      have HWW := Lib.hid hcut.out.2.2
      go_wp2_with fail
      skip
      go_loopw [14] (fun v wr => ∃ y : Int, v = .int .i64 y ∧ -1 ≤ y ∧ y ≤ 4 ∧ Hid (Below wc.heap.size wc wr)) (fun v _ => (4 - intOf v).toNat)
      case atStart => exact ⟨-1, by first | rfl | go_num, by omega, by omega, Lib.hid (Below.refl _ _)⟩
      case round =>
        obtain ⟨y, rfl, hy1, hy2, HW4⟩ := hrel
        have HA3 := Lib.hid (HA1.out.keep HW4.out (Nat.le_refl _))
        have HA4 := Lib.hid (HA2.out.keep HW4.out (Nat.le_refl _))
        by_cases hlty : y < 4
        · obtain ⟨⟨⟨q0, q1, q2, q3⟩, -⟩, -⟩ := HA3.out.1
          obtain ⟨⟨⟨p0, p1, p2, p3⟩, -⟩, -⟩ := HA4.out.1
          have htl : S'.1.length ≤ 50000 := by have := HA3.out.2.2.2.2.1; omega
          have HF1 := Lib.hid fun (wx : World) (hx : Below wr.heap.size wr wx) => ov_any _ S' y lo hi wx (HA3.out.sv.old hx) htl _ HA3.out.2.2.1
          have HF2 := Lib.hid fun (wx : World) (hx : Below wr.heap.size wr wx) => rov_any _ S' y lo hi wx (HA4.out.sv.old hx) htl
          obtain ⟨X, hX⟩ : ∃ X, X = ovT S'.1 y lo hi := ⟨_, rfl⟩
          have lX : X.length ≤ 50000 := by rw [hX]; exact Nat.le_trans (List.length_filter_le _ _) htl
          rw [← hX] at HF1 HF2
          obtain ⟨p, hp⟩ : ∃ p, p = X.length := ⟨_, rfl⟩
          have HE1 := Lib.hid fun x wa wb (hh : PT X wa x wb) => pt_out hp hh
          have HP := Lib.hid hp
          rw [← hp] at lX
          obtain ⟨tl, htl'⟩ : ∃ tl, tl = S'.1.length := ⟨_, rfl⟩
          obtain ⟨tg, htg⟩ : ∃ tg, tg = S'.2.1 := ⟨_, rfl⟩
          obtain ⟨tx, htx⟩ : ∃ tx, tx = S'.2.2 := ⟨_, rfl⟩
          rw [← htl', ← htg, ← htx] at HF1 HF2
          rw [← htl'] at q0 p0
          rw [← htg] at q1 p1
          rw [← htx] at q2 p2
          clear hX hp htl htl' htg htx
          have HKE := Lib.hid (And.intro q0 (And.intro q1 q2))
          have HKP := Lib.hid (And.intro p0 (And.intro p1 p2))
          go_upto_region 18 with fail
          go_cut [90] from 79 to 90 (fun s90 wx => s90 = .bool false ∧ Hid (Below wr.heap.size wr wx))
          case first =>
            go_region_held3 (fun w' => w'.cell? ⟨xs, 0, none⟩ = some (.slice a' tl c') ∧ w'.cell? ⟨xs, 1, none⟩ = some (.int .i64 tg) ∧ w'.cell? ⟨xs, 2, none⟩ = some (.int .i64 tx) ∧ w'.cell? ⟨xq, 0, none⟩ = some (.slice ax tl cx) ∧ w'.cell? ⟨xq, 1, none⟩ = some (.int .i64 tg) ∧ w'.cell? ⟨xq, 2, none⟩ = some (.int .i64 tx))
              (first
                | assumption
                | exact ⟨HKE.out.1, HKE.out.2.1, HKE.out.2.2, HKP.out.1, HKP.out.2.1, HKP.out.2.2⟩
                | exact ⟨(keep3 HKE.out z4).1, (keep3 HKE.out z4).2.1, (keep3 HKE.out z4).2.2, (keep3 HKP.out z4).1, (keep3 HKP.out z4).2.1, (keep3 HKP.out z4).2.2⟩)
              (first
                | (go_at_call 22; (with_reducible refine (HF1.out _ (by first | exact z4 | exact Below.refl _ _ | exact (Below.refl _ _).drew)).mono ?_); rintro e w1x he; obtain ⟨a1x, c1x, rfl, K1, B1⟩ := HE1.out _ _ _ he; clear he; have KS1 := Lib.hid K1; have BS1 := Lib.hid B1; replace z4 : Below wr.heap.size wr w1x := (by first | exact z4.trans (B1.mono z4.size) | exact B1 | exact ((Below.refl _ _).drew).trans B1); obtain ⟨q0, q1, q2⟩ := keep3 HKE.out z4; obtain ⟨p0, p1, p2⟩ := keep3 HKP.out z4; clear K1 B1)
                | (go_at_call 23; (with_reducible refine (HF2.out _ (by first | exact z4 | exact Below.refl _ _ | exact (Below.refl _ _).drew)).mono ?_); rintro e w2x he; obtain ⟨a2x, c2x, rfl, K2, B2⟩ := HE1.out _ _ _ he; clear he; have KS2 := Lib.hid K2; have BS2 := Lib.hid B2; replace z4 : Below wr.heap.size wr w2x := (by first | exact z4.trans (B2.mono z4.size) | exact B2 | exact ((Below.refl _ _).drew).trans B2); obtain ⟨q0, q1, q2⟩ := keep3 HKE.out z4; obtain ⟨p0, p1, p2⟩ := keep3 HKP.out z4; clear K2 B2)
                | (go_at_call 21; refine (samet_any a1x a2x p c1x c2x X _ (by first | exact KS1.out.2.1 | exact KS1.out.2.1.old BS2.out) (by first | exact KS2.out.2.1 | exact KS2.out.2.1.old BS1.out) (by omega) HP.out.symm).mono ?_; rintro e w3x ⟨rfl, B3⟩; replace z4 : Below wr.heap.size wr w3x := z4.trans (B3.mono z4.size); clear B3))
            all_goals
              go_wp2_with fail
              go_meet
              case rel => exact ⟨rfl, Lib.hid z4⟩
          case rest =>
          obtain ⟨rfl, HBR⟩ := hcut
          have HW6 := Lib.hid (HW4.out.trans (HBR.out.mono HW4.out.size))
          clear HF1 HF2 HE1 HKE HKP q0 q1 q2 q3 p0 p1 p2 p3
          go_wp2_with fail
          go_roundw
          case rel => exact ⟨y + 1, by go_num, by omega, by omega, HW6⟩
          case measure => simp [intOf]; omega
        · obtain rfl : y = 4 := by omega
          have HBE := Lib.hid (HWW.out.trans (HW4.out.mono HWW.out.size))
          go_wp2_with fail
          go_roundw
          case rel => exact ⟨k + 1, S', a', c', ax, cx, by go_num, by omega, HA3, HA4, HBE⟩
          case measure => simp [intOf]; omega
    · obtain rfl : n = k := by omega
      go_wp2_with fail
      refine (awake12_any wr).mono ?_
      rintro e' wz ⟨rfl, hbz⟩
      have HBZ := Lib.hid (HW.out.trans (hbz.mono HW.out.size))
      clear hbz
      go_wp2_with fail
      go_ret
      exact ⟨rfl, HB1.out.trans (HBZ.out.mono HB1.out.size)⟩
end Go.Proofs.Ytkpemlgolpihiaa
