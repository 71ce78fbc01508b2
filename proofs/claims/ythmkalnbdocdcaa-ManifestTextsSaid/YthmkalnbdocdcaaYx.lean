/-
  Layer 12 (manifest): the contract of apart. Conditions: at most 100000 tables.
-/
import Derived.Test.YthmkalnbdocdcaaYw
import Derived.Laws.Cover1
import Derived.Deep.RegionHeld3
import Derived.Deep.DeepCutAuto
import Derived.Deep.CutRange
import Derived.Test.YthmkalnbdocdcaaVm
namespace Go.Proofs.Ythmkalnbdocdcaa
set_option maxRecDepth 100000
open Go.RowKit
set_option linter.unusedVariables false
set_option linter.unusedSimpArgs false

theorem near_split : ∀ (l : List Tb) (k : Nat) (h : k + 1 < l.length), nearT (l.drop k) = (!(decide (0 < l[k + 1].2.1) && decide (l[k + 1].2.1 = l[k].2.1) && !ltB l[k].2.2.2 l[k + 1].2.2.1) && nearT (l.drop (k + 1))) := by
  intro l k h
  rw [List.drop_eq_getElem_cons (show k < l.length by omega), List.drop_eq_getElem_cons h]
  rfl
theorem near_end {l : List Tb} {k : Nat} (h : l.length ≤ k + 1) : nearT (l.drop k) = true := by
  by_cases hk : k < l.length
  · rw [List.drop_eq_getElem_cons hk, List.drop_eq_nil_of_le (by omega)]; rfl
  · rw [List.drop_eq_nil_of_le (by omega)]; rfl
theorem keep8 {w w' : World} {b x0 x1 x2 x3 y0 y1 y2 y3 : Nat} {u0 u1 u2 u3 v0 v1 v2 v3 : Value} (h : w.cell? ⟨b, x0, none⟩ = some u0 ∧ w.cell? ⟨b, x1, none⟩ = some u1 ∧ w.cell? ⟨b, x2, none⟩ = some u2 ∧ w.cell? ⟨b, x3, none⟩ = some u3 ∧ w.cell? ⟨b, y0, none⟩ = some v0 ∧ w.cell? ⟨b, y1, none⟩ = some v1 ∧ w.cell? ⟨b, y2, none⟩ = some v2 ∧ w.cell? ⟨b, y3, none⟩ = some v3) (hw : Below w.heap.size w w') :
    w'.cell? ⟨b, x0, none⟩ = some u0 ∧ w'.cell? ⟨b, x1, none⟩ = some u1 ∧ w'.cell? ⟨b, x2, none⟩ = some u2 ∧ w'.cell? ⟨b, x3, none⟩ = some u3 ∧ w'.cell? ⟨b, y0, none⟩ = some v0 ∧ w'.cell? ⟨b, y1, none⟩ = some v1 ∧ w'.cell? ⟨b, y2, none⟩ = some v2 ∧ w'.cell? ⟨b, y3, none⟩ = some v3 := by
  obtain ⟨h0, h1, h2, h3, h4, h5, h6, h7⟩ := h
  have hb : b < w.heap.size := cell_lt h0
  have k : ∀ (x : Nat) (u : Value), w.cell? ⟨b, x, none⟩ = some u → w'.cell? ⟨b, x, none⟩ = some u := fun x u h => (hw.cell (p := ⟨b, x, none⟩) hb).trans h
  exact ⟨k _ _ h0, k _ _ h1, k _ _ h2, k _ _ h3, k _ _ h4, k _ _ h5, k _ _ h6, k _ _ h7⟩
theorem two_box (w : World) (T : TypeId) (s t : Tb) : Below w.heap.size w (((w.alloc (.cells #[.int .i64 s.1, .int .i64 s.2.1, .string s.2.2.1, .string s.2.2.2] T)).alloc (.cells #[.int .i64 t.1, .int .i64 t.2.1, .string t.2.2.1, .string t.2.2.2] T)).drew)
    ∧ TBox (((w.alloc (.cells #[.int .i64 s.1, .int .i64 s.2.1, .string s.2.2.1, .string s.2.2.2] T)).alloc (.cells #[.int .i64 t.1, .int .i64 t.2.1, .string t.2.2.1, .string t.2.2.2] T)).drew) w.heap.size s
    ∧ TBox (((w.alloc (.cells #[.int .i64 s.1, .int .i64 s.2.1, .string s.2.2.1, .string s.2.2.2] T)).alloc (.cells #[.int .i64 t.1, .int .i64 t.2.1, .string t.2.2.1, .string t.2.2.2] T)).drew) (w.heap.size + 1) t := by
  refine ⟨?_, ?_, ?_⟩
  · exact (((Below.refl _ w).alloc (by omega) _).alloc (by simp [go_sem]) _).drew
  · exact ⟨by simp [go_sem], by simp [go_sem], by simp [go_sem], by simp [go_sem], by simp [go_sem]⟩
  · exact ⟨by simp [go_sem], by simp [go_sem], by simp [go_sem], by simp [go_sem], by simp [go_sem]⟩
set_option maxRecDepth 1000000 in
set_option maxHeartbeats 16000000 in
theorem apart_any (a : Option Addr) (n cap : Nat) (ts : List Tb) (w : World) (hst : ST w a n cap ts) (hn : n ≤ 100000) :
    Calls Try.prog 45 #[.slice a n cap] w fun e w' => e = .returned (.bool (nearT ts)) ∧ Below w.heap.size w w' := by
  obtain ⟨b, off, ha, hb, hc⟩ := hst.2.1.at_
  have hl := hst.1
  rw [hl] at ha hb
  obtain ⟨r, hr⟩ : ∃ r, nearT ts = r := ⟨_, rfl⟩
  rw [hr]
  have HC := Lib.hid hc
  have HL := Lib.hid hl
  have HR := Lib.hid hr
  clear hst hc hl hr
  go_enter Try.func45, Try.ntmps45
  go_wp2_with fail
  go_loopw [3, 4, 5] (fun i _ _ wr => ∃ k : Nat, i = .int .i64 (k + 1 : Nat) ∧ k ≤ n ∧ Hid (nearT (ts.drop k) = r) ∧ Hid (Below w.heap.size w wr)) (fun i _ _ _ => n + 1 - (intOf i).toNat)
  case atStart => exact ⟨0, rfl, by omega, HR, Lib.hid (Below.refl _ _)⟩
  case round =>
    obtain ⟨k, rfl, hk, HK, HW⟩ := hrel
    by_cases hlt : k + 1 < n
    · have hki : ((k + 1 : Nat) : Int) < (n : Int) := by omega
      have hki2 : (k : Int) + 1 < (n : Int) := by omega
      have hki3 : (k : Int) < (n : Int) := by omega
      have hq1 : (0 : Int) ≤ (k : Int) + 1 := by omega
      have hq2 : ((k : Int) + 1).toNat = k + 1 := by omega
      have hq3 : ¬ ((k : Int) + 1 < 0) := by omega
      have hwk : IntKind.i64.wrap (k : Int) = (k : Int) := i64_wrap_nat k (by omega)
      obtain rfl := ha (by omega)
      have hbw := hb (by omega)
      have hkl : k < ts.length := by rw [HL.out]; omega
      have hkl2 : k + 1 < ts.length := by rw [HL.out]; omega
      have hat := HC.out.old hbw HW.out
      obtain ⟨g0, g1, g2, g3⟩ := hat k hkl
      obtain ⟨h0, h1, h2, h3⟩ := hat (k + 1) hkl2
      have hbr : b < wr.heap.size := Nat.lt_of_lt_of_le hbw HW.out.size
      have hsp := near_split ts k hkl2
      rw [HK.out] at hsp
      obtain ⟨E, hE⟩ : ∃ E, E = ts[k] := ⟨_, rfl⟩
      obtain ⟨F, hF⟩ : ∃ F, F = ts[k + 1] := ⟨_, rfl⟩
      rw [← hE] at g0 g1 g2 g3 hsp
      rw [← hF] at h0 h1 h2 h3 hsp
      obtain ⟨x1, x2, x3, x4⟩ := E
      obtain ⟨y1, y2, y3, y4⟩ := F
      have HSP := Lib.hid hsp
      have e1 : off + (k + 1) * 4 = off + k * 4 + 4 := by omega
      rw [e1] at h0 h1 h2 h3
      have HG := Lib.hid (And.intro g0 (And.intro g1 (And.intro g2 (And.intro g3 (And.intro h0 (And.intro h1 (And.intro h2 h3)))))))
      clear hE hF hsp hat HK
      go_upto_region 4 with fail
      go_cut [4, 5] (fun s4 s5 wx => ∃ p q, s4 = .pointer (some ⟨p, 0, none⟩) ∧ s5 = .pointer (some ⟨q, 0, none⟩) ∧ Hid (Below wr.heap.size wr wx ∧ TBox wx p (x1, x2, x3, x4) ∧ TBox wx q (y1, y2, y3, y4)))
      case first =>
        go_region_held3 (fun w' => w'.cell? ⟨b, off + k * 4, none⟩ = some (.int .i64 x1) ∧ w'.cell? ⟨b, off + k * 4 + 1, none⟩ = some (.int .i64 x2) ∧ w'.cell? ⟨b, off + k * 4 + 2, none⟩ = some (.string x3) ∧ w'.cell? ⟨b, off + k * 4 + 3, none⟩ = some (.string x4) ∧ w'.cell? ⟨b, off + k * 4 + 4, none⟩ = some (.int .i64 y1) ∧ w'.cell? ⟨b, off + k * 4 + 4 + 1, none⟩ = some (.int .i64 y2) ∧ w'.cell? ⟨b, off + k * 4 + 4 + 2, none⟩ = some (.string y3) ∧ w'.cell? ⟨b, off + k * 4 + 4 + 3, none⟩ = some (.string y4))
          (first
            | assumption
            | exact ⟨g0, g1, g2, g3, h0, h1, h2, h3⟩
            | (refine keep8 HG.out ?_
               repeat (first | assumption | exact Below.refl _ _ | (refine Below.alloc ?_ ?_ _) | (refine Below.setCell ?_ ?_ _) | (refine Below.drew ?_))
               all_goals (first | omega | (simp; done) | (simp; omega))))
          (first | fail)
        all_goals
          go_wp2_with fail
          go_meet
          first
            | exact ⟨_, _, rfl, rfl, Lib.hid (two_box wr 49 (x1, x2, x3, x4) (y1, y2, y3, y4))⟩
            | exact ⟨_, _, rfl, rfl, Lib.hid ⟨(two_box wr 49 (y1, y2, y3, y4) (x1, x2, x3, x4)).1, (two_box wr 49 (y1, y2, y3, y4) (x1, x2, x3, x4)).2.2, (two_box wr 49 (y1, y2, y3, y4) (x1, x2, x3, x4)).2.1⟩⟩
      case rest =>
      obtain ⟨p, q, rfl, rfl, HB⟩ := hcut
      obtain ⟨a0, a1, a2, a3, a4⟩ := HB.out.2.1
      obtain ⟨b0, b1, b2, b3, b4⟩ := HB.out.2.2
      simp only at a0 a1 a2 a3 b0 b1 b2 b3
      have HBW := Lib.hid (HW.out.trans (HB.out.1.mono HW.out.size))
      have hwz := HBW.out.size
      obtain ⟨c, hce⟩ : ∃ c, c = (decide (0 < y2) && decide (y2 = x2) && !ltB x4 y3) := ⟨_, rfl⟩
      have HSQ := Lib.hid (show r = (!c && nearT (ts.drop (k + 1))) by rw [hce]; exact HSP.out)
      clear g0 g1 g2 g3 h0 h1 h2 h3 HG HSP hbr hbw HB HC
      go_upto_region 5 with fail
      go_cut [37] from 21 to 37 (fun s9 wx => s9 = .bool c ∧ wx = wc)
      case first =>
        by_cases hv : 0 < y2
        case neg =>
          obtain rfl : c = false := by rw [hce]; simp [hv]
          clear hce HSQ
          go_wp2_with fail
          go_meet
          case rel => exact ⟨rfl, rfl⟩
        case pos =>
        by_cases hu : y2 = x2
        case neg =>
          obtain rfl : c = false := by rw [hce]; simp [hu]
          clear hce HSQ
          go_wp2_with fail
          go_meet
          case rel => exact ⟨rfl, rfl⟩
        case pos =>
        subst hu
        rcases cmp3 x4 y3 with ⟨p1, p2, p3, p4⟩ | ⟨p1, p2, p3, p4⟩ | ⟨p1, p2, p3, p4⟩
        all_goals
          have hc2 : c = !ltB x4 y3 := by rw [hce]; simp [hv]
          have hc3 : ltB x4 y3 = Op.bytesLess x4.toList y3.toList := rfl
          rw [hc3, p1] at hc2
          simp only [Bool.not_true, Bool.not_false] at hc2
          subst hc2
          clear hce hc3 HSQ
          go_wp2_with fail
          go_meet
          case rel => exact ⟨rfl, rfl⟩
      case rest =>
      obtain ⟨rfl, rfl⟩ := hcut
      clear hce a0 a1 a2 a3 b0 b1 b2 b3
      cases c with
      | true =>
        obtain rfl : r = false := by rw [HSQ.out]; rfl
        clear HSQ HR
        go_wp2_with fail
        go_ret
        exact ⟨rfl, HBW.out⟩
      | false =>
        have HNX := Lib.hid (show nearT (ts.drop (k + 1)) = r by rw [HSQ.out]; rfl)
        clear HSQ
        go_wp2_with fail
        go_roundw
        case rel => exact ⟨k + 1, by go_num, by omega, HNX, HBW⟩
        case measure => simp [intOf]; omega
    · obtain rfl : r = true := by rw [← HK.out]; exact near_end (by rw [HL.out]; omega)
      clear HK HR
      have hki : ¬ ((k + 1 : Nat) : Int) < (n : Int) := by omega
      have hki2 : ¬ ((k : Int) + 1 < (n : Int)) := by omega
      go_wp2_with fail
      go_ret
      exact ⟨rfl, HW.out⟩
end Go.Proofs.Ythmkalnbdocdcaa
