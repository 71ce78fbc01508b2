/-
  Layer 4 (span): slices of ranges; the contracts of Covers and of the document's own. Conditions: texts within the form's reach.
-/
import Derived.Test.YtmglgmljlaplcaaSh
import Derived.Test.YtmglgmljlaplcaaSn
import Derived.OneCell
namespace Go.Proofs.Ytmglgmljlaplcaa
open Go.RowKit

/-- A slice's first elements are the ranges xs: its address, if there is one, is plain. -/
def RdS (w : World) (a : Option Addr) (xs : List Rng) : Prop :=
  xs = [] ∨ ∃ b off, a = some ⟨b, off, none⟩ ∧ b < w.heap.size ∧ ∀ i (h : i < xs.length), w.cell? ⟨b, off + i * 2, none⟩ = some (.string xs[i].1) ∧ w.cell? ⟨b, off + i * 2 + 1, none⟩ = some (.string xs[i].2)
theorem RdS.old {w w' : World} {a : Option Addr} {xs : List Rng} (h : RdS w a xs) (hb : Below w.heap.size w w') : RdS w' a xs := by
  rcases h with rfl | ⟨b, off, rfl, hlt, hc⟩
  · exact .inl rfl
  · refine .inr ⟨b, off, rfl, Nat.lt_of_lt_of_le hlt hb.size, fun i hi => ?_⟩
    exact ⟨(hb.cell (p := ⟨b, off + i * 2, none⟩) hlt).trans (hc i hi).1, (hb.cell (p := ⟨b, off + i * 2 + 1, none⟩) hlt).trans (hc i hi).2⟩
/-- All texts of ranges are within reach. -/
def okL (xs : List Rng) : Prop := ∀ x ∈ xs, okS x.1 ∧ okS x.2

set_option maxHeartbeats 1000000 in
theorem follows_no (lo hi f : ByteArray) (o : Bool) (g1 g2 : Nat) (w : World) (h1 : okS lo) (h2 : okS hi) (hf : w.cell? ⟨g2, 0, none⟩ = some (.string f)) (ho : w.cell? ⟨g1, 0, none⟩ = some (.bool o)) (l1 : g1 < w.heap.size) (l2 : g2 < w.heap.size)
    (h : (o && (lo.toList == f.toList) && mayB lo hi) = false) :
    Calls Try.prog 31 #[.agg #[.string lo, .string hi], .pointer (some ⟨g1, 0, none⟩), .pointer (some ⟨g2, 0, none⟩)] w fun e w' => e = .returned (.bool false) ∧ Below w.heap.size w w' := by
  cases o with
  | false =>
    clear h
    go_enter Try.func31, Try.ntmps31
    go_wp2
    go_ret
    exact ⟨rfl, (Below.refl _ _).alloc (Nat.le_refl _) _⟩
  | true =>
    cases he : (lo.toList == f.toList) with
    | false =>
      clear h
      go_enter Try.func31, Try.ntmps31
      go_wp2
      go_ret
      exact ⟨rfl, (Below.refl _ _).alloc (Nat.le_refl _) _⟩
    | true =>
      have hm : mayB lo hi = false := by rw [he] at h; simpa using h
      have HC := Lib.hid fun w => chk_any lo hi _ hm h1 h2 w
      clear h hm
      go_enter Try.func31, Try.ntmps31
      go_wp2_with fail
      refine (HC.out _).mono ?_
      rintro e w1 ⟨rfl, b1⟩
      rw [show chkN false = 1 from rfl]
      go_wp2
      go_ret
      exact ⟨rfl, below_box b1⟩
/-- What the closure leaves behind a range that follows. -/
def FY (g1 g2 : Nat) (hi : ByteArray) (w : World) (e : Ending) (w' : World) : Prop :=
  e = .returned (.bool true) ∧ w'.cell? ⟨g2, 0, none⟩ = some (.string hi) ∧ w'.cell? ⟨g1, 0, none⟩ = some (.bool (!emB hi)) ∧ w'.frozen? ⟨g1, 0, none⟩ = false ∧ w'.frozen? ⟨g2, 0, none⟩ = false ∧ ∀ B, B ≤ g1 → B ≤ g2 → B ≤ w.heap.size → Below B w w'
set_option maxHeartbeats 1000000 in
theorem follows_yes (lo hi f : ByteArray) (g1 g2 : Nat) (w : World) (h1 : okS lo) (h2 : okS hi) (hf : w.cell? ⟨g2, 0, none⟩ = some (.string f)) (ho : w.cell? ⟨g1, 0, none⟩ = some (.bool true)) (f1 : w.frozen? ⟨g1, 0, none⟩ = false) (f2 : w.frozen? ⟨g2, 0, none⟩ = false) (l1 : g1 < w.heap.size) (l2 : g2 < w.heap.size) (hne : g1 ≠ g2)
    (he : (lo.toList == f.toList) = true) (hm : mayB lo hi = true) :
    Calls Try.prog 31 #[.agg #[.string lo, .string hi], .pointer (some ⟨g1, 0, none⟩), .pointer (some ⟨g2, 0, none⟩)] w (FY g1 g2 hi w) := by
  have HC := Lib.hid fun w => chk_any lo hi _ hm h1 h2 w
  clear hm
  go_enter Try.func31, Try.ntmps31
  go_wp2_with fail
  refine (HC.out _).mono ?_
  rintro e w1 ⟨rfl, b1⟩
  rw [show chkN true = 0 from rfl]
  obtain ⟨x0, x1⟩ := box_cells b1
  have hz := b1.size
  have hg1 := (b1.cell (p := ⟨g1, 0, none⟩) (by simp; omega)).trans ((World.cell?_alloc_lt w _ ⟨g1, 0, none⟩ l1).trans ho)
  have hg2 := (b1.cell (p := ⟨g2, 0, none⟩) (by simp; omega)).trans ((World.cell?_alloc_lt w _ ⟨g2, 0, none⟩ l2).trans hf)
  have hf1 : w1.frozen? ⟨g1, 0, none⟩ = false := (b1.frozen (p := ⟨g1, 0, none⟩) (by simp; omega)).trans (by simp [go_sem, l1, f1])
  have hf2 : w1.frozen? ⟨g2, 0, none⟩ = false := (b1.frozen (p := ⟨g2, 0, none⟩) (by simp; omega)).trans (by simp [go_sem, l2, f2])
  have HB := Lib.hid (below_box b1)
  clear b1 hz ho hf f1 f2
  go_wp2
  go_region
  go_wp2
  go_ret
  have hs : w.heap.size ≤ w1.heap.size := HB.out.size
  refine ⟨rfl, ?_, ?_, ?_, ?_, fun B k1 k2 k3 => ?_⟩
  · simp [go_sem, hg2]
  · simp [go_sem, hg1]
    rfl
  · simp [go_sem, hf1]
  · simp [go_sem, hf2]
  · exact (((HB.out.mono k3).setCell (by simpa using k2) _).setCell (by simpa using k1) _).drew

set_option maxHeartbeats 1000000 in
theorem covers_none (a : Option Addr) (cap : Nat) (w : World) :
    Calls Try.prog 23 #[.slice a 0 cap] w fun e w' => e = .returned (.bool false) ∧ Below w.heap.size w w' := by
  go_enter Try.func23, Try.ntmps23
  go_wp2
  refine wp_loop_rounds 1 ?_
  rw [rounds_succ]
  go_wp2
  go_ret
  exact ⟨rfl, ((Below.refl _ _).alloc (Nat.le_refl _) _).alloc (by simp) _⟩
theorem cov_ok {xs : List Rng} {k : Nat} {f : ByteArray} (hk : k < xs.length) (hs : cov (xs.take k) = some (f, true)) (h1 : xs[k].1 = f) (hm : mayB xs[k].1 xs[k].2 = true) : cov (xs.take (k + 1)) = some (xs[k].2, !emB xs[k].2) := by
  rw [List.take_succ_eq_append_getElem hk, cov_snoc, hs, stC_ok h1 hm]
theorem cov_no {xs : List Rng} {k : Nat} {f : ByteArray} {o : Bool} (hk : k < xs.length) (hs : cov (xs.take k) = some (f, o)) (h : (o && (xs[k].1.toList == f.toList) && mayB xs[k].1 xs[k].2) = false) : coversB xs = false := by
  refine cov_take_none (k := k + 1) ?_
  rw [List.take_succ_eq_append_getElem hk, cov_snoc, hs]
  unfold stC
  simp only [h]
  rfl
set_option maxHeartbeats 2000000 in
theorem covers_some (b off n cap : Nat) (xs : List Rng) (w : World) (hn : n < 9223372036854775808) (hl : xs.length = n) (hb : b < w.heap.size) (hok : okL xs)
    (hc : ∀ i (h : i < xs.length), w.cell? ⟨b, off + i * 2, none⟩ = some (.string xs[i].1) ∧ w.cell? ⟨b, off + i * 2 + 1, none⟩ = some (.string xs[i].2)) :
    Calls Try.prog 23 #[.slice (some ⟨b, off, none⟩) n cap] w fun e w' => e = .returned (.bool (coversB xs)) ∧ Below w.heap.size w w' := by
  have HC := Lib.hid hc
  have HL := Lib.hid hl
  have HO := Lib.hid hok
  clear hc hl hok
  go_enter Try.func23, Try.ntmps23
  go_wp2
  go_loopw [11] (fun i wr => ∃ (k : Nat) (f : ByteArray) (o : Bool), i = .int .i64 k ∧ k ≤ n ∧ Hid (cov (xs.take k) = some (f, o)) ∧ wr.cell? ⟨w.heap.size, 0, none⟩ = some (.string f) ∧ wr.cell? ⟨w.heap.size + 1, 0, none⟩ = some (.bool o) ∧
    wr.frozen? ⟨w.heap.size + 1, 0, none⟩ = false ∧ wr.frozen? ⟨w.heap.size, 0, none⟩ = false ∧ w.heap.size + 1 < wr.heap.size ∧ Below w.heap.size w wr) (fun i _ => n - (intOf i).toNat)
  case atStart => exact ⟨0, ⟨#[]⟩, true, rfl, by omega, Lib.hid rfl, by simp [go_sem], by simp [go_sem], by simp [go_sem], by simp [go_sem], by simp, ((Below.refl _ _).alloc (Nat.le_refl _) _).alloc (by simp) _⟩
  case round =>
    obtain ⟨k, f, o, rfl, hk, HV, c2, c1, f1, f2, hz, hbel⟩ := hrel
    by_cases hlt : k < n
    · have hkl : k < xs.length := by rw [HL.out]; exact hlt
      have hx := HC.out k hkl
      have hx1 := (hbel.cell (p := ⟨b, off + k * 2, none⟩) hb).trans hx.1
      have hx2 := (hbel.cell (p := ⟨b, off + k * 2 + 1, none⟩) hb).trans hx.2
      have hbs : b < wr.heap.size := Nat.lt_of_lt_of_le hb hbel.size
      obtain ⟨o1, o2⟩ := HO.out _ (List.getElem_mem hkl)
      have hno := cov_no hkl HV.out
      obtain ⟨lo, hlo⟩ : ∃ x, x = xs[k].1 := ⟨_, rfl⟩
      obtain ⟨hi, hhi⟩ : ∃ x, x = xs[k].2 := ⟨_, rfl⟩
      rw [← hlo] at hx1 o1 hno
      rw [← hhi] at hx2 o2 hno
      cases hall : (o && (lo.toList == f.toList) && mayB lo hi) with
      | false =>
        have HN := Lib.hid (hno hall)
        have hz0 : w.heap.size < wr.heap.size := by omega
        have HF := Lib.hid fun W h1 h2 h3 h4 => follows_no lo hi f o (w.heap.size + 1) w.heap.size W o1 o2 h1 h2 h3 h4 hall
        clear hall hno hx hlo hhi o1 o2
        go_wp2_with fail
        refine (HF.out _ ((World.cell?_alloc_lt wr _ ⟨w.heap.size, 0, none⟩ hz0).trans c2) ((World.cell?_alloc_lt wr _ ⟨w.heap.size + 1, 0, none⟩ hz).trans c1) (by simp; omega) (by simp; omega)).mono ?_
        rintro e w1 ⟨rfl, b1⟩
        go_wp2
        go_ret
        exact ⟨by rw [HN.out]; rfl, hbel.trans ((below_box b1).mono hbel.size)⟩
      | true =>
        simp only [Bool.and_eq_true] at hall
        obtain ⟨⟨rfl, he⟩, hm⟩ := hall
        have hz0 : w.heap.size < wr.heap.size := by omega
        have hv := cov_ok hkl HV.out (by rw [← hlo]; simp only [beq_iff_eq] at he; exact ba_ext he) (by rw [← hlo, ← hhi]; exact hm)
        rw [← hhi] at hv
        have HV2 := Lib.hid hv
        have HF := Lib.hid fun W h1 h2 h3 h4 h5 h6 => follows_yes lo hi f (w.heap.size + 1) w.heap.size W o1 o2 h1 h2 h3 h4 h5 h6 (by omega) he hm
        clear hv hno hx hlo hhi o1 o2 he hm
        go_wp2_with fail
        refine (HF.out _ ((World.cell?_alloc_lt wr _ ⟨w.heap.size, 0, none⟩ hz0).trans c2) ((World.cell?_alloc_lt wr _ ⟨w.heap.size + 1, 0, none⟩ hz).trans c1) (by simp [go_sem, hz, f1]) (by simp [go_sem, hz0, f2]) (by simp; omega) (by simp; omega)).mono ?_
        rintro e w1 ⟨rfl, d2, d1, e1, e2, hB⟩
        have hB1 := hB w.heap.size (by omega) (by omega) (by simp; omega)
        have hbel2 := (hbel.alloc hbel.size (.cells #[.string lo, .string hi] 23)).trans hB1
        have hz2 : w.heap.size + 1 < w1.heap.size := by have := hB1.size; simp at this; omega
        clear hB hB1 c1 c2 f1 f2
        go_wp2
        go_roundw
        case rel => exact ⟨k + 1, hi, _, by go_num, by omega, HV2, d2, d1, e1, e2, hz2, hbel2⟩
        case measure => simp [intOf]; omega
    · obtain rfl : k = n := by omega
      have HE := Lib.hid (covers_last (l := xs) f o (by have := HV.out; rw [← HL.out, List.take_length] at this; exact this))
      go_wp2
      go_ret
      exact ⟨by rw [HE.out]; rfl, hbel⟩
theorem covers_any (a : Option Addr) (cap : Nat) (xs : List Rng) (w : World) (h : RdS w a xs) (hok : okL xs) (hn : xs.length < 9223372036854775808) :
    Calls Try.prog 23 #[.slice a xs.length cap] w fun e w' => e = .returned (.bool (coversB xs)) ∧ Below w.heap.size w w' := by
  rcases h with rfl | ⟨b, off, rfl, hb, hc⟩
  · exact covers_none a cap w
  · exact covers_some b off xs.length cap xs w hn rfl hb hok hc
end Go.Proofs.Ytmglgmljlaplcaa
