/-
  Layer 15 (bag): contracts of the document's find, with, New. Conditions: lists of at most 1000 letters.
-/
import Derived.Test.YtkljokmhfoannaaIu
import Derived.Test.YtkljokmhfoannaaAp
namespace Go.Proofs.Ytkljokmhfoannaa
open Go.RowKit Go.Maps
set_option linter.unusedVariables false
set_option linter.unusedSimpArgs false

def fnI (tp at_ : Int) (L : List Lt) : Int := if at_ < 0 then -1 else match idx tp L at_.toNat with | some k => (k : Int) | none => -1
theorem idx_cons (tp : Int) (l : Lt) (r : List Lt) (a : Nat) : idx tp (l :: r) a = if atP tp l = true then (match a with | 0 => some 0 | a + 1 => (idx tp r a).map (· + 1)) else (idx tp r a).map (· + 1) := rfl
theorem idx_nil (tp : Int) (a : Nat) : idx tp [] a = none := rfl
def idN (o : Option Nat) : Int := match o with | some k => (k : Int) | none => -1
set_option maxRecDepth 100000 in
set_option maxHeartbeats 2000000 in
theorem rfind15_any (n c : Nat) (a : Option Addr) (len cap : Nat) (L : List Lt) (tp at_ : Int) (hat : -9223372036854775808 ≤ at_ ∧ at_ ≤ 9223372036854775807) (w : World) (h : RefB w a len cap L) (hl : len ≤ 1000) : Calls Try.prog 41 #[.agg #[.int .i64 (n : Int), .int .i64 (c : Int), .slice a len cap], .int .i64 tp, .int .i64 at_] w fun e w' => e = .returned (.int .i64 (fnI tp at_ L)) ∧ Below w.heap.size w w' := by
  have hb1 := bal (Below.refl _ w) (.cells #[.int .i64 (n : Int), .int .i64 (c : Int), .slice a len cap] 30)
  have hq := QBox.new w n c (.slice a len cap)
  have hR := h.old hb1
  obtain ⟨w1, hw1⟩ : ∃ w1, w1 = w.alloc (.cells #[.int .i64 (n : Int), .int .i64 (c : Int), .slice a len cap] 30) := ⟨_, rfl⟩
  obtain ⟨x, hx⟩ : ∃ x, x = w.heap.size := ⟨_, rfl⟩
  have HW1 := Lib.hid hw1
  rw [← hw1] at hb1 hq hR
  have HX := Lib.hid hx
  rw [← hx] at hq
  have HB := Lib.hid hb1
  have HR := Lib.hid hR
  have HQ := Lib.hid hq
  obtain ⟨R, hRR⟩ : ∃ R, R = fnI tp at_ L := ⟨_, rfl⟩
  rw [← hRR]
  have HRR := Lib.hid hRR
  clear hw1 hx hb1 hq hR h hRR
  go_enter Try.func41, Try.ntmps41
  go_upto_region 2 with fail
  rw [← HW1.out, ← HX.out]
  by_cases hneg : at_ < 0
  · have hRm : R = -1 := by rw [HRR.out]; unfold fnI; rw [if_pos hneg]
    have HRM := Lib.hid hRm
    clear hRm
    go_loopw [7, 2] (fun i z wr => ∃ k2 : Nat, ∃ v : Int, i = .int .i64 k2 ∧ k2 ≤ len ∧ z = .int .i64 v ∧ Hid (∃ d : Nat, d ≤ k2 ∧ v = wrap64 (at_ - d)) ∧ Hid (Below w1.heap.size w1 wr)) (fun i _ _ => len - (intOf i).toNat)
    case atStart => exact ⟨0, at_, rfl, by omega, rfl, Lib.hid ⟨0, by omega, by unfold wrap64; omega⟩, Lib.hid (Below.refl _ _)⟩
    case round =>
      obtain ⟨k2, v, rfl, hk2, rfl, HD, HW⟩ := hrel
      obtain ⟨q0, q1, q2, ql, -, -, -⟩ := HQ.out.below HW.out
      by_cases hlt : k2 < len
      · have hki : (k2 : Int) < (len : Int) := by omega
        have hkl : k2 < L.length := by rw [HR.out.1]; exact hlt
        obtain ⟨g, rfl, hgl, hatt⟩ := (HR.out.2.1.old HW.out).at_ hkl
        have hc := (hatt k2 hkl).2.1
        rw [Nat.zero_add] at hc
        obtain ⟨tt, htt⟩ : ∃ tt, tt = L[k2].to := ⟨_, rfl⟩
        rw [← htt] at hc
        clear htt hatt
        have hwz : ∀ z : Int, wrap64 z = (z + 9223372036854775808) % 18446744073709551616 - 9223372036854775808 := fun z => by unfold wrap64; omega
        obtain ⟨d, hd, hv⟩ := HD.out
        have hv0 : ¬ v = 0 := by rw [hv, hwz]; omega
        have hv0b : (v == 0) = false := beq_eq_false_iff_ne.2 hv0
        have hnx : wrap64 (v - 1) = wrap64 (at_ - ((d + 1 : Nat) : Int)) := by rw [hv, hwz, hwz, hwz]; omega
        have HNX := Lib.hid hnx
        have HVV := Lib.hid hv
        clear hnx hv hwz hneg
        by_cases e : tt = tp
        · subst e
          go_wp2_with fail
          go_roundw
          case rel => exact ⟨k2 + 1, _, by go_num, by omega, rfl, Lib.hid ⟨d + 1, by omega, HNX.out⟩, HW⟩
          case measure => simp [intOf]; omega
        · have eb : (tt == tp) = false := beq_eq_false_iff_ne.2 e
          go_wp2_with fail
          go_roundw
          case rel => exact ⟨k2 + 1, v, by go_num, by omega, rfl, Lib.hid ⟨d, by omega, HVV.out⟩, HW⟩
          case measure => simp [intOf]; omega
      · obtain rfl : k2 = len := by omega
        go_wp2_with fail
        go_ret
        exact ⟨by rw [HRM.out]; rfl, HB.out.trans (HW.out.mono HB.out.size)⟩
  · obtain ⟨A, rfl⟩ : ∃ A : Nat, at_ = (A : Int) := ⟨at_.toNat, by omega⟩
    have hRm : R = idN (idx tp L A) := by rw [HRR.out]; unfold fnI idN; rw [if_neg hneg]; simp
    have HRM := Lib.hid hRm
    clear hRm hneg HRR
    go_loopw [7, 2] (fun i z wr => ∃ k2 cur : Nat, i = .int .i64 k2 ∧ k2 ≤ len ∧ z = .int .i64 cur ∧ cur ≤ A ∧ Hid (idx tp L A = (idx tp (L.drop k2) cur).map (· + k2)) ∧ Hid (Below w1.heap.size w1 wr)) (fun i _ _ => len - (intOf i).toNat)
    case atStart => exact ⟨0, A, rfl, by omega, rfl, Nat.le_refl _, Lib.hid (by cases h : idx tp L A <;> simp [h]), Lib.hid (Below.refl _ _)⟩
    case round =>
      obtain ⟨k2, cur, rfl, hk2, rfl, hcur, HD, HW⟩ := hrel
      obtain ⟨q0, q1, q2, ql, -, -, -⟩ := HQ.out.below HW.out
      by_cases hlt : k2 < len
      · have hki : (k2 : Int) < (len : Int) := by omega
        have hkl : k2 < L.length := by rw [HR.out.1]; exact hlt
        obtain ⟨g, rfl, hgl, hatt⟩ := (HR.out.2.1.old HW.out).at_ hkl
        have hc := (hatt k2 hkl).2.1
        rw [Nat.zero_add] at hc
        have hdr : L.drop k2 = L[k2] :: L.drop (k2 + 1) := (List.getElem_cons_drop hkl).symm
        obtain ⟨tt, htt⟩ : ∃ tt, tt = L[k2].to := ⟨_, rfl⟩
        have hmp : ∀ o : Option Nat, (o.map (· + 1)).map (· + k2) = o.map (· + (k2 + 1)) := fun o => by cases o <;> simp <;> omega
        have hD := HD.out
        rw [hdr] at hD
        rw [← htt] at hc
        have hap : atP tp L[k2] = (tt == tp) := by rw [htt]; rfl
        by_cases e : tt = tp
        · have hap1 : atP tp L[k2] = true := by rw [hap, e]; simp
          rw [idx_cons, if_pos hap1] at hD
          clear hdr hatt htt hap hap1
          subst e
          cases cur with
          | zero =>
            simp only [Option.map_some, Nat.zero_add] at hD
            have HD2 := Lib.hid hD
            clear hD
            go_wp2_with fail
            go_ret
            exact ⟨by rw [HRM.out, HD2.out]; rfl, HB.out.trans (HW.out.mono HB.out.size)⟩
          | succ cur =>
            simp only at hD
            rw [hmp] at hD
            have HD2 := Lib.hid hD
            have hcz : ¬ ((cur + 1 : Nat) : Int) = 0 := by omega
            have hczb : (((cur + 1 : Nat) : Int) == 0) = false := beq_eq_false_iff_ne.2 hcz
            obtain ⟨c1, hc1⟩ : ∃ c1, c1 = cur + 1 := ⟨_, rfl⟩
            rw [← hc1] at hcz hczb ⊢
            have hsub : (c1 : Int) - 1 = (cur : Int) := by omega
            have hsub2 : IntKind.i64.wrap ((c1 : Int) - 1) = (cur : Int) := by rw [IntWalk.i64_in _ (by omega)]; exact hsub
            have hcm : cur ≤ A := by omega
            clear hD hc1 hmp
            go_wp2_with fail
            go_roundw
            case rel => exact ⟨k2 + 1, cur, by go_num, by omega, by go_num, hcm, HD2, HW⟩
            case measure => simp [intOf]; omega
        · have eb : (tt == tp) = false := beq_eq_false_iff_ne.2 e
          have hap1 : ¬ atP tp L[k2] = true := by rw [hap, eb]; decide
          rw [idx_cons, if_neg hap1, hmp] at hD
          have HD2 := Lib.hid hD
          clear hdr hatt htt hap hap1 hD hmp
          go_wp2_with fail
          go_roundw
          case rel => exact ⟨k2 + 1, cur, by go_num, by omega, rfl, hcur, HD2, HW⟩
          case measure => simp [intOf]; omega
      · obtain rfl : k2 = len := by omega
        have hD := HD.out
        rw [List.drop_eq_nil_of_le (by rw [HR.out.1]; exact Nat.le_refl _)] at hD
        have HD2 : Hid (idx tp L A = none) := Lib.hid (by rw [hD, idx_nil]; rfl)
        clear hD
        go_wp2_with fail
        go_ret
        exact ⟨by rw [HRM.out, HD2.out]; rfl, HB.out.trans (HW.out.mono HB.out.size)⟩
/-! ### results in cells -/
theorem sizeB3 : (Try.prog.info? 30).map (·.size) = some 3 := by kernel_rfl
theorem loadB (w : World) (x : Nat) (n c : Int) (s : Value) (h : QBox w x n c s) (hs : s.oneCell' = true) : (loadVar 30 ⟨x, 0, none⟩).run Try.prog w = .ok (.agg #[.int .i64 n, .int .i64 c, s]) w := by
  have hl := run_loadVar_mid (P := Try.prog) w x 0 30 _ _ h.rng Try.underlying30 rfl sizeB3
  simpa using hl
theorem with_res (tmps : Array Value) (w : World) (x : Nat) (n c : Int) (s : Value) (h : QBox w x n c s) (hs : s.oneCell' = true) (h2 : tmps.getD 4 undef = .pointer (some ⟨x, 0, none⟩)) :
    (results Try.f38 tmps).run Try.prog w = .ok (.agg #[.int .i64 n, .int .i64 c, s]) w := by
  have hl := loadB w x n c s h hs
  rw [Array.getD_eq_getD_getElem?] at h2
  simp [results, Try.results38, asAddr, hl, h2]
theorem new_res (tmps : Array Value) (w : World) (x : Nat) (n c : Int) (s : Value) (er : Int) (h : QBox w x n c s) (hs : s.oneCell' = true) (h2 : tmps.getD 4 undef = .pointer (some ⟨x, 0, none⟩)) (h3 : tmps.getD 5 undef = .int .i64 er) :
    (results Try.f9 tmps).run Try.prog w = .ok (.tuple #[.agg #[.int .i64 n, .int .i64 c, s], .int .i64 er]) w := by
  have hl := loadB w x n c s h hs
  rw [Array.getD_eq_getD_getElem?] at h2 h3
  simp [results, Try.results9, asAddr, hl, h2, h3]
theorem put_res (tmps : Array Value) (w : World) (x : Nat) (n c : Int) (s : Value) (er : Int) (h : QBox w x n c s) (hs : s.oneCell' = true) (h2 : tmps.getD 4 undef = .pointer (some ⟨x, 0, none⟩)) (h3 : tmps.getD 5 undef = .int .i64 er) :
    (results Try.f15 tmps).run Try.prog w = .ok (.tuple #[.agg #[.int .i64 n, .int .i64 c, s], .int .i64 er]) w := by
  have hl := loadB w x n c s h hs
  rw [Array.getD_eq_getD_getElem?] at h2 h3
  simp [results, Try.results15, asAddr, hl, h2, h3]
theorem clear_res (tmps : Array Value) (w : World) (x : Nat) (n c : Int) (s : Value) (er : Int) (h : QBox w x n c s) (hs : s.oneCell' = true) (h2 : tmps.getD 4 undef = .pointer (some ⟨x, 0, none⟩)) (h3 : tmps.getD 5 undef = .int .i64 er) :
    (results Try.f21 tmps).run Try.prog w = .ok (.tuple #[.agg #[.int .i64 n, .int .i64 c, s], .int .i64 er]) w := by
  have hl := loadB w x n c s h hs
  rw [Array.getD_eq_getD_getElem?] at h2 h3
  simp [results, Try.results21, asAddr, hl, h2, h3]
theorem twice_res (tmps : Array Value) (w : World) (x : Nat) (n c : Int) (s : Value) (er : Int) (h : QBox w x n c s) (hs : s.oneCell' = true) (h2 : tmps.getD 6 undef = .pointer (some ⟨x, 0, none⟩)) (h3 : tmps.getD 7 undef = .int .i64 er) :
    (results Try.f19 tmps).run Try.prog w = .ok (.tuple #[.agg #[.int .i64 n, .int .i64 c, s], .int .i64 er]) w := by
  have hl := loadB w x n c s h hs
  rw [Array.getD_eq_getD_getElem?] at h2 h3
  simp [results, Try.results19, asAddr, hl, h2, h3]
theorem rtake_res (tmps : Array Value) (w : World) (x y : Nat) (n c : Int) (s : Value) (l : Lt) (er : Int) (h : QBox w x n c s) (hs : s.oneCell' = true) (hy : LBox w y l) (h2 : tmps.getD 6 undef = .pointer (some ⟨x, 0, none⟩)) (hy2 : tmps.getD 7 undef = .pointer (some ⟨y, 0, none⟩)) (h3 : tmps.getD 8 undef = .int .i64 er) :
    (results Try.f17 tmps).run Try.prog w = .ok (.tuple #[.agg #[.int .i64 n, .int .i64 c, s], lv l, .int .i64 er]) w := by
  have hl := loadB w x n c s h hs
  have hl2 := run_loadVar_mid (P := Try.prog) w y 0 39 _ _ hy.rng Try.underlying39 rfl size3
  rw [Array.getD_eq_getD_getElem?] at h2 h3 hy2
  simp [results, Try.results17, asAddr, hl, hl2, h2, h3, hy2, lcell, lv]
/-! ### New -/
def RNW (w : World) (x y E : Int) (e : Ending) (w' : World) : Prop := (∃ X Y : Int, e = .returned (.tuple #[.agg #[.int .i64 X, .int .i64 Y, .slice none 0 0], .int .i64 E]) ∧ (E = 0 → X = x ∧ Y = y)) ∧ Below w.heap.size w w'
set_option maxRecDepth 100000 in
set_option maxHeartbeats 2000000 in
theorem rnew15_any (x y : Int) (w : World) : Calls Try.prog 9 #[.int .i64 x, .int .i64 y] w (RNW w x y (newE x y)) := by
  have hb1 := bal (Below.refl _ w) (.cells #[.int .i64 0, .int .i64 0, .slice none 0 0] 30)
  have hq := QBox.new w 0 0 (.slice none 0 0)
  obtain ⟨o1, ho1⟩ : ∃ o, o = Obj.cells #[.int .i64 0, .int .i64 0, .slice none 0 0] 30 := ⟨_, rfl⟩
  rw [← ho1] at hb1 hq
  have HO1 := Lib.hid ho1
  obtain ⟨w1, hw1⟩ : ∃ w1, w1 = w.alloc o1 := ⟨_, rfl⟩
  obtain ⟨xb, hx⟩ : ∃ xb, xb = w.heap.size := ⟨_, rfl⟩
  rw [← hw1] at hb1 hq
  rw [← hx] at hq
  have HW1 := Lib.hid hw1
  have HX := Lib.hid hx
  have HB := Lib.hid hb1
  have HQ := Lib.hid hq
  have HXL : Hid (w.heap.size ≤ xb) := Lib.hid (by rw [hx]; exact Nat.le_refl _)
  obtain ⟨E, hE⟩ : ∃ E, E = newE x y := ⟨_, rfl⟩
  rw [← hE]
  have HE := Lib.hid hE
  obtain ⟨q0, q1, q2, ql, f0, f1, f2⟩ := hq
  clear ho1 hw1 hx hb1 hE
  go_enter Try.func9, Try.ntmps9
  go_upto_region 1 with fail
  rw [← HO1.out, ← HX.out, ← HW1.out]
  by_cases h : 1 ≤ x ∧ x ≤ 6 ∧ 1 ≤ y ∧ y ≤ 8
  · obtain rfl : E = 0 := by rw [HE.out]; exact if_pos h
    obtain ⟨h1, h2, h3, h4⟩ := h
    have g1 : ¬ x < 1 := by omega
    have g2 : ¬ 6 < x := by omega
    have g3 : ¬ y < 1 := by omega
    have g4 : ¬ 8 < y := by omega
    clear h1 h2 h3 h4
    go_wp2_with fail
    refine bodyPost_ret (v := .tuple #[.agg #[.int .i64 x, .int .i64 y, .slice none 0 0], .int .i64 0]) ?_ rfl ⟨⟨x, y, rfl, fun _ => ⟨rfl, rfl⟩⟩, set3_below HB.out HXL.out _ _ _⟩
    exact new_res _ _ xb _ _ _ _ HQ.out.store rfl rfl rfl
  · obtain rfl : E = 1 := by rw [HE.out]; exact if_neg h
    have fin : ∀ (K : Prop), K → K := fun _ h => h
    by_cases g1 : x < 1
    · clear h fin
      go_wp2_with fail
      refine bodyPost_ret (v := .tuple #[.agg #[.int .i64 0, .int .i64 0, .slice none 0 0], .int .i64 1]) ?_ rfl ⟨⟨0, 0, rfl, fun h => (by cases h)⟩, set3_below HB.out HXL.out _ _ _⟩
      exact new_res _ _ xb _ _ _ _ HQ.out.store rfl rfl rfl
    · by_cases g2 : 6 < x
      · clear h fin
        go_wp2_with fail
        refine bodyPost_ret (v := .tuple #[.agg #[.int .i64 0, .int .i64 0, .slice none 0 0], .int .i64 1]) ?_ rfl ⟨⟨0, 0, rfl, fun h => (by cases h)⟩, set3_below HB.out HXL.out _ _ _⟩
        exact new_res _ _ xb _ _ _ _ HQ.out.store rfl rfl rfl
      · by_cases g3 : y < 1
        · clear h fin
          go_wp2_with fail
          refine bodyPost_ret (v := .tuple #[.agg #[.int .i64 0, .int .i64 0, .slice none 0 0], .int .i64 1]) ?_ rfl ⟨⟨0, 0, rfl, fun h => (by cases h)⟩, set3_below HB.out HXL.out _ _ _⟩
          exact new_res _ _ xb _ _ _ _ HQ.out.store rfl rfl rfl
        · have g4 : 8 < y := by omega
          clear h fin
          go_wp2_with fail
          refine bodyPost_ret (v := .tuple #[.agg #[.int .i64 0, .int .i64 0, .slice none 0 0], .int .i64 1]) ?_ rfl ⟨⟨0, 0, rfl, fun h => (by cases h)⟩, set3_below HB.out HXL.out _ _ _⟩
          exact new_res _ _ xb _ _ _ _ HQ.out.store rfl rfl rfl
/-! ### with -/
def WTH (w : World) (n c : Nat) (L : List Lt) (e : Ending) (w' : World) : Prop := ∃ a cap, e = .returned (.agg #[.int .i64 (n : Int), .int .i64 (c : Int), .slice a L.length cap]) ∧ RefB w' a L.length cap L ∧ Below w.heap.size w w' ∧ ∀ g, a = some ⟨g, 0, none⟩ → w.heap.size ≤ g
set_option maxRecDepth 100000 in
set_option maxHeartbeats 4000000 in
theorem rwith15_any (n c : Nat) (a : Option Addr) (len cap : Nat) (L : List Lt) (l : Lt) (w : World) (h : RefB w a len cap L) (hl : len ≤ 1000) : Calls Try.prog 38 #[.agg #[.int .i64 (n : Int), .int .i64 (c : Int), .slice a len cap], .agg #[.int .i64 l.fr, .int .i64 l.to, .string l.tx]] w (WTH w n c (L ++ [l])) := by
  obtain ⟨i0, hi, hz0, hz1, hz2⟩ := infoLt_parts
  have hb1 := bal (Below.refl _ w) (.cells #[.int .i64 (n : Int), .int .i64 (c : Int), .slice a len cap] 30)
  have hq1 := QBox.new w n c (.slice a len cap)
  obtain ⟨w1, hw1⟩ : ∃ w1, w1 = w.alloc (.cells #[.int .i64 (n : Int), .int .i64 (c : Int), .slice a len cap] 30) := ⟨_, rfl⟩
  rw [← hw1] at hb1 hq1
  have hs1 : w1.heap.size = w.heap.size + 1 := by rw [hw1]; simp
  have hb2 := bal (Below.refl _ w1) (.cells #[.int .i64 l.fr, .int .i64 l.to, .string l.tx] 39)
  have hq2 := LBox.new w1 l
  obtain ⟨w2, hw2⟩ : ∃ w2, w2 = w1.alloc (.cells #[.int .i64 l.fr, .int .i64 l.to, .string l.tx] 39) := ⟨_, rfl⟩
  rw [← hw2] at hb2 hq2
  have hs2 : w2.heap.size = w1.heap.size + 1 := by rw [hw2]; simp
  have hb3 := bal (Below.refl _ w2) (.cells #[.int .i64 0, .int .i64 0, .slice none 0 0] 30)
  have hq3 := QBox.new w2 0 0 (.slice none 0 0)
  obtain ⟨w3, hw3⟩ : ∃ w3, w3 = w2.alloc (.cells #[.int .i64 0, .int .i64 0, .slice none 0 0] 30) := ⟨_, rfl⟩
  rw [← hw3] at hb3 hq3
  have HQ1 := Lib.hid ((hq1.below hb2).below hb3)
  have HQ2 := Lib.hid (hq2.below hb3)
  have HQ3 := Lib.hid hq3
  have HB := Lib.hid (bt (bt hb1 hb2) hb3)
  have HW := Lib.hid (And.intro hw1 (And.intro hw2 hw3))
  have HS := Lib.hid (And.intro hs1 hs2)
  have HR := Lib.hid (h.old (bt (bt hb1 hb2) hb3))
  clear hb1 hb2 hb3 hq1 hq2 hq3 hw1 hw2 hw3 hs1 hs2 h
  go_enter Try.func38, Try.ntmps38
  go_upto_region 1 with fail
  rw [← HW.out.1, ← HW.out.2.1, ← HW.out.2.2]
  obtain ⟨x3, hx3⟩ : ∃ x3, x3 = w.heap.size + 1 + 1 := ⟨_, rfl⟩
  obtain ⟨x2, hx2⟩ : ∃ x2, x2 = w.heap.size + 1 := ⟨_, rfl⟩
  obtain ⟨x1, hx1⟩ : ∃ x1, x1 = w.heap.size := ⟨_, rfl⟩
  rw [← hx3, ← hx2, ← hx1]
  have hq1 : QBox w3 x1 n c (.slice a len cap) := by rw [hx1]; exact HQ1.out
  have hq2 : LBox w3 x2 l := by rw [hx2, ← HS.out.1]; exact HQ2.out
  have hq3 : QBox w3 x3 0 0 (.slice none 0 0) := by rw [hx3, ← HS.out.1, ← HS.out.2]; exact HQ3.out
  have HG1 := Lib.hid hq1
  have HG2 := Lib.hid hq2
  have HG3 := Lib.hid hq3
  have HXX : Hid (w.heap.size ≤ x1 ∧ w.heap.size ≤ x3 ∧ x1 ≠ x3) := Lib.hid (by omega)
  obtain ⟨q0, q1, q2, ql, -, -, -⟩ := hq1
  clear hx1 hx2 hx3 hq2 hq3 HQ1 HQ2 HQ3 HW
  have hall : ∀ y, a = some y → ∀ j u, (lcs L)[j]? = some u → w3.cell? (y.add j) = some u := by
    intro y hy j u hj
    rcases HR.out.2.1 with h0 | ⟨g, rfl, hgl, hat⟩
    · rw [h0] at hj; simp [lcs] at hj
    · cases hy
      have := LtAt.cells hat 0 j u (by simpa using hj)
      simpa using this
  have hnone : a = none → len = 0 := fun e => by
    rcases HR.out.2.1 with h0 | ⟨g, hg, _⟩
    · rw [← HR.out.1, h0]; rfl
    · rw [e] at hg; cases hg
  have HALL := Lib.hid hall
  have HNO := Lib.hid hnone
  have HLEN := Lib.hid HR.out.1
  clear hall hnone
  go_wp2_with (at_builtin; refine wpList_append_any rfl (.tmp 6) (.tmp 8) 28 rfl w3.heap.size 39 i0 (.agg #[.int .i64 0, .int .i64 0, .string ⟨#[]⟩]) 3 32 Try.underlying28 hi hz0 hz1 hz2 rfl (by decide) (.slice none 0 0) 0 [] rfl (World.ownsRow_nil _ _ _ _) a len cap (lcs L) rfl ?d1 ?d2 ?d3 ?d4 ?d5 ?d6 ?d7 ?_)
  case d1 => exact HNO.out
  case d2 => rw [lcs_len, HLEN.out]
  case d3 => exact HALL.out
  case d4 => exact lcs_one _
  case d5 => unfold maxLen; omega
  case d6 => omega
  case d7 => exact Nat.le_refl _
  intro v4 w4 hown4 hb4
  obtain ⟨x4, rfl⟩ := own_sV hown4
  have HO4 := Lib.hid hown4
  have HB4 := Lib.hid hb4
  obtain ⟨l0, l1, l2, ll, -, -, -⟩ := HG2.out.below hb4
  have g1 := HG1.out.below hb4
  obtain ⟨q0, q1, q2, ql, f0, f1, f2⟩ := g1
  clear hown4 hb4
  have HNW := Lib.hid (cell_new3 w4 (.int .i64 l.fr) (.int .i64 l.to) (.string l.tx) 39)
  have HAL := Lib.hid (bal HB4.out (.cells #[.int .i64 l.fr, .int .i64 l.to, .string l.tx] 39))
  have HO5 := Lib.hid (HO4.out.alloc (.cells #[.int .i64 l.fr, .int .i64 l.to, .string l.tx] 39))
  go_upto_region 3 with fail
  obtain ⟨w5, hw5⟩ : ∃ w5, w5 = w4.alloc (.cells #[.int .i64 l.fr, .int .i64 l.to, .string l.tx] 39) := ⟨_, rfl⟩
  rw [← hw5] at HNW HAL HO5
  have HW5 := Lib.hid hw5
  clear hw5
  go_wp2_with (at_builtin; rw [← HW5.out]; refine wpList_append_own _ rfl (.tmp 10) (.tmp 12) 28 rfl w3.heap.size 39 i0 (.agg #[.int .i64 0, .int .i64 0, .string ⟨#[]⟩]) 3 32 Try.underlying28 hi hz0 hz1 hz2 rfl (by decide) _ _ _ rfl HO5.out ⟨w4.heap.size, 0, none⟩ 1 1 (lcell l) rfl rfl ?c1 ?c2 ?c3 ?c4 ?c5 ?_)
  case c1 => exact HNW.out
  case c2 => exact lcs_one [l]
  case c3 => unfold maxLen; omega
  case c4 => omega
  case c5 => have := HAL.out.size; exact this
  intro v6 w6 hown6 hgrow6 _
  obtain ⟨x6, rfl⟩ := own_sV hown6
  have hb6 : Below w3.heap.size w3 w6 := HAL.out.grown hgrow6 HAL.out.size (fun k hk => (HO5.out.lt k hk).1)
  have HO6 : Hid (w6.ownsRow w3.heap.size 39 3 (sV x6) (L ++ [l]).length (lcs (L ++ [l]))) := Lib.hid (by
    have h := hown6
    rw [lcs_app, List.length_append, HLEN.out]
    exact h)
  have HB6 := Lib.hid hb6
  have g1 := HG1.out.below hb6
  have hg1 := g1.set2 (sV x6)
  have hg3 := (HG3.out.below hb6)
  have hg3b := hg3.kp (w' := w6.setCell ⟨x1, 2, none⟩ (sV x6)) (Below.heap_setCell _ _ _ _ (fun e => HXX.out.2.2 e.symm)) (by simp)
  have HF1 := Lib.hid hg1
  have HF3 := Lib.hid hg3b
  obtain ⟨q0, q1, q2, ql, f0, f1, f2⟩ := g1
  obtain ⟨aa, cc, hsv, _⟩ := own_len HO6.out
  have hxl : x1 < w3.heap.size ∧ x3 < w3.heap.size := ⟨HG1.out.lt, HG3.out.lt⟩
  obtain ⟨m1, hm1⟩ : ∃ m1, m1 = (L ++ [l]).length := ⟨_, rfl⟩
  rw [← hm1] at hsv
  have HM1 := Lib.hid hm1
  have HSV := Lib.hid hsv
  have HO7 : Hid (w6.ownsRow w3.heap.size 39 3 (.slice aa m1 cc) m1 (lcs (L ++ [l]))) := Lib.hid (by rw [← HSV.out, hm1]; exact HO6.out)
  have HXL := Lib.hid hxl
  have HB7 : Hid (Below w.heap.size w (w6.setCell ⟨x1, 2, none⟩ (.slice aa m1 cc))) := Lib.hid ((HB.out.trans (HB6.out.mono HB.out.size)).setCell (p := ⟨x1, 2, none⟩) HXX.out.1 _)
  rw [hsv] at hg1 hg3b HF1 HF3 ⊢
  clear hown6 hgrow6 hb6 hg3 hsv hm1 hxl
  go_upto_region 4 with fail
  have HK : Hid (∀ g, w3.heap.size ≤ g → ∀ W : World, W = w6.setCell ⟨x1, 2, none⟩ (.slice aa m1 cc) → W.heap[g]? = w6.heap[g]?) := Lib.hid fun g hg W e => by
    rw [e]; exact Below.heap_setCell _ _ _ _ (fun e2 => by have := HXL.out.1; have e3 : g = x1 := e2; omega)
  obtain ⟨W7, hW7⟩ : ∃ W7, W7 = w6.setCell ⟨x1, 2, none⟩ (.slice aa m1 cc) := ⟨_, rfl⟩
  rw [← hW7] at hg1 hg3b HF1 HF3 HB7 ⊢
  have HW7 := Lib.hid hW7
  have HS7 : Hid (W7.heap.size = w6.heap.size) := Lib.hid (by rw [hW7]; simp)
  clear hW7 q0 q1 q2 ql f0 f1 f2
  obtain ⟨z0, z1, z2, zl, -, -, -⟩ := hg1
  obtain ⟨y0, y1, y2, yl, k0, k1, k2⟩ := hg3b
  go_wp2_with fail
  refine bodyPost_ret (v := .agg #[.int .i64 (n : Int), .int .i64 (c : Int), .slice aa m1 cc]) ?_ rfl ?_
  · exact with_res _ _ x3 _ _ _ HF3.out.store rfl rfl
  · unfold WTH
    rw [← HM1.out]
    refine ⟨aa, cc, rfl, ?_, set3_below HB7.out HXX.out.2.1 _ _ _, fun g hg => Nat.le_trans HB.out.size (HO7.out.lt g (by rw [hg]; rfl)).1⟩
    obtain ⟨hr, hc1, hc2⟩ := own_rdl HO7.out HM1.out.symm
    refine ⟨HM1.out.symm, hr.kp (fun g hg => ?_) (by simp [HS7.out]), hc1, hc2⟩
    have hgw : w3.heap.size ≤ g := (HO7.out.lt g (by rw [hg]; rfl)).1
    have hx3 := HXL.out.2
    have hne : g ≠ x3 := by omega
    have e1 := HK.out g hgw W7 HW7.out
    rw [← e1]
    exact ((Below.heap_setCell _ _ _ _ hne).trans (Below.heap_setCell _ _ _ _ hne)).trans (Below.heap_setCell _ _ _ _ hne)
end Go.Proofs.Ytkljokmhfoannaa
