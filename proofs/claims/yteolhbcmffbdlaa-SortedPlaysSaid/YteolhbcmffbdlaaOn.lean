/-
  Layer 7 (sorted): the contract of the document's own From. Conditions: fewer keys than 1000.
-/
import Derived.Test.YteolhbcmffbdlaaOl
namespace Go.Proofs.Yteolhbcmffbdlaa
open Go.RowKit
set_option linter.unusedVariables false
set_option linter.unusedSimpArgs false

theorem RefV.part {w : World} {a va : Option Addr} {c vc : Nat} {l : List (Ky × Int)} (h1 : Rd w a (l.map (·.1))) (h2 : RdZ w va (l.map (·.2))) (hc : l.length ≤ c) (hvc : l.length ≤ vc) (hcm : c ≤ maxLen) (hvm : vc ≤ maxLen) (k n : Nat) (hk : k + n ≤ l.length) :
    RefV w (.agg #[.slice (if c = k then a else a.map fun x => x.add k) n (c - k), .slice (if vc = k then va else va.map fun x => x.add k) n (vc - k)]) ((l.drop k).take n) := by
  have e : ((l.drop k).take n).length = n := by simp; omega
  refine ⟨_, _, _, _, by rw [e], ?_, ?_, by rw [e]; omega, by rw [e]; omega, by omega, by omega⟩
  · have h := (h1.cut (cap := c) (l := k) (by simp; omega) (by simpa using hc)).take n
    rw [List.map_take, List.map_drop]
    exact h
  · have h := (h2.cut (cap := vc) (l := k) (by simp; omega) (by simpa using hvc)).take n
    rw [List.map_take, List.map_drop]
    exact h
set_option maxRecDepth 100000 in
set_option maxHeartbeats 2000000 in
theorem rfrom_any {w : World} {q : Value} {l : List (Ky × Int)} (h : RefV w q l) (hr : Rise l) (hl : l.length ≤ 999) (k : Ky) (most : Int) (hmost : -9223372036854775808 ≤ most ∧ most ≤ 9223372036854775807) :
    Calls Try.prog 18 #[q, .string ⟨k.toArray⟩, .int .i64 most] w fun e w' => ∃ q', e = .returned q' ∧ RefV w' q' ((fromA k l).take most.toNat) ∧ Below w.heap.size w w' := by
  obtain ⟨a, c, va, vc, rfl, h1, h2, h3, h4, h5, h6⟩ := h
  obtain ⟨x, r, i1, i2, i3, i4, i5, i6, i7, i8, i9⟩ := place_of hr k
  have P := Lib.hid (place_ref (c := c) (vals := .slice va l.length vc) h1 (by omega) i1 i2)
  obtain ⟨nn, hnn⟩ : ∃ nn : Nat, max 0 (min most ((l.length : Int) - (x.length : Int))) = (nn : Int) := ⟨(max 0 (min most ((l.length : Int) - (x.length : Int)))).toNat, by omega⟩
  have hle : x.length ≤ l.length := by omega
  have hle2 : x.length + nn ≤ l.length := by omega
  have htake : (l.drop x.length).take nn = (fromA k l).take most.toNat := by
    rw [i9]
    by_cases hm : most.toNat ≤ l.length - x.length
    · congr 1; omega
    · rw [List.take_of_length_le (by simp; omega), List.take_of_length_le (by simp; omega)]
  have Q := Lib.hid (RefV.part h1 h2 h3 h4 h5 h6 x.length nn hle2)
  rw [htake] at Q
  have hsum : IntKind.i64.wrap ((x.length : Int) + (nn : Int)) = ((x.length + nn : Nat) : Int) := by rw [IntWalk.i64_in _ (by omega)]; omega
  obtain ⟨b, hb⟩ : ∃ b, b = (getA k l).isSome := ⟨_, rfl⟩
  rw [← hb] at P
  obtain ⟨n, hn⟩ : ∃ n, n = l.length := ⟨_, rfl⟩
  obtain ⟨xn, hx⟩ : ∃ xn, xn = x.length := ⟨_, rfl⟩
  obtain ⟨p, hp⟩ : ∃ p, p = xn + nn := ⟨_, rfl⟩
  rw [← hx] at P hnn hle hle2 hsum Q
  rw [← hn] at P hl hnn hle hle2 h3 h4 ⊢
  rw [← hp] at hsum hle2
  have hpc : p ≤ c := by omega
  have hpvc : p ≤ vc := by omega
  have hxp : xn ≤ p := by omega
  have hpx : p - xn = nn := by omega
  have hc1 : (p : Int) ≤ (c : Int) := by omega
  have hc2 : (p : Int) ≤ (vc : Int) := by omega
  have hc3 : (xn : Int) ≤ (p : Int) := by omega
  have hc4 : (0 : Int) ≤ (xn : Int) := by omega
  have hc5 : (0 : Int) ≤ (p : Int) := by omega
  have HNN := Lib.hid hnn
  have HMO := Lib.hid hmost
  clear hmost
  unfold maxLen at h5 h6
  obtain ⟨ad, hAd⟩ : ∃ ad, ad = (if c = xn then a else Option.map (fun x => x.add xn) a) := ⟨_, rfl⟩
  obtain ⟨vd, hVd⟩ : ∃ vd, vd = (if vc = xn then va else Option.map (fun x => x.add xn) va) := ⟨_, rfl⟩
  rw [← hAd, ← hVd] at Q
  have HAD := Lib.hid hAd
  have HVD := Lib.hid hVd
  have HPX := Lib.hid hpx
  clear h1 h2 i1 i2 i3 i4 i5 i6 i7 i8 i9 hn hr hb hx hp htake hnn hAd hVd hpx
  go_enter Try.func18, Try.ntmps18
  go_wp2_with fail
  refine (P.out _ (((Below.refl _ _).alloc (Nat.le_refl _) _).alloc (by simp) _)).mono ?_
  rintro e w1 ⟨rfl, b1⟩
  obtain ⟨hcc1, hff1⟩ := bcell b1
  have hz := b1.size
  simp only [World.size_alloc] at hz
  have hs0 : w.heap.size < w1.heap.size := by omega
  have hs1 : w.heap.size + 1 < w1.heap.size := by omega
  have y0 : w1.cell? ⟨w.heap.size, 0, none⟩ = some (.slice a n c) := by rw [hcc1 _ _ (by simp; omega)]; simp
  have y1 : w1.cell? ⟨w.heap.size, 1, none⟩ = some (.slice va n vc) := by rw [hcc1 _ _ (by simp; omega)]; simp
  have x0 : w1.cell? ⟨w.heap.size + 1, 0, none⟩ = some (.slice none 0 0) := by rw [hcc1 _ _ (by simp)]; simp
  have x1 : w1.cell? ⟨w.heap.size + 1, 1, none⟩ = some (.slice none 0 0) := by rw [hcc1 _ _ (by simp)]; simp
  have f0 : w1.frozen? ⟨w.heap.size + 1, 0, none⟩ = false := by rw [hff1 _ _ (by simp)]; simp [go_sem]
  have f1 : w1.frozen? ⟨w.heap.size + 1, 1, none⟩ = false := by rw [hff1 _ _ (by simp)]; simp [go_sem]
  have B1 := Lib.hid ((((Below.refl w.heap.size w).alloc (Nat.le_refl _) _).alloc (by simp) _).trans (b1.mono (by simp; omega)))
  clear b1 hcc1 hff1
  have hnn := HNN.out
  go_wp2_with fail
  clear hnn
  refine below_tail 15 (by kernel_rfl) (by kernel_rfl) ?_
  simp only [List.take_succ_cons, List.take_zero, List.drop_succ_cons, List.drop_zero]
  repeat (first
    | go_big_quiet_skip
    | (go_big_quiet_want
       first
       | (refine BigFrame.quiet_move _ rfl ?_)
       | (refine BigFrame.quiet_assign _ rfl ?_)
       | (unfold Oper.quiet
          apply Exists.intro
          refine ⟨fun w' hw' => ?_, ?_⟩
          · (obtain ⟨hc', hf'⟩ := bcell hw'
             go_simp
             first
             | done
             | exact rfl))
       go_big_quiet_on
       simp only [Act.put, Act.eval, List.setIfInBounds_toArray, List.set_cons_zero, List.set_cons_succ, Array.getD_eq_getD_getElem?, List.getElem?_toArray, List.getElem?_cons_zero, List.getElem?_cons_succ, Option.getD_some]))
  refine wpQuiet_nil ?_
  intro w' hw'
  rw [← HAD.out, ← HVD.out]
  have z0 := (hw'.cell (p := ⟨w.heap.size + 1, 0, none⟩) hs1).trans x0
  have z1 := (hw'.cell (p := ⟨w.heap.size + 1, 1, none⟩) hs1).trans x1
  have g0 := (hw'.frozen (p := ⟨w.heap.size + 1, 0, none⟩) hs1).trans f0
  have g1 := (hw'.frozen (p := ⟨w.heap.size + 1, 1, none⟩) hs1).trans f1
  have B2 := Lib.hid (B1.out.trans (hw'.mono B1.out.size))
  clear hw' x0 x1 f0 f1 y0 y1
  go_wp2_with fail
  rw [HPX.out]
  have hB := (B2.out.setCell (p := ⟨w.heap.size + 1, 0, none⟩) (by show w.heap.size ≤ w.heap.size + 1; omega) (.slice ad nn (c - xn))).setCell (p := ⟨w.heap.size + 1, 1, none⟩) (by show w.heap.size ≤ w.heap.size + 1; omega) (.slice vd nn (vc - xn))
  have d0 : ((w'.setCell ⟨w.heap.size + 1, 0, none⟩ (.slice ad nn (c - xn))).setCell ⟨w.heap.size + 1, 1, none⟩ (.slice vd nn (vc - xn))).cell? ⟨w.heap.size + 1, 0, none⟩ = some (.slice ad nn (c - xn)) := by
    rw [World.cell?_setCell_other _ _ _ _ (by intro e; simp at e)]
    exact World.cell?_setCell_same' _ _ _ (by rw [z0]; rfl)
  have d1 : ((w'.setCell ⟨w.heap.size + 1, 0, none⟩ (.slice ad nn (c - xn))).setCell ⟨w.heap.size + 1, 1, none⟩ (.slice vd nn (vc - xn))).cell? ⟨w.heap.size + 1, 1, none⟩ = some (.slice vd nn (vc - xn)) := by
    refine World.cell?_setCell_same' _ _ _ ?_
    rw [World.cell?_setCell_other _ _ _ _ (by intro e; simp at e), z1]; rfl
  refine bodyPost_ret (v := .agg #[.slice ad nn (c - xn), .slice vd nn (vc - xn)]) (by simp [results, Try.f18, go_sem, d0, d1]) rfl ?_
  exact ⟨_, rfl, Q.out.old hB, hB⟩
end Go.Proofs.Yteolhbcmffbdlaa
