/-
  Layer 14 (once): the walk of OnceJoins. Conditions: none beyond the row's own.
-/
import Derived.Test.YtnjpgepdfclalaaNr
namespace Go.Proofs.Ytnjpgepdfclalaa
open Go.RowKit
set_option linter.unusedVariables false
set_option linter.unusedSimpArgs false

theorem b_al5 {Wb w1 : World} {t : TypeId} (bb : Below (Wb.alloc (.cells #[.int .i64 0, .string ⟨#[]⟩, .bool false, .slice none 0 0, .string ⟨#[]⟩] t)).heap.size (Wb.alloc (.cells #[.int .i64 0, .string ⟨#[]⟩, .bool false, .slice none 0 0, .string ⟨#[]⟩] t)) w1) : w1.cell? ⟨Wb.heap.size, 0, none⟩ = some (.int .i64 0) ∧ w1.cell? ⟨Wb.heap.size, 1, none⟩ = some (.string ⟨#[]⟩) ∧ w1.cell? ⟨Wb.heap.size, 2, none⟩ = some (.bool false) ∧ w1.cell? ⟨Wb.heap.size, 3, none⟩ = some (.slice none 0 0) ∧ w1.cell? ⟨Wb.heap.size, 4, none⟩ = some (.string ⟨#[]⟩) ∧ w1.frozen? ⟨Wb.heap.size, 0, none⟩ = false ∧ w1.frozen? ⟨Wb.heap.size, 1, none⟩ = false ∧ w1.frozen? ⟨Wb.heap.size, 2, none⟩ = false ∧ w1.frozen? ⟨Wb.heap.size, 3, none⟩ = false ∧ w1.frozen? ⟨Wb.heap.size, 4, none⟩ = false ∧ Wb.heap.size < w1.heap.size :=
  ⟨(bb.cell (p := ⟨Wb.heap.size, 0, none⟩) (by simp)).trans (by simp), (bb.cell (p := ⟨Wb.heap.size, 1, none⟩) (by simp)).trans (by simp), (bb.cell (p := ⟨Wb.heap.size, 2, none⟩) (by simp)).trans (by simp), (bb.cell (p := ⟨Wb.heap.size, 3, none⟩) (by simp)).trans (by simp), (bb.cell (p := ⟨Wb.heap.size, 4, none⟩) (by simp)).trans (by simp), (bb.frozen (p := ⟨Wb.heap.size, 0, none⟩) (by simp)).trans (by simp), (bb.frozen (p := ⟨Wb.heap.size, 1, none⟩) (by simp)).trans (by simp), (bb.frozen (p := ⟨Wb.heap.size, 2, none⟩) (by simp)).trans (by simp), (bb.frozen (p := ⟨Wb.heap.size, 3, none⟩) (by simp)).trans (by simp), (bb.frozen (p := ⟨Wb.heap.size, 4, none⟩) (by simp)).trans (by simp), by have := bb.size; simp at this; omega⟩
theorem b_al5d {Wb w1 : World} {t : TypeId} (bb : Below (Wb.alloc (.cells #[.int .i64 0, .string ⟨#[]⟩, .bool false, .slice none 0 0, .string ⟨#[]⟩] t)).drew.heap.size (Wb.alloc (.cells #[.int .i64 0, .string ⟨#[]⟩, .bool false, .slice none 0 0, .string ⟨#[]⟩] t)).drew w1) : w1.cell? ⟨Wb.heap.size, 0, none⟩ = some (.int .i64 0) ∧ w1.cell? ⟨Wb.heap.size, 1, none⟩ = some (.string ⟨#[]⟩) ∧ w1.cell? ⟨Wb.heap.size, 2, none⟩ = some (.bool false) ∧ w1.cell? ⟨Wb.heap.size, 3, none⟩ = some (.slice none 0 0) ∧ w1.cell? ⟨Wb.heap.size, 4, none⟩ = some (.string ⟨#[]⟩) ∧ w1.frozen? ⟨Wb.heap.size, 0, none⟩ = false ∧ w1.frozen? ⟨Wb.heap.size, 1, none⟩ = false ∧ w1.frozen? ⟨Wb.heap.size, 2, none⟩ = false ∧ w1.frozen? ⟨Wb.heap.size, 3, none⟩ = false ∧ w1.frozen? ⟨Wb.heap.size, 4, none⟩ = false ∧ Wb.heap.size < w1.heap.size :=
  ⟨(bb.cell (p := ⟨Wb.heap.size, 0, none⟩) (by simp)).trans (by simp), (bb.cell (p := ⟨Wb.heap.size, 1, none⟩) (by simp)).trans (by simp), (bb.cell (p := ⟨Wb.heap.size, 2, none⟩) (by simp)).trans (by simp), (bb.cell (p := ⟨Wb.heap.size, 3, none⟩) (by simp)).trans (by simp), (bb.cell (p := ⟨Wb.heap.size, 4, none⟩) (by simp)).trans (by simp), (bb.frozen (p := ⟨Wb.heap.size, 0, none⟩) (by simp)).trans (by simp), (bb.frozen (p := ⟨Wb.heap.size, 1, none⟩) (by simp)).trans (by simp), (bb.frozen (p := ⟨Wb.heap.size, 2, none⟩) (by simp)).trans (by simp), (bb.frozen (p := ⟨Wb.heap.size, 3, none⟩) (by simp)).trans (by simp), (bb.frozen (p := ⟨Wb.heap.size, 4, none⟩) (by simp)).trans (by simp), by have := bb.size; simp at this; omega⟩
theorem bchain5 {w W w1 : World} (bb : Below W.heap.size W w1) (h : Below w.heap.size w W) : Below w.heap.size w w1 := h.trans (bb.mono h.size)
theorem keep5 {W : World} {g qb i j : Nat} {A B : Value} (hn : ¬ g = qb) (h : W.cell? ⟨qb, i, none⟩ = some A ∧ W.cell? ⟨qb, j, none⟩ = some B) (v0 v1 v2 v3 v4 : Value) :
    (((((W.setCell ⟨g, 0, none⟩ v0).setCell ⟨g, 1, none⟩ v1).setCell ⟨g, 2, none⟩ v2).setCell ⟨g, 3, none⟩ v3).setCell ⟨g, 4, none⟩ v4).cell? ⟨qb, i, none⟩ = some A ∧ (((((W.setCell ⟨g, 0, none⟩ v0).setCell ⟨g, 1, none⟩ v1).setCell ⟨g, 2, none⟩ v2).setCell ⟨g, 3, none⟩ v3).setCell ⟨g, 4, none⟩ v4).cell? ⟨qb, j, none⟩ = some B := by
  have hk : ∀ i j (V : Value) (X : World), (X.setCell ⟨g, i, none⟩ V).cell? ⟨qb, j, none⟩ = X.cell? ⟨qb, j, none⟩ := fun i j V X => World.cell?_setCell_other _ _ _ _ (fun e => hn (by injection e))
  simp only [hk]; exact h
theorem chain5 {w W : World} {g : Nat} (hZ : Below w.heap.size w W) (hg : w.heap.size ≤ g) (v0 v1 v2 v3 v4 : Value) : Below w.heap.size w (((((W.setCell ⟨g, 0, none⟩ v0).setCell ⟨g, 1, none⟩ v1).setCell ⟨g, 2, none⟩ v2).setCell ⟨g, 3, none⟩ v3).setCell ⟨g, 4, none⟩ v4) :=
  ((((hZ.setCell (p := ⟨g, 0, none⟩) hg v0).setCell (p := ⟨g, 1, none⟩) hg v1).setCell (p := ⟨g, 2, none⟩) hg v2).setCell (p := ⟨g, 3, none⟩) hg v3).setCell (p := ⟨g, 4, none⟩) hg v4
theorem cs_eq {x y : Sn} (h : csS x = csS y) : x.c = y.c ∧ x.s = y.s := by
  unfold csS at h
  injection h with h1 h2
  exact ⟨h1, h2⟩
theorem bare_jr (a b : List Sn) : ∀ x ∈ jnR a b, bareS x := by
  unfold jnR
  by_cases h : (chk a && chk b) = true
  · rw [if_pos h]
    rw [Bool.and_eq_true] at h
    exact bare_chk (jn_chk h.1 h.2)
  · rw [if_neg h]; intro x hx; simp at hx
set_option maxRecDepth 100000 in
set_option maxHeartbeats 8000000 in
theorem walk_OnceJoins (a0 : Option Addr) (n0 p0 : Nat) (l0 : List Sn) (a1 : Option Addr) (n1 p1 : Nat) (l1 : List Sn) (w : World) (h0 : SS w a0 n0 p0 l0) (h1 : SS w a1 n1 p1 l1) :
    Calls Try.prog 4 #[.slice a0 n0 p0, .slice a1 n1 p1] w fun e w' => e = .returned (.bool true) ∧ Below w.heap.size w w' := by
  obtain ⟨b0, hb0⟩ : ∃ b, b = liteS l0 := ⟨_, rfl⟩
  obtain ⟨b1, hb1⟩ : ∃ b, b = liteS l1 := ⟨_, rfl⟩
  have HL0 := Lib.hid (light14_any a0 n0 p0 l0 b0 hb0.symm w h0)
  have HL1 := Lib.hid (fun W (hW : Below w.heap.size w W) => light14_any a1 n1 p1 l1 b1 hb1.symm W (h1.old hW))
  obtain ⟨x, hx⟩ : ∃ x, x = md l0 := ⟨_, rfl⟩
  obtain ⟨y, hy⟩ : ∃ y, y = md l1 := ⟨_, rfl⟩
  have HM0 := Lib.hid (fun W (hW : Below w.heap.size w W) => made14_any a0 n0 p0 l0 W (h0.old hW))
  have HM1 := Lib.hid (fun W (hW : Below w.heap.size w W) => made14_any a1 n1 p1 l1 W (h1.old hW))
  rw [← hx] at HM0
  rw [← hy] at HM1
  have HX := Lib.hid (show chk x = true by rw [hx]; exact md_chk _)
  have HY := Lib.hid (show chk y = true by rw [hy]; exact md_chk _)
  obtain ⟨E, hE⟩ : ∃ E, E = jnE l0 l1 := ⟨_, rfl⟩
  obtain ⟨L1, hL1⟩ : ∃ L, L = (jnR l0 l1).map normS := ⟨_, rfl⟩
  obtain ⟨L2, hL2⟩ : ∃ L, L = jnR l0 l1 := ⟨_, rfl⟩
  have HJ1 := Lib.hid (fun W (hW : Below w.heap.size w W) => join14_any a0 n0 p0 l0 a1 n1 p1 l1 W (h0.old hW) (h1.old hW))
  have HJ2 := Lib.hid (fun W (hW : Below w.heap.size w W) => rJoin14_any a0 n0 p0 l0 a1 n1 p1 l1 W (h0.old hW) (h1.old hW))
  rw [← hE, ← hL1] at HJ1
  rw [← hE, ← hL2] at HJ2
  have HSM := Lib.hid (And.intro (show ∀ y ∈ L1, bareS y by rw [hL1]; exact bare_map _) (And.intro (show ∀ y ∈ L2, bareS y by rw [hL2]; exact bare_jr _ _) (show L1.map normS = L2.map normS by rw [hL1, hL2, map_norm2])))
  clear hb0 hb1 hx hy hE hL1 hL2 h0 h1
  go_enter Try.func4, Try.ntmps4
  go_wp2_with fail
  refine HL0.out.mono ?_
  rintro e w1 ⟨rfl, hb⟩
  have HB1 := Lib.hid hb
  clear hb HL0
  cases b0 with
  | false =>
    go_wp2_with fail
    refine (awake14_any w1).mono ?_
    rintro e w2 ⟨rfl, hb⟩
    have HBA := Lib.hid (HB1.out.trans (hb.mono HB1.out.size))
    clear hb
    go_wp2_with fail
    go_ret
    exact ⟨rfl, HBA.out⟩
  | true =>
  go_wp2_with fail
  refine (HL1.out w1 HB1.out).mono ?_
  rintro e w2 ⟨rfl, hb⟩
  have HB2 := Lib.hid (HB1.out.trans (hb.mono HB1.out.size))
  clear hb HL1 HB1
  cases b1 with
  | false =>
    go_wp2_with fail
    refine (awake14_any w2).mono ?_
    rintro e w3 ⟨rfl, hb⟩
    have HBA := Lib.hid (HB2.out.trans (hb.mono HB2.out.size))
    clear hb
    go_wp2_with fail
    go_ret
    exact ⟨rfl, HBA.out⟩
  | true =>
  go_wp2_with fail
  refine (HJ1.out w2 HB2.out).mono ?_
  rintro e w3 ⟨ca, cn, cc, rfl, hs, hb⟩
  have HB3 := Lib.hid (HB2.out.trans (hb.mono HB2.out.size))
  have HC3 := Lib.hid hs
  clear hb hs HB2 HJ1
  go_wp2_with fail
  refine (HJ2.out w3 HB3.out).mono ?_
  rintro e w4 ⟨da, dn, dc, rfl, hs, hb⟩
  have HB4 := Lib.hid (HB3.out.trans (hb.mono HB3.out.size))
  have HC4 := Lib.hid (HC3.out.old hb)
  have HD4 := Lib.hid hs
  clear hb hs HB3 HJ2 HC3
  go_wp2_with fail
  refine (same14_any ca cn cc L1 da dn dc L2 w4 HC4.out HD4.out HSM.out.1 HSM.out.2.1 HSM.out.2.2).mono ?_
  rintro e w5 ⟨rfl, hb⟩
  have HB5 := Lib.hid (HB4.out.trans (hb.mono HB4.out.size))
  clear hb HB4 HC4 HD4 HSM
  go_wp2_with fail
  refine (HM0.out w5 HB5.out).mono ?_
  rintro e w6 ⟨xa, xn, xc, rfl, hs, hb⟩
  have HB6 := Lib.hid (HB5.out.trans (hb.mono HB5.out.size))
  have HX6 := Lib.hid hs
  clear hb hs HB5 HM0
  go_wp2_with fail
  refine (HM1.out w6 HB6.out).mono ?_
  rintro e w7 ⟨ya, yn, yc, rfl, hs, hb⟩
  have HB7 := Lib.hid (HB6.out.trans (hb.mono HB6.out.size))
  have HX7 := Lib.hid (HX6.out.old hb)
  have HY7 := Lib.hid hs
  clear hb hs HB6 HM1 HX6
  go_wp2_with fail
  refine (jc_at xa xn xc x ya yn yc y HX.out HY.out w7 HX7.out HY7.out).mono ?_
  rintro e w8 ⟨ua, un, uc, rfl, hs, hb⟩
  have HB8 := Lib.hid (HB7.out.trans (hb.mono HB7.out.size))
  have HX8 := Lib.hid (HX7.out.old hb)
  have HY8 := Lib.hid (HY7.out.old hb)
  have HU8 := Lib.hid hs
  clear hb hs HB7 HX7 HY7
  go_wp2_with fail
  refine (jc_at ya yn yc y xa xn xc x HY.out HX.out w8 HY8.out HX8.out).mono ?_
  rintro e w9 ⟨va, vn, vc, rfl, hs, hb⟩
  have HB9 := Lib.hid (HB8.out.trans (hb.mono HB8.out.size))
  have HX9 := Lib.hid (HX8.out.old hb)
  have HU9 := Lib.hid (HU8.out.old hb)
  have HV9 := Lib.hid hs
  have HUV := Lib.hid (jc_sides HX.out HY.out)
  obtain ⟨U, hU⟩ : ∃ U, U = jc x y := ⟨_, rfl⟩
  obtain ⟨V, hV⟩ : ∃ V, V = jc y x := ⟨_, rfl⟩
  have HFU := Lib.hid (fun a (ha : a ∈ x) => jc_found HX.out HY.out ha)
  rw [← hU] at HFU
  rw [← hU] at HU9
  rw [← hV] at HV9
  rw [← hU, ← hV] at HUV
  obtain rfl : un = vn := by rw [← HU9.out.1, ← HV9.out.1, ← List.length_map (f := csS), HUV.out, List.length_map]
  clear hb hs HB8 HX8 HY8 HU8 hU hV HY
  have hnm : un ≤ maxLen := Nat.le_trans HU9.out.2.2.1 HU9.out.2.2.2
  have hnx : xn ≤ maxLen := Nat.le_trans HX9.out.2.2.1 HX9.out.2.2.2
  unfold maxLen at hnm hnx
  go_wp2_with fail
  go_loopw [15] (fun i wr => ∃ k : Nat, i = .int .i64 k ∧ k ≤ un ∧ Hid (Below w9.heap.size w9 wr)) (fun i _ => un - (intOf i).toNat)
  case atStart => exact ⟨0, by first | rfl | go_num, by omega, Lib.hid (Below.refl _ _)⟩
  case round =>
    obtain ⟨k, rfl, hk, HW⟩ := hrel
    by_cases hlt : k < un
    · have hki : (k : Int) < (un : Int) := by omega
      obtain ⟨qb, qo, ha, hb, hc⟩ := HU9.out.2.1.at_
      obtain ⟨vb, vo, ha2, hb2, hc2⟩ := HV9.out.2.1.at_
      rw [HU9.out.1] at ha hb
      rw [HV9.out.1] at ha2 hb2
      obtain rfl := ha (by omega)
      obtain rfl := ha2 (by omega)
      have hbw := hb (by omega)
      have hbw2 := hb2 (by omega)
      have hkl : k < U.length := by rw [HU9.out.1]; exact hlt
      have hkm : k < V.length := by rw [HV9.out.1]; exact hlt
      have hws := HW.out.size
      have hbr : qb < wr.heap.size := Nat.lt_of_lt_of_le hbw hws
      have hbr2 : vb < wr.heap.size := Nat.lt_of_lt_of_le hbw2 hws
      obtain ⟨c0, c1, -⟩ := hc.old hbw HW.out k hkl
      obtain ⟨d0, d1, -⟩ := hc2.old hbw2 HW.out k hkm
      have hnq : csS U[k] = csS V[k] := by
        have h1 : (U.map csS)[k]? = (V.map csS)[k]? := by rw [HUV.out]
        rw [List.getElem?_map, List.getElem?_map, List.getElem?_eq_getElem hkl, List.getElem?_eq_getElem hkm] at h1
        simpa using h1
      obtain ⟨e0, e1⟩ := cs_eq hnq
      rw [← e0] at d0
      rw [← e1] at d1
      obtain ⟨gc, hgc⟩ : ∃ g, g = U[k].c := ⟨_, rfl⟩
      obtain ⟨gs, hgs⟩ : ∃ g, g = U[k].s := ⟨_, rfl⟩
      rw [← hgc] at c0 d0
      rw [← hgs] at c1 d1
      clear hgc hgs hnq e0 e1 hc hc2 ha ha2 hb hb2
      go_wp2_with fail
      refine wp_region_below (by kernel_rfl) (by kernel_rfl) ?_
      repeat (first
        | go_big_quiet_skip
        | (go_big_quiet_want
           first
           | (refine BigFrame.quiet_move _ rfl ?_)
           | (refine BigFrame.quiet_assign _ rfl ?_)
           | (unfold Oper.quiet
              apply Exists.intro
              refine ⟨fun w' hw' => ?_, ?_⟩
              · (obtain ⟨hc', hf'⟩ := bcell hw'
                 go_simp
                 first
                 | done
                 | exact rfl))
           go_big_quiet_on
           simp only [Act.put, Act.eval, List.setIfInBounds_toArray, List.set_cons_zero, List.set_cons_succ, Array.getD_eq_getD_getElem?, List.getElem?_toArray, List.getElem?_cons_zero, List.getElem?_cons_succ, Option.getD_some]))
      refine wpQuiet_nil ?_
      intro w' hw'
      clear c0 c1 d0 d1
      go_wp2_with fail
      go_roundw
      case rel => exact ⟨k + 1, by go_num, by omega, Lib.hid (HW.out.trans (hw'.mono hws))⟩
      case measure => simp [intOf]; omega
    · obtain rfl : k = un := by omega
      have HUR := Lib.hid (HU9.out.old HW.out)
      have HXR := Lib.hid (HX9.out.old HW.out)
      have HBR := Lib.hid (HB9.out.trans (HW.out.mono HB9.out.size))
      clear HU9 HX9 HB9 HW HV9 HUV
      go_wp2_with fail
      rename World => wo
      go_loopw [16, 17, 18] (fun i _ _ wr => ∃ j : Nat, i = .int .i64 j ∧ j ≤ xn ∧ Hid (Below wo.heap.size wo wr)) (fun i _ _ _ => xn - (intOf i).toNat)
      case atStart => exact ⟨0, by first | rfl | go_num, by omega, Lib.hid (Below.refl _ _)⟩
      case round =>
        obtain ⟨j, rfl, hj, HW⟩ := hrel
        by_cases hlt2 : j < xn
        · have hji : (j : Int) < (xn : Int) := by omega
          obtain ⟨qb, qo, ha, hb, hc⟩ := HXR.out.2.1.at_
          rw [HXR.out.1] at ha hb
          obtain rfl := ha (by omega)
          have hbw := hb (by omega)
          have hjl : j < x.length := by rw [HXR.out.1]; exact hlt2
          have hws := HW.out.size
          have hbr : qb < wr.heap.size := Nat.lt_of_lt_of_le hbw hws
          obtain ⟨c0, c1, -⟩ := hc.old hbw HW.out j hjl
          have HFE := Lib.hid (HFU.out x[j] (List.getElem_mem hjl))
          obtain ⟨gc, hgc⟩ : ∃ g, g = x[j].c := ⟨_, rfl⟩
          obtain ⟨gs, hgs⟩ : ∃ g, g = x[j].s := ⟨_, rfl⟩
          rw [← hgc] at c0
          rw [← hgs] at c1
          rw [← hgc, ← hgs] at HFE
          obtain ⟨E2, hE2⟩ : ∃ E, E = fndE U gc gs := ⟨_, rfl⟩
          obtain ⟨X2, hX2⟩ : ∃ X, X = normS (fndS U gc gs) := ⟨_, rfl⟩
          have HFD := Lib.hid (fun W (hW : Below wr.heap.size wr W) => find14_any ua k uc U gc gs W ((HUR.out.old HW.out).old hW))
          rw [← hE2, ← hX2] at HFD
          rw [← hE2] at HFE
          have HKS := Lib.hid (fun (W : World) (hW : Below wr.heap.size wr W) => And.intro ((hW.cell (p := ⟨qb, qo + j * 7, none⟩) hbr).trans c0) ((hW.cell (p := ⟨qb, qo + j * 7 + 1, none⟩) hbr).trans c1))
          have hqg : ¬ wr.heap.size = qb := by omega
          clear hgc hgs hE2 hX2 hc ha hb
          go_upto_region 20 with fail
          go_cut [17, 18] (fun s17 s18 wx => ∃ g, s17 = .pointer (some ⟨g, 0, none⟩) ∧ s18 = .int .i64 E2 ∧ Hid (Below wr.heap.size wr wx))
          case first =>
            go_region_held3 (fun w' => w'.cell? ⟨qb, qo + j * 7, none⟩ = some (.int .i64 gc) ∧ w'.cell? ⟨qb, qo + j * 7 + 1, none⟩ = some (.int .i64 gs))
              (first
                | assumption
                | (with_reducible exact keep5 hqg (HKS.out _ (by (first | (with_reducible exact hZ) | (with_reducible exact hZ.drew) | (with_reducible exact hZ.alloc hZ.size _) | (with_reducible exact (hZ.alloc hZ.size _).drew) | (with_reducible exact hZ.drew.alloc hZ.size _) | (with_reducible exact Below.refl _ _) | (with_reducible exact (Below.refl _ _).drew) | (with_reducible exact (Below.refl _ _).alloc (Nat.le_refl _) _) | (with_reducible exact ((Below.refl _ _).alloc (Nat.le_refl _) _).drew) | (with_reducible exact ((Below.refl _ _).drew).alloc (Nat.le_refl _) _)))) _ _ _ _ _)
                | (with_reducible exact HKS.out _ (by (first | (with_reducible exact hZ) | (with_reducible exact hZ.drew) | (with_reducible exact hZ.alloc hZ.size _) | (with_reducible exact (hZ.alloc hZ.size _).drew) | (with_reducible exact hZ.drew.alloc hZ.size _) | (with_reducible exact Below.refl _ _) | (with_reducible exact (Below.refl _ _).drew) | (with_reducible exact (Below.refl _ _).alloc (Nat.le_refl _) _) | (with_reducible exact ((Below.refl _ _).alloc (Nat.le_refl _) _).drew) | (with_reducible exact ((Below.refl _ _).drew).alloc (Nat.le_refl _) _)))))
              (first
                | (go_at_call 10; (with_reducible refine (HFD.out _ (by (first | (with_reducible exact hZ) | (with_reducible exact hZ.drew) | (with_reducible exact hZ.alloc hZ.size _) | (with_reducible exact (hZ.alloc hZ.size _).drew) | (with_reducible exact hZ.drew.alloc hZ.size _) | (with_reducible exact Below.refl _ _) | (with_reducible exact (Below.refl _ _).drew) | (with_reducible exact (Below.refl _ _).alloc (Nat.le_refl _) _) | (with_reducible exact ((Below.refl _ _).alloc (Nat.le_refl _) _).drew) | (with_reducible exact ((Below.refl _ _).drew).alloc (Nat.le_refl _) _)))).mono ?_); rintro e w1 ⟨rfl, bb⟩; have hq := b_al5 bb; obtain ⟨z0, z1, z2, z3, z4, f0, f1, f2, f3, f4, zl⟩ := hq; have hZ0 := bchain5 (w := wr) bb (by (first | (with_reducible exact hZ) | (with_reducible exact hZ.drew) | (with_reducible exact hZ.alloc hZ.size _) | (with_reducible exact (hZ.alloc hZ.size _).drew) | (with_reducible exact hZ.drew.alloc hZ.size _) | (with_reducible exact Below.refl _ _) | (with_reducible exact (Below.refl _ _).drew) | (with_reducible exact (Below.refl _ _).alloc (Nat.le_refl _) _) | (with_reducible exact ((Below.refl _ _).alloc (Nat.le_refl _) _).drew) | (with_reducible exact ((Below.refl _ _).drew).alloc (Nat.le_refl _) _))); replace hZ := hZ0; obtain ⟨s0, s1⟩ := HKS.out _ hZ0)
                | (go_at_call 10; (with_reducible refine (HFD.out _ (by (first | (with_reducible exact hZ) | (with_reducible exact hZ.drew) | (with_reducible exact hZ.alloc hZ.size _) | (with_reducible exact (hZ.alloc hZ.size _).drew) | (with_reducible exact hZ.drew.alloc hZ.size _) | (with_reducible exact Below.refl _ _) | (with_reducible exact (Below.refl _ _).drew) | (with_reducible exact (Below.refl _ _).alloc (Nat.le_refl _) _) | (with_reducible exact ((Below.refl _ _).alloc (Nat.le_refl _) _).drew) | (with_reducible exact ((Below.refl _ _).drew).alloc (Nat.le_refl _) _)))).mono ?_); rintro e w1 ⟨rfl, bb⟩; have hq := b_al5d bb; obtain ⟨z0, z1, z2, z3, z4, f0, f1, f2, f3, f4, zl⟩ := hq; have hZ0 := bchain5 (w := wr) bb (by (first | (with_reducible exact hZ) | (with_reducible exact hZ.drew) | (with_reducible exact hZ.alloc hZ.size _) | (with_reducible exact (hZ.alloc hZ.size _).drew) | (with_reducible exact hZ.drew.alloc hZ.size _) | (with_reducible exact Below.refl _ _) | (with_reducible exact (Below.refl _ _).drew) | (with_reducible exact (Below.refl _ _).alloc (Nat.le_refl _) _) | (with_reducible exact ((Below.refl _ _).alloc (Nat.le_refl _) _).drew) | (with_reducible exact ((Below.refl _ _).drew).alloc (Nat.le_refl _) _))); replace hZ := hZ0; obtain ⟨s0, s1⟩ := HKS.out _ hZ0)
                | (go_at_call 10; (with_reducible refine (HFD.out _ (by (first | (with_reducible exact hZ) | (with_reducible exact hZ.drew) | (with_reducible exact hZ.alloc hZ.size _) | (with_reducible exact (hZ.alloc hZ.size _).drew) | (with_reducible exact hZ.drew.alloc hZ.size _) | (with_reducible exact Below.refl _ _) | (with_reducible exact (Below.refl _ _).drew) | (with_reducible exact (Below.refl _ _).alloc (Nat.le_refl _) _) | (with_reducible exact ((Below.refl _ _).alloc (Nat.le_refl _) _).drew) | (with_reducible exact ((Below.refl _ _).drew).alloc (Nat.le_refl _) _)))).mono ?_); rintro e w1 ⟨rfl, bb⟩; have hZ0 := bchain5 (w := wr) bb (by (first | (with_reducible exact hZ) | (with_reducible exact hZ.drew) | (with_reducible exact hZ.alloc hZ.size _) | (with_reducible exact (hZ.alloc hZ.size _).drew) | (with_reducible exact hZ.drew.alloc hZ.size _) | (with_reducible exact Below.refl _ _) | (with_reducible exact (Below.refl _ _).drew) | (with_reducible exact (Below.refl _ _).alloc (Nat.le_refl _) _) | (with_reducible exact ((Below.refl _ _).alloc (Nat.le_refl _) _).drew) | (with_reducible exact ((Below.refl _ _).drew).alloc (Nat.le_refl _) _))); replace hZ := hZ0; obtain ⟨s0, s1⟩ := HKS.out _ hZ0))
            all_goals
              go_wp2_with fail
              go_meet
              first
                | exact ⟨_, rfl, rfl, Lib.hid (chain5 hZ (Nat.le_refl _) _ _ _ _ _)⟩
                | exact ⟨_, rfl, rfl, Lib.hid (by (first | (with_reducible exact hZ) | (with_reducible exact hZ.drew) | (with_reducible exact hZ.alloc hZ.size _) | (with_reducible exact (hZ.alloc hZ.size _).drew) | (with_reducible exact hZ.drew.alloc hZ.size _) | (with_reducible exact Below.refl _ _) | (with_reducible exact (Below.refl _ _).drew) | (with_reducible exact (Below.refl _ _).alloc (Nat.le_refl _) _) | (with_reducible exact ((Below.refl _ _).alloc (Nat.le_refl _) _).drew) | (with_reducible exact ((Below.refl _ _).drew).alloc (Nat.le_refl _) _)))⟩
          case rest =>
          obtain ⟨g, rfl, rfl, HG⟩ := hcut
          clear c0 c1 HKS hqg HFD
          rcases HFE.out with rfl | rfl
          · go_wp2_with fail
            go_roundw
            case rel => exact ⟨j + 1, by go_num, by omega, Lib.hid (HW.out.trans (HG.out.mono hws))⟩
            case measure => simp [intOf]; omega
          · go_wp2_with fail
            go_roundw
            case rel => exact ⟨j + 1, by go_num, by omega, Lib.hid (HW.out.trans (HG.out.mono hws))⟩
            case measure => simp [intOf]; omega
        · obtain rfl : j = xn := by omega
          have HBW := Lib.hid (HBR.out.trans (HW.out.mono HBR.out.size))
          have HJX := Lib.hid (jc_at xa j xc x xa j xc x HX.out HX.out wr (HXR.out.old HW.out) (HXR.out.old HW.out))
          have HJS := Lib.hid (jc_same HX.out)
          have HXB := Lib.hid (bare_chk HX.out)
          rw [HJS.out] at HJX
          go_wp2_with fail
          refine HJX.out.mono ?_
          rintro e w11 ⟨ka, kn, kc, rfl, hs, hb⟩
          have HB11 := Lib.hid (HBW.out.trans (hb.mono HBW.out.size))
          have HK11 := Lib.hid hs
          have HX11 := Lib.hid ((HXR.out.old HW.out).old hb)
          clear hb hs
          go_wp2_with fail
          refine (same14_any ka kn kc _ xa j xc x w11 HK11.out HX11.out (bare_map _) HXB.out (map_norm2 x)).mono ?_
          rintro e w12 ⟨rfl, hb⟩
          have HB12 := Lib.hid (HB11.out.trans (hb.mono HB11.out.size))
          clear hb
          go_wp2_with fail
          refine (awake14_any w12).mono ?_
          rintro e w13 ⟨rfl, hb⟩
          have HB13 := Lib.hid (HB12.out.trans (hb.mono HB12.out.size))
          clear hb
          go_wp2_with fail
          go_ret
          exact ⟨rfl, HB13.out⟩
end Go.Proofs.Ytnjpgepdfclalaa
