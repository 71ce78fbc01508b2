/-
  Layer 7 (sorted): a tree of values (int): the contracts of closed, drop. Conditions: fewer keys than 2^40.
-/
import Derived.Test.YteolhbcmffbdlaaOx
import Derived.Test.YteolhbcmffbdlaaQm
namespace Go.Proofs.Yteolhbcmffbdlaa.TI
open Go.RowKit
set_option linter.unusedVariables false
set_option linter.unusedSimpArgs false

def Drops (t : BT Int) : Prop := ∀ (w : World) (p : Option Addr) (k : Ky), IsT w p t → Rise t.all → t.cnt < lim → getA k t.all ≠ none →
    Calls Try.prog 34 #[.pointer p, .string ⟨k.toArray⟩] w (TreeR w fun t' => t'.all = delA k t.all)
theorem closed_none {w : World} {p : Option Addr} {k : Ky} {v : Int} (h : IsT w p (.node .nil k v .nil)) :
    Calls Try.prog 47 #[.pointer p] w (TreeR w fun t' => t'.all = []) := by
  have HH := Lib.hid h
  obtain ⟨b, pl, pr, rfl, hlt, h0, h1, h2, h3, h4, hl, hr⟩ := h
  obtain rfl : pr = none := hr
  clear hl
  go_enter Try.func47, Try.ntmps47
  go_wp2_with fail
  refine (heavier_right HH.out (by rw [BT.cnt_node, BT.cnt_nil]; decide) (Nat.le_refl _)).mono ?_
  rintro e w1 ⟨rfl, b1⟩
  have B1 := Lib.hid b1
  obtain ⟨hc, hf⟩ := bcell b1
  clear b1
  go_wp2_with fail
  go_ret
  exact ⟨none, .nil, rfl, B1.out, rfl, rfl⟩
theorem del_len {l : List (Ky × Int)} (k : Ky) : (delA k l).length ≤ l.length := by
  unfold delA
  induction l with
  | nil => simp
  | cons p l ih =>
    simp only [List.filter_cons, List.length_append, List.length_cons] at ih ⊢
    cases h1 : Op.bytesLess p.1 k with
    | true => rw [less_asymm _ _ h1]; simp; omega
    | false => cases h2 : Op.bytesLess k p.1 <;> simp <;> omega

set_option maxRecDepth 100000 in
set_option maxHeartbeats 2000000 in
theorem closed_left {w : World} {p : Option Addr} {l r : BT Int} {k : Ky} {v : Int} (hd : Drops l) (h : IsT w p (.node l k v r)) (hr : Rise (BT.node l k v r).all) (hn : (BT.node l k v r).cnt < lim) (hs : r.cnt < l.cnt) :
    Calls Try.prog 47 #[.pointer p] w (TreeR w fun t' => t'.all = l.all ++ r.all) := by
  obtain ⟨tl, tk, tv, tr, hT⟩ := BT.of_cnt (t := l) (by omega)
  have HT := Lib.hid hT
  have HH := Lib.hid h
  have HN := Lib.hid hn
  have HS := Lib.hid hs
  have HD := Lib.hid hd
  have HR := Lib.hid hr
  obtain ⟨b, pl, pr, rfl, hlt, h0, h1, h2, h3, h4, hl, hr2⟩ := h
  have HP := Lib.hid hl
  have HO := Lib.hid hr2
  have hp : ∃ g, pl = some ⟨g, 0, none⟩ := by
    have := HP.out
    rw [hT] at this
    obtain ⟨g, _, _, e, _⟩ := this
    exact ⟨g, e⟩
  obtain ⟨g, rfl⟩ := hp
  have hw1 : IntKind.i64.wrap 1 = 1 := by decide
  have hw0 : IntKind.i64.wrap 0 = 0 := by decide
  clear hl hr2 hd hr hn hs hT
  go_enter Try.func47, Try.ntmps47
  go_wp2_with fail
  refine (heavier_left HH.out HN.out HS.out).mono ?_
  rintro e w1 ⟨rfl, b1⟩
  have B1 := Lib.hid b1
  obtain ⟨hc, hf⟩ := bcell b1
  clear b1
  go_wp2_with fail
  refine (last_right (HP.out.below B1.out) (by rw [HT.out, BT.cnt_node]; omega)).mono ?_
  rintro e w2 ⟨q2, u, k2, v2, a, rfl, b2, i2, c2, e2⟩
  have B2 := Lib.hid (bt B1.out b2)
  have I2 := Lib.hid i2
  have C2 := Lib.hid c2
  have E2 := Lib.hid e2
  obtain ⟨b3, ql, qr, rfl, hlt3, j0, j1, j2, j3, j4, jl, jr⟩ := i2
  have x3 : w2.cell? ⟨b, 3, none⟩ = some (.pointer pr) := (B2.out.cell (p := ⟨b, 3, none⟩) hlt).trans h3
  clear hc hf b2 c2 e2 jl jr j1 j2 j3 j4 h0 h1 h2 h3 h4
  go_wp2_with fail
  refine mixed_region (D := (fun w' => w'.cell? ⟨b3, 0, none⟩ = some (.string ⟨k2.toArray⟩) ∧ w'.cell? ⟨b, 3, none⟩ = some (.pointer pr))) [0, 1, 2, 3, 4, 5, 6, 9, 10, 11, 12, 13, 14, 15, 16, 17] [7, 8, 18, 19] 19 (by kernel_rfl) (by kernel_rfl) (by decide) (⟨j0, x3⟩) ?_
  simp only [List.filterMap_cons, List.filterMap_nil, List.getElem?_cons_zero, List.getElem?_cons_succ]
  repeat (
    (first
     | (refine calm_move _ rfl ?_)
     | (apply calm_cons
        · (intro w' hw'
           try obtain ⟨hwa', hwb'⟩ := hw'
           go_simp
           first
           | done
           | exact rfl)))
    simp only [Act.put, Act.eval, List.setIfInBounds_toArray, List.set_cons_zero, List.set_cons_succ, Array.getD_eq_getD_getElem?, List.getElem?_toArray, List.getElem?_cons_zero, List.getElem?_cons_succ, Option.getD_some])
  refine calm_nil ?_
  have HX := Lib.hid x3
  have HJ := Lib.hid j0
  clear x3 j0
  have hRT : Rise l.all := (rise_parts.1 HR.out).1
  have hg : getA k2 l.all = some v2 := by
    have h := hRT
    rw [E2.out] at h ⊢
    exact getA_at (r := []) h
  have HG := Lib.hid hg
  have HRT := Lib.hid hRT
  have bd : Below w2.heap.size w2 w2.drew := (Below.refl _ _).drew
  have BD := Lib.hid bd
  clear hg hRT bd
  refine loud_cons fun K hK => ?_
  go_wp2_with fail
  refine (HD.out _ _ _ ((HP.out.below B2.out).below BD.out) HRT.out (by have := HN.out; rw [BT.cnt_node] at this; omega) (by rw [HG.out]; simp)).mono ?_
  rintro e w3 ⟨q3, t3, rfl, b3', i3, a3⟩
  have bb3 : Below w2.heap.size w2 w3 := bt BD.out b3'
  have B3 := Lib.hid bb3
  have I3 := Lib.hid i3
  have A3 := Lib.hid a3
  have HLT := Lib.hid hlt
  have HLT3 := Lib.hid hlt3
  have hb2 : b < w2.heap.size := Nat.lt_of_lt_of_le hlt B2.out.size
  have HB2 := Lib.hid hb2
  clear b3' bb3 i3 a3 hlt hlt3 hb2
  go_wp2
  refine hK _ _ (fun _ => ⟨(B3.out.cell (p := ⟨b3, 0, none⟩) HLT3.out).trans HJ.out, (B3.out.cell (p := ⟨b, 3, none⟩) HB2.out).trans HX.out⟩) ?_
  clear hK K
  have hc3 : t3.cnt ≤ l.cnt := by unfold BT.cnt; rw [A3.out]; exact del_len _
  have hx1 : (BT.node t3 k2 v2 .nil).cnt < lim := by have := HN.out; rw [BT.cnt_node, BT.cnt_nil] at *; omega
  have hx2 : (BT.node t3 k2 v2 r).cnt < lim := by have := HN.out; rw [BT.cnt_node] at *; omega
  have HX1 := Lib.hid hx1
  have HX2 := Lib.hid hx2
  clear hc3 hx1 hx2
  refine loud_cons fun K hK => ?_
  go_wp2_with fail
  refine (with_left (I2.out.below B3.out) I3.out HX1.out).mono ?_
  rintro e w4 ⟨rfl, b4, i4⟩
  have B4 := Lib.hid (bt B3.out b4)
  have I4 := Lib.hid i4
  have BO := Lib.hid (bt B2.out (bt B3.out b4))
  clear b4 i4
  go_wp2
  refine hK _ _ (fun _ => ⟨(B4.out.cell (p := ⟨b3, 0, none⟩) HLT3.out).trans HJ.out, (B4.out.cell (p := ⟨b, 3, none⟩) HB2.out).trans HX.out⟩) ?_
  clear hK K
  refine loud_cons fun K hK => ?_
  go_wp2_with fail
  refine (with_right I4.out (HO.out.below BO.out) HX2.out).mono ?_
  rintro e w5 ⟨rfl, b5, i5⟩
  have B5 := Lib.hid (bt BO.out b5)
  have I5 := Lib.hid i5
  have BB5 := Lib.hid (bt B4.out b5)
  clear b5 i5
  go_wp2
  refine hK _ _ (fun _ => ⟨(BB5.out.cell (p := ⟨b3, 0, none⟩) HLT3.out).trans HJ.out, (BB5.out.cell (p := ⟨b, 3, none⟩) HB2.out).trans HX.out⟩) ?_
  clear hK K
  refine loud_cons fun K hK => ?_
  go_wp2
  refine hK _ _ (fun h => absurd rfl h) ?_
  clear hK K
  refine loud_nil ?_
  go_wp2_with fail
  go_ret
  refine ⟨_, (BT.node t3 k2 v2 r), rfl, B5.out, I5.out, ?_⟩
  show (BT.node t3 k2 v2 r).all = l.all ++ r.all
  have h := HRT.out
  rw [E2.out] at h
  have e3 : t3.all = a := by rw [A3.out, E2.out]; exact (delA_at (r := []) h).trans (by simp)
  rw [E2.out]
  simp [BT.all, e3]

set_option maxRecDepth 100000 in
set_option maxHeartbeats 2000000 in
theorem closed_right {w : World} {p : Option Addr} {l r : BT Int} {k : Ky} {v : Int} (hd : Drops r) (h : IsT w p (.node l k v r)) (hr : Rise (BT.node l k v r).all) (hn : (BT.node l k v r).cnt < lim) (hpos : 0 < r.cnt) (hs : l.cnt ≤ r.cnt) :
    Calls Try.prog 47 #[.pointer p] w (TreeR w fun t' => t'.all = l.all ++ r.all) := by
  obtain ⟨tl, tk, tv, tr, hT⟩ := BT.of_cnt (t := r) (by omega)
  have HT := Lib.hid hT
  have HH := Lib.hid h
  have HN := Lib.hid hn
  have HS := Lib.hid hs
  have HD := Lib.hid hd
  have HR := Lib.hid hr
  obtain ⟨b, pl, pr, rfl, hlt, h0, h1, h2, h3, h4, hl, hr2⟩ := h
  have HP := Lib.hid hr2
  have HO := Lib.hid hl
  have hp : ∃ g, pr = some ⟨g, 0, none⟩ := by
    have := HP.out
    rw [hT] at this
    obtain ⟨g, _, _, e, _⟩ := this
    exact ⟨g, e⟩
  obtain ⟨g, rfl⟩ := hp
  have hw1 : IntKind.i64.wrap 1 = 1 := by decide
  have hw0 : IntKind.i64.wrap 0 = 0 := by decide
  clear hl hr2 hd hr hn hs hT hpos
  go_enter Try.func47, Try.ntmps47
  go_wp2_with fail
  refine (heavier_right HH.out HN.out HS.out).mono ?_
  rintro e w1 ⟨rfl, b1⟩
  have B1 := Lib.hid b1
  obtain ⟨hc, hf⟩ := bcell b1
  clear b1
  go_wp2_with fail
  refine (last_left (HP.out.below B1.out) (by rw [HT.out, BT.cnt_node]; omega)).mono ?_
  rintro e w2 ⟨q2, u, k2, v2, a, rfl, b2, i2, c2, e2⟩
  have B2 := Lib.hid (bt B1.out b2)
  have I2 := Lib.hid i2
  have C2 := Lib.hid c2
  have E2 := Lib.hid e2
  obtain ⟨b3, ql, qr, rfl, hlt3, j0, j1, j2, j3, j4, jl, jr⟩ := i2
  have x3 : w2.cell? ⟨b, 2, none⟩ = some (.pointer pl) := (B2.out.cell (p := ⟨b, 2, none⟩) hlt).trans h2
  clear hc hf b2 c2 e2 jl jr j1 j2 j3 j4 h0 h1 h2 h3 h4
  go_wp2_with fail
  refine mixed_region (D := (fun w' => w'.cell? ⟨b3, 0, none⟩ = some (.string ⟨k2.toArray⟩) ∧ w'.cell? ⟨b, 2, none⟩ = some (.pointer pl))) [0, 1, 2, 3, 4, 5, 6, 9, 10, 11, 12, 13, 14, 15, 16, 17] [7, 8, 18, 19] 19 (by kernel_rfl) (by kernel_rfl) (by decide) (⟨j0, x3⟩) ?_
  simp only [List.filterMap_cons, List.filterMap_nil, List.getElem?_cons_zero, List.getElem?_cons_succ]
  repeat (
    (first
     | (refine calm_move _ rfl ?_)
     | (apply calm_cons
        · (intro w' hw'
           try obtain ⟨hwa', hwb'⟩ := hw'
           go_simp
           first
           | done
           | exact rfl)))
    simp only [Act.put, Act.eval, List.setIfInBounds_toArray, List.set_cons_zero, List.set_cons_succ, Array.getD_eq_getD_getElem?, List.getElem?_toArray, List.getElem?_cons_zero, List.getElem?_cons_succ, Option.getD_some])
  refine calm_nil ?_
  have HX := Lib.hid x3
  have HJ := Lib.hid j0
  clear x3 j0
  have hRT : Rise r.all := (rise_parts.1 HR.out).2.1
  have hg : getA k2 r.all = some v2 := by
    have h := hRT
    rw [E2.out] at h ⊢
    exact getA_at (l := []) h
  have HG := Lib.hid hg
  have HRT := Lib.hid hRT
  have bd : Below w2.heap.size w2 w2.drew := (Below.refl _ _).drew
  have BD := Lib.hid bd
  clear hg hRT bd
  refine loud_cons fun K hK => ?_
  go_wp2_with fail
  refine (HD.out _ _ _ ((HP.out.below B2.out).below BD.out) HRT.out (by have := HN.out; rw [BT.cnt_node] at this; omega) (by rw [HG.out]; simp)).mono ?_
  rintro e w3 ⟨q3, t3, rfl, b3', i3, a3⟩
  have bb3 : Below w2.heap.size w2 w3 := bt BD.out b3'
  have B3 := Lib.hid bb3
  have I3 := Lib.hid i3
  have A3 := Lib.hid a3
  have HLT := Lib.hid hlt
  have HLT3 := Lib.hid hlt3
  have hb2 : b < w2.heap.size := Nat.lt_of_lt_of_le hlt B2.out.size
  have HB2 := Lib.hid hb2
  clear b3' bb3 i3 a3 hlt hlt3 hb2
  go_wp2
  refine hK _ _ (fun _ => ⟨(B3.out.cell (p := ⟨b3, 0, none⟩) HLT3.out).trans HJ.out, (B3.out.cell (p := ⟨b, 2, none⟩) HB2.out).trans HX.out⟩) ?_
  clear hK K
  have hc3 : t3.cnt ≤ r.cnt := by unfold BT.cnt; rw [A3.out]; exact del_len _
  have hx1 : (BT.node .nil k2 v2 t3).cnt < lim := by have := HN.out; rw [BT.cnt_node, BT.cnt_nil] at *; omega
  have hx2 : (BT.node l k2 v2 t3).cnt < lim := by have := HN.out; rw [BT.cnt_node] at *; omega
  have HX1 := Lib.hid hx1
  have HX2 := Lib.hid hx2
  clear hc3 hx1 hx2
  refine loud_cons fun K hK => ?_
  go_wp2_with fail
  refine (with_right (I2.out.below B3.out) I3.out HX1.out).mono ?_
  rintro e w4 ⟨rfl, b4, i4⟩
  have B4 := Lib.hid (bt B3.out b4)
  have I4 := Lib.hid i4
  have BO := Lib.hid (bt B2.out (bt B3.out b4))
  clear b4 i4
  go_wp2
  refine hK _ _ (fun _ => ⟨(B4.out.cell (p := ⟨b3, 0, none⟩) HLT3.out).trans HJ.out, (B4.out.cell (p := ⟨b, 2, none⟩) HB2.out).trans HX.out⟩) ?_
  clear hK K
  refine loud_cons fun K hK => ?_
  go_wp2_with fail
  refine (with_left I4.out (HO.out.below BO.out) HX2.out).mono ?_
  rintro e w5 ⟨rfl, b5, i5⟩
  have B5 := Lib.hid (bt BO.out b5)
  have I5 := Lib.hid i5
  have BB5 := Lib.hid (bt B4.out b5)
  clear b5 i5
  go_wp2
  refine hK _ _ (fun _ => ⟨(BB5.out.cell (p := ⟨b3, 0, none⟩) HLT3.out).trans HJ.out, (BB5.out.cell (p := ⟨b, 2, none⟩) HB2.out).trans HX.out⟩) ?_
  clear hK K
  refine loud_cons fun K hK => ?_
  go_wp2
  refine hK _ _ (fun h => absurd rfl h) ?_
  clear hK K
  refine loud_nil ?_
  go_wp2_with fail
  go_ret
  refine ⟨_, (BT.node l k2 v2 t3), rfl, B5.out, I5.out, ?_⟩
  show (BT.node l k2 v2 t3).all = l.all ++ r.all
  have h := HRT.out
  rw [E2.out] at h
  have e3 : t3.all = a := by rw [A3.out, E2.out]; exact (delA_at (l := []) h).trans (by simp)
  rw [E2.out]
  simp [BT.all, e3]

set_option maxRecDepth 100000 in
set_option maxHeartbeats 2000000 in
theorem drops_any (t : BT Int) : Drops t := by
  induction t with
  | nil => exact fun w p k _ _ _ hg => absurd rfl hg
  | node l k2 v2 r ihl ihr =>
    intro w p k h hr hn hg
    have HH := Lib.hid h
    have HR := Lib.hid hr
    have HN := Lib.hid hn
    have HG := Lib.hid hg
    have IHL := Lib.hid ihl
    have IHR := Lib.hid ihr
    obtain ⟨b, pl, pr, rfl, hlt, h0, h1, h2, h3, h4, hl, hr2⟩ := h
    have HL := Lib.hid hl
    have HR2 := Lib.hid hr2
    have H0 := Lib.hid h0
    clear hl hr2 ihl ihr hn hr hg
    by_cases hk : k2 = k
    · subst hk
      have hne : (k2 == k2) = true := by simp
      have hcl : Calls Try.prog 47 #[.pointer (some ⟨b, 0, none⟩)] w (TreeR w fun t' => t'.all = delA k2 (BT.node l k2 v2 r).all) := by
        rw [show delA k2 (BT.node l k2 v2 r).all = l.all ++ r.all from delA_at HR.out]
        by_cases hs : r.cnt < l.cnt
        · exact closed_left IHL.out HH.out HR.out HN.out hs
        · by_cases hp : 0 < r.cnt
          · exact closed_right IHR.out HH.out HR.out HN.out hp (by omega)
          · have e1 : l = .nil := by cases l with | nil => rfl | node _ _ _ _ => rw [BT.cnt_node] at hs; omega
            have e2 : r = .nil := by cases r with | nil => rfl | node _ _ _ _ => rw [BT.cnt_node] at hp; omega
            subst e1 e2
            exact closed_none HH.out
      have HCL := Lib.hid hcl
      clear hcl
      go_enter Try.func34, Try.ntmps34
      go_wp2_with fail
      refine HCL.out.mono ?_
      rintro e w4 ⟨q4, t4, rfl, b4, i4, a4⟩
      have B4 := Lib.hid b4
      have I4 := Lib.hid i4
      have A4 := Lib.hid a4
      clear b4 i4 a4
      go_wp2_with fail
      go_ret
      exact ⟨_, t4, rfl, B4.out, I4.out, A4.out⟩
    · have hne : (k2 == k) = false := by simpa using hk
      cases hs : Op.bytesLess k k2 with
      | true =>
        have HS := Lib.hid hs
        clear hs hk
        go_enter Try.func34, Try.ntmps34
        go_wp2_with fail
        refine (side_less H0.out HS.out).mono ?_
        rintro e w1 ⟨rfl, b1⟩
        have B1 := Lib.hid b1
        obtain ⟨hc, hf⟩ := bcell b1
        clear b1
        go_wp2_with fail
        refine (IHL.out _ _ _ (HL.out.below B1.out) (rise_parts.1 HR.out).1 (by have := HN.out; rw [BT.cnt_node] at this; omega) (by rw [← getA_less HR.out HS.out]; exact HG.out)).mono ?_
        rintro e w2 ⟨q2, t2, rfl, b2, i2, a2⟩
        have B2 := Lib.hid (bt B1.out b2)
        have I2 := Lib.hid i2
        have A2 := Lib.hid a2
        have HC2 : (BT.node t2 k2 v2 r).cnt < lim := by
          have h1 := HN.out
          have h2 := del_len (l := l.all) k
          rw [BT.cnt_node] at h1 ⊢
          unfold BT.cnt at h1 ⊢
          rw [A2.out]
          omega
        have HC2 := Lib.hid HC2
        clear b2 i2 a2
        go_wp2_with fail
        refine (with_left (HH.out.below B2.out) I2.out HC2.out).mono ?_
        rintro e w3 ⟨rfl, b3, i3⟩
        have B3 := Lib.hid (bt B2.out b3)
        have I3 := Lib.hid i3
        clear b3 i3
        go_wp2_with fail
        refine (balanced_any I3.out HC2.out).mono ?_
        rintro e w4 ⟨q4, t4, rfl, b4, i4, a4⟩
        have B4 := Lib.hid (bt B3.out b4)
        have I4 := Lib.hid i4
        have A4 := Lib.hid a4
        clear b4 i4 a4
        go_wp2_with fail
        go_ret
        exact ⟨_, t4, rfl, B4.out, I4.out, A4.out.trans ((delA_less HR.out HS.out).trans (by rw [← A2.out]; rfl)).symm⟩
      | false =>
        have hs2 : Op.bytesLess k2 k = true := by
          cases hx : Op.bytesLess k2 k with
          | true => rfl
          | false => exact absurd (less_total _ _ hx hs) hk
        have HS := Lib.hid hs
        have HS2 := Lib.hid hs2
        clear hs hk hs2
        go_enter Try.func34, Try.ntmps34
        go_wp2_with fail
        refine (side_more H0.out HS.out).mono ?_
        rintro e w1 ⟨rfl, b1⟩
        have B1 := Lib.hid b1
        obtain ⟨hc, hf⟩ := bcell b1
        clear b1
        go_wp2_with fail
        refine (IHR.out _ _ _ (HR2.out.below B1.out) (rise_parts.1 HR.out).2.1 (by have := HN.out; rw [BT.cnt_node] at this; omega) (by rw [← getA_more HR.out HS2.out]; exact HG.out)).mono ?_
        rintro e w2 ⟨q2, t2, rfl, b2, i2, a2⟩
        have B2 := Lib.hid (bt B1.out b2)
        have I2 := Lib.hid i2
        have A2 := Lib.hid a2
        have HC2 : (BT.node l k2 v2 t2).cnt < lim := by
          have h1 := HN.out
          have h2 := del_len (l := r.all) k
          rw [BT.cnt_node] at h1 ⊢
          unfold BT.cnt at h1 ⊢
          rw [A2.out]
          omega
        have HC2 := Lib.hid HC2
        clear b2 i2 a2
        go_wp2_with fail
        refine (with_right (HH.out.below B2.out) I2.out HC2.out).mono ?_
        rintro e w3 ⟨rfl, b3, i3⟩
        have B3 := Lib.hid (bt B2.out b3)
        have I3 := Lib.hid i3
        clear b3 i3
        go_wp2_with fail
        refine (balanced_any I3.out HC2.out).mono ?_
        rintro e w4 ⟨q4, t4, rfl, b4, i4, a4⟩
        have B4 := Lib.hid (bt B3.out b4)
        have I4 := Lib.hid i4
        have A4 := Lib.hid a4
        clear b4 i4 a4
        go_wp2_with fail
        go_ret
        exact ⟨_, t4, rfl, B4.out, I4.out, A4.out.trans ((delA_more HR.out HS2.out).trans (by rw [← A2.out]; rfl)).symm⟩
end Go.Proofs.Yteolhbcmffbdlaa.TI
