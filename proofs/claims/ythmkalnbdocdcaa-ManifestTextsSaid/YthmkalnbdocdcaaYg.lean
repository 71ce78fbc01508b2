/-
  Layer 12 (manifest): the contract of Put, of the code (its two closures write into a strings.Builder). Conditions: texts within the reach.
-/
import Derived.Test.YthmkalnbdocdcaaYf
import Derived.Test.YthmkalnbdocdcaaYc
import Derived.Test.YthmkalnbdocdcaaKb
import Derived.Test.YthmkalnbdocdcaaVx
namespace Go.Proofs.Ythmkalnbdocdcaa
set_option maxRecDepth 100000
open Go.RowKit
set_option linter.unusedVariables false
set_option linter.unusedSimpArgs false

/-- A table's box, as a block. -/
def TBlk (w : World) (x : Nat) (t : Tb) : Prop := w.heap[x]? = some (.cells #[.int .i64 t.1, .int .i64 t.2.1, .string t.2.2.1, .string t.2.2.2] 49 (0, 0))
theorem TBlk.new (w : World) (t : Tb) : TBlk (w.alloc (.cells #[.int .i64 t.1, .int .i64 t.2.1, .string t.2.2.1, .string t.2.2.2] 49)) w.heap.size t := heap_alloc_new w _
theorem TBlk.box {w : World} {x : Nat} {t : Tb} (h : TBlk w x t) : TBox w x t :=
  ⟨by rw [Lib.cell_of_heap h]; rfl, by rw [Lib.cell_of_heap h]; rfl, by rw [Lib.cell_of_heap h]; rfl, by rw [Lib.cell_of_heap h]; rfl, heap_lt h⟩
theorem TBlk.keep {w w' : World} {b x : Nat} {t : Tb} (h : TBlk w x t) (hx : x ≠ b) (hk : KeepT b w w') : TBlk w' x t := hk.1 x _ _ _ hx h (by decide)
theorem pnum_any (B b : Nat) (l : List UInt8) (z : Int) (n : Nat) (hz : z = (n : Int)) (hn : n ≤ 4611686018427387904) (w : World) (h : Bld B b l w) (hl : l.length ≤ 100000000) (hB : B ≤ w.heap.size) :
    Calls Try.prog 26 #[.int .i64 z, .pointer (some ⟨b, 0, none⟩)] w fun e w' => e = .returned (.tuple #[]) ∧ Bld B b (l ++ vL n) w' ∧ Below B w w' ∧ KeepT b w w' := by
  subst hz
  have h9 := vL_len9 hn
  have H := Lib.hid h
  clear h
  go_enter Try.func26, Try.ntmps26
  go_wp2_with fail
  refine (put_code n _ hn).mono ?_
  rintro e w1 ⟨rfl, b1⟩
  have hB1 : B ≤ w1.heap.size := Nat.le_trans hB b1.size
  have HO := Lib.hid (H.out.old b1)
  have HB1 := Lib.hid (And.intro (b1.mono hB) (KeepT.of (b := b) b1))
  clear b1
  go_wp2_with fail
  refine (bwrite_any B b l ⟨(vL n).toArray⟩ _ HO.out (by rw [mk_size]; omega) hB1).mono ?_
  rintro e w2 ⟨rfl, b2, hb2, hk2⟩
  have HW := Lib.hid (And.intro (HB1.out.1.trans hb2) (HB1.out.2.trans hk2))
  have HD := Lib.hid b2
  clear b2 hb2 hk2
  go_wp2
  go_end0
  exact ⟨rfl, HD.out, HW.out.1, HW.out.2⟩
theorem ptext_any (B b : Nat) (l : List UInt8) (s : ByteArray) (hs : s.size ≤ 262144) (w : World) (h : Bld B b l w) (hl : l.length ≤ 100000000) (hB : B ≤ w.heap.size) :
    Calls Try.prog 29 #[.string s, .pointer (some ⟨b, 0, none⟩)] w fun e w' => e = .returned (.tuple #[]) ∧ Bld B b (l ++ txL s.data.toList) w' ∧ Below B w w' ∧ KeepT b w w' := by
  have h9 := txL_size s.data.toList (by rw [size_list]; exact hs)
  have H := Lib.hid h
  clear h
  go_enter Try.func29, Try.ntmps29
  go_wp2_with fail
  refine (text_code s _ hs).mono ?_
  rintro e w1 ⟨rfl, b1⟩
  have hB1 : B ≤ w1.heap.size := Nat.le_trans hB b1.size
  have HO := Lib.hid (H.out.old b1)
  have HB1 := Lib.hid (And.intro (b1.mono hB) (KeepT.of (b := b) b1))
  clear b1
  go_wp2_with fail
  refine (bwrite_any B b l ⟨(txL s.data.toList).toArray⟩ _ HO.out (by rw [mk_size]; omega) hB1).mono ?_
  rintro e w2 ⟨rfl, b2, hb2, hk2⟩
  have HW := Lib.hid (And.intro (HB1.out.1.trans hb2) (HB1.out.2.trans hk2))
  have HD := Lib.hid b2
  clear b2 hb2 hk2
  go_wp2
  go_end0
  exact ⟨rfl, HD.out, HW.out.1, HW.out.2⟩
/-- What Put leaves. -/
def PUe (d : Ed) (w : World) (e : Ending) (w' : World) : Prop :=
  e = .returned (if mayEd d = true then .tuple #[.string ⟨(edB d).toArray⟩, .int .i64 0] else .tuple #[.string ⟨#[]⟩, .int .i64 1]) ∧ Below w.heap.size w w'
theorem PUe.yes {d : Ed} {w w' : World} {e : Ending} (h : mayEd d = true) (he : e = .returned (.tuple #[.string ⟨(edB d).toArray⟩, .int .i64 0])) (hb : Below w.heap.size w w') : PUe d w e w' := by
  unfold PUe
  rw [if_pos h]
  exact ⟨he, hb⟩
theorem PUe.no {d : Ed} {w w' : World} {e : Ending} (h : ¬ mayEd d = true) (he : e = .returned (.tuple #[.string ⟨#[]⟩, .int .i64 1])) (hb : Below w.heap.size w w') : PUe d w e w' := by
  unfold PUe
  rw [if_neg h]
  exact ⟨he, hb⟩
theorem below_al {B : Nat} {w w' : World} {o : Obj} (h : Below (w.alloc o).heap.size (w.alloc o) w') : Below w.heap.size w w' := below_box h
set_option maxHeartbeats 16000000 in
theorem put12_any (V : Value) (d : Ed) (w : World) (h : EV w V d) : Calls Try.prog 11 #[V] w (PUe d w) := by
  have CK := Lib.hid fun (wx : World) (hx : Below w.heap.size w wx) => chk12_any V d wx (h.old hx)
  obtain ⟨aa, an, ac, da, dn, dc, rfl, hst, hsz, hok⟩ := h
  obtain ⟨ts, zs, lg, nx⟩ := d
  obtain ⟨b, off, ha, hb, hc⟩ := hst.2.1.at_
  obtain ⟨b2, off2, ha2, hb2, hc2⟩ := hsz.2.1.at_
  simp only at *
  have hl := hst.1
  have hl2 := hsz.1
  rw [hl] at ha hb
  rw [hl2] at ha2 hb2
  have HB0 := Lib.hid (box_bel w (.cells #[.slice aa an ac, .slice da dn dc, .int .i64 lg, .int .i64 nx] 25))
  have bx := EdBox.new w 25 (.slice aa an ac) (.slice da dn dc) lg nx
  have HC := Lib.hid hc
  have HC2 := Lib.hid hc2
  have HL := Lib.hid hl
  have HL2 := Lib.hid hl2
  have BX := Lib.hid bx
  obtain ⟨m, hm⟩ : ∃ m, mayEd (ts, zs, lg, nx) = m := ⟨_, rfl⟩
  have HM := Lib.hid hm
  have hed : edN (ts, zs, lg, nx) = if m = true then 0 else 1 := by unfold edN; rw [hm]
  rw [hed] at CK
  clear hm hed hc hc2 hl hl2 bx hok hst hsz
  go_enter Try.func11, Try.ntmps11
  go_wp2_with fail
  refine (CK.out _ HB0.out).mono ?_
  rintro e w1 ⟨rfl, b1⟩
  have HB1 := Lib.hid (HB0.out.trans (b1.mono HB0.out.size))
  have BX1 := Lib.hid (BX.out.below b1)
  clear b1 CK
  cases m with
  | false =>
    rw [if_neg (by decide)]
    go_wp2_with fail
    go_ret2
    exact PUe.no (by rw [HM.out]; decide) rfl HB1.out
  | true =>
    rw [if_pos rfl]
    obtain ⟨m1, m2, m3, m4, m5, m6⟩ := mayEd_iff.1 HM.out
    simp only at m1 m2 m3 m4 m5 m6
    rw [HL.out] at m1
    rw [HL2.out] at m2
    have HMT := Lib.hid m3
    have HMZ := Lib.hid m4
    clear m3 m4
    obtain ⟨y0, y1, y2, y3, y4⟩ := BX1.out
    go_wp2_with fail
    refine (pnum_any w1.heap.size w1.heap.size [] an an rfl (by omega) _ (Bld.new w1) (by simp) (by simp)).mono ?_
    rintro e w2 ⟨rfl, d2, b2', _⟩
    have HD2 := Lib.hid d2
    have HB2 := Lib.hid ((Below.refl _ w1).alloc (Nat.le_refl _) (.cells #[.pointer none, .slice none 0 0] 57) |>.trans b2')
    clear d2 b2' y0 y1 y2 y3 y4
    obtain ⟨y0, y1, y2, y3, y4⟩ := BX1.out.below HB2.out
    go_wp2
    go_loopw [8, 24] (fun _ i wr => ∃ k : Nat, i = .int .i64 k ∧ k ≤ an ∧ Hid (Bld w1.heap.size w1.heap.size (vL an ++ tabsB (ts.take k)) wr) ∧ Hid (Below w1.heap.size w1 wr)) (fun _ i _ => an - (intOf i).toNat)
    case atStart => exact ⟨0, rfl, by omega, Lib.hid (by simpa [tabsB] using HD2.out), HB2⟩
    case round =>
      clear y0 y1 y2 y3 y4
      obtain ⟨k, rfl, hk, HD, HW⟩ := hrel
      obtain ⟨y0, y1, y2, y3, y4⟩ := BX1.out.below HW.out
      by_cases hlt : k < an
      · obtain rfl := ha (by omega)
        have hbw := hb (by omega)
        have hkl : k < ts.length := by rw [HL.out]; exact hlt
        have hki : (k : Int) < (an : Int) := by omega
        have hB1s := HB1.out.size
        have hWs := HW.out.size
        have hbr : b < wr.heap.size := by omega
        obtain ⟨g0, g1, g2, g3⟩ := (HC.out.old hbw HB1.out).old (by omega : b < w1.heap.size) HW.out k hkl
        have hmt := HMT.out _ (List.getElem_mem hkl)
        have hbody := tabsB_snoc (ts.take k) ts[k]
        rw [← List.take_succ_eq_append_getElem hkl] at hbody
        have hlen := tabsB_len (ts := ts.take k) (fun e he => HMT.out e (List.mem_of_mem_take he))
        rw [List.length_take] at hlen
        obtain ⟨E, hE⟩ : ∃ E, E = ts[k] := ⟨_, rfl⟩
        rw [← hE] at g0 g1 g2 g3 hmt hbody
        have htl := tabB_len hmt
        obtain ⟨x1, x2, x3, x4⟩ := E
        obtain ⟨⟨i1, i2⟩, ⟨v1, v2⟩, k1, k2, -⟩ := mayT_iff.1 hmt
        simp only at i1 i2 v1 v2 k1 k2
        have hk1 := (keyB_iff.1 k1).2
        have hk2 := (keyB_iff.1 k2).2
        obtain ⟨L, hL⟩ : ∃ L, L = vL an ++ tabsB (ts.take k) := ⟨_, rfl⟩
        have hLs : L.length ≤ 80000000 := by
          rw [hL, List.length_append]
          have := vL_len9 (n := an) (by omega)
          have : min k ts.length ≤ 128 := by omega
          omega
        rw [← hL] at HD
        have HBody : Hid (vL an ++ tabsB (ts.take (k + 1)) = L ++ vL x1.toNat ++ vL x2.toNat ++ txL x3.data.toList ++ txL x4.data.toList) := Lib.hid (by
          rw [hbody, ← List.append_assoc, ← hL]
          unfold tabB
          simp only [List.append_assoc])
        have q1 := vL_len9 (n := x1.toNat) (by omega)
        have q2 := vL_len9 (n := x2.toNat) (by omega)
        have q3 := txL_size x3.data.toList (by rw [size_list]; omega)
        have hxb : wr.heap.size ≠ w1.heap.size := by have := HD.out.lt; omega
        have HT0 := Lib.hid (TBlk.new wr (x1, x2, x3, x4))
        have HD0 := Lib.hid (HD.out.old (box_bel wr (.cells #[.int .i64 x1, .int .i64 x2, .string x3, .string x4] 49)))
        have HW0 := Lib.hid (HW.out.trans ((box_bel wr (.cells #[.int .i64 x1, .int .i64 x2, .string x3, .string x4] 49)).mono hWs))
        obtain ⟨xb, hxbe⟩ : ∃ xb, xb = wr.heap.size := ⟨_, rfl⟩
        clear hbody hlen hL hE hmt htl k1 k2 HD HW
        go_wp2_with fail
        rw [← hxbe] at HT0 hxb ⊢
        have HXB := Lib.hid hxbe
        clear hxbe g0 g1 g2 g3
        generalize wr.alloc (.cells #[.int .i64 x1, .int .i64 x2, .string x3, .string x4] 49) = wa at *
        have hs0 := HW0.out.size
        clear y0 y1 y2 y3 y4
        refine (pnum_any w1.heap.size w1.heap.size L x1 x1.toNat (by omega) (by omega) _ HD0.out (by omega) hs0).mono ?_
        rintro e w4 ⟨rfl, d4, b4, k4⟩
        have HT4 := Lib.hid (HT0.out.keep hxb k4)
        have HD4 := Lib.hid d4
        have HW4 := Lib.hid (HW0.out.trans b4)
        have hs4 := HW4.out.size
        obtain ⟨z0, z1, z2, z3, z4⟩ := HT4.out.box
        clear d4 b4 k4 HT0 HD0 HW0 hs0
        go_wp2_with fail
        refine (pnum_any w1.heap.size w1.heap.size (L ++ vL x1.toNat) x2 x2.toNat (by omega) (by omega) _ HD4.out (by rw [List.length_append]; omega) hs4).mono ?_
        rintro e w5 ⟨rfl, d5, b5, k5⟩
        have HT5 := Lib.hid (HT4.out.keep hxb k5)
        have HD5 := Lib.hid d5
        have HW5 := Lib.hid (HW4.out.trans b5)
        have hs5 := HW5.out.size
        clear z0 z1 z2 z3 z4 d5 b5 k5 HT4 HD4 HW4 hs4
        obtain ⟨z0, z1, z2, z3, z4⟩ := HT5.out.box
        go_wp2_with fail
        refine (ptext_any w1.heap.size w1.heap.size (L ++ vL x1.toNat ++ vL x2.toNat) x3 (by omega) _ HD5.out (by simp only [List.length_append]; omega) hs5).mono ?_
        rintro e w6 ⟨rfl, d6, b6, k6⟩
        have HT6 := Lib.hid (HT5.out.keep hxb k6)
        have HD6 := Lib.hid d6
        have HW6 := Lib.hid (HW5.out.trans b6)
        have hs6 := HW6.out.size
        clear z0 z1 z2 z3 z4 d6 b6 k6 HT5 HD5 HW5 hs5
        obtain ⟨z0, z1, z2, z3, z4⟩ := HT6.out.box
        go_wp2_with fail
        refine (ptext_any w1.heap.size w1.heap.size (L ++ vL x1.toNat ++ vL x2.toNat ++ txL x3.data.toList) x4 (by omega) _ HD6.out (by simp only [List.length_append]; omega) hs6).mono ?_
        rintro e w7 ⟨rfl, d7, b7, k7⟩
        have HD7 : Hid (Bld w1.heap.size w1.heap.size (vL an ++ tabsB (ts.take (k + 1))) w7) := Lib.hid (by rw [HBody.out]; exact d7)
        have HW7 := Lib.hid (HW6.out.trans b7)
        clear z0 z1 z2 z3 z4 d7 b7 k7 HT6 HD6 HW6 hs6
        go_wp2_with fail
        go_roundw
        case rel => exact ⟨k + 1, by go_num, by omega, HD7, HW7⟩
        case measure => simp [intOf]; omega
      · obtain rfl : k = an := by omega
        have hh := HD.out
        rw [← HL.out, List.take_length, HL.out] at hh
        obtain ⟨L, hL⟩ : ∃ L, L = vL k ++ tabsB ts := ⟨_, rfl⟩
        have hLs : L.length ≤ 80000000 := by
          rw [hL, List.length_append]
          have := vL_len9 (n := k) (by omega)
          have := tabsB_len HMT.out
          have := HL.out
          omega
        rw [← hL] at hh
        have HLE := Lib.hid hL
        have HD0 := Lib.hid hh
        have hs0 := HW.out.size
        clear hh hL HD
        go_wp2_with fail
        refine (pnum_any w1.heap.size w1.heap.size L dn dn rfl (by omega) _ HD0.out (by omega) hs0).mono ?_
        rintro e w3 ⟨rfl, d3, b3, -⟩
        have HD3 := Lib.hid d3
        have HW3 := Lib.hid (HW.out.trans b3)
        clear d3 b3 HD0 hs0 HW
        clear y0 y1 y2 y3 y4
        obtain ⟨y0, y1, y2, y3, y4⟩ := BX1.out.below HW3.out
        have q1 := vL_len9 (n := dn) (by omega)
        go_wp2
        go_loopw [10, 53] (fun _ i wr => ∃ j : Nat, i = .int .i64 j ∧ j ≤ dn ∧ Hid (Bld w1.heap.size w1.heap.size (L ++ vL dn ++ intsB (zs.take j)) wr) ∧ Hid (Below w1.heap.size w1 wr)) (fun _ i _ => dn - (intOf i).toNat)
        case atStart => exact ⟨0, rfl, by omega, Lib.hid (by simpa [intsB] using HD3.out), HW3⟩
        case round =>
          clear y0 y1 y2 y3 y4
          obtain ⟨j, rfl, hj, HD, HW⟩ := hrel
          obtain ⟨y0, y1, y2, y3, y4⟩ := BX1.out.below HW.out
          have hlen := intsB_len (zs := zs.take j) (fun e he => HMZ.out e (List.mem_of_mem_take he))
          rw [List.length_take] at hlen
          have hws := HW.out.size
          by_cases hlt2 : j < dn
          · obtain rfl := ha2 (by omega)
            have hbw := hb2 (by omega)
            have hkl : j < zs.length := by rw [HL2.out]; exact hlt2
            have hki : (j : Int) < (dn : Int) := by omega
            have hB1s := HB1.out.size
            have hbr : b2 < wr.heap.size := by omega
            have g0 := (HC2.out.old hbw HB1.out).old (by omega : b2 < w1.heap.size) HW.out j hkl
            have hmz := HMZ.out _ (List.getElem_mem hkl)
            have hbody := intsB_snoc (zs.take j) zs[j]
            rw [← List.take_succ_eq_append_getElem hkl] at hbody
            obtain ⟨E, hE⟩ : ∃ E, E = zs[j] := ⟨_, rfl⟩
            rw [← hE] at g0 hmz hbody
            obtain ⟨M, hM⟩ : ∃ M, M = L ++ vL dn ++ intsB (zs.take j) := ⟨_, rfl⟩
            have hMl : M.length ≤ 90000000 := by rw [hM]; simp only [List.length_append]; omega
            have HBody : Hid (L ++ vL dn ++ intsB (zs.take (j + 1)) = M ++ vL E.toNat) := Lib.hid (by rw [hbody, ← List.append_assoc, ← hM])
            rw [← hM] at HD
            clear hM hbody hE hlen
            go_wp2_with fail
            refine (pnum_any w1.heap.size w1.heap.size M E E.toNat (by omega) (by omega) _ HD.out (by omega) hws).mono ?_
            rintro e w4 ⟨rfl, d4, b4, -⟩
            have HD4 : Hid (Bld w1.heap.size w1.heap.size (L ++ vL dn ++ intsB (zs.take (j + 1))) w4) := Lib.hid (by rw [HBody.out]; exact d4)
            have HW4 := Lib.hid (HW.out.trans b4)
            clear d4 b4
            go_wp2_with fail
            go_roundw
            case rel => exact ⟨j + 1, by go_num, by omega, HD4, HW4⟩
            case measure => simp [intOf]; omega
          · obtain rfl : j = dn := by omega
            have hh := HD.out
            rw [← HL2.out, List.take_length, HL2.out] at hh
            obtain ⟨M, hM⟩ : ∃ M, M = L ++ vL j ++ intsB zs := ⟨_, rfl⟩
            have hMl : M.length ≤ 90000000 := by rw [hM]; simp only [List.length_append]; have := intsB_len HMZ.out; have := HL2.out; omega
            rw [← hM] at hh
            have HME := Lib.hid hM
            have HD0 := Lib.hid hh
            clear hh hM HD hlen
            have q2 := vL_len9 (n := lg.toNat) (by omega)
            have q3 := vL_len9 (n := nx.toNat) (by omega)
            go_wp2_with fail
            refine (pnum_any w1.heap.size w1.heap.size M lg lg.toNat (by omega) (by omega) _ HD0.out (by omega) hws).mono ?_
            rintro e w4 ⟨rfl, d4, b4, -⟩
            have HD4 := Lib.hid d4
            have HW4 := Lib.hid (HW.out.trans b4)
            have hs4 := HW4.out.size
            clear d4 b4 HD0 HW hws y0 y1 y2 y3 y4
            obtain ⟨y0, y1, y2, y3, y4⟩ := BX1.out.below HW4.out
            go_wp2_with fail
            refine (pnum_any w1.heap.size w1.heap.size (M ++ vL lg.toNat) nx nx.toNat (by omega) (by omega) _ HD4.out (by rw [List.length_append]; omega) hs4).mono ?_
            rintro e w5 ⟨rfl, d5, b5, -⟩
            have HD5 := Lib.hid d5
            have HW5 := Lib.hid (HW4.out.trans b5)
            have hs5 := HW5.out.size
            clear d5 b5 HD4 HW4 hs4
            go_wp2_with fail
            refine (bstring_any _ _ _ _ HD5.out hs5).mono ?_
            rintro e w6 ⟨rfl, b6⟩
            have HW6 := Lib.hid (HB1.out.trans ((HW5.out.trans b6).mono HB1.out.size))
            clear b6
            go_wp2_with fail
            go_ret2
            refine PUe.yes HM.out ?_ HW6.out
            have he : M ++ vL lg.toNat ++ vL nx.toNat = edB (ts, zs, lg, nx) := by
              rw [HME.out, HLE.out]
              unfold edB
              rw [HL.out, HL2.out]
            rw [List.append_assoc] at he
            have he2 : (⟨(M ++ (vL lg.toNat ++ vL nx.toNat)).toArray⟩ : ByteArray) = ⟨(edB (ts, zs, lg, nx)).toArray⟩ := by rw [he]
            exact congrArg Ending.returned (congrArg (fun x => Value.tuple #[.string x, .int .i64 0]) he2)
end Go.Proofs.Ythmkalnbdocdcaa
