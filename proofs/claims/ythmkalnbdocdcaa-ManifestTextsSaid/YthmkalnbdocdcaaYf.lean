/-
  Layer 12 (manifest): contracts of Check, of the document's May and Check. Conditions: texts within the reach.
-/
import Derived.Test.YthmkalnbdocdcaaYe
namespace Go.Proofs.Ythmkalnbdocdcaa
set_option maxRecDepth 100000
open Go.RowKit
set_option linter.unusedVariables false
set_option linter.unusedSimpArgs false

/-- The box of an edit. -/
def EdBox (w : World) (x : Nat) (A D : Value) (lg nx : Int) : Prop := w.cell? ⟨x, 0, none⟩ = some A ∧ w.cell? ⟨x, 1, none⟩ = some D ∧ w.cell? ⟨x, 2, none⟩ = some (.int .i64 lg) ∧ w.cell? ⟨x, 3, none⟩ = some (.int .i64 nx) ∧ x < w.heap.size
theorem EdBox.below {w w' : World} {x : Nat} {A D : Value} {lg nx : Int} (h : EdBox w x A D lg nx) (hb : Below w.heap.size w w') : EdBox w' x A D lg nx :=
  ⟨(hb.cell (p := ⟨x, 0, none⟩) h.2.2.2.2).trans h.1, (hb.cell (p := ⟨x, 1, none⟩) h.2.2.2.2).trans h.2.1, (hb.cell (p := ⟨x, 2, none⟩) h.2.2.2.2).trans h.2.2.1, (hb.cell (p := ⟨x, 3, none⟩) h.2.2.2.2).trans h.2.2.2.1, Nat.lt_of_lt_of_le h.2.2.2.2 hb.size⟩
theorem EdBox.new (w : World) (T : TypeId) (A D : Value) (lg nx : Int) : EdBox (w.alloc (.cells #[A, D, .int .i64 lg, .int .i64 nx] T)) w.heap.size A D lg nx :=
  ⟨by simp, by simp, by simp, by simp, by simp⟩
def edN (e : Ed) : Int := if mayEd e = true then 0 else 1
theorem edN_no {e : Ed} (h : ¬ mayEd e = true) : edN e = 1 := by unfold edN; rw [if_neg h]
theorem edN_yes {e : Ed} (h : mayEd e = true) : edN e = 0 := by unfold edN; rw [if_pos h]
set_option maxHeartbeats 8000000 in
theorem chk12_any (V : Value) (e : Ed) (w : World) (h : EV w V e) : Calls Try.prog 16 #[V] w fun x w' => x = .returned (.int .i64 (edN e)) ∧ Below w.heap.size w w' := by
  obtain ⟨aa, an, ac, da, dn, dc, rfl, hst, hsz, hok⟩ := h
  obtain ⟨ts, zs, lg, nx⟩ := e
  obtain ⟨b, off, ha, hb, hc⟩ := hst.2.1.at_
  obtain ⟨b2, off2, ha2, hb2, hc2⟩ := hsz.2.1.at_
  simp only at *
  have hl := hst.1
  have hl2 := hsz.1
  rw [hl] at ha hb
  rw [hl2] at ha2 hb2
  obtain ⟨r, hr⟩ : ∃ r, edN (ts, zs, lg, nx) = r := ⟨_, rfl⟩
  rw [hr]
  obtain ⟨c1, hc1⟩ : ∃ c, numB lg 0 = c := ⟨_, rfl⟩
  obtain ⟨c2, hc2'⟩ : ∃ c, numB nx 0 = c := ⟨_, rfl⟩
  have D1 := Lib.hid (cntd_any lg c1 hc1)
  have D2 := Lib.hid (cntd_any nx c2 hc2')
  have HNO : Hid (¬ (an ≤ 128 ∧ dn ≤ 128 ∧ c1 = true ∧ c2 = true ∧ (∀ t ∈ ts, mayT t = true) ∧ (∀ x ∈ zs, numB x 1 = true)) → r = 1) := Lib.hid fun h => by
    rw [← hr]
    refine edN_no fun hm => h ?_
    obtain ⟨m1, m2, m3, m4, m5, m6⟩ := mayEd_iff.1 hm
    exact ⟨by rw [← hl]; exact m1, by rw [← hl2]; exact m2, by rw [← hc1]; exact numB_iff.2 m5, by rw [← hc2']; exact numB_iff.2 m6, m3, fun x hx => numB_iff.2 (m4 x hx)⟩
  have HYES : Hid ((an ≤ 128 ∧ dn ≤ 128 ∧ c1 = true ∧ c2 = true ∧ (∀ t ∈ ts, mayT t = true) ∧ (∀ x ∈ zs, numB x 1 = true)) → r = 0) := Lib.hid fun h => by
    obtain ⟨m1, m2, m3, m4, m5, m6⟩ := h
    rw [← hr]
    exact edN_yes (mayEd_iff.2 ⟨by show ts.length ≤ 128; omega, by show zs.length ≤ 128; omega, m5, fun x hx => numB_iff.1 (m6 x hx), numB_iff.1 (by rw [hc1]; exact m3), numB_iff.1 (by rw [hc2']; exact m4)⟩)
  have HC := Lib.hid hc
  have HC2 := Lib.hid hc2
  have HL := Lib.hid hl
  have HL2 := Lib.hid hl2
  have HOK := Lib.hid hok
  have HB0 := Lib.hid (box_bel w (.cells #[.slice aa an ac, .slice da dn dc, .int .i64 lg, .int .i64 nx] 25))
  clear hr hc1 hc2' hc hc2 hl hl2 hok hst hsz
  by_cases h1 : an ≤ 128
  case neg =>
    have h1z : (128 : Int) < (an : Int) := by omega
    obtain rfl := HNO.out (fun q => h1 q.1)
    go_enter Try.func16, Try.ntmps16
    go_wp2_with fail
    go_ret
    exact ⟨rfl, HB0.out⟩
  have h1z : ¬ (128 : Int) < (an : Int) := by omega
  by_cases h2 : dn ≤ 128
  case neg =>
    have h2z : (128 : Int) < (dn : Int) := by omega
    obtain rfl := HNO.out (fun q => h2 q.2.1)
    go_enter Try.func16, Try.ntmps16
    go_wp2_with fail
    go_ret
    exact ⟨rfl, HB0.out⟩
  have h2z : ¬ (128 : Int) < (dn : Int) := by omega
  cases c1 with
  | false =>
    obtain rfl := HNO.out (fun q => by have := q.2.2.1; cases this)
    go_enter Try.func16, Try.ntmps16
    go_wp2_with fail
    refine (D1.out _).mono ?_
    rintro e w1 ⟨rfl, rfl⟩
    go_wp2_with fail
    go_ret
    exact ⟨rfl, HB0.out⟩
  | true =>
  cases c2 with
  | false =>
    obtain rfl := HNO.out (fun q => by have := q.2.2.2.1; cases this)
    go_enter Try.func16, Try.ntmps16
    go_wp2_with fail
    refine (D1.out _).mono ?_
    rintro e w1 ⟨rfl, rfl⟩
    go_wp2_with fail
    refine (D2.out _).mono ?_
    rintro e w1 ⟨rfl, rfl⟩
    go_wp2_with fail
    go_ret
    exact ⟨rfl, HB0.out⟩
  | true =>
  have bx := EdBox.new w 25 (.slice aa an ac) (.slice da dn dc) lg nx
  go_enter Try.func16, Try.ntmps16
  go_wp2_with fail
  refine (D1.out _).mono ?_
  rintro e w1 ⟨rfl, rfl⟩
  go_wp2_with fail
  refine (D2.out _).mono ?_
  rintro e w1 ⟨rfl, rfl⟩
  go_wp2_with fail
  obtain ⟨wb, hwb⟩ : ∃ wb, wb = w.alloc (.cells #[.slice aa an ac, .slice da dn dc, .int .i64 lg, .int .i64 nx] 25) := ⟨_, rfl⟩
  rw [← hwb] at HB0 bx ⊢
  obtain ⟨xb, hxb⟩ : ∃ xb, xb = w.heap.size := ⟨_, rfl⟩
  rw [← hxb] at bx ⊢
  have BX := Lib.hid bx
  have HXB := Lib.hid hxb
  clear bx hwb hxb D1 D2
  go_loopw [4, 32] (fun _ i wr => ∃ k : Nat, i = .int .i64 k ∧ k ≤ an ∧ Hid (∀ j (h : j < ts.length), j < k → mayT ts[j] = true) ∧ Hid (Below wb.heap.size wb wr)) (fun _ i _ => an - (intOf i).toNat)
  case atStart => exact ⟨0, rfl, by omega, Lib.hid (fun j h hj => by omega), Lib.hid (Below.refl _ _)⟩
  case round =>
    obtain ⟨k, rfl, hk, HK, HW⟩ := hrel
    have HWW := Lib.hid (HB0.out.trans (HW.out.mono HB0.out.size))
    by_cases hlt : k < an
    · have hki : (k : Int) < (an : Int) := by omega
      obtain rfl := ha (by omega)
      have hbw := hb (by omega)
      have hkl : k < ts.length := by rw [HL.out]; exact hlt
      obtain ⟨g0, g1, g2, g3⟩ := HC.out.old hbw HWW.out k hkl
      have hbr : b < wr.heap.size := Nat.lt_of_lt_of_le hbw HWW.out.size
      have hin := List.getElem_mem hkl
      have hokt := HOK.out _ hin
      obtain ⟨E, hE⟩ : ∃ E, E = ts[k] := ⟨_, rfl⟩
      rw [← hE] at g0 g1 g2 g3 hin hokt
      obtain ⟨m, hm⟩ : ∃ m, mayT E = m := ⟨_, rfl⟩
      obtain ⟨x1, x2, x3, x4⟩ := E
      have CM := Lib.hid (mayt_any x1 x2 x3 x4 m hm hokt.1 hokt.2)
      cases m with
      | false =>
        obtain rfl := HNO.out (fun q => by have := q.2.2.2.2.1 _ hin; rw [hm] at this; cases this)
        clear hE hin hm hokt
        go_wp2_with fail
        refine (CM.out _).mono ?_
        rintro e w2 ⟨rfl, b2⟩
        have HB2 := Lib.hid (HWW.out.trans ((below_box b2).mono HWW.out.size))
        clear b2
        go_wp2_with fail
        go_ret
        exact ⟨rfl, HB2.out⟩
      | true =>
        have HN : Hid (∀ j (h : j < ts.length), j < k + 1 → mayT ts[j] = true) := Lib.hid fun j h hj => by
          by_cases e : j = k
          · subst e; rw [← hE]; exact hm
          · exact HK.out j h (by omega)
        clear hE hin hm hokt
        go_wp2_with fail
        refine (CM.out _).mono ?_
        rintro e w2 ⟨rfl, b2⟩
        have HB2 := Lib.hid (HW.out.trans ((below_box b2).mono HW.out.size))
        clear b2
        go_wp2_with fail
        go_roundw
        case rel => exact ⟨k + 1, by go_num, by omega, HN, HB2⟩
        case measure => simp [intOf]; omega
    · obtain rfl : k = an := by omega
      have HALL : Hid (∀ t ∈ ts, mayT t = true) := Lib.hid fun t ht => by
        obtain ⟨j, hj, rfl⟩ := List.getElem_of_mem ht
        exact HK.out j hj (by have := HL.out; omega)
      have HWB := HW
      obtain ⟨y0, y1, y2, y3, y4⟩ := BX.out.below HW.out
      clear HK HW
      go_wp2_with fail
      rename World => wo
      go_loopw [6, 43] (fun _ i wr => ∃ k : Nat, i = .int .i64 k ∧ k ≤ dn ∧ wr = wo ∧ Hid (∀ j (h : j < zs.length), j < k → numB zs[j] 1 = true)) (fun _ i _ => dn - (intOf i).toNat)
      case atStart => exact ⟨0, rfl, by omega, by first | rfl | trivial, Lib.hid (fun j h hj => by omega)⟩
      case round =>
        obtain ⟨k, rfl, hk2, rfl, HK⟩ := hrel
        by_cases hlt2 : k < dn
        · have hki : (k : Int) < (dn : Int) := by omega
          obtain rfl := ha2 (by omega)
          have hbw := hb2 (by omega)
          have hkl : k < zs.length := by rw [HL2.out]; exact hlt2
          have g0 := HC2.out.old hbw HWW.out k hkl
          have hbr : b2 < wr.heap.size := Nat.lt_of_lt_of_le hbw HWW.out.size
          have hin := List.getElem_mem hkl
          obtain ⟨E, hE⟩ : ∃ E, E = zs[k] := ⟨_, rfl⟩
          rw [← hE] at g0 hin
          obtain ⟨m, hm⟩ : ∃ m, numB E 1 = m := ⟨_, rfl⟩
          have CM := Lib.hid (numb_any E m hm)
          cases m with
          | false =>
            obtain rfl := HNO.out (fun q => by have := q.2.2.2.2.2 _ hin; rw [hm] at this; cases this)
            clear hE hin hm
            go_wp2_with fail
            refine (CM.out _).mono ?_
            rintro e w2 ⟨rfl, rfl⟩
            go_wp2_with fail
            go_ret
            exact ⟨rfl, HWW.out⟩
          | true =>
            have HN : Hid (∀ j (h : j < zs.length), j < k + 1 → numB zs[j] 1 = true) := Lib.hid fun j h hj => by
              by_cases e : j = k
              · subst e; rw [← hE]; exact hm
              · exact HK.out j h (by omega)
            clear hE hin hm
            go_wp2_with fail
            refine (CM.out _).mono ?_
            rintro e w2 ⟨rfl, rfl⟩
            go_wp2_with fail
            go_roundw
            case rel => exact ⟨k + 1, by go_num, by omega, by first | rfl | trivial, HN⟩
            case measure => simp [intOf]; omega
        · obtain rfl : k = dn := by omega
          obtain rfl := HYES.out ⟨h1, h2, by simp, by simp, HALL.out, fun x hx => by
            obtain ⟨j, hj, rfl⟩ := List.getElem_of_mem hx
            exact HK.out j hj (by have := HL2.out; omega)⟩
          go_wp2_with fail
          go_ret
          exact ⟨rfl, HWW.out⟩
set_option maxHeartbeats 8000000 in
theorem rmay12_any (V : Value) (e : Ed) (w : World) (h : EV w V e) : Calls Try.prog 32 #[V] w fun x w' => x = .returned (.bool (mayEd e)) ∧ Below w.heap.size w w' := by
  obtain ⟨aa, an, ac, da, dn, dc, rfl, hst, hsz, hok⟩ := h
  obtain ⟨ts, zs, lg, nx⟩ := e
  obtain ⟨b, off, ha, hb, hc⟩ := hst.2.1.at_
  obtain ⟨b2, off2, ha2, hb2, hc2⟩ := hsz.2.1.at_
  simp only at *
  have hl := hst.1
  have hl2 := hsz.1
  rw [hl] at ha hb
  rw [hl2] at ha2 hb2
  obtain ⟨r, hr⟩ : ∃ r, mayEd (ts, zs, lg, nx) = r := ⟨_, rfl⟩
  rw [hr]
  obtain ⟨c1, hc1⟩ : ∃ c, numB lg 0 = c := ⟨_, rfl⟩
  obtain ⟨c2, hc2'⟩ : ∃ c, numB nx 0 = c := ⟨_, rfl⟩
  have D1 := Lib.hid (rnum_any lg 0 c1 hc1)
  have D2 := Lib.hid (rnum_any nx 0 c2 hc2')
  have HNO : Hid (¬ (an ≤ 128 ∧ dn ≤ 128 ∧ (∀ t ∈ ts, mayT t = true) ∧ (∀ x ∈ zs, numB x 1 = true)) → r = false) := Lib.hid fun h => by
    rw [← hr, Bool.eq_false_iff]
    intro hm
    refine h ?_
    obtain ⟨m1, m2, m3, m4, m5, m6⟩ := mayEd_iff.1 hm
    exact ⟨by rw [← hl]; exact m1, by rw [← hl2]; exact m2, m3, fun x hx => numB_iff.2 (m4 x hx)⟩
  have HYES : Hid ((an ≤ 128 ∧ dn ≤ 128 ∧ (∀ t ∈ ts, mayT t = true) ∧ (∀ x ∈ zs, numB x 1 = true)) → r = (c1 && c2)) := Lib.hid fun h => by
    obtain ⟨m1, m2, m5, m6⟩ := h
    rw [← hr, Bool.eq_iff_iff, mayEd_iff, Bool.and_eq_true, ← hc1, ← hc2', numB_iff, numB_iff]
    exact ⟨fun q => ⟨q.2.2.2.2.1, q.2.2.2.2.2⟩, fun q => ⟨by show ts.length ≤ 128; omega, by show zs.length ≤ 128; omega, m5, fun x hx => numB_iff.1 (m6 x hx), q.1, q.2⟩⟩
  have HC := Lib.hid hc
  have HC2 := Lib.hid hc2
  have HL := Lib.hid hl
  have HL2 := Lib.hid hl2
  have HOK := Lib.hid hok
  have HB0 := Lib.hid (box_bel w (.cells #[.slice aa an ac, .slice da dn dc, .int .i64 lg, .int .i64 nx] 25))
  clear hr hc1 hc2' hc hc2 hl hl2 hok hst hsz
  by_cases h1 : an ≤ 128
  case neg =>
    have h1z : (128 : Int) < (an : Int) := by omega
    obtain rfl := HNO.out (fun q => h1 q.1)
    go_enter Try.func32, Try.ntmps32
    go_wp2_with fail
    go_ret
    exact ⟨rfl, HB0.out⟩
  have h1z : ¬ (128 : Int) < (an : Int) := by omega
  by_cases h2 : dn ≤ 128
  case neg =>
    have h2z : (128 : Int) < (dn : Int) := by omega
    obtain rfl := HNO.out (fun q => h2 q.2.1)
    go_enter Try.func32, Try.ntmps32
    go_wp2_with fail
    go_ret
    exact ⟨rfl, HB0.out⟩
  have h2z : ¬ (128 : Int) < (dn : Int) := by omega
  have bx := EdBox.new w 25 (.slice aa an ac) (.slice da dn dc) lg nx
  go_enter Try.func32, Try.ntmps32
  go_wp2_with fail
  obtain ⟨wb, hwb⟩ : ∃ wb, wb = w.alloc (.cells #[.slice aa an ac, .slice da dn dc, .int .i64 lg, .int .i64 nx] 25) := ⟨_, rfl⟩
  rw [← hwb] at HB0 bx ⊢
  obtain ⟨xb, hxb⟩ : ∃ xb, xb = w.heap.size := ⟨_, rfl⟩
  rw [← hxb] at bx ⊢
  have BX := Lib.hid bx
  have HXB := Lib.hid hxb
  clear bx hwb hxb
  go_loopw [3] (fun i wr => ∃ k : Nat, i = .int .i64 k ∧ k ≤ an ∧ Hid (∀ j (h : j < ts.length), j < k → mayT ts[j] = true) ∧ Hid (Below wb.heap.size wb wr)) (fun i _ => an - (intOf i).toNat)
  case atStart => exact ⟨0, rfl, by omega, Lib.hid (fun j h hj => by omega), Lib.hid (Below.refl _ _)⟩
  case round =>
    obtain ⟨k, rfl, hk, HK, HW⟩ := hrel
    have HWW := Lib.hid (HB0.out.trans (HW.out.mono HB0.out.size))
    obtain ⟨y0, y1, y2, y3, y4⟩ := BX.out.below HW.out
    by_cases hlt : k < an
    · have hki : (k : Int) < (an : Int) := by omega
      obtain rfl := ha (by omega)
      have hbw := hb (by omega)
      have hkl : k < ts.length := by rw [HL.out]; exact hlt
      obtain ⟨g0, g1, g2, g3⟩ := HC.out.old hbw HWW.out k hkl
      have hbr : b < wr.heap.size := Nat.lt_of_lt_of_le hbw HWW.out.size
      have hin := List.getElem_mem hkl
      have hokt := HOK.out _ hin
      obtain ⟨E, hE⟩ : ∃ E, E = ts[k] := ⟨_, rfl⟩
      rw [← hE] at g0 g1 g2 g3 hin hokt
      obtain ⟨m, hm⟩ : ∃ m, mayT E = m := ⟨_, rfl⟩
      obtain ⟨x1, x2, x3, x4⟩ := E
      have CM := Lib.hid (rtab_any x1 x2 x3 x4 m hm hokt.1 hokt.2)
      cases m with
      | false =>
        obtain rfl := HNO.out (fun q => by have := q.2.2.1 _ hin; rw [hm] at this; cases this)
        clear hE hin hm hokt
        go_wp2_with fail
        refine (CM.out _).mono ?_
        rintro e w2 ⟨rfl, b2⟩
        have HB2 := Lib.hid (HWW.out.trans (b2.mono HWW.out.size))
        clear b2
        go_wp2_with fail
        go_ret
        exact ⟨rfl, HB2.out⟩
      | true =>
        have HN : Hid (∀ j (h : j < ts.length), j < k + 1 → mayT ts[j] = true) := Lib.hid fun j h hj => by
          by_cases e : j = k
          · subst e; rw [← hE]; exact hm
          · exact HK.out j h (by omega)
        clear hE hin hm hokt
        go_wp2_with fail
        refine (CM.out _).mono ?_
        rintro e w2 ⟨rfl, b2⟩
        have HB2 := Lib.hid (HW.out.trans (b2.mono HW.out.size))
        clear b2
        go_wp2_with fail
        go_roundw
        case rel => exact ⟨k + 1, by go_num, by omega, HN, HB2⟩
        case measure => simp [intOf]; omega
    · obtain rfl : k = an := by omega
      have HALL : Hid (∀ t ∈ ts, mayT t = true) := Lib.hid fun t ht => by
        obtain ⟨j, hj, rfl⟩ := List.getElem_of_mem ht
        exact HK.out j hj (by have := HL.out; omega)
      clear HK HW
      go_wp2_with fail
      rename World => wo
      go_loopw [4] (fun i wr => ∃ k : Nat, i = .int .i64 k ∧ k ≤ dn ∧ wr = wo ∧ Hid (∀ j (h : j < zs.length), j < k → numB zs[j] 1 = true)) (fun i _ => dn - (intOf i).toNat)
      case atStart => exact ⟨0, rfl, by omega, by first | rfl | trivial, Lib.hid (fun j h hj => by omega)⟩
      case round =>
        obtain ⟨k, rfl, hk2, rfl, HK⟩ := hrel
        by_cases hlt2 : k < dn
        · have hki : (k : Int) < (dn : Int) := by omega
          obtain rfl := ha2 (by omega)
          have hbw := hb2 (by omega)
          have hkl : k < zs.length := by rw [HL2.out]; exact hlt2
          have g0 := HC2.out.old hbw HWW.out k hkl
          have hbr : b2 < wr.heap.size := Nat.lt_of_lt_of_le hbw HWW.out.size
          have hin := List.getElem_mem hkl
          obtain ⟨E, hE⟩ : ∃ E, E = zs[k] := ⟨_, rfl⟩
          rw [← hE] at g0 hin
          obtain ⟨m, hm⟩ : ∃ m, numB E 1 = m := ⟨_, rfl⟩
          have CM := Lib.hid (rnum_any E 1 m hm)
          cases m with
          | false =>
            obtain rfl := HNO.out (fun q => by have := q.2.2.2 _ hin; rw [hm] at this; cases this)
            clear hE hin hm
            go_wp2_with fail
            refine (CM.out _).mono ?_
            rintro e w2 ⟨rfl, rfl⟩
            go_wp2_with fail
            go_ret
            exact ⟨rfl, HWW.out⟩
          | true =>
            have HN : Hid (∀ j (h : j < zs.length), j < k + 1 → numB zs[j] 1 = true) := Lib.hid fun j h hj => by
              by_cases e : j = k
              · subst e; rw [← hE]; exact hm
              · exact HK.out j h (by omega)
            clear hE hin hm
            go_wp2_with fail
            refine (CM.out _).mono ?_
            rintro e w2 ⟨rfl, rfl⟩
            go_wp2_with fail
            go_roundw
            case rel => exact ⟨k + 1, by go_num, by omega, by first | rfl | trivial, HN⟩
            case measure => simp [intOf]; omega
        · obtain rfl : k = dn := by omega
          have hrr := HYES.out ⟨h1, h2, HALL.out, fun x hx => by
            obtain ⟨j, hj, rfl⟩ := List.getElem_of_mem hx
            exact HK.out j hj (by have := HL2.out; omega)⟩
          have HRR := Lib.hid hrr
          clear hrr
          go_wp2_with fail
          refine (D1.out _).mono ?_
          rintro e w2 ⟨rfl, rfl⟩
          cases c1 with
          | false =>
            obtain rfl := HRR.out
            go_wp2_with fail
            go_ret
            exact ⟨rfl, HWW.out⟩
          | true =>
            go_wp2_with fail
            refine (D2.out _).mono ?_
            rintro e w2 ⟨rfl, rfl⟩
            obtain rfl := HRR.out
            go_wp2_with fail
            go_ret
            exact ⟨rfl, HWW.out⟩
set_option maxHeartbeats 4000000 in
theorem rchk12_any (V : Value) (e : Ed) (w : World) (h : EV w V e) : Calls Try.prog 17 #[V] w fun x w' => x = .returned (.int .i64 (edN e)) ∧ Below w.heap.size w w' := by
  have CC := Lib.hid fun (wx : World) (hx : Below w.heap.size w wx) => rmay12_any V e wx (h.old hx)
  obtain ⟨aa, an, ac, da, dn, dc, rfl, hst, hsz, hok⟩ := h
  obtain ⟨ts, zs, lg, nx⟩ := e
  simp only at *
  obtain ⟨r, hr⟩ : ∃ r, edN (ts, zs, lg, nx) = r := ⟨_, rfl⟩
  rw [hr]
  have HR : Hid (r = if mayEd (ts, zs, lg, nx) = true then 0 else 1) := Lib.hid (by rw [← hr]; rfl)
  obtain ⟨m, hm⟩ : ∃ m, mayEd (ts, zs, lg, nx) = m := ⟨_, rfl⟩
  rw [hm] at CC HR
  have HB0 := Lib.hid (box_bel w (.cells #[.slice aa an ac, .slice da dn dc, .int .i64 lg, .int .i64 nx] 25))
  clear hr hm hst hsz hok
  go_enter Try.func17, Try.ntmps17
  go_wp2_with fail
  refine (CC.out _ HB0.out).mono ?_
  rintro e w2 ⟨rfl, b2⟩
  have HB2 := Lib.hid (below_box b2)
  clear b2
  cases m with
  | false =>
    obtain rfl := HR.out
    go_wp2_with fail
    go_ret
    exact ⟨rfl, HB2.out⟩
  | true =>
    obtain rfl := HR.out
    go_wp2_with fail
    go_ret
    exact ⟨rfl, HB2.out⟩
end Go.Proofs.Ythmkalnbdocdcaa
