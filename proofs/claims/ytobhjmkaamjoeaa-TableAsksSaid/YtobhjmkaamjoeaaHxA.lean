/-
  Layer 10 (table), the walk of the law TableAsks. Conditions: texts within the reach.
-/
import Derived.Test.YtobhjmkaamjoeaaHy
import Derived.Test.YtobhjmkaamjoeaaBe
import Derived.Laws.StructEq
import Derived.Deep.RegionHeld3
namespace Go.Proofs.Ytobhjmkaamjoeaa
set_option maxRecDepth 100000
open Go.RowKit
set_option linter.unusedVariables false
set_option linter.unusedSimpArgs false

/-- Two cells of the boxes that come in. -/
def TwB (w : World) (x : Nat) (u v : Value) : Prop := w.cell? ⟨x, 0, none⟩ = some u ∧ w.cell? ⟨x, 1, none⟩ = some v ∧ x < w.heap.size
theorem TwB.old {w w' : World} {x : Nat} {u v : Value} (h : TwB w x u v) (hb : Below w.heap.size w w') : TwB w' x u v :=
  ⟨(hb.cell (p := ⟨x, 0, none⟩) h.2.2).trans h.1, (hb.cell (p := ⟨x, 1, none⟩) h.2.2).trans h.2.1, Nat.lt_of_lt_of_le h.2.2 hb.size⟩
theorem has_ref2 (s key : ByteArray) (w : World) (hs : s.size ≤ 140737488351232) (hk : key.size ≤ 140737488351232) :
    Calls Try.prog 20 #[.string s, .string key] w fun e w' => e = .returned (.bool (hasL s.data.toList key.data.toList)) ∧ Below w.heap.size w w' :=
  (has_ref s key w hs hk).mono fun e w' hp => ⟨hp.1, by rw [← hp.2]; exact Below.refl _ _⟩
theorem keysT_len {es : List Ent} (h : okB es = true) : (keysT es).length ≤ 4096 ∧ ∀ t ∈ keysT es, t.length ≤ 140737488351232 := by
  have h1 := okB_len4 h
  have h2 := keysG_length es none
  refine ⟨by unfold keysT; omega, fun t ht => ?_⟩
  obtain ⟨e, he, rfl⟩ := keysG_mem es none t ht
  have := okB_key64 h e he
  rw [size_list]
  omega
theorem rrange_at (a : Option Addr) (n cap : Nat) (es : List Ent) (lo hi : ByteArray) (h1 : okS lo) (h2 : okS hi) (m : Nat) (L : List Ent) (hL : clipL lo hi es = L) (hm : L.length = m) (w : World) (hn : n ≤ 4096) (hl : es.length = n) (hok : okE es) (h : RdE w a es) :
    Calls Try.prog 23 #[.slice a n cap, .agg #[.string lo, .string hi]] w fun e w' => ∃ a' c', e = .returned (.slice a' m c') ∧ RdE w' a' L ∧ Below w.heap.size w w' := by
  have := rrange_any a n cap es lo hi h1 h2 w hn hl h hok
  unfold CL at this
  rw [hL, hm] at this
  exact this
theorem keepA {W a b : World} {c g x : Nat} {k v k' v' : ByteArray} {t t' : Bool} {q q' : Int} {u u' : Value} (h : EBox a c k v t q ∧ EBox a g k' v' t' q' ∧ TwB a x u u' ∧ Below W.heap.size W a) (hb : Below a.heap.size a b) :
    EBox b c k v t q ∧ EBox b g k' v' t' q' ∧ TwB b x u u' ∧ Below W.heap.size W b := ⟨h.1.below hb, h.2.1.below hb, h.2.2.1.old hb, h.2.2.2.trans (hb.mono h.2.2.2.size)⟩
set_option maxHeartbeats 16000000 in
theorem walk_TableAsks (a : Option Addr) (cap : Nat) (es : List Ent) (lo hi : ByteArray) (ho1 : okS lo) (ho2 : okS hi) (p1 p2 : Int) (w : World) (h : RdE w a es) (hok : okV es) (hl : es.length ≤ maxLen) :
    Calls Try.prog 3 #[.slice a es.length cap, .agg #[.string lo, .string hi], .agg #[.int .i64 p1, .int .i64 p2]] w fun e w' => e = .returned (.bool true) ∧ Below w.heap.size w w' := by
  unfold maxLen at hl
  obtain ⟨n, hn⟩ : ∃ n, es.length = n := ⟨_, rfl⟩
  rw [hn] at hl ⊢
  obtain ⟨W0, hW0⟩ : ∃ W0, W0 = (w.alloc (.cells #[.string lo, .string hi] 24)).alloc (.cells #[.int .i64 p1, .int .i64 p2] 25) := ⟨_, rfl⟩
  have HX : Hid (TwB W0 w.heap.size (.string lo) (.string hi)) := Lib.hid ⟨by rw [hW0, Lib.cell_of_heap (al_old (al_new w _ _ rfl))]; rfl, by rw [hW0, Lib.cell_of_heap (al_old (al_new w _ _ rfl))]; rfl, by rw [hW0]; simp; omega⟩
  have HP : Hid (TwB W0 (w.heap.size + 1) (.int .i64 p1) (.int .i64 p2)) := Lib.hid ⟨by rw [hW0, Lib.cell_of_heap (al_new _ _ _ (by simp))]; rfl, by rw [hW0, Lib.cell_of_heap (al_new _ _ _ (by simp))]; rfl, by rw [hW0]; simp⟩
  have hWW : Below w.heap.size w W0 := by rw [hW0]; exact ((Below.refl _ w).alloc (Nat.le_refl _) _).alloc (by simp) _
  have HLi := Lib.hid fun r hr => light_any a n cap es W0 (by omega) hn (h.old hWW) hok r hr
  have HA := Lib.hid fun w => awakeT_any w
  have HW0 := Lib.hid hWW
  have HWE := Lib.hid hW0
  have ho1' := ho1
  have ho2' := ho2
  unfold okS at ho1' ho2'
  have ho1i : (lo.size : Int) ≤ 9223372036854775807 := by omega
  have ho2i : (hi.size : Int) ≤ 9223372036854775807 := by omega
  clear hWW hW0
  cases hb : liteB es with
  | false =>
    have HL0 := Lib.hid (HLi.out false hb)
    clear HLi h hok hb hn
    go_enter Try.func3, Try.ntmps3
    go_wp2_with fail
    rw [← HWE.out]
    refine HL0.out.mono ?_
    rintro e w1 ⟨rfl, b1⟩
    have HW1 := Lib.hid (HW0.out.trans (b1.mono HW0.out.size))
    clear b1
    go_wp2_with fail
    refine (HA.out _).mono ?_
    rintro e w2 ⟨rfl, b2⟩
    have HW2 := Lib.hid (HW1.out.trans (b2.mono HW1.out.size))
    clear b2
    go_wp2
    go_ret
    exact ⟨rfl, HW2.out⟩
  | true =>
    by_cases hs1 : lo.size ≤ 100
    case neg =>
      have hs1i : (100 : Int) < (lo.size : Int) := by omega
      have HL0 := Lib.hid (HLi.out true hb)
      clear HLi h hok hb hn
      go_enter Try.func3, Try.ntmps3
      go_wp2_with fail
      rw [← HWE.out]
      refine HL0.out.mono ?_
      rintro e w1 ⟨rfl, b1⟩
      have HW1 := Lib.hid (HW0.out.trans (b1.mono HW0.out.size))
      obtain ⟨c0, c1, c2⟩ := HX.out.old b1
      clear b1
      go_wp2_with fail
      refine (HA.out _).mono ?_
      rintro e w2 ⟨rfl, b2⟩
      have HW2 := Lib.hid (HW1.out.trans (b2.mono HW1.out.size))
      clear b2 c0 c1 c2
      go_wp2
      go_ret
      exact ⟨rfl, HW2.out⟩
    have hs1i : (lo.size : Int) ≤ 100 := by omega
    by_cases hs2 : hi.size ≤ 100
    case neg =>
      have hs2i : (100 : Int) < (hi.size : Int) := by omega
      have HL0 := Lib.hid (HLi.out true hb)
      clear HLi h hok hb hn
      go_enter Try.func3, Try.ntmps3
      go_wp2_with fail
      rw [← HWE.out]
      refine HL0.out.mono ?_
      rintro e w1 ⟨rfl, b1⟩
      have HW1 := Lib.hid (HW0.out.trans (b1.mono HW0.out.size))
      obtain ⟨c0, c1, c2⟩ := HX.out.old b1
      clear b1
      go_wp2_with fail
      refine (HA.out _).mono ?_
      rintro e w2 ⟨rfl, b2⟩
      have HW2 := Lib.hid (HW1.out.trans (b2.mono HW1.out.size))
      clear b2 c0 c1 c2
      go_wp2
      go_ret
      exact ⟨rfl, HW2.out⟩
    have hs2i : (hi.size : Int) ≤ 100 := by omega
    have HL0 := Lib.hid (HLi.out true hb)
    have hn80 : n ≤ 80 := by have := (lite_yes hb).1; omega
    have HO := Lib.hid fun w h => opened_any a n cap es w hn80 hn h hok
    have HR := Lib.hid h
    obtain ⟨ms, hms⟩ : ∃ ms, ms = madeT es := ⟨_, rfl⟩
    have hmk := madeT_ok es (by omega)
    rw [← hms] at HO hmk
    have HMK := Lib.hid hmk
    clear HLi h hok hb hn hms hmk
    go_enter Try.func3, Try.ntmps3
    go_wp2_with fail
    rw [← HWE.out]
    refine HL0.out.mono ?_
    rintro e w1 ⟨rfl, b1⟩
    have HW1 := Lib.hid (HW0.out.trans (b1.mono HW0.out.size))
    have HX1 := Lib.hid (HX.out.old b1)
    have HP1 := Lib.hid (HP.out.old b1)
    obtain ⟨x0, x1, x2⟩ := HX1.out
    clear b1 HW0 HX HP HWE
    go_wp2_with fail
    refine (HO.out _ (HR.out.old HW1.out)).mono ?_
    rintro e w2 ⟨b2, d, m, c, s2, h2⟩
    have HW2 := Lib.hid (HW1.out.trans (b2.mono HW1.out.size))
    have HX2 := Lib.hid (HX1.out.old b2)
    have HP2 := Lib.hid (HP1.out.old b2)
    have HS2 := Lib.hid s2
    clear b2 HW1 HO HR HL0 x0 x1 x2 HX1 HP1
    rcases h2 with ⟨h2, rfl⟩ | ⟨hm0, T, rfl, ht⟩
    · go_wp2_with fail
      refine (HA.out _).mono ?_
      rintro e w3 ⟨rfl, b3⟩
      have HW3 := Lib.hid (HW2.out.trans (b3.mono HW2.out.size))
      go_wp2
      go_ret
      exact ⟨rfl, HW3.out⟩
    · have HT2 : Hid (TP w2 (.pointer (some ⟨T, 0, none⟩)) ms true) := Lib.hid (.inl ⟨rfl, T, rfl, ht⟩)
      have hml : ms.length = m := s2.1
      have hm80 : m ≤ 80 := by have := HMK.out.2; omega
      have HML := Lib.hid hml
      clear s2 ht hml
      obtain ⟨b, off, ha, hb, hat⟩ := HS2.out.2.1.at_
      obtain rfl := ha (by rw [HML.out]; exact hm0)
      have HBW := Lib.hid (hb (by rw [HML.out]; exact hm0))
      have HAT := Lib.hid hat
      clear ha hb hat
      -- Get and Find
      obtain ⟨x0, x1, x2⟩ := HX2.out
      obtain ⟨y0, y1, y2⟩ := HP2.out
      obtain ⟨fk, fv, fg, fq, fb, hfd⟩ : ∃ (fk fv : ByteArray) (fg : Bool) (fq : Int) (fb : Bool), fnd (findB ms lo p1) = .tuple #[.agg #[.string fk, .string fv, .bool fg, .int .i64 fq], .bool fb] := by
        cases findB ms lo p1 with
        | none => exact ⟨_, _, _, _, _, rfl⟩
        | some E => obtain ⟨ek, evl, eg, eq⟩ := E; exact ⟨ek, evl, eg, eq, true, rfl⟩
      have HG := Lib.hid (tget_any _ ms true lo p1 _ HT2.out)
      rw [hfd] at HG
      have HF2 := Lib.hid fun w h => rfind9_any (some ⟨b, off, none⟩) m c ms lo p1 w (by omega) HML.out h (okB_okW HMK.out.1)
      rw [show FB ms lo p1 = findB ms lo p1 by unfold FB; rw [if_pos HMK.out.1], hfd] at HF2
      clear hfd
      go_wp2_with fail
      refine HG.out.mono ?_
      rintro e w3 ⟨rfl, b3⟩
      obtain ⟨W3, hW3⟩ : ∃ W3, W3 = w3.alloc (.cells #[.string fk, .string fv, .bool fg, .int .i64 fq] 32) := ⟨_, rfl⟩
      have hb3 : Below w2.heap.size w2 W3 := by rw [hW3]; exact b3.alloc b3.size _
      have HB3 := Lib.hid hb3
      have HE3 : Hid (EBox W3 w3.heap.size fk fv fg fq) := Lib.hid (by rw [hW3]; exact EBox.new w3 32 fk fv fg fq)
      have HW3e := Lib.hid hW3
      clear x0 x1 x2 y0 y1 y2 b3 HG
      obtain ⟨x0, x1, x2⟩ := HX2.out.old hb3
      obtain ⟨y0, y1, y2⟩ := HP2.out.old hb3
      rw [hW3] at x0 x2 y0 y2
      clear hb3 hW3
      go_wp2_with fail
      rw [← HW3e.out]
      refine (HF2.out _ ((HS2.out.old HB3.out).2.1)).mono ?_
      rintro e w4 ⟨rfl, b4⟩
      obtain ⟨W4, hW4⟩ : ∃ W4, W4 = w4.alloc (.cells #[.string fk, .string fv, .bool fg, .int .i64 fq] 32) := ⟨_, rfl⟩
      have hb4 : Below W3.heap.size W3 W4 := by rw [hW4]; exact b4.alloc b4.size _
      have HB4 := Lib.hid (HB3.out.trans (hb4.mono HB3.out.size))
      have HE34 := Lib.hid (HE3.out.below hb4)
      have HE4 : Hid (EBox W4 w4.heap.size fk fv fg fq) := Lib.hid (by rw [hW4]; exact EBox.new w4 32 fk fv fg fq)
      have HW4e := Lib.hid hW4
      clear x0 x1 x2 y0 y1 y2 b4 hb4 HE3 HW3e HF2
      obtain ⟨x0, x1, x2⟩ := HX2.out.old HB4.out
      obtain ⟨y0, y1, y2⟩ := HP2.out.old HB4.out
      rw [hW4] at x0 x2 y1 y2
      clear hW4
      go_wp2_with fail
      rw [← HW4e.out]
      refine (tchunk_any _ ms true lo p2 _ (HT2.out.old HB4.out)).mono ?_
      rintro e w5 ⟨a5, c5, l5, n5, rfl, hck5, hr5, _, b5⟩
      obtain ⟨z5, hz5⟩ : ∃ z5, z5 = l5.length := ⟨_, rfl⟩
      rw [← hz5]
      have HB5 := Lib.hid (HB4.out.trans (b5.mono HB4.out.size))
      have HE35 := Lib.hid (HE34.out.below b5)
      have HE45 := Lib.hid (HE4.out.below b5)
      have HR5 := Lib.hid hr5
      have hz5m : z5 ≤ 80 := by
        have h1 := HML.out
        obtain ⟨k, q, _, _, h3, _⟩ := hck5
        rw [hz5, h3, List.length_take, List.length_drop]
        omega
      have HZ5 := Lib.hid hz5
      have HK5 := Lib.hid hck5
      clear x0 x1 x2 y0 y1 y2 b5 HE34 HE4 HW4e hr5 hz5 hck5
      obtain ⟨x0, x1, x2⟩ := HX2.out.old HB5.out
      obtain ⟨y0, y1, y2⟩ := HP2.out.old HB5.out
      have HRC := Lib.hid (rchunk_any b off m c ms lo p2 w5 (by omega) HS2.out.2.2.1 HML.out (Nat.lt_of_lt_of_le HBW.out HB5.out.size) (HAT.out.old HBW.out HB5.out))
      go_wp2_with fail
      refine HRC.out.mono ?_
      rintro e w6 ⟨a6, c6, l6, n6, rfl, hck6, hr6, _, b6⟩
      obtain ⟨e1, e2⟩ := hck6.same HK5.out
      subst e1
      subst e2
      rw [← HZ5.out]
      have HB6 := Lib.hid (HB5.out.trans (b6.mono HB5.out.size))
      have HE36 := Lib.hid (HE35.out.below b6)
      have HE46 := Lib.hid (HE45.out.below b6)
      have HR56 := Lib.hid (HR5.out.old b6)
      have HR66 := Lib.hid hr6
      clear x0 x1 x2 y0 y1 y2 b6 HE35 HE45 hr6 hck6 HK5 HRC HR5
      have HKY := Lib.hid (rkeys_any (some ⟨b, off, none⟩) m c ms w6 (by omega) HML.out (HS2.out.old HB6.out).2.1)
      go_wp2_with fail
      refine HKY.out.mono ?_
      rintro e w7 ⟨a7, c7, rfl, hr7, b7⟩
      have HB7 := Lib.hid (HB6.out.trans (b7.mono HB6.out.size))
      have HB67 := Lib.hid b7
      have HMR := Lib.hid (make_ref a7 c7 (keysT ms) w7 hr7 (keysT_len HMK.out.1).2 (keysT_len HMK.out.1).1)
      obtain ⟨bs, hbs⟩ : ∃ bs : ByteArray, bs = ⟨(makeL (keysT ms)).toArray⟩ := ⟨_, rfl⟩
      rw [← hbs] at HMR
      have HBS := Lib.hid hbs
      obtain ⟨z7, hz7⟩ : ∃ z7, z7 = (keysT ms).length := ⟨_, rfl⟩
      rw [← hz7] at HMR ⊢
      clear b7 hr7 HKY hbs hz7
      go_wp2_with fail
      refine HMR.out.mono ?_
      rintro e w8 ⟨rfl, b8⟩
      have HB8 := Lib.hid (HB7.out.trans (b8.mono HB7.out.size))
      have HB68 := Lib.hid (HB67.out.trans (b8.mono HB67.out.size))
      have HEN := Lib.hid (tends_any _ ms true w8 (HT2.out.old HB8.out))
      have hpl : 0 < ms.length := by rw [HML.out]; exact hm0
      obtain ⟨j, HJ⟩ : ∃ j, Hid (m = j + 1) := ⟨m - 1, Lib.hid (by omega)⟩
      have hjl : j < ms.length := by rw [HML.out]; have := HJ.out; omega
      have hee : endsE ms = (ms[0].1, ms[j].1) := by
        unfold endsE
        rw [dif_pos hpl]
        have : ∀ (x y : Nat) (hx : x < ms.length) (hy : y < ms.length), x = y → ms[x].1 = ms[y].1 := fun x y hx hy e => by subst e; rfl
        rw [this (ms.length - 1) j (by omega) hjl (by rw [HML.out]; have := HJ.out; omega)]
      obtain ⟨k0, hk0⟩ : ∃ k0, k0 = ms[0].1 := ⟨_, rfl⟩
      obtain ⟨k1, hk1⟩ : ∃ k1, k1 = ms[j].1 := ⟨_, rfl⟩
      have HKK := Lib.hid (And.intro hk0 hk1)
      rw [← hk0, ← hk1] at hee
      rw [hee] at HEN
      clear b8 HMR hee HB67 HB7 hk0 hk1
      go_wp2_with fail
      refine HEN.out.mono ?_
      rintro e w9 ⟨rfl, b9⟩
      have HB9 := Lib.hid (HB8.out.trans (b9.mono HB8.out.size))
      have HB69 := Lib.hid (HB68.out.trans (b9.mono HB68.out.size))
      have HE39 := Lib.hid (HE36.out.below HB69.out)
      have HE49 := Lib.hid (HE46.out.below HB69.out)
      have HR59 := Lib.hid (HR56.out.old HB69.out)
      have HR69 := Lib.hid (HR66.out.old HB69.out)
      have hat9 := HAT.out.old HBW.out HB9.out
      have hbw9 : b < w9.heap.size := Nat.lt_of_lt_of_le HBW.out HB9.out.size
      have g0 := (hat9 0 hpl).1
      have q0 := (hat9 j hjl).1
      rw [← HKK.out.1, Nat.zero_mul, Nat.add_zero] at g0
      rw [← HKK.out.2] at q0
      have hji : (m : Int) - 1 = (j : Int) := by have := HJ.out; omega
      have hj0 : (0 : Int) ≤ (j : Int) := by omega
      have hjm : (j : Int) < (m : Int) := by have := HJ.out; omega
      have hjmn : j < m := by have := HJ.out; omega
      have hwj : IntKind.i64.wrap (j : Int) = (j : Int) := IntWalk.i64_in _ (by omega)
      have hmi : (0 : Int) < (m : Int) := by omega
      obtain ⟨x0, x1, x2⟩ := HX2.out.old HB9.out
      obtain ⟨r, hr⟩ : ∃ r, r = hasL (makeL (keysT ms)) lo.data.toList := ⟨_, rfl⟩
      have hM := fun (wx : World) (hx : Below w9.heap.size w9 wx) => tmayk_any _ ms true lo wx (by omega) ((HT2.out.old HB9.out).old hx)
      rw [show mayT ms true lo = r by rw [hr]; rfl] at hM
      have hH := fun (wx : World) => has_ref2 bs lo wx (by rw [HBS.out, size_mkl, makeL_length]; have h1 := nBytes_le (keysT ms).length; have h2 := (keysT_len HMK.out.1).1; omega) (by omega)
      rw [show hasL bs.data.toList lo.data.toList = r by rw [hr, HBS.out]] at hH
      have HM := Lib.hid hM
      have HH := Lib.hid hH
      clear b9 HB68 HB69 HE36 HE46 HR56 HR66 hat9 hr hM hH HEN
      go_wp2
      refine wp_region_below (by kernel_rfl) (by kernel_rfl) ?_
      repeat (first
        | go_big_quiet_skip
        | (go_big_quiet_want
           first
           | (refine BigFrame.quiet_move _ rfl ?_)
           | (refine BigFrame.quiet_assign _ rfl ?_)
           | (unfold Oper.quiet
              apply Exists.intro
              refine ⟨fun w' hw' => ?_, ?_⟩
              · (obtain ⟨hc', hf'⟩ := bcell hw'
                 go_simp
                 first
                 | done
                 | exact rfl
                 | (go_at_call 19; (with_reducible refine (HM.out _ hw').mono ?_); rintro e w'' ⟨rfl, bb⟩; exact ⟨rfl, by first | exact bt hw' bb | simpa using bt hw' bb⟩)
                 | (go_at_call 20; (with_reducible refine (HH.out _).mono ?_); rintro e w'' ⟨rfl, bb⟩; exact ⟨rfl, by first | exact bt hw' bb | simpa using bt hw' bb⟩)))
           go_big_quiet_on
           simp only [Act.put, Act.eval, List.setIfInBounds_toArray, List.set_cons_zero, List.set_cons_succ, Array.getD_eq_getD_getElem?, List.getElem?_toArray, List.getElem?_cons_zero, List.getElem?_cons_succ, Option.getD_some]))
      refine wpQuiet_nil ?_
      intro w' hw'
      have HB10 := Lib.hid (HB9.out.trans (hw'.mono HB9.out.size))
      have HE310 := Lib.hid (HE39.out.below hw')
      have HE410 := Lib.hid (HE49.out.below hw')
      have HR510 := Lib.hid (HR59.out.old hw')
      have HR610 := Lib.hid (HR69.out.old hw')
      have HX10 := Lib.hid (HX2.out.old HB10.out)
      have HT10 := Lib.hid (HT2.out.old HB10.out)
      have HS10 := Lib.hid (HS2.out.old HB10.out)
      have HW10 := Lib.hid (HW2.out.trans (HB10.out.mono HW2.out.size))
      obtain ⟨L, hL⟩ : ∃ L, L = clipL lo hi ms := ⟨_, rfl⟩
      obtain ⟨zL, hzL⟩ : ∃ zL, L.length = zL := ⟨_, rfl⟩
      have hzm : zL ≤ 10000 := by have h1 := clip_le lo hi ms; rw [← hL, hzL, HML.out] at h1; omega
      have HLL := Lib.hid (And.intro hL.symm hzL)
      have HOE : Hid (okE ms) := Lib.hid fun e he => (okB_okW HMK.out.1 e he).1
      clear x0 x1 x2 g0 q0 hw' HM HH HE39 HE49 HR59 HR69 hL hzL
      obtain ⟨x0, x1, x2⟩ := HX10.out
      have HRD10 : Hid (RdE w' (some ⟨b, off, none⟩) ms) := Lib.hid HS10.out.2.1
      have HK4 : Hid (EBox w' w3.heap.size fk fv fg fq ∧ EBox w' w4.heap.size fk fv fg fq ∧ TwB w' w.heap.size (.string lo) (.string hi)) := Lib.hid ⟨HE310.out, HE410.out, HX10.out⟩
      go_wp2
      go_region_held3 (fun wz => (wz.cell? ⟨w3.heap.size, 0, none⟩ = some (.string fk) ∧ wz.cell? ⟨w3.heap.size, 1, none⟩ = some (.string fv) ∧ wz.cell? ⟨w3.heap.size, 2, none⟩ = some (.bool fg) ∧ wz.cell? ⟨w3.heap.size, 3, none⟩ = some (.int .i64 fq) ∧ w3.heap.size < wz.heap.size) ∧ (wz.cell? ⟨w4.heap.size, 0, none⟩ = some (.string fk) ∧ wz.cell? ⟨w4.heap.size, 1, none⟩ = some (.string fv) ∧ wz.cell? ⟨w4.heap.size, 2, none⟩ = some (.bool fg) ∧ wz.cell? ⟨w4.heap.size, 3, none⟩ = some (.int .i64 fq) ∧ w4.heap.size < wz.heap.size) ∧ (wz.cell? ⟨w.heap.size, 0, none⟩ = some (.string lo) ∧ wz.cell? ⟨w.heap.size, 1, none⟩ = some (.string hi) ∧ w.heap.size < wz.heap.size) ∧ Below w'.heap.size w' wz)
        (first | assumption | exact keepA (by assumption) (by assumption) | exact ⟨HK4.out.1, HK4.out.2.1, HK4.out.2.2, (Below.refl _ _).drew⟩)
        (first
          | (go_at_call 21; (with_reducible refine (samee_any a5 a6 z5 c5 c6 l6 _ ?_ ?_ (by omega) HZ5.out.symm).mono ?_); (exact HR510.out.old (And.right (And.right (And.right (by assumption))))); (exact HR610.out.old (And.right (And.right (And.right (by assumption))))); rintro e w'' ⟨rfl, bb⟩)
          | (go_at_call 22; (with_reducible refine (trange_at _ ms true lo hi ho1 ho2 zL L HLL.out.1 HLL.out.2 _ (HT10.out.old (And.right (And.right (And.right (by assumption)))))).mono ?_); rintro e w'' ⟨a', c', rfl, rr, bb⟩)
          | (go_at_call 23; (with_reducible refine (rrange_at (some ⟨b, off, none⟩) m c ms lo hi ho1 ho2 zL L HLL.out.1 HLL.out.2 _ (by omega) HML.out HOE.out (HRD10.out.old (And.right (And.right (And.right (by assumption)))))).mono ?_); rintro e w'' ⟨a', c', rfl, rr, bb⟩)
          | (go_at_call 21; refine (samee_any _ _ zL _ _ L _ ?_ ?_ (by omega) HLL.out.2).mono ?_; (first | assumption | exact RdE.old (by assumption) (by assumption)); (first | assumption | exact RdE.old (by assumption) (by assumption)); rintro e w'' ⟨rfl, bb⟩)
          | (go_at_call 10; refine (HA.out _).mono ?_; rintro e w'' ⟨rfl, bb⟩))
      all_goals
        go_wp2
        go_ret
        exact ⟨rfl, HW10.out.trans ((by assumption : _ ∧ _ ∧ _ ∧ Below w'.heap.size w' _).2.2.2.mono HW10.out.size)⟩
end Go.Proofs.Ytobhjmkaamjoeaa
