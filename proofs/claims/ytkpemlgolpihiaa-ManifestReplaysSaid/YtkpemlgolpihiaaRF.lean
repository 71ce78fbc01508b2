/-
  Texts of mine as one, in the order in which they build: Yz, Za, Zb, Zc, Zd. Conditions: as each says.
-/
import Derived.Test.YtkpemlgolpihiaaRE
import Derived.Maps.OwnOps
import Derived.Maps.Views
import Derived.Test.YtkpemlgolpihiaaAp
import Derived.Test.YtkpemlgolpihiaaQm
import Derived.Deep.RegionHeld3
import Derived.Test.YtkpemlgolpihiaaRC
namespace Go.Proofs.Ytkpemlgolpihiaa
set_option maxRecDepth 100000
open Go.RowKit Go.Maps Go.WideShapes
set_option linter.unusedVariables false
set_option linter.unusedSimpArgs false

/-- A map from int to int that gives f. -/
def DM (w : World) (b n : Nat) (f : Int → Int) : Prop := ∃ D : DataW Unit, w.ownsMap Try.prog 3 (plainElem Try.prog 3) b n D ∧ Maps.IsMap D ∧ ∀ k : Int, D.atKey (.int .i64 k) (.lit (.int .i64 0)) = .lit (.int .i64 (f k))
theorem put_int {D : DataW Unit} (h : Maps.IsMap D) {f : Int → Int} (hf : ∀ k : Int, D.atKey (.int .i64 k) (.lit (.int .i64 0)) = .lit (.int .i64 (f k))) (x v : Int) :
    Maps.IsMap (D.put (.int .i64 x) (.lit (.int .i64 v))) ∧ ∀ k : Int, (D.put (.int .i64 x) (.lit (.int .i64 v))).atKey (.int .i64 k) (.lit (.int .i64 0)) = .lit (.int .i64 (if k = x then v else f k)) := by
  refine ⟨h.put _ _, fun k => ?_⟩
  by_cases hk : k = x
  · subst hk
    rw [if_pos rfl]
    exact atKey_put_same (k := .int .i64 k) h (show WideAt.IsKeyLit (.int .i64 k) from trivial) _ _
  · rw [if_neg hk, ← hf k]
    exact atKey_put_other (fun e => hk (by injection e)) _ _
theorem law_int : Keyed Try.prog 3 := int_keyed Try.underlying3
theorem zero_int (w : World) : (zeroValue 3).run Try.prog w = .ok (.int .i64 0) w := by kernel_rfl
theorem wf_small {x : Int} (h : 0 ≤ x ∧ x ≤ 1073741824) : (Lit.int .i64 x).wf = true := by
  have h1 : IntKind.i64.min = -9223372036854775808 := rfl
  have h2 : IntKind.i64.max = 9223372036854775807 := rfl
  simp [Lit.wf]
  omega
theorem key_int {x : Int} (h : 0 ≤ x ∧ x ≤ 1073741824) : keyOf Try.prog 3 (.int .i64 x) = some (.int .i64 x) := keyOf_int_mk Try.underlying3 (wf_small h)
theorem elem_int (v : Int) (h : 0 ≤ v ∧ v ≤ 2) : plainElem (H := Unit) Try.prog 3 (.int .i64 v) = some (.lit (.int .i64 v), []) := plainElem_int Try.underlying3 (wf_small ⟨h.1, by omega⟩)
theorem DM.made (w : World) : DM (w.alloc (.map #[] 0)) w.heap.size 0 (fun _ => 0) := ⟨_, World.ownsMap_made _ _ _ _, isMap_empty, fun _ => rfl⟩
theorem DM.alloc {w : World} {b n : Nat} {f : Int → Int} (h : DM w b n f) (o : Obj) : DM (w.alloc o) b n f := let ⟨D, a, c, d⟩ := h; ⟨D, a.alloc o, c, d⟩
/-- What an edit does to the table of a number. -/
def dz (l : List Int) (k : Int) : Int := if k ∈ l then 2 else 0
def da (us : List Int) (l : List Int) (k : Int) : Int := if k ∈ us then 1 else dz l k
/-- No two things to one, and what comes is below the next number. -/
def doB (e : Ed) : Bool := decide e.2.1.Nodup && decide (e.1.map (·.1)).Nodup && e.1.all (fun t => !e.2.1.contains t.1 && decide (t.1 < e.2.2.2))
theorem doB_iff {e : Ed} : doB e = true ↔ e.2.1.Nodup ∧ (e.1.map (·.1)).Nodup ∧ ∀ t ∈ e.1, ¬ t.1 ∈ e.2.1 ∧ t.1 < e.2.2.2 := by
  unfold doB; simp [and_assoc]
theorem dz_snoc (l : List Int) (x : Int) : (fun k => if k = x then 2 else dz l k) = dz (l ++ [x]) := by
  funext k
  unfold dz
  by_cases h : k = x
  · subst h; simp
  · simp [h]
theorem da_snoc (us l : List Int) (x : Int) : (fun k => if k = x then 1 else da us l k) = da (us ++ [x]) l := by
  funext k
  unfold da
  by_cases h : k = x
  · subst h; simp
  · simp [h]
theorem nd_snoc {l : List Int} {x : Int} : (l ++ [x]).Nodup ↔ l.Nodup ∧ ¬ x ∈ l := by
  rw [List.nodup_append]
  constructor
  · rintro ⟨a, b, c⟩; exact ⟨a, fun h => c x h x (by simp) rfl⟩
  · rintro ⟨a, b⟩; exact ⟨a, by simp, fun p hp q hq h => b (by simp at hq; subst hq; rw [← h]; exact hp)⟩
theorem EdBox.keep {w w' : World} {x m : Nat} {A D : Value} {lg nx : Int} (h : EdBox w x A D lg nx) (hb : Below m w w') (hx : x < m) : EdBox w' x A D lg nx :=
  ⟨(hb.cell (p := ⟨x, 0, none⟩) hx).trans h.1, (hb.cell (p := ⟨x, 1, none⟩) hx).trans h.2.1, (hb.cell (p := ⟨x, 2, none⟩) hx).trans h.2.2.1, (hb.cell (p := ⟨x, 3, none⟩) hx).trans h.2.2.2.1, Nat.lt_of_lt_of_le h.2.2.2.2 hb.size⟩
theorem DM.mono {w : World} {b n m : Nat} {f : Int → Int} (h : DM w b n f) (hn : n ≤ m) : DM w b m f := let ⟨D, a, c, d⟩ := h; ⟨D, a.mono hn, c, d⟩
def DoP (w : World) (r : Bool) (f : Int → Int) (x : Ending) (w' : World) : Prop := Below w.heap.size w w' ∧
    ((r = true ∧ ∃ b, x = .returned (.tuple #[.map (some b), .bool true]) ∧ w.heap.size ≤ b ∧ DM w' b 256 f) ∨ (r = false ∧ x = .returned (.tuple #[.map none, .bool false])))
theorem at_num {D : DataW Unit} {f : Int → Int} {x c v : Int} (hf : Hid (∀ k : Int, D.atKey (.int .i64 k) (.lit (.int .i64 0)) = .lit (.int .i64 (f k)))) (hv : f x = v) (hat : D.atKey (.int .i64 x) (.lit (.int .i64 0)) = .lit (.int .i64 c)) : c = v := by
  have q := hat.symm.trans (hf.out x)
  rw [hv] at q
  injection q with q
  injection q
set_option maxRecDepth 1000000 in
set_option maxHeartbeats 16000000 in
theorem doings_any (V : Value) (e : Ed) (w : World) (h : EV w V e) (hm : mayEd e = true) : Calls Try.prog 65 #[V] w (DoP w (doB e) (da (e.1.map (·.1)) e.2.1)) := by
  obtain ⟨aa, an, ac, da', dn, dc, rfl, hst, hsz, hok⟩ := h
  obtain ⟨ts, zs, lg, nx⟩ := e
  obtain ⟨b, off, ha, hb, hc⟩ := hst.2.1.at_
  obtain ⟨b2, off2, ha2, hb2, hc2⟩ := hsz.2.1.at_
  obtain ⟨m1, m2, m3, m4, m5, m6⟩ := mayEd_iff.1 hm
  simp only at *
  have hl := hst.1
  have hl2 := hsz.1
  rw [hl] at ha hb m1
  rw [hl2] at ha2 hb2 m2
  obtain ⟨r, hr⟩ : ∃ r, doB (ts, zs, lg, nx) = r := ⟨_, rfl⟩
  rw [hr]
  have HR := Lib.hid hr
  have HC := Lib.hid hc
  have HC2 := Lib.hid hc2
  have HL := Lib.hid hl
  have HL2 := Lib.hid hl2
  have HM3 := Lib.hid m3
  have HM4 := Lib.hid m4
  have HB0 := Lib.hid (box_bel w (.cells #[.slice aa an ac, .slice da' dn dc, .int .i64 lg, .int .i64 nx] 25))
  have bx := EdBox.new w 25 (.slice aa an ac) (.slice da' dn dc) lg nx
  obtain ⟨F, hF⟩ : ∃ F, F = da (ts.map (·.1)) zs := ⟨_, rfl⟩
  rw [← hF]
  have HF := Lib.hid hF
  clear hr hc hc2 hl hl2 m3 m4 hst hsz hok hm hF
  have hmm := @run_makeMap Try.prog
  go_enter Try.func65, Try.ntmps65
  go_upto_region 1 with fail
  obtain ⟨wb, hwb⟩ : ∃ wb, wb = w.alloc (.cells #[.slice aa an ac, .slice da' dn dc, .int .i64 lg, .int .i64 nx] 25) := ⟨_, rfl⟩
  rw [← hwb] at HB0 bx ⊢
  obtain ⟨xb, hxb⟩ : ∃ xb, xb = w.heap.size := ⟨_, rfl⟩
  rw [← hxb] at bx ⊢
  have HXB := Lib.hid hxb
  clear hwb hxb
  have HXL := Lib.hid (show xb < wb.heap.size from bx.2.2.2.2)
  have HMB := Lib.hid (And.intro (DM.made wb) (box_bel wb (.map #[] 0)))
  have hwsb : wb.heap.size < (wb.alloc (.map #[] 0)).heap.size := by simp [go_sem]
  have BX := Lib.hid (bx.below (box_bel wb (.map #[] 0)))
  go_upto_region 2 with fail
  have hmbw : wb.heap.size ≤ wb.heap.size := Nat.le_refl _
  obtain ⟨mb, hmb⟩ : ∃ mb, mb = wb.heap.size := ⟨_, rfl⟩
  rw [← hmb] at HMB hwsb ⊢
  have HWB := Lib.hid (show mb = wb.heap.size from hmb)
  generalize wb.alloc (.map #[] 0) = wm at *
  have HBM := Lib.hid (HB0.out.trans (HMB.out.2.mono (by rw [← HWB.out] at *; have := HB0.out.size; omega)))
  have HXM := Lib.hid (show w.heap.size ≤ mb by rw [hmb]; exact HB0.out.size)
  clear hmb hmbw
  obtain ⟨y0, y1, y2, y3, y4⟩ := BX.out
  go_upto_region 3 with fail
  go_loopw [13] (fun i wr => ∃ k : Nat, i = .int .i64 k ∧ k ≤ dn ∧ Hid ((zs.take k).Nodup ∧ DM wr mb k (dz (zs.take k))) ∧ Hid (Below mb wm wr)) (fun i _ => dn - (intOf i).toNat)
  case atStart => exact ⟨0, rfl, by omega, Lib.hid ⟨by simp, HMB.out.1⟩, Lib.hid (Below.refl _ _)⟩
  case round =>
    obtain ⟨k, rfl, hk, HK, HW⟩ := hrel
    have hws : mb ≤ wr.heap.size := by have := HW.out.size; omega
    have HBR := Lib.hid (HBM.out.trans (HW.out.mono HXM.out))
    by_cases hlt : k < dn
    · have hki : (k : Int) < (dn : Int) := by omega
      obtain rfl := ha2 (by omega)
      have hbw := hb2 (by omega)
      have hkl : k < zs.length := by rw [HL2.out]; exact hlt
      have g0 := HC2.out.old hbw HBR.out k hkl
      have hbr : b2 < wr.heap.size := Nat.lt_of_lt_of_le hbw HBR.out.size
      have hEm := HM4.out _ (List.getElem_mem hkl)
      have hs : zs.take (k + 1) = zs.take k ++ [zs[k]] := List.take_succ_eq_append_getElem hkl
      have hnd : zs.Nodup → (zs.take (k + 1)).Nodup := fun h => (List.take_sublist _ _).nodup h
      obtain ⟨E, hE⟩ : ∃ E, E = zs[k] := ⟨_, rfl⟩
      rw [← hE] at g0 hEm hs
      have HE := Lib.hid (show 0 ≤ E ∧ E ≤ 1073741824 by omega)
      obtain ⟨D, hown, hism, hf⟩ := HK.out.2
      have HO := Lib.hid hown
      have HFD := Lib.hid hf
      have HI := Lib.hid hism
      have HS := Lib.hid hs
      have HND := Lib.hid hnd
      clear hE hEm hs hown hism hf hnd
      by_cases hin : E ∈ zs.take k
      · have HZ := Lib.hid (show dz (zs.take k) E = 2 from if_pos hin)
        obtain rfl : r = false := by
          rw [← HR.out]
          refine Bool.eq_false_iff.2 fun h => ?_
          have h1 := HND.out (doB_iff.1 h).1
          rw [HS.out] at h1
          exact (nd_snoc.1 h1).2 hin
        clear hin HK
        go_wp2_with (first | (at_lookup; refine wpList_lookup_own_int _ rfl _ _ 94 rfl 3 3 .i64 law_int Try.underlying94 Try.underlying3 (zero_int _) mb k D rfl HO.out _ _ rfl (key_int HE.out) ?_; intro c hat hwc; obtain rfl := at_num HFD HZ.out hat; clear hat hwc) | go_in)
        go_ret2
        exact ⟨HBR.out, .inr ⟨rfl, rfl⟩⟩
      · have HZ := Lib.hid (show dz (zs.take k) E = 0 from if_neg hin)
        have HN := Lib.hid (show (zs.take (k + 1)).Nodup by rw [HS.out]; exact nd_snoc.2 ⟨HK.out.1, hin⟩)
        clear hin HK
        go_wp2_with (first | (at_lookup; refine wpList_lookup_own_int _ rfl _ _ 94 rfl 3 3 .i64 law_int Try.underlying94 Try.underlying3 (zero_int _) mb k D rfl HO.out _ _ rfl (key_int HE.out) ?_; intro c hat hwc; obtain rfl := at_num HFD HZ.out hat; clear hat hwc) | (at_mapUpdate; refine wpList_mapUpdate_own _ rfl _ _ _ 94 rfl 3 3 law_int Try.underlying94 _ mb k D rfl HO.out (by unfold maxLen; omega) _ _ _ rfl rfl (key_int HE.out) _ [] (elem_int 2 (by omega)) ?_; intro w1 hown1 hgrow1) | go_in)
        go_roundw
        case rel =>
          refine ⟨k + 1, by go_num, by omega, Lib.hid ⟨HN.out, ?_⟩, Lib.hid (HW.out.grown hgrow1 hws (fun j hj => by cases hj; exact Nat.le_refl _))⟩
          have hp := put_int HI.out HFD.out E 2
          rw [HS.out, ← dz_snoc]
          exact ⟨_, hown1, hp.1, hp.2⟩
        case measure => simp [intOf]; omega
    · obtain rfl : dn = k := by omega
      have HK1 := Lib.hid (show zs.Nodup ∧ DM wr mb dn (da [] zs) by
        have := HK.out
        rw [← HL2.out, List.take_length] at this
        rw [← HL2.out]
        exact this)
      clear HK
      have hxm : xb < mb := by have := HXL.out; have := HWB.out; omega
      obtain ⟨z0, z1, z2, z3, z4⟩ := BX.out.keep HW.out hxm
      clear y0 y1 y2 y3 y4
      have HW0 := HW
      have HK0 := HK1
      clear HW HBR
      go_upto_region 10 with fail
      rename_i wq
      go_loopw [27] (fun i wr => ∃ k : Nat, i = .int .i64 k ∧ k ≤ an ∧ Hid (((ts.take k).map (·.1)).Nodup ∧ (∀ t ∈ ts.take k, ¬ t.1 ∈ zs ∧ t.1 < nx) ∧ DM wr mb (k + dn) (da ((ts.take k).map (·.1)) zs)) ∧ Hid (Below mb wm wr)) (fun i _ => an - (intOf i).toNat)
      case atStart => exact ⟨0, rfl, by omega, Lib.hid ⟨by simp, by simp, by rw [Nat.zero_add]; exact HK0.out.2⟩, HW0⟩
      case round =>
        obtain ⟨k, rfl, hk, HK, HW⟩ := hrel
        have hws : mb ≤ wr.heap.size := by have := HW.out.size; omega
        have HBR := Lib.hid (HBM.out.trans (HW.out.mono HXM.out))
        by_cases hlt : k < an
        · have hki : (k : Int) < (an : Int) := by omega
          obtain rfl := ha (by omega)
          have hbw := hb (by omega)
          have hkl : k < ts.length := by rw [HL.out]; exact hlt
          obtain ⟨g0, g1, g2, g3⟩ := HC.out.old hbw HBR.out k hkl
          have hbr : b < wr.heap.size := Nat.lt_of_lt_of_le hbw HBR.out.size
          have hin := List.getElem_mem hkl
          have hEm := (mayT_iff.1 (HM3.out _ hin)).1
          have hs : ts.take (k + 1) = ts.take k ++ [ts[k]] := List.take_succ_eq_append_getElem hkl
          have hnd : (ts.map (·.1)).Nodup → ((ts.take (k + 1)).map (·.1)).Nodup := fun h => ((List.take_sublist _ _).map _).nodup h
          obtain ⟨E, hE⟩ : ∃ E, E = ts[k] := ⟨_, rfl⟩
          rw [← hE] at g0 g1 g2 g3 hEm hs hin
          obtain ⟨x1, x2, x3, x4⟩ := E
          simp only at g0 g1 g2 g3 hEm
          have HE := Lib.hid (show 0 ≤ x1 ∧ x1 ≤ 1073741824 by omega)
          have hsm : (ts.take (k + 1)).map (·.1) = (ts.take k).map (·.1) ++ [x1] := by rw [hs, List.map_append]; rfl
          obtain ⟨D, hown, hism, hf⟩ := HK.out.2.2
          have HO := Lib.hid (hown.alloc (.cells #[.int .i64 x1, .int .i64 x2, .string x3, .string x4] 49))
          have HFD := Lib.hid hf
          have HI := Lib.hid hism
          have HS := Lib.hid hs
          have HSM := Lib.hid hsm
          have HND := Lib.hid hnd
          have HIN := Lib.hid hin
          have HAL := Lib.hid (box_bel wr (.cells #[.int .i64 x1, .int .i64 x2, .string x3, .string x4] 49))
          have HT := Lib.hid (TBox.new wr 49 (x1, x2, x3, x4))
          have bz := (BX.out.keep HW.out hxm).below HAL.out
          obtain ⟨tb, htb⟩ : ∃ tb, tb = wr.heap.size := ⟨_, rfl⟩
          clear hE hEm hs hsm hown hism hf hnd hin
          clear z0 z1 z2 z3 z4
          go_upto_region 12 with fail
          rw [← htb] at HT ⊢
          clear htb g0 g1 g2 g3 hbr
          have hwa := HAL.out.size
          generalize wr.alloc (.cells #[.int .i64 x1, .int .i64 x2, .string x3, .string x4] 49) = wa at *
          obtain ⟨t0, t1, t2, t3, t4⟩ := HT.out
          obtain ⟨z0, z1, z2, z3, z4⟩ := bz
          simp only at t0 t1 t2 t3
          clear HT
          by_cases h1 : x1 ∈ (ts.take k).map (·.1)
          · have HZ := Lib.hid (show da ((ts.take k).map (·.1)) zs x1 = 1 from if_pos h1)
            obtain rfl : r = false := by
              rw [← HR.out]
              refine Bool.eq_false_iff.2 fun h => ?_
              have q := HND.out (doB_iff.1 h).2.1
              rw [HSM.out] at q
              exact (nd_snoc.1 q).2 h1
            clear h1 HK
            go_wp2_with (first | (at_lookup; refine wpList_lookup_own_int _ rfl _ _ 94 rfl 3 3 .i64 law_int Try.underlying94 Try.underlying3 (zero_int _) mb (k + dn) D rfl HO.out _ _ rfl (key_int HE.out) ?_; intro c hat hwc; obtain rfl := at_num HFD HZ.out hat; clear hat hwc) | go_in)
            go_ret2
            exact ⟨HBR.out.trans (HAL.out.mono HBR.out.size), .inr ⟨rfl, rfl⟩⟩
          by_cases h2 : x1 ∈ zs
          · have HZ := Lib.hid (show da ((ts.take k).map (·.1)) zs x1 = 2 by unfold da dz; rw [if_neg h1, if_pos h2])
            obtain rfl : r = false := by
              rw [← HR.out]
              exact Bool.eq_false_iff.2 fun h => ((doB_iff.1 h).2.2 _ HIN.out).1 h2
            clear h1 h2 HK
            go_wp2_with (first | (at_lookup; refine wpList_lookup_own_int _ rfl _ _ 94 rfl 3 3 .i64 law_int Try.underlying94 Try.underlying3 (zero_int _) mb (k + dn) D rfl HO.out _ _ rfl (key_int HE.out) ?_; intro c hat hwc; obtain rfl := at_num HFD HZ.out hat; clear hat hwc) | go_in)
            go_ret2
            exact ⟨HBR.out.trans (HAL.out.mono HBR.out.size), .inr ⟨rfl, rfl⟩⟩
          have HZ := Lib.hid (show da ((ts.take k).map (·.1)) zs x1 = 0 by unfold da dz; rw [if_neg h1, if_neg h2])
          by_cases h3 : nx ≤ x1
          · obtain rfl : r = false := by
              rw [← HR.out]
              refine Bool.eq_false_iff.2 fun h => ?_
              have := ((doB_iff.1 h).2.2 _ HIN.out).2
              simp only at this
              omega
            clear h1 h2 HK
            go_wp2_with (first | (at_lookup; refine wpList_lookup_own_int _ rfl _ _ 94 rfl 3 3 .i64 law_int Try.underlying94 Try.underlying3 (zero_int _) mb (k + dn) D rfl HO.out _ _ rfl (key_int HE.out) ?_; intro c hat hwc; obtain rfl := at_num HFD HZ.out hat; clear hat hwc) | go_in)
            go_ret2
            exact ⟨HBR.out.trans (HAL.out.mono HBR.out.size), .inr ⟨rfl, rfl⟩⟩
          · have HN := Lib.hid (show ((ts.take (k + 1)).map (·.1)).Nodup by rw [HSM.out]; exact nd_snoc.2 ⟨HK.out.1, h1⟩)
            have HA := Lib.hid (show ∀ t ∈ ts.take (k + 1), ¬ t.1 ∈ zs ∧ t.1 < nx by
              intro t ht
              rw [HS.out] at ht
              rcases List.mem_append.1 ht with ht | ht
              · exact HK.out.2.1 t ht
              · obtain rfl := List.mem_singleton.1 ht
                exact ⟨h2, by show x1 < nx; omega⟩)
            clear h1 h2 HK
            go_wp2_with (first | (at_lookup; refine wpList_lookup_own_int _ rfl _ _ 94 rfl 3 3 .i64 law_int Try.underlying94 Try.underlying3 (zero_int _) mb (k + dn) D rfl HO.out _ _ rfl (key_int HE.out) ?_; intro c hat hwc; obtain rfl := at_num HFD HZ.out hat; clear hat hwc) | (at_mapUpdate; refine wpList_mapUpdate_own _ rfl _ _ _ 94 rfl 3 3 law_int Try.underlying94 _ mb (k + dn) D rfl HO.out (by unfold maxLen; omega) _ _ _ rfl rfl (key_int HE.out) _ [] (elem_int 1 (by omega)) ?_; intro w1 hown1 hgrow1) | go_in)
            go_roundw
            case rel =>
              refine ⟨k + 1, by go_num, by omega, Lib.hid ⟨HN.out, HA.out, ?_⟩, Lib.hid ((HW.out.trans (HAL.out.mono hws)).grown hgrow1 (by omega) (fun j hj => by cases hj; exact Nat.le_refl _))⟩
              have hp := put_int HI.out HFD.out x1 1
              rw [HSM.out, ← da_snoc]
              rw [show k + 1 + dn = k + dn + 1 by omega]
              exact ⟨_, hown1, hp.1, hp.2⟩
            case measure => simp [intOf]; omega
        · obtain rfl : an = k := by omega
          have HE := HK.out
          rw [← HL.out, List.take_length] at HE
          obtain rfl : r = true := by
            rw [← HR.out]
            exact doB_iff.2 ⟨HK0.out.1, HE.1, HE.2.1⟩
          have HFIN := Lib.hid (show DM wr mb 256 F by rw [HF.out]; exact HE.2.2.mono (by have := HL.out; omega))
          clear HE HK
          go_wp2_with fail
          go_ret2
          exact ⟨HBR.out, .inl ⟨rfl, mb, rfl, HXM.out, HFIN.out⟩⟩
end Go.Proofs.Ytkpemlgolpihiaa
namespace Go.Proofs.Ytkpemlgolpihiaa
set_option maxRecDepth 100000
open Go.RowKit
set_option linter.unusedVariables false
set_option linter.unusedSimpArgs false

theorem nd_le : ∀ {A B : List Int}, A.Nodup → (∀ x ∈ A, x ∈ B) → A.length ≤ B.length
  | [], B, _, _ => Nat.zero_le _
  | a :: A, B, h, hs => by
    obtain ⟨h1, h2⟩ := List.nodup_cons.1 h
    have ha : a ∈ B := hs a (by simp)
    have hp : 0 < B.length := List.length_pos_of_mem ha
    have := nd_le (A := A) (B := B.erase a) h2 (fun x hx => by
      have hne : x ≠ a := fun e => h1 (e ▸ hx)
      exact (List.mem_erase_of_ne hne).2 (hs x (by simp [hx])))
    rw [List.length_erase_of_mem ha] at this
    simp only [List.length_cons]
    omega
def goneT (s : List Tb) (d : List Int) : List Tb := s.filter fun t => d.contains t.1
theorem fit_split {s : List Tb} {e : Ed} (hs : (s.map (·.1)).Nodup) : fitT s e = true ↔ doB e = true ∧ (∀ t ∈ s, ¬ t.1 ∈ e.1.map (·.1)) ∧ (goneT s e.2.1).length = e.2.1.length := by
  rw [fitT_iff, doB_iff]
  have hnd : ((goneT s e.2.1).map (·.1)).Nodup := ((List.filter_sublist (l := s)).map _).nodup hs
  have hsub : ∀ x ∈ (goneT s e.2.1).map (·.1), x ∈ e.2.1 := by
    intro x hx
    obtain ⟨t, ht, rfl⟩ := List.mem_map.1 hx
    have := (List.mem_filter.1 ht).2
    simpa using this
  constructor
  · rintro ⟨f1, f2, f3, f4⟩
    refine ⟨⟨f2, f4, fun t ht => ⟨fun hd => ?_, (f3 t ht).2⟩⟩, fun t ht hm => ?_, ?_⟩
    · obtain ⟨u, hu, h⟩ := f1 _ hd
      exact (f3 t ht).1 u hu h
    · obtain ⟨u, hu, h⟩ := List.mem_map.1 hm
      exact (f3 u hu).1 t ht h.symm
    · have h1 := nd_le hnd hsub
      have h2 := nd_le (B := (goneT s e.2.1).map (·.1)) f2 (fun x hx => by
        obtain ⟨t, ht, rfl⟩ := f1 x hx
        exact List.mem_map.2 ⟨t, List.mem_filter.2 ⟨ht, by simpa using hx⟩, rfl⟩)
      rw [List.length_map] at h1 h2
      omega
  · rintro ⟨⟨g1, g2, g3⟩, g4, g5⟩
    refine ⟨fun x hx => ?_, g1, fun t ht => ⟨fun u hu h => ?_, (g3 t ht).2⟩, g2⟩
    · by_cases hin : x ∈ (goneT s e.2.1).map (·.1)
      · obtain ⟨t, ht, h⟩ := List.mem_map.1 hin
        exact ⟨t, (List.mem_filter.1 ht).1, h⟩
      · exfalso
        have h1 := nd_le (A := x :: (goneT s e.2.1).map (·.1)) (B := e.2.1) (List.nodup_cons.2 ⟨hin, hnd⟩) (fun y hy => by
          rcases List.mem_cons.1 hy with rfl | hy
          · exact hx
          · exact hsub y hy)
        rw [List.length_cons, List.length_map] at h1
        omega
    · exact g4 u hu (List.mem_map.2 ⟨t, ht, h.symm⟩)
theorem tb_news {w : World} {b off : Nat} {ts : List Tb} (h : TbAt w b off ts) {j : Nat} {u : Value} (hu : (tv4 ts)[j]? = some u) : w.cell? ⟨b, off + j, none⟩ = some u := by
  have hj : j < (tv4 ts).length := by
    rcases Nat.lt_or_ge j (tv4 ts).length with h | h
    · exact h
    · rw [List.getElem?_eq_none h] at hu; cases hu
  rw [tv4_length] at hj
  obtain ⟨i, r, rfl, hr⟩ : ∃ i r, j = i * 4 + r ∧ r < 4 := ⟨j / 4, j % 4, by omega, by omega⟩
  have hi : i < ts.length := by omega
  obtain ⟨p0, p1, p2, p3⟩ := h i hi
  obtain ⟨q0, q1, q2, q3⟩ := tv4_get ts i hi
  rcases (show r = 0 ∨ r = 1 ∨ r = 2 ∨ r = 3 by omega) with rfl | rfl | rfl | rfl
  · rw [Nat.add_zero] at *; rw [q0] at hu; rw [← hu]; exact p0
  · rw [q1] at hu; rw [← hu, ← Nat.add_assoc]; exact p1
  · rw [q2] at hu; rw [← hu, ← Nat.add_assoc]; exact p2
  · rw [q3] at hu; rw [← hu, ← Nat.add_assoc]; exact p3
theorem DM.below {w w' : World} {b n m : Nat} {f : Int → Int} (h : DM w b n f) (hb : Below m w w') (hl : b < m) : DM w' b n f := by
  obtain ⟨D, ⟨es, clock, h1, h2⟩, c, d⟩ := h
  exact ⟨D, ⟨es, clock, (hb.block b hl).trans h1, h2⟩, c, d⟩
theorem DM.lt {w : World} {b n : Nat} {f : Int → Int} (h : DM w b n f) : b < w.heap.size := let ⟨D, a, c, d⟩ := h; a.lt
theorem kept_snoc (l : List Tb) (t : Tb) (d : List Int) : keptT (l ++ [t]) d = keptT l d ++ (if t.1 ∈ d then [] else [t]) := by
  unfold keptT
  rw [List.filter_append]
  by_cases h : t.1 ∈ d <;> simp [h]
theorem gone_snoc (l : List Tb) (t : Tb) (d : List Int) : (goneT (l ++ [t]) d).length = (goneT l d).length + (if t.1 ∈ d then 1 else 0) := by
  unfold goneT
  rw [List.filter_append]
  by_cases h : t.1 ∈ d <;> simp [h]
end Go.Proofs.Ytkpemlgolpihiaa
namespace Go.Proofs.Ytkpemlgolpihiaa
set_option maxRecDepth 100000
open Go.RowKit Go.Maps Go.WideShapes
set_option linter.unusedVariables false
set_option linter.unusedSimpArgs false

def CgP (w : World) (fit : Bool) (L : List Tb) (x : Ending) (w' : World) : Prop := Below w.heap.size w w' ∧
    ((fit = true ∧ ∃ v base, x = .returned (.tuple #[v, .bool true]) ∧ w.heap.size ≤ base ∧ base ≤ w'.heap.size ∧ w'.ownsRow base 49 4 v L.length (tv4 L)) ∨ (fit = false ∧ ∃ v, x = .returned (.tuple #[v, .bool false])))
set_option maxRecDepth 1000000 in
set_option maxHeartbeats 16000000 in
theorem changed_any (a : Option Addr) (n cap : Nat) (s : List Tb) (V : Value) (e : Ed) (w : World) (hst : ST w a n cap s) (hok : okT s) (hn : s.length ≤ 50000) (hnd : (s.map (·.1)).Nodup) (hmy : ∀ t ∈ s, mayT t = true) (h : EV w V e) (hm : mayEd e = true) :
    Calls Try.prog 42 #[.slice a n cap, V] w (CgP w (fitT s e) (keptT s e.2.1 ++ e.1)) := by
  obtain ⟨i0, hi0, hz0, hz1, hz2⟩ := info_parts Try.infoTab
  have hEV := h
  obtain ⟨aa, an, ac, da', dn, dc, rfl, het, hez, heo⟩ := h
  obtain ⟨ts, zs, lg, nx⟩ := e
  obtain ⟨b, off, ha, hb, hc⟩ := hst.2.1.at_
  obtain ⟨b2, off2, ha2, hb2, hc2⟩ := het.2.1.at_
  have hm' := mayEd_iff.1 hm
  obtain ⟨m1, m2, -⟩ := hm'
  simp only at *
  have hl := hst.1
  rw [hl] at ha hb hn
  have hl2 := het.1
  rw [hl2] at ha2 hb2 m1
  have hl3 := hez.1
  rw [hl3] at m2
  obtain ⟨r, hr⟩ : ∃ r, fitT s (ts, zs, lg, nx) = r := ⟨_, rfl⟩
  rw [hr]
  have HFS := Lib.hid (show r = true ↔ doB (ts, zs, lg, nx) = true ∧ (∀ t ∈ s, ¬ t.1 ∈ ts.map (·.1)) ∧ (goneT s zs).length = dn by rw [← hr, ← hl3]; exact fit_split (e := (ts, zs, lg, nx)) hnd)
  have HC := Lib.hid hc
  have HC2 := Lib.hid hc2
  have HL := Lib.hid hl
  have HL2 := Lib.hid hl2
  have HMY := Lib.hid hmy
  have hB0 := box_bel w (.cells #[.slice aa an ac, .slice da' dn dc, .int .i64 lg, .int .i64 nx] 25)
  have HD := Lib.hid (doings_any _ _ _ (hEV.old hB0) hm)
  have HB0 := Lib.hid hB0
  have bx := EdBox.new w 25 (.slice aa an ac) (.slice da' dn dc) lg nx
  obtain ⟨F, hF⟩ : ∃ F, F = da (ts.map (·.1)) zs := ⟨_, rfl⟩
  obtain ⟨dd, hdd⟩ : ∃ dd, dd = doB (ts, zs, lg, nx) := ⟨_, rfl⟩
  rw [← hdd] at HD HFS
  have HF := Lib.hid hF
  clear hr hc hc2 hl hl2 hl3 hB0 hEV het hez heo hm hst hok hnd hmy
  simp only at HD
  rw [← hF] at HD
  clear hF hdd
  go_enter Try.func42, Try.ntmps42
  obtain ⟨xb, hxb⟩ : ∃ xb, xb = w.heap.size := ⟨_, rfl⟩
  go_upto_region 1 with fail
  rw [← hxb] at bx ⊢
  generalize w.alloc (.cells #[.slice aa an ac, .slice da' dn dc, .int .i64 lg, .int .i64 nx] 25) = wb at *
  have BX := Lib.hid bx
  obtain ⟨y0, y1, y2, y3, y4⟩ := bx
  have HXB := Lib.hid hxb
  clear hxb
  go_wp2_with (go_at_call 65; refine HD.out.mono ?_; rintro e w1 ⟨hb1, hres⟩; have HB1 := Lib.hid hb1; have HRES := Lib.hid hres; clear hb1 hres; have hpick := HRES.out; rcases hpick with ⟨hdt, mb, rfl, hmb, hdm⟩ | ⟨hdt, rfl⟩)
  rotate_left
  ·
    obtain rfl : r = false := by
      refine Bool.eq_false_iff.2 fun h => ?_
      have := (HFS.out.1 h).1
      rw [hdt] at this
      cases this
    have HZZ := Lib.hid (HB0.out.trans (HB1.out.mono HB0.out.size))
    go_ret2
    exact ⟨HZZ.out, .inr ⟨rfl, _, rfl⟩⟩
  subst hdt
  have HBW := Lib.hid (HB0.out.trans (HB1.out.mono HB0.out.size))
  have HDM := Lib.hid hdm
  have HLT := Lib.hid hdm.lt
  clear hdm HRES hmb y0 y1 y2 y3 y4 HD
  obtain ⟨B, hB⟩ : ∃ B, B = w1.heap.size := ⟨_, rfl⟩
  have HBB := Lib.hid hB
  have HXM := Lib.hid (show w.heap.size ≤ B by rw [hB]; exact HBW.out.size)
  have hxB : xb < B := by have := BX.out.2.2.2.2; have := HB1.out.size; omega
  have hmB : mb < B := by have := HLT.out; omega
  clear hB
  have BX1 := Lib.hid (BX.out.below HB1.out)
  have HBQ := Lib.hid (show Below B w1 w1 from Below.refl _ _)
  go_loopw [8, 9, 21] (fun l g i wr => ∃ k m q : Nat, i = .int .i64 k ∧ g = .int .i64 q ∧ k ≤ n ∧ m ≤ k ∧ q ≤ k ∧ Hid (m = (keptT (s.take k) zs).length ∧ q = (goneT (s.take k) zs).length ∧ (∀ t ∈ s.take k, ¬ t.1 ∈ ts.map (·.1)) ∧ wr.ownsRow B 49 4 l m (tv4 (keptT (s.take k) zs))) ∧ Hid (Below B w1 wr)) (fun _ _ i _ => n - (intOf i).toNat)
  case atStart => exact ⟨0, 0, 0, by first | rfl | go_num, by first | rfl | go_num, by omega, by omega, by omega, Lib.hid ⟨rfl, rfl, by simp, World.ownsRow_nil _ _ _ _⟩, HBQ⟩
  case round =>
    obtain ⟨k, m, q, rfl, rfl, hk, hmk, hqk, HK, HW⟩ := hrel
    have hws : B ≤ wr.heap.size := by have := HW.out.size; have := HBB.out; omega
    have HBR := Lib.hid (HBW.out.trans (HW.out.mono HXM.out))
    by_cases hlt : k < n
    · have hki : (k : Int) < (n : Int) := by omega
      obtain rfl := ha (by omega)
      have hbw := hb (by omega)
      have hkl : k < s.length := by rw [HL.out]; exact hlt
      obtain ⟨g0, g1, g2, g3⟩ := HC.out.old hbw HBR.out k hkl
      have hbr : b < wr.heap.size := Nat.lt_of_lt_of_le hbw HBR.out.size
      have hin := List.getElem_mem hkl
      have hEm := (mayT_iff.1 (HMY.out _ hin)).1
      have hs : s.take (k + 1) = s.take k ++ [s[k]] := List.take_succ_eq_append_getElem hkl
      obtain ⟨E, hE⟩ : ∃ E, E = s[k] := ⟨_, rfl⟩
      rw [← hE] at g0 g1 g2 g3 hEm hs hin
      obtain ⟨x1, x2, x3, x4⟩ := E
      simp only at g0 g1 g2 g3 hEm
      have HE := Lib.hid (show 0 ≤ x1 ∧ x1 ≤ 1073741824 by omega)
      obtain ⟨D, hown, hism, hf⟩ := HDM.out.below HW.out hmB
      have HO := Lib.hid (hown.alloc (.cells #[.int .i64 x1, .int .i64 x2, .string x3, .string x4] 49))
      have HFD := Lib.hid hf
      have HS := Lib.hid hs
      have HIN := Lib.hid hin
      have HAL := Lib.hid (box_bel wr (.cells #[.int .i64 x1, .int .i64 x2, .string x3, .string x4] 49))
      have HT := Lib.hid (TBox.new wr 49 (x1, x2, x3, x4))
      have HROW := Lib.hid (HK.out.2.2.2.alloc (.cells #[.int .i64 x1, .int .i64 x2, .string x3, .string x4] 49))
      obtain ⟨tb, htb⟩ : ∃ tb, tb = wr.heap.size := ⟨_, rfl⟩
      clear hE hEm hs hown hism hf hin
      go_upto_region 9 with fail
      rw [← htb] at HT ⊢
      clear htb g0 g1 g2 g3 hbr
      have hwa := HAL.out.size
      generalize wr.alloc (.cells #[.int .i64 x1, .int .i64 x2, .string x3, .string x4] 49) = wa at *
      obtain ⟨t0, t1, t2, t3, t4⟩ := HT.out
      simp only at t0 t1 t2 t3
      by_cases h1 : x1 ∈ ts.map (·.1)
      · have HZ := Lib.hid (show F x1 = 1 by rw [HF.out]; exact if_pos h1)
        obtain rfl : r = false := by
          refine Bool.eq_false_iff.2 fun h => ?_
          exact (HFS.out.1 h).2.1 _ HIN.out h1
        clear h1 HK
        go_wp2_with (first | (at_lookup; refine wpList_lookup_own_int _ rfl _ _ 94 rfl 3 3 .i64 law_int Try.underlying94 Try.underlying3 (zero_int _) mb 256 D rfl HO.out _ _ rfl (key_int HE.out) ?_; intro c hat hwc; obtain rfl := at_num HFD HZ.out hat; clear hat hwc) | go_in)
        go_ret2
        exact ⟨HBR.out.trans (HAL.out.mono HBR.out.size), .inr ⟨rfl, _, rfl⟩⟩
      by_cases h2 : x1 ∈ zs
      · have HZ := Lib.hid (show F x1 = 2 by rw [HF.out]; unfold da dz; rw [if_neg h1, if_pos h2])
        have HN := Lib.hid (show m = (keptT (s.take (k + 1)) zs).length ∧ q + 1 = (goneT (s.take (k + 1)) zs).length ∧ (∀ t ∈ s.take (k + 1), ¬ t.1 ∈ ts.map (·.1)) ∧ wa.ownsRow B 49 4 u8 m (tv4 (keptT (s.take (k + 1)) zs)) by
          rw [HS.out, kept_snoc, gone_snoc, if_pos h2, if_pos h2, List.append_nil]
          refine ⟨HK.out.1, by rw [← HK.out.2.1], fun t ht => ?_, HROW.out⟩
          rcases List.mem_append.1 ht with ht | ht
          · exact HK.out.2.2.1 t ht
          · obtain rfl := List.mem_singleton.1 ht
            exact h1)
        clear h1 h2 HK
        go_wp2_with (first | (at_lookup; refine wpList_lookup_own_int _ rfl _ _ 94 rfl 3 3 .i64 law_int Try.underlying94 Try.underlying3 (zero_int _) mb 256 D rfl HO.out _ _ rfl (key_int HE.out) ?_; intro c hat hwc; obtain rfl := at_num HFD HZ.out hat; clear hat hwc) | go_in)
        go_roundw
        case rel => exact ⟨k + 1, m, q + 1, by go_num, by go_num, by omega, by omega, by omega, HN, Lib.hid (HW.out.trans (HAL.out.mono hws))⟩
        case measure => simp [intOf]; omega
      · have HZ := Lib.hid (show F x1 = 0 by rw [HF.out]; unfold da dz; rw [if_neg h1, if_neg h2])
        have HN := Lib.hid (show m + 1 = (keptT (s.take (k + 1)) zs).length ∧ q = (goneT (s.take (k + 1)) zs).length ∧ (∀ t ∈ s.take (k + 1), ¬ t.1 ∈ ts.map (·.1)) ∧ keptT (s.take (k + 1)) zs = keptT (s.take k) zs ++ [(x1, x2, x3, x4)] by
          rw [HS.out, kept_snoc, gone_snoc, if_neg h2, if_neg h2]
          refine ⟨by rw [List.length_append, ← HK.out.1]; rfl, by rw [← HK.out.2.1]; rfl, fun t ht => ?_, rfl⟩
          rcases List.mem_append.1 ht with ht | ht
          · exact HK.out.2.2.1 t ht
          · obtain rfl := List.mem_singleton.1 ht
            exact h1)
        clear h1 h2 HK
        go_wp2_with (first | (at_lookup; refine wpList_lookup_own_int _ rfl _ _ 94 rfl 3 3 .i64 law_int Try.underlying94 Try.underlying3 (zero_int _) mb 256 D rfl HO.out _ _ rfl (key_int HE.out) ?_; intro c hat hwc; obtain rfl := at_num HFD HZ.out hat; clear hat hwc) | (at_builtin; generalize hG : wpList _ _ _ _ _ _ = G) | go_in)
        rw [← hG]
        clear hG
        refine wpList_append_own _ rfl (.tmp 29) (.tmp 31) 22 rfl B 49 i0 (.agg #[.int .i64 0, .int .i64 0, .string ⟨#[]⟩, .string ⟨#[]⟩]) 4 48 Try.underlying22 hi0 hz0 hz1 hz2 rfl (by decide) _ _ _ rfl (HROW.out.alloc _) ⟨wa.heap.size, 0, none⟩ 1 1 (tv (x1, x2, x3, x4)) rfl rfl ?c1 ?c2 ?c3 ?c4 ?c5 ?_
        case c1 => exact cell_new4 _ _ _ _ _ _
        case c2 => intro u hu; simp [tv] at hu; rcases hu with rfl | rfl | rfl | rfl <;> rfl
        case c3 => unfold maxLen; omega
        case c4 => omega
        case c5 => simp [go_sem]; omega
        intro v' w3 hown3 hgrow _
        have HB3 := Lib.hid (HW.out.trans ((HAL.out.mono hws).trans (((Below.refl B wa).alloc (by omega) _).grown hgrow (by simp [go_sem]; omega) (fun k hk => (HROW.out.lt k hk).1))))
        rw [tv4_snoc, ← HN.out.2.2.2] at hown3
        have HR3 := Lib.hid (And.intro HN.out.1 (And.intro HN.out.2.1 (And.intro HN.out.2.2.1 hown3)))
        clear hown3 hgrow
        go_wp2_with fail
        go_roundw
        case rel => exact ⟨k + 1, m + 1, q, by go_num, by first | rfl | go_num, by omega, by omega, by omega, HR3, HB3⟩
        case measure => simp [intOf]; omega
    · obtain rfl : n = k := by omega
      have HE := HK.out
      rw [← HL.out, List.take_length] at HE
      have HE1 := Lib.hid HE
      have BXW := BX1.out.keep HW.out hxB
      obtain ⟨z0, z1, z2, z3, z4⟩ := BXW
      have HA2 := Lib.hid ha2
      have HB2 := Lib.hid hb2
      have hkn : (keptT s zs).length ≤ n := by rw [← HE.1]; exact hmk
      clear HE HK ha2 hb2 ha hb
      obtain ⟨c, hcq⟩ : ∃ c, c = decide ((q : Int) = (dn : Int)) := ⟨_, rfl⟩
      have hrc : r = c := by
        rw [hcq]
        by_cases hq : q = dn
        · have e1 : r = true := HFS.out.2 ⟨rfl, HE1.out.2.2.1, by rw [← HE1.out.2.1]; exact hq⟩
          rw [e1, hq]; simp
        · have e1 : r = false := Bool.eq_false_iff.2 fun h => hq (by rw [HE1.out.2.1]; exact (HFS.out.1 h).2.2)
          rw [e1]
          exact (decide_eq_false (by omega)).symm
      obtain rfl := hrc
      have HCQ := Lib.hid hcq
      clear hcq
      go_upto_region 16 with fail
      refine mixed_region (D := (fun w' => w'.cell? ⟨xb, 0, none⟩ = some (.slice aa an ac) ∧ w'.cell? ⟨xb, 1, none⟩ = some (.slice da' dn dc))) [0, 1, 2, 4, 5, 6, 7, 8] [3, 9, 10] 10 (by kernel_rfl) (by kernel_rfl) (by decide) (⟨z0, z1⟩) ?_
      simp only [List.filterMap_cons, List.filterMap_nil, List.getElem?_cons_zero, List.getElem?_cons_succ]
      repeat (
        (first
         | (refine calm_move _ rfl ?_)
         | (apply calm_cons
            · (intro w' hw'
               first | (obtain ⟨hwa', hwb', hwc'⟩ := hw') | (obtain ⟨hwa', hwb'⟩ := hw') | skip
               go_simp
               first
               | done
               | exact rfl)))
        simp only [Act.put, Act.eval, List.setIfInBounds_toArray, List.set_cons_zero, List.set_cons_succ, Array.getD_eq_getD_getElem?, List.getElem?_toArray, List.getElem?_cons_zero, List.getElem?_cons_succ, Option.getD_some])
      refine calm_nil ?_
      refine loud_cons fun K hK => ?_
      have HRW := Lib.hid (HE1.out.2.2.2.drew)
      go_wp2_with (at_builtin; refine wpList_append_any rfl (.tmp 40) (.tmp 42) 22 rfl B 49 i0 (.agg #[.int .i64 0, .int .i64 0, .string ⟨#[]⟩, .string ⟨#[]⟩]) 4 48 Try.underlying22 hi0 hz0 hz1 hz2 rfl (by decide) _ _ _ rfl HRW.out aa an ac (tv4 ts) rfl ?d1 ?d2 ?d3 ?d4 ?d5 ?d6 ?d7 ?_)
      case d1 =>
        intro h
        by_cases h0 : 0 < an
        · rw [HA2.out h0] at h; cases h
        · omega
      case d2 => rw [tv4_length, HL2.out]
      case d3 =>
        intro y hy jj u hu
        have h0 : 0 < an := by
          have hj : jj < (tv4 ts).length := by
            rcases Nat.lt_or_ge jj (tv4 ts).length with h | h
            · exact h
            · rw [List.getElem?_eq_none h] at hu; cases hu
          rw [tv4_length, HL2.out] at hj
          omega
        rw [HA2.out h0] at hy
        cases hy
        have hq := tb_news (HC2.out.old (HB2.out h0) HBR.out) hu
        first | exact hq | simpa [Addr.add] using hq | simpa [go_sem] using hq
      case d4 => exact tv4_one ts
      case d5 => unfold maxLen; omega
      case d6 => omega
      intro v' w3 hown3 hb3
      have HB3 := Lib.hid hb3
      have HO3 := Lib.hid hown3
      have q0 : w3.cell? ⟨xb, 0, none⟩ = some (.slice aa an ac) := (hb3.cell (p := ⟨xb, 0, none⟩) hxB).trans z0
      have q1 : w3.cell? ⟨xb, 1, none⟩ = some (.slice da' dn dc) := (hb3.cell (p := ⟨xb, 1, none⟩) hxB).trans z1
      clear hb3 hown3 z0 z1 z2 z3 z4
      go_wp2
      refine hK _ _ (fun _ => ⟨q0, q1⟩) ?_
      clear hK K
      refine loud_cons fun K hK => ?_
      go_wp2_with fail
      refine hK _ _ (fun _ => ⟨q0, q1⟩) ?_
      clear hK K
      refine loud_cons fun K hK => ?_
      go_wp2_with fail
      refine hK _ _ (fun h => absurd rfl h) ?_
      clear hK K
      refine loud_nil ?_
      have e2 : ((q : Int) == (dn : Int)) = r := by
        rw [HCQ.out]
        by_cases h : (q : Int) = dn <;> simp [h]
      rw [e2]
      have hlen : m + an = (keptT s zs ++ ts).length := by rw [List.length_append, ← HE1.out.1, HL2.out]
      have h5 := HO3.out
      rw [tv4_app, hlen] at h5
      have HO5 := Lib.hid h5
      have HBZ := Lib.hid ((HBR.out.drew).trans (HB3.out.mono HXM.out))
      have HSZ := Lib.hid (show B ≤ w3.heap.size by have := HB3.out.size; simp [go_sem] at this; omega)
      clear h5 hlen e2 HCQ HO3 q0 q1
      cases r with
      | true =>
        go_wp2_with fail
        go_ret2
        exact ⟨HBZ.out, .inl ⟨rfl, _, B, rfl, HXM.out, HSZ.out, HO5.out⟩⟩
      | false =>
        go_wp2_with fail
        go_ret2
        exact ⟨HBZ.out, .inr ⟨rfl, _, rfl⟩⟩
end Go.Proofs.Ytkpemlgolpihiaa
namespace Go.Proofs.Ytkpemlgolpihiaa
set_option maxRecDepth 100000
open Go.RowKit
set_option linter.unusedVariables false
set_option linter.unusedSimpArgs false

/-- What Apply answers. -/
def apN (s : St) (e : Ed) : Int := if mayEd e = true then (if (appT s.1 s.2.1 s.2.2 e).isSome = true then 0 else 120) else 1
def apS (s : St) (e : Ed) : St := if mayEd e = true then (match appT s.1 s.2.1 s.2.2 e with | some L => (L, e.2.2.1, e.2.2.2) | none => ([], 0, 0)) else ([], 0, 0)
def APe (s : St) (e : Ed) (w : World) (x : Ending) (w' : World) : Prop := ∃ V, x = .returned (.tuple #[V, .int .i64 (apN s e)]) ∧ SV w' V (apS s e) ∧ Below w.heap.size w w'
theorem ap_may {s : St} {e : Ed} (h : ¬ mayEd e = true) : apN s e = 1 ∧ apS s e = ([], 0, 0) := by unfold apN apS; rw [if_neg h, if_neg h]; exact ⟨rfl, rfl⟩
theorem ap_no {s : St} {e : Ed} (h : mayEd e = true) (hn : appT s.1 s.2.1 s.2.2 e = none) : apN s e = 120 ∧ apS s e = ([], 0, 0) := by unfold apN apS; rw [if_pos h, if_pos h, hn]; exact ⟨rfl, rfl⟩
theorem ap_yes {s : St} {e : Ed} {L : List Tb} (h : mayEd e = true) (hn : appT s.1 s.2.1 s.2.2 e = some L) : apN s e = 0 ∧ apS s e = (L, e.2.2.1, e.2.2.2) := by unfold apN apS; rw [if_pos h, if_pos h, hn]; exact ⟨rfl, rfl⟩
theorem app_log {s : St} {e : Ed} (h : e.2.2.1 < s.2.1) : appT s.1 s.2.1 s.2.2 e = none := by
  unfold appT; rw [if_neg]; intro q; simp only [Bool.and_eq_true, decide_eq_true_eq] at q; omega
theorem app_next {s : St} {e : Ed} (h : e.2.2.2 < s.2.2) : appT s.1 s.2.1 s.2.2 e = none := by
  unfold appT; rw [if_neg]; intro q; simp only [Bool.and_eq_true, decide_eq_true_eq] at q; omega
theorem app_fit {s : St} {e : Ed} (h : fitT s.1 e = false) : appT s.1 s.2.1 s.2.2 e = none := by
  unfold appT; rw [if_neg]; intro q; simp [h] at q
theorem app_apt {s : St} {e : Ed} (h : ¬ Apt (nextT s.1 e)) : appT s.1 s.2.1 s.2.2 e = none := by
  unfold appT; rw [if_neg]; intro q; simp only [Bool.and_eq_true, decide_eq_true_eq] at q; exact h q.2
theorem app_all {s : St} {e : Ed} (h1 : ¬ e.2.2.1 < s.2.1) (h2 : ¬ e.2.2.2 < s.2.2) (h3 : fitT s.1 e = true) (h4 : Apt (nextT s.1 e)) : appT s.1 s.2.1 s.2.2 e = some (nextT s.1 e) := by
  unfold appT
  rw [if_pos]
  simp only [Bool.and_eq_true, decide_eq_true_eq]
  exact ⟨⟨⟨by omega, by omega⟩, h3⟩, h4⟩
theorem RdT.set {w : World} {a : Option Addr} {ts : List Tb} (h : RdT w a ts) {R i : Nat} {u : Value} (hR : ∀ y, a = some y → y.block ≠ R) : RdT (w.setCell ⟨R, i, none⟩ u) a ts := by
  rcases h with rfl | ⟨b, off, rfl, hb, hc⟩
  · exact .inl rfl
  · have hne : b ≠ R := hR _ rfl
    refine .inr ⟨b, off, rfl, by simpa [go_sem] using hb, fun k hk => ?_⟩
    obtain ⟨p0, p1, p2, p3⟩ := hc k hk
    have hne' : ¬ R = b := fun e => hne e.symm
    exact ⟨by simp [go_sem, hne, hne', p0], by simp [go_sem, hne, hne', p1], by simp [go_sem, hne, hne', p2], by simp [go_sem, hne, hne', p3]⟩
theorem ST.set {w : World} {a : Option Addr} {n cap : Nat} {ts : List Tb} (h : ST w a n cap ts) {R i : Nat} {u : Value} (hR : ∀ y, a = some y → y.block ≠ R) : ST (w.setCell ⟨R, i, none⟩ u) a n cap ts := ⟨h.1, h.2.1.set hR, h.2.2⟩
theorem own_far {w : World} {base n cap m : Nat} {t : TypeId} {a : Option Addr} {xs : List Value} (h : w.ownsRow base t 4 (.slice a n cap) m xs) : ∀ y, a = some y → base ≤ y.block := by
  intro y hy
  rcases h.2 with ⟨h1, -⟩ | ⟨g, c, cur, h1, hb, -⟩
  · injection h1 with e1; rw [hy] at e1; cases e1
  · injection h1 with e1; rw [hy] at e1; cases e1; exact hb
end Go.Proofs.Ytkpemlgolpihiaa
namespace Go.Proofs.Ytkpemlgolpihiaa
set_option maxRecDepth 100000
open Go.RowKit
set_option linter.unusedVariables false
set_option linter.unusedSimpArgs false

/-- A state's box that may be written. -/
def SW (w : World) (x : Nat) (A : Value) (lg nx : Int) : Prop := SBox w x A lg nx ∧ w.frozen? ⟨x, 0, none⟩ = false ∧ w.frozen? ⟨x, 1, none⟩ = false ∧ w.frozen? ⟨x, 2, none⟩ = false
theorem SW.new (w : World) (T : TypeId) (A : Value) (lg nx : Int) : SW (w.alloc (.cells #[A, .int .i64 lg, .int .i64 nx] T)) w.heap.size A lg nx := ⟨SBox.new w T A lg nx, by simp, by simp, by simp⟩
theorem SBox.keep {w w' : World} {x m : Nat} {A : Value} {lg nx : Int} (h : SBox w x A lg nx) (hb : Below m w w') (hx : x < m) : SBox w' x A lg nx :=
  ⟨(hb.cell (p := ⟨x, 0, none⟩) hx).trans h.1, (hb.cell (p := ⟨x, 1, none⟩) hx).trans h.2.1, (hb.cell (p := ⟨x, 2, none⟩) hx).trans h.2.2.1, Nat.lt_of_lt_of_le h.2.2.2 hb.size⟩
theorem SW.keep {w w' : World} {x m : Nat} {A : Value} {lg nx : Int} (h : SW w x A lg nx) (hb : Below m w w') (hx : x < m) : SW w' x A lg nx :=
  ⟨h.1.keep hb hx, (hb.frozen (p := ⟨x, 0, none⟩) hx).trans h.2.1, (hb.frozen (p := ⟨x, 1, none⟩) hx).trans h.2.2.1, (hb.frozen (p := ⟨x, 2, none⟩) hx).trans h.2.2.2⟩
set_option maxRecDepth 1000000 in
set_option maxHeartbeats 16000000 in
theorem apply12_any (V1 V2 : Value) (s : St) (e : Ed) (w : World) (h1 : SV w V1 s) (h2 : EV w V2 e) (hs : OkT s.1 s.2.2) (hn : s.1.length ≤ 50000) :
    Calls Try.prog 18 #[V1, V2] w (APe s e w) := by
  have hEV := h2
  obtain ⟨a, n, cap, rfl, hst, hok⟩ := h1
  obtain ⟨aa, an, ac, da', dn, dc, rfl, het, hez, heo⟩ := h2
  obtain ⟨ss, sl, sn⟩ := s
  obtain ⟨ts, zs, lg, nx⟩ := e
  simp only at *
  obtain ⟨o1, ho1⟩ : ∃ o, o = Obj.cells #[.slice a n cap, .int .i64 sl, .int .i64 sn] 38 := ⟨_, rfl⟩
  obtain ⟨o2, ho2⟩ : ∃ o, o = Obj.cells #[.slice aa an ac, .slice da' dn dc, .int .i64 lg, .int .i64 nx] 25 := ⟨_, rfl⟩
  obtain ⟨o3, ho3⟩ : ∃ o, o = Obj.cells #[.slice none 0 0, .int .i64 0, .int .i64 0] 38 := ⟨_, rfl⟩
  have sA : SBox (w.alloc o1) w.heap.size (.slice a n cap) sl sn := by rw [ho1]; exact SBox.new _ _ _ _ _
  have sB : EdBox ((w.alloc o1).alloc o2) (w.alloc o1).heap.size (.slice aa an ac) (.slice da' dn dc) lg nx := by rw [ho2]; exact EdBox.new _ _ _ _ _ _
  have sC : SW (((w.alloc o1).alloc o2).alloc o3) ((w.alloc o1).alloc o2).heap.size (.slice none 0 0) 0 0 := by rw [ho3]; exact SW.new _ _ _ _ _
  have b1 : Below w.heap.size w (w.alloc o1) := box_bel w o1
  have b2 := box_bel (w.alloc o1) o2
  have b3 := box_bel ((w.alloc o1).alloc o2) o3
  have k1 : (w.alloc o1).heap.size = w.heap.size + 1 := by simp [go_sem]
  have k2 : ((w.alloc o1).alloc o2).heap.size = w.heap.size + 1 + 1 := by simp [go_sem]
  have k3 : (((w.alloc o1).alloc o2).alloc o3).heap.size = w.heap.size + 1 + 1 + 1 := by simp [go_sem]
  rw [k1] at sB b2
  rw [k2] at sC b3
  replace sA := (sA.below (by rw [k1]; exact b2)).below (by rw [k2]; exact b3)
  replace sB := sB.below (by rw [k2]; exact b3)
  have hb : Below w.heap.size w (((w.alloc o1).alloc o2).alloc o3) := b1.trans ((b2.mono (by omega)).trans (b3.mono (by omega)))
  obtain ⟨w3, hw3⟩ : ∃ w3, w3 = ((w.alloc o1).alloc o2).alloc o3 := ⟨_, rfl⟩
  rw [← hw3] at sA sB sC hb k3
  have HW3 := Lib.hid hw3
  have HO := Lib.hid (And.intro ho1 (And.intro ho2 ho3))
  have HB := Lib.hid hb
  have hEV3 := hEV.old hb
  have hst3 := hst.old hb
  have CK := Lib.hid (chk12_any _ _ _ hEV3)
  obtain ⟨m, hm⟩ : ∃ m, mayEd (ts, zs, lg, nx) = m := ⟨_, rfl⟩
  have hed : edN (ts, zs, lg, nx) = if m = true then 0 else 1 := by unfold edN; rw [hm]
  rw [hed] at CK
  have HFIN : Hid (∀ (wf : World) (u0 u1 u2 : Value), Below w3.heap.size w3 wf → Below w.heap.size w (((wf.setCell ⟨w.heap.size + 1 + 1, 0, none⟩ u0).setCell ⟨w.heap.size + 1 + 1, 1, none⟩ u1).setCell ⟨w.heap.size + 1 + 1, 2, none⟩ u2)) := Lib.hid fun wf u0 u1 u2 hb' =>
    below_new (below_new (below_new (hb.trans (hb'.mono hb.size)) (by omega) 0 u0) (by omega) 1 u1) (by omega) 2 u2
  have HLT : Hid (w.heap.size < w3.heap.size ∧ w.heap.size + 1 < w3.heap.size ∧ w.heap.size + 1 + 1 < w3.heap.size) := Lib.hid (by omega)
  obtain ⟨xc, hxc⟩ : ∃ xc, xc = w.heap.size + 1 + 1 := ⟨_, rfl⟩
  rw [← hxc] at sC HFIN HLT
  obtain ⟨xb, hxb⟩ : ∃ xb, xb = w.heap.size + 1 := ⟨_, rfl⟩
  rw [← hxb] at sB HLT hxc
  obtain ⟨xa, hxa⟩ : ∃ xa, xa = w.heap.size := ⟨_, rfl⟩
  rw [← hxa] at sA HLT
  have HX := Lib.hid (And.intro hxa (And.intro hxb hxc))
  have HA := Lib.hid sA
  have HE := Lib.hid sB
  have HR := Lib.hid sC
  have HS := Lib.hid hs
  have HEV := Lib.hid hEV3
  have HST := Lib.hid hst3
  have HOK := Lib.hid hok
  have HM := Lib.hid hm
  have HN := Lib.hid hn
  clear b1 b2 b3 k1 k2 k3 hb hEV hEV3 hst hst3 hs hok het hez heo hed hm hn
  obtain ⟨x0, x1, x2, x3⟩ := sA
  obtain ⟨y0, y1, y2, y3, y4⟩ := sB
  obtain ⟨⟨z0, z1, z2, z3⟩, f0, f1, f2⟩ := sC
  go_enter Try.func18, Try.ntmps18
  go_upto_region 1 with fail
  rw [← ho1, ← ho2, ← ho3, ← hw3, ← hxb, ← hxc, ← hxa]
  clear ho1 ho2 ho3 hw3 hxa hxb hxc HW3 HO
  go_wp2_with fail
  refine CK.out.mono ?_
  rintro e w4 ⟨rfl, hb4⟩
  have HB4 := Lib.hid hb4
  clear CK hb4 x0 x1 x2 x3 y0 y1 y2 y3 y4 z0 z1 z2 z3 f0 f1 f2
  have HZERO : Hid (∀ (wf : World) (N : Int), Below w3.heap.size w3 wf → apN (ss, sl, sn) (ts, zs, lg, nx) = N ∧ apS (ss, sl, sn) (ts, zs, lg, nx) = ([], 0, 0) → APe (ss, sl, sn) (ts, zs, lg, nx) w (.returned (.tuple #[.agg #[.slice none 0 0, .int .i64 0, .int .i64 0], .int .i64 N])) (((wf.setCell ⟨xc, 0, none⟩ (.slice none 0 0)).setCell ⟨xc, 1, none⟩ (.int .i64 0)).setCell ⟨xc, 2, none⟩ (.int .i64 0))) := Lib.hid fun wf N hb hN =>
    ⟨_, by rw [hN.1], by rw [hN.2]; exact SV.zero _, HFIN.out wf _ _ _ hb⟩
  cases m with
  | false =>
    have hN := ap_may (s := (ss, sl, sn)) (e := (ts, zs, lg, nx)) (by rw [HM.out]; decide)
    rw [if_neg (by decide)]
    obtain ⟨⟨z0, z1, z2, z3⟩, f0, f1, f2⟩ := HR.out.keep HB4.out HLT.out.2.2
    go_wp2_with fail
    try simp only [Exit.inBlock, Exit.then]
    refine bodyPost_ret (v := .tuple #[.agg #[.slice none 0 0, .int .i64 0, .int .i64 0], .int .i64 1]) (by simp [results, Try.results18, go_sem, z0, z1, z2, z3]) rfl ?_
    exact HZERO.out _ _ HB4.out hN
  | true =>
  rw [if_pos rfl]
  obtain ⟨⟨z0, z1, z2, z3⟩, f0, f1, f2⟩ := HR.out.keep HB4.out HLT.out.2.2
  obtain ⟨x0, x1, x2, x3⟩ := HA.out.below HB4.out
  obtain ⟨y0, y1, y2, y3, y4⟩ := HE.out.below HB4.out
  by_cases h1 : lg < sl
  · have hN := ap_no HM.out (app_log (s := (ss, sl, sn)) (e := (ts, zs, lg, nx)) h1)
    have HNO := Lib.hid hN
    clear hN
    go_wp2_with fail
    try simp only [Exit.inBlock, Exit.then]
    refine bodyPost_ret (v := .tuple #[.agg #[.slice none 0 0, .int .i64 0, .int .i64 0], .int .i64 120]) (by simp [results, Try.results18, go_sem, z0, z1, z2, z3]) rfl ?_
    exact HZERO.out _ _ HB4.out HNO.out
  by_cases h2 : nx < sn
  · have hN := ap_no HM.out (app_next (s := (ss, sl, sn)) (e := (ts, zs, lg, nx)) h2)
    have HNO := Lib.hid hN
    clear hN
    go_wp2_with fail
    try simp only [Exit.inBlock, Exit.then]
    refine bodyPost_ret (v := .tuple #[.agg #[.slice none 0 0, .int .i64 0, .int .i64 0], .int .i64 120]) (by simp [results, Try.results18, go_sem, z0, z1, z2, z3]) rfl ?_
    exact HZERO.out _ _ HB4.out HNO.out
  have CG := Lib.hid (changed_any a n cap ss _ _ _ (HST.out.old HB4.out) HOK.out HN.out HS.out.ids HS.out.may (HEV.out.old HB4.out) HM.out)
  go_upto_region 6 with (go_at_call 42; refine CG.out.mono ?_; rintro e w5 ⟨hb5, hres⟩; have HB5 := Lib.hid hb5; have HRES := Lib.hid hres; clear hb5 hres CG; have hpick := HRES.out; rcases hpick with ⟨hft, v, base, rfl, hbs, hbe, hrow⟩ | ⟨hft, v, rfl⟩)
  rotate_left
  · have hN := ap_no HM.out (app_fit (s := (ss, sl, sn)) (e := (ts, zs, lg, nx)) hft)
    have HNO := Lib.hid hN
    have HBZ := Lib.hid (HB4.out.trans (HB5.out.mono HB4.out.size))
    clear hN hft HRES z0 z1 z2 z3 f0 f1 f2 x0 x1 x2 x3 y0 y1 y2 y3 y4
    obtain ⟨⟨z0, z1, z2, z3⟩, f0, f1, f2⟩ := HR.out.keep HBZ.out HLT.out.2.2
    go_wp2_with fail
    try simp only [Exit.inBlock, Exit.then]
    refine bodyPost_ret (v := .tuple #[.agg #[.slice none 0 0, .int .i64 0, .int .i64 0], .int .i64 120]) (by simp [results, Try.results18, go_sem, z0, z1, z2, z3]) rfl ?_
    exact HZERO.out _ _ HBZ.out HNO.out
  have HBZ := Lib.hid (HB4.out.trans (HB5.out.mono HB4.out.size))
  have hkn : (keptT ss zs ++ ts).length ≤ 100000 := by
    rw [List.length_append]
    have h1 := (kept_sub ss zs).length_le
    have h2 := (mayEd_iff.1 HM.out).1
    have h3 := HN.out
    simp only at h2
    omega
  obtain ⟨a', cap', rfl, hcall⟩ := sortTab_any base v _ w5 hbe hkn hrow
  have HCALL := Lib.hid hcall
  have HFAR := Lib.hid (own_far hrow)
  have HFT := Lib.hid hft
  have HKN := Lib.hid hkn
  have HBS := Lib.hid hbs
  have HBE := Lib.hid hbe
  have HBL : Hid (w3.heap.size ≤ base) := Lib.hid (by have := HB4.out.size; omega)
  clear hcall hrow hft hkn hbs hbe HRES z0 z1 z2 z3 f0 f1 f2 x0 x1 x2 x3 y0 y1 y2 y3 y4
  obtain ⟨NL, hNL⟩ : ∃ NL, NL = (keptT ss zs ++ ts).length := ⟨_, rfl⟩
  rw [← hNL] at HCALL HKN ⊢
  have HNL := Lib.hid hNL
  clear hNL
  go_wp2_with fail
  refine HCALL.out.mono ?_
  rintro e w6 ⟨rfl, L, hp, hw, hst, hb6⟩
  have HP := Lib.hid hp
  have HW := Lib.hid hw
  have HST6 := Lib.hid hst
  have HB6 := Lib.hid hb6
  have HAP := Lib.hid (apart_any _ _ _ _ _ hst HKN.out)
  have HBQ := Lib.hid (HBZ.out.trans (hb6.mono HBL.out))
  obtain ⟨c, hc⟩ : ∃ c, nearT L = c := ⟨_, rfl⟩
  rw [hc] at HAP
  have HCC := Lib.hid hc
  clear hp hw hst hb6 HCALL hc
  go_wp2_with fail
  refine HAP.out.mono ?_
  rintro e w7 ⟨rfl, hb7⟩
  have HB7 := Lib.hid hb7
  have HB37 := Lib.hid (HBQ.out.trans (hb7.mono (HBQ.out.size)))
  have hne := near_next HS.out HM.out HFT.out HP.out HW.out
  have HNE := Lib.hid hne
  clear hne HAP hb7
  obtain ⟨⟨z0, z1, z2, z3⟩, f0, f1, f2⟩ := HR.out.keep HB37.out HLT.out.2.2
  obtain ⟨y0, y1, y2, y3, y4⟩ := HE.out.keep HB37.out HLT.out.2.1
  cases c with
  | false =>
    have hN := ap_no HM.out (app_apt (s := (ss, sl, sn)) (e := (ts, zs, lg, nx)) (fun q => by have := HNE.out.1.2 q; rw [HCC.out] at this; cases this))
    have HNO := Lib.hid hN
    clear hN
    go_wp2_with fail
    try simp only [Exit.inBlock, Exit.then]
    refine bodyPost_ret (v := .tuple #[.agg #[.slice none 0 0, .int .i64 0, .int .i64 0], .int .i64 120]) (by simp [results, Try.results18, go_sem, z0, z1, z2, z3]) rfl ?_
    exact HZERO.out _ _ HB37.out HNO.out
  | true =>
    have hN := ap_yes HM.out (app_all (s := (ss, sl, sn)) (e := (ts, zs, lg, nx)) (by show ¬ lg < sl; omega) (by show ¬ nx < sn; omega) HFT.out (HNE.out.1.1 HCC.out))
    have HNO := Lib.hid hN
    have hLe : L = nextT ss (ts, zs, lg, nx) := HNE.out.2 HCC.out
    have HLe := Lib.hid hLe
    have hmy : okT L := fun t ht => okTb_may (all_may HS.out HM.out t (HP.out.mem_iff.1 ht))
    have HMY := Lib.hid hmy
    have HFX : Hid (∀ y, a' = some y → y.block ≠ xc) := Lib.hid fun y hy => by have q1 := HFAR.out y hy; have q2 := HBL.out; have q3 := HLT.out.2.2; omega
    clear hN hLe hmy
    go_wp2_with fail
    try simp only [Exit.inBlock, Exit.then]
    refine bodyPost_ret (v := .tuple #[.agg #[.slice a' NL cap', .int .i64 lg, .int .i64 nx], .int .i64 0]) (by simp [results, Try.results18, go_sem, z0, z1, z2, z3]) rfl ?_
    refine ⟨_, by rw [HNO.out.1], ?_, HFIN.out _ _ _ _ HB37.out⟩
    rw [HNO.out.2]
    have h7 := HST6.out.old HB7.out
    rw [HLe.out] at h7
    have hm := HMY.out
    rw [HLe.out] at hm
    exact ⟨a', NL, cap', rfl, ((h7.set HFX.out).set HFX.out).set HFX.out, hm⟩
end Go.Proofs.Ytkpemlgolpihiaa
