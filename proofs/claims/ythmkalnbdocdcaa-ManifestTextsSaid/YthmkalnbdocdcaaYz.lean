/-
  Layer 12 (manifest): what an edit does to tables, by number: the contract of doings (a map from int to int).
-/
import Derived.Test.YthmkalnbdocdcaaYx
import Derived.Maps.OwnOps
import Derived.Maps.Views
namespace Go.Proofs.Ythmkalnbdocdcaa
set_option maxRecDepth 100000
open Go.RowKit Go.Maps Go.WideShapes
set_option linter.unusedVariables false
set_option linter.unusedSimpArgs false

/-- A map from int to int that gives f. -/
def DM (w : World) (b n : Nat) (f : Int → Int) : Prop := ∃ D : DataW Unit, w.ownsMap Try.prog 3 (plainElem Try.prog 3) b n D ∧ Maps.IsMap D ∧ ∀ k : Int, D.atKey (.int .i64 k) (.lit (.int .i64 0)) = .lit (.int .i64 (f k))
theorem put_int {D : DataW Unit} (h : Maps.IsMap D) {f : Int → Int} (hf : ∀ k : Int, D.atKey (.int .i64 k) (.lit (.int .i64 0)) = .lit (.int .i64 (f k))) (x v : Int) :
    Maps.IsMap (D.put (.int .i64 x) (.lit (.int .i64 v))) ∧ ∀ k : Int, (D.put (.int .i64 x) (.lit (.int .i64 v))).atKey (.int .i64 k) (.lit (.int .i64 0)) = .lit (.int .i64 (if k = x then v else f k)) := by
  refine ⟨h.put _ _, fun k => ?_⟩
  by_cases hk : k = x
  · subst hk
    rw [if_pos rfl]
    exact atKey_put_same (k := .int .i64 k) h (show WideAt.IsKeyLit (.int .i64 k) from trivial) _ _
  · rw [if_neg hk, ← hf k]
    exact atKey_put_other (fun e => hk (by injection e)) _ _
theorem law_int : Keyed Try.prog 3 := int_keyed Try.underlying3
theorem zero_int (w : World) : (zeroValue 3).run Try.prog w = .ok (.int .i64 0) w := by kernel_rfl
theorem wf_small {x : Int} (h : 0 ≤ x ∧ x ≤ 1073741824) : (Lit.int .i64 x).wf = true := by
  have h1 : IntKind.i64.min = -9223372036854775808 := rfl
  have h2 : IntKind.i64.max = 9223372036854775807 := rfl
  simp [Lit.wf]
  omega
theorem key_int {x : Int} (h : 0 ≤ x ∧ x ≤ 1073741824) : keyOf Try.prog 3 (.int .i64 x) = some (.int .i64 x) := keyOf_int_mk Try.underlying3 (wf_small h)
theorem elem_int (v : Int) (h : 0 ≤ v ∧ v ≤ 2) : plainElem (H := Unit) Try.prog 3 (.int .i64 v) = some (.lit (.int .i64 v), []) := plainElem_int Try.underlying3 (wf_small ⟨h.1, by omega⟩)
theorem DM.made (w : World) : DM (w.alloc (.map #[] 0)) w.heap.size 0 (fun _ => 0) := ⟨_, World.ownsMap_made _ _ _ _, isMap_empty, fun _ => rfl⟩
theorem DM.alloc {w : World} {b n : Nat} {f : Int → Int} (h : DM w b n f) (o : Obj) : DM (w.alloc o) b n f := let ⟨D, a, c, d⟩ := h; ⟨D, a.alloc o, c, d⟩
/-- What an edit does to the table of a number. -/
def dz (l : List Int) (k : Int) : Int := if k ∈ l then 2 else 0
def da (us : List Int) (l : List Int) (k : Int) : Int := if k ∈ us then 1 else dz l k
/-- No two things to one, and what comes is below the next number. -/
def doB (e : Ed) : Bool := decide e.2.1.Nodup && decide (e.1.map (·.1)).Nodup && e.1.all (fun t => !e.2.1.contains t.1 && decide (t.1 < e.2.2.2))
theorem doB_iff {e : Ed} : doB e = true ↔ e.2.1.Nodup ∧ (e.1.map (·.1)).Nodup ∧ ∀ t ∈ e.1, ¬ t.1 ∈ e.2.1 ∧ t.1 < e.2.2.2 := by
  unfold doB; simp [and_assoc]
theorem dz_snoc (l : List Int) (x : Int) : (fun k => if k = x then 2 else dz l k) = dz (l ++ [x]) := by
  funext k
  unfold dz
  by_cases h : k = x
  · subst h; simp
  · simp [h]
theorem da_snoc (us l : List Int) (x : Int) : (fun k => if k = x then 1 else da us l k) = da (us ++ [x]) l := by
  funext k
  unfold da
  by_cases h : k = x
  · subst h; simp
  · simp [h]
theorem nd_snoc {l : List Int} {x : Int} : (l ++ [x]).Nodup ↔ l.Nodup ∧ ¬ x ∈ l := by
  rw [List.nodup_append]
  constructor
  · rintro ⟨a, b, c⟩; exact ⟨a, fun h => c x h x (by simp) rfl⟩
  · rintro ⟨a, b⟩; exact ⟨a, by simp, fun p hp q hq h => b (by simp at hq; subst hq; rw [← h]; exact hp)⟩
theorem EdBox.keep {w w' : World} {x m : Nat} {A D : Value} {lg nx : Int} (h : EdBox w x A D lg nx) (hb : Below m w w') (hx : x < m) : EdBox w' x A D lg nx :=
  ⟨(hb.cell (p := ⟨x, 0, none⟩) hx).trans h.1, (hb.cell (p := ⟨x, 1, none⟩) hx).trans h.2.1, (hb.cell (p := ⟨x, 2, none⟩) hx).trans h.2.2.1, (hb.cell (p := ⟨x, 3, none⟩) hx).trans h.2.2.2.1, Nat.lt_of_lt_of_le h.2.2.2.2 hb.size⟩
theorem DM.mono {w : World} {b n m : Nat} {f : Int → Int} (h : DM w b n f) (hn : n ≤ m) : DM w b m f := let ⟨D, a, c, d⟩ := h; ⟨D, a.mono hn, c, d⟩
def DoP (w : World) (r : Bool) (f : Int → Int) (x : Ending) (w' : World) : Prop := Below w.heap.size w w' ∧
    ((r = true ∧ ∃ b, x = .returned (.tuple #[.map (some b), .bool true]) ∧ w.heap.size ≤ b ∧ DM w' b 256 f) ∨ (r = false ∧ x = .returned (.tuple #[.map none, .bool false])))
theorem at_num {D : DataW Unit} {f : Int → Int} {x c v : Int} (hf : Hid (∀ k : Int, D.atKey (.int .i64 k) (.lit (.int .i64 0)) = .lit (.int .i64 (f k)))) (hv : f x = v) (hat : D.atKey (.int .i64 x) (.lit (.int .i64 0)) = .lit (.int .i64 c)) : c = v := by
  have q := hat.symm.trans (hf.out x)
  rw [hv] at q
  injection q with q
  injection q
set_option maxRecDepth 1000000 in
set_option maxHeartbeats 16000000 in
theorem doings_any (V : Value) (e : Ed) (w : World) (h : EV w V e) (hm : mayEd e = true) : Calls Try.prog 65 #[V] w (DoP w (doB e) (da (e.1.map (·.1)) e.2.1)) := by
  obtain ⟨aa, an, ac, da', dn, dc, rfl, hst, hsz, hok⟩ := h
  obtain ⟨ts, zs, lg, nx⟩ := e
  obtain ⟨b, off, ha, hb, hc⟩ := hst.2.1.at_
  obtain ⟨b2, off2, ha2, hb2, hc2⟩ := hsz.2.1.at_
  obtain ⟨m1, m2, m3, m4, m5, m6⟩ := mayEd_iff.1 hm
  simp only at *
  have hl := hst.1
  have hl2 := hsz.1
  rw [hl] at ha hb m1
  rw [hl2] at ha2 hb2 m2
  obtain ⟨r, hr⟩ : ∃ r, doB (ts, zs, lg, nx) = r := ⟨_, rfl⟩
  rw [hr]
  have HR := Lib.hid hr
  have HC := Lib.hid hc
  have HC2 := Lib.hid hc2
  have HL := Lib.hid hl
  have HL2 := Lib.hid hl2
  have HM3 := Lib.hid m3
  have HM4 := Lib.hid m4
  have HB0 := Lib.hid (box_bel w (.cells #[.slice aa an ac, .slice da' dn dc, .int .i64 lg, .int .i64 nx] 25))
  have bx := EdBox.new w 25 (.slice aa an ac) (.slice da' dn dc) lg nx
  obtain ⟨F, hF⟩ : ∃ F, F = da (ts.map (·.1)) zs := ⟨_, rfl⟩
  rw [← hF]
  have HF := Lib.hid hF
  clear hr hc hc2 hl hl2 m3 m4 hst hsz hok hm hF
  have hmm := @run_makeMap Try.prog
  go_enter Try.func65, Try.ntmps65
  go_upto_region 1 with fail
  obtain ⟨wb, hwb⟩ : ∃ wb, wb = w.alloc (.cells #[.slice aa an ac, .slice da' dn dc, .int .i64 lg, .int .i64 nx] 25) := ⟨_, rfl⟩
  rw [← hwb] at HB0 bx ⊢
  obtain ⟨xb, hxb⟩ : ∃ xb, xb = w.heap.size := ⟨_, rfl⟩
  rw [← hxb] at bx ⊢
  have HXB := Lib.hid hxb
  clear hwb hxb
  have HXL := Lib.hid (show xb < wb.heap.size from bx.2.2.2.2)
  have HMB := Lib.hid (And.intro (DM.made wb) (box_bel wb (.map #[] 0)))
  have hwsb : wb.heap.size < (wb.alloc (.map #[] 0)).heap.size := by simp [go_sem]
  have BX := Lib.hid (bx.below (box_bel wb (.map #[] 0)))
  go_upto_region 2 with fail
  have hmbw : wb.heap.size ≤ wb.heap.size := Nat.le_refl _
  obtain ⟨mb, hmb⟩ : ∃ mb, mb = wb.heap.size := ⟨_, rfl⟩
  rw [← hmb] at HMB hwsb ⊢
  have HWB := Lib.hid (show mb = wb.heap.size from hmb)
  generalize wb.alloc (.map #[] 0) = wm at *
  have HBM := Lib.hid (HB0.out.trans (HMB.out.2.mono (by rw [← HWB.out] at *; have := HB0.out.size; omega)))
  have HXM := Lib.hid (show w.heap.size ≤ mb by rw [hmb]; exact HB0.out.size)
  clear hmb hmbw
  obtain ⟨y0, y1, y2, y3, y4⟩ := BX.out
  go_upto_region 3 with fail
  go_loopw [13] (fun i wr => ∃ k : Nat, i = .int .i64 k ∧ k ≤ dn ∧ Hid ((zs.take k).Nodup ∧ DM wr mb k (dz (zs.take k))) ∧ Hid (Below mb wm wr)) (fun i _ => dn - (intOf i).toNat)
  case atStart => exact ⟨0, rfl, by omega, Lib.hid ⟨by simp, HMB.out.1⟩, Lib.hid (Below.refl _ _)⟩
  case round =>
    obtain ⟨k, rfl, hk, HK, HW⟩ := hrel
    have hws : mb ≤ wr.heap.size := by have := HW.out.size; omega
    have HBR := Lib.hid (HBM.out.trans (HW.out.mono HXM.out))
    by_cases hlt : k < dn
    · have hki : (k : Int) < (dn : Int) := by omega
      obtain rfl := ha2 (by omega)
      have hbw := hb2 (by omega)
      have hkl : k < zs.length := by rw [HL2.out]; exact hlt
      have g0 := HC2.out.old hbw HBR.out k hkl
      have hbr : b2 < wr.heap.size := Nat.lt_of_lt_of_le hbw HBR.out.size
      have hEm := HM4.out _ (List.getElem_mem hkl)
      have hs : zs.take (k + 1) = zs.take k ++ [zs[k]] := List.take_succ_eq_append_getElem hkl
      have hnd : zs.Nodup → (zs.take (k + 1)).Nodup := fun h => (List.take_sublist _ _).nodup h
      obtain ⟨E, hE⟩ : ∃ E, E = zs[k] := ⟨_, rfl⟩
      rw [← hE] at g0 hEm hs
      have HE := Lib.hid (show 0 ≤ E ∧ E ≤ 1073741824 by omega)
      obtain ⟨D, hown, hism, hf⟩ := HK.out.2
      have HO := Lib.hid hown
      have HFD := Lib.hid hf
      have HI := Lib.hid hism
      have HS := Lib.hid hs
      have HND := Lib.hid hnd
      clear hE hEm hs hown hism hf hnd
      by_cases hin : E ∈ zs.take k
      · have HZ := Lib.hid (show dz (zs.take k) E = 2 from if_pos hin)
        obtain rfl : r = false := by
          rw [← HR.out]
          refine Bool.eq_false_iff.2 fun h => ?_
          have h1 := HND.out (doB_iff.1 h).1
          rw [HS.out] at h1
          exact (nd_snoc.1 h1).2 hin
        clear hin HK
        go_wp2_with (first | (at_lookup; refine wpList_lookup_own_int _ rfl _ _ 94 rfl 3 3 .i64 law_int Try.underlying94 Try.underlying3 (zero_int _) mb k D rfl HO.out _ _ rfl (key_int HE.out) ?_; intro c hat hwc; obtain rfl := at_num HFD HZ.out hat; clear hat hwc) | go_in)
        go_ret2
        exact ⟨HBR.out, .inr ⟨rfl, rfl⟩⟩
      · have HZ := Lib.hid (show dz (zs.take k) E = 0 from if_neg hin)
        have HN := Lib.hid (show (zs.take (k + 1)).Nodup by rw [HS.out]; exact nd_snoc.2 ⟨HK.out.1, hin⟩)
        clear hin HK
        go_wp2_with (first | (at_lookup; refine wpList_lookup_own_int _ rfl _ _ 94 rfl 3 3 .i64 law_int Try.underlying94 Try.underlying3 (zero_int _) mb k D rfl HO.out _ _ rfl (key_int HE.out) ?_; intro c hat hwc; obtain rfl := at_num HFD HZ.out hat; clear hat hwc) | (at_mapUpdate; refine wpList_mapUpdate_own _ rfl _ _ _ 94 rfl 3 3 law_int Try.underlying94 _ mb k D rfl HO.out (by unfold maxLen; omega) _ _ _ rfl rfl (key_int HE.out) _ [] (elem_int 2 (by omega)) ?_; intro w1 hown1 hgrow1) | go_in)
        go_roundw
        case rel =>
          refine ⟨k + 1, by go_num, by omega, Lib.hid ⟨HN.out, ?_⟩, Lib.hid (HW.out.grown hgrow1 hws (fun j hj => by cases hj; exact Nat.le_refl _))⟩
          have hp := put_int HI.out HFD.out E 2
          rw [HS.out, ← dz_snoc]
          exact ⟨_, hown1, hp.1, hp.2⟩
        case measure => simp [intOf]; omega
    · obtain rfl : dn = k := by omega
      have HK1 := Lib.hid (show zs.Nodup ∧ DM wr mb dn (da [] zs) by
        have := HK.out
        rw [← HL2.out, List.take_length] at this
        rw [← HL2.out]
        exact this)
      clear HK
      have hxm : xb < mb := by have := HXL.out; have := HWB.out; omega
      obtain ⟨z0, z1, z2, z3, z4⟩ := BX.out.keep HW.out hxm
      clear y0 y1 y2 y3 y4
      have HW0 := HW
      have HK0 := HK1
      clear HW HBR
      go_upto_region 10 with fail
      rename_i wq
      go_loopw [27] (fun i wr => ∃ k : Nat, i = .int .i64 k ∧ k ≤ an ∧ Hid (((ts.take k).map (·.1)).Nodup ∧ (∀ t ∈ ts.take k, ¬ t.1 ∈ zs ∧ t.1 < nx) ∧ DM wr mb (k + dn) (da ((ts.take k).map (·.1)) zs)) ∧ Hid (Below mb wm wr)) (fun i _ => an - (intOf i).toNat)
      case atStart => exact ⟨0, rfl, by omega, Lib.hid ⟨by simp, by simp, by rw [Nat.zero_add]; exact HK0.out.2⟩, HW0⟩
      case round =>
        obtain ⟨k, rfl, hk, HK, HW⟩ := hrel
        have hws : mb ≤ wr.heap.size := by have := HW.out.size; omega
        have HBR := Lib.hid (HBM.out.trans (HW.out.mono HXM.out))
        by_cases hlt : k < an
        · have hki : (k : Int) < (an : Int) := by omega
          obtain rfl := ha (by omega)
          have hbw := hb (by omega)
          have hkl : k < ts.length := by rw [HL.out]; exact hlt
          obtain ⟨g0, g1, g2, g3⟩ := HC.out.old hbw HBR.out k hkl
          have hbr : b < wr.heap.size := Nat.lt_of_lt_of_le hbw HBR.out.size
          have hin := List.getElem_mem hkl
          have hEm := (mayT_iff.1 (HM3.out _ hin)).1
          have hs : ts.take (k + 1) = ts.take k ++ [ts[k]] := List.take_succ_eq_append_getElem hkl
          have hnd : (ts.map (·.1)).Nodup → ((ts.take (k + 1)).map (·.1)).Nodup := fun h => ((List.take_sublist _ _).map _).nodup h
          obtain ⟨E, hE⟩ : ∃ E, E = ts[k] := ⟨_, rfl⟩
          rw [← hE] at g0 g1 g2 g3 hEm hs hin
          obtain ⟨x1, x2, x3, x4⟩ := E
          simp only at g0 g1 g2 g3 hEm
          have HE := Lib.hid (show 0 ≤ x1 ∧ x1 ≤ 1073741824 by omega)
          have hsm : (ts.take (k + 1)).map (·.1) = (ts.take k).map (·.1) ++ [x1] := by rw [hs, List.map_append]; rfl
          obtain ⟨D, hown, hism, hf⟩ := HK.out.2.2
          have HO := Lib.hid (hown.alloc (.cells #[.int .i64 x1, .int .i64 x2, .string x3, .string x4] 49))
          have HFD := Lib.hid hf
          have HI := Lib.hid hism
          have HS := Lib.hid hs
          have HSM := Lib.hid hsm
          have HND := Lib.hid hnd
          have HIN := Lib.hid hin
          have HAL := Lib.hid (box_bel wr (.cells #[.int .i64 x1, .int .i64 x2, .string x3, .string x4] 49))
          have HT := Lib.hid (TBox.new wr 49 (x1, x2, x3, x4))
          have bz := (BX.out.keep HW.out hxm).below HAL.out
          obtain ⟨tb, htb⟩ : ∃ tb, tb = wr.heap.size := ⟨_, rfl⟩
          clear hE hEm hs hsm hown hism hf hnd hin
          clear z0 z1 z2 z3 z4
          go_upto_region 12 with fail
          rw [← htb] at HT ⊢
          clear htb g0 g1 g2 g3 hbr
          have hwa := HAL.out.size
          generalize wr.alloc (.cells #[.int .i64 x1, .int .i64 x2, .string x3, .string x4] 49) = wa at *
          obtain ⟨t0, t1, t2, t3, t4⟩ := HT.out
          obtain ⟨z0, z1, z2, z3, z4⟩ := bz
          simp only at t0 t1 t2 t3
          clear HT
          by_cases h1 : x1 ∈ (ts.take k).map (·.1)
          · have HZ := Lib.hid (show da ((ts.take k).map (·.1)) zs x1 = 1 from if_pos h1)
            obtain rfl : r = false := by
              rw [← HR.out]
              refine Bool.eq_false_iff.2 fun h => ?_
              have q := HND.out (doB_iff.1 h).2.1
              rw [HSM.out] at q
              exact (nd_snoc.1 q).2 h1
            clear h1 HK
            go_wp2_with (first | (at_lookup; refine wpList_lookup_own_int _ rfl _ _ 94 rfl 3 3 .i64 law_int Try.underlying94 Try.underlying3 (zero_int _) mb (k + dn) D rfl HO.out _ _ rfl (key_int HE.out) ?_; intro c hat hwc; obtain rfl := at_num HFD HZ.out hat; clear hat hwc) | go_in)
            go_ret2
            exact ⟨HBR.out.trans (HAL.out.mono HBR.out.size), .inr ⟨rfl, rfl⟩⟩
          by_cases h2 : x1 ∈ zs
          · have HZ := Lib.hid (show da ((ts.take k).map (·.1)) zs x1 = 2 by unfold da dz; rw [if_neg h1, if_pos h2])
            obtain rfl : r = false := by
              rw [← HR.out]
              exact Bool.eq_false_iff.2 fun h => ((doB_iff.1 h).2.2 _ HIN.out).1 h2
            clear h1 h2 HK
            go_wp2_with (first | (at_lookup; refine wpList_lookup_own_int _ rfl _ _ 94 rfl 3 3 .i64 law_int Try.underlying94 Try.underlying3 (zero_int _) mb (k + dn) D rfl HO.out _ _ rfl (key_int HE.out) ?_; intro c hat hwc; obtain rfl := at_num HFD HZ.out hat; clear hat hwc) | go_in)
            go_ret2
            exact ⟨HBR.out.trans (HAL.out.mono HBR.out.size), .inr ⟨rfl, rfl⟩⟩
          have HZ := Lib.hid (show da ((ts.take k).map (·.1)) zs x1 = 0 by unfold da dz; rw [if_neg h1, if_neg h2])
          by_cases h3 : nx ≤ x1
          · obtain rfl : r = false := by
              rw [← HR.out]
              refine Bool.eq_false_iff.2 fun h => ?_
              have := ((doB_iff.1 h).2.2 _ HIN.out).2
              simp only at this
              omega
            clear h1 h2 HK
            go_wp2_with (first | (at_lookup; refine wpList_lookup_own_int _ rfl _ _ 94 rfl 3 3 .i64 law_int Try.underlying94 Try.underlying3 (zero_int _) mb (k + dn) D rfl HO.out _ _ rfl (key_int HE.out) ?_; intro c hat hwc; obtain rfl := at_num HFD HZ.out hat; clear hat hwc) | go_in)
            go_ret2
            exact ⟨HBR.out.trans (HAL.out.mono HBR.out.size), .inr ⟨rfl, rfl⟩⟩
          · have HN := Lib.hid (show ((ts.take (k + 1)).map (·.1)).Nodup by rw [HSM.out]; exact nd_snoc.2 ⟨HK.out.1, h1⟩)
            have HA := Lib.hid (show ∀ t ∈ ts.take (k + 1), ¬ t.1 ∈ zs ∧ t.1 < nx by
              intro t ht
              rw [HS.out] at ht
              rcases List.mem_append.1 ht with ht | ht
              · exact HK.out.2.1 t ht
              · obtain rfl := List.mem_singleton.1 ht
                exact ⟨h2, by show x1 < nx; omega⟩)
            clear h1 h2 HK
            go_wp2_with (first | (at_lookup; refine wpList_lookup_own_int _ rfl _ _ 94 rfl 3 3 .i64 law_int Try.underlying94 Try.underlying3 (zero_int _) mb (k + dn) D rfl HO.out _ _ rfl (key_int HE.out) ?_; intro c hat hwc; obtain rfl := at_num HFD HZ.out hat; clear hat hwc) | (at_mapUpdate; refine wpList_mapUpdate_own _ rfl _ _ _ 94 rfl 3 3 law_int Try.underlying94 _ mb (k + dn) D rfl HO.out (by unfold maxLen; omega) _ _ _ rfl rfl (key_int HE.out) _ [] (elem_int 1 (by omega)) ?_; intro w1 hown1 hgrow1) | go_in)
            go_roundw
            case rel =>
              refine ⟨k + 1, by go_num, by omega, Lib.hid ⟨HN.out, HA.out, ?_⟩, Lib.hid ((HW.out.trans (HAL.out.mono hws)).grown hgrow1 (by omega) (fun j hj => by cases hj; exact Nat.le_refl _))⟩
              have hp := put_int HI.out HFD.out x1 1
              rw [HSM.out, ← da_snoc]
              rw [show k + 1 + dn = k + dn + 1 by omega]
              exact ⟨_, hown1, hp.1, hp.2⟩
            case measure => simp [intOf]; omega
        · obtain rfl : an = k := by omega
          have HE := HK.out
          rw [← HL.out, List.take_length] at HE
          obtain rfl : r = true := by
            rw [← HR.out]
            exact doB_iff.2 ⟨HK0.out.1, HE.1, HE.2.1⟩
          have HFIN := Lib.hid (show DM wr mb 256 F by rw [HF.out]; exact HE.2.2.mono (by have := HL.out; omega))
          clear HE HK
          go_wp2_with fail
          go_ret2
          exact ⟨HBR.out, .inl ⟨rfl, mb, rfl, HXM.out, HFIN.out⟩⟩
end Go.Proofs.Ythmkalnbdocdcaa
