/-
  Layer 9 (block), the contract of the document's own Put. Conditions: texts within the reach.
-/
import Derived.Test.YtobhjmkaamjoeaaGreatKr
import Derived.Test.YtobhjmkaamjoeaaGreatKq
namespace Go.Proofs.YtobhjmkaamjoeaaGreat
set_option maxRecDepth 100000
open Go.RowKit
set_option linter.unusedVariables false
set_option linter.unusedSimpArgs false

theorem rnum_any (z : Int) (n : Nat) (hz : z = (n : Int)) (hn : n ≤ 4611686018427387904) (w : World) :
    Calls Tryz.prog 57 #[.int .i64 z] w fun e w' => e = .returned (.string ⟨(vL n).toArray⟩) ∧ Below w.heap.size w w' := by
  subst hz
  go_enter Tryz.func57, Tryz.ntmps57
  go_wp2_with fail
  refine (put_ref n _ hn).mono ?_
  rintro e w1 ⟨rfl, b1⟩
  go_wp2
  go_ret
  exact ⟨rfl, b1⟩
theorem rtext_any (s : ByteArray) (hs : s.size ≤ 262144) (w : World) :
    Calls Tryz.prog 59 #[.string s] w fun e w' => e = .returned (.string ⟨(txL s.data.toList).toArray⟩) ∧ Below w.heap.size w w' := by
  go_enter Tryz.func59, Tryz.ntmps59
  go_wp2_with fail
  refine (text_ref s _ hs).mono ?_
  rintro e w1 ⟨rfl, b1⟩
  go_wp2
  go_ret
  exact ⟨rfl, b1⟩
theorem rput9_no (a : Option Addr) (n cap : Nat) (es : List Ent) (w : World) (hn : n ≤ 9223372036854775807) (hl : es.length = n) (h : RdE w a es) (hok : okV es) (hr : okB es = false) :
    Calls Tryz.prog 23 #[.slice a n cap] w (PU es w) := by
  have HC := Lib.hid (rchk9_any a n cap es w hn hl h hok _ hr)
  have HR := Lib.hid hr
  clear hl h hok hr
  go_enter Tryz.func23, Tryz.ntmps23
  go_wp2_with fail
  refine HC.out.mono ?_
  rintro e w1 ⟨rfl, b1⟩
  rw [show chkV false = 1 from rfl]
  go_wp2
  go_ret2
  exact PU.no HR.out rfl b1
/-- The bytes l in a row of the call's own. -/
def OB (B : Nat) (w : World) (v : Value) (l : List UInt8) : Prop := w.ownsRow B 5 1 v l.length (Lib.byteCells l)
theorem OB.more {B : Nat} {w : World} {v : Value} {l x : List UInt8} (h : w.ownsRow B 5 1 v (l.length + (⟨x.toArray⟩ : ByteArray).size) (Lib.byteCells l ++ Lib.strCells ⟨x.toArray⟩)) : OB B w v (l ++ x) := by
  unfold OB
  rw [bcells, size_mkl] at h
  simpa using h
set_option maxRecDepth 100000 in
set_option maxHeartbeats 8000000 in
theorem rput9_yes (b off n cap : Nat) (es : List Ent) (w : World) (hl : es.length = n) (hb : 0 < n → b < w.heap.size) (hc : EAt w b off es) (a : Option Addr) (ha : 0 < n → a = some ⟨b, off, none⟩) (h : RdE w a es) (hok : okV es) (hr : okB es = true) :
    Calls Tryz.prog 23 #[.slice a n cap] w (PU es w) := by
  obtain ⟨i0, hi, hz0, hz1, hz2⟩ := info_parts Tryz.infoU8k
  have hn : n ≤ 4096 := by
    unfold okB at hr
    simp only [Bool.and_eq_true, decide_eq_true_eq] at hr
    omega
  have hmay : ∀ e ∈ es, mayE e = true := by
    unfold okB at hr
    simp only [Bool.and_eq_true, decide_eq_true_eq] at hr
    exact chain_may hr.2
  have HK := Lib.hid (rchk9_any a n cap es w (by omega) hl h hok _ hr)
  have HC := Lib.hid hc
  have HL := Lib.hid hl
  have HO := Lib.hid hmay
  have HR := Lib.hid hr
  clear hc hl hok hr h hmay
  go_enter Tryz.func23, Tryz.ntmps23
  go_wp2_with fail
  refine HK.out.mono ?_
  rintro e w1 ⟨rfl, b1⟩
  rw [show chkV true = 0 from rfl]
  have HB1 := Lib.hid b1
  clear b1 HK
  go_wp2_with fail
  refine (rnum_any n n rfl (by omega) _).mono ?_
  rintro e w2 ⟨rfl, b2⟩
  have HB2 := Lib.hid (bt HB1.out b2)
  have hs2 := HB2.out.size
  have hv9 : (⟨(vL n).toArray⟩ : ByteArray).size ≤ 9 := by rw [size_mkl]; exact vL_len9 (by omega)
  clear b2
  go_wp2_with (at_builtin; refine Lib.wpList_append_own_string _ rfl _ _ 49 9 rfl w.heap.size 5 i0 Tryz.underlying49 Tryz.underlying9 hi hz0 hz1 hz2 (.slice none 0 0) ([] : List UInt8).length (Lib.byteCells []) rfl (World.ownsRow_nil _ _ _ _) ⟨(vL n).toArray⟩ rfl (by unfold maxLen; simp only [List.length_nil]; omega) (by simp only [List.length_nil]; omega) hs2 ?_)
  intro v3 w3 own3 gr3 _
  have HB3 := Lib.hid (HB2.out.grown gr3 hs2 (fun k hk => by simp [Value.ownBlock] at hk))
  have HO3 : Hid (OB w.heap.size w3 v3 (vL n)) := Lib.hid (by unfold OB; have h := own3; rw [bcells] at h; exact h)
  clear own3 gr3 HB2 hs2
  go_wp2
  go_loopw [5, 6, 7] (fun v t i wr => ∃ k : Nat, i = .int .i64 k ∧ k ≤ n ∧ t = .string ⟨(keyL [] (es.take k)).toArray⟩ ∧ Hid (OB w.heap.size wr v (vL n ++ bodyB [] (es.take k))) ∧ Hid (Below w.heap.size w wr)) (fun _ _ i _ => n - (intOf i).toNat)
  case atStart => exact ⟨0, rfl, by omega, rfl, Lib.hid (by simpa [bodyB] using HO3.out), HB3⟩
  case round =>
    obtain ⟨k, rfl, hk, rfl, HD, HW⟩ := hrel
    by_cases hlt : k < n
    · obtain rfl := ha (by omega)
      have hbw := hb (by omega)
      have hkl : k < es.length := by rw [HL.out]; exact hlt
      have hki : (k : Int) < (n : Int) := by omega
      have hWs := HW.out.size
      have HG : Hid (∀ wx, Below w.heap.size w wx → (wx.cell? ⟨b, off + k * 4, none⟩ = some (.string es[k].1) ∧ wx.cell? ⟨b, off + k * 4 + 1, none⟩ = some (.string es[k].2.1) ∧
          wx.cell? ⟨b, off + k * 4 + 2, none⟩ = some (.bool es[k].2.2.1) ∧ wx.cell? ⟨b, off + k * 4 + 3, none⟩ = some (.int .i64 es[k].2.2.2)) ∧ b < wx.heap.size) :=
        Lib.hid fun wx hx => ⟨HC.out.old hbw hx k hkl, Nat.lt_of_lt_of_le hbw hx.size⟩
      have hm := HO.out _ (List.getElem_mem hkl)
      have hbody := body_snoc (es.take k) [] es[k]
      rw [← List.take_succ_eq_append_getElem hkl] at hbody
      have hkey := keyL_snoc (es.take k) [] es[k]
      rw [← List.take_succ_eq_append_getElem hkl] at hkey
      have hlen := bodyB_len (es.take k) [] (fun e he => HO.out e (List.mem_of_mem_take he))
      rw [List.length_take] at hlen
      obtain ⟨E, hE⟩ : ∃ E, E = es[k] := ⟨_, rfl⟩
      rw [← hE] at HG hm hbody hkey
      obtain ⟨ek, evl, eg, eq⟩ := E
      obtain ⟨hk1, hv1, hg1, hq1, hq2⟩ := may_iff.1 hm
      have hk64 : ek.size ≤ 64 := by
        unfold keyB at hk1
        simp only [Bool.and_eq_true, decide_eq_true_eq] at hk1
        exact hk1.2
      obtain ⟨LK, hLK⟩ : ∃ LK, LK = keyL [] (es.take k) := ⟨_, rfl⟩
      have hLKs : LK.length ≤ 64 := by
        rw [hLK]
        by_cases h0 : k = 0
        · subst h0; simp [keyL]
        · obtain ⟨p, rfl⟩ : ∃ p, k = p + 1 := ⟨k - 1, by omega⟩
          have hpl : p < es.length := by omega
          rw [List.take_succ_eq_append_getElem hpl, keyL_snoc]
          have hmp := HO.out _ (List.getElem_mem hpl)
          generalize es[p] = P at hmp
          obtain ⟨pk, pv, pg, pq⟩ := P
          have := (may_iff.1 hmp).1
          unfold keyB at this
          simp only [Bool.and_eq_true, decide_eq_true_eq] at this
          rw [size_list]
          exact this.2
      rw [← hLK] at hbody ⊢
      obtain ⟨L, hL⟩ : ∃ L, L = vL n ++ bodyB [] (es.take k) := ⟨_, rfl⟩
      have hLs : L.length ≤ 1638410 := by
        rw [hL, List.length_append]
        have := vL_len9 (n := n) (by omega)
        have : min k es.length ≤ 4096 := by omega
        omega
      rw [← hL] at HD
      obtain ⟨c, hcc⟩ : ∃ c, comN LK ek.data.toList = c := ⟨_, rfl⟩
      have hc64 : c ≤ ek.size := by rw [← hcc, ← size_list]; exact (comN_le _ _).2
      have HCm : Hid (∀ w, Calls Tryz.prog 58 #[.string ⟨LK.toArray⟩, .string ek] w fun e w' => e = .returned (.int .i64 (c : Nat)) ∧ Below w.heap.size w w') :=
        Lib.hid (fun w => by have h := com_ref ⟨LK.toArray⟩ ek w (by rw [size_mkl]; omega) (by omega); simp only [hcc] at h; exact h)
      have HKey := Lib.hid (show keyL [] (es.take (k + 1)) = ek.data.toList from hkey)
      have HBody : Hid (vL n ++ bodyB [] (es.take (k + 1)) = L ++ vL c ++ txL (ek.data.toList.drop c) ++ if eg = true then vL (2 * eq.toNat + 1) else vL (2 * eq.toNat) ++ txL evl.data.toList) := Lib.hid (by
        rw [hbody, ← List.append_assoc, ← hL]
        unfold entB
        simp only [hcc, List.append_assoc])
      have hci : (c : Int) ≤ (ek.size : Int) := by omega
      have hcn : (0 : Int) ≤ (c : Int) := by omega
      have h9 : (⟨(vL c).toArray⟩ : ByteArray).size ≤ 9 := by rw [size_mkl]; exact vL_len9 (by omega)
      have hxz : (ek.extract c ek.size).size ≤ 262144 := by rw [ByteArray.size_extract]; omega
      have HXR := Lib.hid (rest_bytes ek c)
      have htx : (⟨(txL (ek.data.toList.drop c)).toArray⟩ : ByteArray).size ≤ 262153 := by
        rw [size_mkl]; exact txL_size _ (by rw [List.length_drop, size_list]; omega)
      have htv : (⟨(txL evl.data.toList).toArray⟩ : ByteArray).size ≤ 262153 := by
        rw [size_mkl]; exact txL_size _ (by rw [size_list]; omega)
      have h91 : (⟨(vL (2 * eq.toNat + 1)).toArray⟩ : ByteArray).size ≤ 9 := by rw [size_mkl]; exact vL_len9 (by omega)
      have h92 : (⟨(vL (2 * eq.toNat)).toArray⟩ : ByteArray).size ≤ 9 := by rw [size_mkl]; exact vL_len9 (by omega)
      clear hbody hkey hlen hLK hL hcc hE hm hk1 hb
      obtain ⟨⟨g0, g1, g2, g3⟩, hbr⟩ := HG.out _ HW.out
      go_wp2_with fail
      refine (HCm.out _).mono ?_
      rintro e w4 ⟨rfl, b4⟩
      have HD4 : Hid (OB w.heap.size w4 u5 L) := Lib.hid (below_own HD.out b4)
      have HW4 := Lib.hid (HW.out.trans (b4.mono hWs))
      clear b4 g0 g1 g2 g3 hbr HD HW HCm hWs
      obtain ⟨⟨g0, g1, g2, g3⟩, hbr⟩ := HG.out _ HW4.out
      go_wp2_with fail
      refine (rnum_any c c rfl (by omega) _).mono ?_
      rintro e wa5 ⟨rfl, ba⟩
      have HDa5 : Hid (OB w.heap.size wa5 u5 L) := Lib.hid (below_own HD4.out ba)
      have HWa5 := Lib.hid (HW4.out.trans (ba.mono HW4.out.size))
      have hsa5 := HWa5.out.size
      clear ba HD4 HW4 g0 g1 g2 g3 hbr
      go_wp2_with (at_builtin; refine Lib.wpList_append_own_string _ rfl _ _ 49 9 rfl w.heap.size 5 i0 Tryz.underlying49 Tryz.underlying9 hi hz0 hz1 hz2 u5 L.length (Lib.byteCells L) rfl HDa5.out ⟨(vL c).toArray⟩ rfl (by unfold maxLen; omega) (by omega) hsa5 ?_)
      intro vb5 wb5 ownb grb _
      have HWb5 := Lib.hid (HWa5.out.grown grb hsa5 (fun k hk => (HDa5.out.lt k hk).1))
      obtain ⟨L5, eL5⟩ : ∃ l, l = L ++ vL c := ⟨_, rfl⟩
      have HDb5 : Hid (OB w.heap.size wb5 vb5 L5) := Lib.hid (by rw [eL5]; exact OB.more ownb)
      have hl5 : L5.length ≤ L.length + 262153 := by rw [eL5, List.length_append]; have := h9; rw [size_mkl] at this; omega
      rw [← eL5] at HBody
      clear ownb grb HDa5 HWa5 hsa5 eL5
      obtain ⟨⟨g0, g1, g2, g3⟩, hbr⟩ := HG.out _ HWb5.out
      go_wp2_with fail
      refine (rtext_any (ek.extract c ek.size) hxz _).mono ?_
      rintro e wa6 ⟨rfl, ba⟩
      rw [HXR.out]
      have HDa6 : Hid (OB w.heap.size wa6 vb5 L5) := Lib.hid (below_own HDb5.out ba)
      have HWa6 := Lib.hid (HWb5.out.trans (ba.mono HWb5.out.size))
      have hsa6 := HWa6.out.size
      clear ba HDb5 HWb5 g0 g1 g2 g3 hbr
      go_wp2_with (at_builtin; refine Lib.wpList_append_own_string _ rfl _ _ 49 9 rfl w.heap.size 5 i0 Tryz.underlying49 Tryz.underlying9 hi hz0 hz1 hz2 vb5 L5.length (Lib.byteCells L5) rfl HDa6.out ⟨(txL (ek.data.toList.drop c)).toArray⟩ rfl (by unfold maxLen; omega) (by omega) hsa6 ?_)
      intro vb6 wb6 ownb grb _
      have HWb6 := Lib.hid (HWa6.out.grown grb hsa6 (fun k hk => (HDa6.out.lt k hk).1))
      obtain ⟨L6, eL6⟩ : ∃ l, l = L5 ++ txL (ek.data.toList.drop c) := ⟨_, rfl⟩
      have HDb6 : Hid (OB w.heap.size wb6 vb6 L6) := Lib.hid (by rw [eL6]; exact OB.more ownb)
      have hl6 : L6.length ≤ L5.length + 262153 := by rw [eL6, List.length_append]; have := htx; rw [size_mkl] at this; omega
      rw [← eL6] at HBody
      clear ownb grb HDa6 HWa6 hsa6 eL6
      obtain ⟨⟨g0, g1, g2, g3⟩, hbr⟩ := HG.out _ HWb6.out
      cases eg with
      | true =>
        rw [if_pos rfl] at HBody
        go_wp2_with fail
        refine (rnum_any _ (2 * eq.toNat + 1) ?_ (by omega) _).mono ?_
        · first | omega | (simp; omega)
        rintro e wa7 ⟨rfl, ba⟩
        have HDa7 : Hid (OB w.heap.size wa7 vb6 L6) := Lib.hid (below_own HDb6.out ba)
        have HWa7 := Lib.hid (HWb6.out.trans (ba.mono HWb6.out.size))
        have hsa7 := HWa7.out.size
        clear ba HDb6 HWb6 g0 g1 g2 g3 hbr
        go_wp2_with (at_builtin; refine Lib.wpList_append_own_string _ rfl _ _ 49 9 rfl w.heap.size 5 i0 Tryz.underlying49 Tryz.underlying9 hi hz0 hz1 hz2 vb6 L6.length (Lib.byteCells L6) rfl HDa7.out ⟨(vL (2 * eq.toNat + 1)).toArray⟩ rfl (by unfold maxLen; omega) (by omega) hsa7 ?_)
        intro vb7 wb7 ownb grb _
        have HWb7 := Lib.hid (HWa7.out.grown grb hsa7 (fun k hk => (HDa7.out.lt k hk).1))
        obtain ⟨L7, eL7⟩ : ∃ l, l = L6 ++ vL (2 * eq.toNat + 1) := ⟨_, rfl⟩
        have HDb7 : Hid (OB w.heap.size wb7 vb7 L7) := Lib.hid (by rw [eL7]; exact OB.more ownb)
        have hl7 : L7.length ≤ L6.length + 262153 := by rw [eL7, List.length_append]; have := h91; rw [size_mkl] at this; omega
        rw [← eL7] at HBody
        clear ownb grb HDa7 HWa7 hsa7 eL7
        obtain ⟨⟨g0, g1, g2, g3⟩, hbr⟩ := HG.out _ HWb7.out
        have HDr : Hid (OB w.heap.size wb7 vb7 (vL n ++ bodyB [] (es.take (k + 1)))) := Lib.hid (by rw [HBody.out]; exact HDb7.out)
        go_wp2
        go_roundw
        case rel => exact ⟨k + 1, by go_num, by omega, by rw [HKey.out], HDr, HWb7⟩
        case measure => simp [intOf]; omega
      | false =>
        rw [if_neg (by decide), ← List.append_assoc] at HBody
        go_wp2_with fail
        refine (rnum_any _ (2 * eq.toNat) ?_ (by omega) _).mono ?_
        · first | omega | (simp; omega)
        rintro e wa7 ⟨rfl, ba⟩
        have HDa7 : Hid (OB w.heap.size wa7 vb6 L6) := Lib.hid (below_own HDb6.out ba)
        have HWa7 := Lib.hid (HWb6.out.trans (ba.mono HWb6.out.size))
        have hsa7 := HWa7.out.size
        clear ba HDb6 HWb6 g0 g1 g2 g3 hbr
        go_wp2_with (at_builtin; refine Lib.wpList_append_own_string _ rfl _ _ 49 9 rfl w.heap.size 5 i0 Tryz.underlying49 Tryz.underlying9 hi hz0 hz1 hz2 vb6 L6.length (Lib.byteCells L6) rfl HDa7.out ⟨(vL (2 * eq.toNat)).toArray⟩ rfl (by unfold maxLen; omega) (by omega) hsa7 ?_)
        intro vb7 wb7 ownb grb _
        have HWb7 := Lib.hid (HWa7.out.grown grb hsa7 (fun k hk => (HDa7.out.lt k hk).1))
        obtain ⟨L7, eL7⟩ : ∃ l, l = L6 ++ vL (2 * eq.toNat) := ⟨_, rfl⟩
        have HDb7 : Hid (OB w.heap.size wb7 vb7 L7) := Lib.hid (by rw [eL7]; exact OB.more ownb)
        have hl7 : L7.length ≤ L6.length + 262153 := by rw [eL7, List.length_append]; have := h92; rw [size_mkl] at this; omega
        rw [← eL7] at HBody
        clear ownb grb HDa7 HWa7 hsa7 eL7
        obtain ⟨⟨g0, g1, g2, g3⟩, hbr⟩ := HG.out _ HWb7.out
        go_wp2_with fail
        refine (rtext_any evl (by omega) _).mono ?_
        rintro e wa8 ⟨rfl, ba⟩
        have HDa8 : Hid (OB w.heap.size wa8 vb7 L7) := Lib.hid (below_own HDb7.out ba)
        have HWa8 := Lib.hid (HWb7.out.trans (ba.mono HWb7.out.size))
        have hsa8 := HWa8.out.size
        clear ba HDb7 HWb7 g0 g1 g2 g3 hbr
        go_wp2_with (at_builtin; refine Lib.wpList_append_own_string _ rfl _ _ 49 9 rfl w.heap.size 5 i0 Tryz.underlying49 Tryz.underlying9 hi hz0 hz1 hz2 vb7 L7.length (Lib.byteCells L7) rfl HDa8.out ⟨(txL evl.data.toList).toArray⟩ rfl (by unfold maxLen; omega) (by omega) hsa8 ?_)
        intro vb8 wb8 ownb grb _
        have HWb8 := Lib.hid (HWa8.out.grown grb hsa8 (fun k hk => (HDa8.out.lt k hk).1))
        obtain ⟨L8, eL8⟩ : ∃ l, l = L7 ++ txL evl.data.toList := ⟨_, rfl⟩
        have HDb8 : Hid (OB w.heap.size wb8 vb8 L8) := Lib.hid (by rw [eL8]; exact OB.more ownb)
        have hl8 : L8.length ≤ L7.length + 262153 := by rw [eL8, List.length_append]; have := htv; rw [size_mkl] at this; omega
        rw [← eL8] at HBody
        clear ownb grb HDa8 HWa8 hsa8 eL8
        obtain ⟨⟨g0, g1, g2, g3⟩, hbr⟩ := HG.out _ HWb8.out
        have HDr : Hid (OB w.heap.size wb8 vb8 (vL n ++ bodyB [] (es.take (k + 1)))) := Lib.hid (by rw [HBody.out]; exact HDb8.out)
        go_wp2
        go_roundw
        case rel => exact ⟨k + 1, by go_num, by omega, by rw [HKey.out], HDr, HWb8⟩
        case measure => simp [intOf]; omega
    · obtain rfl : k = n := by omega
      have hh := HD.out
      rw [← HL.out, List.take_length] at hh
      have hhl := headB_len HR.out
      have HH : Hid (OB w.heap.size wr u5 (headB es)) := Lib.hid hh
      rw [HL.out] at hhl
      clear hh HD
      go_wp2
      rw [run_str_own _ 49 9 5 Tryz.underlying49 Tryz.underlying5 Tryz.underlying9 w.heap.size 5 _ _ (headB es) rfl HH.out]
      go_wp2_with fail
      refine (seal_ref _ _ (by rw [size_mkl]; omega)).mono ?_
      rintro e w3 ⟨rfl, b3⟩
      have HW3 := Lib.hid (HW.out.trans (b3.mono HW.out.size))
      go_wp2
      go_ret2
      refine PU.yes HR.out ?_ HW3.out
      have : (⟨(headB es).toArray⟩ ++ ⟨(tailL (headB es)).toArray⟩ : ByteArray) = ⟨(putB es).toArray⟩ := by
        apply ByteArray.ext
        simp [putB]
      exact congrArg Ending.returned (congrArg (fun x => Value.tuple #[.string x, .int .i64 0]) this)
theorem rput9_any (a : Option Addr) (n cap : Nat) (es : List Ent) (w : World) (hn : n ≤ 9223372036854775807) (hl : es.length = n) (h : RdE w a es) (hok : okV es) :
    Calls Tryz.prog 23 #[.slice a n cap] w (PU es w) := by
  cases hr : okB es with
  | false => exact rput9_no a n cap es w hn hl h hok hr
  | true =>
    obtain ⟨b, off, h1, h2, h3⟩ := h.at_
    rw [hl] at h1 h2
    exact rput9_yes b off n cap es w hl h2 h3 a h1 h hok hr
end Go.Proofs.YtobhjmkaamjoeaaGreat
