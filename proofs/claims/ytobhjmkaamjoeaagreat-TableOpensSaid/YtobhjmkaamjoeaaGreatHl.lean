/-
  Layer 10 (table), the contract of the document's Build. Conditions: texts within the reach.
-/
import Derived.Test.YtobhjmkaamjoeaaGreatQ5
import Derived.Test.YtobhjmkaamjoeaaGreatKs
import Derived.Lib.MinMax
namespace Go.Proofs.YtobhjmkaamjoeaaGreat
open Go.RowKit
set_option linter.unusedVariables false
set_option linter.unusedSimpArgs false

theorem rput9_ok (a : Option Addr) (n cap : Nat) (es : List Ent) (w : World) (hn : n ≤ 9223372036854775807) (hl : es.length = n) (h : RdE w a es) (hok : okV es) (ho : okB es = true) :
    Calls Tryz.prog 23 #[.slice a n cap] w fun e w' => e = .returned (.tuple #[.string ⟨(putB es).toArray⟩, .int .i64 0]) ∧ Below w.heap.size w w' :=
  (rput9_any a n cap es w hn hl h hok).mono fun e w' hp => ⟨by rw [hp.1, if_pos ho], hp.2⟩
theorem bv_bytes (l : List UInt8) : Lib.byteCells l = bv l := rfl
set_option maxRecDepth 100000 in
set_option maxHeartbeats 4000000 in
theorem rbuild_no (a : Option Addr) (n cap : Nat) (es : List Ent) (w : World) (hn : n ≤ 9223372036854775807) (hl : es.length = n) (h : RdE w a es) (hok : okV es) (hr : okT es = false) :
    Calls Tryz.prog 8 #[.slice a n cap] w (BU es w) := by
  have HR := Lib.hid hr
  by_cases h0 : n = 0
  · have h0b : ((n : Int) == 0) = true := by rw [h0]; rfl
    clear hr hl h hok h0
    go_enter Tryz.func8, Tryz.ntmps8
    go_wp2
    go_ret2
    exact BU.no HR.out rfl (Below.refl _ _)
  · have h0b : ((n : Int) == 0) = false := by simpa using h0
    have hb : okB es = false := by
      cases hb : okB es with
      | false => rfl
      | true => rw [okT_iff.2 ⟨fun e => h0 (by rw [← hl, e]; rfl), hb⟩] at hr; cases hr
    have HC := Lib.hid (rchk9_any a n cap es w hn hl h hok _ hb)
    clear hr hl h hok h0 hb
    go_enter Tryz.func8, Tryz.ntmps8
    go_wp2_with fail
    refine HC.out.mono ?_
    rintro e w1 ⟨rfl, b1⟩
    rw [show chkV false = 1 from rfl]
    go_wp2
    go_ret2
    exact BU.no HR.out rfl b1
set_option maxRecDepth 100000 in
set_option maxHeartbeats 16000000 in
theorem rbuild_yes (b off n cap : Nat) (es : List Ent) (w : World) (hl : es.length = n) (hnc : n ≤ cap) (hb : b < w.heap.size) (hc : EAt w b off es) (hr : okT es = true) :
    Calls Tryz.prog 8 #[.slice (some ⟨b, off, none⟩) n cap] w (BU es w) := by
  obtain ⟨i0, hi, hz0, hz1, hz2⟩ := info_parts Tryz.infoU8k
  obtain ⟨hne, hok⟩ := okT_iff.1 hr
  have hn := okB_len4 hok
  rw [hl] at hn
  have hn0 : 0 < n := by
    rcases Nat.eq_zero_or_pos n with h | h
    · exact absurd (List.length_eq_zero_iff.1 (hl.trans h)) hne
    · exact h
  have h0b : ((n : Int) == 0) = false := by simp; omega
  have hnb := numB_le hok
  have hnbe : numB es = (n + 15) / 16 := by unfold numB; rw [hl]
  have HK := Lib.hid (rchk9_any (some ⟨b, off, none⟩) n cap es w (by omega) hl (hc.rd hb) (okB_okW hok) _ hok)
  have HC := Lib.hid hc
  have HL := Lib.hid hl
  have HOK := Lib.hid hok
  have HR := Lib.hid hr
  have HNB := Lib.hid hnbe
  have hnbi : ((n : Int) + 15) / 16 = ((numB es : Nat) : Int) := by omega
  obtain ⟨nb, hnbv⟩ : ∃ nb, nb = numB es := ⟨_, rfl⟩
  rw [← hnbv] at hnb hnbi HNB
  have HNV := Lib.hid hnbv
  have hv9 := vL_len9 (n := nb) (by omega)
  clear hc hl hok hr hne hnbe hnbv
  go_enter Tryz.func8, Tryz.ntmps8
  go_wp2_with fail
  refine HK.out.mono ?_
  rintro e w1 ⟨rfl, b1⟩
  rw [show chkV true = 0 from rfl]
  have HW1 := Lib.hid b1
  clear b1 HK
  go_wp2_with fail
  refine (tnum_any _ nb rfl (by omega) _).mono ?_
  rintro e w2 ⟨rfl, b2⟩
  have HW2 := Lib.hid (bt HW1.out b2)
  have hs2 := HW2.out.size
  clear b2
  go_wp2_with (at_builtin; refine wpList_r2 rfl (.tmp 22) (.tmp 27) 49 9 rfl 5 i0 Tryz.underlying49 Tryz.underlying9 hi hz0 hz1 hz2 w.heap.size (.slice none 0 0) (.slice none 0 0) ([]) ([]) rfl (R2.nil 5 w.heap.size w2) (vL nb) rfl (by simp only [List.length_nil]; omega) hs2 ?_)
  intro vf w3 r2 bb
  have HR3 : Hid (R2 5 w.heap.size w3 (.slice none 0 0) vf (outT es 0) (vL nb ++ idxT es 0)) := Lib.hid (by have h := r2.swap; simpa [outT, idxT] using h)
  have HW3 := Lib.hid (HW2.out.trans bb)
  clear r2 bb hs2 HW2
  go_wp2
  go_loopw [4, 5, 6] (fun vo vt i wr => ∃ k I : Nat, i = .int .i64 I ∧ k ≤ nb ∧ Hid (I = 16 * k) ∧ Hid (R2 5 w.heap.size wr vo vt (outT es k) (vL nb ++ idxT es k)) ∧ Hid (Below w.heap.size w wr)) (fun _ _ i _ => n + 16 - (intOf i).toNat)
  case atStart => exact ⟨0, 0, rfl, by omega, Lib.hid rfl, HR3, HW3⟩
  case round =>
    obtain ⟨k, I, rfl, hk, HI, HRr, HW⟩ := hrel
    have hws := HW.out.size
    by_cases hlt : I < n
    · have hIi : (I : Int) < (n : Int) := by omega
      have hI0 : (0 : Int) ≤ (I : Int) := by omega
      have hkn : k < nb := by have := HI.out; have := HNB.out; omega
      obtain ⟨H, hH⟩ : ∃ H : Nat, H = min n (I + 16) := ⟨_, rfl⟩
      have hmin : min (n : Int) ((I : Int) + 16) = (H : Int) := by omega
      have hIH : (I : Int) ≤ (H : Int) := by omega
      have hHc : (H : Int) ≤ (cap : Int) := by omega
      have hH0 : (0 : Int) ≤ (H : Int) := by omega
      have hIHn : I ≤ H := by omega
      have hIc : I < cap := by omega
      have hIci : (I : Int) < (cap : Int) := by omega
      have hbok := blk_ok HOK.out k
      have hblen : (blk es k).length = H - I := by
        unfold blk
        rw [List.length_take, List.length_drop, HL.out, ← HI.out]
        omega
      have HBE : Hid (∀ wx, Below w.heap.size w wx → RdE wx (some ⟨b, off + I * 4, none⟩) (blk es k) ∧ wx.cell? ⟨b, off + I * 4, none⟩ = some (.string (es[I]'(by rw [HL.out]; exact hlt)).1) ∧ b < wx.heap.size) := Lib.hid fun wx hx => by
        have hbx : b < wx.heap.size := Nat.lt_of_lt_of_le hb hx.size
        have h1 := HC.out.old hb hx
        refine ⟨?_, (h1 I (by rw [HL.out]; exact hlt)).1, hbx⟩
        have h2 := (h1.drop I).take 16
        have : (es.drop I).take 16 = blk es k := by unfold blk; rw [HI.out]
        rw [this] at h2
        exact h2.rd hbx
      have hfk : fstK (blk es k) = (es[I]'(by rw [HL.out]; exact hlt)).1.data.toList := by
        have h1 : 16 * k < es.length := by rw [HL.out, ← HI.out]; exact hlt
        rw [fst_blk h1]
        have : ∀ (x y : Nat) (hx : x < es.length) (hy : y < es.length), x = y → es[x] = es[y] := fun x y hx hy e => by subst e; rfl
        rw [this (16 * k) I h1 (by rw [HL.out]; exact hlt) HI.out.symm]
      have hf64 := fst_le HOK.out k
      obtain ⟨ek, hek⟩ : ∃ ek, ek = (es[I]'(by rw [HL.out]; exact hlt)).1 := ⟨_, rfl⟩
      rw [← hek] at HBE hfk
      have hek64 : ek.size ≤ 262144 := by rw [hfk, size_list] at hf64; omega
      have hpl := (putB_le hbok (blk_len es k)).1
      have hol := outT_len HOK.out k
      have hil := idxT_len HOK.out k
      have HPt := Lib.hid fun w h => rput9_ok (some ⟨b, off + I * 4, none⟩) (H - I) (cap - I) (blk es k) w (by omega) hblen h (okB_okW hbok) hbok
      obtain ⟨PB, hPB⟩ : ∃ PB : ByteArray, PB = ⟨(putB (blk es k)).toArray⟩ := ⟨_, rfl⟩
      have hPs : PB.size = (putB (blk es k)).length := by rw [hPB, size_mkl]
      have hPs9 : PB.size ≤ 6413 := by omega
      have HSO := Lib.hid (outT_succ es k)
      have HSI : Hid (vL nb ++ idxT es (k + 1) = vL nb ++ idxT es k ++ txL ek.data.toList ++ vL PB.size) := Lib.hid (by rw [idxT_succ, ← hfk, hPs]; simp)
      rw [← hPB] at HPt
      have hvlen : (vL nb ++ idxT es k).length ≤ 30000 := by rw [List.length_append]; omega
      have htl : (txL ek.data.toList).length ≤ 262153 := txL_size _ (by rw [size_list]; omega)
      have hv2 := vL_len9 (n := PB.size) (by omega)
      have HPB := Lib.hid hPB
      have hPBl : (putB (blk es k)).length ≤ 6413 := hpl
      have hol2 : (outT es k).length ≤ 1700000 := by omega
      clear hbok hfk hf64 hek hpl hol hil hPB hPs hblen hH
      obtain ⟨hrd, g0, hbr⟩ := HBE.out _ HW.out
      have HRD := Lib.hid hrd
      clear hrd
      go_wp2_with fail
      refine (HPt.out _ HRD.out).mono ?_
      rintro e w4 ⟨rfl, b4⟩
      have HR4 := Lib.hid (HRr.out.old b4)
      have HW4 := Lib.hid (HW.out.trans (b4.mono hws))
      have hs4 := HW4.out.size
      clear b4 HRr HW hws g0 hbr HRD
      rw [HPB.out]
      go_wp2_with (at_builtin; refine wpList_r2 rfl (.tmp 47) (.tmp 48) 49 9 rfl 5 i0 Tryz.underlying49 Tryz.underlying9 hi hz0 hz1 hz2 w.heap.size u4 u5 (outT es k) (vL nb ++ idxT es k) rfl HR4.out (putB (blk es k)) rfl (by omega) hs4 ?_)
      intro vo5 w5 r2 bb
      rw [← HSO.out] at r2
      have HR5 := Lib.hid r2
      have HW5 := Lib.hid (HW4.out.trans bb)
      have hs5 := HW5.out.size
      clear r2 bb HR4 HW4 hs4
      obtain ⟨hrd, g0, hbr⟩ := HBE.out _ HW5.out
      clear hrd
      go_wp2_with fail
      refine (ttext_any ek hek64 _).mono ?_
      rintro e w6 ⟨rfl, b6⟩
      have HR6 := Lib.hid (HR5.out.old b6).swap
      have HW6 := Lib.hid (HW5.out.trans (b6.mono hs5))
      have hs6 := HW6.out.size
      clear b6 HR5 HW5 hs5 g0 hbr
      go_wp2_with (at_builtin; refine wpList_r2 rfl (.tmp 50) (.tmp 56) 49 9 rfl 5 i0 Tryz.underlying49 Tryz.underlying9 hi hz0 hz1 hz2 w.heap.size u5 vo5 (vL nb ++ idxT es k) (outT es (k + 1)) rfl HR6.out (txL ek.data.toList) rfl (by omega) hs6 ?_)
      intro vf7 w7 r2 bb
      obtain ⟨Y, hY⟩ : ∃ Y, Y = vL nb ++ (idxT es k ++ txL ek.data.toList) := ⟨_, rfl⟩
      have hl7 : Y.length ≤ 300000 := by rw [hY, ← List.append_assoc, List.length_append]; omega
      rw [← hY] at r2
      have HYS : Hid (vL nb ++ idxT es (k + 1) = Y ++ vL PB.size) := Lib.hid (by rw [hY]; have h := HSI.out; simpa [List.append_assoc] using h)
      clear hY
      have HR7 := Lib.hid r2
      have HW7 := Lib.hid (HW6.out.trans bb)
      have hs7 := HW7.out.size
      clear r2 bb HR6 HW6 hs6
      rw [← HPB.out]
      go_wp2_with fail
      refine (tnum_any _ PB.size rfl (by omega) _).mono ?_
      rintro e w8 ⟨rfl, b8⟩
      have HR8 := Lib.hid (HR7.out.old b8)
      have HW8 := Lib.hid (HW7.out.trans (b8.mono hs7))
      have hs8 := HW8.out.size
      clear b8 HR7 HW7 hs7
      go_wp2_with (at_builtin; refine wpList_r2 rfl (.tmp 58) (.tmp 61) 49 9 rfl 5 i0 Tryz.underlying49 Tryz.underlying9 hi hz0 hz1 hz2 w.heap.size vf7 vo5 Y (outT es (k + 1)) rfl HR8.out (vL PB.size) rfl (by omega) hs8 ?_)
      intro vf9 w9 r2 bb
      rw [← HYS.out] at r2
      have HR9 := Lib.hid r2.swap
      have HW9 := Lib.hid (HW8.out.trans bb)
      clear r2 bb HR8 HW8 hs8
      go_wp2
      go_roundw
      case rel => exact ⟨k + 1, I + 16, by go_num, by omega, Lib.hid (by have := HI.out; omega), HR9, HW9⟩
      case measure => simp [intOf]; omega
    · have hkn : k = nb := by have := HI.out; have := HNB.out; omega
      subst hkn
      have hIi : (n : Int) ≤ (I : Int) := by omega
      have hKY := rkeys_any (some ⟨b, off, none⟩) n cap es wr hn HL.out ((HC.out.old hb HW.out).rd (Nat.lt_of_lt_of_le hb hws))
      have HKY := Lib.hid hKY
      have hkl : (keysT es).length ≤ 4096 := by have h1 := keysG_length es none; have h2 := HL.out; unfold keysT; omega
      have hbl : (makeL (keysT es)).length ≤ 8192 := by have h1 := nBytes_le (keysT es).length; rw [makeL_length]; omega
      have HK64 : Hid (∀ t ∈ keysT es, t.length ≤ 140737488351232) := Lib.hid fun t ht => by
        obtain ⟨e, he, rfl⟩ := keysG_mem es none t ht
        have := okB_key64 HOK.out e he
        rw [size_list]
        omega
      have hfl := footF_len HOK.out
      have hfs := footS_len HOK.out
      have hol := outT_len HOK.out k
      have hil := idxT_len HOK.out k
      have hvl : (vL k ++ idxT es k).length ≤ 30000 := by rw [List.length_append]; omega
      have hol2 : (outT es k).length ≤ 1700000 := by omega
      clear hKY hol hil
      obtain ⟨z7, hz7⟩ : ∃ z7, z7 = (keysT es).length := ⟨_, rfl⟩
      have HMK := Lib.hid fun a2 c2 w2 hr => make_ref a2 c2 (keysT es) w2 hr HK64.out hkl
      rw [← hz7] at HMK
      have HZ7 := Lib.hid hz7
      obtain ⟨bs, hbs⟩ : ∃ bs : ByteArray, bs = ⟨(makeL (keysT es)).toArray⟩ := ⟨_, rfl⟩
      have hbz : bs.size ≤ 8192 := by rw [hbs, size_mkl]; exact hbl
      have hbd : bs.data.toList = makeL (keysT es) := by rw [hbs]
      rw [← hbs] at HMK
      have hFe : (vL k ++ idxT es k) ++ txL bs.data.toList = footF es := by rw [hbd, HNV.out]; rfl
      have htl : (txL bs.data.toList).length ≤ 262153 := txL_size _ (by rw [size_list]; omega)
      obtain ⟨F, hF⟩ : ∃ F, F = footF es := ⟨_, rfl⟩
      rw [← hF] at hFe hfl
      have HFE := Lib.hid hFe
      have HFT := Lib.hid hF
      clear hz7 hbs hbd hFe hbl hkl hF
      go_wp2_with fail
      refine HKY.out.mono ?_
      rintro e w2 ⟨a2, c2, rfl, hr2, b2⟩
      rw [← HZ7.out]
      have HR2 := Lib.hid (HRr.out.old b2)
      have HW2' := Lib.hid (HW.out.trans (b2.mono hws))
      have HM2 := Lib.hid (HMK.out a2 c2 w2 hr2)
      clear b2 hr2 HKY HMK HRr HW hws
      go_wp2_with fail
      refine HM2.out.mono ?_
      rintro e w3 ⟨rfl, b3⟩
      have HR3 := Lib.hid (HR2.out.old b3)
      have HW3 := Lib.hid (HW2'.out.trans (b3.mono HW2'.out.size))
      clear b3 HM2 HR2 HW2'
      go_wp2_with fail
      refine (ttext_any bs (by omega) _).mono ?_
      rintro e w4 ⟨rfl, b4⟩
      have HR4 := Lib.hid (HR3.out.old b4).swap
      have HW4 := Lib.hid (HW3.out.trans (b4.mono HW3.out.size))
      have hs4 := HW4.out.size
      clear b4 HR3 HW3
      go_wp2_with (at_builtin; refine wpList_r2 rfl (.tmp 69) (.tmp 71) 49 9 rfl 5 i0 Tryz.underlying49 Tryz.underlying9 hi hz0 hz1 hz2 w.heap.size u5 u4 (vL k ++ idxT es k) (outT es k) rfl HR4.out (txL bs.data.toList) rfl (by omega) hs4 ?_)
      intro vf5 w5 r2 bb
      rw [← List.append_assoc, HFE.out] at r2
      have HR5 := Lib.hid r2.swap
      have HW5 := Lib.hid (HW4.out.trans bb)
      have hs5 := HW5.out.size
      have hown5 := r2.1
      rw [bv_bytes] at hown5
      have HO5 := Lib.hid hown5
      clear r2 bb hown5 HR4 HW4 hs4
      go_wp2
      rw [run_str_own _ 49 9 5 Tryz.underlying49 Tryz.underlying5 Tryz.underlying9 w.heap.size 5 _ _ F rfl HO5.out]
      obtain ⟨S, hS⟩ : ∃ S : ByteArray, S = ⟨(footS es).toArray⟩ := ⟨_, rfl⟩
      have hSl : S.size = (footS es).length := by rw [hS, size_mkl]
      have hSz : S.size ≤ 27004 := by omega
      have hSd : (⟨F.toArray⟩ ++ ⟨(tailL (⟨F.toArray⟩ : ByteArray).data.toList).toArray⟩ : ByteArray) = S := by
        rw [hS, HFT.out]
        apply ByteArray.ext
        simp [footS]
      have hseal := fun w => seal_ref ⟨F.toArray⟩ w (by rw [size_mkl]; omega)
      rw [hSd] at hseal
      have HSE := Lib.hid hseal
      have hSl2 : S.data.toList = footS es := by rw [hS]
      have HSL := Lib.hid hSl2
      clear hS hSd hseal hSl hSl2 hfs
      go_wp2_with fail
      refine (HSE.out _).mono ?_
      rintro e w6 ⟨rfl, b6⟩
      have HR6 := Lib.hid (HR5.out.old b6)
      have HW6 := Lib.hid (HW5.out.trans (b6.mono hs5))
      have hs6 := HW6.out.size
      clear b6 HR5 HW5 HO5 hs5 HSE
      go_wp2_with fail
      refine (fix_ref S.size _ (by omega)).mono ?_
      rintro e w7 ⟨rfl, b7⟩
      have HR7 := Lib.hid (HR6.out.old b7)
      have HW7 := Lib.hid (HW6.out.trans (b7.mono hs6))
      have hs7 := HW7.out.size
      have HSX : Hid (Value.string S = .string ⟨(footS es).toArray⟩) := Lib.hid (by rw [← HSL.out])
      have hfl4 : (fixL S.size).length = 4 := fixL_length _
      have HFB : Hid (outT es k ++ footS es ++ fixL S.size = buildT es) := Lib.hid (by rw [HNV.out]; unfold buildT; rw [← HSL.out, size_list])
      have hfsl : (footS es).length = S.size := by rw [← HSL.out, size_list]
      have HFSL := Lib.hid hfsl
      clear b7 HR6 HW6 hs6 hfsl
      go_wp2_with (at_builtin; refine wpList_r2 rfl (.tmp 82) (.tmp 83) 49 9 rfl 5 i0 Tryz.underlying49 Tryz.underlying9 hi hz0 hz1 hz2 w.heap.size u4 vf5 (outT es k) F rfl HR7.out (footS es) HSX.out (by have := HFSL.out; omega) hs7 ?_)
      intro vo8 w8 r2 bb
      have HR8 := Lib.hid r2
      have HW8 := Lib.hid (HW7.out.trans bb)
      have hs8 := HW8.out.size
      have hl8 : (outT es k ++ footS es).length ≤ 1800000 := by rw [List.length_append]; have := HFSL.out; omega
      clear r2 bb HR7 HW7 hs7
      go_wp2_with (at_builtin; refine wpList_r2 rfl (.tmp 85) (.tmp 86) 49 9 rfl 5 i0 Tryz.underlying49 Tryz.underlying9 hi hz0 hz1 hz2 w.heap.size vo8 vf5 (outT es k ++ footS es) F rfl HR8.out (fixL S.size) rfl (by omega) hs8 ?_)
      intro vo9 w9 r2 bb
      first | rw [HFB.out] at r2 | rw [← List.append_assoc, HFB.out] at r2
      have HW9 := Lib.hid (HW8.out.trans bb)
      have hown9 := r2.1
      rw [bv_bytes] at hown9
      have HO9 := Lib.hid hown9
      clear r2 bb hown9 HR8 HW8 hs8
      go_wp2
      rw [run_str_own _ 49 9 5 Tryz.underlying49 Tryz.underlying5 Tryz.underlying9 w.heap.size 5 _ _ (buildT es) rfl HO9.out]
      go_wp2
      go_ret2
      exact BU.yes HR.out rfl HW9.out
theorem rbuild_any (a : Option Addr) (n cap : Nat) (es : List Ent) (w : World) (hn : n ≤ 9223372036854775807) (hl : es.length = n) (hnc : n ≤ cap) (h : RdE w a es) (hok : okV es) :
    Calls Tryz.prog 8 #[.slice a n cap] w (BU es w) := by
  cases hr : okT es with
  | false => exact rbuild_no a n cap es w hn hl h hok hr
  | true =>
    have hne := (okT_iff.1 hr).1
    obtain ⟨b, off, ha, hb, hat⟩ := h.at_
    have h0 : 0 < es.length := List.length_pos_iff.2 hne
    obtain rfl := ha h0
    exact rbuild_yes b off n cap es w hl hnc (hb h0) hat hr
end Go.Proofs.YtobhjmkaamjoeaaGreat
