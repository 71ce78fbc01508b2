/-
  Layer 9 (block): the walk of the law BlockSpoilt. Conditions: texts within the reach.
-/
import Derived.Test.YtjneigejcaahiaaKxB
import Derived.RegionTactic
import Derived.BigRegion
import Derived.StillTailTactics
namespace Go.Proofs.Ytjneigejcaahiaa
open Go.RowKit
set_option linter.unusedVariables false
set_option linter.unusedSimpArgs false

/-- Bytes that are turned by zeros alone are as they were. -/
theorem turn_same (L : List UInt8) (k : Nat) (Y : List UInt8) (j : Nat) (hk : k + j ≤ L.length) (hj : j ≤ Y.length) (h : tn Y j = false) : turnL L k Y j = L := by
  have hx : ((L.drop k).take j).length = (Y.take j).length := by
    simp only [List.length_take, List.length_drop]
    omega
  have hz := (zxl_same hx).2 h
  rw [turnL, hz, List.append_assoc, ← List.drop_drop, List.take_append_drop, List.take_append_drop]
set_option maxRecDepth 100000 in
set_option maxHeartbeats 8000000 in
theorem walk_BlockSpoilt (a : Option Addr) (cap : Nat) (es : List Ent) (at_ : Int) (hat : (Lit.int .i64 at_).wf = true) (y0 y1 y2 y3 : UInt8) (w : World) (h : RdE w a es) (hok : okV es) (hl : es.length ≤ maxLen) :
    Calls Try.prog 7 #[.slice a es.length cap, .int .i64 at_, .agg #[.int .u8 (y0.toNat : Int), .int .u8 (y1.toNat : Int), .int .u8 (y2.toNat : Int), .int .u8 (y3.toNat : Int)]] w fun e w' => e = .returned (.bool true) ∧ Below w.heap.size w w' := by
  unfold maxLen at hl
  obtain ⟨n, hn⟩ : ∃ n, es.length = n := ⟨_, rfl⟩
  rw [hn] at hl ⊢
  obtain ⟨r, hr⟩ : ∃ r, liteB es = r := ⟨_, rfl⟩
  have hal0 : Below w.heap.size w (w.alloc (.cells #[.int .u8 (y0.toNat : Int), .int .u8 (y1.toNat : Int), .int .u8 (y2.toNat : Int), .int .u8 (y3.toNat : Int)] 40)) := (Below.refl _ _).alloc (Nat.le_refl _) _
  have HLi := Lib.hid (light_any a n cap es _ (by omega) hn (h.old hal0) hok r hr)
  have HAw := Lib.hid fun w => awake9_any w
  have HRd := Lib.hid (h.old hal0)
  have HAL := Lib.hid hal0
  clear hal0
  cases r with
  | false =>
    clear hr hn h hok
    go_enter Try.func7, Try.ntmps7
    go_wp2_with fail
    refine HLi.out.mono ?_
    rintro e w1 ⟨rfl, b1⟩
    go_wp2_with fail
    refine (HAw.out _).mono ?_
    rintro e w2 ⟨rfl, b2⟩
    go_wp2
    go_ret
    exact ⟨rfl, below_al (bt b1 b2)⟩
  | true =>
    have hmk := made_ok es
    obtain ⟨M, hM⟩ : ∃ M, M = madeE es := ⟨_, rfl⟩
    have HMa := Lib.hid fun w h => made_any a n cap es w (by omega) hn h hok
    rw [← hM] at hmk HMa
    have HM60 := Lib.hid hmk.2
    obtain ⟨z, hz⟩ : ∃ z : ByteArray, z = ⟨(putB M).toArray⟩ := ⟨_, rfl⟩
    obtain ⟨L, hL⟩ : ∃ L, L = (headB M).length := ⟨_, rfl⟩
    have hzs : z.size = L + 4 := by rw [hz, size_mkl, hL]; unfold putB; rw [List.length_append, tailL_length]
    have hL1 : 1 ≤ L ∧ L ≤ 24009 := by have := headB_len hmk.1; have := hmk.2; omega
    have hzl : z.data.toList = headB M ++ tailL (headB M) := by rw [hz]; rfl
    have HTt := Lib.hid (show takeB z.data.toList = some M by rw [hz]; exact takeB_put hmk.1)
    have HP := Lib.hid fun (b : Option Addr) (k c : Nat) (w : World) (hk : M.length = k) (h : RdE w b M) => put9_ok b k c M w (by have := HM60.out; omega) hk h (okB_okV hmk.1) hmk.1
    rw [← hz] at HP
    have HS := Lib.hid hzs
    have HZ := Lib.hid hzl
    have HLL := Lib.hid hL
    clear hr hn h hok hmk hM hz hzl hL hzs
    obtain ⟨q, hqs, hq⟩ := place_of at_ L (by omega)
    have HQ : Hid ((bits .and .i64 at_ 65535).tmod ((z.size : Int) - 4) = (q : Int)) := Lib.hid (by rw [show (z.size : Int) - 4 = (L : Int) by rw [HS.out]; omega]; exact hq)
    clear hq
    obtain ⟨Y, hY⟩ : ∃ Y : List UInt8, Y = [y0, y1, y2, y3] := ⟨_, rfl⟩
    have hY4 : Y.length = 4 := by rw [hY]; rfl
    have hby : hasRow (w.alloc (.cells #[.int .u8 (y0.toNat : Int), .int .u8 (y1.toNat : Int), .int .u8 (y2.toNat : Int), .int .u8 (y3.toNat : Int)] 40)) w.heap.size Y := hasRow_box w _ _ _ _ _ Y hY
    have HBY := Lib.hid hby
    have HY4 := Lib.hid hY4
    have hz5 : (5 : Int) ≤ (z.size : Int) := by rw [HS.out]; omega
    have hz6 : (z.size : Int) ≤ 24013 := by rw [HS.out]; omega
    clear hY hY4 hby
    go_enter Try.func7, Try.ntmps7
    go_wp2_with fail
    refine HLi.out.mono ?_
    rintro e wa ⟨rfl, ba⟩
    have HRa := Lib.hid (HRd.out.old ba)
    have HWa := Lib.hid ba
    clear ba
    go_wp2_with fail
    refine (HMa.out _ HRa.out).mono ?_
    rintro e wb ⟨a2, m2, c2, rfl, ⟨sl2, sr2, _, _⟩, bb⟩
    have HM2 := Lib.hid sl2
    have HRM2 := Lib.hid sr2
    have HWb := Lib.hid (bt HWa.out bb)
    have hm2 : m2 < 9223372036854775808 := by have := HM60.out; rw [sl2] at this; omega
    clear bb sl2 sr2
    go_wp2_with fail
    refine (HP.out _ _ _ _ HM2.out HRM2.out).mono ?_
    rintro e w1 ⟨rfl, b1⟩
    have HRM1 := Lib.hid (HRM2.out.old b1)
    have HWc := Lib.hid (bt HWb.out b1)
    have HW1 := Lib.hid (below_al HWc.out)
    clear b1 HRM2
    go_wp2
    rw [Lib.run_convert_string_bytes _ 9 41 5 z Try.underlying9 Try.underlying41 Try.underlying5]
    have hrow := hasRow_bytes w1 5 z
    have hb2 := below_bytes w1 5 z
    have hsz2 := Lib.bytesWorld_size w1 5 z
    generalize Lib.bytesWorld w1 5 z = w2 at hrow hb2 hsz2
    generalize grownCap w1 z.size 0 5 = cp
    go_wp2
    rw [HQ.out]
    have hby1 : hasRow w1 w.heap.size Y := HBY.out.below (by simp) HWc.out
    have hw1 : w.heap.size < w1.heap.size := by have := HWc.out.size; simp at this; omega
    have hby2 : hasRow w2 w.heap.size Y := hby1.below hw1 hb2
    have HB2 := Lib.hid hb2
    obtain ⟨B, hB⟩ : ∃ B, B = w1.heap.size := ⟨_, rfl⟩
    rw [← hB] at hrow hw1
    rw [← hB]
    have HB := Lib.hid hB
    clear hB hby1 hb2 hsz2
    go_loopw [12, 13] (fun t i wr => ∃ j : Nat, j ≤ 4 ∧ q + j ≤ L ∧ i = .int .i64 j ∧ t = .bool (tn Y j) ∧ hasRow wr B (turnL z.data.toList q Y j) ∧ hasRow wr w.heap.size Y ∧ Below w1.heap.size w1 wr) (fun _ i _ => 4 - (intOf i).toNat)
    case atStart => exact ⟨0, by omega, by omega, rfl, rfl, by rw [turnL_zero]; exact hrow, hby2, HB2.out⟩
    case round =>
      obtain ⟨j, hj, hjs, rfl, rfl, hr, hy, hbel⟩ := hrel
      by_cases hgo : j < 4 ∧ q + j < L
      · obtain ⟨hj4, hjq⟩ := hgo
        have hzl : z.data.toList.length = L + 4 := by rw [← HS.out]; exact size_list z
        have hrl := turnL_length z.data.toList q Y j (by omega) (by rw [HY4.out]; omega)
        have hqz : q + j < z.data.toList.length := by omega
        have hjY : j < Y.length := by rw [HY4.out]; omega
        obtain ⟨x, hx⟩ : ∃ x, x = z.data.toList[q + j] := ⟨_, rfl⟩
        obtain ⟨y, hyy⟩ : ∃ y, y = Y[j] := ⟨_, rfl⟩
        obtain ⟨p, hp⟩ : ∃ p, p = q + j := ⟨_, rfl⟩
        have hc : wr.cell? ⟨B, p, none⟩ = some (.int .u8 (x.toNat : Int)) := by
          have h1 := (hr (q + j) (by omega)).1
          have h2 := turnL_get z.data.toList q Y j (by omega) (by rw [HY4.out]; omega)
          rw [List.getElem?_eq_getElem (by omega)] at h2
          rw [Option.some.inj h2, ← hx, ← hp] at h1
          exact h1
        have hf : wr.frozen? ⟨B, p, none⟩ = false := by rw [hp]; exact (hr (q + j) (by omega)).2
        have hcy : wr.cell? ⟨w.heap.size, j, none⟩ = some (.int .u8 (y.toNat : Int)) := by rw [hyy]; exact (hy j (by rw [HY4.out]; omega)).1
        have hjq' : (q : Int) + (j : Int) < (z.size : Int) - 4 := by rw [HS.out]; omega
        have hj4' : (j : Int) < 4 := by omega
        have hpz : (p : Int) < (z.size : Int) := by rw [HS.out]; omega
        have hps : (p : Int) < (z.size : Int) - 4 := by rw [HS.out]; omega
        have hwrap : IntKind.i64.wrap ((q : Int) + (j : Int)) = (p : Int) := by rw [hp, IntKind.wrap_i64]; omega
        have hxor : bits .xor .u8 (x.toNat : Int) (y.toNat : Int) = ((x ^^^ y).toNat : Int) := by
          rw [u8_xor_nat _ _ x.toNat_lt y.toNat_lt, UInt8.toNat_xor]
        have HP := Lib.hid hp
        have HX := Lib.hid hx
        have HYY := Lib.hid hyy
        have HXOR := Lib.hid hxor
        have HZL := Lib.hid hzl
        clear hp hx hyy hxor hzl hrl
        have hne : (⟨B, p, none⟩ : Addr) ≠ ⟨w.heap.size, j, none⟩ := by
          intro c
          cases c
          omega
        have hcy2 : ∀ v, (wr.setCell ⟨B, p, none⟩ v).cell? ⟨w.heap.size, j, none⟩ = some (.int .u8 (y.toNat : Int)) := fun v => (World.cell?_setCell_other wr _ _ _ hne).trans hcy
        have hend : ∀ t : Value, t = .bool (tn Y (j + 1)) → (∃ j_1 : Nat, j_1 ≤ 4 ∧ q + j_1 ≤ L ∧ Value.int .i64 ((j : Int) + 1) = .int .i64 j_1 ∧ t = .bool (tn Y j_1) ∧
            hasRow (wr.setCell ⟨B, p, none⟩ (.int .u8 (bits .xor .u8 (x.toNat : Int) (y.toNat : Int)))).drew B (turnL z.data.toList q Y j_1) ∧
            hasRow (wr.setCell ⟨B, p, none⟩ (.int .u8 (bits .xor .u8 (x.toNat : Int) (y.toNat : Int)))).drew w.heap.size Y ∧
            Below w1.heap.size w1 (wr.setCell ⟨B, p, none⟩ (.int .u8 (bits .xor .u8 (x.toNat : Int) (y.toNat : Int)))).drew) := by
          intro t ht
          refine ⟨j + 1, by omega, by omega, by go_num, ht, ?_, ?_, (hbel.setCell (by exact Nat.le_of_eq HB.out.symm) _).drew⟩
          · rw [HXOR.out, ← turnL_set z.data.toList q Y j hqz hjY, ← HX.out, ← HYY.out, ← HP.out]
            exact (hr.set p (by rw [HP.out, turnL_length _ _ _ _ (by omega) (by omega)]; exact hqz) _).drew
          · exact hasRow.drew (fun i hi => ⟨by
              have hne : (⟨B, p, none⟩ : Addr) ≠ ⟨w.heap.size, i, none⟩ := by
                intro c
                cases c
                omega
              rw [World.cell?_setCell_other wr _ _ _ hne]
              exact (hy i hi).1, by rw [World.frozen?_setCell]; exact (hy i hi).2⟩)
        have HEND := Lib.hid hend
        clear hend
        have hsn := tn_snoc Y j hjY
        rw [← HYY.out] at hsn
        by_cases htn : tn Y j = true
        · have HSN := Lib.hid hsn
          clear hsn
          go_wp2
          go_still_tail 15, (by kernel_rfl)
          change wpList _ _ _ _ _ wr.drew
          go_wp2
          go_roundw
          case rel => exact HEND.out _ (by rw [HSN.out, htn]; rfl)
          case measure => simp [intOf]; omega
        · have htn' : tn Y j = false := by simpa using htn
          clear htn
          by_cases hy0 : y = 0
          · have hyn : ((y.toNat : Int) != 0) = false := by rw [hy0]; rfl
            have HSN := Lib.hid hsn
            have HY0 := Lib.hid hy0
            clear hsn hy0
            go_wp2
            go_still_tail 15, (by kernel_rfl)
            change wpList _ _ _ _ _ wr.drew
            go_wp2
            go_roundw
            case rel => exact HEND.out _ (by rw [HSN.out, htn', HY0.out]; rfl)
            case measure => simp [intOf]; omega
          · have hyn : ((y.toNat : Int) != 0) = true := by
              rw [bne_iff_ne]
              intro e
              exact hy0 (UInt8.toNat_inj.1 (by simpa using e))
            have hyn2 : (y != 0) = true := by rw [bne_iff_ne]; exact hy0
            have HSN := Lib.hid hsn
            have HY0 := Lib.hid hyn2
            clear hsn hy0 hyn2
            go_wp2
            go_still_tail 15, (by kernel_rfl)
            change wpList _ _ _ _ _ wr.drew
            go_wp2
            go_roundw
            case rel => exact HEND.out _ (by rw [HSN.out, htn', HY0.out]; rfl)
            case measure => simp [intOf]; omega
      · have hend : j = 4 ∨ q + j = L := by omega
        have hchk := chk_turn (headB M) Y q j (by rw [← HLL.out]; exact hjs) (by rw [HY4.out]; exact hj) HY4.out
        rw [← HZ.out] at hchk
        have hzl : z.data.toList.length = L + 4 := by rw [← HS.out]; exact size_list z
        have hlen := turnL_length z.data.toList q Y j (by omega) (by rw [HY4.out]; exact hj)
        have hsame : tn Y j = false → turnL z.data.toList q Y j = z.data.toList := turn_same z.data.toList q Y j (by omega) (by rw [HY4.out]; exact hj)
        obtain ⟨T, hT⟩ : ∃ T, T = turnL z.data.toList q Y j := ⟨_, rfl⟩
        rw [← hT] at hr hchk hlen hsame
        have hlen' : T.length = z.size := by rw [hlen, hzl, HS.out]
        have HCHK := Lib.hid hchk
        have HSAME := Lib.hid hsame
        have HLEN := Lib.hid hlen'
        have HHR := Lib.hid hr
        have HBEL := Lib.hid hbel
        clear hgo hlen hzl hlen' hT hchk hsame
        have hcv : ∀ w : World, hasRow w B T → (convert 41 9 (.slice (some ⟨B, 0, none⟩) z.size cp)).run Try.prog w = .ok (.string ⟨T.toArray⟩) w :=
          fun w h => run_str_row w 41 9 5 Try.underlying41 Try.underlying5 Try.underlying9 B z.size cp T HLEN.out h
        have HCV := Lib.hid hcv
        have hTs : (⟨T.toArray⟩ : ByteArray).size ≤ 16777216 := by rw [size_mkl, HLEN.out, HS.out]; omega
        have hTd : (⟨T.toArray⟩ : ByteArray).data.toList = T := by simp
        have hd5 : (decide ((j : Int) < 4) = false) ∨ (((j : Int) < 4) ∧ decide ((q : Int) + (j : Int) < (z.size : Int) - 4) = false) := by
          rw [HS.out]
          rcases hend with hj4 | hjq
          · left; simp; omega
          · by_cases hj4 : j < 4
            · right; exact ⟨by omega, by simp; omega⟩
            · left; simp; omega
        have HWr := Lib.hid (HW1.out.trans (HBEL.out.mono HW1.out.size))
        have HRMr := Lib.hid (HRM1.out.old HBEL.out)
        clear hcv hend hbel hr
        by_cases htn : tn Y j = true
        · have HT := Lib.hid (show takeB (⟨T.toArray⟩ : ByteArray).data.toList = none by
            rw [hTd]
            unfold takeB
            rw [if_neg]
            rw [HCHK.out]
            show ¬ (!tn Y j) = true
            rw [htn]
            decide)
          clear hTd
          rcases hd5 with hd5 | ⟨hd5, hd6⟩
          all_goals
            go_wp2
            rw [HCV.out _ HHR.out]
            go_wp2_with fail
            refine (take9_bad _ _ hTs HT.out).mono ?_
            rintro e w3 ⟨rfl, b3⟩
            have HW3 := Lib.hid (bt HWr.out b3)
            clear b3
            go_wp2_with fail
            refine (HAw.out _).mono ?_
            rintro e w4 ⟨rfl, b4⟩
            have HW4 := Lib.hid (bt HW3.out b4)
            go_wp2
            go_ret
            exact ⟨rfl, HW4.out⟩
        · have htn' : tn Y j = false := by simpa using htn
          have HT := Lib.hid (show takeB (⟨T.toArray⟩ : ByteArray).data.toList = some M by rw [hTd, HSAME.out htn']; exact HTt.out)
          clear hTd htn
          rcases hd5 with hd5 | ⟨hd5, hd6⟩
          all_goals
            go_wp2
            rw [HCV.out _ HHR.out]
            go_wp2_with fail
            refine (take9_ok _ M _ hTs HT.out).mono ?_
            rintro e w3 ⟨a3, c3, rfl, r3, b3⟩
            rw [HM2.out]
            have HW3 := Lib.hid (bt HWr.out b3)
            have HR3 := Lib.hid r3
            have HRM3 := Lib.hid (HRMr.out.old b3)
            clear b3 r3
            go_wp2_with fail
            refine (samee_any _ _ m2 _ _ M _ HR3.out HRM3.out hm2 HM2.out).mono ?_
            rintro e w4 ⟨rfl, b4⟩
            have HW4 := Lib.hid (bt HW3.out b4)
            clear b4
            go_wp2_with fail
            refine (HAw.out _).mono ?_
            rintro e w5 ⟨rfl, b5⟩
            have HW5 := Lib.hid (bt HW4.out b5)
            go_wp2
            go_ret
            exact ⟨rfl, HW5.out⟩
end Go.Proofs.Ytjneigejcaahiaa
