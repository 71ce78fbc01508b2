/-
  Layer 16 (post): the walk of PostSpoilt. Conditions: none.
-/
import Derived.Test.YtdnhmkfgcpdbkaaUj
import Derived.Test.YtdnhmkfgcpdbkaaA5
import Derived.Test.YtdnhmkfgcpdbkaaBt
import Derived.RegionTactic
import Derived.BigRegion
import Derived.StillTailTactics
import Derived.Laws.BitsAllLaws
namespace Go.Proofs.Ytdnhmkfgcpdbkaa
open Go.RowKit
set_option linter.unusedVariables false
set_option linter.unusedSimpArgs false

theorem box_range (w : World) (VL : List Value) (T : TypeId) : (w.alloc (.cells VL.toArray T)).rangeAt w.heap.size 0 VL := fun j v hj => by
  rw [Nat.zero_add, alloc_cell, List.getElem?_toArray]
  exact hj
/-- Take, its answer's cells as a list, whatever it is. -/
theorem take16l (s : ByteArray) (w : World) (hs : s.size ≤ 140737488351232) (E : Int) (hE : E = if tkOk s = true then 0 else 160) : Calls Try.prog 14 #[.string s] w fun e w' => Below w.heap.size w w' ∧
    ∃ UL : List Value, e = .returned (.tuple #[.agg UL.toArray, .int .i64 E]) ∧ UL.length = 25 ∧ UL.toArray.all (·.oneCell') = true := by
  refine (take16 s w hs).mono ?_
  rintro e w' ⟨hb, ⟨h0, rfl⟩ | ⟨h0, VL, rfl, hm⟩⟩
  · rw [hE, h0]
    exact ⟨hb, [.int .i64 0, .int .i64 0, .int .i64 0, .int .i64 0, .int .i64 0, .int .i64 0, .int .i64 0, .bool false, .int .i64 0, .string ⟨#[]⟩, .string ⟨#[]⟩, .string ⟨#[]⟩, .bool false, .slice none 0 0, .string ⟨#[]⟩, .string ⟨#[]⟩, .int .i64 0, .int .i64 0, .string ⟨#[]⟩, .bool false, .slice none 0 0, .string ⟨#[]⟩, .slice none 0 0, .slice none 0 0, .slice none 0 0], rfl, rfl, by kernel_rfl⟩
  · rw [hE, h0]
    exact ⟨hb, VL, rfl, hm.len, hm.one⟩
theorem turnL_none (L Y : List UInt8) (k j : Nat) (hk : k + j ≤ L.length) (hj : j ≤ Y.length) (h : (Y.take j).any (· != 0) = false) : turnL L k Y j = L := by
  unfold turnL
  have hl : ((L.drop k).take j).length = (Y.take j).length := by
    simp only [List.length_take, List.length_drop]
    omega
  rw [(zxl_same hl).2 h, List.append_assoc, ← List.drop_drop, List.take_append_drop, List.take_append_drop]
theorem spoilt_tk (T Y : List UInt8) (q j : Nat) (hT : tkOk (sealB T) = true) (hq : q + j ≤ T.length) (hj : j ≤ Y.length) (hY : Y.length = 4) : tkOk ⟨(turnL (T ++ CR.tailL T) q Y j).toArray⟩ = !(CR.tn Y j) := by
  by_cases h : CR.tn Y j = true
  · rw [h]
    have := CR.chk_turn T Y q j hq hj hY
    unfold CR.tn at h
    rw [h] at this
    unfold tkOk
    rw [show (⟨(turnL (T ++ CR.tailL T) q Y j).toArray⟩ : ByteArray).data.toList = turnL (T ++ CR.tailL T) q Y j by simp, this]
    simp
  · have h' : CR.tn Y j = false := by simpa using h
    rw [h', turnL_none (T ++ CR.tailL T) Y q j (by rw [List.length_append]; omega) hj h']
    exact hT
theorem msg_store {w : World} {UL : List Value} (h1 : UL.length = 25) (h2 : UL.toArray.all (·.oneCell') = true) :
    (w.alloc (.cells #[.int .i64 0, .int .i64 0, .int .i64 0, .int .i64 0, .int .i64 0, .int .i64 0, .int .i64 0, .bool false, .int .i64 0, .string ⟨#[]⟩, .string ⟨#[]⟩, .string ⟨#[]⟩, .bool false, .slice none 0 0, .string ⟨#[]⟩, .string ⟨#[]⟩, .int .i64 0, .int .i64 0, .string ⟨#[]⟩, .bool false, .slice none 0 0, .string ⟨#[]⟩, .slice none 0 0, .slice none 0 0, .slice none 0 0] 35)).there w.heap.size 0 UL.toArray.size ∧ (Try.prog.info? 35).map (·.size) = some UL.toArray.size ∧
    Below w.heap.size w ((w.alloc (.cells #[.int .i64 0, .int .i64 0, .int .i64 0, .int .i64 0, .int .i64 0, .int .i64 0, .int .i64 0, .bool false, .int .i64 0, .string ⟨#[]⟩, .string ⟨#[]⟩, .string ⟨#[]⟩, .bool false, .slice none 0 0, .string ⟨#[]⟩, .string ⟨#[]⟩, .int .i64 0, .int .i64 0, .string ⟨#[]⟩, .bool false, .slice none 0 0, .string ⟨#[]⟩, .slice none 0 0, .slice none 0 0, .slice none 0 0] 35)).setCells w.heap.size 0 UL) := by
  have hz : UL.toArray.size = 25 := by rw [List.size_toArray, h1]
  refine ⟨?_, by rw [hz]; exact Try.sizeMsg, below_sets UL 0 _ ((Below.refl _ w).alloc (Nat.le_refl _) _) (Nat.le_refl _)⟩
  rw [hz]
  exact there_heap (heap_alloc_new w _) rfl
set_option maxRecDepth 100000 in
set_option maxHeartbeats 8000000 in
theorem walk_PostSpoilt (VL : List Value) (m : Mg) (at_ : Int) (_ : (Lit.int .i64 at_).wf = true) (y0 y1 y2 y3 : UInt8) (w : World) (h : MV (LRd w) VL m) :
    Calls Try.prog 6 #[.agg VL.toArray, .int .i64 at_, .agg #[.int .u8 (y0.toNat : Int), .int .u8 (y1.toNat : Int), .int .u8 (y2.toNat : Int), .int .u8 (y3.toNat : Int)]] w fun e w' => e = .returned (.bool true) ∧ Below w.heap.size w w' := by
  have HLT := Lib.hid (fun W (hb : Below w.heap.size w W) => light16 VL m W (h.old hb))
  have HPT := Lib.hid (fun W (hb : Below w.heap.size w W) => put16 VL m W (h.old hb))
  have HSU : Hid ((Try.prog.info? 35).map (·.size) = some VL.length) := Lib.hid (by rw [h.len]; exact Try.sizeMsg)
  have HSH := Lib.hid h.shl
  obtain ⟨Y, hY⟩ : ∃ Y : List UInt8, Y = [y0, y1, y2, y3] := ⟨_, rfl⟩
  have hY4 : Y.length = 4 := by rw [hY]; rfl
  obtain ⟨mb, hmb⟩ : ∃ x, x = w.heap.size := ⟨_, rfl⟩
  obtain ⟨yb, hyb⟩ : ∃ x, x = w.heap.size + 1 := ⟨_, rfl⟩
  obtain ⟨W1, hW1⟩ : ∃ W, W = (w.alloc (.cells VL.toArray 35)).alloc (.cells #[.int .u8 (y0.toNat : Int), .int .u8 (y1.toNat : Int), .int .u8 (y2.toNat : Int), .int .u8 (y3.toNat : Int)] 45) := ⟨_, rfl⟩
  have e1 : (w.alloc (.cells VL.toArray 35)).heap.size = w.heap.size + 1 := by simp
  have hs1 : W1.heap.size = w.heap.size + 2 := by rw [hW1]; simp
  have hb0 : Below w.heap.size w (w.alloc (.cells VL.toArray 35)) := (Below.refl _ w).alloc (Nat.le_refl _) _
  have hb1 : Below w.heap.size w W1 := by rw [hW1]; exact hb0.alloc (by rw [e1]; omega) _
  have hr1 : W1.rangeAt mb 0 VL := fun i v hi => by
    rw [hW1, hmb]
    have hlt : w.heap.size < (w.alloc (.cells VL.toArray 35)).heap.size := by rw [e1]; omega
    exact ((Below.refl (w.alloc (.cells VL.toArray 35)).heap.size (w.alloc (.cells VL.toArray 35))).alloc (Nat.le_refl _) _ |>.cell (p := ⟨w.heap.size, _, none⟩) hlt).trans (box_range w VL _ i v hi)
  have hy1 : hasRow W1 yb Y := by
    have := hasRow_box (w.alloc (.cells VL.toArray 35)) 45 y0 y1 y2 y3 Y hY
    rw [e1] at this
    rw [hW1, hyb]
    exact this
  have hml : mb < W1.heap.size := by omega
  have hyl : yb < W1.heap.size := by omega
  have HX := Lib.hid (And.intro hmb hyb)
  have HB1 := Lib.hid hb1
  have HR1 := Lib.hid hr1
  have HY1 := Lib.hid hy1
  have HY4 := Lib.hid hY4
  clear h e1 hs1 hb0 hb1 hr1 hy1 hmb hyb hY hY4
  go_enter Try.func6, Try.ntmps6
  go_upto_region 1 with fail
  rw [← hW1]
  rw [show w.heap.size + 1 = yb from HX.out.2.symm]
  rw [show (Value.pointer (some ⟨w.heap.size, 0, none⟩)) = .pointer (some ⟨mb, 0, none⟩) by rw [HX.out.1]]
  clear hW1
  go_wp2_with (refine wpList_load_mid rfl 35 (.tmp 3) rfl mb 0 rfl VL _ HR1.out Try.underlying35 rfl HSU.out ?_)
  refine (HLT.out _ HB1.out).mono ?_
  rintro e w2 ⟨⟨b0, rfl⟩, hb⟩
  have HB2 := Lib.hid (HB1.out.trans (hb.mono HB1.out.size))
  have HR2 : Hid (w2.rangeAt mb 0 VL) := Lib.hid (fun j v hj => (hb.cell (p := ⟨mb, _, none⟩) hml).trans (HR1.out j v hj))
  have HY2 := Lib.hid (HY1.out.below hyl hb)
  have hml2 : mb < w2.heap.size := Nat.lt_of_lt_of_le hml hb.size
  have hyl2 : yb < w2.heap.size := Nat.lt_of_lt_of_le hyl hb.size
  clear hb HLT HB1 HR1 HY1 hml hyl
  cases b0 with
  | false =>
    go_wp2_with fail
    refine (awake16_any w2).mono ?_
    rintro e w6 ⟨rfl, hb⟩
    have HB6 := Lib.hid (HB2.out.trans (hb.mono HB2.out.size))
    clear hb
    go_wp2_with fail
    go_ret
    exact ⟨rfl, HB6.out⟩
  | true =>
  obtain ⟨pS, hpS⟩ : ∃ x, x = putS m := ⟨_, rfl⟩
  obtain ⟨pE, hpE⟩ : ∃ x, x = putE m := ⟨_, rfl⟩
  rw [← hpS, ← hpE] at HPT
  have HPT2 := Lib.hid (HPT.out w2 HB2.out)
  have HPS := Lib.hid (And.intro hpS hpE)
  clear HPT hpS hpE
  go_wp2_with (refine wpList_load_mid rfl 35 (.tmp 3) rfl mb 0 rfl VL _ HR2.out Try.underlying35 rfl HSU.out ?_)
  refine HPT2.out.mono ?_
  rintro e w3 ⟨rfl, hb⟩
  have HB3 := Lib.hid (HB2.out.trans (hb.mono HB2.out.size))
  have HY3 := Lib.hid (HY2.out.below hyl2 hb)
  have hyl3 : yb < w3.heap.size := Nat.lt_of_lt_of_le hyl2 hb.size
  clear hb HPT2 HB2 HR2 HY2 hml2 hyl2
  by_cases hpo : putOk m = true
  case neg =>
    obtain rfl : pS = ⟨#[]⟩ := by rw [HPS.out.1]; unfold putS; rw [if_neg hpo]
    obtain rfl : pE = 1 := by rw [HPS.out.2]; unfold putE; rw [if_neg hpo]
    clear hpo HPS
    go_wp2_with fail
    refine (awake16_any w3).mono ?_
    rintro e w6 ⟨rfl, hb⟩
    have HB6 := Lib.hid (HB3.out.trans (hb.mono HB3.out.size))
    clear hb
    go_wp2_with fail
    go_ret
    exact ⟨rfl, HB6.out⟩
  obtain rfl : pE = 0 := by rw [HPS.out.2]; unfold putE; rw [if_pos hpo]
  obtain ⟨T, hT⟩ : ∃ T, T = txM m := ⟨_, rfl⟩
  have hpz : pS = sealB T := by rw [HPS.out.1, hT]; unfold putS; rw [if_pos hpo]
  have hok : okM m = true ∧ (sealB (txM m)).size ≤ 262144 := by
    unfold putOk at hpo
    simp only [Bool.and_eq_true, decide_eq_true_eq] at hpo
    exact ⟨hpo.1.1, hpo.2⟩
  have htk : tkOk (sealB T) = true := by rw [hT]; exact (take_put m HSH.out.1 HSH.out.2.1 HSH.out.2.2 hok.1).1
  obtain ⟨n, hn⟩ : ∃ n, n = T.length := ⟨_, rfl⟩
  have hzs : pS.size = n + 4 := by rw [hpz, seal_size, hn]
  have hzl : pS.data.toList = T ++ CR.tailL T := by rw [hpz]; simp [sealB]
  have hn0 : 0 < n := by
    have hA : ∃ x r, m.A = x :: r := by
      have := HSH.out.2.2.a
      cases hmA : m.A with
      | nil => rw [hmA] at this; cases this
      | cons x r => exact ⟨x, r, rfl⟩
    have hk : ∃ k r, m.A = .n 1 15 k :: r := by
      obtain ⟨x, r, hx⟩ := hA
      have := HSH.out.2.2.a
      rw [hx] at this
      cases x with
      | n lo hi k => injection this with e1 _; injection e1 with e1 e2 _; subst e1 e2; exact ⟨k, r, hx⟩
      | t _ => injection this with e1 _; cases e1
      | f _ => injection this with e1 _; cases e1
      | r _ => injection this with e1 _; cases e1
    obtain ⟨k, r, hk⟩ := hk
    rw [hn, hT]
    have h1 : (vL k.toNat).length ≤ (txM m).length := by
      unfold txM
      rw [hk]
      rw [List.length_append]
      refine Nat.le_trans ?_ (Nat.le_add_right _ _)
      unfold txE
      rw [List.flatMap_cons, List.length_append]
      exact Nat.le_add_right _ _
    have h2 := vL_pos k.toNat
    omega
  have hn2 : n ≤ 262140 := by have := hok.2; rw [← hT, ← hpz, hzs] at this; omega
  have HTK := Lib.hid (And.intro htk (And.intro hn hzl))
  have HS := Lib.hid hzs
  have hz5 : ¬ (pS.size : Int) < 5 := by omega
  have hzn : (pS.size : Int) - 4 = (n : Int) := by omega
  have hn00 : ¬ n = 0 := by omega
  obtain ⟨q, hqs, hq⟩ := CR.place_of at_ n hn0
  clear hT hpz hok htk hn hzs hzl hpo HPS HSH
  go_upto_region 8 with fail
  go_wp2
  rw [Lib.run_convert_string_bytes _ 9 46 5 pS Try.underlying9 Try.underlying46 Try.underlying5]
  have hrow := hasRow_bytes w3 5 pS
  have hb2 := below_bytes w3 5 pS
  have hsz2 := Lib.bytesWorld_size w3 5 pS
  generalize Lib.bytesWorld w3 5 pS = w4 at hrow hb2 hsz2
  generalize grownCap w3 pS.size 0 5 = cp
  go_wp2
  have HB4 := Lib.hid (HB3.out.trans (hb2.mono HB3.out.size))
  have hy4 : hasRow w4 yb Y := HY3.out.below hyl3 hb2
  obtain ⟨B, hB⟩ : ∃ B, B = w3.heap.size := ⟨_, rfl⟩
  rw [← hB] at hrow
  rw [← hB]
  have hyB : yb < B := by rw [hB]; exact hyl3
  have hwB : w.heap.size ≤ B := by rw [hB]; exact HB3.out.size
  clear hB hb2 hsz2 HB3 HY3 hyl3
  go_loopw [11, 12] (fun t i wr => ∃ j : Nat, j ≤ 4 ∧ q + j ≤ n ∧ i = .int .i64 j ∧ t = .bool (CR.tn Y j) ∧ hasRow wr B (turnL pS.data.toList q Y j) ∧ hasRow wr yb Y ∧ Below w.heap.size w wr) (fun _ i _ => 4 - (intOf i).toNat)
  case atStart => exact ⟨0, by omega, by omega, rfl, rfl, by rw [turnL_zero]; exact hrow, hy4, HB4.out⟩
  case round =>
    obtain ⟨j, hj, hjs, rfl, rfl, hr, hy, hbel⟩ := hrel
    have hlT : pS.data.toList.length = n + 4 := by rw [← HS.out]; simp
    by_cases hgo : j < 4 ∧ q + j < n
    · obtain ⟨hj4, hjq⟩ := hgo
      have hrl := turnL_length pS.data.toList q Y j (by omega) (by rw [HY4.out]; omega)
      have hqz : q + j < pS.data.toList.length := by omega
      have hjY : j < Y.length := by rw [HY4.out]; omega
      obtain ⟨x, hx⟩ : ∃ x, x = pS.data.toList[q + j] := ⟨_, rfl⟩
      obtain ⟨y, hyy⟩ : ∃ y, y = Y[j] := ⟨_, rfl⟩
      obtain ⟨p, hp⟩ : ∃ p, p = q + j := ⟨_, rfl⟩
      have hc : wr.cell? ⟨B, p, none⟩ = some (.int .u8 (x.toNat : Int)) := by
        have h1 := (hr (q + j) (by omega)).1
        have h2 := turnL_get pS.data.toList q Y j (by omega) (by rw [HY4.out]; omega)
        rw [List.getElem?_eq_getElem (by omega)] at h2
        rw [Option.some.inj h2, ← hx, ← hp] at h1
        exact h1
      have hf : wr.frozen? ⟨B, p, none⟩ = false := by rw [hp]; exact (hr (q + j) (by omega)).2
      have hcy : wr.cell? ⟨yb, j, none⟩ = some (.int .u8 (y.toNat : Int)) := by rw [hyy]; exact (hy j (by rw [HY4.out]; omega)).1
      have hjq' : (q : Int) + (j : Int) < (n : Int) := by omega
      have hj4' : (j : Int) < 4 := by omega
      have hpz : (p : Int) < (pS.size : Int) := by rw [HS.out]; omega
      have hps : (p : Int) < (n : Int) := by omega
      have hwrap : IntKind.i64.wrap ((q : Int) + (j : Int)) = (p : Int) := by rw [hp, IntKind.wrap_i64]; omega
      have hxor : bits .xor .u8 (x.toNat : Int) (y.toNat : Int) = ((x ^^^ y).toNat : Int) := by
        rw [u8_xor_nat _ _ x.toNat_lt y.toNat_lt, UInt8.toNat_xor]
      have HP := Lib.hid hp
      have HXX := Lib.hid hx
      have HYY := Lib.hid hyy
      have HXOR := Lib.hid hxor
      clear hp hx hyy hxor hrl
      have hne : (⟨B, p, none⟩ : Addr) ≠ ⟨yb, j, none⟩ := by
        intro c
        injection c with c _ _
        omega
      have hcy2 : ∀ v, (wr.setCell ⟨B, p, none⟩ v).cell? ⟨yb, j, none⟩ = some (.int .u8 (y.toNat : Int)) := fun v => (World.cell?_setCell_other wr _ _ _ hne).trans hcy
      have hend : ∀ t : Value, t = .bool (CR.tn Y (j + 1)) → (∃ j_1 : Nat, j_1 ≤ 4 ∧ q + j_1 ≤ n ∧ Value.int .i64 ((j : Int) + 1) = .int .i64 j_1 ∧ t = .bool (CR.tn Y j_1) ∧
          hasRow (wr.setCell ⟨B, p, none⟩ (.int .u8 (bits .xor .u8 (x.toNat : Int) (y.toNat : Int)))).drew B (turnL pS.data.toList q Y j_1) ∧
          hasRow (wr.setCell ⟨B, p, none⟩ (.int .u8 (bits .xor .u8 (x.toNat : Int) (y.toNat : Int)))).drew yb Y ∧
          Below w.heap.size w (wr.setCell ⟨B, p, none⟩ (.int .u8 (bits .xor .u8 (x.toNat : Int) (y.toNat : Int)))).drew) := by
        intro t ht
        refine ⟨j + 1, by omega, by omega, by go_num, ht, ?_, ?_, (hbel.setCell (by exact hwB) _).drew⟩
        · rw [HXOR.out, ← turnL_set pS.data.toList q Y j hqz hjY, ← HXX.out, ← HYY.out, ← HP.out]
          exact (hr.set p (by rw [HP.out, turnL_length _ _ _ _ (by omega) (by omega)]; exact hqz) _).drew
        · exact hasRow.drew (fun i hi => ⟨by
            have hne : (⟨B, p, none⟩ : Addr) ≠ ⟨yb, i, none⟩ := by
              intro c
              injection c with c _ _
              omega
            rw [World.cell?_setCell_other wr _ _ _ hne]
            exact (hy i hi).1, by rw [World.frozen?_setCell]; exact (hy i hi).2⟩)
      have HEND := Lib.hid hend
      have hsn := CR.tn_snoc Y j hjY
      rw [← HYY.out] at hsn
      clear hend hlT
      by_cases htn : CR.tn Y j = true
      · have HSN := Lib.hid hsn
        clear hsn
        go_wp2
        go_still_tail 15, (by kernel_rfl)
        change wpList _ _ _ _ _ wr.drew
        go_wp2
        go_roundw
        case rel => exact HEND.out _ (by rw [HSN.out, htn]; rfl)
        case measure => simp [intOf]; omega
      · have htn' : CR.tn Y j = false := by simpa using htn
        clear htn
        by_cases hy0 : y = 0
        · have hyn : ((y.toNat : Int) != 0) = false := by rw [hy0]; rfl
          have HSN := Lib.hid hsn
          have HY0 := Lib.hid hy0
          clear hsn hy0
          go_wp2
          go_still_tail 15, (by kernel_rfl)
          change wpList _ _ _ _ _ wr.drew
          go_wp2
          go_roundw
          case rel => exact HEND.out _ (by rw [HSN.out, htn', HY0.out]; rfl)
          case measure => simp [intOf]; omega
        · have hyn : ((y.toNat : Int) != 0) = true := by
            rw [bne_iff_ne]
            intro e
            exact hy0 (UInt8.toNat_inj.1 (by simpa using e))
          have hyn2 : (y != 0) = true := by rw [bne_iff_ne]; exact hy0
          have HSN := Lib.hid hsn
          have HY0 := Lib.hid hyn2
          clear hsn hy0 hyn2
          go_wp2
          go_still_tail 15, (by kernel_rfl)
          change wpList _ _ _ _ _ wr.drew
          go_wp2
          go_roundw
          case rel => exact HEND.out _ (by rw [HSN.out, htn', HY0.out]; rfl)
          case measure => simp [intOf]; omega
    · have hend : j = 4 ∨ q + j = n := by omega
      have htk := spoilt_tk T Y q j HTK.out.1 (by rw [← HTK.out.2.1]; exact hjs) (by rw [HY4.out]; exact hj) HY4.out
      rw [← HTK.out.2.2] at htk
      have hlen := turnL_length pS.data.toList q Y j (by omega) (by rw [HY4.out]; exact hj)
      obtain ⟨U, hU⟩ : ∃ U, U = turnL pS.data.toList q Y j := ⟨_, rfl⟩
      rw [← hU] at hr htk hlen
      have hlen' : U.length = pS.size := by rw [hlen, hlT, HS.out]
      have HLEN := Lib.hid hlen'
      have HHR := Lib.hid hr
      clear hgo hlen hlT hlen' hU
      have HCV : Hid (∀ w : World, hasRow w B U → (convert 46 9 (.slice (some ⟨B, 0, none⟩) pS.size cp)).run Try.prog w = .ok (.string ⟨U.toArray⟩) w) := Lib.hid
        fun w h => run_str_row w 46 9 5 Try.underlying46 Try.underlying5 Try.underlying9 B pS.size cp U HLEN.out h
      have hUs : U.length ≤ 300000 := by rw [HLEN.out, HS.out]; omega
      obtain ⟨tb, htb⟩ : ∃ t, t = CR.tn Y j := ⟨_, rfl⟩
      obtain ⟨E, hE⟩ : ∃ E : Int, E = if tb = true then 160 else 0 := ⟨_, rfl⟩
      have HTE : Hid (∀ W, Calls Try.prog 14 #[.string ⟨U.toArray⟩] W fun e w' => Below W.heap.size W w' ∧ ∃ UL : List Value, e = .returned (.tuple #[.agg UL.toArray, .int .i64 E]) ∧ UL.length = 25 ∧ UL.toArray.all (·.oneCell') = true) := Lib.hid fun W =>
        take16l ⟨U.toArray⟩ W (by show U.toArray.size ≤ _; rw [List.size_toArray]; omega) E (by rw [hE, htk, htb]; cases CR.tn Y j <;> rfl)
      have hEb : (E == 160) = tb := by rw [hE]; cases tb <;> rfl
      have hd5 : (decide ((j : Int) < 4) = false) ∨ (((j : Int) < 4) ∧ decide ((q : Int) + (j : Int) < (n : Int)) = false) := by
        rcases hend with hj4 | hjq
        · left; simp; omega
        · by_cases hj4 : j < 4
          · right; exact ⟨by omega, by simp; omega⟩
          · left; simp; omega
      rw [← htb]
      clear hend htk hE htb hr hUs
      rcases hd5 with hd5 | ⟨hd5, hd6⟩
      all_goals
        go_wp2
        rw [HCV.out _ HHR.out]
        go_wp2_with fail
        refine (HTE.out _).mono ?_
        rintro e w5 ⟨hb, UL, rfl, hu1, hu2⟩
        have hst := msg_store (w := w5) hu1 hu2
        have HB6 := Lib.hid ((hbel.trans (hb.mono hbel.size)).trans (hst.2.2.mono (hbel.trans (hb.mono hbel.size)).size))
        have HST := Lib.hid (And.intro hst.1 (And.intro hst.2.1 hu2))
        clear hb hst hu1 hu2
        go_wp2_with (refine wpList_store_mid rfl 35 (.tmp 13) (.tmp 81) rfl w5.heap.size 0 UL.toArray ?f1 ?f2 ?f3 ?f4 ?f5 ?_)
        case f4 => exact HST.out.2.1
        case f5 => exact HST.out.2.2
        case f1 => rfl
        case f2 => rfl
        case f3 => exact HST.out.1
        refine (awake16_any _).mono ?_
        rintro e w6 ⟨rfl, hb⟩
        have HB7 := Lib.hid (HB6.out.trans (hb.mono HB6.out.size))
        clear hb
        go_wp2_with fail
        go_ret
        exact ⟨rfl, HB7.out⟩
end Go.Proofs.Ytdnhmkfgcpdbkaa
