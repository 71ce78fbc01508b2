/-
  Layer 2 (crc): the walk of the law CrcTells. Conditions: the text within the form's reach.
-/
import Derived.Test.YtaonkiagbppeeaaClawA
import Derived.Test.YtaonkiagbppeeaaTn
import Derived.RegionTactic
import Derived.BigRegion
import Derived.StillTailTactics
namespace Go.Proofs.Ytaonkiagbppeeaa
open Go.RowKit

theorem tailL_inj {l m : List UInt8} (h : tailL l = tailL m) : crcV 0 l = crcV 0 m := by
  have h1 := fixV_fixL (crcV 0 l) (crcV_lt l (by omega)) []
  have h2 := fixV_fixL (crcV 0 m) (crcV_lt m (by omega)) []
  rw [List.append_nil] at h1 h2
  rw [← h1, ← h2]
  exact congrArg fixV h
/-- A sealed text of which up to four bytes in a row, from k on, are turned. -/
theorem chk_turn (s Y : List UInt8) (k j : Nat) (hk : k + j ≤ s.length) (hj : j ≤ Y.length) (hY : Y.length = 4) :
    chk (turnL (s ++ tailL s) k Y j) = !((Y.take j).any (· != 0)) := by
  have h1 : turnL (s ++ tailL s) k Y j = turnL s k Y j ++ tailL s := by
    unfold turnL
    rw [List.take_append_of_le_length (by omega), List.drop_append_of_le_length (by omega), List.take_append_of_le_length (by simp; omega), List.drop_append_of_le_length (by omega), List.append_assoc]
    simp
  have hl := turnL_length s k Y j hk hj
  have hx : ((s.drop k).take j).length = (Y.take j).length := by
    simp only [List.length_take, List.length_drop]
    omega
  have h2 : (turnL s k Y j ++ tailL s).length = s.length + 4 := by rw [List.length_append, hl, tailL_length]
  rw [h1, chk, h2, show s.length + 4 - 4 = s.length by omega, ← hl, List.drop_left, List.take_left, hl]
  rw [decide_eq_true (by omega : 4 ≤ s.length + 4), Bool.true_and]
  have hs : s = s.take k ++ (s.drop k).take j ++ s.drop (k + j) := by
    rw [List.append_assoc, ← List.drop_drop, List.take_append_drop, List.take_append_drop]
  have hz := zxl_same hx
  cases hany : (Y.take j).any (· != 0) with
  | false =>
    have e := hz.2 hany
    have : turnL s k Y j = s := by
      rw [turnL, e]
      exact hs.symm
    rw [this]
    simp
  | true =>
    have hne : ¬ zxl ((s.drop k).take j) (Y.take j) = (s.drop k).take j := fun e => by
      have := hz.1 e
      rw [hany] at this
      cases this
    show (tailL s == tailL (turnL s k Y j)) = false
    rw [beq_eq_false_iff_ne]
    intro e
    have e1 := tailL_inj e
    rw [turnL] at e1
    have e2 : crcV 0 (s.take k ++ (s.drop k).take j ++ s.drop (k + j)) = crcV 0 (s.take k ++ zxl ((s.drop k).take j) (Y.take j) ++ s.drop (k + j)) := by
      rw [← hs]
      exact e1
    exact hne (crcV_tells (by omega) (by simp only [zxl, List.length_zipWith]; omega) (by simp only [List.length_take]; omega) e2).symm

/-- Whether one of the first j is no zero. -/
def tn (Y : List UInt8) (j : Nat) : Bool := (Y.take j).any (· != 0)
theorem tn_snoc (Y : List UInt8) (j : Nat) (h : j < Y.length) : tn Y (j + 1) = (tn Y j || Y[j] != 0) := any_snoc Y j h
theorem place_of (x : Int) (n : Nat) (h : 0 < n) : ∃ q : Nat, q < n ∧ (bits .and .i64 x 65535).tmod (n : Int) = (q : Int) := by
  have h1 := i64_low 16 (by omega) 65535 x (by decide)
  have h2 : 0 ≤ x % 2 ^ 16 := by omega
  have h3 := Int.emod_nonneg (x % 2 ^ 16) (b := (n : Int)) (by omega)
  have h4 := Int.emod_lt_of_pos (x % 2 ^ 16) (b := (n : Int)) (by omega)
  refine ⟨(x % 2 ^ 16 % (n : Int)).toNat, by omega, ?_⟩
  rw [h1, Int.tmod_eq_emod_of_nonneg h2]
  omega
theorem hasRow_box (w : World) (t : TypeId) (y0 y1 y2 y3 : UInt8) (Y : List UInt8) (hY : Y = [y0, y1, y2, y3]) :
    hasRow (w.alloc (.cells #[.int .u8 (y0.toNat : Int), .int .u8 (y1.toNat : Int), .int .u8 (y2.toNat : Int), .int .u8 (y3.toNat : Int)] t)) w.heap.size Y := by
  subst hY
  intro j hj
  have hj' : j < 4 := hj
  refine ⟨?_, by unfold World.frozen?; simp only [heap_alloc_new]; simp⟩
  have e : j = 0 ∨ j = 1 ∨ j = 2 ∨ j = 3 := by omega
  rcases e with rfl | rfl | rfl | rfl <;> simp
theorem check_list (T : List UInt8) (b : Bool) (h : chk T = b) (hT : T.length ≤ 4100) (w : World) :
    Calls Try.prog 17 #[.string ⟨T.toArray⟩] w fun e w' => e = .returned (.bool b) ∧ Below w.heap.size w w' := by
  have h1 := check_code ⟨T.toArray⟩ w (by rw [size_mkl T]; omega)
  rw [show (⟨T.toArray⟩ : ByteArray).data.toList = T by simp, h] at h1
  exact h1
set_option maxHeartbeats 1000000 in
theorem tells_out (s : ByteArray) (at_ : Int) (v0 v1 v2 v3 : Value) (w : World) (h : s.size = 0 ∨ 4096 < s.size) :
    Calls Try.prog 6 #[.string s, .int .i64 at_, .agg #[v0, v1, v2, v3]] w fun e w' => e = .returned (.bool true) ∧ Below w.heap.size w w' := by
  by_cases h0 : s.size = 0
  · have hd : ((s.size : Int) == 0) = true := by rw [h0]; rfl
    clear h h0
    go_enter Try.func6, Try.ntmps6
    go_wp2_with fail
    refine (seals_any _).mono ?_
    rintro e w1 ⟨rfl, b1⟩
    go_wp2
    go_ret
    exact ⟨rfl, ((Below.refl _ _).alloc (Nat.le_refl _) _).trans (b1.mono (by simp))⟩
  · have hd : ((s.size : Int) == 0) = false := by rw [beq_eq_false_iff_ne]; omega
    have h' : (4096 : Int) < (s.size : Int) := by omega
    clear h h0
    go_enter Try.func6, Try.ntmps6
    go_wp2_with fail
    refine (seals_any _).mono ?_
    rintro e w1 ⟨rfl, b1⟩
    go_wp2
    go_ret
    exact ⟨rfl, ((Below.refl _ _).alloc (Nat.le_refl _) _).trans (b1.mono (by simp))⟩
set_option maxHeartbeats 1000000 in
theorem tells_in (s : ByteArray) (at_ : Int) (y0 y1 y2 y3 : UInt8) (w : World) (h0 : 0 < s.size) (h : s.size ≤ 4096) :
    Calls Try.prog 6 #[.string s, .int .i64 at_, .agg #[.int .u8 (y0.toNat : Int), .int .u8 (y1.toNat : Int), .int .u8 (y2.toNat : Int), .int .u8 (y3.toNat : Int)]] w fun e w' => e = .returned (.bool true) ∧ Below w.heap.size w w' := by
  have hd : ((s.size : Int) == 0) = false := by rw [beq_eq_false_iff_ne]; omega
  have h' : (s.size : Int) ≤ 4096 := by omega
  obtain ⟨z, hz⟩ : ∃ z, z = s ++ ⟨(tailL s.data.toList).toArray⟩ := ⟨_, rfl⟩
  have hzs : z.size = s.size + 4 := by rw [hz, ByteArray.size_append', size_mkl (tailL s.data.toList), tailL_length]
  have hzl : z.data.toList = s.data.toList ++ tailL s.data.toList := by rw [hz]; simp
  have hneq : ((z.size : Int) != (s.size : Int) + 4) = false := by rw [hzs]; simp
  have HZ := Lib.hid hz
  have HS := Lib.hid hzs
  have HL := Lib.hid hzl
  clear hz hzs hzl
  obtain ⟨q, hqs, hq⟩ := place_of at_ s.size h0
  have hd4 : decide ((4096 : Int) < (s.size : Int)) = false := by simpa using h'
  have HQ := Lib.hid hq
  clear hq
  obtain ⟨Y, hY⟩ : ∃ Y : List UInt8, Y = [y0, y1, y2, y3] := ⟨_, rfl⟩
  have hY4 : Y.length = 4 := by rw [hY]; rfl
  have hby : hasRow (w.alloc (.cells #[.int .u8 (y0.toNat : Int), .int .u8 (y1.toNat : Int), .int .u8 (y2.toNat : Int), .int .u8 (y3.toNat : Int)] 30)) w.heap.size Y := hasRow_box w _ _ _ _ _ Y hY
  have HY := Lib.hid hY
  have HY4 := Lib.hid hY4
  clear hY hY4
  go_enter Try.func6, Try.ntmps6
  go_wp2_with fail
  refine (seal_code s _ (by omega)).mono ?_
  rintro e w1 ⟨rfl, b1⟩
  rw [← HZ.out]
  go_wp2
  rw [Lib.run_convert_string_bytes _ 9 31 5 z Try.underlying9 Try.underlying31 Try.underlying5]
  have hrow := hasRow_bytes w1 5 z
  have hb2 := below_bytes w1 5 z
  have hsz2 := Lib.bytesWorld_size w1 5 z
  generalize Lib.bytesWorld w1 5 z = w2 at hrow hb2 hsz2
  generalize grownCap w1 z.size 0 5 = cp
  go_wp2
  rw [HQ.out]
  have hby1 : hasRow w1 w.heap.size Y := hby.below (by simp) b1
  have hw1 : w.heap.size < w1.heap.size := by have := b1.size; simp at this; omega
  have hby2 : hasRow w2 w.heap.size Y := hby1.below hw1 hb2
  have bel1 : Below w.heap.size w w1 := ((Below.refl _ _).alloc (Nat.le_refl _) _).trans (b1.mono (by simp))
  have bel2 : Below w.heap.size w w2 := bel1.trans (hb2.mono (by omega))
  obtain ⟨B, hB⟩ : ∃ B, B = w1.heap.size := ⟨_, rfl⟩
  rw [← hB] at hrow hw1
  rw [← hB]
  have HB := Lib.hid hB
  clear hB hby hby1 bel1 hb2 hsz2 b1
  go_loopw [9, 10] (fun t i wr => ∃ j : Nat, j ≤ 4 ∧ q + j ≤ s.size ∧ i = .int .i64 j ∧ t = .bool (tn Y j) ∧ hasRow wr B (turnL z.data.toList q Y j) ∧ hasRow wr w.heap.size Y ∧ Below w.heap.size w wr) (fun _ i _ => 4 - (intOf i).toNat)
  case atStart => exact ⟨0, by omega, by omega, rfl, rfl, by rw [turnL_zero]; exact hrow, hby2, bel2⟩
  case round =>
    obtain ⟨j, hj, hjs, rfl, rfl, hr, hy, hbel⟩ := hrel
    by_cases hgo : j < 4 ∧ q + j < s.size
    · obtain ⟨hj4, hjq⟩ := hgo
      have hzl : z.data.toList.length = s.size + 4 := by rw [← HS.out]; simp
      have hrl := turnL_length z.data.toList q Y j (by omega) (by rw [HY4.out]; omega)
      have hqz : q + j < z.data.toList.length := by omega
      have hjY : j < Y.length := by rw [HY4.out]; omega
      obtain ⟨x, hx⟩ : ∃ x, x = z.data.toList[q + j] := ⟨_, rfl⟩
      obtain ⟨y, hyy⟩ : ∃ y, y = Y[j] := ⟨_, rfl⟩
      obtain ⟨p, hp⟩ : ∃ p, p = q + j := ⟨_, rfl⟩
      have hc : wr.cell? ⟨B, p, none⟩ = some (.int .u8 (x.toNat : Int)) := by
        have h1 := (hr (q + j) (by omega)).1
        have h2 := turnL_get z.data.toList q Y j (by omega) (by rw [HY4.out]; omega)
        rw [List.getElem?_eq_getElem (by omega)] at h2
        rw [Option.some.inj h2, ← hx, ← hp] at h1
        exact h1
      have hf : wr.frozen? ⟨B, p, none⟩ = false := by rw [hp]; exact (hr (q + j) (by omega)).2
      have hcy : wr.cell? ⟨w.heap.size, j, none⟩ = some (.int .u8 (y.toNat : Int)) := by rw [hyy]; exact (hy j (by rw [HY4.out]; omega)).1
      have hjq' : (q : Int) + (j : Int) < (s.size : Int) := by omega
      have hj4' : (j : Int) < 4 := by omega
      have hpz : (p : Int) < (z.size : Int) := by rw [HS.out]; omega
      have hps : (p : Int) < (s.size : Int) := by omega
      have hwrap : IntKind.i64.wrap ((q : Int) + (j : Int)) = (p : Int) := by rw [hp, IntKind.wrap_i64]; omega
      have hxor : bits .xor .u8 (x.toNat : Int) (y.toNat : Int) = ((x ^^^ y).toNat : Int) := by
        rw [u8_xor_nat _ _ x.toNat_lt y.toNat_lt, UInt8.toNat_xor]
      have HP := Lib.hid hp
      have HX := Lib.hid hx
      have HYY := Lib.hid hyy
      have HXOR := Lib.hid hxor
      have HZL := Lib.hid hzl
      clear hp hx hyy hxor hzl hrl
      have hne : (⟨B, p, none⟩ : Addr) ≠ ⟨w.heap.size, j, none⟩ := by
        intro c
        cases c
        omega
      have hcy2 : ∀ v, (wr.setCell ⟨B, p, none⟩ v).cell? ⟨w.heap.size, j, none⟩ = some (.int .u8 (y.toNat : Int)) := fun v => (World.cell?_setCell_other wr _ _ _ hne).trans hcy
      have hend : ∀ t : Value, t = .bool (tn Y (j + 1)) → (∃ j_1 : Nat, j_1 ≤ 4 ∧ q + j_1 ≤ s.size ∧ Value.int .i64 ((j : Int) + 1) = .int .i64 j_1 ∧ t = .bool (tn Y j_1) ∧
          hasRow (wr.setCell ⟨B, p, none⟩ (.int .u8 (bits .xor .u8 (x.toNat : Int) (y.toNat : Int)))).drew B (turnL z.data.toList q Y j_1) ∧
          hasRow (wr.setCell ⟨B, p, none⟩ (.int .u8 (bits .xor .u8 (x.toNat : Int) (y.toNat : Int)))).drew w.heap.size Y ∧
          Below w.heap.size w (wr.setCell ⟨B, p, none⟩ (.int .u8 (bits .xor .u8 (x.toNat : Int) (y.toNat : Int)))).drew) := by
        intro t ht
        refine ⟨j + 1, by omega, by omega, by go_num, ht, ?_, ?_, (hbel.setCell (by exact Nat.le_of_lt hw1) _).drew⟩
        · rw [HXOR.out, ← turnL_set z.data.toList q Y j hqz hjY, ← HX.out, ← HYY.out, ← HP.out]
          exact (hr.set p (by rw [HP.out, turnL_length _ _ _ _ (by omega) (by omega)]; exact hqz) _).drew
        · exact hasRow.drew (fun i hi => ⟨by
            have hne : (⟨B, p, none⟩ : Addr) ≠ ⟨w.heap.size, i, none⟩ := by
              intro c
              cases c
              omega
            rw [World.cell?_setCell_other wr _ _ _ hne]
            exact (hy i hi).1, by rw [World.frozen?_setCell]; exact (hy i hi).2⟩)
      have HEND := Lib.hid hend
      clear hend
      have hsn := tn_snoc Y j hjY
      rw [← HYY.out] at hsn
      by_cases htn : tn Y j = true
      · have HSN := Lib.hid hsn
        clear hsn
        go_wp2
        go_still_tail 15, (by kernel_rfl)
        change wpList _ _ _ _ _ wr.drew
        go_wp2
        go_roundw
        case rel => exact HEND.out _ (by rw [HSN.out, htn]; rfl)
        case measure => simp [intOf]; omega
      · have htn' : tn Y j = false := by simpa using htn
        clear htn
        by_cases hy0 : y = 0
        · have hyn : ((y.toNat : Int) != 0) = false := by rw [hy0]; rfl
          have HSN := Lib.hid hsn
          have HY0 := Lib.hid hy0
          clear hsn hy0
          go_wp2
          go_still_tail 15, (by kernel_rfl)
          change wpList _ _ _ _ _ wr.drew
          go_wp2
          go_roundw
          case rel => exact HEND.out _ (by rw [HSN.out, htn', HY0.out]; rfl)
          case measure => simp [intOf]; omega
        · have hyn : ((y.toNat : Int) != 0) = true := by
            rw [bne_iff_ne]
            intro e
            exact hy0 (UInt8.toNat_inj.1 (by simpa using e))
          have hyn2 : (y != 0) = true := by rw [bne_iff_ne]; exact hy0
          have HSN := Lib.hid hsn
          have HY0 := Lib.hid hyn2
          clear hsn hy0 hyn2
          go_wp2
          go_still_tail 15, (by kernel_rfl)
          change wpList _ _ _ _ _ wr.drew
          go_wp2
          go_roundw
          case rel => exact HEND.out _ (by rw [HSN.out, htn', HY0.out]; rfl)
          case measure => simp [intOf]; omega
    · have hend : j = 4 ∨ q + j = s.size := by omega
      have hchk := chk_turn s.data.toList Y q j (by simpa using hjs) (by rw [HY4.out]; exact hj) HY4.out
      rw [← HL.out] at hchk
      have hlen := turnL_length z.data.toList q Y j (by rw [HL.out]; simp; omega) (by rw [HY4.out]; exact hj)
      have hzl : z.data.toList.length = s.size + 4 := by rw [← HS.out]; simp
      obtain ⟨T, hT⟩ : ∃ T, T = turnL z.data.toList q Y j := ⟨_, rfl⟩
      rw [← hT] at hr hchk hlen
      have hlen' : T.length = z.size := by rw [hlen, hzl, HS.out]
      have HCHK := Lib.hid hchk
      have HLEN := Lib.hid hlen'
      have HHR := Lib.hid hr
      clear hgo hlen hzl hlen' hT hchk
      have hcv : ∀ w : World, hasRow w B T → (convert 31 9 (.slice (some ⟨B, 0, none⟩) z.size cp)).run Try.prog w = .ok (.string ⟨T.toArray⟩) w :=
        fun w h => run_str_row w 31 9 5 Try.underlying31 Try.underlying5 Try.underlying9 B z.size cp T HLEN.out h
      have HCV := Lib.hid hcv
      have hTs : T.length ≤ 4100 := by rw [HLEN.out, HS.out]; omega
      have hd5 : (decide ((j : Int) < 4) = false) ∨ (((j : Int) < 4) ∧ decide ((q : Int) + (j : Int) < (s.size : Int)) = false) := by
        rcases hend with hj4 | hjq
        · left; simp; omega
        · by_cases hj4 : j < 4
          · right; exact ⟨by omega, by simp; omega⟩
          · left; simp; omega
      clear hcv hend
      by_cases htn : tn Y j = true
      · have hck : ∀ w, Calls Try.prog 17 #[.string ⟨T.toArray⟩] w fun e w' => e = .returned (.bool false) ∧ Below w.heap.size w w' := fun w => check_list T false (by rw [HCHK.out]; exact congrArg not htn) hTs w
        have HCK := Lib.hid hck
        clear hck
        rcases hd5 with hd5 | ⟨hd5, hd6⟩
        all_goals
          go_wp2
          rw [HCV.out _ HHR.out]
          go_wp2_with fail
          refine (HCK.out _).mono ?_
          rintro e w3 ⟨rfl, b3⟩
          go_wp2_with fail
          refine (seals_any _).mono ?_
          rintro e w4 ⟨rfl, b4⟩
          go_wp2
          go_ret
          exact ⟨rfl, hbel.trans ((bt b3 b4).mono hbel.size)⟩
      · have htn' : tn Y j = false := by simpa using htn
        have hck : ∀ w, Calls Try.prog 17 #[.string ⟨T.toArray⟩] w fun e w' => e = .returned (.bool true) ∧ Below w.heap.size w w' := fun w => check_list T true (by rw [HCHK.out]; exact congrArg not htn') hTs w
        have HCK := Lib.hid hck
        clear hck htn
        rcases hd5 with hd5 | ⟨hd5, hd6⟩
        all_goals
          go_wp2
          rw [HCV.out _ HHR.out]
          go_wp2_with fail
          refine (HCK.out _).mono ?_
          rintro e w3 ⟨rfl, b3⟩
          go_wp2_with fail
          refine (seals_any _).mono ?_
          rintro e w4 ⟨rfl, b4⟩
          go_wp2
          go_ret
          exact ⟨rfl, hbel.trans ((bt b3 b4).mono hbel.size)⟩
theorem walk_CrcTells (s : ByteArray) (_ : s.size ≤ 140737488351232) (at_ : Int) (_ : (Lit.int .i64 at_).wf = true) (y0 y1 y2 y3 : UInt8) (w : World) :
    Calls Try.prog 6 #[.string s, .int .i64 at_, .agg #[.int .u8 (y0.toNat : Int), .int .u8 (y1.toNat : Int), .int .u8 (y2.toNat : Int), .int .u8 (y3.toNat : Int)]] w fun e w' => e = .returned (.bool true) ∧ Below w.heap.size w w' := by
  by_cases h : s.size = 0 ∨ 4096 < s.size
  · exact tells_out s at_ _ _ _ _ w h
  · exact tells_in s at_ y0 y1 y2 y3 w (by omega) (by omega)
end Go.Proofs.Ytaonkiagbppeeaa
