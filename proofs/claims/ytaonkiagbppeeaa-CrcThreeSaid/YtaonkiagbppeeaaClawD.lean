/-
  Layer 2 (crc): the walk of the law CrcThree. Conditions: texts within the form's reach.
-/
import Derived.Test.YtaonkiagbppeeaaClawA
import Derived.Test.YtaonkiagbppeeaaTn
import Derived.StillTailTactics
import Derived.Lib.MinMax
namespace Go.Proofs.Ytaonkiagbppeeaa
open Go.RowKit

theorem Try.infoU8 : (Try.prog.info? 5).map (fun i => (i.zero, i.size, i.bytes)) = some (some (.int .u8 0), 1, 1) := by kernel_rfl
theorem run_min4 {P : Program} (w : World) (ts : Array TypeId) (t : TypeId) (x y z u : Int) :
    (Builtin.min_ ts t #[.int .i64 x, .int .i64 y, .int .i64 z, .int .i64 u]).run P w = .ok (.int .i64 (min (min (min x y) z) u)) w := by
  have e : ∀ x y : Int, (if y < x then y else x) = min x y := by
    intro x y
    rw [Int.min_def]
    split <;> split <;> omega
  simp [Builtin.min_, Builtin.min2, e]
theorem own_has {w : World} {base g cap : Nat} {t : TypeId} {l : List UInt8} (h : w.ownsRow base t 1 (.slice (some ⟨g, 0, none⟩) l.length cap) l.length (bv l)) : hasRow w g l := by
  intro j hj
  refine ⟨?_, h.frozenAt j⟩
  rw [h.cellAt j (by omega)]
  simp [bv, hj]
theorem bv_rep (n : Nat) : bv (List.replicate n 0) = List.replicate n (Value.int .u8 0) := by simp [bv]
def rowD (D : List UInt8) (n j : Nat) : List UInt8 := D.take j ++ List.replicate (n - j) 0
theorem rowD_zero (D : List UInt8) (n : Nat) : rowD D n 0 = List.replicate n 0 := by simp [rowD]
theorem rowD_length (D : List UInt8) (n j : Nat) (h : n ≤ D.length) (hj : j ≤ n) : (rowD D n j).length = n := by
  rw [rowD, List.length_append, List.length_take, List.length_replicate]
  omega
theorem rowD_set (D : List UInt8) (n j : Nat) (h : n ≤ D.length) (hj : j < n) : (rowD D n j).set j (D[j]'(by omega)) = rowD D n (j + 1) := by
  have h1 : (D.take j).length = j := by rw [List.length_take]; omega
  have h2 : D.take (j + 1) = D.take j ++ [D[j]'(by omega)] := List.take_succ_eq_append_getElem (by omega)
  rw [rowD, rowD, List.set_append_right _ _ (by omega), h1, Nat.sub_self, h2, show n - j = (n - (j + 1)) + 1 by omega, List.replicate_succ, List.set_cons_zero, List.append_assoc]
  rfl
theorem rowD_all (D : List UInt8) (n : Nat) (h : D.length = n) : rowD D n n = D := by
  rw [rowD, Nat.sub_self, List.take_of_length_le (by omega)]
  simp
/-- The quiet sum of the first n bytes. -/
theorem sum_first (s : ByteArray) (n : Nat) (w : World) (hn : n ≤ 1024) :
    Calls Try.prog 10 #[.string (s.extract 0 n)] w fun e w' => e = .returned (.int .i64 (crcV 0 (s.data.toList.take n) : Nat)) ∧ w = w' := by
  have e1 : (s.extract 0 n).data.toList = s.data.toList.take n := by rw [Lib.extract_data]; simp
  have h := sum_code (s.extract 0 n) w (by rw [Lib.size_eq, e1, List.length_take]; omega)
  rw [e1] at h
  exact h
set_option maxHeartbeats 1000000 in
theorem walk_CrcThree (a : ByteArray) (ha : a.size ≤ 140737488351232) (b : ByteArray) (hb : b.size ≤ 140737488351232) (c : ByteArray) (hc : c.size ≤ 140737488351232) (w : World) :
    Calls Try.prog 8 #[.string a, .string b, .string c] w fun e w' => e = .returned (.bool true) ∧ Below w.heap.size w w' := by
  obtain ⟨n, hn⟩ : ∃ n : Nat, (min (min (min (a.size : Int) b.size) c.size) 1024) = (n : Int) := ⟨min (min (min a.size b.size) c.size) 1024, by omega⟩
  have hna : n ≤ a.size := by omega
  have hnb : n ≤ b.size := by omega
  have hnc : n ≤ c.size := by omega
  have hn1 : n ≤ 1024 := by omega
  have hmin : ∀ (w : World) ts t, (Builtin.min_ ts t #[.int .i64 (a.size : Int), .int .i64 (b.size : Int), .int .i64 (c.size : Int), .int .i64 1024]).run Try.prog w = .ok (.int .i64 (n : Int)) w := by
    intro w ts t
    rw [run_min4, hn]
  clear hn
  obtain ⟨D, hD⟩ : ∃ D, D = zx (zx (a.data.toList.take n) (b.data.toList.take n)) (c.data.toList.take n) := ⟨_, rfl⟩
  have hDl : D.length = n := by
    rw [hD, zx, zx, List.length_zipWith, List.length_zipWith, List.length_take, List.length_take, List.length_take, ← Lib.size_eq, ← Lib.size_eq, ← Lib.size_eq]
    omega
  have HDD := Lib.hid hD
  have HD := Lib.hid hDl
  clear hD hDl
  obtain ⟨i0, hi, hz0, hz1, hz2⟩ := info_parts Try.infoU8
  go_enter Try.func8, Try.ntmps8
  go_wp2_with (at_make; refine wpList_make_full _ rfl _ _ 31 rfl w.heap.size 5 i0 (.int .u8 0) 1 Try.underlying31 hi hz0 hz1 .i64 .i64 _ _ n rfl rfl rfl rfl ?b2 ?b3 ?b4 ?_)
  case b2 => rw [hz2]; omega
  case b3 => unfold maxLen; omega
  case b4 => exact Nat.le_refl _
  intro w1 hown hgrow
  have hrow : hasRow w1 w.heap.size (rowD D n 0) := by
    rw [rowD_zero]
    refine own_has (cap := n) (t := 5) (base := w.heap.size) ?_
    rw [List.length_replicate, bv_rep, ← toList_madeCells_one]
    simpa using hown
  have hbel : Below w.heap.size w w1 := (Below.refl _ _).grown hgrow (Nat.le_refl _) (by simp)
  clear hown hgrow
  go_wp2
  go_loopw [9] (fun i wr => ∃ j : Nat, j ≤ n ∧ i = .int .i64 j ∧ hasRow wr w.heap.size (rowD D n j) ∧ Below w.heap.size w wr) (fun i _ => n - (intOf i).toNat)
  case atStart => exact ⟨0, by omega, rfl, hrow, hbel⟩
  case round =>
    obtain ⟨j, hj, rfl, hr, hbl⟩ := hrel
    by_cases hlt : j < n
    · have hja : (j : Int) < (a.size : Int) := by omega
      have hjb : (j : Int) < (b.size : Int) := by omega
      have hjc : (j : Int) < (c.size : Int) := by omega
      have hjn : (j : Int) < (n : Int) := by omega
      have hlen : (rowD D n j).length = n := rowD_length _ _ _ (by rw [HD.out]; omega) hj
      have hcell := (hr j (by omega)).1
      have hf := (hr j (by omega)).2
      obtain ⟨u, hu⟩ : ∃ u : UInt8, (rowD D n j)[j]'(by omega) = u := ⟨_, rfl⟩
      rw [hu] at hcell
      have x1 := u8_xor_nat _ _ a[j].toNat_lt b[j].toNat_lt
      rw [← UInt8.toNat_xor] at x1
      have x2 := u8_xor_nat _ _ (a[j] ^^^ b[j]).toNat_lt c[j].toNat_lt
      rw [← UInt8.toNat_xor] at x2
      have hset := rowD_set D n j (by rw [HD.out]; omega) hlt
      have X1 := Lib.hid x1
      have X2 := Lib.hid x2
      have HSET := Lib.hid hset
      have HLEN := Lib.hid hlen
      clear hlen hu x1 x2 hset
      go_wp2
      go_still_tail 14, (by kernel_rfl)
      change wpList _ _ _ _ _ wr.drew
      go_wp2
      go_roundw
      case rel =>
        refine ⟨j + 1, by omega, by go_num, ?_, (hbl.setCell (Nat.le_refl _) _).drew⟩
        have hdj : D[j]'(by rw [HD.out]; exact hlt) = a[j] ^^^ b[j] ^^^ c[j] := by
          have e : D[j]? = some (a[j] ^^^ b[j] ^^^ c[j]) := by
            rw [HDD.out]
            simp only [zx, List.getElem?_zipWith, List.getElem?_take, if_pos hlt]
            rw [List.getElem?_eq_getElem (by rw [← Lib.size_eq]; omega), List.getElem?_eq_getElem (by rw [← Lib.size_eq]; omega), List.getElem?_eq_getElem (by rw [← Lib.size_eq]; omega)]
            rfl
          rw [List.getElem?_eq_getElem (by rw [HD.out]; exact hlt)] at e
          exact Option.some.inj e
        rw [X1.out, X2.out, ← hdj, ← HSET.out]
        exact (hr.set j (by rw [HLEN.out]; exact hlt) _).drew
      case measure => simp [intOf]; omega
    · obtain rfl : j = n := by omega
      rw [rowD_all D j HD.out] at hr
      obtain ⟨ds, hds⟩ : ∃ ds : ByteArray, ds = ⟨D.toArray⟩ := ⟨_, rfl⟩
      have hcv : ∀ m, (convert 31 9 (.slice (some ⟨w.heap.size, 0, none⟩) j j)).run Try.prog (wr.drewN m) = .ok (.string ds) (wr.drewN m) := by
        rw [hds]
        exact fun m => run_str_row _ 31 9 5 Try.underlying31 Try.underlying5 Try.underlying9 _ j j D HD.out (hr.drewN m)
      have hsd : ∀ w, Calls Try.prog 10 #[.string ds] w fun e w' => e = .returned (.int .i64 (crcV 0 D : Nat)) ∧ w = w' := by
        intro w
        have h := sum_code ds w (by rw [hds, size_mkl D, HD.out]; omega)
        rw [hds] at h ⊢
        exact h
      have h3 := crcV_three (a := a.data.toList.take j) (b := b.data.toList.take j) (c := c.data.toList.take j) (by rw [List.length_take, List.length_take, ← Lib.size_eq, ← Lib.size_eq]; omega) (by rw [List.length_take, List.length_take, ← Lib.size_eq, ← Lib.size_eq]; omega)
      rw [← HDD.out] at h3
      have ba := crcV_lt (a.data.toList.take j) zero32
      have bb := crcV_lt (b.data.toList.take j) zero32
      have bc := crcV_lt (c.data.toList.take j) zero32
      have hx : (bits .xor .i64 (bits .xor .i64 ((crcV 0 (a.data.toList.take j) : Nat) : Int) ((crcV 0 (b.data.toList.take j) : Nat) : Int)) ((crcV 0 (c.data.toList.take j) : Nat) : Int) == ((crcV 0 D : Nat) : Int)) = true := by
        rw [i64_xor_nat _ _ (by omega) (by omega), i64_xor_nat _ _ (by have := xor_lt32 ba bb; omega) (by omega), h3]
        simp
      have HSD := Lib.hid hsd
      clear hds hsd h3
      have hja : (j : Int) ≤ (a.size : Int) := by omega
      have hjb : (j : Int) ≤ (b.size : Int) := by omega
      have hjc : (j : Int) ≤ (c.size : Int) := by omega
      have hj0 : (0 : Int) ≤ (j : Int) := by omega
      go_wp2
      go_quiet ((first | (go_at_call 10; first | exact quiet_same (HSD.out _) | exact quiet_same (sum_first _ j _ hn1)) | (go_at_call 9; exact quiet_same (sums_any _))))
      go_wp2
      go_ret
      exact ⟨rfl, below_drewN hbl _⟩
end Go.Proofs.Ytaonkiagbppeeaa
