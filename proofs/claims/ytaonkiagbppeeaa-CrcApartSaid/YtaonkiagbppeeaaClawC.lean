/-
  Layer 2 (crc): the walk of the law CrcApart. Conditions: none.
-/
import Derived.Test.YtaonkiagbppeeaaClawB
namespace Go.Proofs.Ytaonkiagbppeeaa
open Go.RowKit

theorem and3 (x : Int) : ∃ q : Nat, q < 4 ∧ bits .and .i64 x 3 = (q : Int) := by
  have h1 := i64_low 2 (by omega) 3 x (by decide)
  refine ⟨(x % 4).toNat, by omega, ?_⟩
  rw [h1]
  omega
set_option maxHeartbeats 1000000 in
theorem walk_CrcApart (x0 x1 x2 x3 y0 y1 y2 y3 : UInt8) (n : Int) (_ : (Lit.int .i64 n).wf = true) (w : World) :
    Calls Try.prog 7 #[.agg #[.int .u8 (x0.toNat : Int), .int .u8 (x1.toNat : Int), .int .u8 (x2.toNat : Int), .int .u8 (x3.toNat : Int)], .agg #[.int .u8 (y0.toNat : Int), .int .u8 (y1.toNat : Int), .int .u8 (y2.toNat : Int), .int .u8 (y3.toNat : Int)], .int .i64 n] w fun e w' => e = .returned (.bool true) ∧ Below w.heap.size w w' := by
  obtain ⟨X, hX⟩ : ∃ X : List UInt8, X = [x0, x1, x2, x3] := ⟨_, rfl⟩
  obtain ⟨Y, hY⟩ : ∃ Y : List UInt8, Y = [y0, y1, y2, y3] := ⟨_, rfl⟩
  obtain ⟨q, hq4, hq⟩ := and3 n
  have hx : hasRow (w.alloc (.cells #[.int .u8 (x0.toNat : Int), .int .u8 (x1.toNat : Int), .int .u8 (x2.toNat : Int), .int .u8 (x3.toNat : Int)] 30)) w.heap.size X := hasRow_box w _ _ _ _ _ X hX
  have hy : hasRow ((w.alloc (.cells #[.int .u8 (x0.toNat : Int), .int .u8 (x1.toNat : Int), .int .u8 (x2.toNat : Int), .int .u8 (x3.toNat : Int)] 30)).alloc (.cells #[.int .u8 (y0.toNat : Int), .int .u8 (y1.toNat : Int), .int .u8 (y2.toNat : Int), .int .u8 (y3.toNat : Int)] 30)) (w.alloc (.cells #[.int .u8 (x0.toNat : Int), .int .u8 (x1.toNat : Int), .int .u8 (x2.toNat : Int), .int .u8 (x3.toNat : Int)] 30)).heap.size Y := hasRow_box _ _ _ _ _ _ Y hY
  have HQ := Lib.hid hq
  clear hq
  go_enter Try.func7, Try.ntmps7
  go_wp2
  rw [HQ.out]
  have hx2 := hx.below (by simp) ((Below.refl _ _).alloc (Nat.le_refl _) (.cells #[.int .u8 (y0.toNat : Int), .int .u8 (y1.toNat : Int), .int .u8 (y2.toNat : Int), .int .u8 (y3.toNat : Int)] 30))
  have hbel : Below w.heap.size w ((w.alloc (.cells #[.int .u8 (x0.toNat : Int), .int .u8 (x1.toNat : Int), .int .u8 (x2.toNat : Int), .int .u8 (x3.toNat : Int)] 30)).alloc (.cells #[.int .u8 (y0.toNat : Int), .int .u8 (y1.toNat : Int), .int .u8 (y2.toNat : Int), .int .u8 (y3.toNat : Int)] 30)) :=
    ((Below.refl _ _).alloc (Nat.le_refl _) _).alloc (by simp) _
  rw [World.size_alloc] at hy
  generalize (w.alloc (.cells #[.int .u8 (x0.toNat : Int), .int .u8 (x1.toNat : Int), .int .u8 (x2.toNat : Int), .int .u8 (x3.toNat : Int)] 30)).alloc (.cells #[.int .u8 (y0.toNat : Int), .int .u8 (y1.toNat : Int), .int .u8 (y2.toNat : Int), .int .u8 (y3.toNat : Int)] 30) = W2 at hx2 hy hbel
  clear hx
  have hcx : ∀ m, (convert 31 9 (.slice (some ⟨w.heap.size, 0, none⟩) 4 4)).run Try.prog (W2.drewN m) = .ok (.string ⟨X.toArray⟩) (W2.drewN m) :=
    fun m => run_str_row _ 31 9 5 Try.underlying31 Try.underlying5 Try.underlying9 _ 4 4 X (by rw [hX]; rfl) (hx2.drewN m)
  have hcy : ∀ m, (convert 31 9 (.slice (some ⟨w.heap.size + 1, 0, none⟩) 4 4)).run Try.prog (W2.drewN m) = .ok (.string ⟨Y.toArray⟩) (W2.drewN m) :=
    fun m => run_str_row _ 31 9 5 Try.underlying31 Try.underlying5 Try.underlying9 _ 4 4 Y (by rw [hY]; rfl) (hy.drewN m)
  obtain ⟨xs, hxs⟩ : ∃ xs : ByteArray, xs = ⟨X.toArray⟩ := ⟨_, rfl⟩
  obtain ⟨ys, hys⟩ : ∃ ys : ByteArray, ys = ⟨Y.toArray⟩ := ⟨_, rfl⟩
  rw [← hxs] at hcx
  rw [← hys] at hcy
  obtain ⟨K, hK⟩ : ∃ K : Nat, K = q + 1 := ⟨_, rfl⟩
  have hw64 : wrap64 (1 + (q : Int)) = (K : Int) := by rw [show 1 + (q : Int) = (K : Int) by omega]; exact wrap64_nat K (by omega)
  rw [hw64]
  have hxz : xs.size = 4 := by rw [hxs, size_mkl X, hX]; rfl
  have hyz : ys.size = 4 := by rw [hys, size_mkl Y, hY]; rfl
  have hk1 : (K : Int) ≤ (xs.size : Int) := by omega
  have hk2 : (K : Int) ≤ (ys.size : Int) := by omega
  have hk0 : (0 : Int) ≤ (K : Int) := by omega
  have HK := Lib.hid hK
  have HXS := Lib.hid hxs
  have HYS := Lib.hid hys
  have HX := Lib.hid hX
  have HY := Lib.hid hY
  have HXZ := Lib.hid hxz
  have HYZ := Lib.hid hyz
  clear hw64 hK hxs hys hX hY hxz hyz
  go_quiet (fail)
  obtain ⟨sx, hsx⟩ : ∃ sx, sx = xs.extract 0 K := ⟨_, rfl⟩
  obtain ⟨sy, hsy⟩ : ∃ sy, sy = ys.extract 0 K := ⟨_, rfl⟩
  rw [← hsx, ← hsy]
  have h1 : sx.data.toList = X.take K := by rw [hsx, Lib.extract_data, HXS.out]; simp
  have h2 : sy.data.toList = Y.take K := by rw [hsy, Lib.extract_data, HYS.out]; simp
  have hl : sx.data.toList.length = K := by rw [h1, HX.out, List.length_take]; simp; have := HK.out; omega
  have hl2 : sy.data.toList.length = K := by rw [h2, HY.out, List.length_take]; simp; have := HK.out; omega
  have hsz1 : sx.size ≤ 4 := by rw [Lib.size_eq, hl]; have := HK.out; omega
  have hsz2 : sy.size ≤ 4 := by rw [Lib.size_eq, hl2]; have := HK.out; omega
  have hsums := (crcV_lt sx.data.toList zero32)
  obtain ⟨b, hb1, hb2⟩ : ∃ b : Bool, ((((crcV 0 sx.data.toList : Nat) : Int) == ((crcV 0 sy.data.toList : Nat) : Int)) = b) ∧ ((sx.toList == sy.toList) = b) := by
    refine ⟨_, rfl, ?_⟩
    rw [ByteArray.toList_eq, ByteArray.toList_eq, Bool.eq_iff_iff]
    simp only [beq_iff_eq]
    constructor
    · intro e
      rw [e]
    · intro e
      exact crcV_four (c := 0) (by omega) (by rw [hl, hl2]) (by rw [hl]; have := HK.out; omega) (by omega)
  clear hsx hsy h1 h2 hl hl2
  cases b
  all_goals
    go_wp2_with fail
    refine (sum_code sx _ (by omega)).mono ?_
    rintro e w3 ⟨rfl, rfl⟩
    go_wp2_with fail
    refine (sum_code sy _ (by omega)).mono ?_
    rintro e w3 ⟨rfl, rfl⟩
    go_wp2_with fail
    refine (sums_any _).mono ?_
    rintro e w3 ⟨rfl, rfl⟩
    go_wp2
    go_ret
    exact ⟨rfl, below_drewN hbel _⟩
end Go.Proofs.Ytaonkiagbppeeaa
