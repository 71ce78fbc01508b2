/-
  Layer 8 (bloom), contracts of the document's place, Make and Has. Conditions: lengths within the reach.
-/
import Derived.Test.YtobhjmkaamjoeaaGreatBd
import Derived.StillTailTactics
namespace Go.Proofs.YtobhjmkaamjoeaaGreat
open Go.RowKit
set_option linter.unusedVariables false
set_option linter.unusedSimpArgs false

theorem wrap_pow (p r : Nat) (h : r = p % 8) : IntKind.u8.wrap (2 ^ r) = ((bitB p).toNat : Int) := by
  have h1 : (2 : Nat) ^ r < 2 ^ 8 := Nat.pow_lt_pow_right (by omega) (by omega)
  have h2 : (2 : Int) ^ r = ((2 ^ r : Nat) : Int) := by simp
  rw [bitB_toNat, ← h, h2, IntKind.wrap_u8]
  generalize (2 : Nat) ^ r = m at h1
  omega
set_option maxHeartbeats 1000000 in
theorem place_ref (key : ByteArray) (k n : Nat) (w : World) (hk : key.size ≤ 140737488351232) (hk6 : k ≤ 6) (hn : 0 < n) (hn2 : n ≤ 4611686018427387904) :
    Calls Tryz.prog 62 #[.string key, .int .i64 (k : Int), .int .i64 (n : Int)] w fun e w' => e = .returned (.int .i64 (plc key.data.toList n k : Nat)) ∧ w = w' := by
  obtain ⟨a, ha⟩ : ∃ a, a = crcV 0 key.data.toList := ⟨_, rfl⟩
  obtain ⟨d, hd⟩ : ∃ d, d = stepL key.data.toList := ⟨_, rfl⟩
  have ha1 : a < 4294967296 := by rw [ha]; exact crcV_lt _ (by omega)
  have hd1 : d < 4294967296 := by rw [hd]; exact stepL_lt _
  obtain ⟨z, hz⟩ : ∃ z, z = key ++ (⟨#[35]⟩ : ByteArray) := ⟨_, rfl⟩
  have hzl : z.data.toList = key.data.toList ++ [35] := by rw [hz]; simp
  have hzs : z.size ≤ 9223372036854775807 := by
    have : z.size = key.size + 1 := by rw [hz]; simp [ByteArray.size_append]; rfl
    omega
  obtain ⟨b, hb⟩ : ∃ b, b = crcV 0 z.data.toList := ⟨_, rfl⟩
  have hb1 : b < 4294967296 := by rw [hb]; exact crcV_lt _ (by omega)
  have hor : bits .or .i64 (b : Int) 1 = (d : Int) := by rw [hd, stepL, ← hzl, ← hb]; exact i64_or_nat b 1 (by omega) (by omega)
  obtain ⟨m, hm⟩ : ∃ m, m = k * d := ⟨_, rfl⟩
  have hm1 : m ≤ 6 * 4294967296 := by rw [hm]; exact Nat.mul_le_mul (by omega) (by omega)
  have hmi : (k : Int) * (d : Int) = (m : Int) := by rw [hm]; simp
  obtain ⟨p, hp⟩ : ∃ p, p = (a + m) % n := ⟨_, rfl⟩
  have hpn : p < n := by rw [hp]; exact Nat.mod_lt _ hn
  have hpi : ((a : Int) + (m : Int)) % (n : Int) = (p : Int) := by rw [hp]; simp
  have hpl : plc key.data.toList n k = p := by rw [plc, hp, hm, ha, hd]
  rw [hpl]
  have hz1 : key ++ (⟨#[35]⟩ : ByteArray) = z := hz.symm
  have hz2 : ¬ 9223372036854775807 < key.size + 1 := by omega
  have HA := Lib.hid ha
  have HB := Lib.hid hb
  clear ha hd hzl hb hm hp hpl hz
  go_enter Tryz.func62, Tryz.ntmps62
  go_wp2_with fail
  refine (sum_ref key _ (by omega)).mono ?_
  rintro e w' ⟨rfl, rfl⟩
  rw [← HA.out]
  go_wp2_with fail
  refine (sum_ref z _ hzs).mono ?_
  rintro e w' ⟨rfl, rfl⟩
  rw [← HB.out]
  go_wp2
  go_ret
  exact ⟨congrArg Ending.returned (congrArg (Value.int .i64) hpi), rfl⟩

set_option maxRecDepth 100000 in
set_option maxHeartbeats 2000000 in
theorem make_ref (a : Option Addr) (cap : Nat) (ts : List (List UInt8)) (w : World) (hr : Rd w a ts) (hts : ∀ t ∈ ts, t.length ≤ 140737488351232) (hm : ts.length ≤ 4096) :
    Calls Tryz.prog 25 #[.slice a ts.length cap] w fun e w' => e = .returned (.tuple #[.string ⟨(makeL ts).toArray⟩, .int .i64 0]) ∧ Below w.heap.size w w' := by
  obtain ⟨n, hn⟩ : ∃ n, n = ts.length := ⟨_, rfl⟩
  obtain ⟨b, hb⟩ : ∃ b, b = nBytes n := ⟨_, rfl⟩
  have hb8 := nBytes_ge n
  have hb5 := nBytes_le n
  rw [← hb] at hb8 hb5
  have hcv : ∀ w' : World, hasRow w' w.heap.size (makeL ts) → (convert 49 9 (.slice (some ⟨w.heap.size, 0, none⟩) b b)).run Tryz.prog w' = .ok (.string ⟨(makeL ts).toArray⟩) w' :=
    fun w' h => run_str_row w' 49 9 5 Tryz.underlying49 Tryz.underlying5 Tryz.underlying9 w.heap.size b b (makeL ts) (by rw [makeL_length, ← hn, hb]) h
  have HCV := Lib.hid hcv
  rw [← hn] at hm ⊢
  have HN := Lib.hid hn
  have HB := Lib.hid hb
  have HR := Lib.hid hr
  have hmk : ∀ W : World, (Instr.makeSlice 49 (.int .i64 (b : Int)) (.int .i64 (b : Int))).run Tryz.prog W = .ok (.slice (some ⟨W.heap.size, 0, none⟩) b b) (W.alloc (.cells (madeCells #[Value.int .u8 0] b) 5)) :=
    fun W => run_make_row' 49 5 (.int .u8 0) 1 Tryz.underlying49 Tryz.infoU8 rfl _ _ b (by omega) (by omega) W
  obtain ⟨N, hNN⟩ : ∃ N, N = 8 * b := ⟨_, rfl⟩
  have hq8 : (N : Int) / 8 = (b : Int) := by omega
  have HNN := Lib.hid hNN
  clear hn hb hr hcv hNN
  go_enter Tryz.func25, Tryz.ntmps25
  go_wp2_with fail
  refine (size_ref (n : Int) _).mono ?_
  rintro e w' ⟨rfl, rfl⟩
  rw [Int.toNat_natCast, ← HB.out, ← HNN.out]
  go_wp2
  go_loopw [6] (fun i wr => ∃ k : Nat, k ≤ n ∧ i = .int .i64 (k : Int) ∧ Hid (hasRow wr w.heap.size (allB (List.replicate b 0) (keysPs (ts.take k) N))) ∧ Below w.heap.size w wr ∧ w.heap.size < wr.heap.size) (fun i _ => n - (intOf i).toNat)
  case atStart =>
    refine ⟨0, by omega, rfl, Lib.hid ?_, (Below.refl _ _).alloc (Nat.le_refl _) _, by simp⟩
    rw [show allB (List.replicate b 0) (keysPs (ts.take 0) N) = List.replicate b 0 from rfl]
    exact made_row w _ b
  case round =>
    obtain ⟨k, hkn, rfl, hst, hbel, hws⟩ := hrel
    by_cases hlt : k < n
    · have hkt : k < ts.length := by rw [← HN.out]; exact hlt
      obtain ⟨x, hx⟩ : ∃ x, x = ts[k] := ⟨_, rfl⟩
      have hxl := hts ts[k] (List.getElem_mem _)
      rw [← hx] at hxl
      have hrow := HR.out
      rcases hrow with h0 | ⟨bb, off, rfl, hbb, hc⟩
      · rw [h0] at hkt; simp at hkt
      · have hck := hc k hkt
        rw [← hx] at hck
        have HX := Lib.hid hx
        have HCK := Lib.hid hck
        clear hx hck hc
        go_wp2
        go_loopw [7] (fun i wi => ∃ j : Nat, j ≤ 6 ∧ i = .int .i64 (j : Int) ∧ Hid (hasRow wi w.heap.size (allB (allB (List.replicate b 0) (keysPs (ts.take k) N)) (keyPs x N j))) ∧ Below w.heap.size w wi ∧ w.heap.size < wi.heap.size) (fun i _ => 6 - (intOf i).toNat)
        case atStart => exact ⟨0, by omega, rfl, hst, hbel, hws⟩
        case round =>
          obtain ⟨j, hj6, rfl, hst2, hbel2, hws2⟩ := hrel
          by_cases hj : j < 6
          · obtain ⟨l, hl⟩ : ∃ l, l = allB (allB (List.replicate b 0) (keysPs (ts.take k) N)) (keyPs x N j) := ⟨_, rfl⟩
            have hll : l.length = b := by rw [hl, allB_length, allB_length, List.length_replicate]
            have hst3 := hst2.out
            rw [← hl] at hst3
            obtain ⟨p, hp⟩ : ∃ p, p = plc x N j := ⟨_, rfl⟩
            have hpn : p < N := by rw [hp]; exact plc_lt _ _ _ (by have := HNN.out; omega)
            have hnext : setB l p = allB (allB (List.replicate b 0) (keysPs (ts.take k) N)) (keyPs x N (j + 1)) := by
              rw [keyPs_succ, allB_snoc, ← hl, hp]
            obtain ⟨q, hq⟩ : ∃ q, q = p / 8 := ⟨_, rfl⟩
            have hql : q < l.length := by rw [hll]; have := HNN.out; omega
            have he : (p : Int) / 8 = (q : Int) := by omega
            obtain ⟨r, hr⟩ : ∃ r, r = p % 8 := ⟨_, rfl⟩
            have hr8 : r < 8 := by omega
            have her : (p : Int) % 8 = (r : Int) := by omega
            obtain ⟨y, hy⟩ : ∃ y : UInt8, y = l[q] := ⟨_, rfl⟩
            have hc1 := (hst3 q hql).1
            have hf1 := (hst3 q hql).2
            rw [← hy] at hc1
            have hqi : (q : Int) < (b : Int) := by omega
            have hwq : IntKind.i64.wrap (q : Int) = (q : Int) := i64_wrap_nat q (by omega)
            have hwr : IntKind.i64.wrap (r : Int) = (r : Int) := i64_wrap_nat r (by omega)
            have hri : (r : Int) ≤ 8 := by omega
            have hri2 : ¬ (8 : Int) ≤ (r : Int) := by omega
            have hri3 : (r : Int) ≤ 7 := by omega
            have hset : setB l p = l.set q (y ||| bitB p) := by
              rw [setB, ← hq, List.getD_eq_getElem?_getD, List.getElem?_eq_getElem hql, hy]; rfl
            have hck2 : wr.cell? ⟨bb, off + k, none⟩ = some (.string ⟨x.toArray⟩) := (hbel2.cell (p := ⟨bb, off + k, none⟩) hbb).trans HCK.out
            have K := hst3.set q hql (y ||| bitB p)
            rw [← hset, hnext] at K
            have HK := Lib.hid K
            have hor : bits .or .u8 (y.toNat : Int) ((bitB p).toNat : Int) = ((y ||| bitB p).toNat : Int) := by
              rw [u8_or_nat _ _ y.toNat_lt (bitB p).toNat_lt, UInt8.toNat_or]
            have hert : (p : Int).tmod 8 = (r : Int) := by rw [hr]; exact tmod_nat p 8
            have hbp : IntKind.u8.wrap (2 ^ r) = ((bitB p).toNat : Int) := wrap_pow p r hr
            have HP := Lib.hid hp
            clear hl hst3 hp hnext hq hr hy hset K
            go_wp2_with fail
            refine (place_ref ⟨x.toArray⟩ j N _ (by rw [size_mkl]; exact hxl) (by omega) (by omega) (by have := HNN.out; omega)).mono ?_
            rintro e w' ⟨rfl, rfl⟩
            rw [show (⟨x.toArray⟩ : ByteArray).data.toList = x from rfl, ← HP.out]
            go_wp2
            go_still_tail 13, (by kernel_rfl)
            change wpList _ _ _ _ _ wr.drew
            go_wp2
            go_roundw
            case rel => exact ⟨j + 1, by omega, by go_num, Lib.hid HK.out.drew, (hbel2.setCell (p := ⟨w.heap.size, q, none⟩) (Nat.le_refl _) _).drew, by simpa using hws2⟩
            case measure => simp [intOf]; omega
          · obtain rfl : j = 6 := by omega
            have hst3 := hst2.out
            rw [← allB_append, HX.out, ← keysPs_take hkt] at hst3
            have H3 := Lib.hid hst3
            clear hst3
            go_wp2
            go_roundw
            case rel => exact ⟨k + 1, by omega, by go_num, H3, hbel2, hws2⟩
            case measure => simp [intOf]; omega
    · obtain rfl : k = n := by omega
      have hst2 := hst.out
      have e1 : allB (List.replicate b 0) (keysPs ts N) = makeL ts := by rw [makeL, ← HN.out, ← HB.out, HNN.out]
      rw [HN.out, List.take_length, e1] at hst2
      have hcv := HCV.out wr hst2
      clear hst2
      go_wp2
      go_ret2
      exact ⟨rfl, hbel⟩

/-! ### Has -/
theorem shr_bit (x r : Nat) : x / 2 ^ r % 2 = (x.testBit r).toNat := by
  rw [Nat.testBit_eq_decide_div_mod_eq]
  have h : x / 2 ^ r % 2 = 0 ∨ x / 2 ^ r % 2 = 1 := by omega
  rcases h with h | h <;> simp [h]
theorem shr_and (x : UInt8) (r : Nat) (h : r < 8) : (bits .and .u8 ((x.toNat : Int) / 2 ^ r) 1 == 0) = !x.toNat.testBit r := by
  have h2 : (2 : Int) ^ r = ((2 ^ r : Nat) : Int) := by simp
  have hx := x.toNat_lt
  have h3 : x.toNat / 2 ^ r ≤ x.toNat := Nat.div_le_self _ _
  rw [h2, ← Int.natCast_ediv]
  have h4 := u8_and_nat (x.toNat / 2 ^ r) 1 (by omega) (by omega)
  rw [show ((1 : Nat) : Int) = 1 from rfl] at h4
  rw [h4, nat_mask1, shr_bit]
  cases x.toNat.testBit r <;> rfl
end Go.Proofs.YtobhjmkaamjoeaaGreat
