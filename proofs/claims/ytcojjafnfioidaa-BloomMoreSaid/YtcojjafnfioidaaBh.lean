/-
  Layer 8 (bloom): the walk of the law BloomMore. Conditions: lengths within the reach.
-/
import Derived.Test.YtcojjafnfioidaaBg
import Derived.Test.YtcojjafnfioidaaQw
namespace Go.Proofs.Ytcojjafnfioidaa
open Go.RowKit
set_option linter.unusedVariables false
set_option linter.unusedSimpArgs false

/-! ### plain -/
def turnK (ts : List (List UInt8)) (T n k : Nat) : List (List UInt8) := (List.range k).map fun i => ts.getD ((i + T) % n) []
theorem turnK_length (ts : List (List UInt8)) (T n k : Nat) : (turnK ts T n k).length = k := by simp [turnK]
theorem turnK_succ (ts : List (List UInt8)) (T n k : Nat) (h : (k + T) % n < ts.length) : turnK ts T n (k + 1) = turnK ts T n k ++ [ts[(k + T) % n]] := by
  simp only [turnK, List.range_succ, List.map_append, List.map_cons, List.map_nil]
  rw [List.getD_eq_getElem?_getD, List.getElem?_eq_getElem h]
  rfl
theorem mem_turnK {ts : List (List UInt8)} {T n k : Nat} (hn : n = ts.length) (h0 : 0 < n) {x : List UInt8} (h : x ∈ turnK ts T n k) : x ∈ ts := by
  simp only [turnK, List.mem_map] at h
  obtain ⟨i, _, rfl⟩ := h
  have hlt : (i + T) % n < ts.length := by rw [← hn]; exact Nat.mod_lt _ h0
  rw [List.getD_eq_getElem?_getD, List.getElem?_eq_getElem hlt]
  exact List.getElem_mem hlt
theorem back_mod (j T n : Nat) (h : j < n) : ((j + (n - T % n)) % n + T) % n = j := by
  have h0 : 0 < n := by omega
  have ht : T % n < n := Nat.mod_lt _ h0
  rw [Nat.mod_add_mod]
  have e : T = T % n + n * (T / n) := (Nat.mod_add_div T n).symm
  have e2 : j + (n - T % n) + T = j + n * (T / n + 1) := by
    rw [Nat.mul_add, Nat.mul_one]
    omega
  rw [e2, Nat.add_mul_mod_self_left, Nat.mod_eq_of_lt h]
theorem turnK_mem {ts : List (List UInt8)} {T n : Nat} (hn : n = ts.length) {x : List UInt8} (h : x ∈ ts) : x ∈ turnK ts T n n := by
  obtain ⟨j, hj, rfl⟩ := List.getElem_of_mem h
  have hjn : j < n := by omega
  simp only [turnK, List.mem_map, List.mem_range]
  refine ⟨(j + (n - T % n)) % n, Nat.mod_lt _ (by omega), ?_⟩
  rw [back_mod j T n hjn, List.getD_eq_getElem?_getD, List.getElem?_eq_getElem hj]
  rfl
theorem make_turned {ts : List (List UInt8)} {T n : Nat} (hn : n = ts.length) (h0 : 0 < n) : makeL (turnK ts T n n) = makeL ts :=
  makeL_same (by rw [turnK_length]; exact hn) (fun L h => mem_turnK hn h0 h) (fun L h => turnK_mem hn h)
theorem sub_bits {x y : UInt8} (h : ∀ i, i < 8 → x.toNat.testBit i = true → y.toNat.testBit i = true) : (bits .andNot .u8 (x.toNat : Int) (y.toNat : Int) != 0) = false := by
  have hx := x.toNat_lt
  have hy := y.toNat_lt
  rw [u8_andNot_nat _ _ hx hy]
  have h0 : x.toNat &&& (255 - y.toNat) = 0 := by
    apply Nat.eq_of_testBit_eq
    intro i
    rw [Nat.testBit_and, Nat.zero_testBit, show 255 - y.toNat = 2 ^ 8 - (y.toNat + 1) by omega, Nat.testBit_two_pow_sub_succ hy]
    by_cases hi : i < 8
    · cases hb : x.toNat.testBit i with
      | false => rfl
      | true => rw [h i hi hb]; simp
    · simp [hi]
  rw [h0]
  rfl
theorem and_255 (x : Int) : ∃ q : Nat, q < 256 ∧ bits .and .i64 x 255 = (q : Int) := by
  have h := i64_low 8 (by omega) 255 x (by decide)
  refine ⟨(x % 256).toNat, by omega, ?_⟩
  rw [h]
  omega

theorem make_at (a : Option Addr) (n cap : Nat) (L : List (List UInt8)) (M : ByteArray) (w : World) (hr : Rd w a L) (hn : L.length = n) (hM : M = ⟨(makeL L).toArray⟩) (hts : ∀ t ∈ L, t.length ≤ 256) (h : n ≤ 100) :
    Calls Try.prog 11 #[.slice a n cap] w fun e w' => e = .returned (.tuple #[.string M, .int .i64 0]) ∧ Below w.heap.size w w' := by
  subst hn
  rw [hM]
  exact make_code a cap L w hr (fun t ht => by have := hts t ht; omega) (by omega)
theorem own_rdn {w : World} {base n cap : Nat} {t : TypeId} {a : Option Addr} {L : List (List UInt8)} (h : w.ownsRow base t 1 (.slice a n cap) n (sv L)) (hn : L.length = n) : Rd w a L := by
  subst hn
  exact own_rd h

set_option maxRecDepth 100000 in
set_option maxHeartbeats 1000000 in
theorem more_skip (a : Option Addr) (cap n : Nat) (ts : List (List UInt8)) (turn : Int) (key : ByteArray) (w : World) (hr : Rd w a ts) (hl : ts.length ≤ maxLen) (hn : ts.length = n)
    (h : fewB ts = false ∨ (fewB ts = true ∧ (n = 0 ∨ 60 < n ∨ 256 < key.size))) :
    Calls Try.prog 6 #[.slice a n cap, .int .i64 turn, .string key] w fun e w' => e = .returned (.bool true) ∧ Below w.heap.size w w' := by
  have hf := few_any a cap ts w hr hl
  rw [hn] at hf
  rcases h with h | ⟨h, h2⟩
  · rw [h] at hf
    have HF := Lib.hid hf
    clear hf hr hl hn h
    go_enter Try.func6, Try.ntmps6
    go_wp2_with fail
    refine HF.out.mono ?_
    rintro e w1 ⟨rfl, rfl⟩
    go_wp2_with fail
    refine (awake_any _).mono ?_
    rintro e w1 ⟨rfl, b1⟩
    go_wp2
    go_ret
    exact ⟨rfl, b1⟩
  · rw [h] at hf
    have HF := Lib.hid hf
    clear hf hr hl hn h
    by_cases h0 : n = 0
    · subst h0
      clear h2
      go_enter Try.func6, Try.ntmps6
      go_wp2_with fail
      refine HF.out.mono ?_
      rintro e w1 ⟨rfl, rfl⟩
      go_wp2_with fail
      refine (awake_any _).mono ?_
      rintro e w1 ⟨rfl, b1⟩
      go_wp2
      go_ret
      exact ⟨rfl, b1⟩
    · have h0i : ((n : Int) == 0) = false := by simp; exact h0
      by_cases h60 : 60 < n
      · have h60i : (60 : Int) < (n : Int) := by omega
        clear h2
        go_enter Try.func6, Try.ntmps6
        go_wp2_with fail
        refine HF.out.mono ?_
        rintro e w1 ⟨rfl, rfl⟩
        go_wp2_with fail
        refine (awake_any _).mono ?_
        rintro e w1 ⟨rfl, b1⟩
        go_wp2
        go_ret
        exact ⟨rfl, b1⟩
      · have h60i : (n : Int) ≤ 60 := by omega
        have hki : (256 : Int) < (key.size : Int) := by omega
        clear h2
        go_enter Try.func6, Try.ntmps6
        go_wp2_with fail
        refine HF.out.mono ?_
        rintro e w1 ⟨rfl, rfl⟩
        go_wp2_with fail
        refine (awake_any _).mono ?_
        rintro e w1 ⟨rfl, b1⟩
        go_wp2
        go_ret
        exact ⟨rfl, b1⟩

/-- The three rows of the law, behind k rounds. -/
structure Rows3 (w wr : World) (ts : List (List UInt8)) (T n k : Nat) (v1 v2 v3 : Value) : Prop where
  o1 : wr.ownsRow w.heap.size 9 1 v1 k (sv (turnK ts T n k))
  o2 : wr.ownsRow w.heap.size 9 1 v2 k (sv (ts.take k))
  o3 : wr.ownsRow w.heap.size 9 1 v3 k (sv (ts.take k))
  a12 : Apt v1 v2
  a13 : Apt v1 v3
  a23 : Apt v2 v3
  bel : Below w.heap.size w wr

set_option maxRecDepth 100000 in
set_option maxHeartbeats 4000000 in
theorem more_go (b off : Nat) (cap n : Nat) (ts : List (List UInt8)) (turn : Int) (key : List UInt8) (w : World) (hb : b < w.heap.size)
    (hc : ∀ i (h : i < ts.length), w.cell? ⟨b, off + i, none⟩ = some (.string ⟨ts[i].toArray⟩)) (hn : ts.length = n)
    (hf : fewB ts = true) (h0 : 0 < n) (h60 : n ≤ 60) (hk : key.length ≤ 256) :
    Calls Try.prog 6 #[.slice (some ⟨b, off, none⟩) n cap, .int .i64 turn, .string ⟨key.toArray⟩] w fun e w' => e = .returned (.bool true) ∧ Below w.heap.size w w' := by
  obtain ⟨i0, hi, hz0, hz1, hz2⟩ := info_parts Try.infoStr
  have hr : Rd w (some ⟨b, off, none⟩) ts := .inr ⟨b, off, rfl, hb, hc⟩
  have hfw := few_any (some ⟨b, off, none⟩) cap ts w hr (by rw [hn]; unfold maxLen; omega)
  rw [hn, hf] at hfw
  obtain ⟨h100, h256⟩ := few_of hf
  obtain ⟨T, hT, hTe⟩ := and_255 turn
  have h0i : ((n : Int) == 0) = false := by simp; omega
  have h60i : (n : Int) ≤ 60 := by omega
  have hks : (⟨key.toArray⟩ : ByteArray).size = key.length := size_mkl key
  have HF := Lib.hid hfw
  have HR := Lib.hid hr
  have HC := Lib.hid hc
  have HN := Lib.hid hn
  have H256 := Lib.hid h256
  clear hfw hr hf h100 hc hn h256
  go_enter Try.func6, Try.ntmps6
  go_wp2_with fail
  refine HF.out.mono ?_
  rintro e w1 ⟨rfl, rfl⟩
  go_wp2
  go_loopw [8, 9, 10, 11] (fun v1 v2 v3 i wr => ∃ k : Nat, k ≤ n ∧ i = .int .i64 (k : Int) ∧ Hid (Rows3 w wr ts T n k v1 v2 v3)) (fun _ _ _ i _ => n - (intOf i).toNat)
  case atStart => exact ⟨0, by omega, rfl, Lib.hid ⟨World.ownsRow_nil _ _ _ _, World.ownsRow_nil _ _ _ _, World.ownsRow_nil _ _ _ _, apt_nil _, apt_nil _, apt_nil _, Below.refl _ _⟩⟩
  case round =>
    obtain ⟨k, hkn, rfl, hrows⟩ := hrel
    by_cases hlt : k < n
    · have hkt : k < ts.length := by rw [HN.out]; exact hlt
      obtain ⟨p, hp⟩ : ∃ p, p = (k + T) % n := ⟨_, rfl⟩
      have hpn : p < n := by rw [hp]; exact Nat.mod_lt _ h0
      have hpt : p < ts.length := by rw [HN.out]; exact hpn
      have hpi : ((k : Int) + (T : Int)) % (n : Int) = (p : Int) := by rw [hp]; simp
      obtain ⟨x, hx⟩ : ∃ x, x = ts[k] := ⟨_, rfl⟩
      obtain ⟨y, hy⟩ : ∃ y, y = ts[p] := ⟨_, rfl⟩
      have hs1 : turnK ts T n (k + 1) = turnK ts T n k ++ [y] := by
        rw [hy]
        have := turnK_succ ts T n k (by rw [← hp]; exact hpt)
        simpa [← hp] using this
      have hs2 : ts.take (k + 1) = ts.take k ++ [x] := by rw [hx]; exact List.take_succ_eq_append_getElem hkt
      have cx0 : w.cell? ⟨b, off + k, none⟩ = some (.string ⟨x.toArray⟩) := by rw [hx]; exact HC.out k hkt
      have cy0 : w.cell? ⟨b, off + p, none⟩ = some (.string ⟨y.toArray⟩) := by rw [hy]; exact HC.out p hpt
      have CX := Lib.hid cx0
      have CY := Lib.hid cy0
      have HS1 := Lib.hid hs1
      have HS2 := Lib.hid hs2
      have B0 := Lib.hid hrows.out.bel
      have hw0 := hrows.out.bel.size
      have cy := (hrows.out.bel.cell (p := ⟨b, off + p, none⟩) hb).trans cy0
      clear hp hx hy hs1 hs2 cx0 cy0
      go_wp2_with (at_builtin; refine wpList_append_where _ rfl (.tmp 45) (.tmp 55) 22 rfl w.heap.size 9 i0 (.string ⟨#[]⟩) 1 16 Try.underlying22 hi hz0 hz1 hz2 rfl (by decide) _ _ _ rfl (hrows.out.o1.alloc _) ⟨wr.heap.size, 0, none⟩ 1 1 [.string ⟨y.toArray⟩] rfl rfl ?c1 ?c2 ?c3 ?c4 ?c5 ?_)
      case c1 => exact cell_new1 _ _ _
      case c2 => exact sv_one [y]
      case c3 => unfold maxLen; omega
      case c4 => omega
      case c5 => simp; omega
      · intro v1' w2 own1 hg1 hw1
        rw [sv_snoc, ← HS1.out] at own1
        have own2 := own_other (hrows.out.o2.alloc (.cells #[.string ⟨y.toArray⟩] 9)) hrows.out.a12 hg1
        have own3 := own_other (hrows.out.o3.alloc (.cells #[.string ⟨y.toArray⟩] 9)) hrows.out.a13 hg1
        have p12 := hrows.out.a12.grow hw1 (fun r hr => Nat.lt_succ_of_lt (hrows.out.o2.lt r hr).2)
        have p13 := hrows.out.a13.grow hw1 (fun r hr => Nat.lt_succ_of_lt (hrows.out.o3.lt r hr).2)
        have bel2 : Below w.heap.size w w2 := (B0.out.alloc hw0 _).grown hg1 (by simp; omega) (fun r hr => (hrows.out.o1.lt r hr).1)
        have hw2 := bel2.size
        have O1 := Lib.hid own1
        have O2 := Lib.hid own2
        have O3 := Lib.hid own3
        have P12 := Lib.hid p12
        have P13 := Lib.hid p13
        have P23 := Lib.hid hrows.out.a23
        have B2 := Lib.hid bel2
        have cx2 := (bel2.cell (p := ⟨b, off + k, none⟩) hb).trans CX.out
        clear own1 own2 own3 hg1 hw1 p12 p13 bel2 hrows cy B0
        go_wp2_with (at_builtin; refine wpList_append_where _ rfl (.tmp 57) (.tmp 62) 22 rfl w.heap.size 9 i0 (.string ⟨#[]⟩) 1 16 Try.underlying22 hi hz0 hz1 hz2 rfl (by decide) _ _ _ rfl (O2.out.alloc _) ⟨w2.heap.size, 0, none⟩ 1 1 [.string ⟨x.toArray⟩] rfl rfl ?d1 ?d2 ?d3 ?d4 ?d5 ?_)
        case d1 => exact cell_new1 _ _ _
        case d2 => exact sv_one [x]
        case d3 => unfold maxLen; omega
        case d4 => omega
        case d5 => simp; omega
        · intro v2' w3 own2 hg2 hw2'
          rw [sv_snoc, ← HS2.out] at own2
          have own1 := own_other (O1.out.alloc (.cells #[.string ⟨x.toArray⟩] 9)) P12.out.symm hg2
          have own3 := own_other (O3.out.alloc (.cells #[.string ⟨x.toArray⟩] 9)) P23.out hg2
          have p12 := P12.out.symm.grow hw2' (fun r hr => Nat.lt_succ_of_lt (O1.out.lt r hr).2)
          have p23 := P23.out.grow hw2' (fun r hr => Nat.lt_succ_of_lt (O3.out.lt r hr).2)
          have bel3 : Below w.heap.size w w3 := (B2.out.alloc hw2 _).grown hg2 (by simp; omega) (fun r hr => (O2.out.lt r hr).1)
          have hw3 := bel3.size
          have Q1 := Lib.hid own1
          have Q2 := Lib.hid own2
          have Q3 := Lib.hid own3
          have R12 := Lib.hid p12.symm
          have R23 := Lib.hid p23
          have B3 := Lib.hid bel3
          have cx3 := (bel3.cell (p := ⟨b, off + k, none⟩) hb).trans CX.out
          clear own1 own2 own3 hg2 hw2' p12 p23 bel3 O1 O2 O3 P12 P23 cx2 B2
          go_wp2_with (at_builtin; refine wpList_append_where _ rfl (.tmp 64) (.tmp 69) 22 rfl w.heap.size 9 i0 (.string ⟨#[]⟩) 1 16 Try.underlying22 hi hz0 hz1 hz2 rfl (by decide) _ _ _ rfl (Q3.out.alloc _) ⟨w3.heap.size, 0, none⟩ 1 1 [.string ⟨x.toArray⟩] rfl rfl ?e1 ?e2 ?e3 ?e4 ?e5 ?_)
          case e1 => exact cell_new1 _ _ _
          case e2 => exact sv_one [x]
          case e3 => unfold maxLen; omega
          case e4 => omega
          case e5 => simp; omega
          · intro v3' w4 own3 hg3 hw3'
            rw [sv_snoc, ← HS2.out] at own3
            have own1 := own_other (Q1.out.alloc (.cells #[.string ⟨x.toArray⟩] 9)) P13.out.symm hg3
            have own2 := own_other (Q2.out.alloc (.cells #[.string ⟨x.toArray⟩] 9)) R23.out.symm hg3
            have p13 := P13.out.symm.grow hw3' (fun r hr => Nat.lt_succ_of_lt (Q1.out.lt r hr).2)
            have p23 := R23.out.symm.grow hw3' (fun r hr => Nat.lt_succ_of_lt (Q2.out.lt r hr).2)
            have bel4 : Below w.heap.size w w4 := (B3.out.alloc hw3 _).grown hg3 (by simp; omega) (fun r hr => (Q3.out.lt r hr).1)
            have HH := Lib.hid (Rows3.mk own1 own2 own3 R12.out p13.symm p23.symm bel4)
            clear own1 own2 own3 hg3 hw3' p13 p23 bel4 Q1 Q2 Q3 R12 R23 P13 cx3 B3
            go_wp2
            go_roundw
            case rel => exact ⟨k + 1, by omega, by go_num, HH⟩
            case measure => simp [intOf]; omega
    · obtain rfl : k = n := by omega
      have o1 := hrows.out.o1
      have o2 := hrows.out.o2
      have o3 := hrows.out.o3
      obtain ⟨a1, c1, rfl⟩ := own_slice o1
      obtain ⟨a2, c2, rfl⟩ := own_slice o2
      obtain ⟨a3, c3, rfl⟩ := own_slice o3
      have P23 := Lib.hid hrows.out.a23
      have B0 := Lib.hid hrows.out.bel
      have hw0 := B0.out.size
      have ht : ts.take k = ts := List.take_of_length_le (by rw [HN.out]; exact Nat.le_refl _)
      rw [ht] at o2 o3
      obtain ⟨M, hM⟩ : ∃ M : ByteArray, M = ⟨(makeL ts).toArray⟩ := ⟨_, rfl⟩
      have m0 := make_at (some ⟨b, off, none⟩) k cap ts M wr (HR.out.old B0.out) HN.out hM H256.out (by omega)
      have m1 := fun w h => make_at a1 k c1 (turnK ts T k k) M w h (turnK_length _ _ _ _) (by rw [make_turned HN.out.symm h0]; exact hM) (fun t ht => H256.out t (mem_turnK HN.out.symm h0 ht)) (by omega)
      have M0 := Lib.hid m0
      have M1 := Lib.hid m1
      have O1 := Lib.hid o1
      have O2 := Lib.hid o2
      have O3 := Lib.hid o3
      clear o1 o2 o3 m0 m1 hrows hM ht
      go_wp2_with fail
      refine M0.out.mono ?_
      rintro e w2 ⟨rfl, b2⟩
      have r1 := own_rdn (below_own O1.out b2) (turnK_length _ _ _ _)
      have Q2 := Lib.hid (below_own O2.out b2)
      have Q3 := Lib.hid (below_own O3.out b2)
      have B2 := Lib.hid (bt B0.out b2)
      have m1 := M1.out _ r1
      clear M0 M1 O1 O2 O3 B0 b2 r1
      go_wp2_with fail
      refine m1.mono ?_
      rintro e w3 ⟨rfl, b3⟩
      have S2 := Lib.hid (below_own Q2.out b3)
      have S3 := Lib.hid (below_own Q3.out b3)
      have B3 := Lib.hid (bt B2.out b3)
      have hw3 := B3.out.size
      obtain ⟨x, hx⟩ : ∃ x, x = ts[0]'(by rw [HN.out]; exact h0) := ⟨_, rfl⟩
      have cx : w3.cell? ⟨b, off, none⟩ = some (.string ⟨x.toArray⟩) := by
        rw [hx]
        have := HC.out 0 (by rw [HN.out]; exact h0)
        rw [Nat.add_zero] at this
        exact (B3.out.cell (p := ⟨b, off, none⟩) hb).trans this
      have hxm : x ∈ ts := by rw [hx]; exact List.getElem_mem _
      have HXM := Lib.hid hxm
      clear m1 Q2 Q3 B2 b3 hx hxm
      go_wp2_with (at_builtin; refine wpList_append_where _ rfl (.tmp 82) (.tmp 86) 22 rfl w.heap.size 9 i0 (.string ⟨#[]⟩) 1 16 Try.underlying22 hi hz0 hz1 hz2 rfl (by decide) _ _ _ rfl (S2.out.alloc _) ⟨w3.heap.size, 0, none⟩ 1 1 [.string ⟨x.toArray⟩] rfl rfl ?f1 ?f2 ?f3 ?f4 ?f5 ?_)
      case f1 => exact cell_new1 _ _ _
      case f2 => exact sv_one [x]
      case f3 => unfold maxLen; omega
      case f4 => omega
      case f5 => simp; omega
      · intro v2' w4 own2 hg2 hw2'
        rw [sv_snoc] at own2
        have own3 := own_other (S3.out.alloc (.cells #[.string ⟨x.toArray⟩] 9)) P23.out hg2
        have bel4 : Below w.heap.size w w4 := (B3.out.alloc hw3 _).grown hg2 (by simp; omega) (fun r hr => (S2.out.lt r hr).1)
        obtain ⟨a4, c4, rfl⟩ := own_slice own2
        have hl4 : (ts ++ [x]).length = k + 1 := by rw [List.length_append, HN.out]; rfl
        have r2 := own_rdn own2 hl4
        have h4 : ∀ t ∈ ts ++ [x], t.length ≤ 256 := by
          intro t ht
          rcases List.mem_append.1 ht with h | h
          · exact H256.out t h
          · rw [List.mem_singleton.1 h]; exact H256.out x HXM.out
        obtain ⟨C, hC⟩ : ∃ C : ByteArray, C = ⟨(makeL (ts ++ [x])).toArray⟩ := ⟨_, rfl⟩
        have m2 := make_at a4 (k + 1) c4 (ts ++ [x]) C w4 r2 hl4 hC h4 (by omega)
        have M2 := Lib.hid m2
        have O3 := Lib.hid own3
        have B4 := Lib.hid bel4
        have HCC := Lib.hid hC
        have HL4 := Lib.hid hl4
        clear own2 own3 hg2 hw2' bel4 m2 r2 h4 hC hl4 S2 S3 B3 P23 cx
        go_wp2_with fail
        refine M2.out.mono ?_
        rintro e w5 ⟨rfl, b5⟩
        have S3 := Lib.hid (below_own O3.out b5)
        have B5 := Lib.hid (bt B4.out b5)
        have hw5 := B5.out.size
        clear O3 B4 b5 M2
        go_wp2_with (at_builtin; refine wpList_append_where _ rfl (.tmp 92) (.tmp 94) 22 rfl w.heap.size 9 i0 (.string ⟨#[]⟩) 1 16 Try.underlying22 hi hz0 hz1 hz2 rfl (by decide) _ _ _ rfl (S3.out.alloc _) ⟨w5.heap.size, 0, none⟩ 1 1 [.string ⟨key.toArray⟩] rfl rfl ?g1 ?g2 ?g3 ?g4 ?g5 ?_)
        case g1 => exact cell_new1 _ _ _
        case g2 => exact sv_one [key]
        case g3 => unfold maxLen; omega
        case g4 => omega
        case g5 => simp; omega
        · intro v3' w6 own3 hg3 hw3'
          rw [sv_snoc] at own3
          have bel6 : Below w.heap.size w w6 := (B5.out.alloc hw5 _).grown hg3 (by simp; omega) (fun r hr => (S3.out.lt r hr).1)
          obtain ⟨a6, c6, rfl⟩ := own_slice own3
          have hl6 : (ts ++ [key]).length = k + 1 := by rw [List.length_append, HN.out]; rfl
          have r3 := own_rdn own3 hl6
          have h6 : ∀ t ∈ ts ++ [key], t.length ≤ 256 := by
            intro t ht
            rcases List.mem_append.1 ht with h | h
            · exact H256.out t h
            · rw [List.mem_singleton.1 h]; exact hk
          obtain ⟨D, hD⟩ : ∃ D : ByteArray, D = ⟨(makeL (ts ++ [key])).toArray⟩ := ⟨_, rfl⟩
          have m3 := make_at a6 (k + 1) c6 (ts ++ [key]) D w6 r3 hl6 hD h6 (by omega)
          obtain ⟨z, hz⟩ : ∃ z, z = nBytes (k + 1) := ⟨_, rfl⟩
          have hz5 := nBytes_le (k + 1)
          rw [← hz] at hz5
          have hCs : C.size = z := by rw [HCC.out, size_mkl, makeL_length, HL4.out, hz]
          have hDs : D.size = z := by rw [hD, size_mkl, makeL_length, hl6, hz]
          have hcd : ∀ i (h1 : i < C.size) (h2 : i < D.size), (bits .andNot .u8 (C[i].toNat : Int) (D[i].toNat : Int) != 0) = false := by
            intro i h1 h2
            apply sub_bits
            intro q hq hb
            have hsub := makeL_sub (Ls := ts ++ [x]) (Ms := ts ++ [key]) (by rw [HL4.out, hl6]) (fun L hL => by
              rcases List.mem_append.1 hL with h | h
              · exact List.mem_append_left _ h
              · rw [List.mem_singleton.1 h]; exact List.mem_append_left _ HXM.out) i q hq
            have e1 : (makeL (ts ++ [x])).getD i 0 = C[i] := by
              have hc2 : C.data.toList = makeL (ts ++ [x]) := by rw [HCC.out]
              rw [← hc2, List.getD_eq_getElem?_getD, List.getElem?_eq_getElem (by simpa using h1)]; rfl
            have e2 : (makeL (ts ++ [key])).getD i 0 = D[i] := by
              have hc2 : D.data.toList = makeL (ts ++ [key]) := by rw [hD]
              rw [← hc2, List.getD_eq_getElem?_getD, List.getElem?_eq_getElem (by simpa using h2)]; rfl
            rw [e1, e2] at hsub
            exact hsub hb
          have hhas : ∀ w : World, Calls Try.prog 13 #[.string D, .string ⟨key.toArray⟩] w fun e w' => e = .returned (.bool true) ∧ Below w.heap.size w w' := by
            intro w
            rw [hD]
            exact has_at _ key true w (has_makeL (by simp)) (by rw [makeL_length, hl6]; have := nBytes_le (k + 1); omega) (by omega)
          have M3 := Lib.hid m3
          have HCD := Lib.hid hcd
          have HHAS := Lib.hid hhas
          have B6 := Lib.hid bel6
          clear own3 hg3 hw3' bel6 m3 r3 h6 hD hl6 hz hcd hhas S3 B5 HCC HL4 HXM HC HR H256 HF
          go_wp2_with fail
          refine M3.out.mono ?_
          rintro e w7 ⟨rfl, b7⟩
          have B7 := Lib.hid (bt B6.out b7)
          clear M3 B6 b7
          go_wp2
          go_loopw [20] (fun i wr => ∃ j : Nat, j ≤ z ∧ i = .int .i64 (j : Int) ∧ Below w.heap.size w wr) (fun i _ => z - (intOf i).toNat)
          case atStart => exact ⟨0, by omega, rfl, B7.out⟩
          case round =>
            obtain ⟨j, hj, rfl, hbel⟩ := hrel
            by_cases hjz : j < z
            · have hjC : j < C.size := by omega
              have hjD : j < D.size := by omega
              have hji : (j : Int) < (C.size : Int) := by omega
              have hji2 : (j : Int) < (D.size : Int) := by omega
              have hcd := HCD.out j hjC hjD
              obtain ⟨p, hp⟩ : ∃ p, C[j] = p := ⟨_, rfl⟩
              obtain ⟨q, hq⟩ : ∃ q, D[j] = q := ⟨_, rfl⟩
              rw [hp, hq] at hcd
              go_wp2
              go_quiet (fail)
              go_wp2
              go_roundw
              case rel => exact ⟨j + 1, by omega, by go_num, below_drewN hbel nq⟩
              case measure => simp [intOf]; omega
            · obtain rfl : j = z := by omega
              go_wp2_with fail
              refine (HHAS.out _).mono ?_
              rintro e w8 ⟨rfl, b8⟩
              go_wp2_with fail
              refine (awake_any _).mono ?_
              rintro e w9 ⟨rfl, b9⟩
              go_wp2
              go_ret
              exact ⟨rfl, bt (bt hbel b8) b9⟩
theorem walk_BloomMore (a : Option Addr) (cap : Nat) (ts : List (List UInt8)) (turn : Int) (hw : (Lit.int .i64 turn).wf = true) (key : ByteArray) (hk : key.size ≤ 140737488351232) (w : World) (hr : Rd w a ts) (hl : ts.length ≤ maxLen) (hc : ts.length ≤ cap) :
    Calls Try.prog 6 #[.slice a ts.length cap, .int .i64 turn, .string key] w fun e w' => e = .returned (.bool true) ∧ Below w.heap.size w w' := by
  by_cases h : fewB ts = true ∧ 0 < ts.length ∧ ts.length ≤ 60 ∧ key.size ≤ 256
  · obtain ⟨h1, h2, h3, h4⟩ := h
    rcases hr with rfl | ⟨b, off, rfl, hb, hcell⟩
    · simp at h2
    · exact more_go b off cap ts.length ts turn key.data.toList w hb hcell rfl h1 h2 h3 (by simpa using h4)
  · refine more_skip a cap ts.length ts turn key w hr hl rfl ?_
    cases hf : fewB ts with
    | false => exact .inl rfl
    | true => exact .inr ⟨rfl, by simp only [hf, true_and] at h; omega⟩
end Go.Proofs.Ytcojjafnfioidaa
