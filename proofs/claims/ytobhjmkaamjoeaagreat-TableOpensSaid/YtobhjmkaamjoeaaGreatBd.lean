/-
  Layer 8 (bloom), contracts of Make, with its closure and places. Conditions: lengths within the reach.
-/
import Derived.Test.YtobhjmkaamjoeaaGreatBc
import Derived.Deep.OwnRows
namespace Go.Proofs.YtobhjmkaamjoeaaGreat
open Go.RowKit
set_option linter.unusedVariables false
set_option linter.unusedSimpArgs false

theorem bv_rep0 (n : Nat) : bv (List.replicate n 0) = List.replicate n (Value.int .u8 0) := by simp [bv]
theorem Tryz.infoU8 : (Tryz.prog.info? 5).map (fun i => (i.zero, i.size, i.bytes)) = some (some (.int .u8 0), 1, 1) := by kernel_rfl
theorem made_row (w : World) (t : TypeId) (n : Nat) : hasRow (w.alloc (.cells (madeCells #[Value.int .u8 0] n) t)) w.heap.size (List.replicate n 0) := by
  intro j hj
  rw [List.length_replicate] at hj
  refine ⟨?_, by unfold World.frozen?; simp only [heap_alloc_new]; simp [madeCells]⟩
  simp [madeCells, hj, Nat.mod_one]
/-- What Make's closure reads and writes: the bits so far, in row g. -/
def MSt (B g : Nat) (w : World) (l : List UInt8) : Prop :=
  B < w.heap.size ∧ g < w.heap.size ∧ B ≠ g ∧ w.cell? ⟨B, 0, none⟩ = some (.slice (some ⟨g, 0, none⟩) l.length l.length) ∧ hasRow w g l
theorem MSt.below {B g : Nat} {w w' : World} {l : List UInt8} (h : MSt B g w l) (hb : Below w.heap.size w w') : MSt B g w' l := by
  obtain ⟨h0, h1, h2, h3, h4⟩ := h
  exact ⟨Nat.lt_of_lt_of_le h0 hb.size, Nat.lt_of_lt_of_le h1 hb.size, h2, (hb.cell (p := ⟨B, 0, none⟩) h0).trans h3, h4.below h1 hb⟩
theorem MSt.set {B g : Nat} {w : World} {l : List UInt8} (h : MSt B g w l) (j : Nat) (hj : j < l.length) (b : UInt8) : MSt B g (w.setCell ⟨g, j, none⟩ (.int .u8 (b.toNat : Int))) (l.set j b) := by
  obtain ⟨h0, h1, h2, h3, h4⟩ := h
  refine ⟨by simpa using h0, by simpa using h1, h2, ?_, h4.set j hj b⟩
  rw [World.cell?_setCell_other w _ _ _ (by intro c; simp only [Addr.mk.injEq] at c; omega), List.length_set]
  exact h3
set_option maxRecDepth 100000 in
set_option maxHeartbeats 1000000 in
theorem tellMake_any (B g W : Nat) (w : World) (l : List UInt8) (p : Nat) (hp : p < 8 * l.length) (hl : l.length ≤ 1048576) (h : MSt B g w l) (hW : W ≤ g) (hWw : W ≤ w.heap.size) :
    Calls Tryz.prog 91 #[.int .i64 (p : Int), .pointer (some ⟨B, 0, none⟩)] w fun e w' =>
      e = .returned (.bool true) ∧ MSt B g w' (setB l p) ∧ Below W w w' := by
  have H := Lib.hid h
  obtain ⟨h0, h1, h2, h3, h4⟩ := h
  obtain ⟨q, hq⟩ : ∃ q, q = p / 8 := ⟨_, rfl⟩
  have hql : q < l.length := by omega
  have he : (p : Int) / 8 = (q : Int) := by omega
  obtain ⟨x, hx⟩ : ∃ x : UInt8, x = l[q] := ⟨_, rfl⟩
  have hc := (h4 q hql).1
  have hf := (h4 q hql).2
  rw [← hx] at hc
  have hqi : (q : Int) < (l.length : Int) := by omega
  have hwq : IntKind.i64.wrap (q : Int) = (q : Int) := i64_wrap_nat q (by omega)
  have hor : bits .or .u8 (x.toNat : Int) ((bitB p).toNat : Int) = ((x ||| bitB p).toNat : Int) := by
    rw [u8_or_nat _ _ x.toNat_lt (bitB p).toNat_lt, UInt8.toNat_or]
  have hset : setB l p = l.set q (x ||| bitB p) := by
    rw [setB, ← hq, List.getD_eq_getElem?_getD, List.getElem?_eq_getElem hql, hx]; rfl
  obtain ⟨n, hn⟩ : ∃ n, n = l.length := ⟨_, rfl⟩
  rw [← hn] at h3 hqi
  have hnb : (n : Int) ≤ 1048576 := by omega
  have HN := Lib.hid hn
  rw [hset]
  have HQ := Lib.hid hq
  have HX := Lib.hid hx
  have H4 := Lib.hid h4
  clear hq hx hn h4 hset
  go_enter Tryz.func91, Tryz.ntmps91
  go_wp2
  refine below_tail 9 (by kernel_rfl) (by kernel_rfl) ?_
  simp only [List.take_succ_cons, List.take_zero, List.drop_succ_cons, List.drop_zero]
  repeat (first
    | go_big_quiet_skip
    | (go_big_quiet_want
       first
       | (refine BigFrame.quiet_move _ rfl ?_)
       | (refine BigFrame.quiet_assign _ rfl ?_)
       | (unfold Oper.quiet
          apply Exists.intro
          refine ⟨fun w' hw' => ?_, ?_⟩
          · (obtain ⟨hc', hf'⟩ := bcell hw'
             go_simp
             first
             | done
             | exact rfl
             | (go_at_call 82; (with_reducible refine (bit_below p _ (by omega)).mono ?_); rintro e w'' ⟨rfl, bb⟩; exact ⟨rfl, by first | exact bt hw' bb | simpa using bt hw' bb⟩)))
       go_big_quiet_on
       simp only [Act.put, Act.eval, List.setIfInBounds_toArray, List.set_cons_zero, List.set_cons_succ, Array.getD_eq_getD_getElem?, List.getElem?_toArray, List.getElem?_cons_zero, List.getElem?_cons_succ, Option.getD_some]))
  refine wpQuiet_nil ?_
  intro w' hw'
  have k1 := H.out.below hw'
  have c1 := (hw'.cell (p := ⟨g, q, none⟩) h1).trans hc
  have f1 := (hw'.frozen (p := ⟨g, q, none⟩) h1).trans hf
  have K := Lib.hid (k1.set q hql (x ||| bitB p))
  have BB := Lib.hid ((show Below W w w' from hw'.mono hWw).setCell (p := ⟨g, q, none⟩) hW (.int .u8 ((x ||| bitB p).toNat : Int)))
  clear hw' k1 hc hf h3
  go_wp2
  go_ret
  exact ⟨rfl, K.out, BB.out⟩

set_option maxRecDepth 100000 in
set_option maxHeartbeats 1000000 in
theorem placesMake_any (B g W n : Nat) (w : World) (l : List UInt8) (key : ByteArray) (hk : key.size ≤ 140737488351232) (hl : l.length ≤ 1048576) (h0 : 0 < l.length) (hn : n = 8 * l.length) (h : MSt B g w l) (hW : W ≤ g) (hWw : W ≤ w.heap.size) :
    Calls Tryz.prog 80 #[.string key, .int .i64 (n : Int), .func (.func 91) #[] #[.pointer (some ⟨B, 0, none⟩)]] w fun e w' =>
      e = .returned (.tuple #[]) ∧ MSt B g w' (allB l (keyPs key.data.toList n 6)) ∧ Below W w w' := by
  obtain ⟨a, ha⟩ : ∃ a, a = crcV 0 key.data.toList := ⟨_, rfl⟩
  obtain ⟨d, hd⟩ : ∃ d, d = stepL key.data.toList := ⟨_, rfl⟩
  have ha1 : a < 4294967296 := by rw [ha]; exact crcV_lt _ (by omega)
  have hd1 : d < 4294967296 := by rw [hd]; exact stepL_lt _
  have hm : crcV ((a : Int) % 4294967296).toNat (⟨#[35]⟩ : ByteArray).data.toList ||| 1 = d := by
    rw [show ((a : Int) % 4294967296).toNat = a by omega, hd, stepL, crcV_append, ← ha]
  obtain ⟨b, hb⟩ : ∃ b, b = crcV ((a : Int) % 4294967296).toNat (⟨#[35]⟩ : ByteArray).data.toList := ⟨_, rfl⟩
  have hb1 : b < 4294967296 := by rw [hb]; exact crcV_lt _ (by omega)
  rw [← hb] at hm
  have hor : bits .or .i64 (b : Int) 1 = (d : Int) := by rw [← hm]; exact i64_or_nat b 1 (by omega) (by omega)
  have hn0 : 0 < n := by omega
  have hnb : n ≤ 8388608 := by omega
  have HA := Lib.hid ha
  have HD := Lib.hid hd
  have HN := Lib.hid hn
  have HB := Lib.hid hb
  have H := Lib.hid h
  have HM := Lib.hid hm
  clear ha hd hn hb h hm
  go_enter Tryz.func80, Tryz.ntmps80
  go_wp2_with fail
  refine (sum_code key _ (by omega)).mono ?_
  rintro e w' ⟨rfl, rfl⟩
  rw [← HA.out]
  go_wp2_with fail
  refine (more_code (a : Int) ⟨#[35]⟩ _ (by decide)).mono ?_
  rintro e w' ⟨rfl, rfl⟩
  rw [← HB.out]
  go_wp2
  go_loopw [14] (fun i wr => ∃ k : Nat, k ≤ 6 ∧ i = .int .i64 (k : Int) ∧ Hid (MSt B g wr (allB l (keyPs key.data.toList n k))) ∧ Below W w wr) (fun i _ => 6 - (intOf i).toNat)
  case atStart => exact ⟨0, by omega, rfl, Lib.hid (by simpa [keyPs, allB] using H.out), Below.refl _ _⟩
  case round =>
    obtain ⟨k, hk6, rfl, hst, hbel⟩ := hrel
    by_cases hlt : k < 6
    · obtain ⟨m, hm⟩ : ∃ m, m = k * d := ⟨_, rfl⟩
      have hm1 : m ≤ 6 * 4294967296 := by rw [hm]; exact Nat.mul_le_mul (by omega) (by omega)
      have hmi : (k : Int) * (d : Int) = (m : Int) := by rw [hm]; simp
      obtain ⟨p, hp⟩ : ∃ p, p = (a + m) % n := ⟨_, rfl⟩
      have hpn : p < n := by rw [hp]; exact Nat.mod_lt _ hn0
      have hpi : ((a : Int) + (m : Int)) % (n : Int) = (p : Int) := by rw [hp]; simp
      have hpl : plc key.data.toList n k = p := by rw [plc, hp, hm, HA.out, HD.out]
      have HP := Lib.hid hpl
      have HPN := Lib.hid hpn
      have hc := tellMake_any B g W wr _ p (by rw [allB_length]; have := HN.out; omega) (by rw [allB_length]; exact hl) hst.out hW (Nat.le_trans hWw hbel.size)
      rw [← hpl, ← allB_snoc, ← keyPs_succ, hpl] at hc
      have HC := Lib.hid hc
      clear hm hp hpl hc
      go_wp2_with (first | (go_at_call 91; refine HC.out.mono ?_; rintro e w2 ⟨rfl, hst2, b2⟩; have HST := Lib.hid hst2; clear hst2))
      go_roundw
      case rel => exact ⟨k + 1, by omega, by go_num, HST, hbel.trans b2⟩
      case measure => simp [intOf]; omega
    · obtain rfl : k = 6 := by omega
      go_wp2
      go_end0
      exact ⟨rfl, hst.out, hbel⟩

/-! ### Make -/
theorem makeL_at (ts : List (List UInt8)) : makeL ts = allB (List.replicate (nBytes ts.length) 0) (keysPs ts (8 * nBytes ts.length)) := rfl
theorem keysPs_take {ts : List (List UInt8)} {k : Nat} (h : k < ts.length) (n : Nat) : keysPs (ts.take (k + 1)) n = keysPs (ts.take k) n ++ keyPs ts[k] n 6 := by
  rw [List.take_succ_eq_append_getElem h, keysPs_snoc]
set_option maxHeartbeats 1000000 in
theorem make_full (a : Option Addr) (m cap : Nat) (w : World) (hm : 4096 < m) (hmx : m ≤ 140737488351232) :
    Calls Tryz.prog 52 #[.slice a m cap] w fun e w' => e = .returned (.tuple #[.string ⟨#[]⟩, .int .i64 2]) ∧ Below w.heap.size w w' := by
  go_enter Tryz.func52, Tryz.ntmps52
  go_wp2
  go_ret2
  exact ⟨rfl, Below.refl _ _⟩
set_option maxRecDepth 100000 in
set_option maxHeartbeats 1000000 in
theorem make_code (a : Option Addr) (cap : Nat) (ts : List (List UInt8)) (w : World) (hr : Rd w a ts) (hts : ∀ t ∈ ts, t.length ≤ 140737488351232) (hm : ts.length ≤ 4096) :
    Calls Tryz.prog 52 #[.slice a ts.length cap] w fun e w' => e = .returned (.tuple #[.string ⟨(makeL ts).toArray⟩, .int .i64 0]) ∧ Below w.heap.size w w' := by
  obtain ⟨n, hn⟩ : ∃ n, n = ts.length := ⟨_, rfl⟩
  obtain ⟨b, hb⟩ : ∃ b, b = nBytes n := ⟨_, rfl⟩
  have hb8 := nBytes_ge n
  have hb5 := nBytes_le n
  rw [← hb] at hb8 hb5
  have hcv : ∀ w' : World, hasRow w' w.heap.size (makeL ts) → (convert 49 9 (.slice (some ⟨w.heap.size, 0, none⟩) b b)).run Tryz.prog w' = .ok (.string ⟨(makeL ts).toArray⟩) w' :=
    fun w' h => run_str_row w' 49 9 5 Tryz.underlying49 Tryz.underlying5 Tryz.underlying9 w.heap.size b b (makeL ts) (by rw [makeL_length, ← hn, hb]) h
  have HCV := Lib.hid hcv
  rw [← hn] at hm ⊢
  have HN := Lib.hid hn
  have HB := Lib.hid hb
  have HR := Lib.hid hr
  have hmk : ∀ W : World, (Instr.makeSlice 49 (.int .i64 (b : Int)) (.int .i64 (b : Int))).run Tryz.prog W = .ok (.slice (some ⟨W.heap.size, 0, none⟩) b b) (W.alloc (.cells (madeCells #[Value.int .u8 0] b) 5)) :=
    fun W => run_make_row' 49 5 (.int .u8 0) 1 Tryz.underlying49 Tryz.infoU8 rfl _ _ b (by omega) (by omega) W
  clear hn hb hr hcv
  go_enter Tryz.func52, Tryz.ntmps52
  go_wp2_with fail
  refine (bytes_any (n : Int) _).mono ?_
  rintro e w' ⟨rfl, rfl⟩
  rw [Int.toNat_natCast, ← HB.out]
  go_wp2
  go_loopw [16] (fun i wr => ∃ k : Nat, k ≤ n ∧ i = .int .i64 (k : Int) ∧ Hid (MSt (w.heap.size + 1) w.heap.size wr (allB (List.replicate b 0) (keysPs (ts.take k) (8 * b)))) ∧ Below w.heap.size w wr) (fun i _ => n - (intOf i).toNat)
  case atStart =>
    refine ⟨0, by omega, rfl, Lib.hid ⟨by simp, by simp; omega, by omega, by simp [keysPs, allB], ?_⟩, ((Below.refl _ _).alloc (Nat.le_refl _) _).alloc (by simp) _⟩
    rw [show allB (List.replicate b 0) (keysPs (ts.take 0) (8 * b)) = List.replicate b 0 from rfl]
    exact (made_row w _ b).below (by simp) ((Below.refl _ _).alloc (Nat.le_refl _) _)
  case round =>
    obtain ⟨k, hkn, rfl, hst, hbel⟩ := hrel
    by_cases hlt : k < n
    · have hkt : k < ts.length := by rw [← HN.out]; exact hlt
      have hr2 := HR.out.old hbel
      rcases hr2 with h0 | ⟨bb, off, rfl, hbb, hc⟩
      · rw [h0] at hkt; simp at hkt
      · have hck := hc k hkt
        obtain ⟨x, hx⟩ : ∃ x, x = ts[k] := ⟨_, rfl⟩
        rw [← hx] at hck
        have hxl := hts ts[k] (List.getElem_mem _)
        rw [← hx] at hxl
        have hst2 := hst.out
        have hlen : (allB (List.replicate b 0) (keysPs (ts.take k) (8 * b))).length = b := by rw [allB_length, List.length_replicate]
        have hp := placesMake_any (w.heap.size + 1) w.heap.size w.heap.size (8 * b) wr _ ⟨x.toArray⟩ (by rw [size_mkl]; exact hxl) (by rw [hlen]; omega) (by rw [hlen]; omega) (by rw [hlen]) hst2 (Nat.le_refl _) hbel.size
        rw [← allB_append, show (⟨x.toArray⟩ : ByteArray).data.toList = x from rfl, hx, ← keysPs_take hkt, ← hx] at hp
        have c1 := hst2.2.2.2.1
        rw [hlen] at c1
        have hbi : (b : Int) * 8 = ((8 * b : Nat) : Int) := by omega
        have HP := Lib.hid hp
        have HBI := Lib.hid hbi
        clear hc hx hp hst2 hlen hbi
        go_wp2_with fail
        rw [HBI.out]
        refine HP.out.mono ?_
        rintro e w2 ⟨rfl, h2, b2⟩
        have H2 := Lib.hid h2
        have BB := Lib.hid (hbel.trans b2)
        clear h2 b2 c1 hck
        go_wp2
        go_roundw
        case rel => exact ⟨k + 1, by omega, by go_num, H2, BB.out⟩
        case measure => simp [intOf]; omega
    · obtain rfl : k = n := by omega
      have hst2 := hst.out
      have e1 : allB (List.replicate b 0) (keysPs ts (8 * b)) = makeL ts := by rw [makeL, ← HN.out, ← HB.out]
      rw [HN.out, List.take_length, e1] at hst2
      have c1 := hst2.2.2.2.1
      rw [makeL_length, ← HN.out, ← HB.out] at c1
      have hcv := HCV.out wr hst2.2.2.2.2
      clear hst2
      go_wp2
      go_ret2
      exact ⟨rfl, hbel⟩
end Go.Proofs.YtobhjmkaamjoeaaGreat
