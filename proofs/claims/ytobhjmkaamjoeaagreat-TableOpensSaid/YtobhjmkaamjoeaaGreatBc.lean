/-
  Layer 8 (bloom), contracts of bit, bytesFor, Size of both, Has's closure, places with it, Has. Conditions: lengths within the reach.
-/
import Derived.Test.YtobhjmkaamjoeaaGreatBm
import Derived.Test.YtobhjmkaamjoeaaGreatCw
import Derived.Test.YtobhjmkaamjoeaaGreatTn
import Derived.Test.YtobhjmkaamjoeaaGreatRg
import Derived.Test.YtobhjmkaamjoeaaGreatSv
import Derived.Test.YtobhjmkaamjoeaaGreatQt
import Derived.Lib.MinMax
import Derived.Deep.QuietTactic
import Derived.BigQuiet
import Derived.StillTail
import Derived.Laws.BitsAllLaws
namespace Go.Proofs.YtobhjmkaamjoeaaGreat
open Go.RowKit
set_option linter.unusedVariables false
set_option linter.unusedSimpArgs false

theorem bit_any (p : Nat) (w : World) (hp : p < 4611686018427387904) :
    Calls Tryz.prog 82 #[.int .i64 (p : Int)] w fun e w' => e = .returned (.int .u8 ((bitB p).toNat : Int)) ∧ w = w' := by
  obtain ⟨r, hr⟩ : ∃ r, r = p % 8 := ⟨_, rfl⟩
  have hr8 : r < 8 := by omega
  have he : (p : Int) % 8 = (r : Int) := by omega
  have hb := bitB_toNat p
  rw [← hr] at hb
  have HB := Lib.hid hb
  clear hb hr
  go_enter Tryz.func82, Tryz.ntmps82
  go_wp2
  go_ret
  refine ⟨congrArg Ending.returned (congrArg (Value.int .u8) ?_), rfl⟩
  rw [HB.out]
  have h1 : (2 : Nat) ^ r < 2 ^ 8 := Nat.pow_lt_pow_right (by omega) hr8
  have h2 : (2 : Int) ^ r = ((2 ^ r : Nat) : Int) := by simp
  rw [h2]
  generalize (2 : Nat) ^ r = m at h1
  omega
theorem bit_below (p : Nat) (w : World) (hp : p < 4611686018427387904) :
    Calls Tryz.prog 82 #[.int .i64 (p : Int)] w fun e w' => e = .returned (.int .u8 ((bitB p).toNat : Int)) ∧ Below w.heap.size w w' :=
  (bit_any p w hp).mono fun _ _ ⟨h1, h2⟩ => ⟨h1, h2 ▸ Below.refl _ _⟩
theorem bytes_any (k : Int) (w : World) :
    Calls Tryz.prog 90 #[.int .i64 k] w fun e w' => e = .returned (.int .i64 (nBytes k.toNat : Nat)) ∧ w = w' := by
  go_enter Tryz.func90, Tryz.ntmps90
  go_wp2
  go_ret
  refine ⟨congrArg Ending.returned (congrArg (Value.int .i64) ?_), rfl⟩
  unfold nBytes
  omega
theorem size_ref (k : Int) (w : World) :
    Calls Tryz.prog 61 #[.int .i64 k] w fun e w' => e = .returned (.int .i64 (8 * nBytes k.toNat : Nat)) ∧ w = w' := by
  go_enter Tryz.func61, Tryz.ntmps61
  go_wp2
  go_ret
  refine ⟨congrArg Ending.returned (congrArg (Value.int .i64) ?_), rfl⟩
  unfold nBytes
  omega

/-! ### Has -/
/-- What Has's closure reads and writes: the bits, and whether all are set so far. -/
def HSt (B : Nat) (w : World) (s : ByteArray) (c : Bool) : Prop :=
  B + 2 ≤ w.heap.size ∧ w.cell? ⟨B, 0, none⟩ = some (.string s) ∧ w.cell? ⟨B + 1, 0, none⟩ = some (.bool c) ∧ w.frozen? ⟨B + 1, 0, none⟩ = false
theorem HSt.drew {B : Nat} {w : World} {s : ByteArray} {c : Bool} (h : HSt B w s c) : HSt B w.drew s c := h
theorem HSt.below {B : Nat} {w w' : World} {s : ByteArray} {c : Bool} (h : HSt B w s c) (hb : Below w.heap.size w w') : HSt B w' s c := by
  obtain ⟨h0, h1, h2, h3⟩ := h
  exact ⟨Nat.le_trans h0 hb.size, (hb.cell (p := ⟨B, 0, none⟩) (by show B < _; omega)).trans h1, (hb.cell (p := ⟨B + 1, 0, none⟩) (by show B + 1 < _; omega)).trans h2, (hb.frozen (p := ⟨B + 1, 0, none⟩) (by show B + 1 < _; omega)).trans h3⟩
theorem HSt.set {B : Nat} {w : World} {s : ByteArray} {c : Bool} (h : HSt B w s c) (d : Bool) : HSt B (w.setCell ⟨B + 1, 0, none⟩ (.bool d)) s d := by
  obtain ⟨h0, h1, h2, h3⟩ := h
  have hne : (⟨B + 1, 0, none⟩ : Addr) ≠ ⟨B, 0, none⟩ := by intro h; simp only [Addr.mk.injEq] at h; omega
  exact ⟨by simpa using h0, (World.cell?_setCell_other w _ _ _ hne).trans h1, World.cell?_setCell_same' w _ _ (by rw [h2]; rfl), by rw [World.frozen?_setCell]; exact h3⟩
theorem and_pow_ne (n i : Nat) : (n &&& 2 ^ i != 0) = n.testBit i := by
  cases h : n.testBit i with
  | true =>
    rw [bne_iff_ne]
    intro c
    have h2 := congrArg (Nat.testBit · i) c
    simp only [Nat.testBit_and, h, Nat.testBit_two_pow_self, Nat.zero_testBit] at h2
    cases h2
  | false =>
    have : n &&& 2 ^ i = 0 := by
      apply Nat.eq_of_testBit_eq
      intro j
      rw [Nat.testBit_and, Nat.testBit_two_pow, Nat.zero_testBit]
      by_cases e : i = j
      · subst e; rw [h]; rfl
      · simp [e]
    rw [this]; rfl
theorem and_bit (x : UInt8) (p : Nat) : (bits .and .u8 (x.toNat : Int) ((bitB p).toNat : Int) != 0) = x.toNat.testBit (p % 8) := by
  rw [u8_and_nat _ _ x.toNat_lt (bitB p).toNat_lt, bitB_toNat, ← and_pow_ne]
  rw [bne, bne]
  congr 1
  rw [Bool.eq_iff_iff, beq_iff_eq, beq_iff_eq]
  omega

set_option maxRecDepth 100000 in
set_option maxHeartbeats 1000000 in
theorem tellHas_any (B : Nat) (w : World) (s : ByteArray) (p : Nat) (hp : p < 8 * s.size) (hs : s.size ≤ 140737488351232) (h : HSt B w s true) :
    Calls Tryz.prog 81 #[.int .i64 (p : Int), .pointer (some ⟨B, 0, none⟩), .pointer (some ⟨B + 1, 0, none⟩)] w fun e w' =>
      e = .returned (.bool (isB s.data.toList p)) ∧ HSt B w' s (isB s.data.toList p) ∧ Below B w w' := by
  have H := Lib.hid h
  obtain ⟨h0, h1, h2, h3⟩ := h
  obtain ⟨q, hq⟩ : ∃ q, q = p / 8 := ⟨_, rfl⟩
  have hqs : q < s.size := by omega
  have he : (p : Int) / 8 = (q : Int) := by omega
  obtain ⟨x, hx⟩ : ∃ x : UInt8, x = s[q] := ⟨_, rfl⟩
  have hxi : s[q] = x := hx.symm
  obtain ⟨c, hc⟩ : ∃ c, c = isB s.data.toList p := ⟨_, rfl⟩
  have hcc : (bits .and .u8 (x.toNat : Int) ((bitB p).toNat : Int) != 0) = c := by
    rw [and_bit, hc, isB, ← hq]
    rw [List.getD_eq_getElem?_getD, List.getElem?_eq_getElem (by simpa using hqs)]
    rw [hx]; rfl
  rw [← hc]
  have hqi : (q : Int) < (s.size : Int) := by omega
  have hwq : IntKind.i64.wrap (q : Int) = (q : Int) := i64_wrap_nat q (by omega)
  have hb0 : B < w.heap.size := by omega
  have hb1 : B + 1 < w.heap.size := by omega
  have HC := Lib.hid hc
  have HQ := Lib.hid hq
  have HX := Lib.hid hx
  clear hc hq hx
  go_enter Tryz.func81, Tryz.ntmps81
  go_wp2
  refine below_tail 8 (by kernel_rfl) (by kernel_rfl) ?_
  simp only [List.take_succ_cons, List.take_zero, List.drop_succ_cons, List.drop_zero]
  repeat (first
    | go_big_quiet_skip
    | (go_big_quiet_want
       first
       | (refine BigFrame.quiet_move _ rfl ?_)
       | (refine BigFrame.quiet_assign _ rfl ?_)
       | (unfold Oper.quiet
          apply Exists.intro
          refine ⟨fun w' hw' => ?_, ?_⟩
          · (obtain ⟨hc', hf'⟩ := bcell hw'
             go_simp
             first
             | done
             | exact rfl
             | (go_at_call 82; (with_reducible refine (bit_below p _ (by omega)).mono ?_); rintro e w'' ⟨rfl, bb⟩; exact ⟨rfl, by first | exact bt hw' bb | simpa using bt hw' bb⟩)))
       go_big_quiet_on
       simp only [Act.put, Act.eval, List.setIfInBounds_toArray, List.set_cons_zero, List.set_cons_succ, Array.getD_eq_getD_getElem?, List.getElem?_toArray, List.getElem?_cons_zero, List.getElem?_cons_succ, Option.getD_some]))
  refine wpQuiet_nil ?_
  intro w' hw'
  have h1 := H.out.below hw'
  have K := Lib.hid (h1.set c)
  have BB := Lib.hid ((show Below B w w' from hw'.mono (by omega)).setCell (p := ⟨B + 1, 0, none⟩) (by show B ≤ B + 1; omega) (.bool c))
  have K2 := Lib.hid (h1.set c).2.2.1
  obtain ⟨g0, g1, g2, g3⟩ := h1
  have k2 := K2.out
  clear hw' h1 h2 h3
  go_wp2
  go_ret
  exact ⟨rfl, K.out, BB.out⟩

theorem all_snoc (L s : List UInt8) (n k : Nat) : (keyPs L n (k + 1)).all (isB s) = ((keyPs L n k).all (isB s) && isB s (plc L n k)) := by
  rw [keyPs_succ, List.all_append]
  simp
theorem all_more {L s : List UInt8} {n k : Nat} (h : (keyPs L n k).all (isB s) = false) : ∀ j, (keyPs L n (k + j)).all (isB s) = false
  | 0 => h
  | j + 1 => by rw [← Nat.add_assoc, all_snoc, all_more h j]; rfl
theorem tmod_nat (a n : Nat) : ((a : Int).tmod (n : Int)) = ((a % n : Nat) : Int) := (Int.ofNat_tmod a n).symm
set_option maxRecDepth 100000 in
set_option maxHeartbeats 1000000 in
theorem placesHas_any (B : Nat) (w : World) (s key : ByteArray) (hk : key.size ≤ 140737488351232) (h0 : 0 < s.size) (hs : s.size ≤ 140737488351232) (h : HSt B w s true) :
    Calls Tryz.prog 80 #[.string key, .int .i64 ((8 * s.size : Nat) : Int), .func (.func 81) #[] #[.pointer (some ⟨B, 0, none⟩), .pointer (some ⟨B + 1, 0, none⟩)]] w fun e w' =>
      e = .returned (.tuple #[]) ∧ w'.cell? ⟨B + 1, 0, none⟩ = some (.bool ((keyPs key.data.toList (8 * s.size) 6).all (isB s.data.toList))) ∧ Below B w w' := by
  obtain ⟨n, hn⟩ : ∃ n, n = 8 * s.size := ⟨_, rfl⟩
  rw [← hn]
  obtain ⟨a, ha⟩ : ∃ a, a = crcV 0 key.data.toList := ⟨_, rfl⟩
  obtain ⟨d, hd⟩ : ∃ d, d = stepL key.data.toList := ⟨_, rfl⟩
  have ha1 : a < 4294967296 := by rw [ha]; exact crcV_lt _ (by omega)
  have hd1 : d < 4294967296 := by rw [hd]; exact stepL_lt _
  have hm : crcV ((a : Int) % 4294967296).toNat (⟨#[35]⟩ : ByteArray).data.toList ||| 1 = d := by
    rw [show ((a : Int) % 4294967296).toNat = a by omega, hd, stepL, crcV_append, ← ha]
  obtain ⟨b, hb⟩ : ∃ b, b = crcV ((a : Int) % 4294967296).toNat (⟨#[35]⟩ : ByteArray).data.toList := ⟨_, rfl⟩
  have hb1 : b < 4294967296 := by rw [hb]; exact crcV_lt _ (by omega)
  rw [← hb] at hm
  have hor : bits .or .i64 (b : Int) 1 = (d : Int) := by rw [← hm]; exact i64_or_nat b 1 (by omega) (by omega)
  have HA := Lib.hid ha
  have HD := Lib.hid hd
  have HN := Lib.hid hn
  have HB := Lib.hid hb
  have H := Lib.hid h
  have HBB := h.1
  have hn0 : 0 < n := by omega
  have HM := Lib.hid hm
  clear ha hd hn hb h hm
  go_enter Tryz.func80, Tryz.ntmps80
  go_wp2_with fail
  refine (sum_code key _ (by omega)).mono ?_
  rintro e w' ⟨rfl, rfl⟩
  rw [← HA.out]
  go_wp2_with fail
  refine (more_code (a : Int) ⟨#[35]⟩ _ (by decide)).mono ?_
  rintro e w' ⟨rfl, rfl⟩
  rw [← HB.out]
  go_wp2
  go_loopw [14] (fun i wr => ∃ k : Nat, k ≤ 6 ∧ i = .int .i64 (k : Int) ∧ Hid (HSt B wr s true) ∧ Hid ((keyPs key.data.toList n k).all (isB s.data.toList) = true) ∧ Below B w wr) (fun i _ => 6 - (intOf i).toNat)
  case atStart => exact ⟨0, by omega, rfl, H, Lib.hid (by simp [keyPs]), Below.refl _ _⟩
  case round =>
    obtain ⟨k, hk6, rfl, hst, hall, hbel⟩ := hrel
    by_cases hlt : k < 6
    · obtain ⟨m, hm⟩ : ∃ m, m = k * d := ⟨_, rfl⟩
      have hm1 : m ≤ 6 * 4294967296 := by rw [hm]; exact Nat.mul_le_mul (by omega) (by omega)
      have hmi : (k : Int) * (d : Int) = (m : Int) := by rw [hm]; simp
      obtain ⟨p, hp⟩ : ∃ p, p = (a + m) % n := ⟨_, rfl⟩
      have hpn : p < n := by rw [hp]; exact Nat.mod_lt _ hn0
      have hpi : ((a : Int) + (m : Int)) % (n : Int) = (p : Int) := by rw [hp]; simp
      have hpl : plc key.data.toList n k = p := by rw [plc, hp, hm, HA.out, HD.out]
      have HP := Lib.hid hpl
      have HPN := Lib.hid hpn
      have hc := tellHas_any B wr s p (by have := HN.out; omega) hs hst.out
      have HC := Lib.hid hc
      have hal := all_snoc key.data.toList s.data.toList n k
      rw [hall.out, hpl, Bool.true_and] at hal
      have HAL := Lib.hid hal
      clear hm hp hpl hc hal
      obtain ⟨c, hcc⟩ : ∃ c, c = isB s.data.toList p := ⟨_, rfl⟩
      rw [← hcc] at HC HAL
      clear hcc
      cases c with
      | true =>
        go_wp2_with (first | (go_at_call 81; refine HC.out.mono ?_; rintro e w2 ⟨rfl, hst2, b2⟩; have HST := Lib.hid hst2; clear hst2))
        go_roundw
        case rel => exact ⟨k + 1, by omega, by go_num, HST, HAL, hbel.trans b2⟩
        case measure => simp [intOf]; omega
      | false =>
        go_wp2_with (first | (go_at_call 81; refine HC.out.mono ?_; rintro e w2 ⟨rfl, hst2, b2⟩; have HST := Lib.hid hst2; clear hst2))
        refine bodyPost_ret (results_none rfl _ _ _) rfl ?_
        refine ⟨rfl, ?_, hbel.trans b2⟩
        have h6 := all_more HAL.out (5 - k)
        rw [show k + 1 + (5 - k) = 6 by omega] at h6
        rw [h6]
        exact HST.out.2.2.1
    · obtain rfl : k = 6 := by omega
      go_wp2
      go_end0
      exact ⟨rfl, by rw [hall.out]; exact hst.out.2.2.1, hbel⟩

theorem hasL_bytes (s key : ByteArray) (h : 0 < s.size) : hasL s.data.toList key.data.toList = (keyPs key.data.toList (8 * s.size) 6).all (isB s.data.toList) := by
  have h2 : s.data.toList.length = s.size := by simp
  have h1 : s.data.toList.isEmpty = false := by
    cases e : s.data.toList with
    | nil => rw [e] at h2; simp at h2; omega
    | cons _ _ => rfl
  rw [hasL, h1, Bool.false_or, h2]
theorem hasL_none (s key : ByteArray) (h : s.size = 0) : hasL s.data.toList key.data.toList = true := by
  have h2 : s.data.toList.length = 0 := by simpa using h
  rw [List.length_eq_zero_iff.1 h2]
  rfl
set_option maxHeartbeats 1000000 in
theorem has_code (s key : ByteArray) (w : World) (hs : s.size ≤ 140737488351232) (hk : key.size ≤ 140737488351232) :
    Calls Tryz.prog 41 #[.string s, .string key] w fun e w' => e = .returned (.bool (hasL s.data.toList key.data.toList)) ∧ Below w.heap.size w w' := by
  by_cases h : s.size = 0
  · rw [hasL_none s key h]
    obtain rfl : s = ⟨#[]⟩ := by
      have : s.data.size = 0 := h
      cases s with | mk d => exact congrArg ByteArray.mk (Array.eq_empty_of_size_eq_zero this)
    have hem : ByteArray.toList ⟨#[]⟩ = ([] : List UInt8) := by kernel_rfl
    go_enter Tryz.func41, Tryz.ntmps41
    go_wp2
    go_ret
    exact ⟨rfl, (Below.refl _ _).alloc (Nat.le_refl _) _⟩
  · have hh := hasL_bytes s key (by omega)
    obtain ⟨c, hc⟩ : ∃ c, c = hasL s.data.toList key.data.toList := ⟨_, rfl⟩
    rw [← hc] at hh ⊢
    have HH := Lib.hid hh
    have hem : s.toList.isEmpty = false := by
      cases e : s.toList with
      | nil =>
        rw [ByteArray.toList_eq] at e
        have h2 : s.data.toList.length = s.size := rfl
        rw [e] at h2
        exact absurd h2.symm h
      | cons _ _ => rfl
    have hm : (s.size : Int) * 8 = ((8 * s.size : Nat) : Int) := by omega
    have HM := Lib.hid hm
    clear hh hc hm
    go_enter Tryz.func41, Tryz.ntmps41
    go_wp2_with fail
    rw [HM.out]
    refine (placesHas_any w.heap.size _ s key hk (by omega) hs ⟨by simp, by simp, by simp, by simp⟩).mono ?_
    rintro e w2 ⟨rfl, h1, b2⟩
    rw [← HH.out] at h1
    have BB := Lib.hid ((((Below.refl w.heap.size w).alloc (Nat.le_refl _) _).alloc (by simp) _).trans b2)
    clear b2
    go_wp2
    go_ret
    exact ⟨rfl, BB.out⟩
end Go.Proofs.YtobhjmkaamjoeaaGreat
