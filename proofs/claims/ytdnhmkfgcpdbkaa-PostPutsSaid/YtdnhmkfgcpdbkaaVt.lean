/-
  Layer 1 (varint), contracts of Take, of the code and of the document's answer: both are the plain function tk. Conditions: the text within the reach.
-/
import Derived.Test.YtdnhmkfgcpdbkaaRows
import Derived.Test.YtdnhmkfgcpdbkaaVn
import Derived.WalkLawsBesides
import Derived.WalkSpells
import Derived.Lib.Hide
import Derived.Lib.MinMax
import Derived.Outline
namespace Go.Proofs.Ytdnhmkfgcpdbkaa
open Go.RowKit

theorem andNot128 (c : Nat) (h : c < 256) : bits .andNot .u8 (c : Int) 128 = ((c % 128 : Nat) : Int) := by
  have e := u8_andNot_nat c 128 h (by decide)
  rw [show (255 - 128 : Nat) = 127 from rfl, nat_mask7] at e
  exact e
theorem pow_le9 {k : Nat} (h : k < 9) : 2 ^ (7 * k) ≤ 72057594037927936 := by
  have : 2 ^ (7 * k) ≤ 2 ^ 56 := Nat.pow_le_pow_right (by decide) (by omega)
  omega
theorem grow7 {a m k : Nat} (ha : a < 2 ^ (7 * k)) (hm : m < 128) : a + m * 2 ^ (7 * k) < 2 ^ (7 * (k + 1)) := by
  rw [pow7]
  have := Nat.mul_le_mul_right (2 ^ (7 * k)) (show m + 1 ≤ 128 by omega)
  rw [Nat.add_mul] at this
  omega
theorem sum_lt {a m k : Nat} (h : k < 9) (ha : a < 2 ^ (7 * k)) (hm : m < 128) : a + m * 2 ^ (7 * k) < 9223372036854775808 := by
  have h1 := grow7 ha hm
  have : 2 ^ (7 * (k + 1)) ≤ 2 ^ 63 := Nat.pow_le_pow_right (by decide) (by omega)
  omega
theorem joinK {a m k : Nat} (h : k < 9) (ha : a < 2 ^ (7 * k)) (hm : m < 128) :
    bits .or .i64 (a : Int) (wrap64 ((m : Int) * 2 ^ (7 * k))) = ((a + m * 2 ^ (7 * k) : Nat) : Int) := by
  have h1 := sum_lt h ha hm
  have e : (m : Int) * 2 ^ (7 * k) = ((m * 2 ^ (7 * k) : Nat) : Int) := by simp
  rw [e, wrap64_nat _ (by omega)]
  exact i64_join (7 * k) a m ha h1
theorem takeStep {a c k : Nat} (h : k < 9) (ha : a < 2 ^ (7 * k)) (hc : c < 256) :
    bits .or .i64 (a : Int) (wrap64 (wrap64 (bits .andNot .u8 (c : Int) 128) * 2 ^ (7 * k))) = ((a + c % 128 * 2 ^ (7 * k) : Nat) : Int) := by
  rw [andNot128 c hc, wrap64_nat _ (by omega)]
  exact joinK h ha (by omega)
theorem takeStep0 {a : Nat} (ha : a < 2 ^ (7 * 0)) : bits .or .i64 (a : Int) (wrap64 (wrap64 (bits .andNot .u8 0 128))) = 0 := by
  have e := takeStep (a := a) (c := 0) (k := 0) (by decide) ha (by decide)
  simp at ha
  subst ha
  simpa using e
theorem ret3 {l : List UInt8} {x y z : Nat} {X Y Z : Int} (h : tk l 0 0 = (x, y, z)) (hx : X = x) (hy : Y = y) (hz : Z = z) :
    Ending.returned (.tuple #[.int .i64 X, .int .i64 Y, .int .i64 Z]) = .returned (.tuple #[.int .i64 ((tk l 0 0).1 : Nat), .int .i64 ((tk l 0 0).2.1 : Nat), .int .i64 ((tk l 0 0).2.2 : Nat)]) := by
  subst hx hy hz
  rw [h]
theorem tk_at {s : ByteArray} {k a : Nat} (hk : k < s.size) (h9 : k < 9) : tk (s.data.toList.drop k) k a =
    if s[k].toNat < 128 then
      (if (s[k].toNat = 0 ∧ 0 < k) ∨ 4611686018427387904 < a + s[k].toNat % 128 * 2 ^ (7 * k) then (0, 0, 11) else (a + s[k].toNat % 128 * 2 ^ (7 * k), k + 1, 0))
    else tk (s.data.toList.drop (k + 1)) (k + 1) (a + s[k].toNat % 128 * 2 ^ (7 * k)) := by
  have hl : k < s.data.toList.length := by rw [Array.length_toList]; exact hk
  rw [List.drop_eq_getElem_cons hl]
  simp only [tk]
  rw [if_neg (by omega)]
  rfl
theorem tk_end {s : ByteArray} {k a : Nat} (hk : s.size ≤ k) : tk (s.data.toList.drop k) k a = (0, 0, if k < 9 then 10 else 11) := by
  rw [List.drop_eq_nil_of_le (by rw [Array.length_toList]; exact hk)]
  rfl
theorem tk_nine {l : List UInt8} {a : Nat} : tk l 9 a = (0, 0, 11) := by
  cases l <;> simp [tk]

set_option maxRecDepth 100000 in
set_option maxHeartbeats 1000000 in
theorem take_code (s : ByteArray) (w : World) (hs : s.size ≤ 9223372036854775807) :
    Calls Try.prog 101 #[.string s] w fun e w' => e = .returned (.tuple #[.int .i64 ((tk s.data.toList 0 0).1 : Nat), .int .i64 ((tk s.data.toList 0 0).2.1 : Nat), .int .i64 ((tk s.data.toList 0 0).2.2 : Nat)]) ∧ w = w' := by
  go_enter Try.func101, Try.ntmps101
  go_wp2
  go_loop [5, 10] (fun n i => ∃ k a : Nat, k ≤ 9 ∧ k ≤ s.size ∧ i = .int .i64 k ∧ n = .int .i64 a ∧ a < 2 ^ (7 * k) ∧ tk s.data.toList 0 0 = tk (s.data.toList.drop k) k a) (fun _ i => 9 - (intOf i).toNat)
  case atStart => exact ⟨0, 0, by omega, by omega, rfl, rfl, by simp, rfl⟩
  case round =>
    obtain ⟨k, a, hk, hks, rfl, rfl, ha0, ht0⟩ := hrel
    have HT := Lib.hid ht0
    have HA := Lib.hid ha0
    clear ht0 ha0
    by_cases hlt : k < 9 ∧ k < s.size
    · obtain ⟨h9, hks⟩ := hlt
      go_wp2
      · -- the byte has 128 or more: on
        have h1 : (128 : Int) ≤ (s[k].toNat : Int) := by assumption
        go_round
        case rel =>
          have hb := s[k].toNat_lt
          exact ⟨k + 1, _, by omega, by omega, by go_num, congrArg _ (takeStep h9 HA.out (by omega)), grow7 HA.out (by omega), by rw [HT.out, tk_at hks h9, if_neg (by omega)]⟩
        case measure => simp [intOf]; omega
      · -- the first byte is 0, and the number is too great: it can't be
        have h0 : s[k].toNat = 0 := by assumption
        have h1 : k = 0 := by assumption
        have hV : (4611686018427387904 : Int) < bits .or .i64 (a : Int) (wrap64 (wrap64 (bits .andNot .u8 0 128))) := by assumption
        have ha := HA.out
        rw [h1] at ha
        rw [takeStep0 ha] at hV
        omega
      · -- the first byte is 0: the number 0
        have h0 : s[k].toNat = 0 := by assumption
        have h1 : k = 0 := by assumption
        have ha := HA.out
        rw [h1] at ha
        go_ret3
        refine ⟨ret3 (x := 0) (y := 1) (z := 0) ?_ (takeStep0 ha) (by omega) rfl, rfl⟩
        have ha' : a = 0 := by simpa using ha
        rw [HT.out, tk_at hks h9, if_pos (by omega), h0, h1, ha', if_neg (by omega)]
      · -- the last byte is 0 behind others
        have h0 : s[k].toNat = 0 := by assumption
        have h1 : ¬ k = 0 := by assumption
        go_ret3
        refine ⟨ret3 (x := 0) (y := 0) (z := 11) ?_ rfl rfl rfl, rfl⟩
        rw [HT.out, tk_at hks h9, if_pos (by omega), if_pos (by omega)]
      · -- the number is too great
        have h1 : (s[k].toNat : Int) < 128 := by assumption
        have hV : (4611686018427387904 : Int) < bits .or .i64 (a : Int) (wrap64 (wrap64 (bits .andNot .u8 (s[k].toNat : Int) 128) * 2 ^ (7 * k))) := by assumption
        rw [takeStep h9 HA.out (by omega)] at hV
        go_ret3
        refine ⟨ret3 (x := 0) (y := 0) (z := 11) ?_ rfl rfl rfl, rfl⟩
        rw [HT.out, tk_at hks h9, if_pos (by omega), if_pos (by omega)]
      · -- the number
        have h1 : (s[k].toNat : Int) < 128 := by assumption
        have h0 : ¬ s[k].toNat = 0 := by assumption
        have hV : bits .or .i64 (a : Int) (wrap64 (wrap64 (bits .andNot .u8 (s[k].toNat : Int) 128) * 2 ^ (7 * k))) ≤ (4611686018427387904 : Int) := by assumption
        rw [takeStep h9 HA.out (by omega)] at hV
        go_ret3
        refine ⟨ret3 (x := a + s[k].toNat % 128 * 2 ^ (7 * k)) (y := k + 1) (z := 0) ?_ (takeStep h9 HA.out (by omega)) (by omega) rfl, rfl⟩
        rw [HT.out, tk_at hks h9, if_pos (by omega), if_neg (by omega)]
    · go_wp2
      · have h1 : (s.size : Int) < 9 := by assumption
        go_ret3
        refine ⟨ret3 (x := 0) (y := 0) (z := 10) ?_ rfl rfl rfl, rfl⟩
        rw [HT.out, tk_end (by omega), if_pos (by omega)]
      · have h1 : (9 : Int) ≤ (s.size : Int) := by assumption
        obtain rfl : k = 9 := by omega
        go_ret3
        refine ⟨ret3 (x := 0) (y := 0) (z := 11) ?_ rfl rfl rfl, rfl⟩
        rw [HT.out, tk_nine]

theorem and127 (c : Nat) (h : c < 256) : bits .and .u8 (c : Int) 127 = ((c % 128 : Nat) : Int) := by
  have e := u8_and_nat c 127 h (by decide)
  rw [nat_mask7] at e
  exact e
theorem takeStepR {a c k : Nat} (h : k < 9) (ha : a < 2 ^ (7 * k)) (hc : c < 256) :
    bits .or .i64 (a : Int) (wrap64 (wrap64 (bits .and .u8 (c : Int) 127) * 2 ^ (7 * k))) = ((a + c % 128 * 2 ^ (7 * k) : Nat) : Int) := by
  rw [and127 c hc, wrap64_nat _ (by omega)]
  exact joinK h ha (by omega)
theorem takeStepR0 {a : Nat} (ha : a < 2 ^ (7 * 0)) : bits .or .i64 (a : Int) (wrap64 (wrap64 (bits .and .u8 0 127))) = 0 := by
  have e := takeStepR (a := a) (c := 0) (k := 0) (by decide) ha (by decide)
  simp at ha
  subst ha
  simpa using e

set_option maxRecDepth 100000 in
set_option maxHeartbeats 1000000 in
theorem take_ref (s : ByteArray) (w : World) (hs : s.size ≤ 9223372036854775807) :
    Calls Try.prog 65 #[.string s] w fun e w' => e = .returned (.tuple #[.int .i64 ((tk s.data.toList 0 0).1 : Nat), .int .i64 ((tk s.data.toList 0 0).2.1 : Nat), .int .i64 ((tk s.data.toList 0 0).2.2 : Nat)]) ∧ w = w' := by
  go_enter Try.func65, Try.ntmps65
  go_wp2
  go_loop [5, 6] (fun n i => ∃ k a : Nat, k ≤ 9 ∧ k ≤ s.size ∧ i = .int .i64 k ∧ n = .int .i64 a ∧ a < 2 ^ (7 * k) ∧ tk s.data.toList 0 0 = tk (s.data.toList.drop k) k a) (fun _ i => 9 - (intOf i).toNat)
  case atStart => exact ⟨0, 0, by omega, by omega, rfl, rfl, by simp, rfl⟩
  case round =>
    obtain ⟨k, a, hk, hks, rfl, rfl, ha0, ht0⟩ := hrel
    have HT := Lib.hid ht0
    have HA := Lib.hid ha0
    clear ht0 ha0
    by_cases h9 : k < 9
    · by_cases hks : k < s.size
      · go_wp2
        · have h1 : k = 0 := by assumption
          have hV : bits .or .i64 (a : Int) (wrap64 (wrap64 (bits .and .u8 0 127))) < 0 ∨ (4611686018427387904 : Int) < bits .or .i64 (a : Int) (wrap64 (wrap64 (bits .and .u8 0 127))) := by assumption
          have ha := HA.out
          rw [h1] at ha
          rw [takeStepR0 ha] at hV
          omega
        · have h0 : s[k].toNat = 0 := by assumption
          have h1 : k = 0 := by assumption
          have ha := HA.out
          rw [h1] at ha
          go_ret3
          refine ⟨ret3 (x := 0) (y := 1) (z := 0) ?_ (takeStepR0 ha) (by omega) rfl, rfl⟩
          have ha' : a = 0 := by simpa using ha
          rw [HT.out, tk_at hks h9, if_pos (by omega), h0, h1, ha', if_neg (by omega)]
        · have h1 : k = 0 := by assumption
          have hV : bits .or .i64 (a : Int) (wrap64 (wrap64 (bits .and .u8 0 127))) < 0 := by assumption
          have ha := HA.out
          rw [h1] at ha
          rw [takeStepR0 ha] at hV
          omega
        · have h0 : s[k].toNat = 0 := by assumption
          have h1 : ¬ k = 0 := by assumption
          go_ret3
          refine ⟨ret3 (x := 0) (y := 0) (z := 11) ?_ rfl rfl rfl, rfl⟩
          rw [HT.out, tk_at hks h9, if_pos (by omega), if_pos (by omega)]
        · have h1 : (s[k].toNat : Int) < 128 := by assumption
          have hV : bits .or .i64 (a : Int) (wrap64 (wrap64 (bits .and .u8 (s[k].toNat : Int) 127) * 2 ^ (7 * k))) < 0 ∨ (4611686018427387904 : Int) < bits .or .i64 (a : Int) (wrap64 (wrap64 (bits .and .u8 (s[k].toNat : Int) 127) * 2 ^ (7 * k))) := by assumption
          rw [takeStepR h9 HA.out (by omega)] at hV
          go_ret3
          refine ⟨ret3 (x := 0) (y := 0) (z := 11) ?_ rfl rfl rfl, rfl⟩
          rw [HT.out, tk_at hks h9, if_pos (by omega), if_pos (by omega)]
        · have h1 : (s[k].toNat : Int) < 128 := by assumption
          have h0 : ¬ s[k].toNat = 0 := by assumption
          have hV : 0 ≤ bits .or .i64 (a : Int) (wrap64 (wrap64 (bits .and .u8 (s[k].toNat : Int) 127) * 2 ^ (7 * k))) ∧ bits .or .i64 (a : Int) (wrap64 (wrap64 (bits .and .u8 (s[k].toNat : Int) 127) * 2 ^ (7 * k))) ≤ (4611686018427387904 : Int) := by assumption
          rw [takeStepR h9 HA.out (by omega)] at hV
          go_ret3
          refine ⟨ret3 (x := a + s[k].toNat % 128 * 2 ^ (7 * k)) (y := k + 1) (z := 0) ?_ (takeStepR h9 HA.out (by omega)) (by omega) rfl, rfl⟩
          rw [HT.out, tk_at hks h9, if_pos (by omega), if_neg (by omega)]
        · have h1 : (s[k].toNat : Int) < 128 := by assumption
          have hV : bits .or .i64 (a : Int) (wrap64 (wrap64 (bits .and .u8 (s[k].toNat : Int) 127) * 2 ^ (7 * k))) < 0 := by assumption
          rw [takeStepR h9 HA.out (by omega)] at hV
          omega
        · have h1 : (128 : Int) ≤ (s[k].toNat : Int) := by assumption
          go_round
          case rel =>
            have hb := s[k].toNat_lt
            exact ⟨k + 1, _, by omega, by omega, by go_num, congrArg _ (takeStepR h9 HA.out (by omega)), grow7 HA.out (by omega), by rw [HT.out, tk_at hks h9, if_neg (by omega)]⟩
          case measure => simp [intOf]; omega
      · go_wp2
        go_ret3
        refine ⟨ret3 (x := 0) (y := 0) (z := 10) ?_ rfl rfl rfl, rfl⟩
        rw [HT.out, tk_end (by omega), if_pos (by omega)]
    · go_wp2
      obtain rfl : k = 9 := by omega
      go_ret3
      refine ⟨ret3 (x := 0) (y := 0) (z := 11) ?_ rfl rfl rfl, rfl⟩
      rw [HT.out, tk_nine]
end Go.Proofs.Ytdnhmkfgcpdbkaa
