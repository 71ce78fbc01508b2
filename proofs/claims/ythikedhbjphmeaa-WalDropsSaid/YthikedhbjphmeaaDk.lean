/-
  Layer 5 (fs), contracts of named and mayBe: which names may be. Conditions: texts within the form's reach.
-/
import Derived.Test.YthikedhbjphmeaaRows
import Derived.Test.YthikedhbjphmeaaDw
import Derived.Test.YthikedhbjphmeaaSv
namespace Go.Proofs.Ythikedhbjphmeaa
open Go.RowKit
set_option linter.unusedVariables false

/-- May a byte be in a name? -/
def namB (b : UInt8) : Bool := (decide (97 ≤ (b.toNat : Int)) && decide ((b.toNat : Int) ≤ 122)) || (decide (48 ≤ (b.toNat : Int)) && decide ((b.toNat : Int) ≤ 57)) || decide ((b.toNat : Int) = 46) || decide ((b.toNat : Int) = 45)
/-- May a name be? -/
def namL (s : List UInt8) : Bool := decide (0 < s.length) && decide (s.length ≤ 32) && s.all namB

theorem ret_b {a b : Bool} (h : a = b) : Ending.returned (.bool a) = .returned (.bool b) := by rw [h]
theorem ret_i {a b : Int} (h : a = b) : Ending.returned (.int .i64 a) = .returned (.int .i64 b) := by rw [h]
theorem named_any (b : UInt8) (w : World) : Calls Try.prog 87 #[.int .u8 (b.toNat : Int)] w fun e w' => e = .returned (.bool (namB b)) ∧ w = w' := by
  have hb := b.toNat_lt
  go_enter Try.func87, Try.ntmps87
  go_wp2
  all_goals (go_ret; exact ⟨ret_b (by rw [Bool.eq_iff_iff]; simp [namB]; omega), rfl⟩)
theorem take_all_snoc {α : Type} (f : α → Bool) (l : List α) (j : Nat) (h : j < l.length) : (l.take (j + 1)).all f = ((l.take j).all f && f l[j]) := by
  rw [List.take_succ_eq_append_getElem h, List.all_append]; simp
theorem all_false_at {α : Type} (f : α → Bool) (l : List α) (j : Nat) (h : j < l.length) (hf : f l[j] = false) : l.all f = false := by
  cases hh : l.all f with
  | false => rfl
  | true => rw [List.all_eq_true] at hh; rw [hh _ (List.getElem_mem h)] at hf; cases hf
/-- The texts that may be, so far. -/
def AllN (ts : List (List UInt8)) (k : Nat) : Prop := (ts.take k).all namL = true
def AllB (t : List UInt8) (j : Nat) : Prop := (t.take j).all namB = true
set_option maxRecDepth 100000 in
set_option maxHeartbeats 1000000 in
theorem mayBe_any (a : Option Addr) (cap : Nat) (ts : List (List UInt8)) (w : World) (h : Rd w a ts) (hl : ts.length ≤ maxLen) (hs : ∀ t ∈ ts, t.length ≤ maxLen) :
    Calls Try.prog 71 #[.slice a ts.length cap] w fun e w' => e = .returned (.bool (ts.all namL)) ∧ w = w' := by
  unfold maxLen at hl
  have HS := Lib.hid hs
  have HR := Lib.hid h
  clear hs h
  go_enter Try.func71, Try.ntmps71
  go_wp2
  go_loop [8] (fun i => ∃ k : Nat, k ≤ ts.length ∧ i = .int .i64 k ∧ AllN ts k) (fun i => ts.length - (intOf i).toNat)
  case atStart => exact ⟨0, Nat.zero_le _, rfl, rfl⟩
  case round =>
    obtain ⟨k, hk, rfl, hA⟩ := hrel
    by_cases hlt : k < ts.length
    · obtain ⟨b, off, rfl, hb, hc⟩ : ∃ b off, a = some ⟨b, off, none⟩ ∧ b < w.heap.size ∧ w.cell? ⟨b, off + k, none⟩ = some (.string ⟨ts[k].toArray⟩) := by
        rcases HR.out with rfl | ⟨b, off, h1, h2, h3⟩
        · simp at hlt
        · exact ⟨b, off, h1, h2, h3 k hlt⟩
      have hz : (⟨ts[k].toArray⟩ : ByteArray).size = ts[k].length := size_mkl _
      have hm := HS.out _ (List.getElem_mem hlt)
      unfold maxLen at hm
      generalize hT : ts[k] = t at hz hm hc
      have HT := Lib.hid hT
      clear hT
      have bad : namL t = false → ts.all namL = false := fun hf => all_false_at namL ts k hlt (by rw [HT.out]; exact hf)
      have BAD := Lib.hid bad
      have HA := Lib.hid hA
      clear bad hA
      by_cases h0 : t.length = 0
      · have hz0 : ((t.length : Int) == 0) = true := by simpa using h0
        clear hz
        go_wp2
        go_ret
        exact ⟨ret_b (BAD.out (by unfold namL; rw [h0]; rfl)).symm, rfl⟩
      · by_cases h32 : 32 < t.length
        · have hz1 : 32 < (t.length : Int) := by omega
          have hz0 : ((t.length : Int) == 0) = false := by simpa using h0
          clear hz
          go_wp2
          go_ret
          exact ⟨ret_b (BAD.out (by unfold namL; rw [decide_eq_false (show ¬ t.length ≤ 32 by omega)]; simp)).symm, rfl⟩
        · have hz1 : (t.length : Int) ≤ 32 := by omega
          have hz0 : ((t.length : Int) == 0) = false := by simpa using h0
          have HZ := Lib.hid hz
          clear hz
          go_wp2
          go_loop [22] (fun i => ∃ j : Nat, j ≤ t.length ∧ i = .int .i64 j ∧ AllB t j) (fun i => t.length - (intOf i).toNat)
          case atStart => exact ⟨0, Nat.zero_le _, rfl, rfl⟩
          case round =>
            obtain ⟨j, hj, rfl, hB⟩ := hrel
            by_cases hjt : j < t.length
            · have hjs : (j : Int) < (t.length : Int) := by omega
              cases hn : namB t[j] with
              | true =>
                have C := named_any t[j]
                rw [hn] at C
                go_wp2_with (go_at_call 87; refine (C _).mono ?_; rintro e w' ⟨rfl, rfl⟩)
                go_round
                case rel => exact ⟨j + 1, by omega, by go_num, by unfold AllB at hB ⊢; rw [take_all_snoc namB t j hjt, hB, hn]; rfl⟩
                case measure => simp [intOf]; omega
              | false =>
                have C := named_any t[j]
                rw [hn] at C
                go_wp2_with (go_at_call 87; refine (C _).mono ?_; rintro e w' ⟨rfl, rfl⟩)
                go_ret
                exact ⟨ret_b (BAD.out (by unfold namL; rw [all_false_at namB t j hjt hn]; simp)).symm, rfl⟩
            · have hje : j = t.length := by omega
              have HJ := Lib.hid hje
              clear hje
              have hjs : ¬ (j : Int) < (t.length : Int) := by omega
              go_wp2
              go_round
              case rel =>
                refine ⟨k + 1, by omega, by go_num, ?_⟩
                have h1 := HA.out
                unfold AllN AllB at *
                rw [take_all_snoc namL ts k hlt, h1, HT.out]
                rw [HJ.out, List.take_length] at hB
                unfold namL
                rw [hB, decide_eq_true (show 0 < t.length by omega), decide_eq_true (show t.length ≤ 32 by omega)]
                rfl
              case measure => simp [intOf]; omega
    · have hke : k = ts.length := by omega
      have HK := Lib.hid hke
      clear hke
      go_wp2
      go_ret
      refine ⟨ret_b ?_, rfl⟩
      unfold AllN at hA
      rw [HK.out, List.take_length] at hA
      exact hA.symm
end Go.Proofs.Ythikedhbjphmeaa
