/-
  Layer 7 (sorted): the walk of the law SortedNobody. Conditions: none.
-/
import Derived.Test.YteolhbcmffbdlaaOh
namespace Go.Proofs.Yteolhbcmffbdlaa.TI
open Go.RowKit Go.Shelf
set_option linter.unusedVariables false
set_option linter.unusedSimpArgs false

/-- The two maps that nobody made. -/
def two (z : Nat) (j : Nat) : Option Addr := if j = 0 then none else some ⟨z, 0, none⟩
set_option maxRecDepth 100000 in
set_option maxHeartbeats 4000000 in
theorem nobody_walk (s : Ky) (n : Int) (hn : -9223372036854775808 ≤ n ∧ n ≤ 9223372036854775807) (w : World) :
    Calls Try.prog 7 #[.string ⟨s.toArray⟩, .int .i64 n] w fun e w' => e = .returned (.bool true) ∧ Below w.heap.size w w' := by
  have HN := Lib.hid hn
  clear hn
  go_enter Try.func7, Try.ntmps7
  go_wp2_with fail
  refine (awake_any _).mono ?_
  rintro e w1 ⟨rfl, b1⟩
  have HB := Lib.hid b1
  clear b1
  go_wp2_with fail
  trace_state
  have hcl : ∀ j, j < 2 → ((w1.alloc (.cells #[.pointer none, .pointer none] 62)).alloc (.cells #[.pointer none, .pointer (some ⟨w1.heap.size, 0, none⟩)] 23)).cell? ⟨w1.heap.size + 1, j, none⟩ = some (.pointer (two w1.heap.size j)) := by
    intro j hj
    match j, hj with
    | 0, _ => simp [two]
    | 1, _ => simp [two]
  have hno : ∀ j, Nobody ((w1.alloc (.cells #[.pointer none, .pointer none] 62)).alloc (.cells #[.pointer none, .pointer (some ⟨w1.heap.size, 0, none⟩)] 23)) (two w1.heap.size j) := by
    intro j
    by_cases h : j = 0
    · exact .inl (by simp [two, h])
    · exact .inr ⟨w1.heap.size, by simp [two, h], by simp; omega, by simp⟩
  have hlb : w1.heap.size + 1 < ((w1.alloc (.cells #[.pointer none, .pointer none] 62)).alloc (.cells #[.pointer none, .pointer (some ⟨w1.heap.size, 0, none⟩)] 23)).heap.size := by simp
  have hb2 : Below w.heap.size w ((w1.alloc (.cells #[.pointer none, .pointer none] 62)).alloc (.cells #[.pointer none, .pointer (some ⟨w1.heap.size, 0, none⟩)] 23)) := (HB.out.alloc HB.out.size _).alloc (by have := HB.out.size; simp; omega) _
  generalize ((w1.alloc (.cells #[.pointer none, .pointer none] 62)).alloc (.cells #[.pointer none, .pointer (some ⟨w1.heap.size, 0, none⟩)] 23)) = W at *
  have HCLA := Lib.hid hcl
  have HNOA := Lib.hid hno
  have HLB := Lib.hid hlb
  have HB2 := Lib.hid hb2
  clear hcl hno hlb hb2 HB
  go_loopw [6, 7, 8, 9, 10] (fun i _ _ _ _ wr => ∃ j : Nat, i = .int .i64 j ∧ j ≤ 2 ∧ Below W.heap.size W wr) (fun i _ _ _ _ _ => 2 - (intOf i).toNat)
  case atStart => exact ⟨0, rfl, by omega, Below.refl _ _⟩
  case round =>
    obtain ⟨j, rfl, hj, hbw⟩ := hrel
    have B2 := Lib.hid hbw
    clear hbw
    by_cases hlt : j < 2
    · have HCL := Lib.hid (HCLA.out j hlt)
      have HNO := Lib.hid (HNOA.out j)
      have x2 := (B2.out.cell (p := ⟨w1.heap.size + 1, j, none⟩) HLB.out).trans HCL.out
      go_wp2_with fail
      refine (get_nobody (HNO.out.below B2.out) s).mono ?_
      rintro e w3 ⟨rfl, b3⟩
      have B3 := Lib.hid (B2.out.trans (b3.mono B2.out.size))
      have x3 := (B3.out.cell (p := ⟨w1.heap.size + 1, j, none⟩) HLB.out).trans HCL.out
      clear b3 x2
      go_wp2_with fail
      refine (first_nobody (HNO.out.below B3.out)).mono ?_
      rintro e w4 ⟨rfl, b4⟩
      have B4 := Lib.hid (B3.out.trans (b4.mono B3.out.size))
      have x4 := (B4.out.cell (p := ⟨w1.heap.size + 1, j, none⟩) HLB.out).trans HCL.out
      clear b4 x3
      go_wp2_with fail
      refine (put_nobody (HNO.out.below B4.out) s n).mono ?_
      rintro e w5 ⟨rfl, b5⟩
      have B5 := Lib.hid (B4.out.trans (b5.mono B4.out.size))
      have x5 := (B5.out.cell (p := ⟨w1.heap.size + 1, j, none⟩) HLB.out).trans HCL.out
      clear b5 x4
      go_wp2_with fail
      refine (drop_nobody (HNO.out.below B5.out) s).mono ?_
      rintro e w6 ⟨rfl, b6⟩
      have B6 := Lib.hid (B5.out.trans (b6.mono B5.out.size))
      have x6 := (B6.out.cell (p := ⟨w1.heap.size + 1, j, none⟩) HLB.out).trans HCL.out
      clear b6 x5
      go_wp2_with fail
      refine (len_nobody (HNO.out.below B6.out)).mono ?_
      rintro e w7 ⟨rfl, b7⟩
      have B7 := Lib.hid (B6.out.trans (b7.mono B6.out.size))
      have x7 := (B7.out.cell (p := ⟨w1.heap.size + 1, j, none⟩) HLB.out).trans HCL.out
      clear b7 x6
      go_wp2_with fail
      refine (keys_nobody (HNO.out.below B7.out) s n HN.out).mono ?_
      rintro e w8 ⟨a, cap, rfl, b8, r8, l8⟩
      have B8 := Lib.hid (B7.out.trans (b8.mono B7.out.size))
      clear b8 x7 r8
      go_wp2_with fail
      go_roundw
      case rel => exact ⟨j + 1, by go_num, by omega, B8.out⟩
      case measure => simp [intOf]; omega
    · obtain rfl : j = 2 := by omega
      have x0 := (B2.out.cell (p := ⟨w1.heap.size + 1, 0, none⟩) HLB.out).trans (HCLA.out 0 (by decide))
      go_wp2_with fail
      refine (none_nobody ((HNOA.out 0).below B2.out)).mono ?_
      rintro e w3 ⟨rfl, b3⟩
      have B3 := Lib.hid (B2.out.trans (b3.mono B2.out.size))
      have x1 := (B3.out.cell (p := ⟨w1.heap.size + 1, 1, none⟩) HLB.out).trans (HCLA.out 1 (by decide))
      clear b3 x0
      go_wp2_with fail
      refine (none_nobody ((HNOA.out 1).below B3.out)).mono ?_
      rintro e w4 ⟨rfl, b4⟩
      have B4 := Lib.hid (B3.out.trans (b4.mono B3.out.size))
      clear b4 x1
      go_wp2_with fail
      refine (awake_any _).mono ?_
      rintro e w5 ⟨rfl, b5⟩
      have B5 := Lib.hid (B4.out.trans (b5.mono B4.out.size))
      clear b5
      go_wp2_with fail
      go_ret
      exact ⟨rfl, HB2.out.trans (B5.out.mono HB2.out.size)⟩
end Go.Proofs.Yteolhbcmffbdlaa.TI
namespace Go.Proofs.Yteolhbcmffbdlaa
open Go.RowKit
theorem intRange {z : Int} (h : (Lit.int .i64 z).wf = true) : -9223372036854775808 ≤ z ∧ z ≤ 9223372036854775807 := by
  simpa [Lit.wf, IntKind.min, IntKind.max, IntKind.bits, IntKind.signed] using h
theorem ky (s : ByteArray) : ∃ k : Ky, s = ⟨k.toArray⟩ ∧ k.length = s.size := ⟨s.data.toList, by simp, by simp⟩
theorem walk_SortedNobody (s : ByteArray) (hs : s.size ≤ 140737488351232) (n : Int) (hn : (Lit.int .i64 n).wf = true) (w : World) :
    Calls Try.prog 7 #[.string s, .int .i64 n] w fun e w' => e = .returned (.bool true) ∧ Below w.heap.size w w' := by
  obtain ⟨k, rfl, _⟩ := ky s
  exact TI.nobody_walk k n (intRange hn) w
end Go.Proofs.Yteolhbcmffbdlaa
