/-
  Layer 1 (varint), contracts of Fix and TakeFix, of the code and of the document's answer. Conditions: lengths within the reach.
-/
import Derived.Test.YtobhjmkaamjoeaaGreatRows
import Derived.Test.YtobhjmkaamjoeaaGreatVm
import Derived.Test.YtobhjmkaamjoeaaGreatWl
import Derived.WalkLawsBesides
import Derived.WalkSpells
import Derived.LoopN
import Derived.Deep.QuietTactic
import Derived.BigQuiet
import Derived.Lib.Hide
import Derived.Outline
namespace Go.Proofs.YtobhjmkaamjoeaaGreat
set_option maxRecDepth 100000
open Go.RowKit

theorem ret_ie {a b : Int} {c : Value} (h : a = b) : Ending.returned (.tuple #[.int .i64 a, c]) = .returned (.tuple #[.int .i64 b, c]) := by rw [h]

set_option maxHeartbeats 400000 in
theorem takefix_code (s : ByteArray) (w : World) (hs : s.size ≤ 9223372036854775807) (h4 : 4 ≤ s.size) :
    Calls Tryz.prog 94 #[.string s] w fun e w' => e = .returned (.tuple #[.int .i64 (fixV s.data.toList : Nat), .int .i64 0]) ∧ w = w' := by
  have b0 := s[0].toNat_lt
  have b1 := s[1].toNat_lt
  have b2 := s[2].toNat_lt
  have b3 := s[3].toNat_lt
  go_enter Tryz.func94, Tryz.ntmps94
  go_wp2
  refine wp_loop_rounds 5 ?_
  iterate 5 (rw [rounds_succ]; go_wp2)
  go_ret2
  exact ⟨ret_ie (by rw [fixV_four s h4]; exact join4z _ _ _ _), rfl⟩
theorem takefix_short (s : ByteArray) (w : World) (h4 : s.size < 4) :
    Calls Tryz.prog 94 #[.string s] w fun e w' => e = .returned (.tuple #[.int .i64 0, .int .i64 10]) ∧ w = w' := by
  go_enter Tryz.func94, Tryz.ntmps94
  go_wp2
  go_ret2
  exact ⟨rfl, rfl⟩
theorem takefix_ref_short (s : ByteArray) (w : World) (h4 : s.size < 4) :
    Calls Tryz.prog 32 #[.string s] w fun e w' => e = .returned (.tuple #[.int .i64 0, .int .i64 10]) ∧ w = w' := by
  go_enter Tryz.func32, Tryz.ntmps32
  go_wp2
  go_ret2
  exact ⟨rfl, rfl⟩
set_option maxHeartbeats 400000 in
theorem takefix_ref (s : ByteArray) (w : World) (hs : s.size ≤ 9223372036854775807) (h4 : 4 ≤ s.size) :
    Calls Tryz.prog 32 #[.string s] w fun e w' => e = .returned (.tuple #[.int .i64 (fixV s.data.toList : Nat), .int .i64 0]) ∧ ∃ n, w' = w.drewN n := by
  have b0 := s[0].toNat_lt
  have b1 := s[1].toNat_lt
  have b2 := s[2].toNat_lt
  have b3 := s[3].toNat_lt
  have p0 : 0 < s.size := by omega
  have p1 : (1 : Int) < (s.size : Int) := by omega
  have p2 : (2 : Int) < (s.size : Int) := by omega
  have p3 : (3 : Int) < (s.size : Int) := by omega
  go_enter Tryz.func32, Tryz.ntmps32
  go_wp2
  go_quiet (fail)
  go_wp2
  go_ret2
  exact ⟨ret_ie (by rw [fixV_four s h4]; exact join4 _ _ _ _), _, rfl⟩

theorem cells4v (a b c d : Int) (n : Nat) (ha : a = n % 256) (hb : b = n / 256 % 256) (hc : c = n / 65536 % 256) (hd : d = n / 16777216 % 256) :
    #[Value.int .u8 a, .int .u8 b, .int .u8 c, .int .u8 d].toList = bv (fixL n) := by
  subst ha hb hc hd
  simp [bv, fixL]
theorem own4v (w : World) (t : TypeId) (a b c d : Int) (n : Nat) (ha : a = n % 256) (hb : b = n / 256 % 256) (hc : c = n / 65536 % 256) (hd : d = n / 16777216 % 256) :
    (w.alloc (.cells #[Value.int .u8 a, .int .u8 b, .int .u8 c, .int .u8 d] t)).ownsRow w.heap.size t 1 (.slice (some ⟨w.heap.size, 0, none⟩) 4 4) 4 (bv (fixL n)) := by
  have h := World.ownsRow_lit (base := w.heap.size) (e := t) (size := 1) w #[Value.int .u8 a, .int .u8 b, .int .u8 c, .int .u8 d] 4 (Nat.le_refl _) (by decide) rfl
  rw [cells4v a b c d n ha hb hc hd] at h
  exact h

set_option maxHeartbeats 400000 in
set_option maxRecDepth 100000 in
theorem fix_code (n : Nat) (w : World) (hn : n ≤ 4294967295) :
    Calls Tryz.prog 51 #[.int .i64 (n : Int)] w fun e w' => e = .returned (.tuple #[.string ⟨(fixL n).toArray⟩, .int .i64 0]) ∧ Below w.heap.size w w' := by
  have hmk : ∀ w : World, (Instr.makeSlice 49 (.int .i64 4) (.int .i64 4)).run Tryz.prog w = .ok (.slice (some ⟨w.heap.size, 0, none⟩) 4 4) (w.alloc (.cells #[.int .u8 0, .int .u8 0, .int .u8 0, .int .u8 0] 5)) := fun _ => by kernel_rfl
  have hn' : (n : Int) ≤ 4294967295 := by omega
  go_enter Tryz.func51, Tryz.ntmps51
  go_wp2
  refine wp_loop_rounds 5 ?_
  iterate 5 (rw [rounds_succ]; go_wp2)
  rw [run_str_own _ 49 9 5 Tryz.underlying49 Tryz.underlying5 Tryz.underlying9 w.heap.size 5 4 _ (fixL n) rfl (own4v w _ _ _ _ _ n (by omega) (by omega) (by omega) (by omega))]
  go_wp2
  go_ret2
  exact ⟨rfl, (Below.refl _ _).alloc (Nat.le_refl _) _⟩
theorem fix_code_no (n : Int) (w : World) (hn : n < 0 ∨ 4294967295 < n) :
    Calls Tryz.prog 51 #[.int .i64 n] w fun e w' => e = .returned (.tuple #[.string ⟨#[]⟩, .int .i64 1]) ∧ w = w' := by
  rcases hn with h | h
  all_goals
    first | have h' : ¬ n < 0 := by omega | skip
    go_enter Tryz.func51, Tryz.ntmps51
    go_wp2
    go_ret2
    exact ⟨rfl, rfl⟩
theorem fix_ref_no (n : Int) (w : World) (hn : n < 0 ∨ 4294967295 < n) :
    Calls Tryz.prog 28 #[.int .i64 n] w fun e w' => e = .returned (.tuple #[.string ⟨#[]⟩, .int .i64 1]) ∧ w = w' := by
  rcases hn with h | h
  all_goals
    first | have h' : ¬ n < 0 := by omega | skip
    go_enter Tryz.func28, Tryz.ntmps28
    go_wp2
    go_ret2
    exact ⟨rfl, rfl⟩
set_option maxHeartbeats 400000 in
set_option maxRecDepth 100000 in
theorem fix_ref (n : Nat) (w : World) (hn : n ≤ 4294967295) :
    Calls Tryz.prog 28 #[.int .i64 (n : Int)] w fun e w' => e = .returned (.tuple #[.string ⟨(fixL n).toArray⟩, .int .i64 0]) ∧ Below w.heap.size w w' := by
  have hn' : (n : Int) ≤ 4294967295 := by omega
  have m255 : ∀ x : Int, 0 ≤ x → x ≤ 4294967295 → bits .and .i64 x 255 = x % 256 := fun x h1 h2 => by
    obtain ⟨X, rfl⟩ := Int.eq_ofNat_of_zero_le h1
    have e := i64_and_nat X 255 (by omega) (by omega)
    rw [nat_mask8] at e
    exact e
  have HM := Lib.hid m255
  clear m255
  go_enter Tryz.func28, Tryz.ntmps28
  go_wp2
  have g0 := HM.out n (by omega) (by omega)
  have g1 := HM.out (n / 256) (by omega) (by omega)
  have g2 := HM.out (n / 65536) (by omega) (by omega)
  have g3 := HM.out (n / 16777216) (by omega) (by omega)
  rw [run_str_own _ 49 9 5 Tryz.underlying49 Tryz.underlying5 Tryz.underlying9 w.heap.size 5 4 _ (fixL n) rfl (own4v w _ _ _ _ _ n (by rw [g0]; omega) (by rw [g1]; omega) (by rw [g2]; omega) (by rw [g3]; omega))]
  clear g0 g1 g2 g3
  go_wp2
  go_ret2
  exact ⟨rfl, (Below.refl _ _).alloc (Nat.le_refl _) _⟩

/-! ### for the law -/
def tfR (s : ByteArray) : Nat × Int := if s.size < 4 then (0, 10) else (fixV s.data.toList, 0)
theorem takefix_any (s : ByteArray) (w : World) (hs : s.size ≤ 9223372036854775807) :
    Calls Tryz.prog 94 #[.string s] w fun e w' => e = .returned (.tuple #[.int .i64 ((tfR s).1 : Nat), .int .i64 (tfR s).2]) ∧ w = w' := by
  by_cases h : s.size < 4
  · rw [show tfR s = (0, 10) from if_pos h]; exact takefix_short s w h
  · rw [show tfR s = (fixV s.data.toList, 0) from if_neg h]; exact takefix_code s w hs (by omega)
theorem takefix_ref_any (s : ByteArray) (w : World) (hs : s.size ≤ 9223372036854775807) :
    Calls Tryz.prog 32 #[.string s] w fun e w' => e = .returned (.tuple #[.int .i64 ((tfR s).1 : Nat), .int .i64 (tfR s).2]) ∧ Below w.heap.size w w' := by
  by_cases h : s.size < 4
  · rw [show tfR s = (0, 10) from if_pos h]; exact (takefix_ref_short s w h).mono fun e w' ⟨he, hw⟩ => ⟨he, hw ▸ Below.refl _ _⟩
  · rw [show tfR s = (fixV s.data.toList, 0) from if_neg h]; exact (takefix_ref s w hs (by omega)).mono fun e w' ⟨he, n, hw⟩ => ⟨he, hw ▸ below_drewN (Below.refl _ _) n⟩
theorem takefix_const (w : World) :
    Calls Tryz.prog 94 #[.string ⟨#[1, 2, 0, 128]⟩] w fun e w' => e = .returned (.tuple #[.int .i64 2147484161, .int .i64 0]) ∧ w = w' :=
  takefix_code ⟨#[1, 2, 0, 128]⟩ w (by decide) (by decide)
theorem takefix_back (n : Nat) (s : ByteArray) (w : World) (hn : n ≤ 4294967295) (hs : s.size ≤ 140737488351232) :
    Calls Tryz.prog 94 #[.string (⟨(fixL n).toArray⟩ ++ s)] w fun e w' => e = .returned (.tuple #[.int .i64 (n : Int), .int .i64 0]) ∧ w = w' := by
  have hz : (⟨(fixL n).toArray⟩ ++ s : ByteArray).size = 4 + s.size := by rw [ByteArray.size_append']; rfl
  have h := takefix_code (⟨(fixL n).toArray⟩ ++ s) w (by omega) (by omega)
  rw [show (⟨(fixL n).toArray⟩ ++ s : ByteArray).data.toList = fixL n ++ s.data.toList by simp, fixV_fixL n (by omega)] at h
  exact h
end Go.Proofs.YtobhjmkaamjoeaaGreat
