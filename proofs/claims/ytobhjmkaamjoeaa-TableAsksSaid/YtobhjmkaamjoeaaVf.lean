/-
  Layer 1 (varint), contracts of Fix and TakeFix, of the code and of the document's answer. Conditions: lengths within the reach.
-/
import Derived.Test.YtobhjmkaamjoeaaRows
import Derived.Test.YtobhjmkaamjoeaaVm
import Derived.Test.YtobhjmkaamjoeaaWl
import Derived.WalkLawsBesides
import Derived.WalkSpells
import Derived.LoopN
import Derived.Deep.QuietTactic
import Derived.BigQuiet
import Derived.Lib.Hide
import Derived.Outline
namespace Go.Proofs.Ytobhjmkaamjoeaa
set_option maxRecDepth 100000
open Go.RowKit

theorem ret_ie {a b : Int} {c : Value} (h : a = b) : Ending.returned (.tuple #[.int .i64 a, c]) = .returned (.tuple #[.int .i64 b, c]) := by rw [h]

set_option maxHeartbeats 400000 in
theorem takefix_code (s : ByteArray) (w : World) (hs : s.size ≤ 9223372036854775807) (h4 : 4 ≤ s.size) :
    Calls Try.prog 93 #[.string s] w fun e w' => e = .returned (.tuple #[.int .i64 (fixV s.data.toList : Nat), .int .i64 0]) ∧ w = w' := by
  have b0 := s[0].toNat_lt
  have b1 := s[1].toNat_lt
  have b2 := s[2].toNat_lt
  have b3 := s[3].toNat_lt
  go_enter Try.func93, Try.ntmps93
  go_wp2
  refine wp_loop_rounds 5 ?_
  iterate 5 (rw [rounds_succ]; go_wp2)
  go_ret2
  exact ⟨ret_ie (by rw [fixV_four s h4]; exact join4z _ _ _ _), rfl⟩
theorem takefix_short (s : ByteArray) (w : World) (h4 : s.size < 4) :
    Calls Try.prog 93 #[.string s] w fun e w' => e = .returned (.tuple #[.int .i64 0, .int .i64 10]) ∧ w = w' := by
  go_enter Try.func93, Try.ntmps93
  go_wp2
  go_ret2
  exact ⟨rfl, rfl⟩
theorem cells4v (a b c d : Int) (n : Nat) (ha : a = n % 256) (hb : b = n / 256 % 256) (hc : c = n / 65536 % 256) (hd : d = n / 16777216 % 256) :
    #[Value.int .u8 a, .int .u8 b, .int .u8 c, .int .u8 d].toList = bv (fixL n) := by
  subst ha hb hc hd
  simp [bv, fixL]
theorem own4v (w : World) (t : TypeId) (a b c d : Int) (n : Nat) (ha : a = n % 256) (hb : b = n / 256 % 256) (hc : c = n / 65536 % 256) (hd : d = n / 16777216 % 256) :
    (w.alloc (.cells #[Value.int .u8 a, .int .u8 b, .int .u8 c, .int .u8 d] t)).ownsRow w.heap.size t 1 (.slice (some ⟨w.heap.size, 0, none⟩) 4 4) 4 (bv (fixL n)) := by
  have h := World.ownsRow_lit (base := w.heap.size) (e := t) (size := 1) w #[Value.int .u8 a, .int .u8 b, .int .u8 c, .int .u8 d] 4 (Nat.le_refl _) (by decide) rfl
  rw [cells4v a b c d n ha hb hc hd] at h
  exact h

set_option maxHeartbeats 400000 in
set_option maxRecDepth 100000 in
theorem fix_code (n : Nat) (w : World) (hn : n ≤ 4294967295) :
    Calls Try.prog 67 #[.int .i64 (n : Int)] w fun e w' => e = .returned (.tuple #[.string ⟨(fixL n).toArray⟩, .int .i64 0]) ∧ Below w.heap.size w w' := by
  have hmk : ∀ w : World, (Instr.makeSlice 54 (.int .i64 4) (.int .i64 4)).run Try.prog w = .ok (.slice (some ⟨w.heap.size, 0, none⟩) 4 4) (w.alloc (.cells #[.int .u8 0, .int .u8 0, .int .u8 0, .int .u8 0] 5)) := fun _ => by kernel_rfl
  have hn' : (n : Int) ≤ 4294967295 := by omega
  go_enter Try.func67, Try.ntmps67
  go_wp2
  refine wp_loop_rounds 5 ?_
  iterate 5 (rw [rounds_succ]; go_wp2)
  rw [run_str_own _ 54 9 5 Try.underlying54 Try.underlying5 Try.underlying9 w.heap.size 5 4 _ (fixL n) rfl (own4v w _ _ _ _ _ n (by omega) (by omega) (by omega) (by omega))]
  go_wp2
  go_ret2
  exact ⟨rfl, (Below.refl _ _).alloc (Nat.le_refl _) _⟩
theorem fix_code_no (n : Int) (w : World) (hn : n < 0 ∨ 4294967295 < n) :
    Calls Try.prog 67 #[.int .i64 n] w fun e w' => e = .returned (.tuple #[.string ⟨#[]⟩, .int .i64 1]) ∧ w = w' := by
  rcases hn with h | h
  all_goals
    first | have h' : ¬ n < 0 := by omega | skip
    go_enter Try.func67, Try.ntmps67
    go_wp2
    go_ret2
    exact ⟨rfl, rfl⟩
/-! ### for the law -/
def tfR (s : ByteArray) : Nat × Int := if s.size < 4 then (0, 10) else (fixV s.data.toList, 0)
theorem takefix_any (s : ByteArray) (w : World) (hs : s.size ≤ 9223372036854775807) :
    Calls Try.prog 93 #[.string s] w fun e w' => e = .returned (.tuple #[.int .i64 ((tfR s).1 : Nat), .int .i64 (tfR s).2]) ∧ w = w' := by
  by_cases h : s.size < 4
  · rw [show tfR s = (0, 10) from if_pos h]; exact takefix_short s w h
  · rw [show tfR s = (fixV s.data.toList, 0) from if_neg h]; exact takefix_code s w hs (by omega)
theorem takefix_const (w : World) :
    Calls Try.prog 93 #[.string ⟨#[1, 2, 0, 128]⟩] w fun e w' => e = .returned (.tuple #[.int .i64 2147484161, .int .i64 0]) ∧ w = w' :=
  takefix_code ⟨#[1, 2, 0, 128]⟩ w (by decide) (by decide)
theorem takefix_back (n : Nat) (s : ByteArray) (w : World) (hn : n ≤ 4294967295) (hs : s.size ≤ 140737488351232) :
    Calls Try.prog 93 #[.string (⟨(fixL n).toArray⟩ ++ s)] w fun e w' => e = .returned (.tuple #[.int .i64 (n : Int), .int .i64 0]) ∧ w = w' := by
  have hz : (⟨(fixL n).toArray⟩ ++ s : ByteArray).size = 4 + s.size := by rw [ByteArray.size_append']; rfl
  have h := takefix_code (⟨(fixL n).toArray⟩ ++ s) w (by omega) (by omega)
  rw [show (⟨(fixL n).toArray⟩ ++ s : ByteArray).data.toList = fixL n ++ s.data.toList by simp, fixV_fixL n (by omega)] at h
  exact h
end Go.Proofs.Ytobhjmkaamjoeaa
