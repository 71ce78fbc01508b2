/-
  Layer 2 (crc), contracts of tail, Seal and Check, of the code and of the document's answer. Conditions: lengths within the reach.
-/
import Derived.Test.YtobhjmkaamjoeaaGreatCw
import Derived.Deep.QuietTactic
import Derived.BigQuiet
import Derived.Deep.RegionHeld3
import Derived.Lib.Strings
namespace Go.Proofs.YtobhjmkaamjoeaaGreat
open Go.RowKit

theorem cells4 (a b c d : Int) (n : Nat) (ha : a = n % 256) (hb : b = n / 256 % 256) (hc : c = n / 65536 % 256) (hd : d = n / 16777216 % 256) :
    #[Value.int .u8 a, .int .u8 b, .int .u8 c, .int .u8 d].toList = bv (fixL n) := by
  subst ha hb hc hd
  simp [bv, fixL]
theorem own4 (w : World) (t : TypeId) (a b c d : Int) (n : Nat) (ha : a = n % 256) (hb : b = n / 256 % 256) (hc : c = n / 65536 % 256) (hd : d = n / 16777216 % 256) :
    (w.alloc (.cells #[Value.int .u8 a, .int .u8 b, .int .u8 c, .int .u8 d] t)).ownsRow w.heap.size t 1 (.slice (some ⟨w.heap.size, 0, none⟩) 4 4) 4 (bv (fixL n)) := by
  have h := World.ownsRow_lit (base := w.heap.size) (e := t) (size := 1) w #[Value.int .u8 a, .int .u8 b, .int .u8 c, .int .u8 d] 4 (Nat.le_refl _) (by decide) rfl
  rw [cells4 a b c d n ha hb hc hd] at h
  exact h
/-- The four bytes of a text's sum. -/
def tailL (s : List UInt8) : List UInt8 := fixL (crcV 0 s)
theorem tailL_length (s : List UInt8) : (tailL s).length = 4 := rfl

set_option maxRecDepth 100000 in
set_option maxHeartbeats 1000000 in
theorem tail_code (s : ByteArray) (w : World) (hs : s.size ≤ 9223372036854775807) :
    Calls Tryz.prog 89 #[.string s] w fun e w' => e = .returned (.string ⟨(tailL s.data.toList).toArray⟩) ∧ Below w.heap.size w w' := by
  have hmk : ∀ w : World, (Instr.makeSlice 49 (.int .i64 4) (.int .i64 4)).run Tryz.prog w = .ok (.slice (some ⟨w.heap.size, 0, none⟩) 4 4) (w.alloc (.cells #[.int .u8 0, .int .u8 0, .int .u8 0, .int .u8 0] 5)) := fun _ => by kernel_rfl
  obtain ⟨n, hn⟩ : ∃ n, n = crcV 0 s.data.toList := ⟨_, rfl⟩
  have hn1 : n < 4294967296 := by rw [hn]; exact crcV_lt _ (by omega)
  have hn' : (n : Int) ≤ 4294967295 := by omega
  have ht : tailL s.data.toList = fixL n := by rw [tailL, hn]
  rw [ht]
  have HN := Lib.hid hn
  clear hn ht
  go_enter Tryz.func89, Tryz.ntmps89
  go_wp2_with fail
  refine (sum_code s _ hs).mono ?_
  rintro e w' ⟨rfl, rfl⟩
  rw [← HN.out]
  go_wp2
  refine wp_loop_rounds 5 ?_
  iterate 5 (rw [rounds_succ]; go_wp2)
  rw [run_str_own _ 49 9 5 Tryz.underlying49 Tryz.underlying5 Tryz.underlying9 w.heap.size 5 4 _ (fixL n) rfl (own4 w _ _ _ _ _ n (by omega) (by omega) (by omega) (by omega))]
  go_wp2
  go_ret
  exact ⟨rfl, (Below.refl _ _).alloc (Nat.le_refl _) _⟩
set_option maxRecDepth 100000 in
set_option maxHeartbeats 1000000 in
theorem tail_ref (n : Nat) (w : World) (hn : n < 4294967296) :
    Calls Tryz.prog 63 #[.int .i64 (n : Int)] w fun e w' => e = .returned (.string ⟨(fixL n).toArray⟩) ∧ Below w.heap.size w w' := by
  have hn' : (n : Int) ≤ 4294967295 := by omega
  have m255 : ∀ x : Int, 0 ≤ x → x ≤ 4294967295 → bits .and .i64 x 255 = x % 256 := fun x _ _ => i64_low 8 (by omega) 255 x (by decide)
  have HM := Lib.hid m255
  clear m255
  go_enter Tryz.func63, Tryz.ntmps63
  go_wp2
  have g0 := HM.out n (by omega) (by omega)
  have g1 := HM.out (n / 256) (by omega) (by omega)
  have g2 := HM.out (n / 65536) (by omega) (by omega)
  have g3 := HM.out (n / 16777216) (by omega) (by omega)
  rw [run_str_own _ 49 9 5 Tryz.underlying49 Tryz.underlying5 Tryz.underlying9 w.heap.size 5 4 _ (fixL n) rfl (own4 w _ _ _ _ _ n (by rw [g0]; omega) (by rw [g1]; omega) (by rw [g2]; omega) (by rw [g3]; omega))]
  clear g0 g1 g2 g3
  go_wp2
  go_ret
  exact ⟨rfl, (Below.refl _ _).alloc (Nat.le_refl _) _⟩

/-! ### Seal -/
theorem seal_cat (s : ByteArray) (hs : s.size ≤ 140737488351232) (P : Program) (w : World) (l : List UInt8) (hl : l.length = 4) :
    (Op.stringOp .add s ⟨l.toArray⟩).run P w = .ok (.string (s ++ ⟨l.toArray⟩)) w := by
  refine run_string_add_sum w _ _ ?_
  rw [size_mkl l, hl]
  omega
theorem seal_code (s : ByteArray) (w : World) (hs : s.size ≤ 140737488351232) :
    Calls Tryz.prog 49 #[.string s] w fun e w' => e = .returned (.string (s ++ ⟨(tailL s.data.toList).toArray⟩)) ∧ Below w.heap.size w w' := by
  have hcat := seal_cat s hs Tryz.prog
  go_enter Tryz.func49, Tryz.ntmps49
  go_wp2_with fail
  refine (tail_code s _ (by omega)).mono ?_
  rintro e w' ⟨rfl, b⟩
  have HC := hcat w' _ (tailL_length s.data.toList)
  go_wp2
  go_ret
  exact ⟨rfl, b⟩
theorem seal_ref (s : ByteArray) (w : World) (hs : s.size ≤ 140737488351232) :
    Calls Tryz.prog 27 #[.string s] w fun e w' => e = .returned (.string (s ++ ⟨(tailL s.data.toList).toArray⟩)) ∧ Below w.heap.size w w' := by
  have hcat := seal_cat s hs Tryz.prog
  go_enter Tryz.func27, Tryz.ntmps27
  go_wp2_with fail
  refine (sum_ref s _ (by omega)).mono ?_
  rintro e w' ⟨rfl, rfl⟩
  go_wp2_with fail
  refine (tail_ref _ _ (crcV_lt _ (by omega))).mono ?_
  rintro e w' ⟨rfl, b⟩
  have HC := hcat w' _ (tailL_length s.data.toList)
  rw [tailL] at HC
  go_wp2
  go_ret
  exact ⟨rfl, b⟩

/-! ### Check -/
/-- Whether a text ends with its sum, over lists. -/
def chk (l : List UInt8) : Bool := decide (4 ≤ l.length) && (l.drop (l.length - 4) == tailL (l.take (l.length - 4)))
theorem chk_short (s : ByteArray) (h : s.size < 4) : chk s.data.toList = false := by
  have h1 : s.data.toList.length = s.size := by simp
  rw [chk, h1]
  simp
  omega
theorem chk_at (s : ByteArray) (m : Nat) (h : s.size = m + 4) : chk s.data.toList = ((s.extract m s.size).toList == tailL (s.data.toList.take m)) := by
  have h1 : s.data.toList.length = s.size := by simp
  rw [chk, h1, show s.size - 4 = m by omega, decide_eq_true (by omega : 4 ≤ s.size), Bool.true_and, Lib.extract_toList, List.take_of_length_le (i := s.size - m) (by simp)]
set_option maxHeartbeats 1000000 in
theorem check_code_short (s : ByteArray) (w : World) (h : s.size < 4) :
    Calls Tryz.prog 96 #[.string s] w fun e w' => e = .returned (.bool false) ∧ Below w.heap.size w w' := by
  go_enter Tryz.func96, Tryz.ntmps96
  go_wp2
  have hz1 : (s.size : Int) - 4 < 0 := by omega
  generalize (s.size : Int) - 4 = z at hz1
  have hd : decide ((0 : Int) ≤ z) = false := by simpa using hz1
  go_quiet (fail)
  go_wp2
  go_ret
  exact ⟨rfl, below_drewN (Below.refl _ _) _⟩
set_option maxHeartbeats 1000000 in
theorem check_code_long (s : ByteArray) (w : World) (hs : s.size ≤ 140737488351232) (m : Nat) (h : s.size = m + 4) :
    Calls Tryz.prog 96 #[.string s] w fun e w' => e = .returned (.bool (chk s.data.toList)) ∧ Below w.heap.size w w' := by
  have h4 : (4 : Int) ≤ (s.size : Int) := by omega
  have h5 : (m : Int) ≤ (s.size : Int) := by omega
  have h6 : (0 : Int) ≤ (m : Int) := by omega
  have hz : (s.size : Int) - 4 = (m : Int) := by omega
  have H := Lib.hid h
  have HZ := Lib.hid hz
  clear h hz
  go_enter Tryz.func96, Tryz.ntmps96
  go_wp2
  rw [HZ.out]
  go_region_held3 (fun w' => Below w.heap.size w w') (first | exact (Below.refl _ _).drew | exact bt (by assumption) (by assumption)) (first | (go_at_call 89; refine (tail_code _ _ ?_).mono ?_; (simp; omega); rintro e w' ⟨rfl, hb⟩))
  go_wp2
  go_ret
  exact ⟨congrArg Ending.returned (congrArg Value.bool (chk_at s m H.out).symm), by assumption⟩
theorem check_code (s : ByteArray) (w : World) (hs : s.size ≤ 140737488351232) :
    Calls Tryz.prog 96 #[.string s] w fun e w' => e = .returned (.bool (chk s.data.toList)) ∧ Below w.heap.size w w' := by
  by_cases h : s.size < 4
  · rw [chk_short s h]; exact check_code_short s w h
  · exact check_code_long s w hs (s.size - 4) (by omega)
set_option maxHeartbeats 1000000 in
theorem check_ref_short (s : ByteArray) (w : World) (h : s.size < 4) :
    Calls Tryz.prog 73 #[.string s] w fun e w' => e = .returned (.bool false) ∧ Below w.heap.size w w' := by
  have hd : decide ((4 : Int) ≤ (s.size : Int)) = false := by simpa using (by omega : (s.size : Int) < 4)
  go_enter Tryz.func73, Tryz.ntmps73
  go_wp2
  go_quiet (fail)
  go_wp2
  go_ret
  exact ⟨rfl, below_drewN (Below.refl _ _) _⟩
set_option maxHeartbeats 1000000 in
theorem check_ref_long (s : ByteArray) (w : World) (hs : s.size ≤ 140737488351232) (m : Nat) (h : s.size = m + 4) :
    Calls Tryz.prog 73 #[.string s] w fun e w' => e = .returned (.bool (chk s.data.toList)) ∧ Below w.heap.size w w' := by
  have h4 : (4 : Int) ≤ (s.size : Int) := by omega
  have h5 : (m : Int) ≤ (s.size : Int) := by omega
  have h6 : (0 : Int) ≤ (m : Int) := by omega
  have hz : IntKind.i64.wrap ((s.size : Int) - 4) = (m : Int) := by rw [IntKind.wrap_i64]; omega
  have H := Lib.hid h
  clear h
  go_enter Tryz.func73, Tryz.ntmps73
  go_wp2_with fail
  go_region_held3 (fun w' => Below w.heap.size w w') (first | exact (Below.refl _ _).drew | assumption | exact bt (by assumption) (by assumption))
    (first | (go_at_call 64; refine (sum_ref _ _ ?_).mono ?_; (simp; omega); rintro e w' ⟨rfl, rfl⟩) | (go_at_call 63; refine (tail_ref _ _ (crcV_lt _ (by omega))).mono ?_; rintro e w' ⟨rfl, hb⟩))
  go_wp2
  go_ret
  exact ⟨congrArg Ending.returned (congrArg Value.bool (chk_at s m H.out).symm), by assumption⟩
theorem check_ref (s : ByteArray) (w : World) (hs : s.size ≤ 140737488351232) :
    Calls Tryz.prog 73 #[.string s] w fun e w' => e = .returned (.bool (chk s.data.toList)) ∧ Below w.heap.size w w' := by
  by_cases h : s.size < 4
  · rw [chk_short s h]; exact check_ref_short s w h
  · exact check_ref_long s w hs (s.size - 4) (by omega)
end Go.Proofs.YtobhjmkaamjoeaaGreat
