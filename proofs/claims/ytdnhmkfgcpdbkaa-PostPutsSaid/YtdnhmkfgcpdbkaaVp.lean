/-
  Layer 1 (varint), contracts of Put, of the code and of the document's answer: both give the plain list vL. Conditions: none.
-/
import Derived.Test.YtdnhmkfgcpdbkaaRows
import Derived.Test.YtdnhmkfgcpdbkaaVn
import Derived.Test.YtdnhmkfgcpdbkaaWl
import Derived.WalkLawsBesides
import Derived.WalkSpells
import Derived.Lib.Hide
import Derived.Lib.MinMax
import Derived.Lib.BitFns
import Derived.Outline
namespace Go.Proofs.Ytdnhmkfgcpdbkaa
open Go.RowKit

set_option maxRecDepth 100000 in
set_option maxHeartbeats 1000000 in
theorem len64 (x : Int) (w : World) (h0 : 0 ≤ x) (h1 : x ≤ 4611686018427387904) :
    Calls Try.prog 95 #[.int .u64 x] w fun e w' => e = .returned (.int .i64 (Lib.bitLen x.toNat : Nat)) ∧ w = w' := by
  have hsz := Lib.len8tab_size
  go_enter Try.func95, Try.ntmps95
  go_wp2
  all_goals (go_ret; refine ⟨congrArg Ending.returned (congrArg (Value.int IntKind.i64) ?_), rfl⟩)
  · exact tab_val 56 _ x.toNat _ (by omega) (by decide) (by omega) (.inr (by omega))
  · exact tab_val 48 _ x.toNat _ (by omega) (by decide) (by omega) (.inr (by omega))
  · exact tab_val 40 _ x.toNat _ (by omega) (by decide) (by omega) (.inr (by omega))
  · exact tab_val 32 _ x.toNat _ (by omega) (by decide) (by omega) (.inr (by omega))
  · exact tab_val 24 _ x.toNat _ (by omega) (by decide) (by omega) (.inr (by omega))
  · exact tab_val 16 _ x.toNat _ (by omega) (by decide) (by omega) (.inr (by omega))
  · exact tab_val 8 _ x.toNat _ (by omega) (by decide) (by omega) (.inr (by omega))
  · exact tab_val0 _ x.toNat _ rfl
set_option maxRecDepth 100000 in
set_option maxHeartbeats 1000000 in
theorem bitslen (x : Int) (w : World) (h0 : 0 ≤ x) (h1 : x ≤ 4611686018427387904) :
    Calls Try.prog 92 #[.int .u64 x] w fun e w' => e = .returned (.int .i64 (Lib.bitLen x.toNat : Nat)) ∧ w = w' := by
  go_enter Try.func92, Try.ntmps92
  go_wp2_with (go_at_call 95; refine (len64 x _ h0 h1).mono ?_; rintro e w' ⟨rfl, rfl⟩)
  go_ret
  exact ⟨rfl, rfl⟩
set_option maxRecDepth 100000 in
set_option maxHeartbeats 1000000 in
theorem groups_code (n : Nat) (w : World) (h1 : n ≤ 4611686018427387904) :
    Calls Try.prog 90 #[.int .i64 (n : Int)] w fun e w' => e = .returned (.int .i64 (grp n : Nat)) ∧ w = w' := by
  have hb := Lib.bitLen_le n 63 (by decide) (by omega)
  have h1' : (n : Int) ≤ 4611686018427387904 := by omega
  go_enter Try.func90, Try.ntmps90
  go_wp2_with (go_at_call 92; refine (bitslen n _ (by omega) h1').mono ?_; rintro e w' ⟨rfl, rfl⟩)
  go_ret
  refine ⟨congrArg Ending.returned (congrArg (Value.int IntKind.i64) ?_), rfl⟩
  unfold grp
  omega

theorem put_no (n : Int) (w : World) (hn : n < 0 ∨ 4611686018427387904 < n) :
    Calls Try.prog 87 #[.int .i64 n] w fun e w' => e = .returned (.tuple #[.string ⟨#[]⟩, .int .i64 1]) ∧ w = w' := by
  rcases hn with h | h
  all_goals
    first | have h' : ¬ n < 0 := by omega | skip
    go_enter Try.func87, Try.ntmps87
    go_wp2
    go_ret2
    exact ⟨rfl, rfl⟩
theorem put_ref_no (n : Int) (w : World) (hn : n < 0 ∨ 4611686018427387904 < n) :
    Calls Try.prog 61 #[.int .i64 n] w fun e w' => e = .returned (.tuple #[.string ⟨#[]⟩, .int .i64 1]) ∧ w = w' := by
  rcases hn with h | h
  all_goals
    first | have h' : ¬ n < 0 := by omega | skip
    go_enter Try.func61, Try.ntmps61
    go_wp2
    go_ret2
    exact ⟨rfl, rfl⟩

theorem Try.infoU8 : (Try.prog.info? 5).map (fun i => (i.zero, i.size, i.bytes)) = some (some (.int .u8 0), 1, 1) := by kernel_rfl

set_option maxRecDepth 100000 in
set_option maxHeartbeats 1000000 in
theorem put_code (n : Nat) (w : World) (h1 : n ≤ 4611686018427387904) :
    Calls Try.prog 87 #[.int .i64 (n : Int)] w fun e w' => e = .returned (.tuple #[.string ⟨(vL n).toArray⟩, .int .i64 0]) ∧ Below w.heap.size w w' := by
  have h1' : (n : Int) ≤ 4611686018427387904 := by omega
  have hg := grp_len n (by omega)
  have hg9 := vL_len9 h1
  have hg1 := vL_pos n
  obtain ⟨g, hgg⟩ : ∃ g, g = grp n := ⟨_, rfl⟩
  have hgb : 1 ≤ g ∧ g ≤ 9 := by omega
  have HG := Lib.hid hgg
  have HL := Lib.hid hg
  clear hg hg9 hg1 hgg
  obtain ⟨i0, hi, hz0, hz1, hz2⟩ := info_parts Try.infoU8
  go_enter Try.func87, Try.ntmps87
  go_wp2_with fail
  refine (groups_code n _ h1).mono ?_
  rintro e w' ⟨rfl, rfl⟩
  rw [← HG.out]
  go_wp2_with (at_make; refine wpList_make_full _ rfl _ _ 46 rfl w.heap.size 5 i0 (.int .u8 0) 1 Try.underlying46 hi hz0 hz1 .i64 .i64 _ _ g rfl rfl rfl rfl ?b2 ?b3 ?b4 ?_)
  case b2 => rw [hz2]; omega
  case b3 => unfold maxLen; omega
  case b4 => exact Nat.le_refl _
  intro w1 hown hgrow
  have hown0 : w1.ownsRow w.heap.size 5 1 (.slice (some ⟨w.heap.size, 0, none⟩) g g) g (rowK n g 0) := by
    rw [rowK_zero, ← toList_madeCells_one]
    simpa using hown
  have hbel0 : Below w.heap.size w w1 := (Below.refl _ _).grown hgrow (Nat.le_refl _) (by simp)
  clear hown hgrow
  go_wp2
  go_loopw [17] (fun c wr => ∃ k : Nat, k ≤ g ∧ c = .int .i64 k ∧ wr.ownsRow w.heap.size 5 1 (.slice (some ⟨w.heap.size, 0, none⟩) g g) g (rowK n g k) ∧ Below w.heap.size w wr) (fun c _ => g - (intOf c).toNat)
  case atStart => exact ⟨0, by omega, rfl, hown0, hbel0⟩
  case round =>
    obtain ⟨k, hk, rfl, hown, hbel⟩ := hrel
    by_cases hlt : k < g
    · have hc := (hown.cellAt k (by omega)).trans (rowK_get n g k k hlt)
      have hf := hown.frozenAt k
      rw [if_neg (Nat.lt_irrefl k)] at hc
      go_wp2
      go_roundw
      case rel =>
        refine ⟨k + 1, by omega, by go_num, ?_, hbel.setCell (Nat.le_refl _) _⟩
        have h := (hown.stored k (.int .u8 (bits .or .u8 ((n : Int) / 2 ^ (7 * k) % 256) 128))).1
        rw [rowK_set n g k _ (orByteN n k)] at h
        exact h
      case measure => simp [intOf]; omega
    · obtain rfl : k = g := by omega
      have hc := (hown.cellAt (k - 1) (by omega)).trans (rowK_get n k k (k - 1) (by omega))
      have hf := hown.frozenAt (k - 1)
      rw [if_pos (by omega)] at hc
      go_wp2
      have hkg : k = (vL n).length := HG.out.trans HL.out
      have h := (hown.stored (k - 1) (.int .u8 (bits .andNot .u8 ((n : Int) / 2 ^ (7 * (k - 1)) % 128 + 128) 128))).1
      rw [rowK_end n k _ hkg (dropByteN n (k - 1))] at h
      rw [run_str_own _ 46 9 5 Try.underlying46 Try.underlying5 Try.underlying9 w.heap.size 5 k _ (vL n) hkg.symm h]
      clear h hkg
      go_wp2
      go_ret2
      exact ⟨rfl, hbel.setCell (Nat.le_refl _) _⟩

set_option maxRecDepth 100000 in
set_option maxHeartbeats 1000000 in
theorem put_ref (n : Nat) (w : World) (h1 : n ≤ 4611686018427387904) :
    Calls Try.prog 61 #[.int .i64 (n : Int)] w fun e w' => e = .returned (.tuple #[.string ⟨(vL n).toArray⟩, .int .i64 0]) ∧ Below w.heap.size w w' := by
  have h1' : (n : Int) ≤ 4611686018427387904 := by omega
  have hg9 := Lib.hid (vL_len9 h1)
  obtain ⟨i0, hi, hz0, hz1, hz2⟩ := info_parts Try.infoU8
  go_enter Try.func61, Try.ntmps61
  go_wp2
  go_loopw [4, 0] (fun v m wr => ∃ (M : Nat) (xs : List UInt8), M ≤ n ∧ m = .int .i64 M ∧ wr.ownsRow w.heap.size 5 1 v xs.length (bv xs) ∧ Below w.heap.size w wr ∧ xs ++ vL M = vL n) (fun _ m _ => (intOf m).toNat)
  case atStart => exact ⟨n, [], Nat.le_refl _, rfl, World.ownsRow_nil _ _ _ _, Below.refl _ _, rfl⟩
  case round =>
    obtain ⟨M, xs, hM, rfl, hown, hbel, hx⟩ := hrel
    have HX := Lib.hid hx
    clear hx
    have hbs := hbel.size
    have hM63 : M < 9223372036854775808 := by omega
    have hlen : xs.length ≤ 9 := by
      have h := congrArg List.length HX.out
      rw [List.length_append] at h
      have := hg9.out
      omega
    by_cases hlt : 127 < M
    · go_wp2_with (at_builtin; refine wpList_append_own _ rfl _ _ 46 rfl w.heap.size 5 i0 (.int .u8 0) 1 1 Try.underlying46 hi hz0 hz1 hz2 rfl (by decide) _ _ _ rfl (hown.alloc _) ⟨wr.heap.size, 0, none⟩ 1 1 [.int .u8 (bits .or .i64 (bits .and .i64 (M : Int) 127) 128 % 256)] rfl rfl ?c1 ?c2 ?c3 ?c4 ?c5 ?_)
      case c1 => exact cell_new1 _ _ _
      case c2 => exact one_int _ _
      case c3 => unfold maxLen; omega
      case c4 => omega
      case c5 => simp; omega
      · intro v' w2 hown' hgrow _
        rw [bv_snoc xs (UInt8.ofNat (M % 128 + 128)) _ (by rw [refByte M hM63, u8_ofNat (by omega)])] at hown'
        have hown2 : w2.ownsRow w.heap.size 5 1 v' (xs ++ [UInt8.ofNat (M % 128 + 128)]).length (bv (xs ++ [UInt8.ofNat (M % 128 + 128)])) := by
          rw [List.length_append]; exact hown'
        have hbel2 : Below w.heap.size w w2 := (hbel.alloc hbs _).grown hgrow (by simp; omega) (fun k hk => (hown.lt k hk).1)
        clear hown' hgrow hown hbel
        go_wp2
        go_roundw
        case rel =>
          refine ⟨M / 128, xs ++ [UInt8.ofNat (M % 128 + 128)], by omega, by go_num, hown2, hbel2, ?_⟩
          rw [← HX.out, vL_ge (n := M) (by omega), List.append_assoc]
          rfl
        case measure => simp [intOf]; omega
    · go_wp2_with (at_builtin; refine wpList_append_own _ rfl _ _ 46 rfl w.heap.size 5 i0 (.int .u8 0) 1 1 Try.underlying46 hi hz0 hz1 hz2 rfl (by decide) _ _ _ rfl (hown.alloc _) ⟨wr.heap.size, 0, none⟩ 1 1 [.int .u8 M] rfl rfl ?d1 ?d2 ?d3 ?d4 ?d5 ?_)
      case d1 => exact cell_new1 _ _ _
      case d2 => exact one_int _ _
      case d3 => unfold maxLen; omega
      case d4 => omega
      case d5 => simp; omega
      · intro v' w2 hown' hgrow _
        have hvM := vL_lt (n := M) (by omega)
        rw [bv_snoc xs (UInt8.ofNat M) _ (by rw [u8_ofNat (by omega)]), ← hvM, HX.out] at hown'
        have hl : (vL n).length = xs.length + 1 := by rw [← HX.out, hvM, List.length_append]; rfl
        have hbel2 : Below w.heap.size w w2 := (hbel.alloc hbs _).grown hgrow (by simp; omega) (fun k hk => (hown.lt k hk).1)
        clear hgrow hown hbel hvM
        have HL := Lib.hid hl
        clear hl
        go_wp2
        rw [run_str_own _ 46 9 5 Try.underlying46 Try.underlying5 Try.underlying9 w.heap.size 5 _ _ (vL n) HL.out hown']
        clear hown'
        go_wp2
        go_ret2
        exact ⟨rfl, hbel2⟩
end Go.Proofs.Ytdnhmkfgcpdbkaa
