/-
  Layer 2 (crc): what its contracts come to: a seal is right; turned bytes are told; places. Conditions: none.
-/
import Derived.Test.YtdnhmkfgcpdbkaaTv
import Derived.Test.YtdnhmkfgcpdbkaaTn
namespace Go.Proofs.Ytdnhmkfgcpdbkaa.CR
open Go.RowKit

theorem chk_seal (l : List UInt8) : chk (l ++ tailL l) = true := by
  have h : (l ++ tailL l).length = l.length + 4 := by rw [List.length_append, tailL_length]
  rw [chk, h, show l.length + 4 - 4 = l.length by omega, List.drop_left, List.take_left]
  simp
theorem tailL_inj {l m : List UInt8} (h : tailL l = tailL m) : crcV 0 l = crcV 0 m := by
  have h1 := fixV_fixL (crcV 0 l) (crcV_lt l (by omega)) []
  have h2 := fixV_fixL (crcV 0 m) (crcV_lt m (by omega)) []
  rw [List.append_nil] at h1 h2
  rw [← h1, ← h2]
  exact congrArg fixV h
/-- A sealed text of which up to four bytes in a row, from k on, are turned. -/
theorem chk_turn (s Y : List UInt8) (k j : Nat) (hk : k + j ≤ s.length) (hj : j ≤ Y.length) (hY : Y.length = 4) :
    chk (turnL (s ++ tailL s) k Y j) = !((Y.take j).any (· != 0)) := by
  have h1 : turnL (s ++ tailL s) k Y j = turnL s k Y j ++ tailL s := by
    unfold turnL
    rw [List.take_append_of_le_length (by omega), List.drop_append_of_le_length (by omega), List.take_append_of_le_length (by simp; omega), List.drop_append_of_le_length (by omega), List.append_assoc]
    simp
  have hl := turnL_length s k Y j hk hj
  have hx : ((s.drop k).take j).length = (Y.take j).length := by
    simp only [List.length_take, List.length_drop]
    omega
  have h2 : (turnL s k Y j ++ tailL s).length = s.length + 4 := by rw [List.length_append, hl, tailL_length]
  rw [h1, chk, h2, show s.length + 4 - 4 = s.length by omega, ← hl, List.drop_left, List.take_left, hl]
  rw [decide_eq_true (by omega : 4 ≤ s.length + 4), Bool.true_and]
  have hs : s = s.take k ++ (s.drop k).take j ++ s.drop (k + j) := by
    rw [List.append_assoc, ← List.drop_drop, List.take_append_drop, List.take_append_drop]
  have hz := zxl_same hx
  cases hany : (Y.take j).any (· != 0) with
  | false =>
    have e := hz.2 hany
    have : turnL s k Y j = s := by
      rw [turnL, e]
      exact hs.symm
    rw [this]
    simp
  | true =>
    have hne : ¬ zxl ((s.drop k).take j) (Y.take j) = (s.drop k).take j := fun e => by
      have := hz.1 e
      rw [hany] at this
      cases this
    show (tailL s == tailL (turnL s k Y j)) = false
    rw [beq_eq_false_iff_ne]
    intro e
    have e1 := tailL_inj e
    rw [turnL] at e1
    have e2 : crcV 0 (s.take k ++ (s.drop k).take j ++ s.drop (k + j)) = crcV 0 (s.take k ++ zxl ((s.drop k).take j) (Y.take j) ++ s.drop (k + j)) := by
      rw [← hs]
      exact e1
    exact hne (crcV_tells (by omega) (by simp only [zxl, List.length_zipWith]; omega) (by simp only [List.length_take]; omega) e2).symm

/-- Whether one of the first j is no zero. -/
def tn (Y : List UInt8) (j : Nat) : Bool := (Y.take j).any (· != 0)
theorem tn_snoc (Y : List UInt8) (j : Nat) (h : j < Y.length) : tn Y (j + 1) = (tn Y j || Y[j] != 0) := any_snoc Y j h
theorem place_of (x : Int) (n : Nat) (h : 0 < n) : ∃ q : Nat, q < n ∧ (bits .and .i64 x 65535).tmod (n : Int) = (q : Int) := by
  have h1 := i64_low 16 (by omega) 65535 x (by decide)
  have h2 : 0 ≤ x % 2 ^ 16 := by omega
  have h3 := Int.emod_nonneg (x % 2 ^ 16) (b := (n : Int)) (by omega)
  have h4 := Int.emod_lt_of_pos (x % 2 ^ 16) (b := (n : Int)) (by omega)
  refine ⟨(x % 2 ^ 16 % (n : Int)).toNat, by omega, ?_⟩
  rw [h1, Int.tmod_eq_emod_of_nonneg h2]
  omega
theorem and3 (x : Int) : ∃ q : Nat, q < 4 ∧ bits .and .i64 x 3 = (q : Int) := by
  have h1 := i64_low 2 (by omega) 3 x (by decide)
  refine ⟨(x % 4).toNat, by omega, ?_⟩
  rw [h1]
  omega
theorem bv_rep (n : Nat) : bv (List.replicate n 0) = List.replicate n (Value.int .u8 0) := by simp [bv]
end Go.Proofs.Ytdnhmkfgcpdbkaa.CR
