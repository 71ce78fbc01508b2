/-
  Layer 5 (fs): files made one behind the other while the fuse burns, in plain, for the law FsFuses. Conditions: none.
-/
import Derived.Test.YtoidfjglimafbaaDx
namespace Go.Proofs.Ytoidfjglimafbaa
open Go.RowKit Go.Lib
set_option linter.unusedVariables false

def nm (i : Nat) : List UInt8 := [102, UInt8.ofNat (97 + i % 20), UInt8.ofNat (97 + i / 20)]
def FF : Nat → List (List UInt8 × Fl)
  | 0 => []
  | i + 1 => putL (nm i) ⟨[], 0⟩ (FF i)
def SF (K i : Nat) : Ds := if i ≤ K then ⟨FF i, ((K - i : Nat) : Int), false⟩ else ⟨FF K, 0, true⟩
theorem nm_ok (i : Nat) (h : i < 40) : namL (nm i) = true := by
  have : ∀ j : Fin 40, namL (nm j.val) = true := by decide +kernel
  exact this ⟨i, h⟩
theorem u8_nat (n : Nat) (h : n < 256) : (UInt8.ofNat n).toNat = n := by rw [UInt8.toNat_ofNat']; omega
theorem nm_inj (i j : Nat) (hi : i < 40) (hj : j < 40) (h : nm i = nm j) : i = j := by
  unfold nm at h
  simp only [List.cons.injEq, and_true, true_and] at h
  obtain ⟨h1, h2⟩ := h
  have e1 := congrArg UInt8.toNat h1
  have e2 := congrArg UInt8.toNat h2
  rw [u8_nat _ (by omega), u8_nat _ (by omega)] at e1 e2
  omega
theorem ff_mem : ∀ (i : Nat), ∀ p ∈ FF i, ∃ j < i, p.1 = nm j
  | 0, p, h => by simp [FF] at h
  | i + 1, p, h => by
    unfold FF at h
    rcases mem_putL.1 h with rfl | ⟨h, _⟩
    · exact ⟨i, by omega, rfl⟩
    · obtain ⟨j, hj, e⟩ := ff_mem i p h
      exact ⟨j, by omega, e⟩
theorem ff_new (i : Nat) (h : i < 40) : getL (nm i) (FF i) = none := by
  rw [getL_none]
  intro p hp e
  obtain ⟨j, hj, e2⟩ := ff_mem i p hp
  have := nm_inj j i (by omega) h (e2.symm.trans e)
  omega
theorem ff_length : ∀ (i : Nat), i ≤ 40 → (FF i).length = i
  | 0, _ => rfl
  | i + 1, h => by
    unfold FF
    rw [length_putL_new (ff_new i (by omega)), ff_length i (by omega)]
theorem sf_make (K i : Nat) (h : i < 40) : (SF K i).make (nm i) = (SF K (i + 1), if i < K then 0 else 50) := by
  have hn := nm_ok i h
  have hg := ff_new i h
  have hl := ff_length i (by omega)
  by_cases h1 : i < K
  · have e1 : SF K i = ⟨FF i, ((K - i : Nat) : Int), false⟩ := by unfold SF; rw [if_pos (by omega)]
    have e2 : SF K (i + 1) = ⟨FF (i + 1), ((K - (i + 1) : Nat) : Int), false⟩ := by unfold SF; rw [if_pos (by omega)]
    rw [e1, e2, if_pos h1]
    unfold Ds.make Ds.begin
    dsimp only
    rw [hn, hg]
    have b1 : begE true ((K - i : Nat) : Int) false = 0 := by unfold begE; rw [if_pos rfl, if_neg (by simp), if_neg (by omega)]
    have b2 : begF true ((K - i : Nat) : Int) false = ((K - (i + 1) : Nat) : Int) := by unfold begF; rw [if_pos ⟨rfl, rfl, by omega⟩]; omega
    have b3 : begO true ((K - i : Nat) : Int) false = false := by unfold begO; rw [if_neg (by omega)]
    rw [b1, b2, b3, if_pos rfl]
    dsimp only
    rw [if_neg (by omega)]
    rfl
  · have e2 : SF K (i + 1) = ⟨FF K, 0, true⟩ := by unfold SF; rw [if_neg (by omega)]
    rw [e2, if_neg h1]
    by_cases h2 : i = K
    · subst h2
      have e1 : SF i i = ⟨FF i, 0, false⟩ := by unfold SF; rw [if_pos (Nat.le_refl _), Nat.sub_self]; rfl
      rw [e1]
      unfold Ds.make Ds.begin
      dsimp only
      rw [hn]
      rfl
    · have e1 : SF K i = ⟨FF K, 0, true⟩ := by unfold SF; rw [if_neg (by omega)]
      rw [e1]
      unfold Ds.make Ds.begin
      dsimp only
      rw [hn]
      rfl
theorem ff_not (i : Nat) (k : List UInt8) (h : ∀ j < i, nm j ≠ k) : getL k (FF i) = none := by
  rw [getL_none]
  intro p hp e
  obtain ⟨j, hj, e2⟩ := ff_mem i p hp
  exact h j hj (e2.symm.trans e)
theorem nm_x (j : Nat) : nm j ≠ [120] := by unfold nm; simp
theorem nm_fzz (j : Nat) (h : j < 40) : nm j ≠ [102, 122, 122] := by
  intro e
  unfold nm at e
  simp only [List.cons.injEq, and_true, true_and] at e
  have e1 := congrArg UInt8.toNat e.1
  rw [u8_nat _ (by omega)] at e1
  have : (122 : UInt8).toNat = 122 := rfl
  omega
/-- How the disk stands behind N files that were asked for. -/
theorem sf_end (K N : Nat) (h : N < 40) : (SF K N).off = decide ((N : Int) > (K : Int)) ∧ (SF K N).files.length = min N K ∧ (SF K N).lookE [102, 122, 122] = (if K < N then 50 else 3) ∧ (SF K N).bytesOf [102, 122, 122] = [] ∧ (SF K N).crash [] = calm (mapL (cutF 0) (FF (min N K))) := by
  by_cases h1 : N ≤ K
  · have e1 : SF K N = ⟨FF N, ((K - N : Nat) : Int), false⟩ := by unfold SF; rw [if_pos h1]
    have hg := ff_not N [102, 122, 122] fun j hj => nm_fzz j (by omega)
    have hm : min N K = N := by omega
    have hle : Ds.lookE ⟨FF N, ((K - N : Nat) : Int), false⟩ [102, 122, 122] = 3 := by
      unfold Ds.lookE
      rw [show askE (namL [102, 122, 122]) false = 0 from by kernel_rfl]
      rw [if_pos rfl, hg]; rfl
    rw [e1, hm]
    refine ⟨?_, ff_length N (by omega), by rw [hle, if_neg (by omega)], by unfold Ds.bytesOf; rw [hle]; rfl, by rw [crash_none, mapIdx_map]⟩
    rw [eq_comm, decide_eq_false_iff_not]; omega
  · have e1 : SF K N = ⟨FF K, 0, true⟩ := by unfold SF; rw [if_neg h1]
    have hm : min N K = K := by omega
    have hle : Ds.lookE ⟨FF K, 0, true⟩ [102, 122, 122] = 50 := by
      unfold Ds.lookE
      rw [show askE (namL [102, 122, 122]) true = 50 from by kernel_rfl]
      rw [if_neg (by omega)]
    rw [e1, hm]
    refine ⟨?_, ff_length K (by omega), by rw [hle, if_pos (by omega)], by unfold Ds.bytesOf; rw [hle]; rfl, by rw [crash_none, mapIdx_map]⟩
    rw [eq_comm, decide_eq_true_eq]; omega
theorem sf_x (m : Nat) (h : m < 40) : ∃ F, (calm (mapL (cutF 0) (FF m))).make [120] = (calm F, 0) ∧ F.length = m + 1 := by
  have hg : getL [120] (mapL (cutF 0) (FF m)) = none := by rw [getL_mapL, ff_not m [120] fun j _ => nm_x j]; rfl
  refine ⟨_, make_new (by kernel_rfl) hg (by rw [length_mapL, ff_length m (by omega)]; omega), ?_⟩
  rw [length_putL_new hg, length_mapL, ff_length m (by omega)]
end Go.Proofs.Ytoidfjglimafbaa
