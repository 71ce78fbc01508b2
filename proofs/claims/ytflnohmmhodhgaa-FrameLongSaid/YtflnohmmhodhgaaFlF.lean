/-
  Layer 3 (frame): the walk of the law FrameLong. Conditions: none.
-/
import Derived.Test.YtflnohmmhodhgaaFlB
namespace Go.Proofs.Ytflnohmmhodhgaa
open Go.RowKit

theorem Try.infoU8f : (Try.prog.info? 5).map (fun i => (i.zero, i.size, i.bytes)) = some (some (.int .u8 0), 1, 1) := by kernel_rfl
theorem ftake_back (X : ByteArray) (l : List UInt8) (w : World) (hX : X = ⟨(frL l).toArray⟩) (h : l.length ≤ 262144) :
    Calls Try.prog 12 #[.string X] w fun e w' => e = .returned (.tuple #[.string ⟨l.toArray⟩, .int .i64 ((frL l).length : Nat), .int .i64 0]) ∧ Below w.heap.size w w' := by
  subst hX
  have hz := mk_size (frL l)
  have hl := frL_le l h
  have h1 := ftake_code ⟨(frL l).toArray⟩ w (by omega)
  have h2 := ftR_back l [] h
  rw [List.append_nil] at h2
  unfold FT at h1
  rw [show (⟨(frL l).toArray⟩ : ByteArray).data.toList = frL l from rfl, h2] at h1
  exact h1
set_option maxRecDepth 100000 in
set_option maxHeartbeats 1000000 in
theorem walk_FrameLong (x : Int) (_ : (Lit.int .i64 x).wf = true) (w : World) :
    Calls Try.prog 7 #[.int .i64 x] w fun e w' => e = .returned (.bool true) ∧ Below w.heap.size w w' := by
  obtain ⟨i0, hi, hz0, hz1, hz2⟩ := info_parts Try.infoU8f
  obtain ⟨q, hq4, hq⟩ := and3 x
  obtain ⟨n, hn⟩ : ∃ n, n = 262143 + q := ⟨_, rfl⟩
  have hni : (262143 : Int) + (q : Int) = (n : Int) := by omega
  obtain ⟨Z, hZ⟩ : ∃ Z : List UInt8, Z = List.replicate n 0 := ⟨_, rfl⟩
  have hZl : Z.length = n := by rw [hZ, List.length_replicate]
  have hzz := mk_size Z
  rw [hZl] at hzz
  have HZ := Lib.hid hZ
  have HZL := Lib.hid hZl
  have HN := Lib.hid hn
  clear hZ hZl hn
  go_enter Try.func7, Try.ntmps7
  go_wp2_with (at_make; refine wpList_make_full _ rfl _ _ 39 rfl w.heap.size 5 i0 (.int .u8 0) 1 Try.underlying39 hi hz0 hz1 .i64 .i64 _ _ n rfl rfl rfl rfl ?b2 ?b3 ?b4 ?_)
  case b2 => rw [hz2]; omega
  case b3 => unfold maxLen; omega
  case b4 => exact Nat.le_refl _
  intro w1 hown hgrow
  have hown0 : w1.ownsRow w.heap.size 5 1 (.slice (some ⟨w.heap.size, 0, none⟩) n n) n (bv Z) := by
    rw [HZ.out, bv_rep, ← toList_madeCells_one]
    simpa using hown
  have b1 : Below w.heap.size w w1 := (Below.refl _ _).grown hgrow (Nat.le_refl _) (by simp)
  clear hown hgrow
  go_wp2
  rw [run_str_own _ 39 9 5 Try.underlying39 Try.underlying5 Try.underlying9 w.heap.size 5 n _ Z HZL.out hown0]
  clear hown0
  by_cases hq1 : 1 < q
  · have hq1' : (1 : Int) < (q : Int) := by omega
    go_wp2_with fail
    refine (fput_no ⟨Z.toArray⟩ _ (by rw [hzz]; omega) (by rw [hzz]; omega)).mono ?_
    rintro e w2 ⟨rfl, rfl⟩
    go_wp2_with fail
    refine (awake_any _).mono ?_
    rintro e w3 ⟨rfl, b3⟩
    go_wp2
    go_ret
    exact ⟨rfl, bt b1 b3⟩
  · have hq1' : (q : Int) ≤ 1 := by omega
    have hp := fun w => fput_code ⟨Z.toArray⟩ w (by rw [hzz]; omega)
    rw [show (⟨Z.toArray⟩ : ByteArray).data.toList = Z from rfl] at hp
    have ht := fun w => ftake_back ⟨(frL Z).toArray⟩ Z w rfl (by rw [HZL.out]; omega)
    have hfz := mk_size (frL Z)
    obtain ⟨F, hF⟩ : ∃ F, F = frL Z := ⟨_, rfl⟩
    rw [← hF] at hp ht hfz
    have HP := Lib.hid hp
    have HT := Lib.hid ht
    clear hp ht hF
    go_wp2_with fail
    refine (HP.out _).mono ?_
    rintro e w2 ⟨rfl, b2⟩
    go_wp2_with fail
    refine (HT.out _).mono ?_
    rintro e w3 ⟨rfl, b3⟩
    go_wp2_with fail
    refine (awake_any _).mono ?_
    rintro e w4 ⟨rfl, b4⟩
    go_wp2
    go_ret
    exact ⟨rfl, bt (bt (bt b1 b2) b3) b4⟩
end Go.Proofs.Ytflnohmmhodhgaa
