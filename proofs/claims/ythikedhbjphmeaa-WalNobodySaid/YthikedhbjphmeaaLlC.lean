/-
  Layer 6 (wal): the walk of the law WalNobody. Conditions: none.
-/
import Derived.Test.YthikedhbjphmeaaLn
namespace Go.Proofs.Ythikedhbjphmeaa
open Go.RowKit Go.Lib
set_option linter.unusedVariables false
set_option linter.unusedSimpArgs false

/-- What the third Open answers. -/
def openV (n : Int) (l : Nat) : Value × Int := if 0 ≤ n ∧ n ≤ 1048576 then (.pointer (some ⟨l, 0, none⟩), 0) else (.pointer none, 1)
set_option maxRecDepth 100000 in
set_option maxHeartbeats 1000000 in
theorem nobody_walk (n : Int) (hn : (Lit.int .i64 n).wf = true) (s : ByteArray) (w : World) (hc : (n < 0) ∨ (1048576 < n) ∨ (0 ≤ n ∧ n ≤ 1048576)) :
    Calls Try.prog 6 #[.int .i64 n, .string s] w fun e w' => e = .returned (.bool true) ∧ Below w.heap.size w w' := by
  have A1 := open_ng (Ng.nil w) w (Below.refl _ _) n
  have hrest : ∀ (w1 : World), Below w.heap.size w w1 → Calls Try.prog 8 #[.pointer (some ⟨w1.heap.size, 0, none⟩), .int .i64 n] (w1.alloc (.cells #[.pointer none, .map none, .int .i64 0, .bool false] 45)) fun e w' => e = .returned (.tuple #[.pointer none, .int .i64 1]) ∧ Below w.heap.size w w' := fun w1 hb1 =>
    (open_ng (Ng.zero (w1.alloc (.cells #[.pointer none, .map none, .int .i64 0, .bool false] 45)) w1.heap.size (by simp) (by rw [World.cell?_alloc_mark]; rfl)) _ (Below.refl _ _) n).mono fun e w' ⟨h1, h2⟩ => ⟨h1, (hb1.trans ((al1 w1 _).mono hb1.size)).trans (h2.mono (by have := hb1.size; simp; omega))⟩
  have HRest := Lib.hid hrest
  have HOpen : Hid (∀ (w1 : World) (d : Nat), DiskAt (fun b => b < w1.heap.size) w1 d ⟨[], -1, false⟩ → True) := Lib.hid fun _ _ _ => trivial
  clear hrest
  go_enter Try.func6, Try.ntmps6
  go_wp2_with fail
  refine A1.mono ?_
  rintro e w1 ⟨rfl, hb1⟩
  have HB1 := Lib.hid hb1
  clear hb1 A1
  go_wp2_with fail
  refine (HRest.out w1 HB1.out).mono ?_
  rintro e w2 ⟨rfl, hb2⟩
  have HB2 := Lib.hid hb2
  clear hb2
  go_wp2_with fail
  refine (new_any _).mono ?_
  rintro e w3 ⟨rfl, hd, hb⟩
  have HB3 := Lib.hid (HB2.out.trans (hb.mono HB2.out.size))
  have HD := Lib.hid hd
  have HW2 : Hid (w.heap.size ≤ w2.heap.size) := Lib.hid HB2.out.size
  clear hd hb
  rcases hc with hc | hc | hc
  all_goals
    first
    | (have HO := Lib.hid (open_arg (own := fun _ => True) (some ⟨w2.heap.size + 1, 0, none⟩) w3 n (.inl hc))
       have hc' : ¬ 0 ≤ n := by omega)
    | (have HO := Lib.hid (open_arg (own := fun _ => True) (some ⟨w2.heap.size + 1, 0, none⟩) w3 n (.inr hc))
       have hc' : 0 ≤ n := by omega)
    | (obtain ⟨q, rfl⟩ : ∃ q : Nat, n = (q : Int) := ⟨n.toNat, by omega⟩
       have HO := Lib.hid (open_new HD.out q (by omega))
       have hc1 := hc.1
       have hc2 := hc.2)
    go_wp2_with fail
    refine HO.out.mono ?_
    first
    | (rintro e w4 ⟨⟨l, rfl⟩, hk4⟩
       have HB4 := Lib.hid (HB3.out.trans (hk4.below (B := w.heap.size) fun b hb => Nat.lt_of_lt_of_le hb HW2.out))
       clear hk4)
    | (rintro e w4 ⟨rfl, hw⟩
       have HB4 := Lib.hid (show Below w.heap.size w w4 by rw [← hw]; exact HB3.out)
       clear hw)
    clear HO HD
    go_wp2
    obtain ⟨z1, hz1⟩ : ∃ z1, z1 = w4.alloc (.cells #[.pointer none, .pointer none, .slice none 0 0] 48) := ⟨_, rfl⟩
    obtain ⟨z2, hz2⟩ : ∃ z2, z2 = z1.alloc (.cells #[.pointer none, .pointer (some ⟨w4.heap.size, 0, none⟩)] 27) := ⟨_, rfl⟩
    have z1s : z1.heap.size = w4.heap.size + 1 := by rw [hz1]; simp
    have z2s : z2.heap.size = w4.heap.size + 2 := by rw [hz2]; simp [z1s]
    have k0 : z2.cell? ⟨w4.heap.size, 0, none⟩ = some (.pointer none) := by
      rw [hz2]
      exact ((al1 z1 _).cell (p := ⟨w4.heap.size, 0, none⟩) (by rw [z1s]; exact Nat.lt_succ_self _)).trans (by rw [hz1, World.cell?_alloc_mark]; rfl)
    have k1 : z2.cell? ⟨w4.heap.size + 1, 0, none⟩ = some (.pointer none) := by rw [hz2, ← z1s, World.cell?_alloc_mark]; rfl
    have k2 : z2.cell? ⟨w4.heap.size + 1, 1, none⟩ = some (.pointer (some ⟨w4.heap.size, 0, none⟩)) := by rw [hz2, ← z1s, World.cell?_alloc_mark]; rfl
    have hb5 : Below w.heap.size w z2 := by
      rw [hz2, hz1]
      exact (HB4.out.trans ((al1 w4 _).mono HB4.out.size)).trans ((al1 _ _).mono (by have := HB4.out.size; simp; omega))
    have N0 := Lib.hid (Nl.nil z2)
    have N1 := Lib.hid (Nl.zero z2 w4.heap.size (by rw [z2s]; omega) k0)
    have K1 := Lib.hid k1
    have K2 := Lib.hid k2
    have HZ : Hid (w4.heap.size + 2 = z2.heap.size) := Lib.hid z2s.symm
    have HB5 := Lib.hid hb5
    rw [← hz1, ← hz2]
    clear hz1 hz2 z1s z2s k0 k1 k2 hb5 HB4
    generalize w4.heap.size = lb at *
    go_loopw [13] (fun i wr => ∃ q : Nat, q ≤ 2 ∧ i = .int .i64 q ∧ Hid (Below z2.heap.size z2 wr)) (fun i _ => 2 - (intOf i).toNat)
    case atStart => exact ⟨0, by omega, rfl, Lib.hid (Below.refl _ _)⟩
    case round =>
      obtain ⟨i, hi, rfl, hbr⟩ := hrel
      by_cases hi2 : i < 2
      · have hlti : (i : Int) < 2 := by omega
        have hlbr : lb + 1 < wr.heap.size := by have := hbr.out.size; have := HZ.out; omega
        obtain ⟨p, hp, hnl⟩ : ∃ p : Option Addr, wr.cell? ⟨lb + 1, i, none⟩ = some (.pointer p) ∧ Hid (Nl z2 p) := by
          rcases (by omega : i = 0 ∨ i = 1) with rfl | rfl
          · exact ⟨none, (hbr.out.cell (p := ⟨lb + 1, 0, none⟩) (by show lb + 1 < _; have := HZ.out; omega)).trans K1.out, N0⟩
          · exact ⟨_, (hbr.out.cell (p := ⟨lb + 1, 1, none⟩) (by show lb + 1 < _; have := HZ.out; omega)).trans K2.out, N1⟩
        go_wp2_with (first
          | (go_at_call 12; refine (roll_nl hnl.out _ hbr.out).mono ?_; rintro e w' ⟨rfl, rfl⟩)
          | (go_at_call 10; refine (add_nl hnl.out _ hbr.out _).mono ?_; rintro e w' ⟨rfl, rfl⟩)
          | (go_at_call 11; refine (flush_nl hnl.out _ hbr.out).mono ?_; rintro e w' ⟨rfl, rfl⟩)
          | (go_at_call 19; refine (drop_nl hnl.out _ hbr.out _).mono ?_; rintro e w' ⟨rfl, rfl⟩)
          | (go_at_call 14; refine (all_nl hnl.out _ hbr.out).mono ?_; rintro e w' ⟨rfl, rfl⟩)
          | (go_at_call 18; refine (last_nl hnl.out _ hbr.out).mono ?_; rintro e w' ⟨rfl, rfl⟩))
        go_roundw
        case rel => exact ⟨i + 1, by omega, by go_num, hbr⟩
        case measure => simp [intOf]; omega
      · have hi3 : i = 2 := by omega
        subst hi3
        go_wp2_with (go_at_call 9; refine (awake_any _).mono ?_; rintro e w6 ⟨rfl, bb⟩)
        go_ret
        exact ⟨rfl, (HB5.out.trans (hbr.out.mono HB5.out.size)).trans (bb.mono (Nat.le_trans HB5.out.size hbr.out.size))⟩
theorem walk_WalNobody (n : Int) (hn : (Lit.int .i64 n).wf = true) (s : ByteArray) (hs : s.size ≤ 140737488351232) (w : World) :
    Calls Try.prog 6 #[.int .i64 n, .string s] w fun e w' => e = .returned (.bool true) ∧ Below w.heap.size w w' :=
  nobody_walk n hn s w (by omega)
end Go.Proofs.Ythikedhbjphmeaa
