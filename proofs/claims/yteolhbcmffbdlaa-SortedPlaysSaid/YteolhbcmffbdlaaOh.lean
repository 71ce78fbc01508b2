/-
  Layer 7 (sorted): the law's awake, none; a map that nobody made. Conditions: none.
-/
import Derived.Test.YteolhbcmffbdlaaOg
import Derived.Test.YteolhbcmffbdlaaSl
namespace Go.Proofs.Yteolhbcmffbdlaa.TI
open Go.RowKit Go.Shelf
set_option linter.unusedVariables false
set_option linter.unusedSimpArgs false

theorem fromA_nil (l : List (Ky × Int)) : fromA [] l = l := by
  unfold fromA
  rw [List.filter_eq_self]
  intro p _
  cases p.1 <;> simp [Op.bytesLess]
set_option maxRecDepth 100000 in
set_option maxHeartbeats 4000000 in
theorem awake_any (w : World) : Calls Try.prog 9 #[] w fun e w' => e = .returned (.bool true) ∧ Below w.heap.size w w' := by
  have e1 : putA [98] (7 : Int) [] = [([98], 7)] := by decide
  have e2 : putA [97] (3 : Int) [([98], 7)] = [([97], 3), ([98], 7)] := by decide
  have e3 : putA [98] (8 : Int) [([97], 3), ([98], 7)] = [([97], 3), ([98], 8)] := by decide
  have g1 : (getA [98] ([] : List (Ky × Int))).isSome = false := by decide
  have g2 : (getA [97] ([([98], 7)] : List (Ky × Int))).isSome = false := by decide
  have g3 : (getA [98] ([([97], 3), ([98], 7)] : List (Ky × Int))).isSome = true := by decide
  have g4 : getA [98] ([([97], 3), ([98], 8)] : List (Ky × Int)) = some 8 := by decide
  have E1 := Lib.hid e1
  have E2 := Lib.hid e2
  have E3 := Lib.hid e3
  have G1 := Lib.hid g1
  have G2 := Lib.hid g2
  have G3 := Lib.hid g3
  have G4 := Lib.hid g4
  clear e1 e2 e3 g1 g2 g3 g4
  go_enter Try.func9, Try.ntmps9
  go_wp2_with fail
  refine (new_any _).mono ?_
  rintro e w1 ⟨rfl, b1, m1⟩
  have B1 := Lib.hid b1
  have M1 := Lib.hid m1
  clear b1 m1
  go_wp2_with fail
  refine (put_map M1.out [98] (by decide) 7 (by decide)).mono ?_
  rintro e w2 ⟨rfl, k2, m2⟩
  rw [E1.out] at m2
  rw [G1.out]
  have B2 := Lib.hid (B1.out.trans (k2.below (Nat.le_refl _) B1.out.size))
  have M2 := Lib.hid m2
  clear k2 m2
  go_wp2_with fail
  refine (put_map M2.out [97] (by decide) 3 (by decide)).mono ?_
  rintro e w3 ⟨rfl, k3, m3⟩
  rw [E2.out] at m3
  rw [G2.out]
  have B3 := Lib.hid (B2.out.trans (k3.below (Nat.le_refl _) B2.out.size))
  have M3 := Lib.hid m3
  clear k3 m3
  go_wp2_with fail
  refine (put_map M3.out [98] (by decide) 8 (by decide)).mono ?_
  rintro e w4 ⟨rfl, k4, m4⟩
  rw [E3.out] at m4
  rw [G3.out]
  have B4 := Lib.hid (B3.out.trans (k4.below (Nat.le_refl _) B3.out.size))
  have M4 := Lib.hid m4
  clear k4 m4
  go_wp2_with fail
  refine (get_some M4.out G4.out).mono ?_
  rintro e w5 ⟨rfl, b5⟩
  have B5 := Lib.hid (B4.out.trans (b5.mono B4.out.size))
  have M5 := Lib.hid (M4.out.below b5)
  clear b5
  go_wp2_with fail
  have ho := over_map_any M5.out []
  rw [fromA_nil] at ho
  refine (first_over ho).mono ?_
  rintro e w6 ⟨rfl, b6⟩
  have B6 := Lib.hid (B5.out.trans (b6.mono B5.out.size))
  have M6 := Lib.hid (M5.out.below b6)
  clear b6 ho
  go_wp2_with fail
  refine (len_any M6.out).mono ?_
  rintro e w7 ⟨rfl, b7⟩
  have B7 := Lib.hid (B6.out.trans (b7.mono B6.out.size))
  have M7 := Lib.hid (M6.out.below b7)
  clear b7
  go_wp2_with fail
  have ho := over_map_any M7.out []
  rw [fromA_nil] at ho
  refine (keys_over [] ho 9 (by decide) (by decide)).mono ?_
  rintro e w8 ⟨a, cap, rfl, b8, r8, l8⟩
  have B8 := Lib.hid (B7.out.trans (b8.mono B7.out.size))
  have R8 := Lib.hid r8
  clear b8 r8 ho
  go_wp2_with fail
  refine (same_at a _ 2 2 cap 2 [[97], [98]] [[97], [98]] true _ (R8.out.old ((Below.refl _ _).alloc (Nat.le_refl _) _)) (lit_rd2 _ _ ⟨#[97]⟩ ⟨#[98]⟩) rfl rfl (by decide) (by decide)).mono ?_
  rintro e w9 ⟨rfl, b9⟩
  have B9 := Lib.hid (B8.out.trans ((bt ((Below.refl _ _).alloc (Nat.le_refl _) _) b9).mono B8.out.size))
  clear b9
  go_wp2_with fail
  go_ret
  exact ⟨rfl, B9.out⟩
theorem noneR_of {w W : World} {D : Nat} {b : Bool} {tmps : Array Value} (h0 : Boxed W w.heap.size 4 (.bool b)) (hK : W.heap[D]? = some (.deferred (some []))) (hB : Below w.heap.size w (W.putObj D (.deferred none))) {t0 t1 t3 t4 t5 t6 t7 t8 t9 ta tb tc td te tf : Value} (ht : tmps = #[t0, t1, .pointer (some ⟨w.heap.size, 0, none⟩), t3, t4, t5, t6, t7, t8, t9, ta, tb, tc, td, te, tf] := by rfl) :
    LeavesInM Fence.wide 9 Try.prog Try.f28 tmps (fun e w' => e = .returned (.bool b) ∧ Below w.heap.size w w') [] .returning (W.putObj D (.deferred none)) := by
  subst ht
  have c0 := (box_put h0 hK).cell
  refine ⟨.bool b, ?_, rfl, hB⟩
  simp [results, Try.f28, go_sem, c0]
set_option maxRecDepth 100000 in
set_option maxHeartbeats 2000000 in
theorem none_nobody {w : World} {p : Option Addr} (h : Nobody w p) : Calls Try.prog 28 #[.pointer p] w fun e w' => e = .returned (.bool true) ∧ Below w.heap.size w w' := by
  have HM := Lib.hid (over_nobody h [])
  clear h
  refine (callsIn_wide (n := 9)).1 ?_
  refine callsIn_of_wp_marks Try.func28 rfl trivial ?_ rfl
  simp only [Try.ntmps28, List.size_toArray, List.length_cons, List.length_nil, Nat.reduceAdd, Nat.reduceSub, Array.replicate_succ, Array.replicate_zero, List.push_toArray, List.append_toArray, List.nil_append, List.cons_append]
  gi_wp2_with ((refine ⟨trivial, ?_⟩); gi_at_call 22; refine (callsIn_wide.2 (from_any p [] _)).mono ?_; rintro e w' ⟨rfl, rfl⟩)
  have b0 : Boxed (((w.alloc (.cells #[.bool false] 4)).alloc (.cells #[.pointer p] 23)).alloc (.cells #[.string ⟨#[]⟩] 9)) w.heap.size 4 (.bool false) := ((Boxed.new w _ _).alloc _).alloc _
  have b2 : Boxed (((w.alloc (.cells #[.bool false] 4)).alloc (.cells #[.pointer p] 23)).alloc (.cells #[.string ⟨#[]⟩] 9)) (w.heap.size + 1) 23 (.pointer p) := by
    have h := Boxed.new (w.alloc (.cells #[.bool false] 4)) 23 (.pointer p)
    rw [World.size_alloc] at h
    exact h.alloc _
  have b3 : Boxed (((w.alloc (.cells #[.bool false] 4)).alloc (.cells #[.pointer p] 23)).alloc (.cells #[.string ⟨#[]⟩] 9)) (w.heap.size + 2) 9 (.string ⟨#[]⟩) := by
    have h := Boxed.new ((w.alloc (.cells #[.bool false] 4)).alloc (.cells #[.pointer p] 23)) 9 (.string ⟨#[]⟩)
    rw [World.size_alloc, World.size_alloc] at h
    exact h
  have hB : Below w.heap.size w (((w.alloc (.cells #[.bool false] 4)).alloc (.cells #[.pointer p] 23)).alloc (.cells #[.string ⟨#[]⟩] 9)) := (((Below.refl _ w).alloc (Nat.le_refl _) _).alloc (by simp) _).alloc (by simp; omega) _
  generalize (((w.alloc (.cells #[.bool false] 4)).alloc (.cells #[.pointer p] 23)).alloc (.cells #[.string ⟨#[]⟩] 9)) = W4 at *
  have hsz : w.heap.size + 2 < W4.heap.size := b3.lt
  have hst := HM.out.2 8 W4 (w.heap.size + 1) (w.heap.size + 1 + 1) hB b2.cell b3.cell
  refine wpIn_rangeFunc_ownG rfl (by decide) (gf := 36) (lb := #[.pointer (some ⟨w.heap.size + 1, 0, none⟩), .pointer (some ⟨w.heap.size + 1 + 1, 0, none⟩)]) rfl trivial (enters_of Try.func36 (by kernel_rfl) rfl)
    hst belowK_t (belowK_b (by omega)) (Below.refl _ _) (fun _ => rfl)
    (fun pre W => Boxed W w.heap.size 4 (.bool false) ∧ Below w.heap.size w W)
    (fun c pre W => False)
    (OwnFrom.and (Own.from (boxed_own w.heap.size 4 (fun _ : List (Ky × Int) => .bool false)) _) (ownFrom_below (Nat.le_refl _) (by omega)))
    (fun c _ _ _ _ h _ _ => h)
    ⟨b0, hB⟩
    (fun x => { tmps := #[.pointer p, undef, .pointer (some ⟨w.heap.size, 0, none⟩), .string ⟨x.1.toArray⟩, .int .i64 x.2, .pointer p, .func (.func 36) #[] #[.pointer (some ⟨w.heap.size + 1, 0, none⟩), .pointer (some ⟨w.heap.size + 1 + 1, 0, none⟩)], .string ⟨x.1.toArray⟩, .int .i64 x.2, undef, undef, undef, undef, undef, undef, undef], defers := [] }) ?assign ?body ?done ?stop
  case assign =>
    intro l x W K hK
    unfold encs
    gi_wp2_with (rw [Oper.semAt_eq _ _ _ (fun c h => by cases h)]; go_simp; try go_bits)
    exact hK
  case body =>
    intro l' pre x W h hpl
    exact absurd hpl (Nat.not_lt_zero _)
  case done =>
    rintro D ys W hD hys ⟨hv0, hBW⟩ hK
    have hc0 := hv0.cell
    have hf0 := hv0.frozen
    have k0 := Lib.hid (hv0.set (.bool true))
    have hB2 := Lib.hid (hBW.setCell (p := ⟨w.heap.size, 0, none⟩) (Nat.le_refl _) (.bool true))
    have hK' := Lib.hid ((KeepsOthers.setCell W ⟨w.heap.size, 0, none⟩ (.bool true)).same D _ hK rfl)
    clear hys hst
    gi_wp2
    refine ⟨by simp, .inl ⟨_, _, rfl, run_takeDeferred hK'.out, ?_⟩⟩
    exact noneR_of k0.out hK'.out (hB2.out.trans (belowK_b (w := w) (Nat.le_refl _) _ D _ (.deferred none) (by omega) hK'.out rfl rfl))
  case stop =>
    intro D c pre W hD hpre h hK
    exact h.elim
/-! ### calls of nobody's map -/
section
variable {w : World} {p : Option Addr}
theorem get_nobody (h : Nobody w p) (k : Ky) : Calls Try.prog 12 #[.pointer p, .string ⟨k.toArray⟩] w fun e w' => e = .returned (.tuple #[.int .i64 0, .bool false]) ∧ Below w.heap.size w w' := by
  have HH := Lib.hid h
  clear h
  go_enter Try.func12, Try.ntmps12
  go_wp2_with fail
  refine (given_no HH.out).mono ?_
  rintro e w1 ⟨rfl, b1⟩
  have B1 := Lib.hid b1
  clear b1
  go_wp2_with fail
  go_ret2
  exact ⟨rfl, B1.out⟩
theorem put_nobody (h : Nobody w p) (k : Ky) (v : Int) : Calls Try.prog 11 #[.pointer p, .string ⟨k.toArray⟩, .int .i64 v] w fun e w' => e = .returned (.bool false) ∧ Below w.heap.size w w' := by
  have HH := Lib.hid h
  clear h
  go_enter Try.func11, Try.ntmps11
  go_wp2_with fail
  refine (given_no HH.out).mono ?_
  rintro e w1 ⟨rfl, b1⟩
  have B1 := Lib.hid b1
  clear b1
  go_wp2_with fail
  go_ret
  exact ⟨rfl, B1.out⟩
theorem len_nobody (h : Nobody w p) : Calls Try.prog 20 #[.pointer p] w fun e w' => e = .returned (.int .i64 0) ∧ Below w.heap.size w w' := by
  have HH := Lib.hid h
  clear h
  go_enter Try.func20, Try.ntmps20
  go_wp2_with fail
  refine (given_no HH.out).mono ?_
  rintro e w1 ⟨rfl, b1⟩
  have B1 := Lib.hid b1
  clear b1
  go_wp2_with fail
  go_ret
  exact ⟨rfl, B1.out⟩
theorem drop_nobody (h : Nobody w p) (k : Ky) : Calls Try.prog 15 #[.pointer p, .string ⟨k.toArray⟩] w fun e w' => e = .returned (.bool false) ∧ Below w.heap.size w w' := by
  have HH := Lib.hid h
  clear h
  go_enter Try.func15, Try.ntmps15
  go_wp2_with fail
  refine (get_nobody HH.out k).mono ?_
  rintro e w1 ⟨rfl, b1⟩
  have B1 := Lib.hid b1
  clear b1
  go_wp2_with fail
  go_ret
  exact ⟨rfl, B1.out⟩
/-- Keys of nobody's map, whatever is asked. -/
theorem keys_nobody (h : Nobody w p) (k : Ky) (n : Int) (hn : -9223372036854775808 ≤ n ∧ n ≤ 9223372036854775807) : Calls Try.prog 17 #[.pointer p, .string ⟨k.toArray⟩, .int .i64 n] w (KeysR w []) := by
  by_cases h1 : n < 1
  · exact keys_few _ k n h1 hn.1
  · have := keys_over k (over_nobody h k) n (by omega) hn.2
    simpa using this
theorem first_nobody (h : Nobody w p) : Calls Try.prog 19 #[.pointer p] w fun e w' => e = .returned (.tuple #[.string ⟨#[]⟩, .bool false]) ∧ Below w.heap.size w w' := first_over (over_nobody h [])
end
end Go.Proofs.Yteolhbcmffbdlaa.TI
