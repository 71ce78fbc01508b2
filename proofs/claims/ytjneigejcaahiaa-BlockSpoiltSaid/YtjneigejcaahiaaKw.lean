/-
  Layer 9 (block), the contract of the law's own awake. Conditions: none.
-/
import Derived.Test.YtjneigejcaahiaaKv
namespace Go.Proofs.Ytjneigejcaahiaa
open Go.RowKit
set_option linter.unusedVariables false
set_option linter.unusedSimpArgs false

def awE : List Ent := [(⟨#[97, 97]⟩, ⟨#[120]⟩, false, 3), (⟨#[97, 98]⟩, ⟨#[]⟩, true, 2)]
theorem aw_ok : okB awE = true := by decide +kernel
theorem aw_len : (putB awE).length = 16 := by decide +kernel
theorem aw_less : lessE (⟨#[97, 97]⟩, ⟨#[120]⟩, false, 3) (⟨#[97, 98]⟩, ⟨#[]⟩, true, 2) = true := by decide +kernel
theorem aw_find : FB awE ⟨#[97, 97]⟩ 3 = some (⟨#[97, 97]⟩, ⟨#[120]⟩, false, 3) := by
  unfold FB
  rw [aw_ok, if_pos rfl]
  unfold findB awE
  rw [List.find?_cons_of_pos]
  exact isE_iff.2 ⟨rfl, by decide⟩
theorem aw_okV : okV awE := by
  intro e he
  simp only [awE, List.mem_cons, List.not_mem_nil, or_false] at he
  rcases he with rfl | rfl
  · exact ⟨by unfold okS; decide, by unfold okS; decide⟩
  · exact ⟨by unfold okS; decide, by unfold okS; decide⟩
abbrev awObj : Obj := .cells #[.string ⟨#[97, 97]⟩, .string ⟨#[120]⟩, .bool false, .int .i64 3, .string ⟨#[97, 98]⟩, .string ⟨#[]⟩, .bool true, .int .i64 2] 36
theorem aw_rd (w : World) : RdE (w.alloc awObj) (some ⟨w.heap.size, 0, none⟩) awE := by
  have hh : (w.alloc awObj).heap[w.heap.size]? = some awObj := heap_alloc_new w _
  refine .inr ⟨w.heap.size, 0, rfl, heap_lt hh, fun i hi => ?_⟩
  have hi2 : i < 2 := hi
  match i, hi2 with
  | 0, _ => exact ⟨by rw [Lib.cell_of_heap hh]; rfl, by rw [Lib.cell_of_heap hh]; rfl, by rw [Lib.cell_of_heap hh]; rfl, by rw [Lib.cell_of_heap hh]; rfl⟩
  | 1, _ => exact ⟨by rw [Lib.cell_of_heap hh]; rfl, by rw [Lib.cell_of_heap hh]; rfl, by rw [Lib.cell_of_heap hh]; rfl, by rw [Lib.cell_of_heap hh]; rfl⟩
set_option maxRecDepth 100000 in
set_option maxHeartbeats 8000000 in
theorem awake9_any (w : World) : Calls Try.prog 10 #[] w fun e w' => e = .returned (.bool true) ∧ Below w.heap.size w w' := by
  have HRd := Lib.hid (aw_rd w)
  have HW0 : Hid (Below w.heap.size w (w.alloc awObj)) := Lib.hid ((Below.refl _ _).alloc (Nat.le_refl _) _)
  have HP := Lib.hid (put9_any (some ⟨w.heap.size, 0, none⟩) 2 2 awE (w.alloc awObj) (by decide) rfl (aw_rd w) aw_okV)
  go_enter Try.func10, Try.ntmps10
  go_wp2_with fail
  refine HP.out.mono ?_
  rintro e w1 ⟨rfl, b1⟩
  rw [if_pos aw_ok]
  have HW1 := Lib.hid (HW0.out.trans (b1.mono HW0.out.size))
  have HR1 := Lib.hid (HRd.out.old b1)
  obtain ⟨T, hT⟩ : ∃ T : ByteArray, T = ⟨(putB awE).toArray⟩ := ⟨_, rfl⟩
  have hTs : T.size = 16 := by rw [hT, size_mkl, aw_len]
  have hTd : T.data.toList = putB awE := by rw [hT]
  rw [← hT]
  have HT := Lib.hid (show ∀ w, Calls Try.prog 15 #[.string T] w (TK (some awE) w) from fun w => by
    have h := take9_any T w (by omega)
    rw [hTd, takeB_put aw_ok] at h
    exact h)
  have hTi : (T.size : Int) = 16 := by omega
  clear b1 hT hTd HP HRd HW0
  go_wp2_with fail
  refine (HT.out _).mono ?_
  rintro e w2 ⟨a2, m2, c2, es2, rfl, hm2, hr2, hf2, _, b2⟩
  obtain rfl := hf2 awE rfl
  obtain rfl : 2 = m2 := hm2
  rw [if_neg (by simp)]
  have HW2 := Lib.hid (HW1.out.trans (b2.mono HW1.out.size))
  have HR2 := Lib.hid (HR1.out.old b2)
  have HM2 := Lib.hid hr2
  clear b2 hf2 hr2 HR1 HW1 HT
  go_wp2_with fail
  refine (find9_any (some ⟨w.heap.size, 0, none⟩) 2 2 awE ⟨#[97, 97]⟩ 3 _ (by decide) rfl HR2.out aw_okV).mono ?_
  rintro e w3 ⟨rfl, b3⟩
  rw [aw_find]
  rw [show fnd (some (⟨#[97, 97]⟩, ⟨#[120]⟩, false, 3)) = .tuple #[.agg #[.string ⟨#[97, 97]⟩, .string ⟨#[120]⟩, .bool false, .int .i64 3], .bool true] from rfl]
  have HW3 := Lib.hid (HW2.out.trans (b3.mono HW2.out.size))
  have HR3 := Lib.hid (HR2.out.old b3)
  have HM3 := Lib.hid (HM2.out.old b3)
  have HA3 : Hid (Below w3.heap.size w3 (w3.alloc (.cells #[.string ⟨#[97, 97]⟩, .string ⟨#[120]⟩, .bool false, .int .i64 3] 36))) := Lib.hid ((Below.refl _ _).alloc (Nat.le_refl _) _)
  have hx3 := EBox.new w3 36 ⟨#[97, 97]⟩ ⟨#[120]⟩ false 3
  clear b3 HR2 HM2 HW2
  obtain ⟨W, hW⟩ : ∃ W, W = w3.alloc (.cells #[.string ⟨#[97, 97]⟩, .string ⟨#[120]⟩, .bool false, .int .i64 3] 36) := ⟨_, rfl⟩
  rw [← hW] at HA3 hx3
  have HR4 := Lib.hid (HR3.out.old HA3.out)
  have HM4 := Lib.hid (HM3.out.old HA3.out)
  have HW4 := Lib.hid (HW3.out.trans (HA3.out.mono HW3.out.size))
  have HLs := Lib.hid fun w => less_any ⟨#[97, 97]⟩ ⟨#[120]⟩ false 3 ⟨#[97, 98]⟩ ⟨#[]⟩ true 2 true aw_less w
  obtain ⟨x0, x1, x2, x3, x4⟩ := hx3
  obtain ⟨b, off, hbo, hbl, hcc⟩ := HR4.out.at_
  obtain rfl : b = w.heap.size := by have := hbo (by decide); simp at this; exact this.1.symm
  obtain rfl : off = 0 := by have := hbo (by decide); simp at this; exact this.symm
  have hbl' := hbl (by decide)
  have g0 := hcc 0 (by decide)
  have g1 := hcc 1 (by decide)
  simp only [awE, List.getElem_cons_zero, List.getElem_cons_succ] at g0 g1
  obtain ⟨g00, g01, g02, g03⟩ := g0
  obtain ⟨g10, g11, g12, g13⟩ := g1
  simp only [Nat.zero_mul, Nat.zero_add, Nat.one_mul] at g00 g01 g02 g03 g10 g11 g12 g13
  clear hbo hbl hcc HR3 HM3 HA3
  go_wp2
  rw [← hW]
  clear hW
  refine wp_region_below (by kernel_rfl) (by kernel_rfl) ?_
  repeat (first
    | go_big_quiet_skip
    | (go_big_quiet_want
       first
       | (refine BigFrame.quiet_move _ rfl ?_)
       | (refine BigFrame.quiet_assign _ rfl ?_)
       | (unfold Oper.quiet
          apply Exists.intro
          refine ⟨fun w' hw' => ?_, ?_⟩
          · (obtain ⟨hc', hf'⟩ := bcell hw'
             go_simp
             first
             | done
             | exact rfl
             | (go_at_call 17; (with_reducible refine (samee_any _ _ 2 _ _ awE _ (HR4.out.old hw') (HM4.out.old hw') (by decide) rfl).mono ?_); rintro e w'' ⟨rfl, bb⟩; exact ⟨rfl, by first | exact bt hw' bb | simpa using bt hw' bb⟩)
             | (go_at_call 21; (with_reducible refine (HLs.out _).mono ?_); rintro e w'' ⟨rfl, bb⟩; exact ⟨rfl, by first | exact bt hw' bb | simpa using bt hw' bb⟩)))
       go_big_quiet_on
       simp only [Act.put, Act.eval, List.setIfInBounds_toArray, List.set_cons_zero, List.set_cons_succ, Array.getD_eq_getD_getElem?, List.getElem?_toArray, List.getElem?_cons_zero, List.getElem?_cons_succ, Option.getD_some]))
  refine wpQuiet_nil ?_
  intro w' hw'
  have HW5 := Lib.hid (HW4.out.trans (hw'.mono HW4.out.size))
  go_wp2
  go_ret
  exact ⟨rfl, HW5.out⟩
end Go.Proofs.Ytjneigejcaahiaa
