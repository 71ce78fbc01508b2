/-
  Layer 16 (post): the law's Light: some answer. Conditions: the message came in.
-/
import Derived.Test.YtdnhmkfgcpdbkaaA5
import Derived.Test.YtdnhmkfgcpdbkaaRg
import Derived.Lib.MinMax
import Derived.BigRegion
namespace Go.Proofs.Ytdnhmkfgcpdbkaa
open Go.RowKit
set_option linter.unusedVariables false
set_option linter.unusedSimpArgs false

def AnyB (e : Ending) : Prop := ∃ b, e = .returned (.bool b)
set_option maxRecDepth 100000 in
set_option maxHeartbeats 8000000 in
theorem light16 (VL : List Value) (m : Mg) (w : World) (h : MV (LRd w) VL m) :
    Calls Try.prog 8 #[.agg VL.toArray] w fun e w' => AnyB e ∧ Below w.heap.size w w' := by
  obtain ⟨kd, a1, a2, a3, a4, a5, a6, wh, ok, oy, ov, od, og, OW, ol, oh, om, er, rv, rg, RP, ru, MP, EN, SE, v1, v2, v3, v4, v5, e1, e2, r1, r2, r3, r4, r5, s1, s2, s3, s4, s5⟩ := h
  subst e1 e2
  obtain ⟨xa1, n1, xc1, rfl, g1, l1, p1⟩ := r1
  obtain ⟨xa2, n2, xc2, rfl, g2, l2, p2⟩ := r2
  obtain ⟨xa3, n3, xc3, rfl, g3, l3, p3⟩ := r3
  obtain ⟨xa4, n4, xc4, rfl, g4, l4, p4⟩ := r4
  obtain ⟨xa5, n5, xc5, rfl, g5, l5, p5⟩ := r5
  unfold maxLen at l1 l2 l3 l4 l5
  obtain ⟨mb, hmb⟩ : ∃ x, x = w.heap.size := ⟨_, rfl⟩
  obtain ⟨W1, hW1⟩ : ∃ W, W = w.alloc (.cells #[.int .i64 kd, .int .i64 a1, .int .i64 a2, .int .i64 a3, .int .i64 a4, .int .i64 a5, .int .i64 a6, .bool wh, .int .i64 ok, .string oy, .string ov, .string od, .bool og, .slice xa1 n1 xc1, .string ol, .string oh, .int .i64 om, .int .i64 er, .string rv, .bool rg, .slice xa2 n2 xc2, .string ru, .slice xa3 n3 xc3, .slice xa4 n4 xc4, .slice xa5 n5 xc5] 35) := ⟨_, rfl⟩
  have hs1 : W1.heap.size = w.heap.size + 1 := by rw [hW1]; simp
  have hb1 : Below w.heap.size w W1 := by rw [hW1]; exact (Below.refl _ w).alloc (Nat.le_refl _) _
  have hx : W1.heap[mb]? = some (.cells #[.int .i64 kd, .int .i64 a1, .int .i64 a2, .int .i64 a3, .int .i64 a4, .int .i64 a5, .int .i64 a6, .bool wh, .int .i64 ok, .string oy, .string ov, .string od, .bool og, .slice xa1 n1 xc1, .string ol, .string oh, .int .i64 om, .int .i64 er, .string rv, .bool rg, .slice xa2 n2 xc2, .string ru, .slice xa3 n3 xc3, .slice xa4 n4 xc4, .slice xa5 n5 xc5] 35 (0, 0)) := by
    rw [hW1, hmb]; exact heap_alloc_new w _
  have hlx : mb < W1.heap.size := by omega
  have HXC : Hid (∀ W, Below W1.heap.size W1 W → ∀ i v, (#[.int .i64 kd, .int .i64 a1, .int .i64 a2, .int .i64 a3, .int .i64 a4, .int .i64 a5, .int .i64 a6, .bool wh, .int .i64 ok, .string oy, .string ov, .string od, .bool og, .slice xa1 n1 xc1, .string ol, .string oh, .int .i64 om, .int .i64 er, .string rv, .bool rg, .slice xa2 n2 xc2, .string ru, .slice xa3 n3 xc3, .slice xa4 n4 xc4, .slice xa5 n5 xc5] : Array Value)[i]? = some v → W.cell? ⟨mb, i, none⟩ = some v) := Lib.hid fun W hb i v hv => (hb.cell (p := ⟨mb, i, none⟩) hlx).trans (by unfold World.cell?; simp only [hx]; exact hv)
  have HB1 := Lib.hid hb1
  have HMB := Lib.hid hmb
  have HR1 : Hid (OW = [] ∨ ∃ rb ro, xa1 = some ⟨rb, ro, none⟩ ∧ rb < W1.heap.size ∧ RowAt W1 rb ro 3 OW) := Lib.hid (by
    rcases p1 with e | ⟨rb, ro, q3, q4, q5⟩
    · exact .inl e
    · exact .inr ⟨rb, ro, q3, Nat.lt_of_lt_of_le q4 hb1.size, fun i hi j hj => (hb1.cell (p := ⟨rb, _, none⟩) q4).trans (q5 i hi j hj)⟩)
  have HG1 := Lib.hid (And.intro g1 s1)
  have HR2 : Hid (RP = [] ∨ ∃ rb ro, xa2 = some ⟨rb, ro, none⟩ ∧ rb < W1.heap.size ∧ RowAt W1 rb ro 2 RP) := Lib.hid (by
    rcases p2 with e | ⟨rb, ro, q3, q4, q5⟩
    · exact .inl e
    · exact .inr ⟨rb, ro, q3, Nat.lt_of_lt_of_le q4 hb1.size, fun i hi j hj => (hb1.cell (p := ⟨rb, _, none⟩) q4).trans (q5 i hi j hj)⟩)
  have HG2 := Lib.hid (And.intro g2 s2)
  have HR3 : Hid (MP = [] ∨ ∃ rb ro, xa3 = some ⟨rb, ro, none⟩ ∧ rb < W1.heap.size ∧ RowAt W1 rb ro 6 MP) := Lib.hid (by
    rcases p3 with e | ⟨rb, ro, q3, q4, q5⟩
    · exact .inl e
    · exact .inr ⟨rb, ro, q3, Nat.lt_of_lt_of_le q4 hb1.size, fun i hi j hj => (hb1.cell (p := ⟨rb, _, none⟩) q4).trans (q5 i hi j hj)⟩)
  have HG3 := Lib.hid (And.intro g3 s3)
  have HR4 : Hid (EN = [] ∨ ∃ rb ro, xa4 = some ⟨rb, ro, none⟩ ∧ rb < W1.heap.size ∧ RowAt W1 rb ro 4 EN) := Lib.hid (by
    rcases p4 with e | ⟨rb, ro, q3, q4, q5⟩
    · exact .inl e
    · exact .inr ⟨rb, ro, q3, Nat.lt_of_lt_of_le q4 hb1.size, fun i hi j hj => (hb1.cell (p := ⟨rb, _, none⟩) q4).trans (q5 i hi j hj)⟩)
  have HG4 := Lib.hid (And.intro g4 s4)
  have HR5 : Hid (SE = [] ∨ ∃ rb ro, xa5 = some ⟨rb, ro, none⟩ ∧ rb < W1.heap.size ∧ RowAt W1 rb ro 7 SE) := Lib.hid (by
    rcases p5 with e | ⟨rb, ro, q3, q4, q5⟩
    · exact .inl e
    · exact .inr ⟨rb, ro, q3, Nat.lt_of_lt_of_le q4 hb1.size, fun i hi j hj => (hb1.cell (p := ⟨rb, _, none⟩) q4).trans (q5 i hi j hj)⟩)
  have HG5 := Lib.hid (And.intro g5 s5)
  clear hs1 hb1 hx p1 p2 p3 p4 p5 g1 g2 g3 g4 g5 s1 s2 s3 s4 s5
  go_enter Try.func8, Try.ntmps8
  go_upto_region 1 with fail
  rw [← hW1]
  rw [show (Value.pointer (some ⟨w.heap.size, 0, none⟩)) = .pointer (some ⟨mb, 0, none⟩) by rw [hmb]]
  clear hW1 hmb
  have z9 := HXC.out W1 (Below.refl _ _) 9 _ rfl
  have z10 := HXC.out W1 (Below.refl _ _) 10 _ rfl
  have z11 := HXC.out W1 (Below.refl _ _) 11 _ rfl
  have z13 := HXC.out W1 (Below.refl _ _) 13 _ rfl
  have z14 := HXC.out W1 (Below.refl _ _) 14 _ rfl
  have z15 := HXC.out W1 (Below.refl _ _) 15 _ rfl
  have z18 := HXC.out W1 (Below.refl _ _) 18 _ rfl
  have z20 := HXC.out W1 (Below.refl _ _) 20 _ rfl
  have z21 := HXC.out W1 (Below.refl _ _) 21 _ rfl
  have z22 := HXC.out W1 (Below.refl _ _) 22 _ rfl
  have z23 := HXC.out W1 (Below.refl _ _) 23 _ rfl
  have z24 := HXC.out W1 (Below.refl _ _) 24 _ rfl
  by_cases h1 : n1 ≤ 70
  case neg =>
    have h1i : (70 : Int) < (n1 : Int) := by omega
    go_wp2_with fail
    go_ret
    exact ⟨⟨_, rfl⟩, HB1.out⟩
  have h1i : ¬ (70 : Int) < (n1 : Int) := by omega
  by_cases h2 : n2 ≤ 60
  case neg =>
    have h2i : (60 : Int) < (n2 : Int) := by omega
    go_wp2_with fail
    go_ret
    exact ⟨⟨_, rfl⟩, HB1.out⟩
  have h2i : ¬ (60 : Int) < (n2 : Int) := by omega
  by_cases h3 : n3 ≤ 70
  case neg =>
    have h3i : (70 : Int) < (n3 : Int) := by omega
    go_wp2_with fail
    go_ret
    exact ⟨⟨_, rfl⟩, HB1.out⟩
  have h3i : ¬ (70 : Int) < (n3 : Int) := by omega
  by_cases h4 : n4 ≤ 60
  case neg =>
    have h4i : (60 : Int) < (n4 : Int) := by omega
    go_wp2_with fail
    go_ret
    exact ⟨⟨_, rfl⟩, HB1.out⟩
  have h4i : ¬ (60 : Int) < (n4 : Int) := by omega
  by_cases h5 : n5 ≤ 20
  case neg =>
    have h5i : (20 : Int) < (n5 : Int) := by omega
    go_wp2_with fail
    go_ret
    exact ⟨⟨_, rfl⟩, HB1.out⟩
  have h5i : ¬ (20 : Int) < (n5 : Int) := by omega
  go_wp2_with fail
  clear z9 z10 z11 z13 z14 z15 z18 z20 z21 z22 z23 z24
  go_loopw [3, 4] (fun x i wr => ∃ (y : Int) (k : Nat), x = .int .i64 y ∧ i = .int .i64 k ∧ k ≤ n1 ∧ Hid (Below W1.heap.size W1 wr)) (fun _ i _ => n1 - (intOf i).toNat)
  case atStart => exact ⟨_, 0, rfl, by first | rfl | go_num, by omega, Lib.hid (Below.refl _ _)⟩
  case round =>
  obtain ⟨y, k, rfl, rfl, hk, HW⟩ := hrel
  have hmw : mb < wr.heap.size := Nat.lt_of_lt_of_le hlx HW.out.size
  have m1 := HXC.out wr HW.out 13 _ rfl
  by_cases hlt : k < n1
  case pos =>
     have hki : (k : Int) < (n1 : Int) := by omega
     have hkl : k < OW.length := by rw [HG1.out.1]; exact hlt
     obtain ⟨x, hx⟩ : ∃ x, x = OW[k] := ⟨_, rfl⟩
     have hsx := HG1.out.2 x (by rw [hx]; exact List.getElem_mem hkl)
     rcases HR1.out with e0 | ⟨b1, o1, q1, t1, u1⟩
     · rw [e0] at hkl; simp at hkl
     subst q1
     have hf : FAt wr b1 (o1 + k * 3) x := fun i hi => (HW.out.cell (p := ⟨b1, _, none⟩) t1).trans (by subst hx; exact u1 k hkl i hi)
     have hl1 : b1 < wr.heap.size := Nat.lt_of_lt_of_le t1 HW.out.size
     clear u1 hx t1 hkl
     obtain ⟨ky, va, g, rfl⟩ := hsx
     have c0 := hf 0 (by simp)
     have c1 := hf 1 (by simp)
     have c2 := hf 2 (by simp)
     simp only [List.getElem_cons_zero, List.getElem_cons_succ, Fld.cell, Nat.add_zero] at c0 c1 c2
     clear hf
     go_upto_region 7 with fail
     refine wp_region_below (by kernel_rfl) (by kernel_rfl) ?_
     repeat (first
       | go_big_quiet_skip
       | (go_big_quiet_want
          first
          | (refine BigFrame.quiet_move _ rfl ?_)
          | (refine BigFrame.quiet_assign _ rfl ?_)
          | (unfold Oper.quiet
             apply Exists.intro
             refine ⟨fun w' hw' => ?_, ?_⟩
             · (obtain ⟨hc', hf'⟩ := bcell hw'
                go_simp
                first
                | done
                | exact rfl))
          go_big_quiet_on
          simp only [Act.put, Act.eval, List.setIfInBounds_toArray, List.set_cons_zero, List.set_cons_succ, Array.getD_eq_getD_getElem?, List.getElem?_toArray, List.getElem?_cons_zero, List.getElem?_cons_succ, Option.getD_some]))
     refine wpQuiet_nil ?_
     intro w' hw'
     have HWD := Lib.hid (HW.out.trans (hw'.mono HW.out.size))
     go_wp2_with fail
     go_roundw
     case rel => exact ⟨_, k + 1, rfl, by go_num, by omega, HWD⟩
     case measure => simp [intOf]; omega
  case neg =>
  obtain rfl : k = n1 := by omega
  have hki : ¬ (k : Int) < (k : Int) := by omega
  have HV1 := HW
  clear hlt hk HW
  go_wp2_with fail
  clear hmw m1
  go_loopw [3, 5] (fun x i wr => ∃ (y : Int) (k : Nat), x = .int .i64 y ∧ i = .int .i64 k ∧ k ≤ n2 ∧ Hid (Below W1.heap.size W1 wr)) (fun _ i _ => n2 - (intOf i).toNat)
  case atStart => exact ⟨_, 0, rfl, by first | rfl | go_num, by omega, HV1⟩
  case round =>
  obtain ⟨y, k, rfl, rfl, hk, HW⟩ := hrel
  have hmw : mb < wr.heap.size := Nat.lt_of_lt_of_le hlx HW.out.size
  have m1 := HXC.out wr HW.out 20 _ rfl
  by_cases hlt : k < n2
  case pos =>
     have hki : (k : Int) < (n2 : Int) := by omega
     have hkl : k < RP.length := by rw [HG2.out.1]; exact hlt
     obtain ⟨x, hx⟩ : ∃ x, x = RP[k] := ⟨_, rfl⟩
     have hsx := HG2.out.2 x (by rw [hx]; exact List.getElem_mem hkl)
     rcases HR2.out with e0 | ⟨b1, o1, q1, t1, u1⟩
     · rw [e0] at hkl; simp at hkl
     subst q1
     have hf : FAt wr b1 (o1 + k * 2) x := fun i hi => (HW.out.cell (p := ⟨b1, _, none⟩) t1).trans (by subst hx; exact u1 k hkl i hi)
     have hl1 : b1 < wr.heap.size := Nat.lt_of_lt_of_le t1 HW.out.size
     clear u1 hx t1 hkl
     obtain ⟨ky, va, rfl⟩ := hsx
     have c0 := hf 0 (by simp)
     have c1 := hf 1 (by simp)
     simp only [List.getElem_cons_zero, List.getElem_cons_succ, Fld.cell, Nat.add_zero] at c0 c1
     clear hf
     go_upto_region 11 with fail
     refine wp_region_below (by kernel_rfl) (by kernel_rfl) ?_
     repeat (first
       | go_big_quiet_skip
       | (go_big_quiet_want
          first
          | (refine BigFrame.quiet_move _ rfl ?_)
          | (refine BigFrame.quiet_assign _ rfl ?_)
          | (unfold Oper.quiet
             apply Exists.intro
             refine ⟨fun w' hw' => ?_, ?_⟩
             · (obtain ⟨hc', hf'⟩ := bcell hw'
                go_simp
                first
                | done
                | exact rfl))
          go_big_quiet_on
          simp only [Act.put, Act.eval, List.setIfInBounds_toArray, List.set_cons_zero, List.set_cons_succ, Array.getD_eq_getD_getElem?, List.getElem?_toArray, List.getElem?_cons_zero, List.getElem?_cons_succ, Option.getD_some]))
     refine wpQuiet_nil ?_
     intro w' hw'
     have HWD := Lib.hid (HW.out.trans (hw'.mono HW.out.size))
     go_wp2_with fail
     go_roundw
     case rel => exact ⟨_, k + 1, rfl, by go_num, by omega, HWD⟩
     case measure => simp [intOf]; omega
  case neg =>
  obtain rfl : k = n2 := by omega
  have hki : ¬ (k : Int) < (k : Int) := by omega
  have HV2 := HW
  clear hlt hk HW
  go_wp2_with fail
  clear hmw m1
  go_loopw [3, 6] (fun x i wr => ∃ (y : Int) (k : Nat), x = .int .i64 y ∧ i = .int .i64 k ∧ k ≤ n3 ∧ Hid (Below W1.heap.size W1 wr)) (fun _ i _ => n3 - (intOf i).toNat)
  case atStart => exact ⟨_, 0, rfl, by first | rfl | go_num, by omega, HV2⟩
  case round =>
  obtain ⟨y, k, rfl, rfl, hk, HW⟩ := hrel
  have hmw : mb < wr.heap.size := Nat.lt_of_lt_of_le hlx HW.out.size
  have m1 := HXC.out wr HW.out 22 _ rfl
  by_cases hlt : k < n3
  case pos =>
     have hki : (k : Int) < (n3 : Int) := by omega
     have hkl : k < MP.length := by rw [HG3.out.1]; exact hlt
     obtain ⟨x, hx⟩ : ∃ x, x = MP[k] := ⟨_, rfl⟩
     have hsx := HG3.out.2 x (by rw [hx]; exact List.getElem_mem hkl)
     rcases HR3.out with e0 | ⟨b1, o1, q1, t1, u1⟩
     · rw [e0] at hkl; simp at hkl
     subst q1
     have hf : FAt wr b1 (o1 + k * 6) x := fun i hi => (HW.out.cell (p := ⟨b1, _, none⟩) t1).trans (by subst hx; exact u1 k hkl i hi)
     have hl1 : b1 < wr.heap.size := Nat.lt_of_lt_of_le t1 HW.out.size
     clear u1 hx t1 hkl
     obtain ⟨id, lo, hi, ep, nd, st, rfl⟩ := hsx
     have c0 := hf 0 (by simp)
     have c1 := hf 1 (by simp)
     have c2 := hf 2 (by simp)
     have c3 := hf 3 (by simp)
     have c4 := hf 4 (by simp)
     have c5 := hf 5 (by simp)
     simp only [List.getElem_cons_zero, List.getElem_cons_succ, Fld.cell, Nat.add_zero] at c0 c1 c2 c3 c4 c5
     clear hf
     go_upto_region 15 with fail
     refine wp_region_below (by kernel_rfl) (by kernel_rfl) ?_
     repeat (first
       | go_big_quiet_skip
       | (go_big_quiet_want
          first
          | (refine BigFrame.quiet_move _ rfl ?_)
          | (refine BigFrame.quiet_assign _ rfl ?_)
          | (unfold Oper.quiet
             apply Exists.intro
             refine ⟨fun w' hw' => ?_, ?_⟩
             · (obtain ⟨hc', hf'⟩ := bcell hw'
                go_simp
                first
                | done
                | exact rfl))
          go_big_quiet_on
          simp only [Act.put, Act.eval, List.setIfInBounds_toArray, List.set_cons_zero, List.set_cons_succ, Array.getD_eq_getD_getElem?, List.getElem?_toArray, List.getElem?_cons_zero, List.getElem?_cons_succ, Option.getD_some]))
     refine wpQuiet_nil ?_
     intro w' hw'
     have HWD := Lib.hid (HW.out.trans (hw'.mono HW.out.size))
     go_wp2_with fail
     go_roundw
     case rel => exact ⟨_, k + 1, rfl, by go_num, by omega, HWD⟩
     case measure => simp [intOf]; omega
  case neg =>
  obtain rfl : k = n3 := by omega
  have hki : ¬ (k : Int) < (k : Int) := by omega
  have HV3 := HW
  clear hlt hk HW
  go_wp2_with fail
  clear hmw m1
  go_loopw [3, 7] (fun x i wr => ∃ (y : Int) (k : Nat), x = .int .i64 y ∧ i = .int .i64 k ∧ k ≤ n4 ∧ Hid (Below W1.heap.size W1 wr)) (fun _ i _ => n4 - (intOf i).toNat)
  case atStart => exact ⟨_, 0, rfl, by first | rfl | go_num, by omega, HV3⟩
  case round =>
  obtain ⟨y, k, rfl, rfl, hk, HW⟩ := hrel
  have hmw : mb < wr.heap.size := Nat.lt_of_lt_of_le hlx HW.out.size
  have m1 := HXC.out wr HW.out 23 _ rfl
  by_cases hlt : k < n4
  case pos =>
     have hki : (k : Int) < (n4 : Int) := by omega
     have hkl : k < EN.length := by rw [HG4.out.1]; exact hlt
     obtain ⟨x, hx⟩ : ∃ x, x = EN[k] := ⟨_, rfl⟩
     have hsx := HG4.out.2 x (by rw [hx]; exact List.getElem_mem hkl)
     rcases HR4.out with e0 | ⟨b1, o1, q1, t1, u1⟩
     · rw [e0] at hkl; simp at hkl
     subst q1
     have hf : FAt wr b1 (o1 + k * 4) x := fun i hi => (HW.out.cell (p := ⟨b1, _, none⟩) t1).trans (by subst hx; exact u1 k hkl i hi)
     have hl1 : b1 < wr.heap.size := Nat.lt_of_lt_of_le t1 HW.out.size
     clear u1 hx t1 hkl
     obtain ⟨ky, va, g, sq, rfl⟩ := hsx
     have c0 := hf 0 (by simp)
     have c1 := hf 1 (by simp)
     have c2 := hf 2 (by simp)
     have c3 := hf 3 (by simp)
     simp only [List.getElem_cons_zero, List.getElem_cons_succ, Fld.cell, Nat.add_zero] at c0 c1 c2 c3
     clear hf
     go_upto_region 19 with fail
     refine wp_region_below (by kernel_rfl) (by kernel_rfl) ?_
     repeat (first
       | go_big_quiet_skip
       | (go_big_quiet_want
          first
          | (refine BigFrame.quiet_move _ rfl ?_)
          | (refine BigFrame.quiet_assign _ rfl ?_)
          | (unfold Oper.quiet
             apply Exists.intro
             refine ⟨fun w' hw' => ?_, ?_⟩
             · (obtain ⟨hc', hf'⟩ := bcell hw'
                go_simp
                first
                | done
                | exact rfl))
          go_big_quiet_on
          simp only [Act.put, Act.eval, List.setIfInBounds_toArray, List.set_cons_zero, List.set_cons_succ, Array.getD_eq_getD_getElem?, List.getElem?_toArray, List.getElem?_cons_zero, List.getElem?_cons_succ, Option.getD_some]))
     refine wpQuiet_nil ?_
     intro w' hw'
     have HWD := Lib.hid (HW.out.trans (hw'.mono HW.out.size))
     go_wp2_with fail
     go_roundw
     case rel => exact ⟨_, k + 1, rfl, by go_num, by omega, HWD⟩
     case measure => simp [intOf]; omega
  case neg =>
  obtain rfl : k = n4 := by omega
  have hki : ¬ (k : Int) < (k : Int) := by omega
  have HV4 := HW
  clear hlt hk HW
  go_wp2_with fail
  clear hmw m1
  go_loopw [3, 8] (fun x i wr => ∃ (y : Int) (k : Nat), x = .int .i64 y ∧ i = .int .i64 k ∧ k ≤ n5 ∧ Hid (Below W1.heap.size W1 wr)) (fun _ i _ => n5 - (intOf i).toNat)
  case atStart => exact ⟨_, 0, rfl, by first | rfl | go_num, by omega, HV4⟩
  case round =>
  obtain ⟨y, k, rfl, rfl, hk, HW⟩ := hrel
  have hmw : mb < wr.heap.size := Nat.lt_of_lt_of_le hlx HW.out.size
  have m1 := HXC.out wr HW.out 24 _ rfl
  by_cases hlt : k < n5
  case pos =>
     have hki : (k : Int) < (n5 : Int) := by omega
     have hkl : k < SE.length := by rw [HG5.out.1]; exact hlt
     obtain ⟨x, hx⟩ : ∃ x, x = SE[k] := ⟨_, rfl⟩
     have hsx := HG5.out.2 x (by rw [hx]; exact List.getElem_mem hkl)
     rcases HR5.out with e0 | ⟨b1, o1, q1, t1, u1⟩
     · rw [e0] at hkl; simp at hkl
     subst q1
     have hf : FAt wr b1 (o1 + k * 7) x := fun i hi => (HW.out.cell (p := ⟨b1, _, none⟩) t1).trans (by subst hx; exact u1 k hkl i hi)
     have hl1 : b1 < wr.heap.size := Nat.lt_of_lt_of_le t1 HW.out.size
     clear u1 hx t1 hkl
     obtain ⟨cc, sq, er, va, g, pa, pn, pc, pu, rfl⟩ := hsx
     have c0 := hf 0 (by simp)
     have c1 := hf 1 (by simp)
     have c2 := hf 2 (by simp)
     have c3 := hf 3 (by simp)
     have c4 := hf 4 (by simp)
     have c5 := hf 5 (by simp)
     have c6 := hf 6 (by simp)
     simp only [List.getElem_cons_zero, List.getElem_cons_succ, Fld.cell, Nat.add_zero] at c0 c1 c2 c3 c4 c5 c6
     clear hf
     go_upto_region 23 with fail
     refine wp_region_below (by kernel_rfl) (by kernel_rfl) ?_
     repeat (first
       | go_big_quiet_skip
       | (go_big_quiet_want
          first
          | (refine BigFrame.quiet_move _ rfl ?_)
          | (refine BigFrame.quiet_assign _ rfl ?_)
          | (unfold Oper.quiet
             apply Exists.intro
             refine ⟨fun w' hw' => ?_, ?_⟩
             · (obtain ⟨hc', hf'⟩ := bcell hw'
                go_simp
                first
                | done
                | exact rfl))
          go_big_quiet_on
          simp only [Act.put, Act.eval, List.setIfInBounds_toArray, List.set_cons_zero, List.set_cons_succ, Array.getD_eq_getD_getElem?, List.getElem?_toArray, List.getElem?_cons_zero, List.getElem?_cons_succ, Option.getD_some]))
     refine wpQuiet_nil ?_
     intro w' hw'
     have HWD := Lib.hid (HW.out.trans (hw'.mono HW.out.size))
     go_wp2_with fail
     go_roundw
     case rel => exact ⟨_, k + 1, rfl, by go_num, by omega, HWD⟩
     case measure => simp [intOf]; omega
  case neg =>
  obtain rfl : k = n5 := by omega
  have hki : ¬ (k : Int) < (k : Int) := by omega
  have HV5 := HW
  clear hlt hk HW
  go_wp2_with fail
  clear hmw m1
  go_ret
  exact ⟨⟨_, rfl⟩, HB1.out.trans (HV5.out.mono HB1.out.size)⟩
end Go.Proofs.Ytdnhmkfgcpdbkaa
