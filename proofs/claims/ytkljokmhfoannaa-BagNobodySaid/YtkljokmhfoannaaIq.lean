/-
  Layer 15 (bag): every call of a bag that nobody made; the walk of BagNobody. Conditions: none.
-/
import Derived.Test.YtkljokmhfoannaaIo
namespace Go.Proofs.Ytkljokmhfoannaa
open Go.RowKit Go.Maps
set_option linter.unusedVariables false
set_option linter.unusedSimpArgs false

set_option maxRecDepth 100000 in
set_option maxHeartbeats 2000000 in
theorem put15_no {w : World} {p : Option Addr} (h : NoBag w p) (l : Lt) : Calls Try.prog 14 #[.pointer p, lv l] w fun e w' => e = .returned (.int .i64 1) ∧ Below w.heap.size w w' := by
  have hb1 := bal (Below.refl _ w) (.cells #[.int .i64 l.fr, .int .i64 l.to, .string l.tx] 39)
  have hb2 := bal hb1 (.cells #[.int .i64 l.fr, .int .i64 l.to] 3)
  have HH := Lib.hid (fun v => has15_no (h.below hb2) v)
  have HB := Lib.hid hb2
  clear h hb1 hb2
  unfold lv
  go_enter Try.func14, Try.ntmps14
  go_wp2_with (go_at_call 35; refine (HH.out _).mono ?_; rintro e w' ⟨rfl, rfl⟩)
  go_ret
  exact ⟨rfl, HB.out⟩
set_option maxRecDepth 100000 in
set_option maxHeartbeats 2000000 in
theorem clear15_no {w : World} {p : Option Addr} (h : NoBag w p) (k : Int) : Calls Try.prog 20 #[.pointer p, .int .i64 k] w fun e w' => e = .returned (.int .i64 1) ∧ Below w.heap.size w w' := by
  have hb2 := bal (Below.refl _ w) (.cells #[.int .i64 k] 3)
  have HH := Lib.hid (fun v => has15_no (h.below hb2) v)
  have HB := Lib.hid hb2
  clear h hb2
  go_enter Try.func20, Try.ntmps20
  go_wp2_with (go_at_call 35; refine (HH.out _).mono ?_; rintro e w' ⟨rfl, rfl⟩)
  go_ret
  exact ⟨rfl, HB.out⟩
set_option maxRecDepth 100000 in
set_option maxHeartbeats 2000000 in
theorem twice15_no {w : World} {p : Option Addr} (h : NoBag w p) (k j : Int) : Calls Try.prog 18 #[.pointer p, .int .i64 k, .int .i64 j] w fun e w' => e = .returned (.int .i64 1) ∧ Below w.heap.size w w' := by
  have HF := Lib.hid (find15_no h k j)
  clear h
  go_enter Try.func18, Try.ntmps18
  go_wp2_with (go_at_call 39; refine HF.out.mono ?_; rintro e w1 ⟨rfl, hb1⟩; unfold lv)
  go_ret
  exact ⟨rfl, bal hb1 _⟩
set_option maxRecDepth 100000 in
set_option maxHeartbeats 2000000 in
theorem take15_no {w : World} {p : Option Addr} (h : NoBag w p) (k j : Int) : Calls Try.prog 16 #[.pointer p, .int .i64 k, .int .i64 j] w fun e w' => e = .returned (.tuple #[lv zL, .int .i64 1]) ∧ Below w.heap.size w w' := by
  have hlb := LBox.new w zL
  have hb1 := bal (Below.refl _ w) (.cells #[.int .i64 zL.fr, .int .i64 zL.to, .string zL.tx] 39)
  obtain ⟨o1, ho1⟩ : ∃ o, o = Obj.cells #[.int .i64 zL.fr, .int .i64 zL.to, .string zL.tx] 39 := ⟨_, rfl⟩
  rw [← ho1] at hlb hb1
  have HO1 : Hid (o1 = Obj.cells #[.int .i64 0, .int .i64 0, .string ⟨#[]⟩] 39) := Lib.hid ho1
  clear ho1
  go_enter Try.func16, Try.ntmps16
  go_upto_region 1 with fail
  rw [← HO1.out]
  obtain ⟨xb, hxb⟩ : ∃ xb, xb = w.heap.size := ⟨_, rfl⟩
  rw [← hxb] at hlb ⊢
  have HGT : Hid (w.heap.size ≤ xb) := Lib.hid (by rw [hxb]; exact Nat.le_refl _)
  obtain ⟨w1, hw1⟩ : ∃ w1, w1 = w.alloc o1 := ⟨_, rfl⟩
  rw [← hw1] at hlb hb1 ⊢
  have HF := Lib.hid (find15_no (h.below hb1) k j)
  have HB1 := Lib.hid hb1
  have HBX1 := Lib.hid hlb
  clear hw1 hxb hlb hb1 h
  go_upto_region 2 with (go_at_call 39; refine HF.out.mono ?_; rintro e w2 ⟨rfl, hb2⟩; unfold lv)
  have hb3 := bal hb2 (.cells #[.int .i64 zL.fr, .int .i64 zL.to, .string zL.tx] 39)
  have hly := LBox.new w2 zL
  have hbb := bal hb2 (.cells #[.int .i64 zL.fr, .int .i64 zL.to, .string zL.tx] 39)
  obtain ⟨yb, hyb⟩ : ∃ yb, yb = w2.heap.size := ⟨_, rfl⟩
  obtain ⟨W2, hW2⟩ : ∃ W2, W2 = w2.alloc (.cells #[.int .i64 zL.fr, .int .i64 zL.to, .string zL.tx] 39) := ⟨_, rfl⟩
  rw [← hW2] at hb3 hly ⊢
  rw [← hyb] at hly ⊢
  have hlx := HBX1.out.below hb3
  have HX := Lib.hid hlx
  have HBB := Lib.hid (HB1.out.trans (hb3.mono HB1.out.size))
  obtain ⟨y0, y1, y2, yl, -, -, -⟩ := hly
  obtain ⟨x0, x1, x2, xl, f0, f1, f2⟩ := hlx
  clear hW2 hyb hbb hb3 hb2
  go_wp2_with fail
  refine bodyPost_ret (v := .tuple #[lv zL, .int .i64 1]) ?_ rfl ⟨rfl, set3_below HBB.out HGT.out _ _ _⟩
  exact take_res _ _ xb _ _ (HX.out.store zL).rng rfl rfl
set_option maxRecDepth 100000 in
set_option maxHeartbeats 4000000 in
theorem walk_BagNobody (a : Int) (wf : (Lit.int .i64 a).wf = true) (l : Lt) (w : World) : Calls Try.prog 6 #[.int .i64 a, lv l] w fun e w' => e = .returned (.bool true) ∧ Below w.heap.size w w' := by
  have hlb := LBox.new w l
  have hb1 := bal (Below.refl _ w) (.cells #[.int .i64 l.fr, .int .i64 l.to, .string l.tx] 39)
  obtain ⟨o1, ho1⟩ : ∃ o, o = Obj.cells #[.int .i64 l.fr, .int .i64 l.to, .string l.tx] 39 := ⟨_, rfl⟩
  rw [← ho1] at hlb hb1
  have HO1 := Lib.hid ho1
  clear ho1 wf
  unfold lv
  go_enter Try.func6, Try.ntmps6
  go_upto_region 1 with fail
  rw [← HO1.out]
  obtain ⟨lb, hlbb⟩ : ∃ lb, lb = w.heap.size := ⟨_, rfl⟩
  rw [← hlbb] at hlb ⊢
  obtain ⟨w1, hw1⟩ : ∃ w1, w1 = w.alloc o1 := ⟨_, rfl⟩
  rw [← hw1] at hlb hb1 ⊢
  clear hw1 hlbb
  go_upto_region 3 with fail
  obtain ⟨bb, hbb⟩ : ∃ bb, bb = w1.heap.size := ⟨_, rfl⟩
  obtain ⟨rb, hrb⟩ : ∃ rb, rb = w1.heap.size + 1 := ⟨_, rfl⟩
  have hbA := bal (Below.refl _ w1) (.cells #[.pointer none, .map none] 60)
  have hA2 : (w1.alloc (.cells #[.pointer none, .map none] 60)).cell? ⟨w1.heap.size, 0, none⟩ = some (.pointer none) := by simp
  have hAs : (w1.alloc (.cells #[.pointer none, .map none] 60)).heap.size = w1.heap.size + 1 := by simp
  obtain ⟨A, hA⟩ : ∃ A, A = w1.alloc (.cells #[.pointer none, .map none] 60) := ⟨_, rfl⟩
  rw [← hA] at hbA hA2 hAs ⊢
  have hc0 : (A.alloc (.cells #[.pointer none, .pointer (some ⟨w1.heap.size, 0, none⟩)] 24)).cell? ⟨A.heap.size, 0, none⟩ = some (.pointer none) := by simp
  have hc1 : (A.alloc (.cells #[.pointer none, .pointer (some ⟨w1.heap.size, 0, none⟩)] 24)).cell? ⟨A.heap.size, 1, none⟩ = some (.pointer (some ⟨w1.heap.size, 0, none⟩)) := by simp
  have hbB := bal (Below.refl _ A) (.cells #[.pointer none, .pointer (some ⟨w1.heap.size, 0, none⟩)] 24)
  have hc2 : (A.alloc (.cells #[.pointer none, .pointer (some ⟨w1.heap.size, 0, none⟩)] 24)).cell? ⟨w1.heap.size, 0, none⟩ = some (.pointer none) := (hbB.cell (p := ⟨w1.heap.size, 0, none⟩) (show w1.heap.size < A.heap.size by omega)).trans hA2
  have hbw : Below w1.heap.size w1 (A.alloc (.cells #[.pointer none, .pointer (some ⟨w1.heap.size, 0, none⟩)] 24)) := hbA.trans (hbB.mono (by omega))
  have hsz : (A.alloc (.cells #[.pointer none, .pointer (some ⟨w1.heap.size, 0, none⟩)] 24)).heap.size = w1.heap.size + 2 := by simp; omega
  rw [hAs] at hc0 hc1
  obtain ⟨W, hW⟩ : ∃ W, W = A.alloc (.cells #[.pointer none, .pointer (some ⟨w1.heap.size, 0, none⟩)] 24) := ⟨_, rfl⟩
  rw [← hW] at hc0 hc1 hc2 hbw hsz ⊢
  rw [← hrb] at hc0 hc1 ⊢
  rw [← hbb] at hc1 hc2
  have HL := Lib.hid (hlb.below hbw)
  have HB := Lib.hid (hb1.trans (hbw.mono hb1.size))
  have HR : Hid (∀ k : Nat, k < 2 → ∃ P, W.cell? ⟨rb, k, none⟩ = some (.pointer P) ∧ NoBag W P) := Lib.hid fun k hk => by
    match k, hk with
    | 0, _ => exact ⟨none, hc0, .inl rfl⟩
    | 1, _ => exact ⟨_, hc1, .inr ⟨bb, rfl, by omega, hc2⟩⟩
  have HRL := Lib.hid (show rb < W.heap.size by omega)
  clear hW hc0 hc1 hc2 hbw hsz hrb hbb hb1 hlb hbA hA2 hAs hbB
  clear hA
  go_loopw [6] (fun i wr => ∃ k : Nat, i = .int .i64 k ∧ k ≤ 2 ∧ Hid (Below W.heap.size W wr)) (fun i _ => 2 - (intOf i).toNat)
  case atStart => exact ⟨0, rfl, by omega, Lib.hid (Below.refl _ _)⟩
  case round =>
    obtain ⟨k, rfl, hk, HW⟩ := hrel
    by_cases hlt : k < 2
    · have hki : (k : Int) < 2 := by omega
      obtain ⟨P, hP, hN⟩ := HR.out k hlt
      have hPr := (HW.out.cell (p := ⟨rb, k, none⟩) HRL.out).trans hP
      have hrl : rb < wr.heap.size := Nat.lt_of_lt_of_le HRL.out HW.out.size
      have HT := Lib.hid (take15_no (hN.below HW.out) a a)
      have HNN := Lib.hid (hN.below HW.out)
      have HRR := Lib.hid (And.intro hPr hrl)
      clear hP hN
      go_upto_region 6 with (go_at_call 16; refine HT.out.mono ?_; rintro e w2 ⟨rfl, hb2⟩; unfold lv)
      have hb3 := bal hb2 (.cells #[.int .i64 zL.fr, .int .i64 zL.to, .string zL.tx] 39)
      have hly := LBox.new w2 zL
      obtain ⟨yb, hyb⟩ : ∃ yb, yb = w2.heap.size := ⟨_, rfl⟩
      obtain ⟨W2, hW2⟩ : ∃ W2, W2 = w2.alloc (.cells #[.int .i64 zL.fr, .int .i64 zL.to, .string zL.tx] 39) := ⟨_, rfl⟩
      rw [← hW2] at hb3 hly ⊢
      rw [← hyb] at hly ⊢
      have HB3 := Lib.hid (HW.out.trans (hb3.mono HW.out.size))
      have hN2 := HNN.out.below hb3
      obtain ⟨l0, l1, l2, ll, -, -, -⟩ := HL.out.below HB3.out
      have y0 : W2.cell? ⟨yb, 0, none⟩ = some (.int .i64 0) := hly.c0
      have y1 : W2.cell? ⟨yb, 1, none⟩ = some (.int .i64 0) := hly.c1
      have y2 : W2.cell? ⟨yb, 2, none⟩ = some (.string ⟨#[]⟩) := hly.c2
      have yl := hly.lt
      have r0 := (hb3.cell (p := ⟨rb, k, none⟩) HRR.out.2).trans HRR.out.1
      have rl : rb < W2.heap.size := Nat.lt_of_lt_of_le HRR.out.2 hb3.size
      have HPT := Lib.hid (fun (w' : World) (hb : Below W2.heap.size W2 w') => put15_no (hN2.below hb) l)
      have HTW := Lib.hid (fun (w' : World) (hb : Below W2.heap.size W2 w') => twice15_no (hN2.below hb) a a)
      have HCL := Lib.hid (fun (w' : World) (hb : Below W2.heap.size W2 w') => clear15_no (hN2.below hb) a)
      have HWT := Lib.hid (fun (w' : World) (hb : Below W2.heap.size W2 w') => waits15_no (hN2.below hb) a)
      have HPL := Lib.hid (fun (w' : World) (hb : Below W2.heap.size W2 w') => (places15_no (hN2.below hb)).mono fun e w'' (hq : e = .returned (.slice none 0 0) ∧ w' = w'') => show e = .returned (.slice none 0 0) ∧ Below w'.heap.size w' w'' from ⟨hq.1, hq.2 ▸ Below.refl _ _⟩)
      unfold lv at HPT
      clear hN2 hb3 hly hW2 hyb hb2 hPr hrl HT
      refine wp_region_below (by kernel_rfl) (by kernel_rfl) ?_
      repeat (first
        | go_big_quiet_skip
        | (go_big_quiet_want
           first
           | (refine BigFrame.quiet_move _ rfl ?_)
           | (refine BigFrame.quiet_assign _ rfl ?_)
           | (unfold Oper.quiet
              apply Exists.intro
              refine ⟨fun w' hw' => ?_, ?_⟩
              · (obtain ⟨hc', hf'⟩ := bcell hw'
                 go_simp
                 first
                 | done
                 | exact rfl
                 | (go_at_call 14; (with_reducible refine (HPT.out _ hw').mono ?_); rintro e w'' ⟨rfl, bb⟩; exact ⟨rfl, by first | exact bt hw' bb | simpa using bt hw' bb⟩)
                 | (go_at_call 18; (with_reducible refine (HTW.out _ hw').mono ?_); rintro e w'' ⟨rfl, bb⟩; exact ⟨rfl, by first | exact bt hw' bb | simpa using bt hw' bb⟩)
                 | (go_at_call 20; (with_reducible refine (HCL.out _ hw').mono ?_); rintro e w'' ⟨rfl, bb⟩; exact ⟨rfl, by first | exact bt hw' bb | simpa using bt hw' bb⟩)
                 | (go_at_call 22; (with_reducible refine (HWT.out _ hw').mono ?_); rintro e w'' ⟨rfl, bb⟩; exact ⟨rfl, by first | exact bt hw' bb | simpa using bt hw' bb⟩)
                 | (go_at_call 12; (with_reducible refine (HPL.out _ hw').mono ?_); rintro e w'' ⟨rfl, bb⟩; exact ⟨rfl, by first | exact bt hw' bb | simpa using bt hw' bb⟩)))
           go_big_quiet_on
           simp only [Act.put, Act.eval, List.setIfInBounds_toArray, List.set_cons_zero, List.set_cons_succ, Array.getD_eq_getD_getElem?, List.getElem?_toArray, List.getElem?_cons_zero, List.getElem?_cons_succ, Option.getD_some]))
      refine wpQuiet_nil ?_
      intro w' hw'
      have HW' := Lib.hid (HB3.out.trans (hw'.mono HB3.out.size))
      go_wp2_with fail
      go_roundw
      case rel => exact ⟨k + 1, by go_num, by omega, HW'⟩
      case measure => simp [intOf]; omega
    · obtain rfl : k = 2 := by omega
      go_wp2_with fail
      refine (awake15_any _).mono ?_
      rintro e w8 ⟨rfl, b8⟩
      have B8 := Lib.hid (HB.out.trans ((HW.out.trans (b8.mono HW.out.size)).mono HB.out.size))
      clear b8
      go_wp2_with fail
      go_ret
      exact ⟨rfl, B8.out⟩
end Go.Proofs.Ytkljokmhfoannaa
