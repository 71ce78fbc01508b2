/-
  Layer 15 (bag): the law's awake. Conditions: none.
-/
import Derived.Test.YtkljokmhfoannaaIn
import Derived.Laws.StructEq
namespace Go.Proofs.Ytkljokmhfoannaa
open Go.RowKit Go.Maps
set_option linter.unusedVariables false
set_option linter.unusedSimpArgs false

def la : Lt := ⟨-1, 0, ⟨#[97]⟩⟩
def lb : Lt := ⟨100, 0, ⟨#[98]⟩⟩
def qa : Wq := putQ 2 1 (fun _ => []) la
def qb : Wq := putQ 2 1 qa lb
def qc : Wq := takeQ 2 1 qb 0 1
def qd : Wq := takeQ 2 1 qc 0 0
theorem aw1 : putE 2 1 (fun _ => []) la = 0 := by decide
theorem aw2 : putE 2 1 qa lb = 0 := by decide
theorem aw3 : (qb 0).length = 2 := by decide
theorem aw4 : fndE 2 1 qb 0 1 = 0 := by decide
theorem aw5 : fndL 2 1 qb 0 1 = lb := rfl
theorem aw6 : fndE 2 1 qc 0 0 = 0 := by decide
theorem aw7 : fndL 2 1 qc 0 0 = la := rfl
theorem aw8 : (qd 0).length = 0 := by decide
theorem aw9 : plist 2 1 = [-1, 0, 1, 100] := by decide
set_option maxRecDepth 100000 in
set_option maxHeartbeats 4000000 in
theorem awake15_any (w : World) : Calls Try.prog 10 #[] w fun e w' => e = .returned (.bool true) ∧ Below w.heap.size w w' := by
  go_enter Try.func10, Try.ntmps10
  go_wp2_with fail
  refine (new15_yes w 2 1 (by decide) (by decide)).mono ?_
  rintro e w1 ⟨hb1, b, rfl, h1⟩
  have H1 := Lib.hid h1
  have B1 := Lib.hid hb1
  clear h1 hb1
  go_wp2_with fail
  refine (put15_any H1.out la (by decide) (by decide) (by decide)).mono ?_
  rintro e w2 ⟨rfl, h2, k2⟩
  have H2 := Lib.hid h2
  have K2 := Lib.hid k2
  clear h2 k2
  rw [aw1]
  go_wp2_with fail
  refine (put15_any H2.out lb (by decide) (by decide) (by decide)).mono ?_
  rintro e w3 ⟨rfl, h3, k3⟩
  have H3 := Lib.hid h3
  have K3 := Lib.hid (K2.out.trans k3)
  clear h3 k3
  rw [show putE 2 1 (putQ 2 1 (fun _ => []) la) lb = 0 from aw2]
  go_wp2_with fail
  refine (waits15_any H3.out 0 (by decide)).mono ?_
  rintro e w4 ⟨rfl, b4⟩
  have B4 := Lib.hid b4
  have H4 := Lib.hid (H3.out.below b4)
  rw [show (putQ 2 1 (putQ 2 1 (fun _ => []) la) lb 0).length = 2 from aw3]
  clear b4
  go_wp2_with fail
  refine (take15_any H4.out 0 1 (by decide)).mono ?_
  rintro e w5 ⟨rfl, h5, k5⟩
  have H5 := Lib.hid h5
  have K5 := Lib.hid k5
  clear h5 k5
  rw [show fndL 2 1 (putQ 2 1 (putQ 2 1 (fun _ => []) la) lb) 0 1 = lb from aw5, show fndE 2 1 (putQ 2 1 (putQ 2 1 (fun _ => []) la) lb) 0 1 = 0 from aw4]
  unfold lv
  go_wp2_with fail
  have hx := LBox.new w5 lb
  have hbx := (Below.refl w5.heap.size w5).alloc (Nat.le_refl _) (.cells #[.int .i64 lb.fr, .int .i64 lb.to, .string lb.tx] 39)
  have hg5 : w5.heap.size < (w5.alloc (.cells #[.int .i64 lb.fr, .int .i64 lb.to, .string lb.tx] 39)).heap.size := by simp
  have hf5 := H5.out.fresh hbx
  obtain ⟨W5, hW5⟩ : ∃ W, W = w5.alloc (.cells #[.int .i64 lb.fr, .int .i64 lb.to, .string lb.tx] 39) := ⟨_, rfl⟩
  rw [← hW5] at hx hbx hg5 hf5 ⊢
  obtain ⟨xb, hxb⟩ : ∃ xb, xb = w5.heap.size := ⟨_, rfl⟩
  rw [← hxb] at hx hg5 hf5 ⊢
  have HBX := Lib.hid hbx
  clear hW5 hbx hxb
  refine (take15_any hf5 0 0 (by decide)).mono ?_
  rintro e w6 ⟨rfl, h6, k6⟩
  have H6 := Lib.hid h6
  have K6 := Lib.hid k6
  have HX := Lib.hid (hx.kp (k6.block xb (.inr ⟨Nat.le_refl _, hg5⟩)) k6.size)
  clear h6 k6 hx hf5 hg5
  rw [show fndL 2 1 (takeQ 2 1 (putQ 2 1 (putQ 2 1 (fun _ => []) la) lb) 0 1) 0 0 = la from aw7, show fndE 2 1 (takeQ 2 1 (putQ 2 1 (putQ 2 1 (fun _ => []) la) lb) 0 1) 0 0 = 0 from aw6]
  unfold lv
  go_upto_region 6 with fail
  have hy := LBox.new w6 la
  have hby := (Below.refl w6.heap.size w6).alloc (Nat.le_refl _) (.cells #[.int .i64 la.fr, .int .i64 la.to, .string la.tx] 39)
  have hxy := HX.out.below hby
  obtain ⟨W6, hW6⟩ : ∃ W, W = w6.alloc (.cells #[.int .i64 la.fr, .int .i64 la.to, .string la.tx] 39) := ⟨_, rfl⟩
  rw [← hW6] at hy hby hxy ⊢
  obtain ⟨yb, hyb⟩ : ∃ yb, yb = w6.heap.size := ⟨_, rfl⟩
  rw [← hyb] at hy ⊢
  have HBY := Lib.hid hby
  have H7 := Lib.hid (H6.out.below hby)
  have x0 : W6.cell? ⟨xb, 0, none⟩ = some (.int .i64 100) := hxy.c0
  have x1 : W6.cell? ⟨xb, 1, none⟩ = some (.int .i64 0) := hxy.c1
  have x2 : W6.cell? ⟨xb, 2, none⟩ = some (.string ⟨#[98]⟩) := hxy.c2
  have xl := hxy.lt
  have y2 : W6.cell? ⟨yb, 2, none⟩ = some (.string ⟨#[97]⟩) := hy.c2
  have yl := hy.lt
  clear hW6 hby hxy hy
  have HYB := Lib.hid hyb
  clear hyb
  go_wp2_with fail
  refine (waits15_any H7.out 0 (by decide)).mono ?_
  rintro e w8 ⟨rfl, b8⟩
  rw [show (takeQ 2 1 (takeQ 2 1 (putQ 2 1 (putQ 2 1 (fun _ => []) la) lb) 0 1) 0 0 0).length = 0 from aw8]
  have B8 := Lib.hid b8
  have H8 := Lib.hid (H7.out.below b8)
  clear b8 x0 x1 x2 xl y2 yl
  go_wp2_with fail
  refine (places15_any H8.out).mono ?_
  rintro e w9 ⟨pa, pc, rfl, hpr, b9⟩
  rw [aw9] at hpr ⊢
  have B9 := Lib.hid b9
  have HPR := Lib.hid hpr
  clear b9 hpr
  go_wp2_with fail
  have hbz := (Below.refl w9.heap.size w9).alloc (Nat.le_refl _) (.cells #[.int .i64 (-1), .int .i64 0, .int .i64 1, .int .i64 100] 3)
  have hr2 : RdZ (w9.alloc (.cells #[.int .i64 (-1), .int .i64 0, .int .i64 1, .int .i64 100] 3)) (some ⟨w9.heap.size, 0, none⟩) [-1, 0, 1, 100] := .inr ⟨_, 0, rfl, by simp, fun k hk => by
    match k, hk with
    | 0, _ => simp
    | 1, _ => simp
    | 2, _ => simp
    | 3, _ => simp⟩
  refine (ints_at15 pa (some ⟨w9.heap.size, 0, none⟩) 4 4 pc 4 [-1, 0, 1, 100] _ (HPR.out.old hbz) hr2 rfl rfl (by decide)).mono ?_
  rintro e w10 ⟨rfl, b10⟩
  have HZ := Lib.hid (B9.out.trans (hbz.mono B9.out.size) |>.trans (b10.mono (by have := B9.out.size; have := hbz.size; omega)))
  clear b10 hbz hr2
  go_wp2_with fail
  go_ret
  refine ⟨rfl, ?_⟩
  have k1 := B1.out
  have k3 : Below w.heap.size w1 w3 := K3.out.below fun _ h => h
  have k4 := k1.trans k3
  have k5 := k4.trans (B4.out.mono k4.size)
  have k6 := k5.trans (K5.out.below fun _ h => h)
  have k7 := k6.trans (HBX.out.mono k6.size)
  have k8 := k7.trans (K6.out.below fun _ h => .inl h)
  have k9 := k8.trans (HBY.out.mono k8.size)
  have k10 := k9.trans (B8.out.mono k9.size)
  exact k10.trans (HZ.out.mono k10.size)
end Go.Proofs.Ytkljokmhfoannaa
