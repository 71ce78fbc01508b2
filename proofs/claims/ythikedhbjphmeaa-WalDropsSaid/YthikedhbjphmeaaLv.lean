/-
  Layer 6 (wal): the laws' own awake. Conditions: none.
-/
import Derived.Test.YthikedhbjphmeaaLw
namespace Go.Proofs.Ythikedhbjphmeaa
open Go.RowKit Go.Lib
set_option linter.unusedVariables false
set_option linter.unusedSimpArgs false

theorem WP.kb {own : Nat → Prop} {w w' : World} {l d m n k : Nat} {N : Nf} {ts : List (List UInt8)} (h : WP own w l d m N n ts k) (hb : Below w.heap.size w w') : Keeps own w w' := by
  obtain ⟨F, h, _⟩ := h
  exact Keeps.of_below hb fun b hb => h.own hb
theorem al1 (w : World) (o : Obj) : Below w.heap.size w (w.alloc o) := (Below.refl _ _).alloc (Nat.le_refl _) o
theorem aw_names : (lf [(3, fl [[111, 110, 101]] 1)] ++ lf [(4, ⟨[], 0⟩)]).map (·.1) = [[108, 111, 103, 45, 48, 48, 48, 48, 48, 48, 48, 51], [108, 111, 103, 45, 48, 48, 48, 48, 48, 48, 48, 52]] := by
  simp only [lf, List.map_cons, List.map_nil, List.cons_append, List.nil_append]
  decide
set_option maxRecDepth 100000 in
set_option maxHeartbeats 600000 in
theorem awake_any (w : World) : Calls Try.prog 9 #[] w fun e w' => e = .returned (.bool true) ∧ Below w.heap.size w w' := by
  go_enter Try.func9, Try.ntmps9
  go_wp2_with fail
  refine (new_any _).mono ?_
  rintro e w1 ⟨rfl, hd, hb⟩
  have HB := Lib.hid hb
  have C := wp_new hd 3 (by omega)
  rw [show ((3 : Nat) : Int) = 3 from rfl] at C
  have HC := Lib.hid C
  clear C hd hb
  go_wp2_with fail
  refine HC.out.mono ?_
  rintro e w2 ⟨l, rfl, hw, hk⟩
  have HK := Lib.hid hk
  have HW := Lib.hid hw
  have C := wp_last hw
  rw [show ((3 : Nat) : Int) = 3 from rfl] at C
  clear HC
  have HC := Lib.hid C
  clear C hw hk
  go_wp2_with fail
  refine HC.out.mono ?_
  rintro e w3 ⟨rfl, hb3⟩
  have HW3 := Lib.hid (HW.out.below hb3)
  have HK3 := Lib.hid (HK.out.trans (HW.out.kb hb3))
  clear hb3 HC HK HW
  go_wp2_with fail
  refine (wp_add HW3.out (by omega) ⟨#[111, 110, 101]⟩ (by decide)).mono ?_
  rintro e w4 ⟨rfl, hw, hk⟩
  have HW4 := Lib.hid hw
  have HK4 := Lib.hid (HK3.out.trans hk)
  clear hw hk HW3 HK3
  go_wp2_with fail
  refine (wp_flush HW4.out).mono ?_
  rintro e w5 ⟨rfl, hw, hk⟩
  have HW5 := Lib.hid hw
  have HK5 := Lib.hid (HK4.out.trans hk)
  clear hw hk HW4 HK4
  go_wp2_with fail
  refine (wp_add HW5.out (by omega) ⟨#[116, 119, 111]⟩ (by decide)).mono ?_
  rintro e w6 ⟨rfl, hw, hk⟩
  have HW6 := Lib.hid hw
  have HK6 := Lib.hid (HK5.out.trans hk)
  clear hw hk HW5 HK5
  go_wp2_with fail
  refine (wp_all HW6.out (by omega) [[111, 110, 101], [116, 119, 111]] rfl).mono ?_
  rintro e w7 ⟨a, cap, rfl, hrd, hb7⟩
  have HW7 := Lib.hid (HW6.out.below hb7)
  have HK7 := Lib.hid (HK6.out.trans (HW6.out.kb hb7))
  have HR7 := Lib.hid hrd
  clear hb7 hrd HW6 HK6
  go_wp2_with fail
  refine (same_at a _ 2 2 cap 2 [[111, 110, 101], [116, 119, 111]] [[111, 110, 101], [116, 119, 111]] true _ (HR7.out.old (al1 _ _)) (lit_rd2 w7 _ ⟨#[111, 110, 101]⟩ ⟨#[116, 119, 111]⟩) rfl rfl (by decide) (by simp)).mono ?_
  rintro e w8 ⟨rfl, hb8⟩
  have hb78 := bt (al1 w7 (.cells #[.string ⟨#[111, 110, 101]⟩, .string ⟨#[116, 119, 111]⟩] 9)) hb8
  have HW8 := Lib.hid (HW7.out.below hb78)
  have HK8 := Lib.hid (HK7.out.trans (HW7.out.kb hb78))
  clear hb8 hb78 HW7 HK7 HR7
  go_wp2_with fail
  refine (wp_crash0 HW8.out 0).mono ?_
  rintro e w9 ⟨rfl, hd, hf, htx, hk⟩
  have HK9 := Lib.hid (HK8.out.trans hk)
  have hd' : DiskAt (fun b => b < w.heap.size) w9 (w.heap.size + 1) (calm (lf [(3, fl [[111, 110, 101]] 1)])) := hd
  have htx' : txt (3, fl [[111, 110, 101]] 1) = (3, [[111, 110, 101]]) := htx
  have C := wp_open hd' hf (by omega) 3 (by omega)
  rw [show ((3 : Nat) : Int) = 3 from rfl] at C
  have HC := Lib.hid C
  have HT := Lib.hid htx'
  clear C hd hd' hf htx htx' hk HW8 HK8
  go_wp2_with fail
  refine HC.out.mono ?_
  rintro e w10 ⟨l2, M, x, hM, hx, rfl, hw, hk⟩
  have hM' : M = [(3, fl [[111, 110, 101]] 1)] := hM
  have hx' : x = 4 := by rw [hx, hM']; rfl
  subst hM' hx'
  have HW10 := Lib.hid hw
  have HK10 := Lib.hid (HK9.out.trans hk)
  clear hM hx hw hk HC HK9
  go_wp2_with fail
  refine (wp_all HW10.out (by omega) [[111, 110, 101]] (by rw [lg_flat, List.map_singleton, HT.out]; rfl)).mono ?_
  rintro e w11 ⟨a2, cap2, rfl, hrd, hb11⟩
  have HW11 := Lib.hid (HW10.out.below hb11)
  have HK11 := Lib.hid (HK10.out.trans (HW10.out.kb hb11))
  have HR11 := Lib.hid hrd
  clear hb11 hrd HW10 HK10
  go_wp2_with fail
  refine (same_at a2 _ 1 1 cap2 1 [[111, 110, 101]] [[111, 110, 101]] true _ (HR11.out.old (al1 _ _)) (names1 w11 ⟨#[111, 110, 101]⟩) rfl rfl (by decide) (by simp)).mono ?_
  rintro e w12 ⟨rfl, hb12⟩
  have hb112 := bt (al1 w11 (.cells #[.string ⟨#[111, 110, 101]⟩] 9)) hb12
  have HW12 := Lib.hid (HW11.out.below hb112)
  have HK12 := Lib.hid (HK11.out.trans (HW11.out.kb hb112))
  clear hb12 hb112 HW11 HK11 HR11
  have C := wp_last HW12.out
  rw [show ((4 : Nat) : Int) = 4 from rfl] at C
  have HC := Lib.hid C
  clear C
  go_wp2_with fail
  refine HC.out.mono ?_
  rintro e w13 ⟨rfl, hb13⟩
  have HW13 := Lib.hid (HW12.out.below hb13)
  have HK13 := Lib.hid (HK12.out.trans (HW12.out.kb hb13))
  clear hb13 HW12 HK12 HC
  obtain ⟨F, hF1, hF2⟩ := HW13.out
  have hFn : F.map (·.1) = [[108, 111, 103, 45, 48, 48, 48, 48, 48, 48, 48, 51], [108, 111, 103, 45, 48, 48, 48, 48, 48, 48, 48, 52]] := by
    rw [hF2.files, lf_append]
    exact aw_names
  have C := names_any hF1.toDisk
  have C : Calls Try.prog 24 #[.pointer (some ⟨w.heap.size + 1, 0, none⟩)] w13 fun e w' => ∃ v, e = .returned v ∧ NamesV w' w13.heap.size [[108, 111, 103, 45, 48, 48, 48, 48, 48, 48, 48, 51], [108, 111, 103, 45, 48, 48, 48, 48, 48, 48, 48, 52]] v ∧ Below w13.heap.size w13 w' := by
    rw [← hFn]; exact C
  have HC := Lib.hid C
  clear C hF1 hF2 hFn
  go_wp2_with fail
  refine HC.out.mono ?_
  rintro e w14 ⟨v, rfl, hn, hb14⟩
  unfold NamesV at hn
  obtain ⟨na, ncap, rfl⟩ := own_slice hn
  have HN := Lib.hid (own_rd hn)
  have HW14 := Lib.hid (HW13.out.below hb14)
  have HK14 := Lib.hid (HK13.out.trans (HW13.out.kb hb14))
  clear hn hb14 HC HW13 HK13
  go_wp2_with fail
  refine (same_at na _ 2 2 ncap 2 [[108, 111, 103, 45, 48, 48, 48, 48, 48, 48, 48, 51], [108, 111, 103, 45, 48, 48, 48, 48, 48, 48, 48, 52]] [[108, 111, 103, 45, 48, 48, 48, 48, 48, 48, 48, 51], [108, 111, 103, 45, 48, 48, 48, 48, 48, 48, 48, 52]] true _ (HN.out.old (al1 _ _)) (lit_rd2 w14 _ ⟨#[108, 111, 103, 45, 48, 48, 48, 48, 48, 48, 48, 51]⟩ ⟨#[108, 111, 103, 45, 48, 48, 48, 48, 48, 48, 48, 52]⟩) rfl rfl (by decide) (by simp)).mono ?_
  rintro e w15 ⟨rfl, hb15⟩
  have hb145 := bt (al1 w14 (.cells #[.string ⟨#[108, 111, 103, 45, 48, 48, 48, 48, 48, 48, 48, 51]⟩, .string ⟨#[108, 111, 103, 45, 48, 48, 48, 48, 48, 48, 48, 52]⟩] 9)) hb15
  have HK15 := Lib.hid (HK14.out.trans (HW14.out.kb hb145))
  clear hb15 hb145 HW14 HK14 HN
  go_wp2
  go_ret
  exact ⟨rfl, HB.out.trans (HK15.out.below fun b hb => hb)⟩
end Go.Proofs.Ythikedhbjphmeaa
