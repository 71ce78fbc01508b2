/-
  Layer 5 (fs): the law's own awake. Conditions: none.
-/
import Derived.Test.YtoidfjglimafbaaDr
import Derived.Test.YtoidfjglimafbaaDu
namespace Go.Proofs.Ytoidfjglimafbaa
open Go.RowKit Go.Lib
set_option linter.unusedVariables false

def A1 : Ds := ⟨[([97], ⟨[], 0⟩)], -1, false⟩
def A2 : Ds := ⟨[([97], ⟨[120, 121], 0⟩)], -1, false⟩
def A3 : Ds := ⟨[([97], ⟨[120, 121], 2⟩)], -1, false⟩
def A4 : Ds := ⟨[([97], ⟨[120, 121, 122], 2⟩)], -1, false⟩
theorem a1 : (⟨[], -1, false⟩ : Ds).make [97] = (A1, 0) := by kernel_rfl
theorem a2 : A1.append [97] [120, 121] = (A2, 0) := by kernel_rfl
theorem a3 : A2.sync [97] = (A3, 0) := by kernel_rfl
theorem a4 : A3.append [97] [122] = (A4, 0) := by kernel_rfl
theorem a5 : A4.bytesOf [97] = [120, 121, 122] ∧ A4.lookE [97] = 0 ∧ A4.sureOf [97] = 2 := ⟨by kernel_rfl, by kernel_rfl, by kernel_rfl⟩
theorem a6 : A4.crash [] = A3 := by kernel_rfl
theorem a7 : A3.bytesOf [97] = [120, 121] ∧ A3.lookE [97] = 0 := ⟨by kernel_rfl, by kernel_rfl⟩
theorem nil_row (own : Nat → Prop) (w : World) : Kp own w none [] := Kp.nil _ _ _
set_option maxRecDepth 100000 in
set_option maxHeartbeats 4000000 in
theorem awake_any (w : World) : Calls Try.prog 9 #[] w fun e w' => e = .returned (.bool true) ∧ Below w.heap.size w w' := by
  go_enter Try.func9, Try.ntmps9
  go_wp2_with fail
  refine (new_any _).mono ?_
  rintro e w1 ⟨rfl, hd, hb⟩
  have HB := Lib.hid hb
  have K0 := Lib.hid (Keeps.refl (fun b => b < w.heap.size) w1)
  have C := make_any hd ⟨#[97]⟩ (by decide)
  rw [show (⟨#[97]⟩ : ByteArray).data.toList = [97] from rfl, a1] at C
  have HC := Lib.hid C
  clear hd hb C
  go_wp2_with fail
  refine HC.out.mono ?_
  rintro e w2 ⟨rfl, hd, hk⟩
  have K2 := Lib.hid (K0.out.trans hk)
  have C := append_any hd ⟨#[97]⟩ ⟨#[120, 121]⟩ (by decide) (by decide)
  rw [show (⟨#[97]⟩ : ByteArray).data.toList = [97] from rfl, show (⟨#[120, 121]⟩ : ByteArray).data.toList = [120, 121] from rfl, a2] at C
  clear HC K0
  have HC := Lib.hid C
  clear hd hk C
  go_wp2_with fail
  refine HC.out.mono ?_
  rintro e w3 ⟨rfl, hd, hk⟩
  have K3 := Lib.hid (K2.out.trans hk)
  have C := sync_any hd ⟨#[97]⟩ (by decide)
  rw [show (⟨#[97]⟩ : ByteArray).data.toList = [97] from rfl, a3] at C
  clear HC K2
  have HC := Lib.hid C
  clear hd hk C
  go_wp2_with fail
  refine HC.out.mono ?_
  rintro e w4 ⟨rfl, hd, hk⟩
  have K4 := Lib.hid (K3.out.trans hk)
  have C := append_any hd ⟨#[97]⟩ ⟨#[122]⟩ (by decide) (by decide)
  rw [show (⟨#[97]⟩ : ByteArray).data.toList = [97] from rfl, show (⟨#[122]⟩ : ByteArray).data.toList = [122] from rfl, a4] at C
  clear HC K3
  have HC := Lib.hid C
  clear hd hk C
  go_wp2_with fail
  refine HC.out.mono ?_
  rintro e w5 ⟨rfl, hd, hk⟩
  have K5 := Lib.hid (K4.out.trans hk)
  have C := read_any hd ⟨#[97]⟩ (by decide)
  rw [show (⟨#[97]⟩ : ByteArray).data.toList = [97] from rfl, a5.1, a5.2.1] at C
  have HD := Lib.hid hd
  clear HC K4
  have HC := Lib.hid C
  clear hd hk C
  go_wp2_with fail
  refine HC.out.mono ?_
  rintro e w6 ⟨rfl, hb⟩
  have hd := HD.out.below hb
  have K6 := Lib.hid (K5.out.trans (Keeps.of_below hb fun b hb => HD.out.own hb))
  have C := sure_any hd ⟨#[97]⟩ (by decide)
  rw [show (⟨#[97]⟩ : ByteArray).data.toList = [97] from rfl, a5.2.2, a5.2.1] at C
  clear HC K5 HD
  have HD := Lib.hid hd
  have HC := Lib.hid C
  clear hd hb C
  go_wp2_with fail
  refine HC.out.mono ?_
  rintro e w7 ⟨rfl, hb⟩
  have hd := HD.out.below hb
  have K7 := Lib.hid (K6.out.trans (Keeps.of_below hb fun b hb => HD.out.own hb))
  have C := crash_any hd none 0 [] (Kp.nil _ _ _) (by decide)
  rw [a6] at C
  clear HC K6 HD
  have HC := Lib.hid C
  clear hd hb C
  go_wp2_with fail
  refine HC.out.mono ?_
  rintro e w8 ⟨rfl, hd, hk⟩
  have K8 := Lib.hid (K7.out.trans hk)
  have C := read_any hd ⟨#[97]⟩ (by decide)
  rw [show (⟨#[97]⟩ : ByteArray).data.toList = [97] from rfl, a7.1, a7.2] at C
  have HD := Lib.hid hd
  clear HC K7
  have HC := Lib.hid C
  clear hd hk C
  go_wp2_with fail
  refine HC.out.mono ?_
  rintro e w9 ⟨rfl, hb⟩
  have K9 := Lib.hid (K8.out.trans (Keeps.of_below hb fun b hb => HD.out.own hb))
  clear hb HC K8 HD
  go_wp2
  go_ret
  exact ⟨rfl, HB.out.trans (K9.out.below fun b hb => hb)⟩
end Go.Proofs.Ytoidfjglimafbaa
