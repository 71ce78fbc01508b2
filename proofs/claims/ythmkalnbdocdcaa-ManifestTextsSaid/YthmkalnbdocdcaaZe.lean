/-
  Layer 12 (manifest): the law's awake. Conditions: none.
-/
import Derived.Test.YthmkalnbdocdcaaZd
import Derived.Test.YthmkalnbdocdcaaYq
namespace Go.Proofs.Ythmkalnbdocdcaa
set_option maxRecDepth 100000
open Go.RowKit
set_option linter.unusedVariables false
set_option linter.unusedSimpArgs false

def t0 : Tb := (1, 0, ⟨#[97]⟩, ⟨#[99]⟩)
def e0 : Ed := ([t0], [], 2, 3)
theorem e0_may : mayEd e0 = true := by kernel_rfl
theorem e0_len : (edB e0).length = 10 := by kernel_rfl
theorem e0_app : appT [] 0 0 e0 = some [t0] := by kernel_rfl
theorem e0_ov : ovT [t0] 0 ⟨#[99]⟩ ⟨#[100]⟩ = [t0] := by kernel_rfl
set_option maxRecDepth 1000000 in
set_option maxHeartbeats 16000000 in
theorem awake12_any (w : World) : Calls Try.prog 10 #[] w fun x w' => x = .returned (.bool true) ∧ Below w.heap.size w w' := by
  have tb : TBox (w.alloc (.cells #[.int .i64 1, .int .i64 0, .string ⟨#[97]⟩, .string ⟨#[99]⟩] 49)) w.heap.size t0 := TBox.new w _ t0
  have k1 : (w.alloc (.cells #[.int .i64 1, .int .i64 0, .string ⟨#[97]⟩, .string ⟨#[99]⟩] 49)).heap.size = w.heap.size + 1 := by simp [go_sem]
  have b1 := box_bel w (.cells #[.int .i64 1, .int .i64 0, .string ⟨#[97]⟩, .string ⟨#[99]⟩] 49)
  generalize hw1 : w.alloc (.cells #[.int .i64 1, .int .i64 0, .string ⟨#[97]⟩, .string ⟨#[99]⟩] 49) = w1 at *
  have bx := EdBox.new w1 25 (.slice (some ⟨w.heap.size, 0, none⟩) 1 1) (.slice none 0 0) 2 3
  have b2 := box_bel w1 (.cells #[.slice (some ⟨w.heap.size, 0, none⟩) 1 1, .slice none 0 0, .int .i64 2, .int .i64 3] 25)
  generalize hw2 : w1.alloc (.cells #[.slice (some ⟨w.heap.size, 0, none⟩) 1 1, .slice none 0 0, .int .i64 2, .int .i64 3] 25) = w2 at *
  have hst : ST w2 (some ⟨w.heap.size, 0, none⟩) 1 1 [t0] := ⟨rfl, .inr ⟨_, _, rfl, Nat.lt_of_lt_of_le tb.2.2.2.2 b2.size, fun i hi => by
    have h0 : i = 0 := by simp at hi; exact hi
    subst h0
    obtain ⟨q0, q1, q2, q3, -⟩ := tb.below b2
    exact ⟨q0, q1, q2, q3⟩⟩, Nat.le_refl _, by decide⟩
  have hev : EV w2 (.agg #[.slice (some ⟨w.heap.size, 0, none⟩) 1 1, .slice none 0 0, .int .i64 2, .int .i64 3]) e0 := ⟨_, _, _, _, _, _, rfl, hst, ⟨rfl, .inl rfl, Nat.le_refl _, Nat.zero_le _⟩, fun t ht => by
    obtain rfl := List.mem_singleton.1 ht
    exact okTb_may (by kernel_rfl)⟩
  have HB2 := Lib.hid (b1.trans (b2.mono b1.size))
  have HEV := Lib.hid hev
  have HBX := Lib.hid bx
  obtain ⟨xa, hxa⟩ : ∃ xa, xa = w.heap.size := ⟨_, rfl⟩
  obtain ⟨xb, hxb⟩ : ∃ xb, xb = w1.heap.size := ⟨_, rfl⟩
  rw [← hxb, ← hxa] at HBX
  rw [← hxa] at HEV
  have HX := Lib.hid (And.intro hxa hxb)
  clear tb k1 b1 bx b2 hst hev
  go_enter Try.func10, Try.ntmps10
  go_upto_region 2 with fail
  rw [← hxb, ← hxa]
  clear hw1 hw2 hxa hxb
  have HPU := Lib.hid (put12_any _ _ _ HEV.out)
  obtain ⟨y0, y1, y2, y3, y4⟩ := HBX.out
  obtain ⟨sA, hsA⟩ : ∃ s : ByteArray, s = ⟨(edB e0).toArray⟩ := ⟨_, rfl⟩
  have HSA := Lib.hid hsA
  have hsz : sA.size = 10 := by rw [hsA]; exact e0_len
  have HTK := Lib.hid (tk_yes (s := sA) (d := e0) (by rw [hsA]; exact takE_put e0_may))
  clear hsA
  go_upto_region 3 with (go_at_call 11; refine HPU.out.mono ?_; rintro e w3 ⟨he, hb3⟩; rw [if_pos e0_may, ← HSA.out] at he; subst he; have HB3 := Lib.hid hb3; clear hb3)
  clear y0 y1 y2 y3 y4 HPU
  have HTA := Lib.hid (take12_any sA (by omega) w3)
  have HB4' := HB3
  go_upto_region 4 with (go_at_call 13; refine HTA.out.mono ?_; rintro e w4 ⟨V, he, hv, hb4⟩; rw [HTK.out.2] at he; rw [HTK.out.1] at hv; subst he; have HB4 := Lib.hid (HB3.out.trans (hb4.mono HB3.out.size)); have HV := Lib.hid hv; obtain ⟨aa, an, ac, da', dn, dc, rfl, -, -, -⟩ := hv; clear hb4)
  have bz := EdBox.new w4 25 (.slice aa an ac) (.slice da' dn dc) e0.2.2.1 e0.2.2.2
  have b5 := box_bel w4 (.cells #[.slice aa an ac, .slice da' dn dc, .int .i64 e0.2.2.1, .int .i64 e0.2.2.2] 25)
  obtain ⟨xd, hxd⟩ : ∃ xd, xd = w4.heap.size := ⟨_, rfl⟩
  rw [← hxd] at bz ⊢
  clear hxd
  generalize w4.alloc (.cells #[.slice aa an ac, .slice da' dn dc, .int .i64 e0.2.2.1, .int .i64 e0.2.2.2] 25) = w5 at *
  have HB5 := Lib.hid (HB4.out.trans (b5.mono HB4.out.size))
  have HV5 := Lib.hid (HV.out.old b5)
  have HBZ := Lib.hid bz
  clear bz b5 HV HTA
  have HE5 := Lib.hid (HEV.out.old HB5.out)
  have HAP := Lib.hid (apply12_any _ _ ([], 0, 0) e0 w5 (SV.zero w5) HE5.out (OkT.nil 0) (by simp))
  have HAA := Lib.hid (ap_yes (s := ([], 0, 0)) e0_may e0_app)
  obtain ⟨y0, y1, y2, y3, y4⟩ := HBX.out.below HB5.out
  go_upto_region 5 with (go_at_call 18; refine HAP.out.mono ?_; rintro e w6 ⟨V, he, hv, hb6⟩; rw [HAA.out.1] at he; rw [HAA.out.2] at hv; subst he; have HB6 := Lib.hid hb6; have HV6 := Lib.hid hv; obtain ⟨a6, n6, c6, rfl, hst6, -⟩ := hv; obtain rfl : 1 = n6 := hst6.1; clear hb6 hst6)
  have bs := SBox.new w6 38 (.slice a6 1 c6) e0.2.2.1 e0.2.2.2
  have b7 := box_bel w6 (.cells #[.slice a6 1 c6, .int .i64 e0.2.2.1, .int .i64 e0.2.2.2] 38)
  obtain ⟨xs, hxs⟩ : ∃ xs, xs = w6.heap.size := ⟨_, rfl⟩
  rw [← hxs] at bs ⊢
  clear hxs y0 y1 y2 y3 y4
  generalize w6.alloc (.cells #[.slice a6 1 c6, .int .i64 e0.2.2.1, .int .i64 e0.2.2.2] 38) = w7 at *
  have HS7 : Hid (SBox w7 xs (.slice a6 1 c6) 2 3) := Lib.hid bs
  have HB57 := Lib.hid (HB6.out.trans (b7.mono HB6.out.size))
  have HB7 := Lib.hid (HB5.out.trans (HB57.out.mono HB5.out.size))
  have HV7 : Hid (SV w7 (.agg #[.slice a6 1 c6, .int .i64 2, .int .i64 3]) ([t0], 2, 3)) := Lib.hid (HV6.out.old b7)
  have HSE := Lib.hid (sameed_any _ _ _ w7 (HV5.out.old HB57.out) (HEV.out.old HB7.out))
  have HOV := Lib.hid fun (wx : World) (hx : Below w7.heap.size w7 wx) => ov_any _ _ 0 ⟨#[99]⟩ ⟨#[100]⟩ wx (HV7.out.old hx) (by simp) 3 (next_ok (log := 0) (OkT.nil 0) e0_may e0_app).1
  obtain ⟨y0, y1, y2, y3, y4⟩ := HBX.out.below HB7.out
  obtain ⟨u0, u1, u2, u3, u4⟩ := HBZ.out.below HB57.out
  obtain ⟨v0, v1, v2, v3⟩ := HS7.out
  clear bs b7 HAP HE5
  go_wp2_with fail
  refine HSE.out.mono ?_
  rintro e w8 ⟨rfl, hb8⟩
  have HB8 := Lib.hid hb8
  have HBT := Lib.hid (HB2.out.trans ((HB7.out.trans (hb8.mono HB7.out.size)).mono HB2.out.size))
  clear y0 y1 y2 y3 y4 u0 u1 u2 u3 u4 v0 v1 v2 v3 HSE
  obtain ⟨v0, v1, v2, v3⟩ := HS7.out.below hb8
  clear hb8
  go_wp2_with fail
  refine (HOV.out _ HB8.out).mono ?_
  rintro e w9 ⟨a9, n9, c9, rfl, hst9, hb9⟩
  rw [e0_ov] at hst9
  obtain rfl : 1 = n9 := hst9.1
  have HB9 := Lib.hid (HBT.out.trans (hb9.mono HBT.out.size))
  clear hst9 hb9 v0 v1 v2 v3 HOV
  go_wp2_with fail
  go_ret
  exact ⟨rfl, HB9.out⟩
end Go.Proofs.Ythmkalnbdocdcaa
