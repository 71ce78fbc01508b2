/-
  Layer 14 (once): contract of awake. Conditions: none.
-/
import Derived.Test.YtemaonfgledcmaaNl
import Derived.Laws.StructEq
namespace Go.Proofs.Ytemaonfgledcmaa
open Go.RowKit
set_option linter.unusedVariables false
set_option linter.unusedSimpArgs false

def X0 : Sn := ⟨2, 5, 0, ⟨#[]⟩, true, none, 0, 0, ⟨#[]⟩⟩
theorem x0_put : (putL [] X0).map normS = [X0] ∧ putE [] X0 = 0 := by
  have h : putE [] X0 = 0 := by decide
  refine ⟨?_, h⟩
  rw [(putL_ok h).1]; rfl
theorem x0_look : look [X0] 2 = some X0 := by rw [look_cons]; rfl
theorem x0_chk : (chk [X0] && cliB 2 && seqB 5) = true ∧ (chk [X0] && cliB 2 && seqB 4) = true := by decide
theorem x0_find : fndE [X0] 2 5 = 0 ∧ normS (fndS [X0] 2 5) = X0 ∧ fndE [X0] 2 4 = 140 ∧ normS (fndS [X0] 2 4) = Z0 := by
  have h1 : fndE [X0] 2 5 = 0 := by unfold fndE; rw [if_pos x0_chk.1, x0_look]; rfl
  have h2 : fndE [X0] 2 4 = 140 := by unfold fndE; rw [if_pos x0_chk.2, x0_look]; rfl
  refine ⟨h1, ?_, h2, ?_⟩
  · unfold fndS; rw [if_pos h1, x0_look]; rfl
  · unfold fndS; rw [if_neg (by rw [h2]; decide)]; rfl
theorem vL_small {n : Nat} (h : n < 128) : vL n = [UInt8.ofNat n] := vL_lt h
theorem x0_write : wrV X0 = .agg #[.string ⟨#[116, 50]⟩, .string ⟨#[5, 0, 1]⟩, .bool false] ∧ wrE X0 = 0 := by
  have hm : mayS X0 = true := by decide
  have h1 : (⟨(keyW X0).toArray⟩ : ByteArray) = ⟨#[116, 50]⟩ := rfl
  have h2 : (⟨(valW X0).toArray⟩ : ByteArray) = ⟨#[5, 0, 1]⟩ := by
    have : valW X0 = [5, 0, 1] := by
      show vL 5 ++ vL 0 ++ vL 1 = _
      rw [vL_lt (by decide), vL_lt (by decide), vL_lt (by decide)]; rfl
    rw [this]
  constructor
  · unfold wrV; rw [if_pos hm, h1, h2]
  · unfold wrE; rw [if_pos hm]
set_option maxRecDepth 100000 in
set_option maxHeartbeats 4000000 in
theorem awake14_any (w : World) : Calls Try.prog 10 #[] w fun e w' => e = .returned (.bool true) ∧ Below w.heap.size w w' := by
  have HP : Hid (Calls Try.prog 26 #[.slice none 0 0, .agg #[.int .i64 2, .int .i64 5, .int .i64 0, .string ⟨#[]⟩, .bool true, .slice none 0 0, .string ⟨#[]⟩]] w (LE [X0] 0 w)) := Lib.hid (by
    have h := put14_any none 0 0 [] X0 w (SS.none w)
    rwa [x0_put.1, x0_put.2] at h)
  have HF1 : Hid (∀ a n cap W, SS W a n cap [X0] → Calls Try.prog 27 #[.slice a n cap, .int .i64 2, .int .i64 5] W fun e w' => e = .returned (.tuple #[.agg #[.int .i64 0, .string ⟨#[]⟩, .bool true, .slice none 0 0, .string ⟨#[]⟩], .int .i64 0]) ∧ Below W.heap.size W w') := Lib.hid (fun a n cap W h => by
    have h := find14_any a n cap [X0] 2 5 W h
    rwa [x0_find.1, x0_find.2.1] at h)
  have HF2 : Hid (∀ a n cap W, SS W a n cap [X0] → Calls Try.prog 27 #[.slice a n cap, .int .i64 2, .int .i64 4] W fun e w' => e = .returned (.tuple #[.agg #[.int .i64 0, .string ⟨#[]⟩, .bool false, .slice none 0 0, .string ⟨#[]⟩], .int .i64 140]) ∧ Below W.heap.size W w') := Lib.hid (fun a n cap W h => by
    have h := find14_any a n cap [X0] 2 4 W h
    rwa [x0_find.2.2.1, x0_find.2.2.2] at h)
  have HW : Hid (∀ W, Calls Try.prog 14 #[.agg #[.int .i64 2, .int .i64 5, .int .i64 0, .string ⟨#[]⟩, .bool true, .slice none 0 0, .string ⟨#[]⟩]] W fun e w' => e = .returned (.tuple #[.agg #[.string ⟨#[116, 50]⟩, .string ⟨#[5, 0, 1]⟩, .bool false], .int .i64 0]) ∧ Below W.heap.size W w') := Lib.hid (fun W => by
    have h := write14_any X0 W
    rwa [x0_write.1, x0_write.2] at h)
  go_enter Try.func10, Try.ntmps10
  go_wp2_with fail
  refine HP.out.mono ?_
  rintro e w2 ⟨a, n, cap, rfl, hs, hb2⟩
  have HS2 := Lib.hid hs
  have HB2 := Lib.hid hb2
  obtain rfl : n = 1 := hs.1.symm
  clear hs hb2 HP
  go_wp2_with fail
  refine (HF1.out _ _ _ _ HS2.out).mono ?_
  rintro e w3 ⟨rfl, hb3⟩
  have HS3 := Lib.hid ((HS2.out.old hb3).old (box_bel14 w3 (.cells #[.int .i64 0, .string ⟨#[]⟩, .bool true, .slice none 0 0, .string ⟨#[]⟩] 37)))
  have HB3 := Lib.hid ((HB2.out.trans (hb3.mono HB2.out.size)).alloc (HB2.out.trans (hb3.mono HB2.out.size)).size (.cells #[.int .i64 0, .string ⟨#[]⟩, .bool true, .slice none 0 0, .string ⟨#[]⟩] 37))
  clear hb3 HF1 HB2 HS2
  go_upto_region 3 with fail
  have hr2 : (w3.alloc (.cells #[.int .i64 0, .string ⟨#[]⟩, .bool true, .slice none 0 0, .string ⟨#[]⟩] 37)).cell? ⟨w3.heap.size, 2, none⟩ = some (.bool true) ∧ w3.heap.size < (w3.alloc (.cells #[.int .i64 0, .string ⟨#[]⟩, .bool true, .slice none 0 0, .string ⟨#[]⟩] 37)).heap.size := ⟨by simp, by simp⟩
  have HR := Lib.hid hr2
  clear hr2
  generalize w3.alloc (.cells #[.int .i64 0, .string ⟨#[]⟩, .bool true, .slice none 0 0, .string ⟨#[]⟩] 37) = w4 at *
  generalize w3.heap.size = rb at *
  go_wp2_with fail
  refine (HF2.out _ _ _ _ HS3.out).mono ?_
  rintro e w5 ⟨rfl, hb5⟩
  have HS5 := Lib.hid ((HS3.out.old hb5).old (box_bel14 w5 (.cells #[.int .i64 0, .string ⟨#[]⟩, .bool false, .slice none 0 0, .string ⟨#[]⟩] 37)))
  have HB5 := Lib.hid ((HB3.out.trans (hb5.mono HB3.out.size)).alloc (HB3.out.trans (hb5.mono HB3.out.size)).size (.cells #[.int .i64 0, .string ⟨#[]⟩, .bool false, .slice none 0 0, .string ⟨#[]⟩] 37))
  have HR5 := Lib.hid (show (w5.alloc (.cells #[.int .i64 0, .string ⟨#[]⟩, .bool false, .slice none 0 0, .string ⟨#[]⟩] 37)).cell? ⟨rb, 2, none⟩ = some (.bool true) ∧ rb < (w5.alloc (.cells #[.int .i64 0, .string ⟨#[]⟩, .bool false, .slice none 0 0, .string ⟨#[]⟩] 37)).heap.size from
    have h1 := hb5.trans ((box_bel14 w5 (.cells #[.int .i64 0, .string ⟨#[]⟩, .bool false, .slice none 0 0, .string ⟨#[]⟩] 37)).mono hb5.size)
    ⟨(h1.cell (p := ⟨rb, 2, none⟩) HR.out.2).trans HR.out.1, Nat.lt_of_lt_of_le HR.out.2 h1.size⟩)
  clear hb5 HF2 HB3 HS3 HR
  go_upto_region 4 with fail
  generalize w5.alloc (.cells #[.int .i64 0, .string ⟨#[]⟩, .bool false, .slice none 0 0, .string ⟨#[]⟩] 37) = w6 at *
  obtain ⟨b, off, ha, hb, hc⟩ := HS5.out.2.1.at_
  obtain rfl := ha (by decide)
  have hbw := hb (by decide)
  obtain ⟨c0, c1, c2, c3, c4, c5, c6⟩ := hc 0 (by decide)
  rw [Nat.zero_mul, Nat.add_zero] at c0 c1 c2 c3 c4 c5 c6
  simp only [List.getElem_cons_zero, X0] at c0 c1 c2 c3 c4 c5 c6
  clear ha hb hc
  go_wp2_with fail
  refine (HW.out _).mono ?_
  rintro e w7 ⟨rfl, hb7⟩
  have HB7 := Lib.hid (HB5.out.trans (hb7.mono HB5.out.size))
  have hr7 : w7.cell? ⟨rb, 2, none⟩ = some (.bool true) := (hb7.cell (p := ⟨rb, 2, none⟩) HR5.out.2).trans HR5.out.1
  have hl7 : rb < w7.heap.size := Nat.lt_of_lt_of_le HR5.out.2 hb7.size
  clear hb7 c0 c1 c2 c3 c4 c5 c6 HW
  go_wp2_with fail
  go_ret
  exact ⟨rfl, HB7.out.alloc HB7.out.size _⟩
end Go.Proofs.Ytemaonfgledcmaa
