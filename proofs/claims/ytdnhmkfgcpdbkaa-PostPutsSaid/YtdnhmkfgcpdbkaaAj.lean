/-
  Layer 16 (post): the document's Check, Put. Conditions: the message came in.
-/
import Derived.Test.YtdnhmkfgcpdbkaaAi
import Derived.Test.YtdnhmkfgcpdbkaaA5
import Derived.Test.YtdnhmkfgcpdbkaaUl
namespace Go.Proofs.Ytdnhmkfgcpdbkaa
open Go.RowKit
set_option linter.unusedVariables false
set_option linter.unusedSimpArgs false

set_option maxRecDepth 100000 in
set_option maxHeartbeats 4000000 in
theorem rcheck16 (VL : List Value) (m : Mg) (w : World) (h : MV (LRd w) VL m) :
    Calls Try.prog 13 #[.agg VL.toArray] w fun e w' => e = .returned (.int .i64 (if (okM m && bareL m.SE) = true then 0 else 1)) ∧ Below w.heap.size w w' := by
  have HT : Hid (∀ W, Below w.heap.size w W → Calls Try.prog 20 #[.agg VL.toArray] W fun e w' => (∃ X : ByteArray, e = .returned (.tuple #[.string X, .bool (okM m && bareL m.SE)]) ∧ X.size ≤ 100000000 ∧ ((okM m && bareL m.SE) = true → X = ⟨(txM m).toArray⟩)) ∧ Below W.heap.size W w') := Lib.hid (fun W hb => write16 VL m W (h.old hb))
  obtain ⟨q, hq⟩ : ∃ q, q = (okM m && bareL m.SE) := ⟨_, rfl⟩
  rw [← hq] at HT ⊢
  have hc := box_range w VL 35
  have hb := (Below.refl w.heap.size w).alloc (Nat.le_refl _) (.cells VL.toArray 35)
  have HSU : Hid ((Try.prog.info? 35).map (·.size) = some VL.length) := Lib.hid (by rw [h.len]; exact Try.sizeMsg)
  obtain ⟨mb, hmb⟩ : ∃ x, x = w.heap.size := ⟨_, rfl⟩
  obtain ⟨w1, hw1⟩ : ∃ W, W = w.alloc (.cells VL.toArray 35) := ⟨_, rfl⟩
  rw [← hw1] at hb hc
  rw [← hmb] at hc
  have HRG := Lib.hid hc
  have HB := Lib.hid hb
  have HX := Lib.hid hmb
  clear h hc hb hmb hq
  cases q
  all_goals
    go_enter Try.func13, Try.ntmps13
    go_upto_region 1 with fail
    rw [← hw1, ← HX.out]
    clear hw1
    go_wp2_with (refine wpList_load_mid rfl 35 (.tmp 1) rfl mb 0 rfl VL _ HRG.out Try.underlying35 rfl HSU.out ?_)
    refine (HT.out _ HB.out).mono ?_
    rintro e w2 ⟨⟨X, rfl, _⟩, hb2⟩
    have HB2 := Lib.hid (HB.out.trans (hb2.mono HB.out.size))
    clear hb2 HT
    go_wp2_with fail
    go_ret
    exact ⟨rfl, HB2.out⟩
set_option maxRecDepth 100000 in
set_option maxHeartbeats 4000000 in
theorem rput16 (VL : List Value) (m : Mg) (w : World) (h : MV (LRd w) VL m) :
    Calls Try.prog 11 #[.agg VL.toArray] w fun e w' => e = .returned (.tuple #[.string (putS m), .int .i64 (putE m)]) ∧ Below w.heap.size w w' := by
  have HT : Hid (∀ W, Below w.heap.size w W → Calls Try.prog 20 #[.agg VL.toArray] W fun e w' => (∃ X : ByteArray, e = .returned (.tuple #[.string X, .bool (okM m && bareL m.SE)]) ∧ X.size ≤ 100000000 ∧ ((okM m && bareL m.SE) = true → X = ⟨(txM m).toArray⟩)) ∧ Below W.heap.size W w') := Lib.hid (fun W hb => write16 VL m W (h.old hb))
  obtain ⟨rS, hrS⟩ : ∃ r, r = putS m := ⟨_, rfl⟩
  obtain ⟨rE, hrE⟩ : ∃ r, r = putE m := ⟨_, rfl⟩
  obtain ⟨T, hT⟩ : ∃ T, T = txM m := ⟨_, rfl⟩
  obtain ⟨q, hq⟩ : ∃ q, q = (okM m && bareL m.SE) := ⟨_, rfl⟩
  have hpo : putOk m = (q && decide ((sealB T).size ≤ 262144)) := by rw [hq, hT]; rfl
  rw [← hrS, ← hrE]
  rw [← hq, ← hT] at HT
  have HP : Hid (rS = (if (q && decide ((sealB T).size ≤ 262144)) = true then sealB T else ⟨#[]⟩) ∧ rE = (if (q && decide ((sealB T).size ≤ 262144)) = true then 0 else 1)) := Lib.hid (by rw [hrS, hrE]; unfold putS putE; rw [hpo, ← hT]; exact ⟨rfl, rfl⟩)
  have hc := box_range w VL 35
  have hb := (Below.refl w.heap.size w).alloc (Nat.le_refl _) (.cells VL.toArray 35)
  have HSU : Hid ((Try.prog.info? 35).map (·.size) = some VL.length) := Lib.hid (by rw [h.len]; exact Try.sizeMsg)
  obtain ⟨mb, hmb⟩ : ∃ x, x = w.heap.size := ⟨_, rfl⟩
  obtain ⟨w1, hw1⟩ : ∃ W, W = w.alloc (.cells VL.toArray 35) := ⟨_, rfl⟩
  rw [← hw1] at hb hc
  rw [← hmb] at hc
  have HRG := Lib.hid hc
  have HB := Lib.hid hb
  have HX := Lib.hid hmb
  clear h hc hb hmb hq hrS hrE hT hpo
  cases q with
  | false =>
    obtain rfl : rS = ⟨#[]⟩ := HP.out.1
    obtain rfl : rE = 1 := HP.out.2
    go_enter Try.func11, Try.ntmps11
    go_upto_region 1 with fail
    rw [← hw1, ← HX.out]
    clear hw1
    go_wp2_with (refine wpList_load_mid rfl 35 (.tmp 1) rfl mb 0 rfl VL _ HRG.out Try.underlying35 rfl HSU.out ?_)
    refine (HT.out _ HB.out).mono ?_
    rintro e w2 ⟨⟨X, rfl, _⟩, hb2⟩
    have HB2 := Lib.hid (HB.out.trans (hb2.mono HB.out.size))
    clear hb2 HT HP
    go_wp2_with fail
    go_ret2
    exact ⟨rfl, HB2.out⟩
  | true =>
    go_enter Try.func11, Try.ntmps11
    go_upto_region 1 with fail
    rw [← hw1, ← HX.out]
    clear hw1
    go_wp2_with (refine wpList_load_mid rfl 35 (.tmp 1) rfl mb 0 rfl VL _ HRG.out Try.underlying35 rfl HSU.out ?_)
    refine (HT.out _ HB.out).mono ?_
    rintro e w2 ⟨⟨X, rfl, hXs, hXe⟩, hb2⟩
    have hXT := hXe (by simp)
    have HB2 := Lib.hid (HB.out.trans (hb2.mono HB.out.size))
    have hsz : X.size = T.length := by rw [hXT, mk_size]
    have hsl : (sealB T).size = X.size + 4 := by rw [seal_size, hsz]
    have HXT := Lib.hid hXT
    clear hb2 HT hXe hXT hsz
    by_cases hle : X.size ≤ 262140
    · have hd : decide ((sealB T).size ≤ 262144) = true := decide_eq_true (by omega)
      obtain rfl : rS = sealB T := by have := HP.out.1; rw [hd] at this; exact this
      obtain rfl : rE = 0 := by have := HP.out.2; rw [hd] at this; exact this
      have hli : ¬ (262140 : Int) < (X.size : Int) := by omega
      have HSE : Hid (Calls Try.prog 21 #[.string X] w2 fun e w' => e = .returned (.string (sealB T)) ∧ Below w2.heap.size w2 w') := Lib.hid (by
        refine (CR.seal_ref X w2 (by omega)).mono ?_
        rintro e w' ⟨he, hb⟩
        refine ⟨?_, hb⟩
        rw [he]
        congr 2
        rw [HXT.out]
        exact seal_eq T)
      clear HP hd hsl HXT
      go_wp2_with fail
      refine HSE.out.mono ?_
      rintro e w3 ⟨rfl, hb3⟩
      have HB3 := Lib.hid (HB2.out.trans (hb3.mono HB2.out.size))
      clear hb3 HSE
      go_wp2_with fail
      go_ret2
      exact ⟨rfl, HB3.out⟩
    · have hd : decide ((sealB T).size ≤ 262144) = false := decide_eq_false (by omega)
      obtain rfl : rS = ⟨#[]⟩ := by have := HP.out.1; rw [hd] at this; exact this
      obtain rfl : rE = 1 := by have := HP.out.2; rw [hd] at this; exact this
      have hli : (262140 : Int) < (X.size : Int) := by omega
      clear HP hd hsl HXT
      go_wp2_with fail
      go_ret2
      exact ⟨rfl, HB2.out⟩
end Go.Proofs.Ytdnhmkfgcpdbkaa
