/-
  Layer 15 (bag): the walk of BagFull. Conditions: none.
-/
import Derived.Test.YtkljokmhfoannaaIo
import Derived.Test.YtkljokmhfoannaaBt
namespace Go.Proofs.Ytkljokmhfoannaa
open Go.RowKit Go.Maps
set_option linter.unusedVariables false
set_option linter.unusedSimpArgs false

def lf : Lt := ⟨100, -1, ⟨#[]⟩⟩
def lg : Lt := ⟨0, 100, ⟨#[]⟩⟩
def Qf (i : Nat) : Wq := fun j => if j = -1 then List.replicate i lf else []
theorem qf_zero : Qf 0 = fun _ => [] := by funext j; unfold Qf; split <;> simp
theorem qf_len (i : Nat) : (Qf i (-1)).length = i := by unfold Qf; simp
theorem qf_lay (i : Nat) (h : i < 1024) : layQ (Qf i) lf = Qf (i + 1) := by
  unfold layQ
  rw [show lf.to = -1 from rfl, if_pos (by rw [qf_len]; exact h)]
  funext j
  unfold upd Qf
  by_cases e : j = -1
  · subst e; simp [List.replicate_succ']
  · simp [e]
theorem qf_put (i : Nat) (h : i < 1024) : putE 1 1 (Qf i) lf = 0 ∧ putQ 1 1 (Qf i) lf = Qf (i + 1) := by
  have hc : place 1 1 lf.fr = true ∧ place 1 1 lf.to = true ∧ lf.tx.size ≤ 262144 := by decide
  unfold putE putQ
  rw [if_pos hc, if_pos hc, qf_lay i h]
  refine ⟨?_, rfl⟩
  unfold layE
  rw [show lf.to = -1 from rfl, if_pos (by rw [qf_len]; exact h)]
theorem qf_full (i : Nat) (h : ¬ i < 1024) : putE 1 1 (Qf i) lf = 2 ∧ putQ 1 1 (Qf i) lf = Qf i := by
  have hc : place 1 1 lf.fr = true ∧ place 1 1 lf.to = true ∧ lf.tx.size ≤ 262144 := by decide
  unfold putE putQ layE layQ
  rw [if_pos hc, if_pos hc, show lf.to = -1 from rfl, if_neg (by rw [qf_len]; exact h), if_neg (by rw [qf_len]; exact h)]
  exact ⟨rfl, rfl⟩
theorem qf_find (i : Nat) (j : Int) (h : 0 ≤ j ∧ j < (i : Int)) : fndE 1 1 (Qf i) (-1) j = 0 ∧ fndL 1 1 (Qf i) (-1) j = lf := by
  have h0 : fndE 1 1 (Qf i) (-1) j = 0 := fndE_zero.2 ⟨by decide, h.1, by rw [qf_len]; exact h.2⟩
  refine ⟨h0, ?_⟩
  obtain ⟨hk, e⟩ := fnd_get h0
  rw [e]
  unfold Qf
  simp
theorem qf_none (i : Nat) (j : Int) (h : (i : Int) ≤ j) : fndE 1 1 (Qf i) (-1) j = 3 := by
  unfold fndE
  rw [if_pos (by decide), if_neg (by rw [qf_len]; omega)]
theorem qf_twice (i : Nat) (h : 1023 ≤ i) : twE 1 1 (Qf i) (-1) 5 = (if i < 1024 then 0 else 2) ∧ twQ 1 1 (Qf i) (-1) 5 = (if i < 1024 then Qf (i + 1) else Qf i) := by
  obtain ⟨h1, h2⟩ := qf_find i 5 (by omega)
  unfold twE twQ
  rw [if_pos h1, if_pos h1, h2]
  by_cases hi : i < 1024
  · rw [qf_lay i hi, if_pos hi, if_pos hi]
    refine ⟨?_, rfl⟩
    unfold layE
    rw [show lf.to = -1 from rfl, if_pos (by rw [qf_len]; exact hi)]
  · rw [if_neg hi, if_neg hi]
    unfold layE layQ
    rw [show lf.to = -1 from rfl, if_neg (by rw [qf_len]; exact hi), if_neg (by rw [qf_len]; exact hi)]
    exact ⟨rfl, rfl⟩
theorem qf_tw3 (i : Nat) (h : (i : Int) ≤ 2000) : twE 1 1 (Qf i) (-1) 2000 = 3 ∧ twQ 1 1 (Qf i) (-1) 2000 = Qf i := by
  have h3 := qf_none i 2000 h
  unfold twE twQ
  rw [if_neg (by rw [h3]; decide), if_neg (by rw [h3]; decide)]
  exact ⟨h3, rfl⟩
theorem qf_other (i : Nat) : putE 1 1 (Qf i) lg = 0 ∧ clQ 1 1 (putQ 1 1 (Qf i) lg) (-1) (-1) = [] := by
  have hc : place 1 1 lg.fr = true ∧ place 1 1 lg.to = true ∧ lg.tx.size ≤ 262144 := by decide
  refine ⟨?_, ?_⟩
  · unfold putE layE
    rw [if_pos hc, if_pos (by show (Qf i 100).length < 1024; unfold Qf; simp)]
  · unfold clQ
    rw [if_pos (by decide), upd_same]
theorem low3 (n : Int) : ∃ m : Nat, bits .and .i64 n 3 = (m : Int) ∧ m < 4 := by
  have h := i64_lowb 2 (by decide) 3 n (by decide)
  refine ⟨(n % 4).toNat, ?_, by omega⟩
  rw [h]
  have e : ((2 : Int) ^ 2) = 4 := by decide
  rw [e]
  omega
set_option maxRecDepth 100000 in
set_option maxHeartbeats 4000000 in
theorem walk_BagFull (a : Int) (wf : (Lit.int .i64 a).wf = true) (w : World) : Calls Try.prog 5 #[.int .i64 a] w fun e w' => e = .returned (.bool true) ∧ Below w.heap.size w w' := by
  obtain ⟨m, hm, hm4⟩ := low3 a
  obtain ⟨n, hn⟩ : ∃ n, n = 1023 + m := ⟨_, rfl⟩
  have hwr : IntKind.i64.wrap (1023 + (m : Int)) = (n : Int) := by rw [IntWalk.i64_in _ (by omega)]; omega
  have HN := Lib.hid (show 1023 ≤ n ∧ n ≤ 1026 by omega)
  clear hn hm4 wf
  go_enter Try.func5, Try.ntmps5
  go_wp2_with fail
  refine (new15_yes w 1 1 (by decide) (by decide)).mono ?_
  rintro e w1 ⟨hb1, b, rfl, h1⟩
  rw [← qf_zero] at h1
  have H1 := Lib.hid h1
  have B1 := Lib.hid hb1
  clear h1 hb1
  go_upto_region 6 with fail
  go_loopw [6] (fun i wr => ∃ k : Nat, i = .int .i64 k ∧ k ≤ n ∧ Hid (BagAt (fun z => z < w.heap.size) wr b 1 1 (Qf (min k 1024))) ∧ Hid (Below w.heap.size w wr)) (fun i _ => n - (intOf i).toNat)
  case atStart => exact ⟨0, rfl, by omega, H1, B1⟩
  case round =>
    obtain ⟨k, rfl, hk, HB, HW⟩ := hrel
    by_cases hlt : k < n
    · have hki : (k : Int) < (n : Int) := by omega
      have HP := Lib.hid (put15_any HB.out lf (by decide) (by decide) (by decide))
      by_cases hf : k < 1024
      · have e1 := qf_put (min k 1024) (by omega)
        have hfi : (k : Int) < 1024 := by omega
        have HE := Lib.hid e1
        clear e1
        go_wp2_with fail
        refine HP.out.mono ?_
        rintro e w2 ⟨rfl, h2, k2⟩
        rw [HE.out.1]
        rw [HE.out.2] at h2
        have H2 := Lib.hid h2
        have K2 := Lib.hid k2
        clear h2 k2
        go_wp2_with fail
        go_roundw
        case rel =>
          refine ⟨k + 1, by go_num, by omega, Lib.hid ?_, Lib.hid (HW.out.trans (K2.out.below fun _ h => h))⟩
          rw [show min (k + 1) 1024 = min k 1024 + 1 by omega]
          exact H2.out
        case measure => simp [intOf]; omega
      · have hkb : (k : Int) < 2000 := by have := HN.out; omega
        have e1 := qf_full (min k 1024) (by omega)
        have hfi : ¬ (k : Int) < 1024 := by omega
        have HE := Lib.hid e1
        clear e1
        go_wp2_with fail
        refine HP.out.mono ?_
        rintro e w2 ⟨rfl, h2, k2⟩
        rw [HE.out.1]
        rw [HE.out.2] at h2
        have H2 := Lib.hid h2
        have K2 := Lib.hid k2
        clear h2 k2
        go_wp2_with fail
        go_roundw
        case rel =>
          refine ⟨k + 1, by go_num, by omega, Lib.hid ?_, Lib.hid (HW.out.trans (K2.out.below fun _ h => h))⟩
          rw [show min (k + 1) 1024 = min k 1024 by omega]
          exact H2.out
        case measure => simp [intOf]; omega
    · obtain rfl : k = n := by omega
      obtain ⟨e1, e2⟩ := qf_twice (min k 1024) (by have := HN.out; omega)
      have HT := Lib.hid (twice15_any HB.out (-1) 5 (by decide))
      obtain ⟨er, her⟩ : ∃ er : Int, er = if min k 1024 < 1024 then 0 else 2 := ⟨_, rfl⟩
      rw [← her] at e1
      have e2 : twQ 1 1 (Qf (min k 1024)) (-1) 5 = Qf 1024 := by
        rw [e2]
        split
        · rw [show min k 1024 + 1 = 1024 by have := HN.out; omega]
        · rw [show min k 1024 = 1024 by omega]
      have HE := Lib.hid (And.intro e1 e2)
      have HER := Lib.hid her
      clear e1 e2 her
      go_upto_region 12 with (go_at_call 18; refine HT.out.mono ?_; rintro e w2 ⟨rfl, h2, k2⟩)
      rw [HE.out.1]
      rw [HE.out.2] at h2
      have HG := Lib.hid (h2)
      have KG := Lib.hid (HW.out.trans (k2.below fun _ h => h))
      clear h2 k2
      have HW3 := Lib.hid (waits15_any HG.out (-1) (by decide))
      rw [qf_len] at HW3
      by_cases hf : k < 1024
      · have hfi : (k : Int) < 1024 := by omega
        obtain rfl : er = 0 := by rw [HER.out, if_pos (by omega)]
        go_wp2_with fail
        refine HW3.out.mono ?_
        rintro e w3 ⟨rfl, b3⟩
        have B3 := Lib.hid (KG.out.trans (b3.mono KG.out.size))
        have G3 := Lib.hid (HG.out.below b3)
        clear b3
        go_wp2_with fail
        refine (twice15_any G3.out (-1) 2000 (by decide)).mono ?_
        rintro e w4 ⟨rfl, h4, k4⟩
        rw [(qf_tw3 1024 (by decide)).1]
        rw [(qf_tw3 1024 (by decide)).2] at h4
        have G4 := Lib.hid h4
        have B4 := Lib.hid (B3.out.trans (k4.below fun _ h => h))
        clear h4 k4
        go_wp2_with fail
        refine (put15_any G4.out lg (by decide) (by decide) (by decide)).mono ?_
        rintro e w5 ⟨rfl, h5, k5⟩
        rw [(qf_other 1024).1]
        have G5 := Lib.hid h5
        have B5 := Lib.hid (B4.out.trans (k5.below fun _ h => h))
        clear h5 k5
        go_wp2_with fail
        refine (clear15_any G5.out (-1) (by decide)).mono ?_
        rintro e w6 ⟨rfl, h6, k6⟩
        rw [show clE 1 1 (-1) = 0 by decide]
        have G6 := Lib.hid (waits15_any h6 (-1) (by decide))
        rw [(qf_other 1024).2] at G6
        have B6 := Lib.hid (B5.out.trans (k6.below fun _ h => h))
        clear h6 k6
        go_wp2_with fail
        refine G6.out.mono ?_
        rintro e w7 ⟨rfl, b7⟩
        have B7 := Lib.hid (B6.out.trans (b7.mono B6.out.size))
        clear b7
        go_wp2_with fail
        refine (awake15_any _).mono ?_
        rintro e w8 ⟨rfl, b8⟩
        have B8 := Lib.hid (B7.out.trans (b8.mono B7.out.size))
        clear b8
        go_wp2_with fail
        go_ret
        exact ⟨rfl, B8.out⟩
      · have hfi : ¬ (k : Int) < 1024 := by omega
        obtain rfl : er = 2 := by rw [HER.out, if_neg (by omega)]
        go_wp2_with fail
        refine HW3.out.mono ?_
        rintro e w3 ⟨rfl, b3⟩
        have B3 := Lib.hid (KG.out.trans (b3.mono KG.out.size))
        have G3 := Lib.hid (HG.out.below b3)
        clear b3
        go_wp2_with fail
        refine (twice15_any G3.out (-1) 2000 (by decide)).mono ?_
        rintro e w4 ⟨rfl, h4, k4⟩
        rw [(qf_tw3 1024 (by decide)).1]
        rw [(qf_tw3 1024 (by decide)).2] at h4
        have G4 := Lib.hid h4
        have B4 := Lib.hid (B3.out.trans (k4.below fun _ h => h))
        clear h4 k4
        go_wp2_with fail
        refine (put15_any G4.out lg (by decide) (by decide) (by decide)).mono ?_
        rintro e w5 ⟨rfl, h5, k5⟩
        rw [(qf_other 1024).1]
        have G5 := Lib.hid h5
        have B5 := Lib.hid (B4.out.trans (k5.below fun _ h => h))
        clear h5 k5
        go_wp2_with fail
        refine (clear15_any G5.out (-1) (by decide)).mono ?_
        rintro e w6 ⟨rfl, h6, k6⟩
        rw [show clE 1 1 (-1) = 0 by decide]
        have G6 := Lib.hid (waits15_any h6 (-1) (by decide))
        rw [(qf_other 1024).2] at G6
        have B6 := Lib.hid (B5.out.trans (k6.below fun _ h => h))
        clear h6 k6
        go_wp2_with fail
        refine G6.out.mono ?_
        rintro e w7 ⟨rfl, b7⟩
        have B7 := Lib.hid (B6.out.trans (b7.mono B6.out.size))
        clear b7
        go_wp2_with fail
        refine (awake15_any _).mono ?_
        rintro e w8 ⟨rfl, b8⟩
        have B8 := Lib.hid (B7.out.trans (b8.mono B7.out.size))
        clear b8
        go_wp2_with fail
        go_ret
        exact ⟨rfl, B8.out⟩
end Go.Proofs.Ytkljokmhfoannaa
