/-
  Layer 5 (fs): the walk of the law FsSurvives. Conditions: texts within the form's reach.
-/
import Derived.Test.YtoidfjglimafbaaDr
import Derived.Test.YtoidfjglimafbaaDv
import Derived.Test.YtoidfjglimafbaaDe
import Derived.Test.YtoidfjglimafbaaBt
import Derived.StillTailTactics
namespace Go.Proofs.Ytoidfjglimafbaa
open Go.RowKit Go.Lib
set_option linter.unusedVariables false

theorem cat_str4 (P : Program) (X t : List UInt8) (h : X.length + t.length ≤ 4611686018427387904) (w : World) : (Op.stringOp .add ⟨X.toArray⟩ ⟨t.toArray⟩).run P w = .ok (.string ⟨(X ++ t).toArray⟩) w := by
  have e : (⟨(X ++ t).toArray⟩ : ByteArray) = ⟨X.toArray⟩ ++ ⟨t.toArray⟩ := by
    apply ByteArray.ext
    simp
  rw [e]
  refine run_string_add_sum w _ _ ?_
  rw [size_mkl X, size_mkl t]
  omega
theorem wf_range {z : Int} (h : (Lit.int .i64 z).wf = true) : -9223372036854775808 ≤ z ∧ z ≤ 9223372036854775807 := by
  simpa [Lit.wf, IntKind.min, IntKind.max, IntKind.bits, IntKind.signed] using h

/-- A list of numbers that came in, as Crash asks for it. -/
theorem kp_of_row {own : Nat → Prop} {w : World} {ka : Option Addr} {kl kc : Nat} {zs : List Int} (h : IsRow .i64 w ka kl kc zs) (ho : ∀ b, b < w.heap.size → own b) : ∃ ks : List Int, ks.length = kl ∧ Kp own w ka ks := by
  by_cases h0 : 0 < kl
  · obtain ⟨b, off, rfl, hb, hlz, hcm, hlc, hcell, hwz⟩ := h.at_ h0
    refine ⟨zs.take kl, by rw [List.length_take]; omega, fun n hn => wf_range (hwz n (List.mem_of_mem_take hn)), .inr ⟨b, off, rfl, ho b hb, fun i hi => ?_⟩⟩
    rw [List.length_take] at hi
    rw [hcell i (by omega), List.getElem_take, List.getD_eq_getElem?_getD, List.getElem?_eq_getElem (by omega)]
    rfl
  · exact ⟨[], by simp; omega, Kp.nil _ _ _⟩
theorem Kp.back {own own' : Nat → Prop} {w w' : World} {a : Option Addr} {ks : List Int} (h : Kp own w a ks) (k : Kp own' w' a ks) : Kp own w' a ks := by
  refine ⟨h.1, ?_⟩
  rcases h.2 with h | ⟨b, off, rfl, h2, h3⟩
  · exact .inl h
  · rcases k.2 with k | ⟨b', off', e, k2, k3⟩
    · exact .inl k
    · cases e
      exact .inr ⟨b, off, rfl, h2, k3⟩
theorem nk_size (n : Nat) : (⟨(nk n).toArray⟩ : ByteArray).size ≤ maxLen := by
  rw [size_mkl (nk n)]
  unfold nk maxLen
  split
  · simp
  · split <;> simp
theorem cl_start (w : World) (t u v : TypeId) : Cl w.heap.size (w.heap.size + 1) (w.heap.size + 1 + 1) (((w.alloc (.cells #[.string ⟨#[97]⟩, .string ⟨#[98]⟩, .string ⟨#[99]⟩] t)).alloc (.cells #[.string ⟨#[]⟩, .string ⟨#[]⟩, .string ⟨#[]⟩] u)).alloc (.cells #[.string ⟨#[]⟩, .string ⟨#[]⟩, .string ⟨#[]⟩] v)) (fun _ => []) (fun _ => 0) := by
  have s1 : (w.alloc (.cells #[.string ⟨#[97]⟩, .string ⟨#[98]⟩, .string ⟨#[99]⟩] t)).heap.size = w.heap.size + 1 := by simp
  have s2 : ((w.alloc (.cells #[.string ⟨#[97]⟩, .string ⟨#[98]⟩, .string ⟨#[99]⟩] t)).alloc (.cells #[.string ⟨#[]⟩, .string ⟨#[]⟩, .string ⟨#[]⟩] u)).heap.size = w.heap.size + 1 + 1 := by simp
  have h1 := heap_alloc_new w (.cells #[.string ⟨#[97]⟩, .string ⟨#[98]⟩, .string ⟨#[99]⟩] t)
  have h1 := (Below.heap_alloc _ (.cells #[.string ⟨#[]⟩, .string ⟨#[]⟩, .string ⟨#[]⟩] u) _ (by rw [s1]; omega)).trans h1
  have h1 := (Below.heap_alloc _ (.cells #[.string ⟨#[]⟩, .string ⟨#[]⟩, .string ⟨#[]⟩] v) _ (by rw [s2]; omega)).trans h1
  have h2 := heap_alloc_new (w.alloc (.cells #[.string ⟨#[97]⟩, .string ⟨#[98]⟩, .string ⟨#[99]⟩] t)) (.cells #[.string ⟨#[]⟩, .string ⟨#[]⟩, .string ⟨#[]⟩] u)
  rw [s1] at h2
  have h2 := (Below.heap_alloc _ (.cells #[.string ⟨#[]⟩, .string ⟨#[]⟩, .string ⟨#[]⟩] v) _ (by rw [s2]; omega)).trans h2
  have h3 := heap_alloc_new ((w.alloc (.cells #[.string ⟨#[97]⟩, .string ⟨#[98]⟩, .string ⟨#[99]⟩] t)).alloc (.cells #[.string ⟨#[]⟩, .string ⟨#[]⟩, .string ⟨#[]⟩] u)) (.cells #[.string ⟨#[]⟩, .string ⟨#[]⟩, .string ⟨#[]⟩] v)
  rw [s2] at h3
  refine ⟨fun j hj => ?_, fun j hj => ⟨?_, frozen_of h3 j⟩, fun j hj => ⟨?_, frozen_of h2 j⟩⟩
  · rw [cell_of h1 j]
    have : j = 0 ∨ j = 1 ∨ j = 2 := by omega
    rcases this with rfl | rfl | rfl <;> rfl
  · rw [cell_of h3 j]
    have : j = 0 ∨ j = 1 ∨ j = 2 := by omega
    rcases this with rfl | rfl | rfl <;> rfl
  · rw [cell_of h2 j]
    have : j = 0 ∨ j = 1 ∨ j = 2 := by omega
    rcases this with rfl | rfl | rfl <;> rfl
theorem own_lt5 (B n : Nat) : ∃ own : Nat → Prop, own = fun b => b < B ∨ (n ≤ b ∧ b < n + 3) := ⟨_, rfl⟩
set_option maxRecDepth 100000 in
set_option maxHeartbeats 1000000 in
theorem surv_e1 (a : Option Addr) (cap : Nat) (ts : List (List UInt8)) (sy : Int) (hsy : (Lit.int .i64 sy).wf = true) (ka : Option Addr) (kl kc : Nat) (zs : List Int) (w : World) (hr : Rd w a ts) (hl : ts.length ≤ maxLen) (hc : ts.length ≤ cap) (hk : IsRow .i64 w ka kl kc zs) (h : 30 < (ts.length : Int)) : Calls Try.prog 3 #[.slice a ts.length cap, .int .i64 sy, .slice ka kl kc] w fun e w' => e = .returned (.bool true) ∧ Below w.heap.size w w' := by
  unfold maxLen at hl
  clear hr hk hsy
  go_enter Try.func3, Try.ntmps3
  go_wp2_with fail
  refine (new_any _).mono ?_
  rintro e w1 ⟨rfl, hd, hb⟩
  have HB := Lib.hid hb
  clear hd hb
  go_wp2_with (go_at_call 9; refine (awake_any _).mono ?_; rintro e w2 ⟨rfl, bb⟩)
  go_ret
  exact ⟨rfl, bt HB.out bb⟩
set_option maxRecDepth 100000 in
set_option maxHeartbeats 1000000 in
theorem surv_e2 (a : Option Addr) (cap : Nat) (ts : List (List UInt8)) (sy : Int) (hsy : (Lit.int .i64 sy).wf = true) (ka : Option Addr) (kl kc : Nat) (zs : List Int) (w : World) (hr : Rd w a ts) (hl : ts.length ≤ maxLen) (hc : ts.length ≤ cap) (hk : IsRow .i64 w ka kl kc zs) (h : (ts.length : Int) ≤ 30) (h2 : 10 < (kl : Int)) : Calls Try.prog 3 #[.slice a ts.length cap, .int .i64 sy, .slice ka kl kc] w fun e w' => e = .returned (.bool true) ∧ Below w.heap.size w w' := by
  unfold maxLen at hl
  clear hr hk hsy
  go_enter Try.func3, Try.ntmps3
  go_wp2_with fail
  refine (new_any _).mono ?_
  rintro e w1 ⟨rfl, hd, hb⟩
  have HB := Lib.hid hb
  clear hd hb
  go_wp2_with (go_at_call 9; refine (awake_any _).mono ?_; rintro e w2 ⟨rfl, bb⟩)
  go_ret
  exact ⟨rfl, bt HB.out bb⟩
set_option maxRecDepth 100000 in
set_option maxHeartbeats 4000000 in
theorem surv_main (a : Option Addr) (cap : Nat) (ts : List (List UInt8)) (sy : Int) (hsy : (Lit.int .i64 sy).wf = true) (ka : Option Addr) (kl kc : Nat) (zs : List Int) (w : World) (hr : Rd w a ts) (hl : ts.length ≤ maxLen) (hc : ts.length ≤ cap) (hk : IsRow .i64 w ka kl kc zs) (h : (ts.length : Int) ≤ 30) (h2 : (kl : Int) ≤ 10) : Calls Try.prog 3 #[.slice a ts.length cap, .int .i64 sy, .slice ka kl kc] w fun e w' => e = .returned (.bool true) ∧ Below w.heap.size w w' := by
  clear hl
  obtain ⟨ks, hkl, hkp⟩ := kp_of_row (own := fun b => b < w.heap.size) hk fun b hb => hb
  have HR := Lib.hid hr
  have HKP := Lib.hid hkp
  have HKL := Lib.hid hkl
  clear hr hk hsy hkp hkl
  go_enter Try.func3, Try.ntmps3
  go_wp2_with fail
  refine (new_any _).mono ?_
  rintro e w1 ⟨rfl, hd, hb⟩
  go_wp2
  have HL := Lib.hid h
  have HL2 := Lib.hid h2
  clear h h2
  have hb3 : Below w1.heap.size w1 (((w1.alloc (.cells #[.string ⟨#[97]⟩, .string ⟨#[98]⟩, .string ⟨#[99]⟩] 9)).alloc (.cells #[.string ⟨#[]⟩, .string ⟨#[]⟩, .string ⟨#[]⟩] 27)).alloc (.cells #[.string ⟨#[]⟩, .string ⟨#[]⟩, .string ⟨#[]⟩] 27)) := (((Below.refl _ _).alloc (Nat.le_refl _) _).alloc (by simp) _).alloc (by simp; omega) _
  have hd3 := (hd.fresh hb3)
  have hcl := cl_start w1 9 27 27
  have hsz : (((w1.alloc (.cells #[.string ⟨#[97]⟩, .string ⟨#[98]⟩, .string ⟨#[99]⟩] 9)).alloc (.cells #[.string ⟨#[]⟩, .string ⟨#[]⟩, .string ⟨#[]⟩] 27)).alloc (.cells #[.string ⟨#[]⟩, .string ⟨#[]⟩, .string ⟨#[]⟩] 27)).heap.size = w1.heap.size + 3 := by simp
  rw [hsz] at hd3
  have HB := Lib.hid (hb.trans (hb3.mono hb.size))
  have hww : w.heap.size ≤ w1.heap.size := hb.size
  obtain ⟨own, hown⟩ := own_lt5 w.heap.size w1.heap.size
  rw [← hown] at hd3
  have HOW := Lib.hid hown
  have HD := Lib.hid hd3
  have HCL := Lib.hid hcl
  clear hb hb3 hd3 hcl hsz hd hown
  generalize (((w1.alloc (.cells #[.string ⟨#[97]⟩, .string ⟨#[98]⟩, .string ⟨#[99]⟩] 9)).alloc (.cells #[.string ⟨#[]⟩, .string ⟨#[]⟩, .string ⟨#[]⟩] 27)).alloc (.cells #[.string ⟨#[]⟩, .string ⟨#[]⟩, .string ⟨#[]⟩] 27)) = W3 at HB HD HCL ⊢
  generalize w1.heap.size = nb at HOW HCL hww ⊢
  have ho0 : ∀ b, b < w.heap.size → own b := fun b hb => by rw [HOW.out]; exact .inl hb
  have ho1 : own nb := by rw [HOW.out]; exact .inr ⟨Nat.le_refl _, by omega⟩
  have ho2 : own (nb + 1) := by rw [HOW.out]; exact .inr ⟨by omega, by omega⟩
  have ho3 : own (nb + 1 + 1) := by rw [HOW.out]; exact .inr ⟨by omega, by omega⟩
  have HO0 := Lib.hid ho0
  clear ho0
  go_loopw [11] (fun i wr => ∃ n : Nat, n ≤ 3 ∧ i = .int .i64 n ∧ DiskAt own wr (w.heap.size + 1) (calm (MK n)) ∧ Cl nb (nb + 1) (nb + 1 + 1) wr (fun _ => []) (fun _ => 0) ∧ Below w.heap.size w wr) (fun i _ => 3 - (intOf i).toNat)
  case atStart => exact ⟨0, by omega, rfl, HD.out, HCL.out, HB.out⟩
  case round =>
    obtain ⟨n, hn, rfl, hd, hcl, hbw⟩ := hrel
    clear HD HCL HB
    by_cases hlt : n < 3
    · have hc := hcl.1 n hlt
      have hnb := hd.own ho1
      have C := make_any hd ⟨(nk n).toArray⟩ (nk_size n)
      rw [show (⟨(nk n).toArray⟩ : ByteArray).data.toList = nk n from rfl, mk_make n hlt] at C
      have HC := Lib.hid C
      have HD := Lib.hid hd
      have HCL := Lib.hid hcl
      have HB := Lib.hid hbw
      clear C hd hcl hbw
      go_wp2_with fail
      refine HC.out.mono ?_
      rintro e w3 ⟨rfl, hd, hk⟩
      have HD3 := Lib.hid hd
      have HCL3 := Lib.hid (HCL.out.keeps hk ho1 ho2 ho3)
      have HB3 := Lib.hid (HB.out.trans (hk.below HO0.out))
      clear hd hk HC
      go_wp2
      go_roundw
      case rel => exact ⟨n + 1, by omega, by go_num, HD3.out, HCL3.out, HB3.out⟩
      case measure => simp [intOf]; omega
    · have hne : n = 3 := by omega
      subst hne
      have HD := Lib.hid (show DiskAt own wr (w.heap.size + 1) (calm (F3 (fun _ => []) (fun _ => 0))) from hd)
      have HCL := Lib.hid hcl
      have HB := Lib.hid hbw
      clear hd hcl hbw
      rw [show ((3 : Nat) : Int) = 3 from rfl]
      go_wp2
      go_loopw [12] (fun i wr => ∃ (q : Nat) (A : Nat → List UInt8) (Sr : Nat → Nat), q ≤ ts.length ∧ i = .int .i64 q ∧ DiskAt own wr (w.heap.size + 1) (calm (F3 A Sr)) ∧ Cl nb (nb + 1) (nb + 1 + 1) wr A Sr ∧ Below w.heap.size w wr ∧ Bd A Sr (40 * q)) (fun i _ => ts.length - (intOf i).toNat)
      case atStart => exact ⟨0, _, _, Nat.zero_le _, rfl, HD.out, HCL.out, HB.out, fun j hj => ⟨Nat.le_refl _, Nat.zero_le _⟩⟩
      case round =>
        obtain ⟨q, A, Sr, hq, rfl, hd, hcl, hbw, hbd⟩ := hrel
        clear HD HCL HB
        have HD := Lib.hid hd
        have HCL := Lib.hid hcl
        have HB := Lib.hid hbw
        have HBD := Lib.hid hbd
        clear hd hcl hbw hbd
        by_cases hlt : q < ts.length
        · obtain ⟨b, off, rfl, hb, hcell⟩ : ∃ b off, a = some ⟨b, off, none⟩ ∧ b < w.heap.size ∧ w.cell? ⟨b, off + q, none⟩ = some (.string ⟨ts[q].toArray⟩) := by
            rcases HR.out with rfl | ⟨b, off, h1, h2, h3⟩
            · simp at hlt
            · exact ⟨b, off, h1, h2, h3 q hlt⟩
          have hob : own b := HO0.out b hb
          have hct : wr.cell? ⟨b, off + q, none⟩ = some (.string ⟨ts[q].toArray⟩) := (HB.out.cell (p := ⟨b, off + q, none⟩) hb).trans hcell
          generalize ts[q] = t at hct hcell
          clear hcell
          have e1 : (q : Int) % 3 = ((q % 3 : Nat) : Int) := by omega
          have hk3 : q % 3 < 3 := Nat.mod_lt _ (by omega)
          generalize q % 3 = k at e1 hk3
          have hk3i : (k : Int) < 3 := by omega
          have hq30 : (q : Int) < 30 := by have := HL.out; omega
          have hbwr := HD.out.own hob
          have hnwr := HD.out.own ho1
          have hswr := HD.out.own ho2
          have hawr := HD.out.own ho3
          by_cases h40 : 40 < (t.length : Int)
          · go_wp2_with (go_at_call 9; refine (awake_any _).mono ?_; rintro e w2 ⟨rfl, bb⟩)
            go_ret
            exact ⟨rfl, HB.out.trans (bb.mono HB.out.size)⟩
          · have h40' : (t.length : Int) ≤ 40 := by omega
            have hAk := HBD.out k hk3
            have hcN := HCL.out.1 k hk3
            have hcA := (HCL.out.2.1 k hk3).1
            have hAl : (A k).length ≤ 1200 := by omega
            have hcat := cat_str4 Try.prog (A k) t (by omega)
            have C := append_any HD.out.drew ⟨(nk k).toArray⟩ ⟨t.toArray⟩ (nk_size k) (by rw [size_mkl t]; unfold maxLen; omega)
            rw [show (⟨(nk k).toArray⟩ : ByteArray).data.toList = nk k from rfl, show (⟨t.toArray⟩ : ByteArray).data.toList = t from rfl, f3_append A Sr k hk3 t (by omega)] at C
            have HC := Lib.hid C
            have HAK := Lib.hid hAk
            have HAL := Lib.hid hAl
            have HBD2 := Lib.hid (HBD.out.app k t (by omega))
            clear C hAk hAl h40
            go_wp2
            go_still_tail 9, (by kernel_rfl)
            change wpList _ _ _ _ _ wr.drew
            go_wp2_with fail
            refine HC.out.mono ?_
            rintro e w3 ⟨rfl, hd, hk⟩
            have hcl3 := HCL.out.drew.keeps hk ho1 ho2 ho3
            have hct3 : w3.cell? ⟨b, off + q, none⟩ = some (.string ⟨t.toArray⟩) := (hk.cell b _ hob).trans hct
            have hcA3 := (hcl3.2.1 k hk3).1
            have hfA3 := (hcl3.2.1 k hk3).2
            have hcN3 := hcl3.1 k hk3
            have hb3 := hd.own hob
            have ha3 := hd.own ho3
            have hn3 := hd.own ho1
            have hne : b ≠ nb + 1 + 1 := by omega
            have HD3 := Lib.hid ((hd.setCell (a := ⟨nb + 1 + 1, k, none⟩) ho3 (.string ⟨(A k ++ t).toArray⟩)).drew)
            have HCL3 := Lib.hid ((hcl3.setAll (by omega) (by omega) k hk3 t HAK.out.1).drew)
            have HB3 := Lib.hid ((((HB.out.trans ((Below.refl _ _).drew)).trans (hk.below HO0.out)).setCell (p := ⟨nb + 1 + 1, k, none⟩) (show w.heap.size ≤ nb + 1 + 1 by omega) (.string ⟨(A k ++ t).toArray⟩)).drew)
            clear hd hcl3 hk HC hct hcN hcA
            go_wp2
            cases hbit : (bits BinOp.and IntKind.i64 (sy / 2 ^ q) 1 == 1) with
            | false =>
              go_still_tail 10, (by kernel_rfl)
              change wpList _ _ _ _ _ w3.drew
              go_wp2
              go_roundw
              case rel => exact ⟨q + 1, _, _, by omega, by go_num, HD3.out, HCL3.out, HB3.out, HBD2.out⟩
              case measure => simp [intOf]; omega
            | true =>
              have C := sync_any HD3.out ⟨(nk k).toArray⟩ (nk_size k)
              rw [show (⟨(nk k).toArray⟩ : ByteArray).data.toList = nk k from rfl, f3_sync _ Sr k hk3] at C
              have HC := Lib.hid C
              clear C
              go_still_tail 10, (by kernel_rfl)
              change wpList _ _ _ _ _ w3.drew
              go_wp2_with fail
              refine HC.out.mono ?_
              rintro e w5 ⟨rfl, hd, hk⟩
              have hcl5 := HCL3.out.keeps hk ho1 ho2 ho3
              have hcA5 := (hcl5.2.1 k hk3).1
              rw [upd_same] at hcA5
              have hcS5 := (hcl5.2.2 k hk3).1
              have hfS5 := (hcl5.2.2 k hk3).2
              have ha5 := hd.own ho3
              have hs5 := hd.own ho2
              have HD5 := Lib.hid (hd.setCell (a := ⟨nb + 1, k, none⟩) ho2 (.string ⟨(A k ++ t).toArray⟩))
              have hcl6 := hcl5.setSure (by omega) (by omega) k hk3
              rw [upd_same] at hcl6
              have HCL5 := Lib.hid hcl6
              have hbd6 := HBD2.out.syn k
              have HBD6 := Lib.hid hbd6
              have HB5 := Lib.hid ((HB3.out.trans (hk.below HO0.out)).setCell (p := ⟨nb + 1, k, none⟩) (show w.heap.size ≤ nb + 1 by omega) (.string ⟨(A k ++ t).toArray⟩))
              clear hd hk hcl5 hcl6 hbd6 HC
              go_wp2
              go_roundw
              case rel =>
                have h7 := HD5.out
                have h8 := HBD6.out
                rw [upd_same] at h7 h8
                exact ⟨q + 1, _, _, by omega, by go_num, h7, HCL5.out, HB5.out, h8⟩
              case measure => simp [intOf]; omega
        · have hqe : q = ts.length := by omega
          have HQE := Lib.hid hqe
          clear hqe
          have hkp : Kp own wr ka ks := (show Kp own w ka ks from ⟨HKP.out.1, HKP.out.2.imp id fun ⟨b, off, h1, h2, h3⟩ => ⟨b, off, h1, HO0.out b h2, h3⟩⟩).back ((HKP.out.keeps (Keeps.of_below HB.out fun b hb => hb)))
          have C := crash_any HD.out ka kc ks hkp (by have := HL2.out; have := HKL.out; unfold maxLen; omega)
          rw [HKL.out, f3_crash] at C
          have hM : ∀ j < 3, Sr j ≤ mk3 ks A Sr j ∧ mk3 ks A Sr j ≤ (A j).length := fun j hj => ⟨keepN_ge (keepAt ks j) ⟨A j, Sr j⟩, keepN_le (keepAt ks j) ⟨A j, Sr j⟩ (HBD.out j hj).1⟩
          generalize mk3 ks A Sr = M at C hM
          have HC := Lib.hid C
          have HM := Lib.hid hM
          clear C hM hkp
          go_wp2_with fail
          refine HC.out.mono ?_
          rintro e w7 ⟨rfl, hd, hk⟩
          have HD7 := Lib.hid hd
          have HCL7 := Lib.hid (HCL.out.keeps hk ho1 ho2 ho3)
          have HB7 := Lib.hid (HB.out.trans (hk.below HO0.out))
          clear hd hk HC HD HCL HB
          go_wp2
          go_loopw [14] (fun i wr => ∃ n : Nat, n ≤ 3 ∧ i = .int .i64 n ∧ DiskAt own wr (w.heap.size + 1) (calm (F3 (fun j => (A j).take (M j)) M)) ∧ Cl nb (nb + 1) (nb + 1 + 1) wr A Sr ∧ Below w.heap.size w wr) (fun i _ => 3 - (intOf i).toNat)
          case atStart => exact ⟨0, by omega, rfl, HD7.out, HCL7.out, HB7.out⟩
          case round =>
            obtain ⟨n, hn, rfl, hd, hcl, hbw⟩ := hrel
            clear HD7 HCL7 HB7
            by_cases hlt : n < 3
            · have hlti : (n : Int) < 3 := by omega
              obtain ⟨f1, f2, f3⟩ := f3_read (fun j => (A j).take (M j)) M n hlt
              have hc := hcl.1 n hlt
              have hnb := hd.own ho1
              have C := read_any hd ⟨(nk n).toArray⟩ (nk_size n)
              rw [show (⟨(nk n).toArray⟩ : ByteArray).data.toList = nk n from rfl, f1, f2] at C
              have HC := Lib.hid C
              have F2 := Lib.hid f2
              have F3 := Lib.hid f3
              have HD := Lib.hid hd
              have HCL := Lib.hid hcl
              have HB := Lib.hid hbw
              clear C hd hcl hbw f1 f2 f3
              go_wp2_with fail
              refine HC.out.mono ?_
              rintro e w8 ⟨rfl, hb8⟩
              have hd := HD.out.below hb8
              have hcl := HCL.out.keeps (Keeps.of_below hb8 fun b hb => HD.out.own hb) ho1 ho2 ho3
              have hc := hcl.1 n hlt
              have hnb := hd.own ho1
              have C := sure_any hd ⟨(nk n).toArray⟩ (nk_size n)
              rw [show (⟨(nk n).toArray⟩ : ByteArray).data.toList = nk n from rfl, F2.out, F3.out] at C
              have HC2 := Lib.hid C
              have HD8 := Lib.hid hd
              have HCL8 := Lib.hid hcl
              have HB8 := Lib.hid (HB.out.trans (hb8.mono HB.out.size))
              clear C hd hcl HC HD HCL HB F2 F3 hb8
              go_wp2_with fail
              refine HC2.out.mono ?_
              rintro e w9 ⟨rfl, hb9⟩
              have hd := HD8.out.below hb9
              have hcl := HCL8.out.keeps (Keeps.of_below hb9 fun b hb => HD8.out.own hb) ho1 ho2 ho3
              have hcS := (hcl.2.2 n hlt).1
              have hcA := (hcl.2.1 n hlt).1
              have hs9 := hd.own ho2
              have ha9 := hd.own ho3
              obtain ⟨m1, m2⟩ := HM.out n hlt
              have hTl : ((A n).take (M n)).length = M n := by rw [List.length_take]; omega
              have hUl : ((A n).take (Sr n)).length = Sr n := by rw [List.length_take]; omega
              have htk : (A n).take (M n) = (A n).take (M n) := rfl
              have HD9 := Lib.hid hd
              have HCL9 := Lib.hid hcl
              have HB9 := Lib.hid (HB8.out.trans (hb9.mono HB8.out.size))
              generalize hT : (A n).take (M n) = T at hTl ⊢
              generalize hU : (A n).take (Sr n) = U at hUl hcS
              generalize hX : A n = X at hT hcA m2
              generalize M n = m at hT hTl m1 m2 ⊢
              generalize Sr n = u at hUl m1
              have HT := Lib.hid hT
              clear hT hU hX hd hcl HD8 HCL8 HB8 hb9 HC2 htk
              have h1 : (u : Int) ≤ (m : Int) := by omega
              have h2 : (m : Int) ≤ (X.length : Int) := by omega
              have hmu : ¬ m < u := by omega
              have hxm : ¬ X.length < m := by omega
              have hcmp : (!T == ((⟨X.toArray⟩ : ByteArray).extract 0 m).toList) = false := by
                rw [ByteArray.toList_eq, extract_data, Nat.sub_zero, List.drop_zero]
                rw [show (⟨X.toArray⟩ : ByteArray).data.toList = X from rfl, HT.out]
                simp
              clear m1 m2
              go_wp2
              go_roundw
              case rel => exact ⟨n + 1, by omega, by go_num, HD9.out, HCL9.out, HB9.out⟩
              case measure => simp [intOf]; omega
            · have hne : n = 3 := by omega
              subst hne
              have HB := Lib.hid hbw
              clear hd hcl hbw
              go_wp2_with (go_at_call 9; refine (awake_any _).mono ?_; rintro e w2 ⟨rfl, bb⟩)
              go_ret
              exact ⟨rfl, HB.out.trans (bb.mono HB.out.size)⟩

theorem walk_FsSurvives (a : Option Addr) (cap : Nat) (ts : List (List UInt8)) (sy : Int) (hsy : (Lit.int .i64 sy).wf = true) (ka : Option Addr) (kl kc : Nat) (zs : List Int) (w : World) (hr : Rd w a ts) (hl : ts.length ≤ maxLen) (hc : ts.length ≤ cap) (hk : IsRow .i64 w ka kl kc zs) : Calls Try.prog 3 #[.slice a ts.length cap, .int .i64 sy, .slice ka kl kc] w fun e w' => e = .returned (.bool true) ∧ Below w.heap.size w w' := by
  by_cases h : 30 < (ts.length : Int)
  · exact surv_e1 a cap ts sy hsy ka kl kc zs w hr hl hc hk h
  by_cases h2 : 10 < (kl : Int)
  · exact surv_e2 a cap ts sy hsy ka kl kc zs w hr hl hc hk (by omega) h2
  exact surv_main a cap ts sy hsy ka kl kc zs w hr hl hc hk (by omega) (by omega)
end Go.Proofs.Ytoidfjglimafbaa
