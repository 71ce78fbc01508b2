/-
  Layer 6 (wal), contracts of remove (with each, and its closure) and of mayMake. Conditions: none.
-/
import Derived.Test.YthikedhbjphmeaaLg
import Derived.Test.YthikedhbjphmeaaDr
namespace Go.Proofs.Ythikedhbjphmeaa
open Go.RowKit Go.Lib
set_option linter.unusedVariables false
set_option linter.unusedSimpArgs false

theorem geq_skip (n : Nat) (bl : Int) : (n : Int) < bl ∨ bl ≤ (n : Int) := by omega
set_option maxRecDepth 100000 in
set_option maxHeartbeats 1000000 in
theorem rtell_skip {B : Nat} {w : World} {bl : Int} (c1 : w.cell? ⟨B + 1, 0, none⟩ = some (.int .i64 bl)) (n : Nat) (hlt : bl ≤ (n : Int)) :
    Calls Try.prog 41 #[.int .i64 (n : Int), .pointer (some ⟨B + 1, 0, none⟩), .pointer (some ⟨B, 0, none⟩)] w fun e w' => e = .returned (.int .i64 0) ∧ w = w' := by
  go_enter Try.func41, Try.ntmps41
  go_wp2
  go_ret
  exact ⟨rfl, rfl⟩
set_option maxRecDepth 100000 in
set_option maxHeartbeats 1000000 in
theorem rtell_yes {own : Nat → Prop} {B : Nat} {w : World} {d : Nat} {bl : Int} {S : Ds} (hd : DiskAt own w d S) (hB : B + 1 < w.heap.size) (c0 : w.cell? ⟨B, 0, none⟩ = some (.pointer (some ⟨d, 0, none⟩))) (c1 : w.cell? ⟨B + 1, 0, none⟩ = some (.int .i64 bl)) (n : Nat) (hn : n ≤ 99999998) (hlt : (n : Int) < bl) :
    Calls Try.prog 41 #[.int .i64 (n : Int), .pointer (some ⟨B + 1, 0, none⟩), .pointer (some ⟨B, 0, none⟩)] w fun e w' => e = .returned (.int .i64 (S.remove (lname n)).2) ∧ DiskAt own w' d (S.remove (lname n)).1 ∧ Keeps own w w' := by
  have hB0 : B < w.heap.size := by omega
  have hF := Lib.hid (file_any n (by omega))
  have HD := Lib.hid hd
  clear hd
  go_enter Try.func41, Try.ntmps41
  go_wp2_with fail
  refine below_tail 3 (by kernel_rfl) (by kernel_rfl) ?_
  simp only [List.take_succ_cons, List.take_zero, List.drop_succ_cons, List.drop_zero]
  repeat (first
    | go_big_quiet_skip
    | (go_big_quiet_want
       first
       | (refine BigFrame.quiet_move _ rfl ?_)
       | (refine BigFrame.quiet_assign _ rfl ?_)
       | (unfold Oper.quiet
          apply Exists.intro
          refine ⟨fun w' hw' => ?_, ?_⟩
          · (obtain ⟨hc', hf'⟩ := bcell hw'
             go_simp
             first
             | done
             | exact rfl
             | (go_at_call 29; refine (hF.out _).mono ?_; rintro e w'' ⟨rfl, bb⟩; exact ⟨rfl, bt hw' bb⟩)))
       go_big_quiet_on
       simp only [Act.put, Act.eval, List.setIfInBounds_toArray, List.set_cons_zero, List.set_cons_succ, Array.getD_eq_getD_getElem?, List.getElem?_toArray, List.getElem?_cons_zero, List.getElem?_cons_succ, Option.getD_some]))
  refine wpQuiet_nil ?_
  intro w' hw'
  have C := remove_any (HD.out.below hw') ⟨(lname n).toArray⟩ (lname_size n)
  rw [show (⟨(lname n).toArray⟩ : ByteArray).data.toList = lname n from rfl] at C
  have HC := Lib.hid C
  have HK := Lib.hid (Keeps.of_below hw' fun b (hb : own b) => HD.out.own hb)
  clear C hw'
  go_wp2_with fail
  refine HC.out.mono ?_
  rintro e w2 ⟨rfl, hd2, hk⟩
  have HK2 := Lib.hid (HK.out.trans hk)
  have HD2 := Lib.hid hd2
  clear hk hd2
  go_wp2
  go_ret
  exact ⟨rfl, HD2.out, HK2.out⟩

/-! ### each, with remove's closure -/
theorem rmL_cons (bl : Int) (S : Ds) (k : List UInt8) (r : List (List UInt8)) : rmL bl S (k :: r) = match numb k with
    | some n => if (n : Int) < bl then (if (S.remove k).2 = 0 then rmL bl (S.remove k).1 r else S.remove k) else rmL bl S r
    | none => rmL bl S r := by rw [rmL]; rfl
set_option maxRecDepth 100000 in
set_option maxHeartbeats 2000000 in
theorem reach_any {own : Nat → Prop} {W w : World} {d : Nat} {bl : Int} {S : Ds} (hd : DiskAt own W d S) (hb : Below W.heap.size W w) (hBs : W.heap.size + 2 ≤ w.heap.size) (c0 : w.cell? ⟨W.heap.size, 0, none⟩ = some (.pointer (some ⟨d, 0, none⟩))) (c1 : w.cell? ⟨W.heap.size + 1, 0, none⟩ = some (.int .i64 bl)) :
    Calls Try.prog 36 #[.pointer (some ⟨d, 0, none⟩), .func (.func 41) #[] #[.pointer (some ⟨W.heap.size + 1, 0, none⟩), .pointer (some ⟨W.heap.size, 0, none⟩)]] w fun e w' => e = .returned (.int .i64 (S.rm bl).2) ∧ DiskAt own w' d (S.rm bl).1 ∧ Keeps own W w' := by
  obtain ⟨f1, f2, f3⟩ := hd.facts
  have hN := names_any (hd.below hb)
  obtain ⟨F, hF⟩ : ∃ F, F = S.files.map (·.1) := ⟨_, rfl⟩
  have f3' : ∀ k ∈ F, k.length ≤ maxLen := fun k hk => by
    rw [hF] at hk
    obtain ⟨p, hp, rfl⟩ := List.mem_map.1 hk
    exact (f3 p hp).1
  have f2' : F.length ≤ 256 := by rw [hF, List.length_map]; exact f2
  have HR : Hid (S.rm bl = rmL bl S F) := Lib.hid (by rw [hF]; rfl)
  rw [← hF] at hN
  obtain ⟨B, hB⟩ : ∃ B, B = W.heap.size := ⟨_, rfl⟩
  have HD := Lib.hid hd
  have HB := Lib.hid hb
  have F3 := Lib.hid f3'
  have HBe := Lib.hid hB
  have C0 := Lib.hid c0
  have C1 := Lib.hid c1
  clear hd hb f1 f2 f3 f3' hF c0 c1
  rw [← hB] at hBs C0 C1 ⊢
  rw [HR.out]
  clear hB
  go_enter Try.func36, Try.ntmps36
  go_wp2_with fail
  refine hN.mono ?_
  rintro e w1 ⟨v, rfl, hn, hb1⟩
  clear hN
  unfold NamesV at hn
  obtain ⟨na, ncap, rfl⟩ := own_slice hn
  have hb01 := bt HB.out hb1
  have hc0 := (hb1.cell (p := ⟨B, 0, none⟩) (by show B < _; omega)).trans C0.out
  have hc1 := (hb1.cell (p := ⟨B + 1, 0, none⟩) (by show B + 1 < _; omega)).trans C1.out
  obtain ⟨own1, ho1⟩ : ∃ own1 : Nat → Prop, own1 = fun b => own b ∨ (W.heap.size ≤ b ∧ b < w1.heap.size) := ⟨_, rfl⟩
  have hd1 : DiskAt own1 w1 d S := by rw [ho1]; exact HD.out.fresh hb01
  have hk1 : Keeps own W w1 := Keeps.of_below hb01 fun b hb => HD.out.own hb
  have HO : Hid (∀ b, own b → own1 b) := Lib.hid fun b hb => by rw [ho1]; exact .inl hb
  have HO2 : Hid (∀ b, B ≤ b → b < w1.heap.size → own1 b) := Lib.hid fun b h1 h2 => by rw [ho1]; exact .inr ⟨by rw [← HBe.out]; exact h1, h2⟩
  have hB1 : B + 2 ≤ w1.heap.size := Nat.le_trans hBs hb1.size
  have HN := Lib.hid (own_low hn (show B ≤ _ by omega))
  have H1 := Lib.hid hd1
  have K1 := Lib.hid hk1
  have D0 := Lib.hid hc0
  have D1 := Lib.hid hc1
  clear hn HB hb1 hb01 hd1 hk1 hc0 hc1 C0 C1 ho1
  go_wp2
  go_loopw [13] (fun i wr => ∃ (q : Nat) (Sq : Ds), i = .int .i64 q ∧ q ≤ F.length ∧ Hid (DiskAt own1 wr d Sq) ∧ Hid (Keeps own W wr) ∧ Hid (Keeps own1 w1 wr) ∧ Hid (rmL bl S F = rmL bl Sq (F.drop q))) (fun i _ => F.length - (intOf i).toNat)
  case atStart => exact ⟨0, S, rfl, Nat.zero_le _, H1, K1, Lib.hid (Keeps.refl _ _), Lib.hid rfl⟩
  case round =>
    obtain ⟨q, Sq, rfl, hq, hds, hkw, hk1, hrm⟩ := hrel
    clear H1 K1
    have hws := hk1.out.size
    by_cases hlt : q < F.length
    · have hlti : (q : Int) < (F.length : Int) := by omega
      have hrow : wr.ownsRow B 9 1 (.slice na F.length ncap) F.length (sv F) := own_same HN.out fun r hr => hk1.out.block r (HO2.out r (HN.out.lt r hr).1 (HN.out.lt r hr).2)
      obtain ⟨b, off, rfl, hbl, hcell⟩ : ∃ b off, na = some ⟨b, off, none⟩ ∧ b < wr.heap.size ∧ wr.cell? ⟨b, off + q, none⟩ = some (.string ⟨F[q].toArray⟩) := by
        rcases own_rd hrow with h | ⟨b, off, h1, h2, h3⟩
        · rw [h] at hlt; simp at hlt
        · exact ⟨b, off, h1, h2, h3 q hlt⟩
      have hB0 := hk1.out.cell B 0 (HO2.out B (Nat.le_refl _) (by omega))
      have hB1c := hk1.out.cell (B + 1) 0 (HO2.out (B + 1) (by omega) (by omega))
      rw [D0.out] at hB0
      rw [D1.out] at hB1c
      have C0 := Lib.hid hB0
      have C1 := Lib.hid hB1c
      have C := numbered_any ⟨F[q].toArray⟩ (by rw [size_mkl F[q]]; exact F3.out _ (List.getElem_mem hlt)) wr
      unfold NumE at C
      rw [show (⟨F[q].toArray⟩ : ByteArray).data.toList = F[q] from rfl] at C
      have hdr : F.drop q = F[q] :: F.drop (q + 1) := List.drop_eq_getElem_cons hlt
      have hstep := hrm.out
      rw [hdr] at hstep
      rw [rmL_cons] at hstep
      clear hrow hB0 hB1c hdr hrm
      cases hnum : numb F[q] with
      | none =>
        rw [hnum] at C hstep
        have HC := Lib.hid C
        have HS := Lib.hid hstep
        clear C hnum hstep
        generalize F[q] = nm at hcell HC
        go_wp2_with fail
        refine HC.out.mono ?_
        rintro e w2 ⟨⟨x, rfl, -⟩, rfl⟩
        clear HC hcell
        rw [show ((none : Option Nat)).isSome = false from rfl]
        go_wp2
        go_roundw
        case rel => exact ⟨q + 1, Sq, by go_num, by omega, hds, hkw, hk1, HS⟩
        case measure => simp [intOf]; omega
      | some m =>
        have hm := numb_le hnum
        have hnm := numb_name hnum
        rw [hnum] at C hstep
        simp only at hstep
        have HC := Lib.hid C
        clear C
        rcases geq_skip m bl with hfr | hfr
        · rw [if_pos hfr, hnm] at hstep
          have T := rtell_yes hds.out (by omega) C0.out C1.out m hm hfr
          cases hrme : (decide ((Sq.remove (lname m)).2 = 0)) with
          | true =>
            have h0 : (Sq.remove (lname m)).2 = 0 := by simpa using hrme
            rw [if_pos h0] at hstep
            rw [h0] at T
            have HT := Lib.hid T
            have HS := Lib.hid hstep
            clear hnum hnm hstep T h0 hrme
            generalize F[q] = nm at hcell HC
            go_wp2_with fail
            refine HC.out.mono ?_
            rintro e w2 ⟨⟨x, rfl, hx⟩, rfl⟩
            obtain rfl : x = (m : Int) := hx m rfl
            clear HC hcell hx
            rw [show (some m).isSome = true from rfl]
            go_wp2_with (go_at_call 41; refine HT.out.mono ?_; rintro e w3 ⟨rfl, hd3, hk3⟩)
            have HD3 := Lib.hid hd3
            have HK3 := Lib.hid hk3
            clear hd3 hk3
            go_roundw
            case rel => exact ⟨q + 1, _, by go_num, by omega, HD3, Lib.hid (hkw.out.trans (HK3.out.mono HO.out)), Lib.hid (hk1.out.trans HK3.out), HS⟩
            case measure => simp [intOf]; omega
          | false =>
            have h0 : ¬ (Sq.remove (lname m)).2 = 0 := by simpa using hrme
            rw [if_neg h0] at hstep
            have HT := Lib.hid T
            have HS := Lib.hid hstep
            clear hnum hnm hstep T hrme
            generalize hX : (Sq.remove (lname m)).2 = X at HT h0
            have HX := Lib.hid hX
            clear hX
            generalize F[q] = nm at hcell HC
            have hXb : (X == 0) = false := by simpa using h0
            have hXn : (X != 0) = true := by simpa using h0
            go_wp2_with fail
            refine HC.out.mono ?_
            rintro e w2 ⟨⟨x, rfl, hx⟩, rfl⟩
            obtain rfl : x = (m : Int) := hx m rfl
            clear HC hcell hx
            rw [show (some m).isSome = true from rfl]
            go_wp2_with (go_at_call 41; refine HT.out.mono ?_; rintro e w3 ⟨rfl, hd3, hk3⟩)
            have HD3 := Lib.hid hd3
            have HK3 := Lib.hid hk3
            clear hd3 hk3
            go_ret
            rw [HS.out]
            exact ⟨by rw [HX.out]; rfl, HD3.out.weaken HO.out, hkw.out.trans (HK3.out.mono HO.out)⟩
        · rw [if_neg (by omega)] at hstep
          have T := Lib.hid (rtell_skip (B := B) C1.out m hfr)
          have HS := Lib.hid hstep
          clear hnum hnm hstep
          generalize F[q] = nm at hcell HC
          go_wp2_with fail
          refine HC.out.mono ?_
          rintro e w2 ⟨⟨x, rfl, hx⟩, rfl⟩
          obtain rfl : x = (m : Int) := hx m rfl
          clear HC hcell hx
          rw [show (some m).isSome = true from rfl]
          go_wp2_with (go_at_call 41; refine T.out.mono ?_; rintro e w3 ⟨rfl, rfl⟩)
          go_roundw
          case rel => exact ⟨q + 1, Sq, by go_num, by omega, hds, hkw, hk1, HS⟩
          case measure => simp [intOf]; omega
    · have hqe : q = F.length := by omega
      have hr := hrm.out
      rw [hqe, List.drop_length] at hr
      have HR := Lib.hid hr
      have hlti : ¬ (q : Int) < (F.length : Int) := by omega
      clear hqe hr
      go_wp2
      go_ret
      rw [HR.out]
      exact ⟨rfl, hds.out.weaken HO.out, hkw.out⟩
set_option maxRecDepth 100000 in
set_option maxHeartbeats 1000000 in
theorem removes_any {own : Nat → Prop} {w : World} {d : Nat} {bl : Int} {S : Ds} (hd : DiskAt own w d S) :
    Calls Try.prog 22 #[.pointer (some ⟨d, 0, none⟩), .int .i64 bl] w fun e w' => e = .returned (.int .i64 (S.rm bl).2) ∧ DiskAt own w' d (S.rm bl).1 ∧ Keeps own w w' := by
  have hb : Below w.heap.size w ((w.alloc (.cells #[.pointer (some ⟨d, 0, none⟩)] 25)).alloc (.cells #[.int .i64 bl] 51)) := ((Below.refl _ _).alloc (Nat.le_refl _) _).alloc (by simp) _
  have C := Lib.hid (reach_any (bl := bl) hd hb (by simp) (by rw [World.cell?_alloc2_first]; rfl) (by rw [World.cell?_alloc2_new]; rfl))
  clear hd hb
  go_enter Try.func22, Try.ntmps22
  go_wp2_with fail
  refine C.out.mono ?_
  rintro e w2 ⟨rfl, hd2, hk2⟩
  have HD := Lib.hid hd2
  have HK := Lib.hid hk2
  clear C hd2 hk2
  go_wp2
  go_ret
  exact ⟨rfl, HD.out, HK.out⟩
/-! ### mayMake -/
theorem mayE_cases (S : Ds) (n : Nat) : (S.off = true ∧ mayE S n = 50) ∨ (S.off = false ∧ 99999998 < n ∧ mayE S n = 2) ∨ (S.off = false ∧ n ≤ 99999998 ∧ mayE S n = 0) := by
  unfold mayE
  cases S.off
  · by_cases h : 99999998 < n
    · right; left; exact ⟨rfl, h, by rw [if_neg (by decide), if_pos h]⟩
    · right; right; exact ⟨rfl, by omega, by rw [if_neg (by decide), if_neg h]⟩
  · left; exact ⟨rfl, by rw [if_pos rfl]⟩
set_option maxRecDepth 100000 in
set_option maxHeartbeats 1000000 in
theorem mayMake_any {own : Nat → Prop} {w : World} {d n : Nat} {S : Ds} (hd : DiskAt own w d S) (hn : n ≤ 99999999) :
    Calls Try.prog 21 #[.pointer (some ⟨d, 0, none⟩), .int .i64 (n : Int)] w fun e w' => e = .returned (.int .i64 (mayE S n)) ∧ Below w.heap.size w w' := by
  have hF := Lib.hid (file_any n hn)
  have HD := Lib.hid hd
  have hS : ∀ w', Below w.heap.size w w' → Calls Try.prog 40 #[.pointer (some ⟨d, 0, none⟩), .string ⟨(lname n).toArray⟩] w' fun e w'' => e = .returned (.tuple #[.int .i64 (S.sureOf (lname n) : Nat), .int .i64 (S.lookE (lname n))]) ∧ Below w'.heap.size w' w'' := fun w' hb => by
    have := sure_any (hd.below hb) ⟨(lname n).toArray⟩ (lname_size n)
    rw [show (⟨(lname n).toArray⟩ : ByteArray).data.toList = lname n from rfl] at this
    exact this
  have hE : S.lookE (lname n) = if S.off = true then 50 else fE (getL (lname n) S.files) := by
    unfold Ds.lookE askE
    rw [if_pos (lname_ok n)]
    cases S.off <;> rfl
  have hf : fE (getL (lname n) S.files) = 0 ∨ fE (getL (lname n) S.files) = 3 := by unfold fE; split <;> simp
  have hc := mayE_cases S n
  generalize S.sureOf (lname n) = su at hS
  have walk : ∀ X : Int, S.lookE (lname n) = X → (X = 50 ∨ X = 0 ∨ X = 3) → (X = 50 → mayE S n = 50) → (X ≠ 50 → (99999998 < (n : Int) → mayE S n = 2) ∧ ((n : Int) ≤ 99999998 → mayE S n = 0)) → Calls Try.prog 21 #[.pointer (some ⟨d, 0, none⟩), .int .i64 (n : Int)] w fun e w' => e = .returned (.int .i64 (mayE S n)) ∧ Below w.heap.size w w' := by
    intro X hX hX3 h50 hno
    rw [hX] at hS
    have HS := Lib.hid hS
    have H50 := Lib.hid h50
    have HNO := Lib.hid hno
    clear hS hE hd hf hc hX h50 hno
    rcases hX3 with rfl | rfl | rfl
    · go_enter Try.func21, Try.ntmps21
      go_wp2_with fail
      refine (hF.out _).mono ?_
      rintro e w1 ⟨rfl, hb1⟩
      have HB := Lib.hid hb1
      clear hb1
      go_wp2_with fail
      refine (HS.out _ HB.out).mono ?_
      rintro e w2 ⟨rfl, hb2⟩
      have HB2 := Lib.hid (bt HB.out hb2)
      clear hb2
      go_wp2
      go_ret
      rw [H50.out (by trivial)]
      exact ⟨rfl, HB2.out⟩
    all_goals
      rcases (by omega : 99999998 < (n : Int) ∨ (n : Int) ≤ 99999998) with hl | hl
      all_goals
        go_enter Try.func21, Try.ntmps21
        go_wp2_with fail
        refine (hF.out _).mono ?_
        rintro e w1 ⟨rfl, hb1⟩
        have HB := Lib.hid hb1
        clear hb1
        go_wp2_with fail
        refine (HS.out _ HB.out).mono ?_
        rintro e w2 ⟨rfl, hb2⟩
        have HB2 := Lib.hid (bt HB.out hb2)
        clear hb2
        go_wp2
        go_ret
        first
        | (rw [(HNO.out (by decide)).1 hl]; exact ⟨rfl, HB2.out⟩)
        | (rw [(HNO.out (by decide)).2 hl]; exact ⟨rfl, HB2.out⟩)
  rcases hc with ⟨h1, h2⟩ | ⟨h1, h3, h2⟩ | ⟨h1, h3, h2⟩
  · rw [h1, if_pos rfl] at hE
    exact walk 50 hE (.inl rfl) (fun _ => h2) (fun h => absurd rfl h)
  · rw [h1, if_neg (by decide)] at hE
    exact walk _ hE (by omega) (fun h => by omega) (fun _ => ⟨fun _ => h2, fun h => by omega⟩)
  · rw [h1, if_neg (by decide)] at hE
    exact walk _ hE (by omega) (fun h => by omega) (fun _ => ⟨fun h => by omega, fun _ => h2⟩)
end Go.Proofs.Ythikedhbjphmeaa
