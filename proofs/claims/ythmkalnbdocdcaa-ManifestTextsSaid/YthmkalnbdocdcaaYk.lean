/-
  Layer 12 (manifest): contracts of the closure each, of read. Conditions: at most 2^24 bytes.
-/
import Derived.Test.YthmkalnbdocdcaaYj
namespace Go.Proofs.Ythmkalnbdocdcaa
set_option maxRecDepth 100000
open Go.RowKit
set_option linter.unusedVariables false
set_option linter.unusedSimpArgs false

theorem rdTs_zero (l : List UInt8) : rdTs 0 l = some ([], l) := rfl
theorem rdZs_zero (l : List UInt8) : rdZs 0 l = some ([], l) := rfl
theorem rdTs_succ (n : Nat) (l : List UInt8) : rdTs (n + 1) l = (rdT l).bind fun p => (rdTs n p.2).bind fun q => some (p.1 :: q.1, q.2) := rfl
theorem rdZs_succ (n : Nat) (l : List UInt8) : rdZs (n + 1) l = (rdZ1 l).bind fun p => (rdZs n p.2).bind fun q => some (p.1 :: q.1, q.2) := by
  rw [rdZs, rdZ1]
  cases rdN l <;> rfl
theorem RW.setR {B0 B S R F1 F2 E E0 : Nat} {wb w : World} {o o' : Option (List UInt8)} {A D : Value} {ts : List Tb} {zs : List Int} {lg nx : Int} (h : RW B0 B S R F1 F2 E E0 wb o A D ts zs lg nx w) (hy : LY B0 B S R F1 F2 E E0) (b : Bool)
    (h1 : ∀ l, o' = some l → b = true ∧ o = some l) (h2 : o' = none → b = false) : RW B0 B S R F1 F2 E E0 wb o' A D ts zs lg nx (w.setCell ⟨R, 0, none⟩ (.bool b)) := by
  obtain ⟨s, r, hns, hsz, ho1, ho2⟩ := h.1
  refine RW.keep hy h ((KeepX.refl (SR S R) w).set (p := ⟨R, 0, none⟩) (Or.inr rfl) _) ((Below.refl B0 w).setCell (p := ⟨R, 0, none⟩) hy.1.2.1 _) ⟨s, b, hns.right hy.2.2.1.1 b, hsz, fun l hl => ⟨(h1 l hl).1, (ho1 l (h1 l hl).2).2⟩, h2⟩

def rdEachT (l : List UInt8) : Option (List Tb × List UInt8) := (rdN l).bind fun n => if n.1 ≤ 128 then rdTs n.1 n.2 else none
/-- What was read till now, and what is still to be read. -/
def TillT (T : Option (List Tb × List UInt8)) (n k : Nat) (oi : Option (List UInt8)) (xs : List Tb) : Prop := (oi = none → T = none) ∧ (∀ li, oi = some li → T = (rdTs (n - k) li).map fun q => (xs ++ q.1, q.2))
theorem TillT.step {T : Option (List Tb × List UInt8)} {n k : Nat} {li : List UInt8} {xs : List Tb} (h : TillT T n k (some li) xs) (hk : k < n) {x : Tb} (hx : ∀ p, (some li).bind rdT = some p → x = p.1) : TillT T n (k + 1) (((some li).bind rdT).map (·.2)) (xs ++ [x]) := by
  have h2 := h.2 li rfl
  rw [show n - k = (n - (k + 1)) + 1 by omega, rdTs_succ] at h2
  simp only [Option.bind_some] at hx ⊢
  cases e : rdT li with
  | none => rw [e] at h2; exact ⟨fun _ => h2, fun l hl => by cases hl⟩
  | some p =>
    rw [e] at h2
    rw [hx p e]
    refine ⟨fun hl => (by cases hl), fun l hl => ?_⟩
    simp only [Option.map_some, Option.some.injEq] at hl
    rw [h2, ← hl]
    simp only [Option.bind_some]
    cases rdTs (n - (k + 1)) p.2 with
    | none => rfl
    | some q => simp
def EPT (B0 B S R F1 F2 E E0 : Nat) (wb : World) (T : Option (List Tb × List UInt8)) (D : Value) (zs : List Int) (lg nx : Int) (w : World) : Prop := ∃ X' xs, RW B0 B S R F1 F2 E E0 wb (T.map (·.2)) X' D xs zs lg nx w ∧ (∀ p, T = some p → xs = p.1) ∧ xs.length ≤ 200
set_option maxHeartbeats 8000000 in
theorem eachT_w {B0 B S R F1 F2 E E0 : Nat} {wb w : World} {o : Option (List UInt8)} {X : Value} {zs : List Int} {D : Value} {lg nx : Int} (hy : LY B0 B S R F1 F2 E E0) (h : RW B0 B S R F1 F2 E E0 wb o X D [] zs lg nx w) :
    Calls Try.prog 59 #[.func (.func 60) #[] #[.pointer (some ⟨E, 0, none⟩), .pointer (some ⟨F1, 0, none⟩), .pointer (some ⟨F2, 0, none⟩)], .pointer (some ⟨F1, 0, none⟩), .pointer (some ⟨R, 0, none⟩)] w fun e w' => e = .returned (.tuple #[]) ∧ EPT B0 B S R F1 F2 E E0 wb (o.bind rdEachT) D zs lg nx w' := by
  obtain ⟨T, hT0⟩ : ∃ T, T = o.bind rdEachT := ⟨_, rfl⟩
  rw [← hT0]
  have HT0 := Lib.hid hT0
  clear hT0
  have HY := Lib.hid hy
  have H0 := Lib.hid h
  obtain ⟨f1, f2, f3, f4⟩ := h.2.1
  clear hy h
  go_enter Try.func59, Try.ntmps59
  go_wp2_with fail
  refine (num_w HY.out H0.out).mono ?_
  rintro e w1 ⟨n, rfl, hn, r1, p1⟩
  clear f1 f2 f3 f4 H0
  obtain ⟨s, r, hns, hsz, ho1, ho2⟩ := r1.1
  obtain ⟨o1, ho⟩ : ∃ o1, o1 = (o.bind rdN).map (·.2) := ⟨_, rfl⟩
  rw [← ho] at r1 ho1 ho2
  obtain ⟨o2, ho2'⟩ : ∃ o2, o2 = if n ≤ 128 then o1 else none := ⟨_, rfl⟩
  obtain ⟨bb, hbb⟩ : ∃ bb, bb = (r && decide (n ≤ 128)) := ⟨_, rfl⟩
  have HR2 := Lib.hid (r1.setR HY.out (o' := o2) bb (fun l hl => by
    rw [ho2'] at hl
    by_cases h8 : n ≤ 128
    · rw [if_pos h8] at hl
      exact ⟨by rw [hbb, (ho1 l hl).1]; simp [h8], hl⟩
    · rw [if_neg h8] at hl; cases hl) (fun hl => by
    rw [ho2'] at hl
    by_cases h8 : n ≤ 128
    · rw [if_pos h8] at hl
      rw [hbb, ho2 hl]; rfl
    · rw [hbb]; simp [h8]))
  have hT := HT0.out
  have hTo : T = o2.bind (rdTs n) := by
    rw [hT, ho2', ho]
    cases o with
    | none => simp
    | some l =>
      simp only [Option.bind_some, rdEachT] at p1 ⊢
      cases e : rdN l with
      | none => simp
      | some p =>
        rw [p1 p e]
        simp only [Option.bind_some, Option.map_some]
        split <;> rfl
  have HI : Hid (TillT T n 0 o2 []) := Lib.hid (by
    rw [hTo]
    refine ⟨fun e => by rw [e]; rfl, fun li e => ?_⟩
    rw [e, Option.bind_some, Nat.sub_zero]
    cases rdTs n li <;> simp)
  have H8 : Hid (o2 ≠ none → n ≤ 128) := Lib.hid fun e => by
    by_cases h8 : n ≤ 128
    · exact h8
    · rw [ho2', if_neg h8] at e; exact absurd rfl e
  have HT := Lib.hid hT
  obtain ⟨⟨c1, c2, c3⟩, d1, d2, d3⟩ := hns
  have HBB := Lib.hid hbb
  clear ho ho2' hT hTo r1 ho1 ho2 p1 hbb
  have main : ∀ bb', bb' = bb → (r = false ∧ bb' = false) ∨ (r = true ∧ n ≤ 128 ∧ bb' = true) ∨ (r = true ∧ ¬ n ≤ 128 ∧ bb' = false) := fun bb' e => by
    rw [e, HBB.out]
    cases r with
    | false => exact .inl ⟨rfl, rfl⟩
    | true =>
      by_cases h8 : n ≤ 128
      · exact .inr (.inl ⟨rfl, h8, by simp [h8]⟩)
      · exact .inr (.inr ⟨rfl, h8, by simp [h8]⟩)
  have h3 := main bb rfl
  clear main HBB
  have HSTEP : Hid (∀ wz, wz = w1.setCell ⟨R, 0, none⟩ (.bool bb) → (RW B0 B S R F1 F2 E E0 wb o2 X D [] zs lg nx wz)) := Lib.hid fun wz e => by rw [e]; exact HR2.out
  clear HR2
  rcases h3 with ⟨rfl, rfl⟩ | ⟨rfl, h8, rfl⟩ | ⟨rfl, h8, rfl⟩
  · go_wp2_with fail
    obtain ⟨wz, hwz⟩ : ∃ wz, wz = w1.setCell ⟨R, 0, none⟩ (.bool false) := ⟨_, rfl⟩
    rw [← hwz]
    have HZ := Lib.hid (HSTEP.out wz hwz)
    clear HSTEP hwz c1 c2 c3 d1 d2 d3
    go_loopw [5] (fun i wr => ∃ (k : Nat) (oi : Option (List UInt8)) (X' : Value) (xs : List Tb), i = .int .i64 k ∧ k ≤ n ∧ Hid (xs.length = k ∧ k ≤ 128) ∧ Hid (RW B0 B S R F1 F2 E E0 wb oi X' D xs zs lg nx wr) ∧ Hid (TillT T n k oi xs) ∧ Hid (oi ≠ none → n ≤ 128)) (fun i _ => n - (intOf i).toNat)
    case atStart => exact ⟨0, o2, X, [], rfl, by omega, Lib.hid ⟨rfl, by omega⟩, HZ, HI, H8⟩
    case round =>
      clear HZ HI H8
      obtain ⟨k, oi, X', xs, rfl, hk, HL, HZ, HI, H8⟩ := hrel
      obtain ⟨s, r, hns, hsz, ho1, ho2⟩ := HZ.out.1
      have HO1 := Lib.hid ho1
      have HO2 := Lib.hid ho2
      obtain ⟨⟨c1, c2, c3⟩, d1, d2, d3⟩ := hns
      clear ho1 ho2
      cases r with
      | false =>
        have hoi : oi = none := by
          cases oi with
          | none => rfl
          | some l => have := (HO1.out l rfl).1; cases this
        subst hoi
        have HF := Lib.hid (HI.out.1 rfl)
        go_wp2_with fail
        go_end0
        refine ⟨rfl, X', xs, ?_, fun p hp => ?_, by have := HL.out; omega⟩
        · rw [HF.out]; exact HZ.out
        · rw [HF.out] at hp; cases hp
      | true =>
        obtain ⟨li, hli⟩ : ∃ li, oi = some li := by
          cases oi with
          | none => have := HO2.out rfl; cases this
          | some l => exact ⟨l, rfl⟩
        subst hli
        by_cases hlt : k < n
        · have hki : (k : Int) < (n : Int) := by omega
          have h128 := H8.out (by simp)
          go_wp2_with fail
          refine (tab_w HY.out HZ.out (by have := HL.out; omega)).mono ?_
          rintro e w2 ⟨rfl, Y, x, r2, p2⟩
          have HR2 := Lib.hid r2
          have HP2 := Lib.hid (HI.out.step hlt p2)
          clear r2 p2 c1 c2 c3 d1 d2 d3
          go_wp2_with fail
          go_roundw
          case rel => exact ⟨k + 1, _, Y, xs ++ [x], by go_num, hlt, Lib.hid ⟨by rw [List.length_append, HL.out.1]; rfl, by omega⟩, HR2, HP2, Lib.hid (fun _ => h128)⟩
          case measure => simp [intOf]; omega
        · have hki : ¬ (k : Int) < (n : Int) := by omega
          have HF := Lib.hid (HI.out.2 li rfl)
          go_wp2_with fail
          go_end0
          have hf := HF.out
          rw [show n - k = 0 by omega, rdTs_zero] at hf
          simp only [Option.map_some, List.append_nil] at hf
          refine ⟨rfl, X', xs, ?_, fun p hp => ?_, by have := HL.out; omega⟩
          · rw [hf]; exact HZ.out
          · rw [hf] at hp; cases hp; rfl
  · have h8z : (n : Int) ≤ 128 := by omega
    go_wp2_with fail
    obtain ⟨wz, hwz⟩ : ∃ wz, wz = w1.setCell ⟨R, 0, none⟩ (.bool true) := ⟨_, rfl⟩
    rw [← hwz]
    have HZ := Lib.hid (HSTEP.out wz hwz)
    clear HSTEP hwz c1 c2 c3 d1 d2 d3
    go_loopw [5] (fun i wr => ∃ (k : Nat) (oi : Option (List UInt8)) (X' : Value) (xs : List Tb), i = .int .i64 k ∧ k ≤ n ∧ Hid (xs.length = k ∧ k ≤ 128) ∧ Hid (RW B0 B S R F1 F2 E E0 wb oi X' D xs zs lg nx wr) ∧ Hid (TillT T n k oi xs) ∧ Hid (oi ≠ none → n ≤ 128)) (fun i _ => n - (intOf i).toNat)
    case atStart => exact ⟨0, o2, X, [], rfl, by omega, Lib.hid ⟨rfl, by omega⟩, HZ, HI, H8⟩
    case round =>
      clear HZ HI H8
      obtain ⟨k, oi, X', xs, rfl, hk, HL, HZ, HI, H8⟩ := hrel
      obtain ⟨s, r, hns, hsz, ho1, ho2⟩ := HZ.out.1
      have HO1 := Lib.hid ho1
      have HO2 := Lib.hid ho2
      obtain ⟨⟨c1, c2, c3⟩, d1, d2, d3⟩ := hns
      clear ho1 ho2
      cases r with
      | false =>
        have hoi : oi = none := by
          cases oi with
          | none => rfl
          | some l => have := (HO1.out l rfl).1; cases this
        subst hoi
        have HF := Lib.hid (HI.out.1 rfl)
        go_wp2_with fail
        go_end0
        refine ⟨rfl, X', xs, ?_, fun p hp => ?_, by have := HL.out; omega⟩
        · rw [HF.out]; exact HZ.out
        · rw [HF.out] at hp; cases hp
      | true =>
        obtain ⟨li, hli⟩ : ∃ li, oi = some li := by
          cases oi with
          | none => have := HO2.out rfl; cases this
          | some l => exact ⟨l, rfl⟩
        subst hli
        by_cases hlt : k < n
        · have hki : (k : Int) < (n : Int) := by omega
          have h128 := H8.out (by simp)
          go_wp2_with fail
          refine (tab_w HY.out HZ.out (by have := HL.out; omega)).mono ?_
          rintro e w2 ⟨rfl, Y, x, r2, p2⟩
          have HR2 := Lib.hid r2
          have HP2 := Lib.hid (HI.out.step hlt p2)
          clear r2 p2 c1 c2 c3 d1 d2 d3
          go_wp2_with fail
          go_roundw
          case rel => exact ⟨k + 1, _, Y, xs ++ [x], by go_num, hlt, Lib.hid ⟨by rw [List.length_append, HL.out.1]; rfl, by omega⟩, HR2, HP2, Lib.hid (fun _ => h128)⟩
          case measure => simp [intOf]; omega
        · have hki : ¬ (k : Int) < (n : Int) := by omega
          have HF := Lib.hid (HI.out.2 li rfl)
          go_wp2_with fail
          go_end0
          have hf := HF.out
          rw [show n - k = 0 by omega, rdTs_zero] at hf
          simp only [Option.map_some, List.append_nil] at hf
          refine ⟨rfl, X', xs, ?_, fun p hp => ?_, by have := HL.out; omega⟩
          · rw [hf]; exact HZ.out
          · rw [hf] at hp; cases hp; rfl
  · have h8d : decide ((n : Int) ≤ 128) = false := decide_eq_false (by omega)
    go_wp2_with fail
    obtain ⟨wz, hwz⟩ : ∃ wz, wz = w1.setCell ⟨R, 0, none⟩ (.bool false) := ⟨_, rfl⟩
    rw [← hwz]
    have HZ := Lib.hid (HSTEP.out wz hwz)
    clear HSTEP hwz c1 c2 c3 d1 d2 d3
    go_loopw [5] (fun i wr => ∃ (k : Nat) (oi : Option (List UInt8)) (X' : Value) (xs : List Tb), i = .int .i64 k ∧ k ≤ n ∧ Hid (xs.length = k ∧ k ≤ 128) ∧ Hid (RW B0 B S R F1 F2 E E0 wb oi X' D xs zs lg nx wr) ∧ Hid (TillT T n k oi xs) ∧ Hid (oi ≠ none → n ≤ 128)) (fun i _ => n - (intOf i).toNat)
    case atStart => exact ⟨0, o2, X, [], rfl, by omega, Lib.hid ⟨rfl, by omega⟩, HZ, HI, H8⟩
    case round =>
      clear HZ HI H8
      obtain ⟨k, oi, X', xs, rfl, hk, HL, HZ, HI, H8⟩ := hrel
      obtain ⟨s, r, hns, hsz, ho1, ho2⟩ := HZ.out.1
      have HO1 := Lib.hid ho1
      have HO2 := Lib.hid ho2
      obtain ⟨⟨c1, c2, c3⟩, d1, d2, d3⟩ := hns
      clear ho1 ho2
      cases r with
      | false =>
        have hoi : oi = none := by
          cases oi with
          | none => rfl
          | some l => have := (HO1.out l rfl).1; cases this
        subst hoi
        have HF := Lib.hid (HI.out.1 rfl)
        go_wp2_with fail
        go_end0
        refine ⟨rfl, X', xs, ?_, fun p hp => ?_, by have := HL.out; omega⟩
        · rw [HF.out]; exact HZ.out
        · rw [HF.out] at hp; cases hp
      | true =>
        obtain ⟨li, hli⟩ : ∃ li, oi = some li := by
          cases oi with
          | none => have := HO2.out rfl; cases this
          | some l => exact ⟨l, rfl⟩
        subst hli
        by_cases hlt : k < n
        · have hki : (k : Int) < (n : Int) := by omega
          have h128 := H8.out (by simp)
          go_wp2_with fail
          refine (tab_w HY.out HZ.out (by have := HL.out; omega)).mono ?_
          rintro e w2 ⟨rfl, Y, x, r2, p2⟩
          have HR2 := Lib.hid r2
          have HP2 := Lib.hid (HI.out.step hlt p2)
          clear r2 p2 c1 c2 c3 d1 d2 d3
          go_wp2_with fail
          go_roundw
          case rel => exact ⟨k + 1, _, Y, xs ++ [x], by go_num, hlt, Lib.hid ⟨by rw [List.length_append, HL.out.1]; rfl, by omega⟩, HR2, HP2, Lib.hid (fun _ => h128)⟩
          case measure => simp [intOf]; omega
        · have hki : ¬ (k : Int) < (n : Int) := by omega
          have HF := Lib.hid (HI.out.2 li rfl)
          go_wp2_with fail
          go_end0
          have hf := HF.out
          rw [show n - k = 0 by omega, rdTs_zero] at hf
          simp only [Option.map_some, List.append_nil] at hf
          refine ⟨rfl, X', xs, ?_, fun p hp => ?_, by have := HL.out; omega⟩
          · rw [hf]; exact HZ.out
          · rw [hf] at hp; cases hp; rfl

def rdEachZ (l : List UInt8) : Option (List Int × List UInt8) := (rdN l).bind fun n => if n.1 ≤ 128 then rdZs n.1 n.2 else none
/-- What was read till now, and what is still to be read. -/
def TillZ (T : Option (List Int × List UInt8)) (n k : Nat) (oi : Option (List UInt8)) (xs : List Int) : Prop := (oi = none → T = none) ∧ (∀ li, oi = some li → T = (rdZs (n - k) li).map fun q => (xs ++ q.1, q.2))
theorem TillZ.step {T : Option (List Int × List UInt8)} {n k : Nat} {li : List UInt8} {xs : List Int} (h : TillZ T n k (some li) xs) (hk : k < n) {x : Int} (hx : ∀ p, (some li).bind rdZ1 = some p → x = p.1) : TillZ T n (k + 1) (((some li).bind rdZ1).map (·.2)) (xs ++ [x]) := by
  have h2 := h.2 li rfl
  rw [show n - k = (n - (k + 1)) + 1 by omega, rdZs_succ] at h2
  simp only [Option.bind_some] at hx ⊢
  cases e : rdZ1 li with
  | none => rw [e] at h2; exact ⟨fun _ => h2, fun l hl => by cases hl⟩
  | some p =>
    rw [e] at h2
    rw [hx p e]
    refine ⟨fun hl => (by cases hl), fun l hl => ?_⟩
    simp only [Option.map_some, Option.some.injEq] at hl
    rw [h2, ← hl]
    simp only [Option.bind_some]
    cases rdZs (n - (k + 1)) p.2 with
    | none => rfl
    | some q => simp
def EPZ (B0 B S R F1 F2 E E0 : Nat) (wb : World) (T : Option (List Int × List UInt8)) (A : Value) (ts : List Tb) (lg nx : Int) (w : World) : Prop := ∃ X' xs, RW B0 B S R F1 F2 E E0 wb (T.map (·.2)) A X' ts xs lg nx w ∧ (∀ p, T = some p → xs = p.1) ∧ xs.length ≤ 200
set_option maxHeartbeats 8000000 in
theorem eachZ_w {B0 B S R F1 F2 E E0 : Nat} {wb w : World} {o : Option (List UInt8)} {X : Value} {ts : List Tb} {A : Value} {lg nx : Int} (hy : LY B0 B S R F1 F2 E E0) (h : RW B0 B S R F1 F2 E E0 wb o A X ts [] lg nx w) :
    Calls Try.prog 59 #[.func (.func 61) #[] #[.pointer (some ⟨E, 0, none⟩), .pointer (some ⟨F1, 0, none⟩)], .pointer (some ⟨F1, 0, none⟩), .pointer (some ⟨R, 0, none⟩)] w fun e w' => e = .returned (.tuple #[]) ∧ EPZ B0 B S R F1 F2 E E0 wb (o.bind rdEachZ) A ts lg nx w' := by
  obtain ⟨T, hT0⟩ : ∃ T, T = o.bind rdEachZ := ⟨_, rfl⟩
  rw [← hT0]
  have HT0 := Lib.hid hT0
  clear hT0
  have HY := Lib.hid hy
  have H0 := Lib.hid h
  obtain ⟨f1, f2, f3, f4⟩ := h.2.1
  clear hy h
  go_enter Try.func59, Try.ntmps59
  go_wp2_with fail
  refine (num_w HY.out H0.out).mono ?_
  rintro e w1 ⟨n, rfl, hn, r1, p1⟩
  clear f1 f2 f3 f4 H0
  obtain ⟨s, r, hns, hsz, ho1, ho2⟩ := r1.1
  obtain ⟨o1, ho⟩ : ∃ o1, o1 = (o.bind rdN).map (·.2) := ⟨_, rfl⟩
  rw [← ho] at r1 ho1 ho2
  obtain ⟨o2, ho2'⟩ : ∃ o2, o2 = if n ≤ 128 then o1 else none := ⟨_, rfl⟩
  obtain ⟨bb, hbb⟩ : ∃ bb, bb = (r && decide (n ≤ 128)) := ⟨_, rfl⟩
  have HR2 := Lib.hid (r1.setR HY.out (o' := o2) bb (fun l hl => by
    rw [ho2'] at hl
    by_cases h8 : n ≤ 128
    · rw [if_pos h8] at hl
      exact ⟨by rw [hbb, (ho1 l hl).1]; simp [h8], hl⟩
    · rw [if_neg h8] at hl; cases hl) (fun hl => by
    rw [ho2'] at hl
    by_cases h8 : n ≤ 128
    · rw [if_pos h8] at hl
      rw [hbb, ho2 hl]; rfl
    · rw [hbb]; simp [h8]))
  have hT := HT0.out
  have hTo : T = o2.bind (rdZs n) := by
    rw [hT, ho2', ho]
    cases o with
    | none => simp
    | some l =>
      simp only [Option.bind_some, rdEachZ] at p1 ⊢
      cases e : rdN l with
      | none => simp
      | some p =>
        rw [p1 p e]
        simp only [Option.bind_some, Option.map_some]
        split <;> rfl
  have HI : Hid (TillZ T n 0 o2 []) := Lib.hid (by
    rw [hTo]
    refine ⟨fun e => by rw [e]; rfl, fun li e => ?_⟩
    rw [e, Option.bind_some, Nat.sub_zero]
    cases rdZs n li <;> simp)
  have H8 : Hid (o2 ≠ none → n ≤ 128) := Lib.hid fun e => by
    by_cases h8 : n ≤ 128
    · exact h8
    · rw [ho2', if_neg h8] at e; exact absurd rfl e
  have HT := Lib.hid hT
  obtain ⟨⟨c1, c2, c3⟩, d1, d2, d3⟩ := hns
  have HBB := Lib.hid hbb
  clear ho ho2' hT hTo r1 ho1 ho2 p1 hbb
  have main : ∀ bb', bb' = bb → (r = false ∧ bb' = false) ∨ (r = true ∧ n ≤ 128 ∧ bb' = true) ∨ (r = true ∧ ¬ n ≤ 128 ∧ bb' = false) := fun bb' e => by
    rw [e, HBB.out]
    cases r with
    | false => exact .inl ⟨rfl, rfl⟩
    | true =>
      by_cases h8 : n ≤ 128
      · exact .inr (.inl ⟨rfl, h8, by simp [h8]⟩)
      · exact .inr (.inr ⟨rfl, h8, by simp [h8]⟩)
  have h3 := main bb rfl
  clear main HBB
  have HSTEP : Hid (∀ wz, wz = w1.setCell ⟨R, 0, none⟩ (.bool bb) → (RW B0 B S R F1 F2 E E0 wb o2 A X ts [] lg nx wz)) := Lib.hid fun wz e => by rw [e]; exact HR2.out
  clear HR2
  rcases h3 with ⟨rfl, rfl⟩ | ⟨rfl, h8, rfl⟩ | ⟨rfl, h8, rfl⟩
  · go_wp2_with fail
    obtain ⟨wz, hwz⟩ : ∃ wz, wz = w1.setCell ⟨R, 0, none⟩ (.bool false) := ⟨_, rfl⟩
    rw [← hwz]
    have HZ := Lib.hid (HSTEP.out wz hwz)
    clear HSTEP hwz c1 c2 c3 d1 d2 d3
    go_loopw [5] (fun i wr => ∃ (k : Nat) (oi : Option (List UInt8)) (X' : Value) (xs : List Int), i = .int .i64 k ∧ k ≤ n ∧ Hid (xs.length = k ∧ k ≤ 128) ∧ Hid (RW B0 B S R F1 F2 E E0 wb oi A X' ts xs lg nx wr) ∧ Hid (TillZ T n k oi xs) ∧ Hid (oi ≠ none → n ≤ 128)) (fun i _ => n - (intOf i).toNat)
    case atStart => exact ⟨0, o2, X, [], rfl, by omega, Lib.hid ⟨rfl, by omega⟩, HZ, HI, H8⟩
    case round =>
      clear HZ HI H8
      obtain ⟨k, oi, X', xs, rfl, hk, HL, HZ, HI, H8⟩ := hrel
      obtain ⟨s, r, hns, hsz, ho1, ho2⟩ := HZ.out.1
      have HO1 := Lib.hid ho1
      have HO2 := Lib.hid ho2
      obtain ⟨⟨c1, c2, c3⟩, d1, d2, d3⟩ := hns
      clear ho1 ho2
      cases r with
      | false =>
        have hoi : oi = none := by
          cases oi with
          | none => rfl
          | some l => have := (HO1.out l rfl).1; cases this
        subst hoi
        have HF := Lib.hid (HI.out.1 rfl)
        go_wp2_with fail
        go_end0
        refine ⟨rfl, X', xs, ?_, fun p hp => ?_, by have := HL.out; omega⟩
        · rw [HF.out]; exact HZ.out
        · rw [HF.out] at hp; cases hp
      | true =>
        obtain ⟨li, hli⟩ : ∃ li, oi = some li := by
          cases oi with
          | none => have := HO2.out rfl; cases this
          | some l => exact ⟨l, rfl⟩
        subst hli
        by_cases hlt : k < n
        · have hki : (k : Int) < (n : Int) := by omega
          have h128 := H8.out (by simp)
          go_wp2_with fail
          refine (int_w HY.out HZ.out (by have := HL.out; omega)).mono ?_
          rintro e w2 ⟨rfl, Y, x, r2, p2⟩
          have HR2 := Lib.hid r2
          have HP2 := Lib.hid (HI.out.step hlt p2)
          clear r2 p2 c1 c2 c3 d1 d2 d3
          go_wp2_with fail
          go_roundw
          case rel => exact ⟨k + 1, _, Y, xs ++ [x], by go_num, hlt, Lib.hid ⟨by rw [List.length_append, HL.out.1]; rfl, by omega⟩, HR2, HP2, Lib.hid (fun _ => h128)⟩
          case measure => simp [intOf]; omega
        · have hki : ¬ (k : Int) < (n : Int) := by omega
          have HF := Lib.hid (HI.out.2 li rfl)
          go_wp2_with fail
          go_end0
          have hf := HF.out
          rw [show n - k = 0 by omega, rdZs_zero] at hf
          simp only [Option.map_some, List.append_nil] at hf
          refine ⟨rfl, X', xs, ?_, fun p hp => ?_, by have := HL.out; omega⟩
          · rw [hf]; exact HZ.out
          · rw [hf] at hp; cases hp; rfl
  · have h8z : (n : Int) ≤ 128 := by omega
    go_wp2_with fail
    obtain ⟨wz, hwz⟩ : ∃ wz, wz = w1.setCell ⟨R, 0, none⟩ (.bool true) := ⟨_, rfl⟩
    rw [← hwz]
    have HZ := Lib.hid (HSTEP.out wz hwz)
    clear HSTEP hwz c1 c2 c3 d1 d2 d3
    go_loopw [5] (fun i wr => ∃ (k : Nat) (oi : Option (List UInt8)) (X' : Value) (xs : List Int), i = .int .i64 k ∧ k ≤ n ∧ Hid (xs.length = k ∧ k ≤ 128) ∧ Hid (RW B0 B S R F1 F2 E E0 wb oi A X' ts xs lg nx wr) ∧ Hid (TillZ T n k oi xs) ∧ Hid (oi ≠ none → n ≤ 128)) (fun i _ => n - (intOf i).toNat)
    case atStart => exact ⟨0, o2, X, [], rfl, by omega, Lib.hid ⟨rfl, by omega⟩, HZ, HI, H8⟩
    case round =>
      clear HZ HI H8
      obtain ⟨k, oi, X', xs, rfl, hk, HL, HZ, HI, H8⟩ := hrel
      obtain ⟨s, r, hns, hsz, ho1, ho2⟩ := HZ.out.1
      have HO1 := Lib.hid ho1
      have HO2 := Lib.hid ho2
      obtain ⟨⟨c1, c2, c3⟩, d1, d2, d3⟩ := hns
      clear ho1 ho2
      cases r with
      | false =>
        have hoi : oi = none := by
          cases oi with
          | none => rfl
          | some l => have := (HO1.out l rfl).1; cases this
        subst hoi
        have HF := Lib.hid (HI.out.1 rfl)
        go_wp2_with fail
        go_end0
        refine ⟨rfl, X', xs, ?_, fun p hp => ?_, by have := HL.out; omega⟩
        · rw [HF.out]; exact HZ.out
        · rw [HF.out] at hp; cases hp
      | true =>
        obtain ⟨li, hli⟩ : ∃ li, oi = some li := by
          cases oi with
          | none => have := HO2.out rfl; cases this
          | some l => exact ⟨l, rfl⟩
        subst hli
        by_cases hlt : k < n
        · have hki : (k : Int) < (n : Int) := by omega
          have h128 := H8.out (by simp)
          go_wp2_with fail
          refine (int_w HY.out HZ.out (by have := HL.out; omega)).mono ?_
          rintro e w2 ⟨rfl, Y, x, r2, p2⟩
          have HR2 := Lib.hid r2
          have HP2 := Lib.hid (HI.out.step hlt p2)
          clear r2 p2 c1 c2 c3 d1 d2 d3
          go_wp2_with fail
          go_roundw
          case rel => exact ⟨k + 1, _, Y, xs ++ [x], by go_num, hlt, Lib.hid ⟨by rw [List.length_append, HL.out.1]; rfl, by omega⟩, HR2, HP2, Lib.hid (fun _ => h128)⟩
          case measure => simp [intOf]; omega
        · have hki : ¬ (k : Int) < (n : Int) := by omega
          have HF := Lib.hid (HI.out.2 li rfl)
          go_wp2_with fail
          go_end0
          have hf := HF.out
          rw [show n - k = 0 by omega, rdZs_zero] at hf
          simp only [Option.map_some, List.append_nil] at hf
          refine ⟨rfl, X', xs, ?_, fun p hp => ?_, by have := HL.out; omega⟩
          · rw [hf]; exact HZ.out
          · rw [hf] at hp; cases hp; rfl
  · have h8d : decide ((n : Int) ≤ 128) = false := decide_eq_false (by omega)
    go_wp2_with fail
    obtain ⟨wz, hwz⟩ : ∃ wz, wz = w1.setCell ⟨R, 0, none⟩ (.bool false) := ⟨_, rfl⟩
    rw [← hwz]
    have HZ := Lib.hid (HSTEP.out wz hwz)
    clear HSTEP hwz c1 c2 c3 d1 d2 d3
    go_loopw [5] (fun i wr => ∃ (k : Nat) (oi : Option (List UInt8)) (X' : Value) (xs : List Int), i = .int .i64 k ∧ k ≤ n ∧ Hid (xs.length = k ∧ k ≤ 128) ∧ Hid (RW B0 B S R F1 F2 E E0 wb oi A X' ts xs lg nx wr) ∧ Hid (TillZ T n k oi xs) ∧ Hid (oi ≠ none → n ≤ 128)) (fun i _ => n - (intOf i).toNat)
    case atStart => exact ⟨0, o2, X, [], rfl, by omega, Lib.hid ⟨rfl, by omega⟩, HZ, HI, H8⟩
    case round =>
      clear HZ HI H8
      obtain ⟨k, oi, X', xs, rfl, hk, HL, HZ, HI, H8⟩ := hrel
      obtain ⟨s, r, hns, hsz, ho1, ho2⟩ := HZ.out.1
      have HO1 := Lib.hid ho1
      have HO2 := Lib.hid ho2
      obtain ⟨⟨c1, c2, c3⟩, d1, d2, d3⟩ := hns
      clear ho1 ho2
      cases r with
      | false =>
        have hoi : oi = none := by
          cases oi with
          | none => rfl
          | some l => have := (HO1.out l rfl).1; cases this
        subst hoi
        have HF := Lib.hid (HI.out.1 rfl)
        go_wp2_with fail
        go_end0
        refine ⟨rfl, X', xs, ?_, fun p hp => ?_, by have := HL.out; omega⟩
        · rw [HF.out]; exact HZ.out
        · rw [HF.out] at hp; cases hp
      | true =>
        obtain ⟨li, hli⟩ : ∃ li, oi = some li := by
          cases oi with
          | none => have := HO2.out rfl; cases this
          | some l => exact ⟨l, rfl⟩
        subst hli
        by_cases hlt : k < n
        · have hki : (k : Int) < (n : Int) := by omega
          have h128 := H8.out (by simp)
          go_wp2_with fail
          refine (int_w HY.out HZ.out (by have := HL.out; omega)).mono ?_
          rintro e w2 ⟨rfl, Y, x, r2, p2⟩
          have HR2 := Lib.hid r2
          have HP2 := Lib.hid (HI.out.step hlt p2)
          clear r2 p2 c1 c2 c3 d1 d2 d3
          go_wp2_with fail
          go_roundw
          case rel => exact ⟨k + 1, _, Y, xs ++ [x], by go_num, hlt, Lib.hid ⟨by rw [List.length_append, HL.out.1]; rfl, by omega⟩, HR2, HP2, Lib.hid (fun _ => h128)⟩
          case measure => simp [intOf]; omega
        · have hki : ¬ (k : Int) < (n : Int) := by omega
          have HF := Lib.hid (HI.out.2 li rfl)
          go_wp2_with fail
          go_end0
          have hf := HF.out
          rw [show n - k = 0 by omega, rdZs_zero] at hf
          simp only [Option.map_some, List.append_nil] at hf
          refine ⟨rfl, X', xs, ?_, fun p hp => ?_, by have := HL.out; omega⟩
          · rw [hf]; exact HZ.out
          · rw [hf] at hp; cases hp; rfl
end Go.Proofs.Ythmkalnbdocdcaa
