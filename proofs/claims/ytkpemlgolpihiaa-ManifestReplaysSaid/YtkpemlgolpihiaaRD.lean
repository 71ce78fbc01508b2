/-
  Texts of mine as one, in the order in which they build: Yn, Yo, Yp, Yq. Conditions: as each says.
-/
import Derived.Test.YtkpemlgolpihiaaRC
import Derived.Deep.DeepCutAuto
import Derived.Deep.CutRange
import Derived.Test.YtkpemlgolpihiaaRB
import Derived.Test.YtkpemlgolpihiaaRg
import Derived.Test.YtkpemlgolpihiaaVp
import Derived.Deep.RegionHeld3
namespace Go.Proofs.Ytkpemlgolpihiaa
set_option maxRecDepth 100000
open Go.RowKit
set_option linter.unusedVariables false
set_option linter.unusedSimpArgs false

/-- The reader's box: what is left of the bytes, and whether all was right. -/
def NP (P : Nat) (w : World) (s : ByteArray) (r : Bool) : Prop := (w.cell? ⟨P, 0, none⟩ = some (.string s) ∧ w.frozen? ⟨P, 0, none⟩ = false) ∧ (w.cell? ⟨P, 1, none⟩ = some (.bool r) ∧ w.frozen? ⟨P, 1, none⟩ = false) ∧ P < w.heap.size
theorem NP.keep {P : Nat} {w w' : World} {s : ByteArray} {r : Bool} {X : Nat → Prop} (h : NP P w s r) (hk : KeepX X w w') (hx : ¬ X P) : NP P w' s r := by
  obtain ⟨⟨a, b⟩, ⟨c, d⟩, e⟩ := h
  exact ⟨⟨(hk.cell e hx 0).1.trans a, (hk.cell e hx 0).2.trans b⟩, ⟨(hk.cell e hx 1).1.trans c, (hk.cell e hx 1).2.trans d⟩, Nat.lt_of_lt_of_le e hk.2⟩
theorem NP.left {P : Nat} {w : World} {s : ByteArray} {r : Bool} (h : NP P w s r) (s' : ByteArray) : NP P (w.setCell ⟨P, 0, none⟩ (.string s')) s' r := by
  obtain ⟨⟨a, b⟩, ⟨c, d⟩, e⟩ := h
  refine ⟨⟨World.cell?_setCell_same' _ _ _ (by rw [a]; rfl), by rw [World.frozen?_setCell]; exact b⟩, ⟨?_, by rw [World.frozen?_setCell]; exact d⟩, by simpa using e⟩
  rw [World.cell?_setCell_other _ _ _ _ (by intro e; simp at e)]; exact c
theorem NP.right {P : Nat} {w : World} {s : ByteArray} {r : Bool} (h : NP P w s r) (r' : Bool) : NP P (w.setCell ⟨P, 1, none⟩ (.bool r')) s r' := by
  obtain ⟨⟨a, b⟩, ⟨c, d⟩, e⟩ := h
  refine ⟨⟨?_, by rw [World.frozen?_setCell]; exact b⟩, ⟨World.cell?_setCell_same' _ _ _ (by rw [c]; rfl), by rw [World.frozen?_setCell]; exact d⟩, by simpa using e⟩
  rw [World.cell?_setCell_other _ _ _ _ (by intro e; simp at e)]; exact a
def RP (P : Nat) (w : World) (o : Option (List UInt8)) : Prop := ∃ s r, NP P w s r ∧ s.size ≤ 16777216 ∧ (∀ l, o = some l → r = true ∧ s.data.toList = l) ∧ (o = none → r = false)
def LQ (B0 B P E E0 : Nat) : Prop := (B0 ≤ P ∧ B0 ≤ E ∧ B0 ≤ E0) ∧ (P < B ∧ E < B ∧ E0 < B) ∧ (P ≠ E ∧ P ≠ E0 ∧ E ≠ E0)
def RQ (B0 B P E E0 : Nat) (wb : World) (o : Option (List UInt8)) (A D : Value) (ts : List Tb) (zs : List Int) (lg nx : Int) (w : World) : Prop :=
  RP P w o ∧ EdW w E A D lg nx ∧ EdW w E0 (.slice none 0 0) (.slice none 0 0) 0 0 ∧ w.ownsRow B 49 4 A ts.length (tv4 ts) ∧ w.ownsRow B 3 1 D zs.length (iv zs) ∧ okT ts ∧ Below B0 wb w ∧ B ≤ w.heap.size ∧ B0 ≤ B
theorem RQ.keep {B0 B P E E0 : Nat} {wb w w' : World} {o o' : Option (List UInt8)} {A D : Value} {ts : List Tb} {zs : List Int} {lg nx : Int} (hy : LQ B0 B P E E0) (h : RQ B0 B P E E0 wb o A D ts zs lg nx w) (hk : KeepX (fun y => y = P) w w') (hb : Below B0 w w') (hr : RP P w' o') :
    RQ B0 B P E E0 wb o' A D ts zs lg nx w' := by
  obtain ⟨y1, y2, y3⟩ := hy
  obtain ⟨h1, h3, h4, h5, h6, h7, h8, h9, h10⟩ := h
  have n5 : ∀ g, B ≤ g → g < w.heap.size → w'.heap[g]? = w.heap[g]? := fun g hg hl => hk.1 g hl (by omega)
  exact ⟨hr, h3.keep hk (by omega), h4.keep hk (by omega), own_keep h5 n5, own_keep h6 n5, h7, h8.trans hb, Nat.le_trans h9 hk.2, h10⟩
theorem ttR_no {l t : List UInt8} {a x : Nat} (h : ttR l = (t, a, x)) (hx : ¬ x = 0) : t = [] := by
  rcases tk_cases l with h1 | ⟨n, k, h1, h2, h3, h4⟩
  · have : ttR l = ([], 0, (tk l 0 0).2.2) := ttR_err rfl (by rcases h1 with h1 | h1 <;> rw [h1] <;> decide)
    rw [h] at this
    simp only [Prod.mk.injEq] at this
    exact this.1
  · by_cases c1 : 262144 < n
    · rw [ttR_big h1 c1] at h
      simp only [Prod.mk.injEq] at h
      exact h.1.symm
    · by_cases c2 : l.length < k + n
      · rw [ttR_short h1 (by omega) c2] at h
        simp only [Prod.mk.injEq] at h
        exact h.1.symm
      · rw [ttR_ok h1 (by omega) (by omega)] at h
        simp only [Prod.mk.injEq] at h
        exact absurd h.2.2.symm hx
set_option maxHeartbeats 4000000 in
theorem num_q {B0 B P E E0 : Nat} {wb w : World} {o : Option (List UInt8)} {A D : Value} {ts : List Tb} {zs : List Int} {lg nx : Int} (hy : LQ B0 B P E E0) (h : RQ B0 B P E E0 wb o A D ts zs lg nx w) :
    Calls Try.prog 36 #[.pointer (some ⟨P, 0, none⟩)] w fun e w' => ∃ n : Nat, e = .returned (.int .i64 (n : Nat)) ∧ n ≤ 4611686018427387904 ∧ RQ B0 B P E E0 wb ((o.bind rdN).map (·.2)) A D ts zs lg nx w' ∧ (∀ p, o.bind rdN = some p → n = p.1) ∧ KeepX (fun y => y = P) w w' ∧ Below B0 w w' := by
  obtain ⟨s, r, ⟨⟨c1, c2⟩, ⟨d1, d2⟩, hP⟩, hs, ho1, ho2⟩ := h.1
  obtain ⟨n, a, x, ht⟩ : ∃ n a x, tk s.data.toList 0 0 = (n, a, x) := ⟨_, _, _, rfl⟩
  have hle := tk_le ht
  rw [size_list] at hle
  have hT := take_ref s w (by omega)
  rw [ht] at hT
  simp only at hT
  have HT := Lib.hid hT
  have H0 := Lib.hid h
  have HY := Lib.hid hy
  have HO := Lib.hid (And.intro ho1 ho2)
  have HTK := Lib.hid ht
  clear hT h hy ho1 ho2 ht
  by_cases hx : x = 0
  · subst hx
    have hai : (a : Int) ≤ (s.size : Int) := by omega
    have a0 : (0 : Int) ≤ (a : Int) := by omega
    have hfin : Hid (∀ wf, NP P wf s r → KeepX (fun y => y = P) w wf → Below B0 w wf → RQ B0 B P E E0 wb ((o.bind rdN).map (·.2)) A D ts zs lg nx (wf.setCell ⟨P, 0, none⟩ (.string (s.extract a s.size))) ∧ KeepX (fun y => y = P) w (wf.setCell ⟨P, 0, none⟩ (.string (s.extract a s.size))) ∧ Below B0 w (wf.setCell ⟨P, 0, none⟩ (.string (s.extract a s.size)))) := Lib.hid fun wf hn0 hk hb => by
      refine ⟨RQ.keep HY.out H0.out (KeepX.set (X := fun y => y = P) hk (p := ⟨P, 0, none⟩) rfl _) (hb.setCell (p := ⟨P, 0, none⟩) HY.out.1.1 _) ⟨s.extract a s.size, r, hn0.left _, by rw [ByteArray.size_extract]; omega, fun l hl => ?_, fun hl => ?_⟩, KeepX.set (X := fun y => y = P) hk (p := ⟨P, 0, none⟩) rfl _, hb.setCell (p := ⟨P, 0, none⟩) HY.out.1.1 _⟩
      · cases o with
        | none => simp at hl
        | some m =>
          obtain ⟨rfl, rfl⟩ := HO.out.1 m rfl
          simp only [Option.bind_some, rdN, HTK.out] at hl
          simp at hl
          exact ⟨rfl, by rw [rest_bytes]; exact hl⟩
      · cases o with
        | none => exact HO.out.2 rfl
        | some m =>
          obtain ⟨rfl, rfl⟩ := HO.out.1 m rfl
          simp only [Option.bind_some, rdN, HTK.out] at hl
          simp at hl
    go_enter Try.func36, Try.ntmps36
    go_wp2_with fail
    refine HT.out.mono ?_
    rintro e w1 ⟨rfl, rfl⟩
    go_wp2
    go_ret
    have hf := hfin.out _ ⟨⟨c1, c2⟩, ⟨d1, d2⟩, hP⟩ (KeepX.refl _ _) (Below.refl _ _)
    refine ⟨n, rfl, by omega, hf.1, fun p hp => ?_, hf.2.1, hf.2.2⟩
    cases o with
    | none => simp at hp
    | some m =>
      obtain ⟨rfl, rfl⟩ := HO.out.1 m rfl
      simp only [Option.bind_some, rdN, HTK.out] at hp
      simp at hp
      rw [← hp]
  · have hxb : ((x : Int) == 0) = false := by rw [beq_eq_false_iff_ne]; omega
    have hn0 : n = 0 := (by have := (tk_err s.data.toList 0 0 (by rw [HTK.out]; exact hx)).1; rw [HTK.out] at this; exact this)
    have hno : Hid ((o.bind rdN) = none) := Lib.hid (by
      cases o with
      | none => rfl
      | some m =>
        obtain ⟨rfl, rfl⟩ := HO.out.1 m rfl
        simp only [Option.bind_some, rdN, HTK.out]
        rw [if_neg hx])
    have hfin : Hid (∀ wf, NP P wf s r → KeepX (fun y => y = P) w wf → Below B0 w wf → RQ B0 B P E E0 wb ((o.bind rdN).map (·.2)) A D ts zs lg nx (wf.setCell ⟨P, 1, none⟩ (.bool false)) ∧ KeepX (fun y => y = P) w (wf.setCell ⟨P, 1, none⟩ (.bool false)) ∧ Below B0 w (wf.setCell ⟨P, 1, none⟩ (.bool false))) := Lib.hid fun wf hn0 hk hb => by
      rw [hno.out]
      exact ⟨RQ.keep HY.out H0.out (KeepX.set (X := fun y => y = P) hk (p := ⟨P, 1, none⟩) rfl _) (hb.setCell (p := ⟨P, 1, none⟩) HY.out.1.1 _) ⟨s, false, hn0.right false, hs, fun l hl => (by cases hl), fun _ => rfl⟩, KeepX.set (X := fun y => y = P) hk (p := ⟨P, 1, none⟩) rfl _, hb.setCell (p := ⟨P, 1, none⟩) HY.out.1.1 _⟩
    go_enter Try.func36, Try.ntmps36
    go_wp2_with fail
    refine HT.out.mono ?_
    rintro e w1 ⟨rfl, rfl⟩
    go_wp2
    go_ret
    have hf := hfin.out _ ⟨⟨c1, c2⟩, ⟨d1, d2⟩, hP⟩ (KeepX.refl _ _) (Below.refl _ _)
    exact ⟨0, rfl, by simp, hf.1, fun p hp => (by rw [hno.out] at hp; cases hp), hf.2.1, hf.2.2⟩
set_option maxHeartbeats 4000000 in
theorem txt_q {B0 B P E E0 : Nat} {wb w : World} {o : Option (List UInt8)} {A D : Value} {ts : List Tb} {zs : List Int} {lg nx : Int} (hy : LQ B0 B P E E0) (h : RQ B0 B P E E0 wb o A D ts zs lg nx w) :
    Calls Try.prog 37 #[.pointer (some ⟨P, 0, none⟩)] w fun e w' => ∃ n : List UInt8, e = .returned (.string ⟨n.toArray⟩) ∧ n.length ≤ 16777216 ∧ RQ B0 B P E E0 wb ((o.bind rdS).map (·.2)) A D ts zs lg nx w' ∧ (∀ p, o.bind rdS = some p → n = p.1) ∧ KeepX (fun y => y = P) w w' ∧ Below B0 w w' := by
  obtain ⟨s, r, ⟨⟨c1, c2⟩, ⟨d1, d2⟩, hP⟩, hs, ho1, ho2⟩ := h.1
  obtain ⟨n, a, x, ht⟩ : ∃ n a x, ttR s.data.toList = (n, a, x) := ⟨_, _, _, rfl⟩
  have hle := ttR_le ht
  rw [size_list] at hle
  have hT := taketext_ref s w (by omega)
  unfold TT at hT
  rw [ht] at hT
  simp only at hT
  have HT := Lib.hid hT
  have H0 := Lib.hid h
  have HY := Lib.hid hy
  have HO := Lib.hid (And.intro ho1 ho2)
  have HTK := Lib.hid ht
  clear hT h hy ho1 ho2 ht
  by_cases hx : x = 0
  · subst hx
    have hai : (a : Int) ≤ (s.size : Int) := by omega
    have a0 : (0 : Int) ≤ (a : Int) := by omega
    have hfin : Hid (∀ wf, NP P wf s r → KeepX (fun y => y = P) w wf → Below B0 w wf → RQ B0 B P E E0 wb ((o.bind rdS).map (·.2)) A D ts zs lg nx (wf.setCell ⟨P, 0, none⟩ (.string (s.extract a s.size))) ∧ KeepX (fun y => y = P) w (wf.setCell ⟨P, 0, none⟩ (.string (s.extract a s.size))) ∧ Below B0 w (wf.setCell ⟨P, 0, none⟩ (.string (s.extract a s.size)))) := Lib.hid fun wf hn0 hk hb => by
      refine ⟨RQ.keep HY.out H0.out (KeepX.set (X := fun y => y = P) hk (p := ⟨P, 0, none⟩) rfl _) (hb.setCell (p := ⟨P, 0, none⟩) HY.out.1.1 _) ⟨s.extract a s.size, r, hn0.left _, by rw [ByteArray.size_extract]; omega, fun l hl => ?_, fun hl => ?_⟩, KeepX.set (X := fun y => y = P) hk (p := ⟨P, 0, none⟩) rfl _, hb.setCell (p := ⟨P, 0, none⟩) HY.out.1.1 _⟩
      · cases o with
        | none => simp at hl
        | some m =>
          obtain ⟨rfl, rfl⟩ := HO.out.1 m rfl
          simp only [Option.bind_some, rdS, HTK.out] at hl
          simp at hl
          exact ⟨rfl, by rw [rest_bytes]; exact hl⟩
      · cases o with
        | none => exact HO.out.2 rfl
        | some m =>
          obtain ⟨rfl, rfl⟩ := HO.out.1 m rfl
          simp only [Option.bind_some, rdS, HTK.out] at hl
          simp at hl
    go_enter Try.func37, Try.ntmps37
    go_wp2_with fail
    refine HT.out.mono ?_
    rintro e w1 ⟨rfl, b1⟩
    have HN1 := Lib.hid ((show NP P w s r from ⟨⟨c1, c2⟩, ⟨d1, d2⟩, hP⟩).keep (X := fun _ => False) (KeepX.of b1) id)
    have HB1 := Lib.hid b1
    clear c1 c2 d1 d2 hP b1
    obtain ⟨⟨c1, c2⟩, ⟨d1, d2⟩, hP⟩ := HN1.out
    go_wp2
    go_ret
    have hf := hfin.out _ HN1.out (KeepX.of HB1.out) (HB1.out.mono (by have := H0.out.2.2.2.2.2.2.2; omega))
    refine ⟨n, rfl, by omega, hf.1, fun p hp => ?_, hf.2.1, hf.2.2⟩
    cases o with
    | none => simp at hp
    | some m =>
      obtain ⟨rfl, rfl⟩ := HO.out.1 m rfl
      simp only [Option.bind_some, rdS, HTK.out] at hp
      simp at hp
      rw [← hp]
  · have hxb : ((x : Int) == 0) = false := by rw [beq_eq_false_iff_ne]; omega
    have hn0 : n = [] := ttR_no HTK.out hx
    have hno : Hid ((o.bind rdS) = none) := Lib.hid (by
      cases o with
      | none => rfl
      | some m =>
        obtain ⟨rfl, rfl⟩ := HO.out.1 m rfl
        simp only [Option.bind_some, rdS, HTK.out]
        rw [if_neg hx])
    have hfin : Hid (∀ wf, NP P wf s r → KeepX (fun y => y = P) w wf → Below B0 w wf → RQ B0 B P E E0 wb ((o.bind rdS).map (·.2)) A D ts zs lg nx (wf.setCell ⟨P, 1, none⟩ (.bool false)) ∧ KeepX (fun y => y = P) w (wf.setCell ⟨P, 1, none⟩ (.bool false)) ∧ Below B0 w (wf.setCell ⟨P, 1, none⟩ (.bool false))) := Lib.hid fun wf hn0 hk hb => by
      rw [hno.out]
      exact ⟨RQ.keep HY.out H0.out (KeepX.set (X := fun y => y = P) hk (p := ⟨P, 1, none⟩) rfl _) (hb.setCell (p := ⟨P, 1, none⟩) HY.out.1.1 _) ⟨s, false, hn0.right false, hs, fun l hl => (by cases hl), fun _ => rfl⟩, KeepX.set (X := fun y => y = P) hk (p := ⟨P, 1, none⟩) rfl _, hb.setCell (p := ⟨P, 1, none⟩) HY.out.1.1 _⟩
    go_enter Try.func37, Try.ntmps37
    go_wp2_with fail
    refine HT.out.mono ?_
    rintro e w1 ⟨rfl, b1⟩
    have HN1 := Lib.hid ((show NP P w s r from ⟨⟨c1, c2⟩, ⟨d1, d2⟩, hP⟩).keep (X := fun _ => False) (KeepX.of b1) id)
    have HB1 := Lib.hid b1
    clear c1 c2 d1 d2 hP b1
    obtain ⟨⟨c1, c2⟩, ⟨d1, d2⟩, hP⟩ := HN1.out
    go_wp2
    go_ret
    have hf := hfin.out _ HN1.out (KeepX.of HB1.out) (HB1.out.mono (by have := H0.out.2.2.2.2.2.2.2; omega))
    exact ⟨[], rfl, by simp, hf.1, fun p hp => (by rw [hno.out] at hp; cases hp), hf.2.1, hf.2.2⟩
end Go.Proofs.Ytkpemlgolpihiaa
namespace Go.Proofs.Ytkpemlgolpihiaa
set_option maxRecDepth 100000
open Go.RowKit
set_option linter.unusedVariables false
set_option linter.unusedSimpArgs false

theorem rdTs_len : ∀ {n : Nat} {l : List UInt8} {p : List Tb × List UInt8}, rdTs n l = some p → p.1.length = n
  | 0, l, p, h => by rw [rdTs_zero] at h; cases h; rfl
  | n + 1, l, p, h => by
    rw [rdTs_succ] at h
    cases e : rdT l with
    | none => rw [e] at h; cases h
    | some q =>
      rw [e, Option.bind_some] at h
      cases e2 : rdTs n q.2 with
      | none => rw [e2] at h; cases h
      | some r =>
        rw [e2, Option.bind_some] at h
        cases h
        simp [rdTs_len e2]
theorem rdZs_len : ∀ {n : Nat} {l : List UInt8} {p : List Int × List UInt8}, rdZs n l = some p → p.1.length = n
  | 0, l, p, h => by rw [rdZs_zero] at h; cases h; rfl
  | n + 1, l, p, h => by
    rw [rdZs_succ] at h
    cases e : rdZ1 l with
    | none => rw [e] at h; cases h
    | some q =>
      rw [e, Option.bind_some] at h
      cases e2 : rdZs n q.2 with
      | none => rw [e2] at h; cases h
      | some r =>
        rw [e2, Option.bind_some] at h
        cases h
        simp [rdZs_len e2]
/-- What stands behind a loop that ends at 129. -/
def EndX {α : Type} (T : Option (List α × List UInt8)) (n : Nat) (oi : Option (List UInt8)) (xs : List α) : Prop := (n ≤ 128 → oi = T.map (·.2) ∧ ∀ p, T = some p → xs = p.1) ∧ (128 < n → oi = none ∨ xs.length = 129)
theorem EndX.none {α : Type} {T : Option (List α × List UInt8)} {n : Nat} {xs : List α} (h : EndX T n none xs) (hn : n ≤ 128) : T = none := by
  have := (h.1 hn).1
  cases T with
  | none => rfl
  | some p => simp at this
theorem rfin {l : List UInt8} {n m n1 n2 : Nat} {ts : List Tb} {zs : List Int} {o2 o4 o6 : Option (List UInt8)} {T : Option (List Tb × List UInt8)} {Z : Option (List Int × List UInt8)}
    (hA : ∀ p, (some l).bind rdN = some p → n = p.1) (hT : T = (((some l).bind rdN).map (·.2)).bind (rdTs n)) (h1 : EndX T n o2 ts)
    (hM : ∀ p, o2.bind rdN = some p → m = p.1) (hZ : Z = ((o2.bind rdN).map (·.2)).bind (rdZs m)) (h2 : EndX Z m o4 zs)
    (hL : ∀ p, o4.bind rdN = some p → n1 = p.1) (hN : ∀ p, ((o4.bind rdN).map (·.2)).bind rdN = some p → n2 = p.1) (h6 : o6 = (((o4.bind rdN).map (·.2)).bind rdN).map (·.2)) :
    (o6 = some [] → ts.length = n → zs.length = m → mayEd (ts, zs, (n1 : Int), (n2 : Int)) = true → takE l = some (ts, zs, (n1 : Int), (n2 : Int))) ∧
    ((takE l).isSome = true → o6 = some [] ∧ ts.length = n ∧ zs.length = m ∧ mayEd (ts, zs, (n1 : Int), (n2 : Int)) = true) := by
  have key : n ≤ 128 → m ≤ 128 → ∀ d, takE l = some d ↔ (o6 = some [] ∧ mayEd d = true ∧ d = (ts, zs, (n1 : Int), (n2 : Int))) := by
    intro hn8 hm8 d
    obtain ⟨e1, v1⟩ := h1.1 hn8
    obtain ⟨e2, v2⟩ := h2.1 hm8
    have rT : (some l).bind rdEachT = T := by
      rw [hT]
      simp only [Option.bind_some, rdEachT] at hA ⊢
      cases e : rdN l with
      | none => rfl
      | some p =>
        rw [hA p e] at hn8 ⊢
        simp only [Option.bind_some, Option.map_some]
        rw [if_pos hn8]
    have rZ : ((T.map (·.2)).bind rdEachZ) = Z := by
      rw [hZ, ← e1]
      cases o2 with
      | none => rfl
      | some r =>
        simp only [Option.bind_some, rdEachZ] at hM ⊢
        cases e : rdN r with
        | none => rfl
        | some p =>
          rw [hM p e] at hm8 ⊢
          simp only [Option.bind_some, Option.map_some]
          rw [if_pos hm8]
    have q := rdE_all (l := l) (ts := ts) (zs := zs) (n1 := n1) (n2 := n2) (by rw [rT]; exact v1) (by rw [rT, rZ]; exact v2) (by rw [rT, rZ, ← e2]; exact hL) (by rw [rT, rZ, ← e2]; exact hN)
    rw [rT, rZ, ← e2, ← h6] at q
    unfold takE
    cases o6 with
    | none => rw [q.2 rfl]; simp
    | some r =>
      rw [q.1 r rfl]
      by_cases hr : r = []
      · subst hr
        rw [if_pos rfl, Option.bind_some]
        constructor
        · intro h
          split at h
          · cases h; exact ⟨rfl, by assumption, rfl⟩
          · cases h
        · rintro ⟨-, h2, rfl⟩
          rw [if_pos h2]
      · rw [if_neg hr]
        simp
        intro h; exact absurd h hr
  constructor
  · intro a1 a2 a3 a4
    obtain ⟨b1, b2, -⟩ := mayEd_iff.1 a4
    simp only at b1 b2
    exact (key (by omega) (by omega) _).2 ⟨a1, a4, rfl⟩
  · intro h
    obtain ⟨d, hd⟩ := Option.isSome_iff_exists.1 h
    have hn8 : n ≤ 128 := by
      unfold takE at hd
      rw [rdE_eq] at hd
      simp only [Option.bind_some] at hA
      unfold rdEachT at hd
      cases e : rdN l with
      | none => rw [e] at hd; cases hd
      | some p =>
        rw [e, Option.bind_some] at hd
        rw [hA p e]
        by_cases h8 : p.1 ≤ 128
        · exact h8
        · rw [if_neg h8] at hd; cases hd
    obtain ⟨e1, v1⟩ := h1.1 hn8
    have rT : rdEachT l = T := by
      rw [hT]
      simp only [Option.bind_some, rdEachT] at hA ⊢
      cases e : rdN l with
      | none => rfl
      | some p =>
        rw [hA p e] at hn8 ⊢
        simp only [Option.bind_some, Option.map_some]
        rw [if_pos hn8]
    have hm8 : m ≤ 128 := by
      have hd' := hd
      unfold takE at hd'
      rw [rdE_eq, rT] at hd'
      cases eT : T with
      | none => rw [eT] at hd'; cases hd'
      | some tp =>
        rw [eT] at hd' e1
        simp only [Option.map_some] at e1
        rw [e1] at hM
        simp only [Option.bind_some] at hd' hM
        unfold rdEachZ at hd'
        cases e : rdN tp.2 with
        | none => rw [e] at hd'; cases hd'
        | some p =>
          rw [e, Option.bind_some] at hd'
          rw [hM p e]
          by_cases h8 : p.1 ≤ 128
          · exact h8
          · rw [if_neg h8] at hd'; cases hd'
    obtain ⟨k1, k2, k3⟩ := (key hn8 hm8 d).1 hd
    obtain ⟨e2, v2⟩ := h2.1 hm8
    have t1 : ts.length = n := by
      cases eT : T with
      | none =>
        rw [eT] at e1
        simp only [Option.map_none] at e1
        rw [e1] at hZ
        simp at hZ
        rw [hZ] at e2
        simp only [Option.map_none] at e2
        rw [e2] at h6
        rw [h6] at k1; cases k1
      | some tp =>
        rw [v1 tp eT]
        rw [hT] at eT
        cases e0 : ((some l).bind rdN).map (·.2) with
        | none => rw [e0] at eT; cases eT
        | some r0 => rw [e0, Option.bind_some] at eT; exact rdTs_len eT
    have t2 : zs.length = m := by
      cases eZ : Z with
      | none =>
        rw [eZ] at e2
        simp only [Option.map_none] at e2
        rw [e2] at h6
        rw [h6] at k1; cases k1
      | some tp =>
        rw [v2 tp eZ]
        rw [hZ] at eZ
        cases e0 : (o2.bind rdN).map (·.2) with
        | none => rw [e0] at eZ; cases eZ
        | some r0 => rw [e0, Option.bind_some] at eZ; exact rdZs_len eZ
    exact ⟨k1, t1, t2, by rw [← k3]; exact k2⟩
end Go.Proofs.Ytkpemlgolpihiaa
namespace Go.Proofs.Ytkpemlgolpihiaa
set_option maxRecDepth 100000
open Go.RowKit
set_option linter.unusedVariables false
set_option linter.unusedSimpArgs false

/-- A box of four cells that may be written. -/
def B4 (w : World) (x : Nat) (a b c d : Value) : Prop := (w.cell? ⟨x, 0, none⟩ = some a ∧ w.cell? ⟨x, 1, none⟩ = some b ∧ w.cell? ⟨x, 2, none⟩ = some c ∧ w.cell? ⟨x, 3, none⟩ = some d) ∧ EdFree w x ∧ x < w.heap.size
theorem B4.new (w : World) (T : TypeId) (a b c d : Value) : B4 (w.alloc (.cells #[a, b, c, d] T)) w.heap.size a b c d := ⟨⟨by simp, by simp, by simp, by simp⟩, ⟨by simp, by simp, by simp, by simp⟩, by simp⟩
theorem B4.keep {w w' : World} {x : Nat} {a b c d : Value} {X : Nat → Prop} (h : B4 w x a b c d) (hk : KeepX X w w') (hx : ¬ X x) : B4 w' x a b c d := by
  obtain ⟨⟨h1, h2, h3, h4⟩, ⟨f1, f2, f3, f4⟩, h5⟩ := h
  exact ⟨⟨(hk.cell h5 hx 0).1.trans h1, (hk.cell h5 hx 1).1.trans h2, (hk.cell h5 hx 2).1.trans h3, (hk.cell h5 hx 3).1.trans h4⟩, ⟨(hk.cell h5 hx 0).2.trans f1, (hk.cell h5 hx 1).2.trans f2, (hk.cell h5 hx 2).2.trans f3, (hk.cell h5 hx 3).2.trans f4⟩, Nat.lt_of_lt_of_le h5 hk.2⟩
theorem B4.set1 {w : World} {x : Nat} {a b c d : Value} (h : B4 w x a b c d) (v : Value) : B4 (w.setCell ⟨x, 1, none⟩ v) x a v c d := by
  obtain ⟨⟨h1, h2, h3, h4⟩, ⟨f1, f2, f3, f4⟩, h5⟩ := h
  refine ⟨⟨?_, World.cell?_setCell_same' _ _ _ (by rw [h2]; rfl), ?_, ?_⟩, ⟨?_, ?_, ?_, ?_⟩, by simpa using h5⟩
  all_goals first | (rw [World.cell?_setCell_other _ _ _ _ (by intro e; simp at e)]; assumption) | (rw [World.frozen?_setCell]; assumption)
theorem B4.set2 {w : World} {x : Nat} {a b c d : Value} (h : B4 w x a b c d) (v : Value) : B4 (w.setCell ⟨x, 2, none⟩ v) x a b v d := by
  obtain ⟨⟨h1, h2, h3, h4⟩, ⟨f1, f2, f3, f4⟩, h5⟩ := h
  refine ⟨⟨?_, ?_, World.cell?_setCell_same' _ _ _ (by rw [h3]; rfl), ?_⟩, ⟨?_, ?_, ?_, ?_⟩, by simpa using h5⟩
  all_goals first | (rw [World.cell?_setCell_other _ _ _ _ (by intro e; simp at e)]; assumption) | (rw [World.frozen?_setCell]; assumption)
theorem B4.set3 {w : World} {x : Nat} {a b c d : Value} (h : B4 w x a b c d) (v : Value) : B4 (w.setCell ⟨x, 3, none⟩ v) x a b c v := by
  obtain ⟨⟨h1, h2, h3, h4⟩, ⟨f1, f2, f3, f4⟩, h5⟩ := h
  refine ⟨⟨?_, ?_, ?_, World.cell?_setCell_same' _ _ _ (by rw [h4]; rfl)⟩, ⟨?_, ?_, ?_, ?_⟩, by simpa using h5⟩
  all_goals first | (rw [World.cell?_setCell_other _ _ _ _ (by intro e; simp at e)]; assumption) | (rw [World.frozen?_setCell]; assumption)
theorem keep_new {X : Nat → Prop} {w w' : World} {x i : Nat} (h : KeepX X w w') (hx : w.heap.size ≤ x) (v : Value) : KeepX X w (w'.setCell ⟨x, i, none⟩ v) :=
  ⟨fun y hy hn => by rw [Below.heap_setCell _ _ _ _ (by show y ≠ x; omega)]; exact h.1 y hy hn, by simpa using h.2⟩
theorem RP.keep {P : Nat} {w w' : World} {o : Option (List UInt8)} {X : Nat → Prop} (h : RP P w o) (hk : KeepX X w w') (hx : ¬ X P) : RP P w' o := by
  obtain ⟨s, r, hn, hs, ho⟩ := h
  exact ⟨s, r, hn.keep hk hx, hs, ho⟩
theorem RQ.drew {B0 B P E E0 : Nat} {wb w : World} {o : Option (List UInt8)} {A D : Value} {ts : List Tb} {zs : List Int} {lg nx : Int} (h : RQ B0 B P E E0 wb o A D ts zs lg nx w) : RQ B0 B P E E0 wb o A D ts zs lg nx w.drew := by
  obtain ⟨h1, h3, h4, h5, h6, h7, h8, h9, h10⟩ := h
  exact ⟨h1, h3, h4, h5, h6, h7, h8.drew, h9, h10⟩
theorem RQ.app {B0 B P E E0 : Nat} {wb w w3 : World} {o : Option (List UInt8)} {A A' D : Value} {ts ts' : List Tb} {zs : List Int} {lg nx : Int} (hy : LQ B0 B P E E0) (h : RQ B0 B P E E0 wb o A D ts zs lg nx w) (hb : Below B w w3)
    (h5' : w3.ownsRow B 49 4 A' ts'.length (tv4 ts')) (h6' : w3.ownsRow B 3 1 D zs.length (iv zs)) (hok : okT ts') : RQ B0 B P E E0 wb o A' D ts' zs lg nx (w3.setCell ⟨E, 0, none⟩ A') := by
  obtain ⟨y0, y1, y2⟩ := hy
  obtain ⟨h1, h3, h4, h5, h6, h7, h8, h9, h10⟩ := h
  have k1 := KeepX.ofB hb
  have k2 : KeepX (fun y => y = E) w3 (w3.setCell ⟨E, 0, none⟩ A') := (KeepX.refl (fun y => y = E) w3).set (p := ⟨E, 0, none⟩) rfl A'
  have n5 : ∀ g, B ≤ g → g < w3.heap.size → (w3.setCell ⟨E, 0, none⟩ A').heap[g]? = w3.heap[g]? := fun g hg hl => k2.1 g hl (by omega)
  have s1 : ¬ B ≤ P := by omega
  have s5 : ¬ B ≤ E := by omega
  have s6 : ¬ B ≤ E0 := by omega
  exact ⟨(h1.keep k1 s1).keep k2 (by omega), (h3.keep k1 s5).set0 A', (h4.keep k1 s6).keep k2 (by omega), own_keep h5' n5, own_keep h6' n5, hok, h8.trans ((hb.mono h10).setCell (p := ⟨E, 0, none⟩) (by show B0 ≤ E; omega) _), by simpa using Nat.le_trans h9 hb.size, h10⟩
theorem RQ.app1 {B0 B P E E0 : Nat} {wb w w3 : World} {o : Option (List UInt8)} {A D' D : Value} {ts : List Tb} {zs zs' : List Int} {lg nx : Int} (hy : LQ B0 B P E E0) (h : RQ B0 B P E E0 wb o A D ts zs lg nx w) (hb : Below B w w3)
    (h5' : w3.ownsRow B 49 4 A ts.length (tv4 ts)) (h6' : w3.ownsRow B 3 1 D' zs'.length (iv zs')) : RQ B0 B P E E0 wb o A D' ts zs' lg nx (w3.setCell ⟨E, 1, none⟩ D') := by
  obtain ⟨y0, y1, y2⟩ := hy
  obtain ⟨h1, h3, h4, h5, h6, h7, h8, h9, h10⟩ := h
  have k1 := KeepX.ofB hb
  have k2 : KeepX (fun y => y = E) w3 (w3.setCell ⟨E, 1, none⟩ D') := (KeepX.refl (fun y => y = E) w3).set (p := ⟨E, 1, none⟩) rfl D'
  have n5 : ∀ g, B ≤ g → g < w3.heap.size → (w3.setCell ⟨E, 1, none⟩ D').heap[g]? = w3.heap[g]? := fun g hg hl => k2.1 g hl (by omega)
  have s1 : ¬ B ≤ P := by omega
  have s5 : ¬ B ≤ E := by omega
  have s6 : ¬ B ≤ E0 := by omega
  exact ⟨(h1.keep k1 s1).keep k2 (by omega), (h3.keep k1 s5).set1 D', (h4.keep k1 s6).keep k2 (by omega), own_keep h5' n5, own_keep h6' n5, h7, h8.trans ((hb.mono h10).setCell (p := ⟨E, 1, none⟩) (by show B0 ≤ E; omega) _), by simpa using Nat.le_trans h9 hb.size, h10⟩
theorem RQ.setL {B0 B P E E0 : Nat} {wb w : World} {o : Option (List UInt8)} {A D : Value} {ts : List Tb} {zs : List Int} {lg nx : Int} (hy : LQ B0 B P E E0) (h : RQ B0 B P E E0 wb o A D ts zs lg nx w) (z : Int) :
    RQ B0 B P E E0 wb o A D ts zs z nx (w.setCell ⟨E, 2, none⟩ (.int .i64 z)) := by
  obtain ⟨y0, y1, y2⟩ := hy
  obtain ⟨h1, h3, h4, h5, h6, h7, h8, h9, h10⟩ := h
  have k2 : KeepX (fun y => y = E) w (w.setCell ⟨E, 2, none⟩ (.int .i64 z)) := (KeepX.refl (fun y => y = E) w).set (p := ⟨E, 2, none⟩) rfl _
  have n5 : ∀ g, B ≤ g → g < w.heap.size → (w.setCell ⟨E, 2, none⟩ (.int .i64 z)).heap[g]? = w.heap[g]? := fun g hg hl => k2.1 g hl (by omega)
  exact ⟨h1.keep k2 (by omega), h3.set2 z, h4.keep k2 (by omega), own_keep h5 n5, own_keep h6 n5, h7, h8.setCell (p := ⟨E, 2, none⟩) (by show B0 ≤ E; omega) _, by simpa using h9, h10⟩
theorem RQ.setN {B0 B P E E0 : Nat} {wb w : World} {o : Option (List UInt8)} {A D : Value} {ts : List Tb} {zs : List Int} {lg nx : Int} (hy : LQ B0 B P E E0) (h : RQ B0 B P E E0 wb o A D ts zs lg nx w) (z : Int) :
    RQ B0 B P E E0 wb o A D ts zs lg z (w.setCell ⟨E, 3, none⟩ (.int .i64 z)) := by
  obtain ⟨y0, y1, y2⟩ := hy
  obtain ⟨h1, h3, h4, h5, h6, h7, h8, h9, h10⟩ := h
  have k2 : KeepX (fun y => y = E) w (w.setCell ⟨E, 3, none⟩ (.int .i64 z)) := (KeepX.refl (fun y => y = E) w).set (p := ⟨E, 3, none⟩) rfl _
  have n5 : ∀ g, B ≤ g → g < w.heap.size → (w.setCell ⟨E, 3, none⟩ (.int .i64 z)).heap[g]? = w.heap[g]? := fun g hg hl => k2.1 g hl (by omega)
  exact ⟨h1.keep k2 (by omega), h3.set3 z, h4.keep k2 (by omega), own_keep h5 n5, own_keep h6 n5, h7, h8.setCell (p := ⟨E, 3, none⟩) (by show B0 ≤ E; omega) _, by simpa using h9, h10⟩
theorem endx_t {T : Option (List Tb × List UInt8)} {n k : Nat} {oi : Option (List UInt8)} {xs : List Tb} {r : Bool} (hk : k ≤ n) (hl : xs.length = k ∧ k ≤ 129) (ht : n ≤ 128 → TillT T n k oi xs) (h1 : ∀ l, oi = some l → r = true) (h2 : oi = none → r = false) (hc : (decide (k < n) && decide (k < 129) && r) = false) : EndX T n oi xs := by
  refine ⟨fun hn => ?_, fun hn => ?_⟩
  · cases oi with
    | none =>
      rw [(ht hn).1 rfl]
      exact ⟨rfl, fun p hp => by cases hp⟩
    | some l =>
      have hr := h1 l rfl
      rw [hr] at hc
      simp at hc
      have hkn : k = n := by omega
      have h := (ht hn).2 l rfl
      rw [show n - k = 0 by omega, rdTs_zero] at h
      simp only [Option.map_some, List.append_nil] at h
      rw [h]
      exact ⟨rfl, fun p hp => by cases hp; rfl⟩
  · cases oi with
    | none => exact .inl rfl
    | some l =>
      have hr := h1 l rfl
      rw [hr] at hc
      simp at hc
      exact .inr (by omega)
theorem endx_z {T : Option (List Int × List UInt8)} {n k : Nat} {oi : Option (List UInt8)} {xs : List Int} {r : Bool} (hk : k ≤ n) (hl : xs.length = k ∧ k ≤ 129) (ht : n ≤ 128 → TillZ T n k oi xs) (h1 : ∀ l, oi = some l → r = true) (h2 : oi = none → r = false) (hc : (decide (k < n) && decide (k < 129) && r) = false) : EndX T n oi xs := by
  refine ⟨fun hn => ?_, fun hn => ?_⟩
  · cases oi with
    | none =>
      rw [(ht hn).1 rfl]
      exact ⟨rfl, fun p hp => by cases hp⟩
    | some l =>
      have hr := h1 l rfl
      rw [hr] at hc
      simp at hc
      have hkn : k = n := by omega
      have h := (ht hn).2 l rfl
      rw [show n - k = 0 by omega, rdZs_zero] at h
      simp only [Option.map_some, List.append_nil] at h
      rw [h]
      exact ⟨rfl, fun p hp => by cases hp; rfl⟩
  · cases oi with
    | none => exact .inl rfl
    | some l =>
      have hr := h1 l rfl
      rw [hr] at hc
      simp at hc
      exact .inr (by omega)
theorem till_t0 {T : Option (List Tb × List UInt8)} {n : Nat} {o1 : Option (List UInt8)} (h : T = o1.bind (rdTs n)) : TillT T n 0 o1 [] := by
  rw [h]
  refine ⟨fun e => by rw [e]; rfl, fun li e => ?_⟩
  rw [e, Option.bind_some, Nat.sub_zero]
  cases rdTs n li <;> simp
theorem till_z0 {T : Option (List Int × List UInt8)} {n : Nat} {o1 : Option (List UInt8)} (h : T = o1.bind (rdZs n)) : TillZ T n 0 o1 [] := by
  rw [h]
  refine ⟨fun e => by rw [e]; rfl, fun li e => ?_⟩
  rw [e, Option.bind_some, Nat.sub_zero]
  cases rdZs n li <;> simp
set_option maxRecDepth 1000000 in
set_option maxHeartbeats 32000000 in
theorem rtake12_any (s : ByteArray) (hs : s.size ≤ 16777216) (w : World) : Calls Try.prog 14 #[.string s] w (TKE s w) := by
  obtain ⟨i0, hi0, hz0, hz1, hz2⟩ := info_parts Try.infoTab
  obtain ⟨j0, hj0, jz0, jz1, jz2⟩ := info_parts Try.infoInt
  have H0 : Hid (RQ w.heap.size (w.heap.size + 1 + 1 + 1) (w.heap.size + 1) (w.heap.size + 1 + 1) w.heap.size w (some s.data.toList) (.slice none 0 0) (.slice none 0 0) [] [] 0 0
      (((w.alloc (.cells #[.slice none 0 0, .slice none 0 0, .int .i64 0, .int .i64 0] 25)).alloc (.cells #[.string s, .bool true] 73)).alloc (.cells #[.slice none 0 0, .slice none 0 0, .int .i64 0, .int .i64 0] 25))) := Lib.hid (by
    generalize hW1 : w.alloc (.cells #[.slice none 0 0, .slice none 0 0, .int .i64 0, .int .i64 0] 25) = W1
    have z1 : W1.heap.size = w.heap.size + 1 := by rw [← hW1]; simp
    have g1 : EdW W1 w.heap.size (.slice none 0 0) (.slice none 0 0) 0 0 := by rw [← hW1]; exact EdW.new _ _ _ _ _ _
    have t1 : Below w.heap.size w W1 := by rw [← hW1]; exact box_bel _ _
    clear hW1
    generalize hW2 : W1.alloc (.cells #[.string s, .bool true] 73) = W2
    have z2 : W2.heap.size = w.heap.size + 1 + 1 := by rw [← hW2, ← z1]; simp
    have k2 := box_bel W1 (.cells #[.string s, .bool true] 73)
    have q2 : NP W1.heap.size (W1.alloc (.cells #[.string s, .bool true] 73)) s true := ⟨⟨by simp, by simp⟩, ⟨by simp, by simp⟩, by simp⟩
    rw [hW2] at q2 k2
    have g2 := g1.keep (X := fun _ => False) (KeepX.of k2) id
    rw [z1] at q2 k2
    have t2 := t1.trans (k2.mono (by omega))
    clear hW2 k2 t1 g1
    generalize hW3 : W2.alloc (.cells #[.slice none 0 0, .slice none 0 0, .int .i64 0, .int .i64 0] 25) = W3
    have z3 : W3.heap.size = w.heap.size + 1 + 1 + 1 := by rw [← hW3, ← z2]; simp
    have k3 := box_bel W2 (.cells #[.slice none 0 0, .slice none 0 0, .int .i64 0, .int .i64 0] 25)
    have h3 := EdW.new W2 25 (.slice none 0 0) (.slice none 0 0) 0 0
    rw [hW3] at k3 h3
    have g3 := g2.keep (X := fun _ => False) (KeepX.of k3) id
    have q3 := q2.keep (X := fun _ => False) (KeepX.of k3) id
    rw [z2] at k3 h3
    have t3 := t2.trans (k3.mono (by omega))
    exact ⟨⟨s, true, q3, hs, fun l hl => ⟨rfl, by simpa using hl⟩, fun hl => by cases hl⟩, h3, g3, World.ownsRow_nil _ _ _ _, World.ownsRow_nil _ _ _ _, fun t ht => by simp at ht, t3, by omega, by omega⟩)
  have hy : LQ w.heap.size (w.heap.size + 1 + 1 + 1) (w.heap.size + 1) (w.heap.size + 1 + 1) w.heap.size := by unfold LQ; omega
  go_enter Try.func14, Try.ntmps14
  go_wp2_with fail
  generalize (((w.alloc (.cells #[.slice none 0 0, .slice none 0 0, .int .i64 0, .int .i64 0] 25)).alloc (.cells #[.string s, .bool true] 73)).alloc (.cells #[.slice none 0 0, .slice none 0 0, .int .i64 0, .int .i64 0] 25)) = w0 at *
  obtain ⟨B0, hB0⟩ : ∃ B0, B0 = w.heap.size := ⟨_, rfl⟩
  rw [← hB0] at H0 hy ⊢
  obtain ⟨P, hP⟩ : ∃ P, P = B0 + 1 := ⟨_, rfl⟩
  rw [← hP] at H0 hy ⊢
  obtain ⟨E, hE⟩ : ∃ E, E = P + 1 := ⟨_, rfl⟩
  rw [← hE] at H0 hy ⊢
  obtain ⟨B, hB⟩ : ∃ B, B = E + 1 := ⟨_, rfl⟩
  rw [← hB] at H0 hy
  have HY := Lib.hid hy
  have HB0 := Lib.hid hB0
  clear hy hB0 hP hE hB
  refine (num_q HY.out H0.out).mono ?_
  rintro e w1 ⟨n, rfl, hn, r1, p1, -, -⟩
  have HR1 := Lib.hid r1
  have HPA := Lib.hid p1
  clear r1 p1 H0
  obtain ⟨T, hT⟩ : ∃ T, T = (((some s.data.toList).bind rdN).map (·.2)).bind (rdTs n) := ⟨_, rfl⟩
  have HT := Lib.hid hT
  clear hT
  go_wp2_with fail
  go_loopw [7, 8] (fun i _ wr => ∃ (k : Nat) (oi : Option (List UInt8)) (A : Value) (ts : List Tb), i = .int .i64 k ∧ k ≤ n ∧ Hid (ts.length = k ∧ k ≤ 129) ∧ Hid (RQ B0 B P E B0 w oi A (.slice none 0 0) ts [] 0 0 wr) ∧ Hid (n ≤ 128 → TillT T n k oi ts)) (fun i _ _ => n - (intOf i).toNat)
  case atStart => exact ⟨0, _, _, [], rfl, by omega, Lib.hid ⟨rfl, by omega⟩, HR1, Lib.hid fun _ => till_t0 HT.out⟩
  case round =>
    clear HR1
    obtain ⟨k, oi, A, ts, rfl, hk, HL, HR, HI⟩ := hrel
    obtain ⟨s1, r1, hns, hsz, ho1, ho2⟩ := HR.out.1
    have HO := Lib.hid (And.intro ho1 ho2)
    obtain ⟨⟨c1, c2⟩, ⟨d1, d2⟩, hPl⟩ := hns
    obtain ⟨cc, hcc⟩ : ∃ cc, cc = (decide (k < n) && decide (k < 129) && r1) := ⟨_, rfl⟩
    have HCC := Lib.hid hcc
    clear ho1 ho2
    go_upto_region 5 with fail
    go_cut [29] from 17 to 29 (fun s9 wx => s9 = .bool cc ∧ wx = wr)
    case first =>
      by_cases q1 : k < n
      · have q1z : (k : Int) < (n : Int) := by omega
        by_cases q2 : k < 129
        · have q2z : (k : Int) < 129 := by omega
          obtain rfl : cc = r1 := by rw [hcc]; simp [q1, q2]
          clear hcc
          go_wp2_with fail
          go_meet
          case rel => exact ⟨rfl, rfl⟩
        · have q2z : ¬ (k : Int) < 129 := by omega
          obtain rfl : cc = false := by rw [hcc]; simp [q2]
          clear hcc
          go_wp2_with fail
          go_meet
          case rel => exact ⟨rfl, rfl⟩
      · have q1z : ¬ (k : Int) < (n : Int) := by omega
        obtain rfl : cc = false := by rw [hcc]; simp [q1]
        clear hcc
        go_wp2_with fail
        go_meet
        case rel => exact ⟨rfl, rfl⟩
    case rest =>
    obtain ⟨rfl, rfl⟩ := hcut
    clear hcc
    cases cc with
    | true =>
      have hcc := HCC.out
      simp only [Bool.true_eq, Bool.and_eq_true, decide_eq_true_eq] at hcc
      obtain ⟨⟨q1, q2⟩, q3⟩ := hcc
      obtain ⟨li, hli⟩ : ∃ li, oi = some li := by
        cases oi with
        | none => have := HO.out.2 rfl; rw [q3] at this; cases this
        | some l => exact ⟨l, rfl⟩
      subst hli
      clear c1 c2 d1 d2 hPl HCC HO q3
      rename World => wo
      go_wp2_with fail
      refine (num_q HY.out HR.out).mono ?_
      rintro e w2 ⟨n1, rfl, hn1, r2, p1, -, -⟩
      have HR2 := Lib.hid r2
      have HP1 := Lib.hid p1
      have hB2 : B ≤ w2.heap.size := r2.2.2.2.2.2.2.2.1
      have hPB : P < B ∧ E < B := ⟨HY.out.2.1.1, HY.out.2.1.2.1⟩
      have HAL := Lib.hid (box_bel w2 (.cells #[.int .i64 (n1 : Int), .int .i64 0, .string ⟨#[]⟩, .string ⟨#[]⟩] 49))
      have HT0 := Lib.hid (B4.new w2 49 (.int .i64 (n1 : Int)) (.int .i64 0) (.string ⟨#[]⟩) (.string ⟨#[]⟩))
      have HKP : Hid (∀ wi o', KeepX (fun y => y = P) w2 wi → Below B0 w2 wi → RP P wi o' → RQ B0 B P E B0 w o' A (.slice none 0 0) ts [] 0 0 wi) := Lib.hid fun wi o' a b c => RQ.keep HY.out HR2.out a b c
      have hB0B : B0 ≤ B := r2.2.2.2.2.2.2.2.2
      clear r2 p1 HR
      go_wp2_with fail
      obtain ⟨x, hx⟩ : ∃ x, x = w2.heap.size := ⟨_, rfl⟩
      rw [← hx] at HT0 ⊢
      obtain ⟨wa, hwa⟩ : ∃ wa, wa = w2.alloc (.cells #[.int .i64 (n1 : Int), .int .i64 0, .string ⟨#[]⟩, .string ⟨#[]⟩] 49) := ⟨_, rfl⟩
      rw [← hwa] at HT0 HAL ⊢
      have HXX : Hid (w2.heap.size ≤ x) := Lib.hid (by omega)
      have hxP : ¬ x = P := by omega
      have hxE : ¬ x = E := by omega
      have hPx : ¬ P = x := by omega
      have hEx : ¬ E = x := by omega
      have HKa : Hid (KeepX (fun y => y = P) w2 wa ∧ Below B0 w2 wa) := Lib.hid ⟨KeepX.of HAL.out, HAL.out.mono (by omega)⟩
      have HRa := Lib.hid (HKP.out wa _ HKa.out.1 HKa.out.2 (HR2.out.1.keep (X := fun _ => False) (KeepX.of HAL.out) id))
      clear hwa hx HAL
      refine (num_q HY.out HRa.out).mono ?_
      rintro e w3 ⟨n2, rfl, hn2, r3, p2, k3, b3⟩
      have HT3 := Lib.hid (HT0.out.keep k3 hxP)
      have HP2 := Lib.hid p2
      have HK3 : Hid (KeepX (fun y => y = P) w2 (w3.setCell ⟨x, 1, none⟩ (.int .i64 (n2 : Int))) ∧ Below B0 w2 (w3.setCell ⟨x, 1, none⟩ (.int .i64 (n2 : Int)))) := Lib.hid ⟨keep_new (HKa.out.1.trans k3) HXX.out _, (HKa.out.2.trans b3).setCell (p := ⟨x, 1, none⟩) (by show B0 ≤ x; have := HXX.out; omega) _⟩
      have HT3' := Lib.hid (HT3.out.set1 (.int .i64 (n2 : Int)))
      have HR3 := Lib.hid (HKP.out _ _ HK3.out.1 HK3.out.2 (r3.1.keep ((KeepX.refl (fun y => y = x) w3).set (p := ⟨x, 1, none⟩) rfl (.int .i64 (n2 : Int))) hPx))
      obtain ⟨⟨t0, t1, t2, t3⟩, ⟨f0, f1, f2, f3⟩, hx3⟩ := HT3.out
      clear r3 p2 k3 b3 HT0 HKa HRa HT3
      go_wp2_with fail
      clear t0 t1 t2 t3 f0 f1 f2 f3 hx3
      generalize w3.setCell ⟨x, 1, none⟩ (.int .i64 (n2 : Int)) = w3' at *
      refine (txt_q HY.out HR3.out).mono ?_
      rintro e w4 ⟨t3, rfl, ht3, r4, p3, k4, b4⟩
      have HT4 := Lib.hid (HT3'.out.keep k4 hxP)
      have HP3 := Lib.hid p3
      have HK4 : Hid (KeepX (fun y => y = P) w2 (w4.setCell ⟨x, 2, none⟩ (.string ⟨t3.toArray⟩)) ∧ Below B0 w2 (w4.setCell ⟨x, 2, none⟩ (.string ⟨t3.toArray⟩))) := Lib.hid ⟨keep_new (HK3.out.1.trans k4) HXX.out _, (HK3.out.2.trans b4).setCell (p := ⟨x, 2, none⟩) (by show B0 ≤ x; have := HXX.out; omega) _⟩
      have HT4' := Lib.hid (HT4.out.set2 (.string ⟨t3.toArray⟩))
      have HR4 := Lib.hid (HKP.out _ _ HK4.out.1 HK4.out.2 (r4.1.keep ((KeepX.refl (fun y => y = x) w4).set (p := ⟨x, 2, none⟩) rfl (.string ⟨t3.toArray⟩)) hPx))
      obtain ⟨⟨v0, v1, v2, v3⟩, ⟨f0, f1, f2, f3⟩, hx4⟩ := HT4.out
      clear r4 p3 k4 b4 HR3 HT3' HT4 HK3
      go_wp2_with fail
      clear v0 v1 v2 v3 f0 f1 f2 f3 hx4
      generalize w4.setCell ⟨x, 2, none⟩ (.string ⟨t3.toArray⟩) = w4' at *
      refine (txt_q HY.out HR4.out).mono ?_
      rintro e w5 ⟨t4, rfl, ht4, r5, p4, k5, b5⟩
      rw [rdT_step] at r5
      have HT5 := Lib.hid (HT4'.out.keep k5 hxP)
      have HK5 : Hid (KeepX (fun y => y = P) w2 (w5.setCell ⟨x, 3, none⟩ (.string ⟨t4.toArray⟩)) ∧ Below B0 w2 (w5.setCell ⟨x, 3, none⟩ (.string ⟨t4.toArray⟩))) := Lib.hid ⟨keep_new (HK4.out.1.trans k5) HXX.out _, (HK4.out.2.trans b5).setCell (p := ⟨x, 3, none⟩) (by show B0 ≤ x; have := HXX.out; omega) _⟩
      have HT5' := Lib.hid (HT5.out.set3 (.string ⟨t4.toArray⟩))
      have HR5 := Lib.hid (HKP.out _ _ HK5.out.1 HK5.out.2 (r5.1.keep ((KeepX.refl (fun y => y = x) w5).set (p := ⟨x, 3, none⟩) rfl (.string ⟨t4.toArray⟩)) hPx))
      have HV := Lib.hid (rdT_vals HP1.out HP2.out HP3.out p4)
      obtain ⟨⟨v0, v1, v2, v3⟩, ⟨f0, f1, f2, f3⟩, hx5⟩ := HT5.out
      clear r5 p4 k5 b5 HR4 HT4' HT5 HK4 HP1 HP2 HP3
      obtain ⟨aa, ac, rfl⟩ := own_form HR5.out.2.2.2.1 (by decide)
      obtain ⟨tn, htn⟩ : ∃ tn, tn = ts.length := ⟨_, rfl⟩
      have HTN := Lib.hid htn
      rw [← htn] at HR5 HKP HR2 HL
      clear htn HR2 HKP
      obtain ⟨⟨y0, y1, y2, y3, y4⟩, -⟩ := HR5.out.2.1
      obtain ⟨⟨u0, u1, u2, u3⟩, -, hxl⟩ := HT5'.out
      have hrow : (w5.setCell ⟨x, 3, none⟩ (.string ⟨t4.toArray⟩)).ownsRow B 49 4 (.slice aa tn ac) tn (tv4 ts) := by have := HR5.out.2.2.2.1; rwa [← HTN.out] at this
      have HROW := Lib.hid hrow
      have hB5 : B ≤ (w5.setCell ⟨x, 3, none⟩ (.string ⟨t4.toArray⟩)).heap.size := HR5.out.2.2.2.2.2.2.2.1
      obtain ⟨s3, hs3⟩ : ∃ s3 : ByteArray, s3 = ⟨t3.toArray⟩ := ⟨_, rfl⟩
      obtain ⟨s4, hs4⟩ : ∃ s4 : ByteArray, s4 = ⟨t4.toArray⟩ := ⟨_, rfl⟩
      have hok3 : okS s3 := by unfold okS; rw [hs3, mk_size]; omega
      have hok4 : okS s4 := by unfold okS; rw [hs4, mk_size]; omega
      have HOK := Lib.hid (And.intro hok3 hok4)
      rw [← hs3, ← hs4] at HV
      rw [← hs3] at u2
      rw [← hs4] at u3 HROW hrow hB5 y0 y1 y2 y3 y4 u0 u1 u2 HR5
      rw [← hs4]
      rw [← hs4] at hxl
      clear hok3 hok4 hs3 hs4 hrow ht3 ht4 HT5' HK5 hn1 hn2
      have htl : tn ≤ 129 := by have := HL.out; omega
      have H5F : Hid (∀ wq, wq = w5.setCell ⟨x, 3, none⟩ (.string s4) → RQ B0 B P E B0 w (((some li).bind rdT).map (·.2)) (.slice aa tn ac) (.slice none 0 0) ts [] 0 0 wq ∧ wq.ownsRow B 49 4 (.slice aa tn ac) tn (tv4 ts)) := Lib.hid fun wq e => by rw [e]; exact ⟨HR5.out, HROW.out⟩
      clear HR5 HROW
      go_upto_region 11 with fail
      clear v0 v1 v2 v3 f0 f1 f2 f3 hx5
      obtain ⟨wq, hwq⟩ : ∃ wq, wq = w5.setCell ⟨x, 3, none⟩ (.string s4) := ⟨_, rfl⟩
      rw [← hwq] at y0 y1 y2 y3 y4 u0 u1 u2 u3 hB5 ⊢
      rw [← hwq] at hxl
      obtain ⟨hR5, hrow⟩ := H5F.out wq hwq
      have HR5 := Lib.hid hR5
      have HROW := Lib.hid hrow
      clear hR5 hrow H5F hwq
      go_wp2_with (at_builtin; generalize hG : wpList _ _ _ _ _ _ = G)
      rw [← hG]
      clear hG
      refine wpList_append_own _ rfl (.tmp 45) (.tmp 47) 22 rfl B 49 i0 (.agg #[.int .i64 0, .int .i64 0, .string ⟨#[]⟩, .string ⟨#[]⟩]) 4 48 Try.underlying22 hi0 hz0 hz1 hz2 rfl (by decide) _ _ _ rfl (HROW.out.alloc _) ⟨wq.heap.size, 0, none⟩ 1 1 (tv (n1, n2, s3, s4)) rfl rfl ?c1 ?c2 ?c3 ?c4 ?c5 ?_
      case c1 => exact cell_new4 _ _ _ _ _ _
      case c2 => intro u hu; simp [tv] at hu; rcases hu with rfl | rfl | rfl | rfl <;> rfl
      case c3 => unfold maxLen; omega
      case c4 => omega
      case c5 => simp [go_sem]; omega
      intro v' w6 hown6 hgrow _
      obtain ⟨a6, c6, rfl⟩ := own_form hown6 (by decide)
      have hb6 : Below B wq w6 := (((Below.refl B wq).alloc hB5 _).grown hgrow (by simp [go_sem]; omega) (fun k hk => (HROW.out.lt k hk).1))
      have h6 : w6.ownsRow B 3 1 (.slice none 0 0) ([] : List Int).length (iv []) := (HR5.out.2.2.2.2.1.alloc _).kept hgrow (row_apart HROW.out HR5.out.2.2.2.2.1 (by decide))
      rw [tv4_snoc] at hown6
      have hlen : tn + 1 = (ts ++ [((n1 : Int), (n2 : Int), s3, s4)]).length := by rw [List.length_append, ← HTN.out]; rfl
      have h5 : w6.ownsRow B 49 4 (.slice a6 (tn + 1) c6) (ts ++ [((n1 : Int), (n2 : Int), s3, s4)]).length (tv4 (ts ++ [((n1 : Int), (n2 : Int), s3, s4)])) := by rw [← hlen]; exact hown6
      have HFIN := Lib.hid (RQ.app HY.out HR5.out hb6 h5 h6 (fun t ht => by
        rcases List.mem_append.1 ht with ht | ht
        · exact HR5.out.2.2.2.2.2.1 t ht
        · rw [List.mem_singleton.1 ht]; exact HOK.out))
      obtain ⟨⟨z0, z1, z2, z3, z4⟩, m0, m1, m2, m3⟩ := HR5.out.2.1.keep (KeepX.ofB hb6) (by omega)
      clear hown6 hgrow hb6 h6 h5 y0 y1 y2 y3 y4 u0 u1 u2 u3 hxl hlen
      go_wp2_with fail
      go_roundw
      case rel => exact ⟨k + 1, _, _, _, by go_num, by omega, Lib.hid ⟨by rw [List.length_append, ← HTN.out, HL.out.1]; rfl, by omega⟩, HFIN, Lib.hid fun h => TillT.step (HI.out h) q1 HV.out⟩
      case measure => simp [intOf]; omega
    | false =>
      have HX := Lib.hid (endx_t hk HL.out HI.out (fun l hl => (HO.out.1 l hl).1) HO.out.2 HCC.out.symm)
      have hts : ts.length ≤ 129 := by have := HL.out; omega
      clear c1 c2 d1 d2 hPl HCC HO HI HL
      go_wp2_with fail
      refine (num_q HY.out HR.out).mono ?_
      rintro e w2 ⟨m, rfl, hm, r2, p2, -, -⟩
      have HR2 := Lib.hid r2
      have HPM := Lib.hid p2
      obtain ⟨Z, hZ⟩ : ∃ Z, Z = ((oi.bind rdN).map (·.2)).bind (rdZs m) := ⟨_, rfl⟩
      have HZ := Lib.hid hZ
      clear r2 p2 HR hZ
      go_wp2_with fail
      go_loopw [10] (fun i wr => ∃ (k : Nat) (oj : Option (List UInt8)) (D : Value) (zs : List Int), i = .int .i64 k ∧ k ≤ m ∧ Hid (zs.length = k ∧ k ≤ 129) ∧ Hid (RQ B0 B P E B0 w oj A D ts zs 0 0 wr) ∧ Hid (m ≤ 128 → TillZ Z m k oj zs)) (fun i _ => m - (intOf i).toNat)
      case atStart => exact ⟨0, _, _, [], rfl, by omega, Lib.hid ⟨rfl, by omega⟩, HR2, Lib.hid fun _ => till_z0 HZ.out⟩
      case round =>
        clear HR2
        obtain ⟨j, oj, D, zs, rfl, hj, HL, HR, HI⟩ := hrel
        obtain ⟨s2, r2, hns, hsz, ho1, ho2⟩ := HR.out.1
        have HO := Lib.hid (And.intro ho1 ho2)
        obtain ⟨⟨c1, c2⟩, ⟨d1, d2⟩, hPl⟩ := hns
        obtain ⟨cc, hcc⟩ : ∃ cc, cc = (decide (j < m) && decide (j < 129) && r2) := ⟨_, rfl⟩
        have HCC := Lib.hid hcc
        clear ho1 ho2
        go_upto_region 14 with fail
        go_cut [64] from 52 to 64 (fun s9 wx => s9 = .bool cc ∧ wx = wr)
        case first =>
          by_cases q1 : j < m
          · have q1z : (j : Int) < (m : Int) := by omega
            by_cases q2 : j < 129
            · have q2z : (j : Int) < 129 := by omega
              obtain rfl : cc = r2 := by rw [hcc]; simp [q1, q2]
              clear hcc
              go_wp2_with fail
              go_meet
              case rel => exact ⟨rfl, rfl⟩
            · have q2z : ¬ (j : Int) < 129 := by omega
              obtain rfl : cc = false := by rw [hcc]; simp [q2]
              clear hcc
              go_wp2_with fail
              go_meet
              case rel => exact ⟨rfl, rfl⟩
          · have q1z : ¬ (j : Int) < (m : Int) := by omega
            obtain rfl : cc = false := by rw [hcc]; simp [q1]
            clear hcc
            go_wp2_with fail
            go_meet
            case rel => exact ⟨rfl, rfl⟩
        case rest =>
        obtain ⟨rfl, rfl⟩ := hcut
        clear hcc
        cases cc with
        | true =>
          have hcc := HCC.out
          simp only [Bool.true_eq, Bool.and_eq_true, decide_eq_true_eq] at hcc
          obtain ⟨⟨q1, q2⟩, q3⟩ := hcc
          obtain ⟨li, hli⟩ : ∃ li, oj = some li := by
            cases oj with
            | none => have := HO.out.2 rfl; rw [q3] at this; cases this
            | some l => exact ⟨l, rfl⟩
          subst hli
          clear c1 c2 d1 d2 hPl HCC HO q3
          rename World => wo
          obtain ⟨da, dc, rfl⟩ := own_form HR.out.2.2.2.2.1 (by decide)
          obtain ⟨zn, hzn⟩ : ∃ zn, zn = zs.length := ⟨_, rfl⟩
          have HZN := Lib.hid hzn
          rw [← hzn] at HR HL
          have HSTP := Lib.hid (rdZ1_step (some li))
          have H0 := Lib.hid HR.out.drew
          obtain ⟨⟨e0, e1, e2, e3, -⟩, -⟩ := HR.out.2.1
          have hPB : P < B ∧ E < B := ⟨HY.out.2.1.1, HY.out.2.1.2.1⟩
          have hzl : zn ≤ 129 := by have := HL.out; omega
          clear hzn HR
          go_wp2_with fail
          refine mixed_region (D := (fun w' => w'.cell? ⟨E, 1, none⟩ = some (.slice da zn dc))) [0, 1, 2] [3, 4, 5, 6, 7] 7 (by kernel_rfl) (by kernel_rfl) (by decide) (e1) ?_
          simp only [List.filterMap_cons, List.filterMap_nil, List.getElem?_cons_zero, List.getElem?_cons_succ]
          repeat (
            (first
             | (refine calm_move _ rfl ?_)
             | (apply calm_cons
                · (intro w' hw'
                   first | (obtain ⟨hwa', hwb', hwc'⟩ := hw') | (obtain ⟨hwa', hwb'⟩ := hw') | skip
                   go_simp
                   first
                   | done
                   | exact rfl)))
            simp only [Act.put, Act.eval, List.setIfInBounds_toArray, List.set_cons_zero, List.set_cons_succ, Array.getD_eq_getD_getElem?, List.getElem?_toArray, List.getElem?_cons_zero, List.getElem?_cons_succ, Option.getD_some])
          refine calm_nil ?_
          clear e0 e1 e2 e3
          refine loud_cons fun K hK => ?_
          go_wp2_with fail
          refine (num_q HY.out H0.out).mono ?_
          rintro e w4 ⟨n1, rfl, hn1, r1', p1, -, -⟩
          rw [HSTP.out] at r1'
          have HR4 := Lib.hid r1'
          have HV := Lib.hid (rdZ1_vals p1)
          clear r1' p1 H0
          go_wp2
          refine hK _ _ (fun _ => HR4.out.2.1.1.2.1) ?_
          clear hK K
          have hal : Below w4.heap.size w4 (w4.alloc (.cells #[.int .i64 (n1 : Int)] 3)) := box_bel _ _
          have hE4 : E < w4.heap.size := HR4.out.2.1.1.2.2.2.2
          refine loud_cons fun K hK => ?_
          go_wp2_with fail
          refine hK _ _ (fun _ => (hal.cell (p := ⟨E, 1, none⟩) hE4).trans HR4.out.2.1.1.2.1) ?_
          clear hK K
          have hrow : w4.ownsRow B 3 1 (.slice da zn dc) zn (iv zs) := by have := HR4.out.2.2.2.2.1; rwa [← HZN.out] at this
          have HROW := Lib.hid hrow
          have hB4 : B ≤ w4.heap.size := HR4.out.2.2.2.2.2.2.2.1
          refine loud_cons fun K hK => ?_
          go_wp2_with (at_builtin; refine wpList_append_own _ rfl _ _ 23 rfl B 3 j0 (.int .i64 0) 1 8 Try.underlying23 hj0 jz0 jz1 jz2 rfl (by decide) _ _ _ rfl (HROW.out.alloc _) ⟨w4.heap.size, 0, none⟩ 1 1 [.int .i64 (n1 : Int)] rfl rfl ?d1 ?d2 ?d3 ?d4 ?d5 ?_)
          case d1 => exact cell_one1 _ _ _
          case d2 => intro u hu; simp at hu; rw [hu]; rfl
          case d3 => unfold maxLen; omega
          case d4 => omega
          case d5 => simp [go_sem]; omega
          intro v' w5 hown5 hgrow _
          obtain ⟨a5, c5, rfl⟩ := own_form hown5 (by decide)
          have hb5 : Below B w4 w5 := (((Below.refl B w4).alloc hB4 _).grown hgrow (by simp [go_sem]; omega) (fun k hk => (HROW.out.lt k hk).1))
          have h6 : w5.ownsRow B 49 4 A ts.length (tv4 ts) := (HR4.out.2.2.2.1.alloc _).kept hgrow (row_apart HROW.out HR4.out.2.2.2.1 (by decide))
          rw [iv_snoc] at hown5
          have hlen : zn + 1 = (zs ++ [(n1 : Int)]).length := by rw [List.length_append, ← HZN.out]; rfl
          have h5 : w5.ownsRow B 3 1 (.slice a5 (zn + 1) c5) (zs ++ [(n1 : Int)]).length (iv (zs ++ [(n1 : Int)])) := by rw [← hlen]; exact hown5
          have HFIN := Lib.hid (RQ.app1 HY.out HR4.out hb5 h6 h5)
          have hk5 := KeepX.ofB hb5
          have hEW := HR4.out.2.1.keep hk5 (by omega)
          refine hK _ _ (fun _ => hEW.1.2.1) ?_
          clear hK K
          refine loud_cons fun K hK => ?_
          go_wp2_with fail
          refine hK _ _ (fun _ => hEW.1.2.1) ?_
          clear hK K hown5 hgrow hb5 h6 h5 hk5 hlen
          obtain ⟨⟨z0, z1, z2, z3, z4⟩, y0, y1, y2, y3⟩ := hEW
          refine loud_cons fun K hK => ?_
          go_wp2_with fail
          refine hK _ _ (fun h => absurd rfl h) ?_
          clear hK K
          refine loud_nil ?_
          go_wp2_with fail
          go_roundw
          case rel => exact ⟨j + 1, _, _, _, by go_num, by omega, Lib.hid ⟨by rw [List.length_append, ← HZN.out, HL.out.1]; rfl, by omega⟩, HFIN, Lib.hid fun h => TillZ.step (HI.out h) q1 HV.out⟩
          case measure => simp [intOf]; omega
        | false =>
          have HX2 := Lib.hid (endx_z hj HL.out HI.out (fun l hl => (HO.out.1 l hl).1) HO.out.2 HCC.out.symm)
          clear c1 c2 d1 d2 hPl HCC HO HI HL
          go_wp2_with fail
          refine (num_q HY.out HR.out).mono ?_
          rintro e w5 ⟨n1, rfl, hn1, r5, p5, -, -⟩
          have HR5 := Lib.hid (r5.setL HY.out (n1 : Int))
          obtain ⟨⟨y0, y1, y2, y3, y4⟩, x0, x1, x2, x3⟩ := r5.2.1
          have HPL := Lib.hid p5
          clear r5 p5 HR
          go_upto_region 18 with fail
          clear y0 y1 y2 y3 y4 x0 x1 x2 x3
          generalize w5.setCell ⟨E, 2, none⟩ (.int .i64 (n1 : Int)) = w5' at *
          go_wp2_with fail
          refine (num_q HY.out HR5.out).mono ?_
          rintro e w6 ⟨n2, rfl, hn2, r6, p6, -, -⟩
          have HR6 := Lib.hid (r6.setN HY.out (n2 : Int))
          obtain ⟨⟨y0, y1, y2, y3, y4⟩, x0, x1, x2, x3⟩ := r6.2.1
          obtain ⟨o6, ho6⟩ : ∃ o6, o6 = ((((oj.bind rdN).map (·.2)).bind rdN).map (·.2)) := ⟨_, rfl⟩
          have hfi := rfin HPA.out HT.out HX.out HPM.out HZ.out HX2.out HPL.out p6 ho6
          rw [← ho6] at HR6
          have HF := Lib.hid hfi
          clear r6 p6 HR5 hfi ho6 HPL HX2 HX HPM HZ HT HPA
          go_upto_region 19 with fail
          clear y0 y1 y2 y3 y4 x0 x1 x2 x3
          generalize w6.setCell ⟨E, 3, none⟩ (.int .i64 (n2 : Int)) = wz at *
          obtain ⟨aa, ac, rfl, hst⟩ := own_st HR6.out.2.2.2.1 rfl
          obtain ⟨da, dc, rfl, hsz2⟩ := own_sz HR6.out.2.2.2.2.1 rfl
          obtain ⟨s', r', ⟨⟨c1, c2⟩, ⟨d1, d2⟩, hPl⟩, hsz', ho1, ho2⟩ := HR6.out.1
          obtain ⟨⟨y0, y1, y2, y3, y4⟩, -⟩ := HR6.out.2.1
          obtain ⟨⟨z0, z1, z2, z3, z4⟩, x0, x1, x2, x3⟩ := HR6.out.2.2.1
          have HEV : Hid (∀ wf, KeepX (fun y => y < B) wz wf → EV wf (.agg #[.slice aa ts.length ac, .slice da zs.length dc, .int .i64 (n1 : Int), .int .i64 (n2 : Int)]) (ts, zs, (n1 : Int), (n2 : Int))) := Lib.hid (fun wf hk => by
            have nb : ∀ g, B ≤ g → g < wz.heap.size → wf.heap[g]? = wz.heap[g]? := fun g hg hl => hk.1 g hl (by omega)
            obtain ⟨a', c', e1, st⟩ := own_st (own_keep HR6.out.2.2.2.1 nb) rfl
            obtain ⟨a2', c2', e2, sz⟩ := own_sz (own_keep HR6.out.2.2.2.2.1 nb) rfl
            cases e1
            cases e2
            exact ⟨_, _, _, _, _, _, rfl, st, sz, HR6.out.2.2.2.2.2.1⟩)
          have HBW := Lib.hid HR6.out.2.2.2.2.2.2.1
          have HOO := Lib.hid (And.intro ho1 ho2)
          obtain ⟨tn, htn⟩ : ∃ tn, tn = ts.length := ⟨_, rfl⟩
          obtain ⟨zn, hzn⟩ : ∃ zn, zn = zs.length := ⟨_, rfl⟩
          have HTN := Lib.hid (And.intro htn hzn)
          rw [← htn] at y0 HEV
          rw [← hzn] at y1 HEV
          have hB0B : B0 < B := HY.out.2.1.2.2
          clear ho1 ho2 hst hsz2 HR6 htn hzn
          have HNONE : Hid (¬ (o6 = some [] ∧ ts.length = n ∧ zs.length = m ∧ mayEd (ts, zs, (n1 : Int), (n2 : Int)) = true) → takE s.data.toList = none) := Lib.hid fun h => by
            cases e : takE s.data.toList with
            | none => rfl
            | some d => exact absurd (HF.out.2 (by rw [e]; rfl)) h
          have HFIN : Hid (∀ wq (u0 u1 u2 u3 : Value), Below wz.heap.size wz wq → KeepX (fun y => y < B) wz ((((wq.setCell ⟨B0, 0, none⟩ u0).setCell ⟨B0, 1, none⟩ u1).setCell ⟨B0, 2, none⟩ u2).setCell ⟨B0, 3, none⟩ u3) ∧ Below B0 w ((((wq.setCell ⟨B0, 0, none⟩ u0).setCell ⟨B0, 1, none⟩ u1).setCell ⟨B0, 2, none⟩ u2).setCell ⟨B0, 3, none⟩ u3)) := Lib.hid (fun wq u0 u1 u2 u3 hb =>
            ⟨((((KeepX.of (X := fun y => y < B) hb).set (p := ⟨B0, 0, none⟩) hB0B u0).set (p := ⟨B0, 1, none⟩) hB0B u1).set (p := ⟨B0, 2, none⟩) hB0B u2).set (p := ⟨B0, 3, none⟩) hB0B u3,
             ((((HBW.out.trans (hb.mono (by omega))).setCell (p := ⟨B0, 0, none⟩) (Nat.le_refl _) u0).setCell (p := ⟨B0, 1, none⟩) (Nat.le_refl _) u1).setCell (p := ⟨B0, 2, none⟩) (Nat.le_refl _) u2).setCell (p := ⟨B0, 3, none⟩) (Nat.le_refl _) u3⟩)
          have HREF := Lib.hid (Below.refl wz.heap.size wz)
          have CM := Lib.hid (rmay12_any (.agg #[.slice aa tn ac, .slice da zn dc, .int .i64 (n1 : Int), .int .i64 (n2 : Int)]) (ts, zs, (n1 : Int), (n2 : Int)) wz (HEV.out wz (KeepX.refl _ _)))
          have HG : Hid (EdW wz B0 (.slice none 0 0) (.slice none 0 0) 0 0 ∧ True) := Lib.hid ⟨⟨⟨z0, z1, z2, z3, z4⟩, x0, x1, x2, x3⟩, trivial⟩
          cases r' with
          | false =>
            have hno : takE s.data.toList = none := HNONE.out (fun q => by have := (HOO.out.1 [] q.1).1; cases this)
            have HNO := Lib.hid (tk_no hno)
            clear hno
            go_wp2
            have hf := HFIN.out wz (.slice none 0 0) (.slice none 0 0) (.int .i64 0) (.int .i64 0) HREF.out
            refine bodyPost_ret (v := .tuple #[.agg #[.slice none 0 0, .slice none 0 0, .int .i64 0, .int .i64 0], .int .i64 120]) (by simp [results, Try.results14, go_sem, z0, z1, z2, z3, z4]) rfl ?_
            exact ⟨.agg #[.slice none 0 0, .slice none 0 0, .int .i64 0, .int .i64 0], by rw [HNO.out.2], by rw [HNO.out.1]; exact EV.zero _, by have := hf.2; rw [HB0.out] at this ⊢; exact this⟩
          | true =>
            obtain ⟨l6, hl6⟩ : ∃ l6, o6 = some l6 := by
              cases o6 with
              | none => have := HOO.out.2 rfl; cases this
              | some l => exact ⟨l, rfl⟩
            have hsl := (HOO.out.1 l6 hl6).2
            by_cases h0 : l6 = []
            case neg =>
              have HL6 : Hid (¬ o6 = some []) := Lib.hid (by rw [hl6]; intro e; cases e; exact h0 rfl)
              have hne : ¬ s' = ⟨#[]⟩ := fun e => h0 (by rw [← hsl, e])
              have hsn := str_ne hne
              have hsi : s'.toList.isEmpty = false := by
                cases e : s'.toList.isEmpty with
                | false => rfl
                | true => exact absurd (emB_iff.1 e) hne
              clear hsl h0 hl6 hne
              have hno : takE s.data.toList = none := HNONE.out (fun q => HL6.out q.1)
              have HNO := Lib.hid (tk_no hno)
              clear hno
              go_wp2
              have hf := HFIN.out wz (.slice none 0 0) (.slice none 0 0) (.int .i64 0) (.int .i64 0) HREF.out
              refine bodyPost_ret (v := .tuple #[.agg #[.slice none 0 0, .slice none 0 0, .int .i64 0, .int .i64 0], .int .i64 120]) (by simp [results, Try.results14, go_sem, z0, z1, z2, z3, z4]) rfl ?_
              exact ⟨.agg #[.slice none 0 0, .slice none 0 0, .int .i64 0, .int .i64 0], by rw [HNO.out.2], by rw [HNO.out.1]; exact EV.zero _, by have := hf.2; rw [HB0.out] at this ⊢; exact this⟩
            case pos =>
              have hs0 : s' = ⟨#[]⟩ := by
                apply ByteArray.ext
                apply Array.toList_inj.1
                first | (rw [hsl, h0]; done) | (rw [hsl, h0]; rfl)
              subst hs0
              have HL6 : Hid (o6 = some []) := Lib.hid (by rw [hl6, h0])
              clear hsl h0 hl6
              by_cases hn1' : tn = n
              case neg =>
                have hnz : ¬ (tn : Int) = (n : Int) := by omega
                have HNN : Hid (¬ ts.length = n) := Lib.hid (by rw [← HTN.out.1]; exact hn1')
                clear hn1'
                have hno : takE s.data.toList = none := HNONE.out (fun q => HNN.out q.2.1)
                have HNO := Lib.hid (tk_no hno)
                clear hno
                go_wp2
                have hf := HFIN.out wz (.slice none 0 0) (.slice none 0 0) (.int .i64 0) (.int .i64 0) HREF.out
                refine bodyPost_ret (v := .tuple #[.agg #[.slice none 0 0, .slice none 0 0, .int .i64 0, .int .i64 0], .int .i64 120]) (by simp [results, Try.results14, go_sem, z0, z1, z2, z3, z4]) rfl ?_
                exact ⟨.agg #[.slice none 0 0, .slice none 0 0, .int .i64 0, .int .i64 0], by rw [HNO.out.2], by rw [HNO.out.1]; exact EV.zero _, by have := hf.2; rw [HB0.out] at this ⊢; exact this⟩
              case pos =>
                have HNN : Hid (ts.length = n) := Lib.hid (by rw [← HTN.out.1]; exact hn1')
                have hnz : (tn : Int) = (n : Int) := by omega
                clear hn1'
                by_cases hm1' : zn = m
                case neg =>
                  have hmz : ¬ (zn : Int) = (m : Int) := by omega
                  have HMM : Hid (¬ zs.length = m) := Lib.hid (by rw [← HTN.out.2]; exact hm1')
                  clear hm1'
                  have hno : takE s.data.toList = none := HNONE.out (fun q => HMM.out q.2.2.1)
                  have HNO := Lib.hid (tk_no hno)
                  clear hno
                  go_wp2
                  have hf := HFIN.out wz (.slice none 0 0) (.slice none 0 0) (.int .i64 0) (.int .i64 0) HREF.out
                  refine bodyPost_ret (v := .tuple #[.agg #[.slice none 0 0, .slice none 0 0, .int .i64 0, .int .i64 0], .int .i64 120]) (by simp [results, Try.results14, go_sem, z0, z1, z2, z3, z4]) rfl ?_
                  exact ⟨.agg #[.slice none 0 0, .slice none 0 0, .int .i64 0, .int .i64 0], by rw [HNO.out.2], by rw [HNO.out.1]; exact EV.zero _, by have := hf.2; rw [HB0.out] at this ⊢; exact this⟩
                case pos =>
                  have HMM : Hid (zs.length = m) := Lib.hid (by rw [← HTN.out.2]; exact hm1')
                  have hmz : (zn : Int) = (m : Int) := by omega
                  clear hm1'
                  obtain ⟨me, hme⟩ : ∃ me, mayEd (ts, zs, (n1 : Int), (n2 : Int)) = me := ⟨_, rfl⟩
                  have HME := Lib.hid hme
                  rw [hme] at CM
                  clear hme
                  go_wp2_with fail
                  refine CM.out.mono ?_
                  rintro e w7 ⟨rfl, b7⟩
                  have HB7 := Lib.hid b7
                  have bx : EdBox wz E (.slice aa tn ac) (.slice da zn dc) (n1 : Int) (n2 : Int) := ⟨y0, y1, y2, y3, y4⟩
                  obtain ⟨v0, v1, v2, v3, v4⟩ := bx.below b7
                  clear bx y0 y1 y2 y3 y4 z0 z1 z2 z3 z4 x0 x1 x2 x3 c1 c2 d1 d2 hPl
                  obtain ⟨⟨z0, z1, z2, z3, z4⟩, x0, x1, x2, x3⟩ := HG.out.1.keep (X := fun _ => False) (KeepX.of b7) id
                  clear b7
                  cases me with
                  | false =>
                    have hno : takE s.data.toList = none := HNONE.out (fun q => by have := q.2.2.2; rw [HME.out] at this; cases this)
                    have HNO := Lib.hid (tk_no hno)
                    clear hno
                    go_wp2
                    have hf := HFIN.out w7 (.slice none 0 0) (.slice none 0 0) (.int .i64 0) (.int .i64 0) HB7.out
                    refine bodyPost_ret (v := .tuple #[.agg #[.slice none 0 0, .slice none 0 0, .int .i64 0, .int .i64 0], .int .i64 120]) (by simp [results, Try.results14, go_sem, z0, z1, z2, z3, z4]) rfl ?_
                    exact ⟨.agg #[.slice none 0 0, .slice none 0 0, .int .i64 0, .int .i64 0], by rw [HNO.out.2], by rw [HNO.out.1]; exact EV.zero _, by have := hf.2; rw [HB0.out] at this ⊢; exact this⟩
                  | true =>
                    have HNO := Lib.hid (tk_yes (HF.out.1 HL6.out HNN.out HMM.out HME.out))
                    go_wp2
                    have hf := HFIN.out w7 (.slice aa tn ac) (.slice da zn dc) (.int .i64 (n1 : Int)) (.int .i64 (n2 : Int)) HB7.out
                    refine bodyPost_ret (v := .tuple #[.agg #[.slice aa tn ac, .slice da zn dc, .int .i64 (n1 : Int), .int .i64 (n2 : Int)], .int .i64 0]) (by simp [results, Try.results14, go_sem, z0, z1, z2, z3, z4]) rfl ?_
                    exact ⟨.agg #[.slice aa tn ac, .slice da zn dc, .int .i64 (n1 : Int), .int .i64 (n2 : Int)], by rw [HNO.out.2], by rw [HNO.out.1]; exact HEV.out _ hf.1, by have := hf.2; rw [HB0.out] at this ⊢; exact this⟩
end Go.Proofs.Ytkpemlgolpihiaa
namespace Go.Proofs.Ytkpemlgolpihiaa
set_option maxRecDepth 100000
open Go.RowKit
set_option linter.unusedVariables false
set_option linter.unusedSimpArgs false

theorem rnumS_any (z : Int) (n : Nat) (hz : z = (n : Int)) (hn : n ≤ 4611686018427387904) (w : World) :
    Calls Try.prog 33 #[.int .i64 z] w fun e w' => e = .returned (.string ⟨(vL n).toArray⟩) ∧ Below w.heap.size w w' := by
  subst hz
  have HP := Lib.hid fun w => put_ref n w hn
  go_enter Try.func33, Try.ntmps33
  go_wp2_with fail
  refine (HP.out _).mono ?_
  rintro e w1 ⟨rfl, b1⟩
  have HB := Lib.hid b1
  clear b1
  go_wp2
  go_ret
  exact ⟨rfl, HB.out⟩
theorem rtextS_any (s : ByteArray) (h : s.size ≤ 262144) (w : World) :
    Calls Try.prog 34 #[.string s] w fun e w' => e = .returned (.string ⟨(txL s.data.toList).toArray⟩) ∧ Below w.heap.size w w' := by
  have HP := Lib.hid fun w => text_ref s w h
  go_enter Try.func34, Try.ntmps34
  go_wp2_with fail
  refine (HP.out _).mono ?_
  rintro e w1 ⟨rfl, b1⟩
  have HB := Lib.hid b1
  clear b1
  go_wp2
  go_ret
  exact ⟨rfl, HB.out⟩
theorem cat_mk {X Y : List UInt8} {x y z : ByteArray} (hx : x = ⟨X.toArray⟩) (hy : y = ⟨Y.toArray⟩) (hz : z = ⟨(X ++ Y).toArray⟩) (hl : X.length + Y.length ≤ 100000000) (w : World) : (Op.stringOp .add x y).run Try.prog w = .ok (.string z) w := by
  rw [run_string_add_sum w x y (by rw [hx, hy, mk_size, mk_size]; omega)]
  refine congrArg (fun q => Result.ok (Value.string q) w) ?_
  rw [hx, hy, hz]
  apply ByteArray.ext
  simp
set_option maxRecDepth 1000000 in
set_option maxHeartbeats 16000000 in
theorem rput12_any (V : Value) (d : Ed) (w : World) (h : EV w V d) : Calls Try.prog 12 #[V] w (PUe d w) := by
  have CK := Lib.hid fun (wx : World) (hx : Below w.heap.size w wx) => rmay12_any V d wx (h.old hx)
  obtain ⟨aa, an, ac, da, dn, dc, rfl, hst, hsz, hok⟩ := h
  obtain ⟨ts, zs, lg, nx⟩ := d
  obtain ⟨b, off, ha, hb, hc⟩ := hst.2.1.at_
  obtain ⟨b2, off2, ha2, hb2, hc2⟩ := hsz.2.1.at_
  simp only at *
  have hl := hst.1
  have hl2 := hsz.1
  rw [hl] at ha hb
  rw [hl2] at ha2 hb2
  have HB0 := Lib.hid (box_bel w (.cells #[.slice aa an ac, .slice da dn dc, .int .i64 lg, .int .i64 nx] 25))
  have bx := EdBox.new w 25 (.slice aa an ac) (.slice da dn dc) lg nx
  have HC := Lib.hid hc
  have HC2 := Lib.hid hc2
  have HL := Lib.hid hl
  have HL2 := Lib.hid hl2
  have BX := Lib.hid bx
  obtain ⟨m, hm⟩ : ∃ m, mayEd (ts, zs, lg, nx) = m := ⟨_, rfl⟩
  have HM := Lib.hid hm
  rw [hm] at CK
  clear hm hc hc2 hl hl2 bx hok hst hsz
  go_enter Try.func12, Try.ntmps12
  go_wp2_with fail
  refine (CK.out _ HB0.out).mono ?_
  rintro e w1 ⟨rfl, b1⟩
  have HB1 := Lib.hid (HB0.out.trans (b1.mono HB0.out.size))
  have BX1 := Lib.hid (BX.out.below b1)
  clear b1 CK
  cases m with
  | false =>
    go_wp2_with fail
    go_ret2
    exact PUe.no (by rw [HM.out]; decide) rfl HB1.out
  | true =>
    obtain ⟨m1, m2, m3, m4, m5, m6⟩ := mayEd_iff.1 HM.out
    simp only at m1 m2 m3 m4 m5 m6
    rw [HL.out] at m1
    rw [HL2.out] at m2
    have HMT := Lib.hid m3
    have HMZ := Lib.hid m4
    have C0 := Lib.hid (rnumS_any (an : Int) an rfl (by omega))
    obtain ⟨S0, hS0⟩ : ∃ S0 : ByteArray, S0 = ⟨(vL an).toArray⟩ := ⟨_, rfl⟩
    rw [← hS0] at C0
    have HS0 := Lib.hid hS0
    clear m3 m4 hS0
    obtain ⟨xb, hxb⟩ : ∃ xb, xb = w.heap.size := ⟨_, rfl⟩
    obtain ⟨y0, y1, y2, y3, y4⟩ := BX1.out
    go_wp2_with fail
    rw [← hxb] at BX1 ⊢
    have HXB := Lib.hid hxb
    clear hxb y0 y1 y2 y3 y4
    refine (C0.out _).mono ?_
    rintro e w2 ⟨rfl, b2'⟩
    have HB2 := Lib.hid b2'
    clear b2' C0
    go_wp2_with fail
    go_loopw [4, 5] (fun v i wr => ∃ (k : Nat) (M : ByteArray), i = .int .i64 k ∧ v = .string M ∧ k ≤ an ∧ Hid (M = ⟨(vL an ++ tabsB (ts.take k)).toArray⟩) ∧ Hid (Below w1.heap.size w1 wr)) (fun _ i _ => an - (intOf i).toNat)
    case atStart => exact ⟨0, S0, rfl, rfl, by omega, Lib.hid (by rw [HS0.out]; simp [tabsB]), HB2⟩
    case round =>
      obtain ⟨k, M, rfl, rfl, hk, HMM, HW⟩ := hrel
      obtain ⟨y0, y1, y2, y3, y4⟩ := BX1.out.below HW.out
      have hlen := tabsB_len (ts := ts.take k) (fun e he => HMT.out e (List.mem_of_mem_take he))
      rw [List.length_take] at hlen
      have hv0 := vL_len9 (n := an) (by omega)
      by_cases hlt : k < an
      · obtain rfl := ha (by omega)
        have hbw := hb (by omega)
        have hkl : k < ts.length := by rw [HL.out]; exact hlt
        have hki : (k : Int) < (an : Int) := by omega
        have hB1s := HB1.out.size
        have hWs := HW.out.size
        have hbr : b < wr.heap.size := by omega
        obtain ⟨g0, g1, g2, g3⟩ := (HC.out.old hbw HB1.out).old (by omega : b < w1.heap.size) HW.out k hkl
        have hmt := HMT.out _ (List.getElem_mem hkl)
        have hbody := tabsB_snoc (ts.take k) ts[k]
        rw [← List.take_succ_eq_append_getElem hkl] at hbody
        obtain ⟨E, hE⟩ : ∃ E, E = ts[k] := ⟨_, rfl⟩
        rw [← hE] at g0 g1 g2 g3 hmt hbody
        obtain ⟨x1, x2, x3, x4⟩ := E
        obtain ⟨⟨i1, i2⟩, ⟨v1, v2⟩, k1, k2, -⟩ := mayT_iff.1 hmt
        simp only at i1 i2 v1 v2 k1 k2
        have hk1 := (keyB_iff.1 k1).2
        have hk2 := (keyB_iff.1 k2).2
        obtain ⟨L, hL⟩ : ∃ L, L = vL an ++ tabsB (ts.take k) := ⟨_, rfl⟩
        have hLs : L.length ≤ 80000000 := by
          rw [hL, List.length_append]
          have : min k ts.length ≤ 128 := by omega
          omega
        have hMe := HMM.out
        rw [← hL] at hMe
        have HBody : (vL an ++ tabsB (ts.take (k + 1)) = L ++ vL x1.toNat ++ vL x2.toNat ++ txL x3.data.toList ++ txL x4.data.toList) := by
          rw [hbody, ← List.append_assoc, ← hL]
          unfold tabB
          simp only [List.append_assoc]
        have q1 := vL_len9 (n := x1.toNat) (by omega)
        have q2 := vL_len9 (n := x2.toNat) (by omega)
        have q3 := txL_size x3.data.toList (by rw [size_list]; omega)
        have q4 := txL_size x4.data.toList (by rw [size_list]; omega)
        have C1 := Lib.hid (rnumS_any x1 x1.toNat (by omega) (by omega))
        have C2 := Lib.hid (rnumS_any x2 x2.toNat (by omega) (by omega))
        have C3 := Lib.hid (rtextS_any x3 (by omega))
        have C4 := Lib.hid (rtextS_any x4 (by omega))
        obtain ⟨S1, hS1⟩ : ∃ S : ByteArray, S = ⟨(vL x1.toNat).toArray⟩ := ⟨_, rfl⟩
        obtain ⟨S2, hS2⟩ : ∃ S : ByteArray, S = ⟨(vL x2.toNat).toArray⟩ := ⟨_, rfl⟩
        obtain ⟨S3, hS3⟩ : ∃ S : ByteArray, S = ⟨(txL x3.data.toList).toArray⟩ := ⟨_, rfl⟩
        obtain ⟨S4, hS4⟩ : ∃ S : ByteArray, S = ⟨(txL x4.data.toList).toArray⟩ := ⟨_, rfl⟩
        obtain ⟨M1, hM1⟩ : ∃ S : ByteArray, S = ⟨(L ++ vL x1.toNat).toArray⟩ := ⟨_, rfl⟩
        obtain ⟨M2, hM2⟩ : ∃ S : ByteArray, S = ⟨(L ++ vL x1.toNat ++ vL x2.toNat).toArray⟩ := ⟨_, rfl⟩
        obtain ⟨M3, hM3⟩ : ∃ S : ByteArray, S = ⟨(L ++ vL x1.toNat ++ vL x2.toNat ++ txL x3.data.toList).toArray⟩ := ⟨_, rfl⟩
        obtain ⟨M4, hM4⟩ : ∃ S : ByteArray, S = ⟨(L ++ vL x1.toNat ++ vL x2.toNat ++ txL x3.data.toList ++ txL x4.data.toList).toArray⟩ := ⟨_, rfl⟩
        have hc1 := cat_mk (x := M) (y := S1) (z := M1) hMe hS1 hM1 (by omega)
        have hc2 := cat_mk (x := M1) (y := S2) (z := M2) hM1 hS2 hM2 (by simp only [List.length_append]; omega)
        have hc3 := cat_mk (x := M2) (y := S3) (z := M3) hM2 hS3 hM3 (by simp only [List.length_append]; omega)
        have hc4 := cat_mk (x := M3) (y := S4) (z := M4) hM3 hS4 hM4 (by simp only [List.length_append]; omega)
        rw [← hS1] at C1
        rw [← hS2] at C2
        rw [← hS3] at C3
        rw [← hS4] at C4
        have HN : Hid (M4 = ⟨(vL an ++ tabsB (ts.take (k + 1))).toArray⟩) := Lib.hid (by rw [hM4, HBody])
        clear hbody hlen hL hE hmt k1 k2 HBody hM1 hM2 hM3 hM4 hS1 hS2 hS3 hS4 hMe HMM q1 q2 q3 q4 hLs
        go_wp2_with fail
        refine wp_region_below (by kernel_rfl) (by kernel_rfl) ?_
        repeat (first
          | go_big_quiet_skip
          | (go_big_quiet_want
             first
             | (refine BigFrame.quiet_move _ rfl ?_)
             | (refine BigFrame.quiet_assign _ rfl ?_)
             | (unfold Oper.quiet
                apply Exists.intro
                refine ⟨fun w' hw' => ?_, ?_⟩
                · (obtain ⟨hc', hf'⟩ := bcell hw'
                   go_simp
                   first
                   | done
                   | exact rfl
                   | (go_at_call 33; (with_reducible refine (C1.out _).mono ?_); rintro e w'' ⟨rfl, bb⟩; exact ⟨rfl, by first | exact bt hw' bb | simpa using bt hw' bb⟩)
                   | (go_at_call 33; (with_reducible refine (C2.out _).mono ?_); rintro e w'' ⟨rfl, bb⟩; exact ⟨rfl, by first | exact bt hw' bb | simpa using bt hw' bb⟩)
                   | (go_at_call 34; (with_reducible refine (C3.out _).mono ?_); rintro e w'' ⟨rfl, bb⟩; exact ⟨rfl, by first | exact bt hw' bb | simpa using bt hw' bb⟩)
                   | (go_at_call 34; (with_reducible refine (C4.out _).mono ?_); rintro e w'' ⟨rfl, bb⟩; exact ⟨rfl, by first | exact bt hw' bb | simpa using bt hw' bb⟩)))
             go_big_quiet_on
             simp only [Act.put, Act.eval, List.setIfInBounds_toArray, List.set_cons_zero, List.set_cons_succ, Array.getD_eq_getD_getElem?, List.getElem?_toArray, List.getElem?_cons_zero, List.getElem?_cons_succ, Option.getD_some]))
        refine wpQuiet_nil ?_
        intro w' hw'
        have HW' := Lib.hid (HW.out.trans (hw'.mono hWs))
        clear hw'
        go_wp2_with fail
        go_roundw
        case rel => exact ⟨k + 1, M4, by go_num, rfl, by omega, HN, HW'⟩
        case measure => simp [intOf]; omega
      · obtain rfl : k = an := by omega
        have hMe := HMM.out
        rw [← HL.out, List.take_length, HL.out] at hMe
        obtain ⟨L, hL⟩ : ∃ L, L = vL k ++ tabsB ts := ⟨_, rfl⟩
        have hLs : L.length ≤ 80000000 := by
          rw [hL, List.length_append]
          have := tabsB_len HMT.out
          have := HL.out
          omega
        rw [← hL] at hMe
        have HLE := Lib.hid hL
        have q1 := vL_len9 (n := dn) (by omega)
        have C1 := Lib.hid (rnumS_any (dn : Int) dn rfl (by omega))
        obtain ⟨S1, hS1⟩ : ∃ S : ByteArray, S = ⟨(vL dn).toArray⟩ := ⟨_, rfl⟩
        obtain ⟨M1, hM1⟩ : ∃ S : ByteArray, S = ⟨(L ++ vL dn).toArray⟩ := ⟨_, rfl⟩
        have hc1 := cat_mk (x := M) (y := S1) (z := M1) hMe hS1 hM1 (by omega)
        rw [← hS1] at C1
        have HM1 := Lib.hid hM1
        have hs0 := HW.out.size
        clear hlen hL hMe hM1 hS1 HMM
        go_wp2_with fail
        refine (C1.out _).mono ?_
        rintro e w3 ⟨rfl, b3⟩
        have HW3 := Lib.hid (HW.out.trans (b3.mono hs0))
        clear b3 C1 HW hs0 y0 y1 y2 y3 y4
        go_wp2_with fail
        clear hc1
        go_loopw [4, 6] (fun v i wr => ∃ (j : Nat) (M : ByteArray), i = .int .i64 j ∧ v = .string M ∧ j ≤ dn ∧ Hid (M = ⟨(L ++ vL dn ++ intsB (zs.take j)).toArray⟩) ∧ Hid (Below w1.heap.size w1 wr)) (fun _ i _ => dn - (intOf i).toNat)
        case atStart => exact ⟨0, M1, rfl, rfl, by omega, Lib.hid (by rw [HM1.out]; simp [intsB]), HW3⟩
        case round =>
          obtain ⟨j, M2, rfl, rfl, hj, HMM, HW⟩ := hrel
          obtain ⟨y0, y1, y2, y3, y4⟩ := BX1.out.below HW.out
          have hlen := intsB_len (zs := zs.take j) (fun e he => HMZ.out e (List.mem_of_mem_take he))
          rw [List.length_take] at hlen
          have hws := HW.out.size
          by_cases hlt2 : j < dn
          · obtain rfl := ha2 (by omega)
            have hbw := hb2 (by omega)
            have hkl : j < zs.length := by rw [HL2.out]; exact hlt2
            have hki : (j : Int) < (dn : Int) := by omega
            have hB1s := HB1.out.size
            have hbr : b2 < wr.heap.size := by omega
            have g0 := (HC2.out.old hbw HB1.out).old (by omega : b2 < w1.heap.size) HW.out j hkl
            have hmz := HMZ.out _ (List.getElem_mem hkl)
            have hbody := intsB_snoc (zs.take j) zs[j]
            rw [← List.take_succ_eq_append_getElem hkl] at hbody
            obtain ⟨E, hE⟩ : ∃ E, E = zs[j] := ⟨_, rfl⟩
            rw [← hE] at g0 hmz hbody
            obtain ⟨N, hN⟩ : ∃ N, N = L ++ vL dn ++ intsB (zs.take j) := ⟨_, rfl⟩
            have hMl : N.length ≤ 90000000 := by rw [hN]; simp only [List.length_append]; omega
            have hMe := HMM.out
            rw [← hN] at hMe
            have q2 := vL_len9 (n := E.toNat) (by omega)
            have C1 := Lib.hid (rnumS_any E E.toNat (by omega) (by omega))
            obtain ⟨S1, hS1⟩ : ∃ S : ByteArray, S = ⟨(vL E.toNat).toArray⟩ := ⟨_, rfl⟩
            obtain ⟨M3, hM3⟩ : ∃ S : ByteArray, S = ⟨(N ++ vL E.toNat).toArray⟩ := ⟨_, rfl⟩
            have hc1 := cat_mk (x := M2) (y := S1) (z := M3) hMe hS1 hM3 (by omega)
            rw [← hS1] at C1
            have HN : Hid (M3 = ⟨(L ++ vL dn ++ intsB (zs.take (j + 1))).toArray⟩) := Lib.hid (by rw [hM3, hbody, ← List.append_assoc, ← hN])
            clear hN hbody hE hlen hMe hM3 hS1 HMM hmz
            go_wp2_with fail
            refine (C1.out _).mono ?_
            rintro e w4 ⟨rfl, b4⟩
            have HW4 := Lib.hid (HW.out.trans (b4.mono hws))
            clear b4 C1
            go_wp2_with fail
            go_roundw
            case rel => exact ⟨j + 1, M3, by go_num, rfl, by omega, HN, HW4⟩
            case measure => simp [intOf]; omega
          · obtain rfl : j = dn := by omega
            have hMe := HMM.out
            rw [← HL2.out, List.take_length, HL2.out] at hMe
            obtain ⟨N, hN⟩ : ∃ N, N = L ++ vL j ++ intsB zs := ⟨_, rfl⟩
            have hMl : N.length ≤ 90000000 := by rw [hN]; simp only [List.length_append]; have := intsB_len HMZ.out; have := HL2.out; omega
            rw [← hN] at hMe
            have q2 := vL_len9 (n := lg.toNat) (by omega)
            have q3 := vL_len9 (n := nx.toNat) (by omega)
            have C1 := Lib.hid (rnumS_any lg lg.toNat (by omega) (by omega))
            have C2 := Lib.hid (rnumS_any nx nx.toNat (by omega) (by omega))
            obtain ⟨S1, hS1⟩ : ∃ S : ByteArray, S = ⟨(vL lg.toNat).toArray⟩ := ⟨_, rfl⟩
            obtain ⟨S2, hS2⟩ : ∃ S : ByteArray, S = ⟨(vL nx.toNat).toArray⟩ := ⟨_, rfl⟩
            obtain ⟨M3, hM3⟩ : ∃ S : ByteArray, S = ⟨(N ++ vL lg.toNat).toArray⟩ := ⟨_, rfl⟩
            obtain ⟨M4, hM4⟩ : ∃ S : ByteArray, S = ⟨(N ++ vL lg.toNat ++ vL nx.toNat).toArray⟩ := ⟨_, rfl⟩
            have hc1 := cat_mk (x := M2) (y := S1) (z := M3) hMe hS1 hM3 (by omega)
            have hc2 := cat_mk (x := M3) (y := S2) (z := M4) hM3 hS2 hM4 (by simp only [List.length_append]; omega)
            rw [← hS1] at C1
            rw [← hS2] at C2
            have HN : Hid (M4 = ⟨(edB (ts, zs, lg, nx)).toArray⟩) := Lib.hid (by
              rw [hM4, hN, HLE.out]
              unfold edB
              rw [HL.out, HL2.out])
            clear hN hlen hMe hM3 hM4 hS1 hS2 HMM
            go_wp2_with fail
            refine wp_region_below (by kernel_rfl) (by kernel_rfl) ?_
            repeat (first
              | go_big_quiet_skip
              | (go_big_quiet_want
                 first
                 | (refine BigFrame.quiet_move _ rfl ?_)
                 | (refine BigFrame.quiet_assign _ rfl ?_)
                 | (unfold Oper.quiet
                    apply Exists.intro
                    refine ⟨fun w' hw' => ?_, ?_⟩
                    · (obtain ⟨hc', hf'⟩ := bcell hw'
                       go_simp
                       first
                       | done
                       | exact rfl
                       | (go_at_call 33; (with_reducible refine (C1.out _).mono ?_); rintro e w'' ⟨rfl, bb⟩; exact ⟨rfl, by first | exact bt hw' bb | simpa using bt hw' bb⟩)
                       | (go_at_call 33; (with_reducible refine (C2.out _).mono ?_); rintro e w'' ⟨rfl, bb⟩; exact ⟨rfl, by first | exact bt hw' bb | simpa using bt hw' bb⟩)))
                 go_big_quiet_on
                 simp only [Act.put, Act.eval, List.setIfInBounds_toArray, List.set_cons_zero, List.set_cons_succ, Array.getD_eq_getD_getElem?, List.getElem?_toArray, List.getElem?_cons_zero, List.getElem?_cons_succ, Option.getD_some]))
            refine wpQuiet_nil ?_
            intro w' hw'
            have HW' := Lib.hid (HB1.out.trans ((HW.out.trans (hw'.mono hws)).mono HB1.out.size))
            clear hw'
            go_wp2_with fail
            go_ret2
            refine PUe.yes HM.out ?_ HW'.out
            exact congrArg Ending.returned (congrArg (fun x => Value.tuple #[.string x, .int .i64 0]) HN.out)
end Go.Proofs.Ytkpemlgolpihiaa
