/-
  Layer 12 (manifest): the document's reader: contracts of number, text. Conditions: at most 2^24 bytes are left.
-/
import Derived.Test.YthmkalnbdocdcaaYm
namespace Go.Proofs.Ythmkalnbdocdcaa
set_option maxRecDepth 100000
open Go.RowKit
set_option linter.unusedVariables false
set_option linter.unusedSimpArgs false

/-- The reader's box: what is left of the bytes, and whether all was right. -/
def NP (P : Nat) (w : World) (s : ByteArray) (r : Bool) : Prop := (w.cell? ⟨P, 0, none⟩ = some (.string s) ∧ w.frozen? ⟨P, 0, none⟩ = false) ∧ (w.cell? ⟨P, 1, none⟩ = some (.bool r) ∧ w.frozen? ⟨P, 1, none⟩ = false) ∧ P < w.heap.size
theorem NP.keep {P : Nat} {w w' : World} {s : ByteArray} {r : Bool} {X : Nat → Prop} (h : NP P w s r) (hk : KeepX X w w') (hx : ¬ X P) : NP P w' s r := by
  obtain ⟨⟨a, b⟩, ⟨c, d⟩, e⟩ := h
  exact ⟨⟨(hk.cell e hx 0).1.trans a, (hk.cell e hx 0).2.trans b⟩, ⟨(hk.cell e hx 1).1.trans c, (hk.cell e hx 1).2.trans d⟩, Nat.lt_of_lt_of_le e hk.2⟩
theorem NP.left {P : Nat} {w : World} {s : ByteArray} {r : Bool} (h : NP P w s r) (s' : ByteArray) : NP P (w.setCell ⟨P, 0, none⟩ (.string s')) s' r := by
  obtain ⟨⟨a, b⟩, ⟨c, d⟩, e⟩ := h
  refine ⟨⟨World.cell?_setCell_same' _ _ _ (by rw [a]; rfl), by rw [World.frozen?_setCell]; exact b⟩, ⟨?_, by rw [World.frozen?_setCell]; exact d⟩, by simpa using e⟩
  rw [World.cell?_setCell_other _ _ _ _ (by intro e; simp at e)]; exact c
theorem NP.right {P : Nat} {w : World} {s : ByteArray} {r : Bool} (h : NP P w s r) (r' : Bool) : NP P (w.setCell ⟨P, 1, none⟩ (.bool r')) s r' := by
  obtain ⟨⟨a, b⟩, ⟨c, d⟩, e⟩ := h
  refine ⟨⟨?_, by rw [World.frozen?_setCell]; exact b⟩, ⟨World.cell?_setCell_same' _ _ _ (by rw [c]; rfl), by rw [World.frozen?_setCell]; exact d⟩, by simpa using e⟩
  rw [World.cell?_setCell_other _ _ _ _ (by intro e; simp at e)]; exact a
def RP (P : Nat) (w : World) (o : Option (List UInt8)) : Prop := ∃ s r, NP P w s r ∧ s.size ≤ 16777216 ∧ (∀ l, o = some l → r = true ∧ s.data.toList = l) ∧ (o = none → r = false)
def LQ (B0 B P E E0 : Nat) : Prop := (B0 ≤ P ∧ B0 ≤ E ∧ B0 ≤ E0) ∧ (P < B ∧ E < B ∧ E0 < B) ∧ (P ≠ E ∧ P ≠ E0 ∧ E ≠ E0)
def RQ (B0 B P E E0 : Nat) (wb : World) (o : Option (List UInt8)) (A D : Value) (ts : List Tb) (zs : List Int) (lg nx : Int) (w : World) : Prop :=
  RP P w o ∧ EdW w E A D lg nx ∧ EdW w E0 (.slice none 0 0) (.slice none 0 0) 0 0 ∧ w.ownsRow B 49 4 A ts.length (tv4 ts) ∧ w.ownsRow B 3 1 D zs.length (iv zs) ∧ okT ts ∧ Below B0 wb w ∧ B ≤ w.heap.size ∧ B0 ≤ B
theorem RQ.keep {B0 B P E E0 : Nat} {wb w w' : World} {o o' : Option (List UInt8)} {A D : Value} {ts : List Tb} {zs : List Int} {lg nx : Int} (hy : LQ B0 B P E E0) (h : RQ B0 B P E E0 wb o A D ts zs lg nx w) (hk : KeepX (fun y => y = P) w w') (hb : Below B0 w w') (hr : RP P w' o') :
    RQ B0 B P E E0 wb o' A D ts zs lg nx w' := by
  obtain ⟨y1, y2, y3⟩ := hy
  obtain ⟨h1, h3, h4, h5, h6, h7, h8, h9, h10⟩ := h
  have n5 : ∀ g, B ≤ g → g < w.heap.size → w'.heap[g]? = w.heap[g]? := fun g hg hl => hk.1 g hl (by omega)
  exact ⟨hr, h3.keep hk (by omega), h4.keep hk (by omega), own_keep h5 n5, own_keep h6 n5, h7, h8.trans hb, Nat.le_trans h9 hk.2, h10⟩
theorem ttR_no {l t : List UInt8} {a x : Nat} (h : ttR l = (t, a, x)) (hx : ¬ x = 0) : t = [] := by
  rcases tk_cases l with h1 | ⟨n, k, h1, h2, h3, h4⟩
  · have : ttR l = ([], 0, (tk l 0 0).2.2) := ttR_err rfl (by rcases h1 with h1 | h1 <;> rw [h1] <;> decide)
    rw [h] at this
    simp only [Prod.mk.injEq] at this
    exact this.1
  · by_cases c1 : 262144 < n
    · rw [ttR_big h1 c1] at h
      simp only [Prod.mk.injEq] at h
      exact h.1.symm
    · by_cases c2 : l.length < k + n
      · rw [ttR_short h1 (by omega) c2] at h
        simp only [Prod.mk.injEq] at h
        exact h.1.symm
      · rw [ttR_ok h1 (by omega) (by omega)] at h
        simp only [Prod.mk.injEq] at h
        exact absurd h.2.2.symm hx
set_option maxHeartbeats 4000000 in
theorem num_q {B0 B P E E0 : Nat} {wb w : World} {o : Option (List UInt8)} {A D : Value} {ts : List Tb} {zs : List Int} {lg nx : Int} (hy : LQ B0 B P E E0) (h : RQ B0 B P E E0 wb o A D ts zs lg nx w) :
    Calls Try.prog 36 #[.pointer (some ⟨P, 0, none⟩)] w fun e w' => ∃ n : Nat, e = .returned (.int .i64 (n : Nat)) ∧ n ≤ 4611686018427387904 ∧ RQ B0 B P E E0 wb ((o.bind rdN).map (·.2)) A D ts zs lg nx w' ∧ (∀ p, o.bind rdN = some p → n = p.1) ∧ KeepX (fun y => y = P) w w' ∧ Below B0 w w' := by
  obtain ⟨s, r, ⟨⟨c1, c2⟩, ⟨d1, d2⟩, hP⟩, hs, ho1, ho2⟩ := h.1
  obtain ⟨n, a, x, ht⟩ : ∃ n a x, tk s.data.toList 0 0 = (n, a, x) := ⟨_, _, _, rfl⟩
  have hle := tk_le ht
  rw [size_list] at hle
  have hT := take_ref s w (by omega)
  rw [ht] at hT
  simp only at hT
  have HT := Lib.hid hT
  have H0 := Lib.hid h
  have HY := Lib.hid hy
  have HO := Lib.hid (And.intro ho1 ho2)
  have HTK := Lib.hid ht
  clear hT h hy ho1 ho2 ht
  by_cases hx : x = 0
  · subst hx
    have hai : (a : Int) ≤ (s.size : Int) := by omega
    have a0 : (0 : Int) ≤ (a : Int) := by omega
    have hfin : Hid (∀ wf, NP P wf s r → KeepX (fun y => y = P) w wf → Below B0 w wf → RQ B0 B P E E0 wb ((o.bind rdN).map (·.2)) A D ts zs lg nx (wf.setCell ⟨P, 0, none⟩ (.string (s.extract a s.size))) ∧ KeepX (fun y => y = P) w (wf.setCell ⟨P, 0, none⟩ (.string (s.extract a s.size))) ∧ Below B0 w (wf.setCell ⟨P, 0, none⟩ (.string (s.extract a s.size)))) := Lib.hid fun wf hn0 hk hb => by
      refine ⟨RQ.keep HY.out H0.out (KeepX.set (X := fun y => y = P) hk (p := ⟨P, 0, none⟩) rfl _) (hb.setCell (p := ⟨P, 0, none⟩) HY.out.1.1 _) ⟨s.extract a s.size, r, hn0.left _, by rw [ByteArray.size_extract]; omega, fun l hl => ?_, fun hl => ?_⟩, KeepX.set (X := fun y => y = P) hk (p := ⟨P, 0, none⟩) rfl _, hb.setCell (p := ⟨P, 0, none⟩) HY.out.1.1 _⟩
      · cases o with
        | none => simp at hl
        | some m =>
          obtain ⟨rfl, rfl⟩ := HO.out.1 m rfl
          simp only [Option.bind_some, rdN, HTK.out] at hl
          simp at hl
          exact ⟨rfl, by rw [rest_bytes]; exact hl⟩
      · cases o with
        | none => exact HO.out.2 rfl
        | some m =>
          obtain ⟨rfl, rfl⟩ := HO.out.1 m rfl
          simp only [Option.bind_some, rdN, HTK.out] at hl
          simp at hl
    go_enter Try.func36, Try.ntmps36
    go_wp2_with fail
    refine HT.out.mono ?_
    rintro e w1 ⟨rfl, rfl⟩
    go_wp2
    go_ret
    have hf := hfin.out _ ⟨⟨c1, c2⟩, ⟨d1, d2⟩, hP⟩ (KeepX.refl _ _) (Below.refl _ _)
    refine ⟨n, rfl, by omega, hf.1, fun p hp => ?_, hf.2.1, hf.2.2⟩
    cases o with
    | none => simp at hp
    | some m =>
      obtain ⟨rfl, rfl⟩ := HO.out.1 m rfl
      simp only [Option.bind_some, rdN, HTK.out] at hp
      simp at hp
      rw [← hp]
  · have hxb : ((x : Int) == 0) = false := by rw [beq_eq_false_iff_ne]; omega
    have hn0 : n = 0 := (by have := (tk_err s.data.toList 0 0 (by rw [HTK.out]; exact hx)).1; rw [HTK.out] at this; exact this)
    have hno : Hid ((o.bind rdN) = none) := Lib.hid (by
      cases o with
      | none => rfl
      | some m =>
        obtain ⟨rfl, rfl⟩ := HO.out.1 m rfl
        simp only [Option.bind_some, rdN, HTK.out]
        rw [if_neg hx])
    have hfin : Hid (∀ wf, NP P wf s r → KeepX (fun y => y = P) w wf → Below B0 w wf → RQ B0 B P E E0 wb ((o.bind rdN).map (·.2)) A D ts zs lg nx (wf.setCell ⟨P, 1, none⟩ (.bool false)) ∧ KeepX (fun y => y = P) w (wf.setCell ⟨P, 1, none⟩ (.bool false)) ∧ Below B0 w (wf.setCell ⟨P, 1, none⟩ (.bool false))) := Lib.hid fun wf hn0 hk hb => by
      rw [hno.out]
      exact ⟨RQ.keep HY.out H0.out (KeepX.set (X := fun y => y = P) hk (p := ⟨P, 1, none⟩) rfl _) (hb.setCell (p := ⟨P, 1, none⟩) HY.out.1.1 _) ⟨s, false, hn0.right false, hs, fun l hl => (by cases hl), fun _ => rfl⟩, KeepX.set (X := fun y => y = P) hk (p := ⟨P, 1, none⟩) rfl _, hb.setCell (p := ⟨P, 1, none⟩) HY.out.1.1 _⟩
    go_enter Try.func36, Try.ntmps36
    go_wp2_with fail
    refine HT.out.mono ?_
    rintro e w1 ⟨rfl, rfl⟩
    go_wp2
    go_ret
    have hf := hfin.out _ ⟨⟨c1, c2⟩, ⟨d1, d2⟩, hP⟩ (KeepX.refl _ _) (Below.refl _ _)
    exact ⟨0, rfl, by simp, hf.1, fun p hp => (by rw [hno.out] at hp; cases hp), hf.2.1, hf.2.2⟩
set_option maxHeartbeats 4000000 in
theorem txt_q {B0 B P E E0 : Nat} {wb w : World} {o : Option (List UInt8)} {A D : Value} {ts : List Tb} {zs : List Int} {lg nx : Int} (hy : LQ B0 B P E E0) (h : RQ B0 B P E E0 wb o A D ts zs lg nx w) :
    Calls Try.prog 37 #[.pointer (some ⟨P, 0, none⟩)] w fun e w' => ∃ n : List UInt8, e = .returned (.string ⟨n.toArray⟩) ∧ n.length ≤ 16777216 ∧ RQ B0 B P E E0 wb ((o.bind rdS).map (·.2)) A D ts zs lg nx w' ∧ (∀ p, o.bind rdS = some p → n = p.1) ∧ KeepX (fun y => y = P) w w' ∧ Below B0 w w' := by
  obtain ⟨s, r, ⟨⟨c1, c2⟩, ⟨d1, d2⟩, hP⟩, hs, ho1, ho2⟩ := h.1
  obtain ⟨n, a, x, ht⟩ : ∃ n a x, ttR s.data.toList = (n, a, x) := ⟨_, _, _, rfl⟩
  have hle := ttR_le ht
  rw [size_list] at hle
  have hT := taketext_ref s w (by omega)
  unfold TT at hT
  rw [ht] at hT
  simp only at hT
  have HT := Lib.hid hT
  have H0 := Lib.hid h
  have HY := Lib.hid hy
  have HO := Lib.hid (And.intro ho1 ho2)
  have HTK := Lib.hid ht
  clear hT h hy ho1 ho2 ht
  by_cases hx : x = 0
  · subst hx
    have hai : (a : Int) ≤ (s.size : Int) := by omega
    have a0 : (0 : Int) ≤ (a : Int) := by omega
    have hfin : Hid (∀ wf, NP P wf s r → KeepX (fun y => y = P) w wf → Below B0 w wf → RQ B0 B P E E0 wb ((o.bind rdS).map (·.2)) A D ts zs lg nx (wf.setCell ⟨P, 0, none⟩ (.string (s.extract a s.size))) ∧ KeepX (fun y => y = P) w (wf.setCell ⟨P, 0, none⟩ (.string (s.extract a s.size))) ∧ Below B0 w (wf.setCell ⟨P, 0, none⟩ (.string (s.extract a s.size)))) := Lib.hid fun wf hn0 hk hb => by
      refine ⟨RQ.keep HY.out H0.out (KeepX.set (X := fun y => y = P) hk (p := ⟨P, 0, none⟩) rfl _) (hb.setCell (p := ⟨P, 0, none⟩) HY.out.1.1 _) ⟨s.extract a s.size, r, hn0.left _, by rw [ByteArray.size_extract]; omega, fun l hl => ?_, fun hl => ?_⟩, KeepX.set (X := fun y => y = P) hk (p := ⟨P, 0, none⟩) rfl _, hb.setCell (p := ⟨P, 0, none⟩) HY.out.1.1 _⟩
      · cases o with
        | none => simp at hl
        | some m =>
          obtain ⟨rfl, rfl⟩ := HO.out.1 m rfl
          simp only [Option.bind_some, rdS, HTK.out] at hl
          simp at hl
          exact ⟨rfl, by rw [rest_bytes]; exact hl⟩
      · cases o with
        | none => exact HO.out.2 rfl
        | some m =>
          obtain ⟨rfl, rfl⟩ := HO.out.1 m rfl
          simp only [Option.bind_some, rdS, HTK.out] at hl
          simp at hl
    go_enter Try.func37, Try.ntmps37
    go_wp2_with fail
    refine HT.out.mono ?_
    rintro e w1 ⟨rfl, b1⟩
    have HN1 := Lib.hid ((show NP P w s r from ⟨⟨c1, c2⟩, ⟨d1, d2⟩, hP⟩).keep (X := fun _ => False) (KeepX.of b1) id)
    have HB1 := Lib.hid b1
    clear c1 c2 d1 d2 hP b1
    obtain ⟨⟨c1, c2⟩, ⟨d1, d2⟩, hP⟩ := HN1.out
    go_wp2
    go_ret
    have hf := hfin.out _ HN1.out (KeepX.of HB1.out) (HB1.out.mono (by have := H0.out.2.2.2.2.2.2.2; omega))
    refine ⟨n, rfl, by omega, hf.1, fun p hp => ?_, hf.2.1, hf.2.2⟩
    cases o with
    | none => simp at hp
    | some m =>
      obtain ⟨rfl, rfl⟩ := HO.out.1 m rfl
      simp only [Option.bind_some, rdS, HTK.out] at hp
      simp at hp
      rw [← hp]
  · have hxb : ((x : Int) == 0) = false := by rw [beq_eq_false_iff_ne]; omega
    have hn0 : n = [] := ttR_no HTK.out hx
    have hno : Hid ((o.bind rdS) = none) := Lib.hid (by
      cases o with
      | none => rfl
      | some m =>
        obtain ⟨rfl, rfl⟩ := HO.out.1 m rfl
        simp only [Option.bind_some, rdS, HTK.out]
        rw [if_neg hx])
    have hfin : Hid (∀ wf, NP P wf s r → KeepX (fun y => y = P) w wf → Below B0 w wf → RQ B0 B P E E0 wb ((o.bind rdS).map (·.2)) A D ts zs lg nx (wf.setCell ⟨P, 1, none⟩ (.bool false)) ∧ KeepX (fun y => y = P) w (wf.setCell ⟨P, 1, none⟩ (.bool false)) ∧ Below B0 w (wf.setCell ⟨P, 1, none⟩ (.bool false))) := Lib.hid fun wf hn0 hk hb => by
      rw [hno.out]
      exact ⟨RQ.keep HY.out H0.out (KeepX.set (X := fun y => y = P) hk (p := ⟨P, 1, none⟩) rfl _) (hb.setCell (p := ⟨P, 1, none⟩) HY.out.1.1 _) ⟨s, false, hn0.right false, hs, fun l hl => (by cases hl), fun _ => rfl⟩, KeepX.set (X := fun y => y = P) hk (p := ⟨P, 1, none⟩) rfl _, hb.setCell (p := ⟨P, 1, none⟩) HY.out.1.1 _⟩
    go_enter Try.func37, Try.ntmps37
    go_wp2_with fail
    refine HT.out.mono ?_
    rintro e w1 ⟨rfl, b1⟩
    have HN1 := Lib.hid ((show NP P w s r from ⟨⟨c1, c2⟩, ⟨d1, d2⟩, hP⟩).keep (X := fun _ => False) (KeepX.of b1) id)
    have HB1 := Lib.hid b1
    clear c1 c2 d1 d2 hP b1
    obtain ⟨⟨c1, c2⟩, ⟨d1, d2⟩, hP⟩ := HN1.out
    go_wp2
    go_ret
    have hf := hfin.out _ HN1.out (KeepX.of HB1.out) (HB1.out.mono (by have := H0.out.2.2.2.2.2.2.2; omega))
    exact ⟨[], rfl, by simp, hf.1, fun p hp => (by rw [hno.out] at hp; cases hp), hf.2.1, hf.2.2⟩
end Go.Proofs.Ythmkalnbdocdcaa
