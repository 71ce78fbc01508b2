/-
  Layer 9 (block), contracts of the closures by which the code reads entries off bytes: number, text, next. Conditions: at most 2^24 bytes are left.
-/
import Derived.Test.YtobhjmkaamjoeaaGreatKq
import Derived.Test.YtobhjmkaamjoeaaGreatQm
import Derived.Lib.MinMax
namespace Go.Proofs.YtobhjmkaamjoeaaGreat
set_option maxRecDepth 100000
open Go.RowKit
set_option linter.unusedVariables false
set_option linter.unusedSimpArgs false

/-- All blocks but some are as they were. -/
def KeepX (X : Nat → Prop) (w w' : World) : Prop := (∀ y, y < w.heap.size → ¬ X y → w'.heap[y]? = w.heap[y]?) ∧ w.heap.size ≤ w'.heap.size
theorem KeepX.refl (X : Nat → Prop) (w : World) : KeepX X w w := ⟨fun _ _ _ => rfl, Nat.le_refl _⟩
theorem KeepX.trans {X : Nat → Prop} {w w' w'' : World} (h : KeepX X w w') (k : KeepX X w' w'') : KeepX X w w'' :=
  ⟨fun y hy hx => (k.1 y (Nat.lt_of_lt_of_le hy h.2) hx).trans (h.1 y hy hx), Nat.le_trans h.2 k.2⟩
theorem KeepX.of {X : Nat → Prop} {w w' : World} (h : Below w.heap.size w w') : KeepX X w w' := ⟨fun y hy _ => h.block y hy, h.size⟩
theorem KeepX.drew {X : Nat → Prop} {w w' : World} (h : KeepX X w w') : KeepX X w w'.drew := h
theorem KeepX.set {X : Nat → Prop} {w w' : World} (h : KeepX X w w') {p : Addr} (hp : X p.block) (v : Value) : KeepX X w (w'.setCell p v) :=
  ⟨fun y hy hx => by rw [Below.heap_setCell _ _ _ _ (fun e => hx (by rw [e]; exact hp))]; exact h.1 y hy hx, by simpa using h.2⟩
theorem KeepX.weaken {X Y : Nat → Prop} {w w' : World} (h : KeepX X w w') (hXY : ∀ y, y < w.heap.size → X y → Y y) : KeepX Y w w' := ⟨fun y hy hn => h.1 y hy (fun hx => hn (hXY y hy hx)), h.2⟩
theorem cell_heap {w w' : World} {y : Nat} (h : w'.heap[y]? = w.heap[y]?) (i : Nat) : w'.cell? ⟨y, i, none⟩ = w.cell? ⟨y, i, none⟩ ∧ w'.frozen? ⟨y, i, none⟩ = w.frozen? ⟨y, i, none⟩ := by
  unfold World.cell? World.frozen?
  simp only [h, and_self]
theorem KeepX.cell {X : Nat → Prop} {w w' : World} (h : KeepX X w w') {y : Nat} (hy : y < w.heap.size) (hx : ¬ X y) (i : Nat) : w'.cell? ⟨y, i, none⟩ = w.cell? ⟨y, i, none⟩ ∧ w'.frozen? ⟨y, i, none⟩ = w.frozen? ⟨y, i, none⟩ :=
  cell_heap (h.1 y hy hx) i
/-- What is left of the bytes, and whether all was right, each in a box. -/
def NS (S R : Nat) (w : World) (s : ByteArray) (r : Bool) : Prop :=
  (w.cell? ⟨S, 0, none⟩ = some (.string s) ∧ w.frozen? ⟨S, 0, none⟩ = false ∧ S < w.heap.size) ∧ (w.cell? ⟨R, 0, none⟩ = some (.bool r) ∧ w.frozen? ⟨R, 0, none⟩ = false ∧ R < w.heap.size)
theorem NS.keep {S R : Nat} {w w' : World} {s : ByteArray} {r : Bool} {X : Nat → Prop} (h : NS S R w s r) (hk : KeepX X w w') (hS : ¬ X S) (hR : ¬ X R) : NS S R w' s r := by
  obtain ⟨⟨a, b, c⟩, ⟨d, e, f⟩⟩ := h
  have h1 := hk.cell c hS 0
  have h2 := hk.cell f hR 0
  exact ⟨⟨h1.1.trans a, h1.2.trans b, Nat.lt_of_lt_of_le c hk.2⟩, ⟨h2.1.trans d, h2.2.trans e, Nat.lt_of_lt_of_le f hk.2⟩⟩
theorem NS.old {S R : Nat} {w w' : World} {s : ByteArray} {r : Bool} (h : NS S R w s r) (hb : Below w.heap.size w w') : NS S R w' s r := h.keep (X := fun _ => False) (KeepX.of hb) id id
theorem NS.right {S R : Nat} {w : World} {s : ByteArray} {r : Bool} (h : NS S R w s r) (hne : S ≠ R) (r' : Bool) : NS S R (w.setCell ⟨R, 0, none⟩ (.bool r')) s r' := by
  obtain ⟨⟨a, b, c⟩, ⟨d, e, f⟩⟩ := h
  refine ⟨⟨?_, ?_, by simpa using c⟩, ⟨World.cell?_setCell_same' _ _ _ (by rw [d]; rfl), by rw [World.frozen?_setCell]; exact e, by simpa using f⟩⟩
  · rw [World.cell?_setCell_other _ _ _ _ (by intro h; simp only [Addr.mk.injEq] at h; omega)]; exact a
  · rw [World.frozen?_setCell]; exact b
theorem NS.left {S R : Nat} {w : World} {s : ByteArray} {r : Bool} (h : NS S R w s r) (hne : S ≠ R) (s' : ByteArray) : NS S R (w.setCell ⟨S, 0, none⟩ (.string s')) s' r := by
  obtain ⟨⟨a, b, c⟩, ⟨d, e, f⟩⟩ := h
  refine ⟨⟨World.cell?_setCell_same' _ _ _ (by rw [a]; rfl), by rw [World.frozen?_setCell]; exact b, by simpa using c⟩, ⟨?_, ?_, by simpa using f⟩⟩
  · rw [World.cell?_setCell_other _ _ _ _ (by intro h; simp only [Addr.mk.injEq] at h; omega)]; exact d
  · rw [World.frozen?_setCell]; exact e
def SR (S R y : Nat) : Prop := y = S ∨ y = R
set_option maxHeartbeats 2000000 in
theorem rnum1_any (B S R : Nat) (hne : S ≠ R) (hBS : B ≤ S) (hBR : B ≤ R) (w : World) (hBw : B ≤ w.heap.size) (s : ByteArray) (hs : s.size ≤ 16777216) (r : Bool) (h : NS S R w s r) (n a x : Nat) (ht : tk s.data.toList 0 0 = (n, a, x)) :
    Calls Tryz.prog 108 #[.pointer (some ⟨S, 0, none⟩), .pointer (some ⟨R, 0, none⟩)] w fun e w' =>
      e = .returned (.int .i64 (n : Nat)) ∧ NS S R w' (s.extract a s.size) (r && decide (x = 0)) ∧ KeepX (SR S R) w w' ∧ Below B w w' := by
  have hT := take_code s w (by omega)
  rw [ht] at hT
  simp only at hT
  have hle := (tk_le ht).1
  rw [size_list] at hle
  have HT := Lib.hid hT
  have H := Lib.hid h
  have hai : (a : Int) ≤ (s.size : Int) := by omega
  have a0 : (0 : Int) ≤ (a : Int) := by omega
  obtain ⟨⟨c1, c2, c3⟩, ⟨d1, d2, d3⟩⟩ := h
  clear ht hT
  by_cases hx : x = 0
  · subst hx
    cases r
    all_goals
      go_enter Tryz.func108, Tryz.ntmps108
      go_wp2_with fail
      refine HT.out.mono ?_
      rintro e w1 ⟨rfl, rfl⟩
      have HE : Hid (∀ r', NS S R ((w.setCell ⟨R, 0, none⟩ (.bool r')).setCell ⟨S, 0, none⟩ (.string (s.extract a s.size))) (s.extract a s.size) r') := Lib.hid fun r' => (H.out.right hne r').left hne _
      have HK : Hid (KeepX (SR S R) w w ∧ Below B w w) := Lib.hid ⟨KeepX.refl _ w, Below.refl B w⟩
      go_wp2
      go_ret
      refine ⟨rfl, ?_, (HK.out.1.set (Or.inr rfl) _).set (Or.inl rfl) _, (HK.out.2.setCell (p := ⟨R, 0, none⟩) hBR _).setCell (p := ⟨S, 0, none⟩) hBS _⟩
      first | exact HE.out _ | (simpa using HE.out _)
  · have hxi : ¬ (x : Int) = 0 := by omega
    have hxb : ((x : Int) == 0) = false := by simpa using hx
    have hd : decide (x = 0) = false := by simpa using hx
    rw [hd]
    clear hd
    cases r
    all_goals
      go_enter Tryz.func108, Tryz.ntmps108
      go_wp2_with fail
      refine HT.out.mono ?_
      rintro e w1 ⟨rfl, rfl⟩
      have HE : Hid (∀ r', NS S R ((w.setCell ⟨R, 0, none⟩ (.bool r')).setCell ⟨S, 0, none⟩ (.string (s.extract a s.size))) (s.extract a s.size) r') := Lib.hid fun r' => (H.out.right hne r').left hne _
      have HK : Hid (KeepX (SR S R) w w ∧ Below B w w) := Lib.hid ⟨KeepX.refl _ w, Below.refl B w⟩
      go_wp2
      go_ret
      refine ⟨rfl, ?_, (HK.out.1.set (Or.inr rfl) _).set (Or.inl rfl) _, (HK.out.2.setCell (p := ⟨R, 0, none⟩) hBR _).setCell (p := ⟨S, 0, none⟩) hBS _⟩
      first | exact HE.out _ | (simpa using HE.out _)
set_option maxHeartbeats 2000000 in
theorem rtext1_any (B S R : Nat) (hne : S ≠ R) (hBS : B ≤ S) (hBR : B ≤ R) (w : World) (hBw : B ≤ w.heap.size) (s : ByteArray) (hs : s.size ≤ 16777216) (r : Bool) (h : NS S R w s r) (t : List UInt8) (a x : Nat) (ht : ttR s.data.toList = (t, a, x)) :
    Calls Tryz.prog 109 #[.pointer (some ⟨S, 0, none⟩), .pointer (some ⟨R, 0, none⟩)] w fun e w' =>
      e = .returned (.string ⟨t.toArray⟩) ∧ NS S R w' (s.extract a s.size) (r && decide (x = 0)) ∧ KeepX (SR S R) w w' ∧ Below B w w' := by
  have hT := taketext_code s w (by omega)
  unfold TT at hT
  rw [ht] at hT
  simp only at hT
  have hle := (ttR_le ht).1
  rw [size_list] at hle
  have HT := Lib.hid hT
  have H := Lib.hid h
  have hai : (a : Int) ≤ (s.size : Int) := by omega
  have a0 : (0 : Int) ≤ (a : Int) := by omega
  obtain ⟨⟨c1, c2, c3⟩, ⟨d1, d2, d3⟩⟩ := h
  clear ht hT
  by_cases hx : x = 0
  · subst hx
    cases r
    all_goals
      go_enter Tryz.func109, Tryz.ntmps109
      go_wp2_with fail
      refine HT.out.mono ?_
      rintro e w1 ⟨rfl, b1⟩
      have H1 := Lib.hid (H.out.old b1)
      have HE : Hid (∀ r', NS S R ((w1.setCell ⟨R, 0, none⟩ (.bool r')).setCell ⟨S, 0, none⟩ (.string (s.extract a s.size))) (s.extract a s.size) r') := Lib.hid fun r' => (H1.out.right hne r').left hne _
      have HK : Hid (KeepX (SR S R) w w1 ∧ Below B w w1) := Lib.hid ⟨KeepX.of b1, b1.mono hBw⟩
      clear c1 c2 c3 d1 d2 d3 b1
      obtain ⟨⟨c1, c2, c3⟩, ⟨d1, d2, d3⟩⟩ := H1.out
      go_wp2
      go_ret
      refine ⟨rfl, ?_, (HK.out.1.set (Or.inr rfl) _).set (Or.inl rfl) _, (HK.out.2.setCell (p := ⟨R, 0, none⟩) hBR _).setCell (p := ⟨S, 0, none⟩) hBS _⟩
      first | exact HE.out _ | (simpa using HE.out _)
  · have hxi : ¬ (x : Int) = 0 := by omega
    have hxb : ((x : Int) == 0) = false := by simpa using hx
    have hd : decide (x = 0) = false := by simpa using hx
    rw [hd]
    clear hd
    cases r
    all_goals
      go_enter Tryz.func109, Tryz.ntmps109
      go_wp2_with fail
      refine HT.out.mono ?_
      rintro e w1 ⟨rfl, b1⟩
      have H1 := Lib.hid (H.out.old b1)
      have HE : Hid (∀ r', NS S R ((w1.setCell ⟨R, 0, none⟩ (.bool r')).setCell ⟨S, 0, none⟩ (.string (s.extract a s.size))) (s.extract a s.size) r') := Lib.hid fun r' => (H1.out.right hne r').left hne _
      have HK : Hid (KeepX (SR S R) w w1 ∧ Below B w w1) := Lib.hid ⟨KeepX.of b1, b1.mono hBw⟩
      clear c1 c2 c3 d1 d2 d3 b1
      obtain ⟨⟨c1, c2, c3⟩, ⟨d1, d2, d3⟩⟩ := H1.out
      go_wp2
      go_ret
      refine ⟨rfl, ?_, (HK.out.1.set (Or.inr rfl) _).set (Or.inl rfl) _, (HK.out.2.setCell (p := ⟨R, 0, none⟩) hBR _).setCell (p := ⟨S, 0, none⟩) hBS _⟩
      first | exact HE.out _ | (simpa using HE.out _)
end Go.Proofs.YtobhjmkaamjoeaaGreat
