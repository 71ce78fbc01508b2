/-
  Texts of mine as one, in the order in which they build: Yi, Yj, Yk, Yl, Ym. Conditions: as each says.
-/
import Derived.Test.YtkpemlgolpihiaaRB
import Derived.Test.YtkpemlgolpihiaaQm
import Derived.Lib.MinMax
import Derived.Laws.EntriesVeiled
import Derived.Deep.RegionHeld3
import Derived.Deep.DeepCutAuto
namespace Go.Proofs.Ytkpemlgolpihiaa
set_option maxRecDepth 100000
open Go.RowKit
set_option linter.unusedVariables false
set_option linter.unusedSimpArgs false

theorem tk_le {l : List UInt8} {n a x : Nat} (h : tk l 0 0 = (n, a, x)) : a ≤ l.length ∧ n ≤ 4611686018427387904 := by
  by_cases hx : x = 0
  · subst hx
    obtain ⟨_, h1, h2, _, _, h5, _⟩ := tk_back l 0 0 _ _ h
    omega
  · have h1 := tk_err l 0 0 (by rw [h]; exact hx)
    rw [h] at h1
    simp only at h1
    omega
theorem ttR_le {l t : List UInt8} {b x : Nat} (h : ttR l = (t, b, x)) : b ≤ l.length ∧ t.length ≤ b := by
  rcases tk_cases l with h1 | ⟨n, k, h1, h2, h3, h4⟩
  · have : ttR l = ([], 0, (tk l 0 0).2.2) := ttR_err rfl (by rcases h1 with h1 | h1 <;> rw [h1] <;> decide)
    rw [h] at this
    simp only [Prod.mk.injEq] at this
    obtain ⟨rfl, rfl, _⟩ := this
    simp
  · by_cases c1 : 262144 < n
    · rw [ttR_big h1 c1] at h
      simp only [Prod.mk.injEq] at h
      obtain ⟨rfl, rfl, _⟩ := h
      simp
    · by_cases c2 : l.length < k + n
      · rw [ttR_short h1 (by omega) c2] at h
        simp only [Prod.mk.injEq] at h
        obtain ⟨rfl, rfl, _⟩ := h
        simp
      · rw [ttR_ok h1 (by omega) (by omega)] at h
        simp only [Prod.mk.injEq] at h
        obtain ⟨rfl, rfl, _⟩ := h
        rw [List.length_take, List.length_drop]
        omega
theorem rest_bytes (X : ByteArray) (n : Nat) : (X.extract n X.size).data.toList = X.data.toList.drop n := by
  rw [Lib.extract_data, List.take_of_length_le]
  rw [Lib.size_eq, List.length_drop]
  exact Nat.le_refl _
/-- All blocks but some are as they were. -/
def KeepX (X : Nat → Prop) (w w' : World) : Prop := (∀ y, y < w.heap.size → ¬ X y → w'.heap[y]? = w.heap[y]?) ∧ w.heap.size ≤ w'.heap.size
theorem KeepX.refl (X : Nat → Prop) (w : World) : KeepX X w w := ⟨fun _ _ _ => rfl, Nat.le_refl _⟩
theorem KeepX.trans {X : Nat → Prop} {w w' w'' : World} (h : KeepX X w w') (k : KeepX X w' w'') : KeepX X w w'' :=
  ⟨fun y hy hx => (k.1 y (Nat.lt_of_lt_of_le hy h.2) hx).trans (h.1 y hy hx), Nat.le_trans h.2 k.2⟩
theorem KeepX.of {X : Nat → Prop} {w w' : World} (h : Below w.heap.size w w') : KeepX X w w' := ⟨fun y hy _ => h.block y hy, h.size⟩
theorem KeepX.drew {X : Nat → Prop} {w w' : World} (h : KeepX X w w') : KeepX X w w'.drew := h
theorem KeepX.set {X : Nat → Prop} {w w' : World} (h : KeepX X w w') {p : Addr} (hp : X p.block) (v : Value) : KeepX X w (w'.setCell p v) :=
  ⟨fun y hy hx => by rw [Below.heap_setCell _ _ _ _ (fun e => hx (by rw [e]; exact hp))]; exact h.1 y hy hx, by simpa using h.2⟩
theorem KeepX.weaken {X Y : Nat → Prop} {w w' : World} (h : KeepX X w w') (hXY : ∀ y, y < w.heap.size → X y → Y y) : KeepX Y w w' := ⟨fun y hy hn => h.1 y hy (fun hx => hn (hXY y hy hx)), h.2⟩
theorem cell_heap {w w' : World} {y : Nat} (h : w'.heap[y]? = w.heap[y]?) (i : Nat) : w'.cell? ⟨y, i, none⟩ = w.cell? ⟨y, i, none⟩ ∧ w'.frozen? ⟨y, i, none⟩ = w.frozen? ⟨y, i, none⟩ := by
  unfold World.cell? World.frozen?
  simp only [h, and_self]
theorem KeepX.cell {X : Nat → Prop} {w w' : World} (h : KeepX X w w') {y : Nat} (hy : y < w.heap.size) (hx : ¬ X y) (i : Nat) : w'.cell? ⟨y, i, none⟩ = w.cell? ⟨y, i, none⟩ ∧ w'.frozen? ⟨y, i, none⟩ = w.frozen? ⟨y, i, none⟩ :=
  cell_heap (h.1 y hy hx) i
/-- What is left of the bytes, and whether all was right, each in a box. -/
def NS (S R : Nat) (w : World) (s : ByteArray) (r : Bool) : Prop :=
  (w.cell? ⟨S, 0, none⟩ = some (.string s) ∧ w.frozen? ⟨S, 0, none⟩ = false ∧ S < w.heap.size) ∧ (w.cell? ⟨R, 0, none⟩ = some (.bool r) ∧ w.frozen? ⟨R, 0, none⟩ = false ∧ R < w.heap.size)
theorem NS.keep {S R : Nat} {w w' : World} {s : ByteArray} {r : Bool} {X : Nat → Prop} (h : NS S R w s r) (hk : KeepX X w w') (hS : ¬ X S) (hR : ¬ X R) : NS S R w' s r := by
  obtain ⟨⟨a, b, c⟩, ⟨d, e, f⟩⟩ := h
  have h1 := hk.cell c hS 0
  have h2 := hk.cell f hR 0
  exact ⟨⟨h1.1.trans a, h1.2.trans b, Nat.lt_of_lt_of_le c hk.2⟩, ⟨h2.1.trans d, h2.2.trans e, Nat.lt_of_lt_of_le f hk.2⟩⟩
theorem NS.old {S R : Nat} {w w' : World} {s : ByteArray} {r : Bool} (h : NS S R w s r) (hb : Below w.heap.size w w') : NS S R w' s r := h.keep (X := fun _ => False) (KeepX.of hb) id id
theorem NS.right {S R : Nat} {w : World} {s : ByteArray} {r : Bool} (h : NS S R w s r) (hne : S ≠ R) (r' : Bool) : NS S R (w.setCell ⟨R, 0, none⟩ (.bool r')) s r' := by
  obtain ⟨⟨a, b, c⟩, ⟨d, e, f⟩⟩ := h
  refine ⟨⟨?_, ?_, by simpa using c⟩, ⟨World.cell?_setCell_same' _ _ _ (by rw [d]; rfl), by rw [World.frozen?_setCell]; exact e, by simpa using f⟩⟩
  · rw [World.cell?_setCell_other _ _ _ _ (by intro h; simp only [Addr.mk.injEq] at h; omega)]; exact a
  · rw [World.frozen?_setCell]; exact b
theorem NS.left {S R : Nat} {w : World} {s : ByteArray} {r : Bool} (h : NS S R w s r) (hne : S ≠ R) (s' : ByteArray) : NS S R (w.setCell ⟨S, 0, none⟩ (.string s')) s' r := by
  obtain ⟨⟨a, b, c⟩, ⟨d, e, f⟩⟩ := h
  refine ⟨⟨World.cell?_setCell_same' _ _ _ (by rw [a]; rfl), by rw [World.frozen?_setCell]; exact b, by simpa using c⟩, ⟨?_, ?_, by simpa using f⟩⟩
  · rw [World.cell?_setCell_other _ _ _ _ (by intro h; simp only [Addr.mk.injEq] at h; omega)]; exact d
  · rw [World.frozen?_setCell]; exact e
def SR (S R y : Nat) : Prop := y = S ∨ y = R
set_option maxHeartbeats 2000000 in
theorem rnum1_any (B S R : Nat) (hne : S ≠ R) (hBS : B ≤ S) (hBR : B ≤ R) (w : World) (hBw : B ≤ w.heap.size) (s : ByteArray) (hs : s.size ≤ 16777216) (r : Bool) (h : NS S R w s r) (n a x : Nat) (ht : tk s.data.toList 0 0 = (n, a, x)) :
    Calls Try.prog 55 #[.pointer (some ⟨S, 0, none⟩), .pointer (some ⟨R, 0, none⟩)] w fun e w' =>
      e = .returned (.int .i64 (n : Nat)) ∧ NS S R w' (s.extract a s.size) (r && decide (x = 0)) ∧ KeepX (SR S R) w w' ∧ Below B w w' := by
  have hT := take_code s w (by omega)
  rw [ht] at hT
  simp only at hT
  have hle := (tk_le ht).1
  rw [size_list] at hle
  have HT := Lib.hid hT
  have H := Lib.hid h
  have hai : (a : Int) ≤ (s.size : Int) := by omega
  have a0 : (0 : Int) ≤ (a : Int) := by omega
  obtain ⟨⟨c1, c2, c3⟩, ⟨d1, d2, d3⟩⟩ := h
  clear ht hT
  by_cases hx : x = 0
  · subst hx
    cases r
    all_goals
      go_enter Try.func55, Try.ntmps55
      go_wp2_with fail
      refine HT.out.mono ?_
      rintro e w1 ⟨rfl, rfl⟩
      have HE : Hid (∀ r', NS S R ((w.setCell ⟨R, 0, none⟩ (.bool r')).setCell ⟨S, 0, none⟩ (.string (s.extract a s.size))) (s.extract a s.size) r') := Lib.hid fun r' => (H.out.right hne r').left hne _
      have HK : Hid (KeepX (SR S R) w w ∧ Below B w w) := Lib.hid ⟨KeepX.refl _ w, Below.refl B w⟩
      go_wp2
      go_ret
      refine ⟨rfl, ?_, (HK.out.1.set (Or.inr rfl) _).set (Or.inl rfl) _, (HK.out.2.setCell (p := ⟨R, 0, none⟩) hBR _).setCell (p := ⟨S, 0, none⟩) hBS _⟩
      first | exact HE.out _ | (simpa using HE.out _)
  · have hxi : ¬ (x : Int) = 0 := by omega
    have hxb : ((x : Int) == 0) = false := by simpa using hx
    have hd : decide (x = 0) = false := by simpa using hx
    rw [hd]
    clear hd
    cases r
    all_goals
      go_enter Try.func55, Try.ntmps55
      go_wp2_with fail
      refine HT.out.mono ?_
      rintro e w1 ⟨rfl, rfl⟩
      have HE : Hid (∀ r', NS S R ((w.setCell ⟨R, 0, none⟩ (.bool r')).setCell ⟨S, 0, none⟩ (.string (s.extract a s.size))) (s.extract a s.size) r') := Lib.hid fun r' => (H.out.right hne r').left hne _
      have HK : Hid (KeepX (SR S R) w w ∧ Below B w w) := Lib.hid ⟨KeepX.refl _ w, Below.refl B w⟩
      go_wp2
      go_ret
      refine ⟨rfl, ?_, (HK.out.1.set (Or.inr rfl) _).set (Or.inl rfl) _, (HK.out.2.setCell (p := ⟨R, 0, none⟩) hBR _).setCell (p := ⟨S, 0, none⟩) hBS _⟩
      first | exact HE.out _ | (simpa using HE.out _)
set_option maxHeartbeats 2000000 in
theorem rtext1_any (B S R : Nat) (hne : S ≠ R) (hBS : B ≤ S) (hBR : B ≤ R) (w : World) (hBw : B ≤ w.heap.size) (s : ByteArray) (hs : s.size ≤ 16777216) (r : Bool) (h : NS S R w s r) (t : List UInt8) (a x : Nat) (ht : ttR s.data.toList = (t, a, x)) :
    Calls Try.prog 57 #[.pointer (some ⟨S, 0, none⟩), .pointer (some ⟨R, 0, none⟩)] w fun e w' =>
      e = .returned (.string ⟨t.toArray⟩) ∧ NS S R w' (s.extract a s.size) (r && decide (x = 0)) ∧ KeepX (SR S R) w w' ∧ Below B w w' := by
  have hT := taketext_code s w (by omega)
  unfold TT at hT
  rw [ht] at hT
  simp only at hT
  have hle := (ttR_le ht).1
  rw [size_list] at hle
  have HT := Lib.hid hT
  have H := Lib.hid h
  have hai : (a : Int) ≤ (s.size : Int) := by omega
  have a0 : (0 : Int) ≤ (a : Int) := by omega
  obtain ⟨⟨c1, c2, c3⟩, ⟨d1, d2, d3⟩⟩ := h
  clear ht hT
  by_cases hx : x = 0
  · subst hx
    cases r
    all_goals
      go_enter Try.func57, Try.ntmps57
      go_wp2_with fail
      refine HT.out.mono ?_
      rintro e w1 ⟨rfl, b1⟩
      have H1 := Lib.hid (H.out.old b1)
      have HE : Hid (∀ r', NS S R ((w1.setCell ⟨R, 0, none⟩ (.bool r')).setCell ⟨S, 0, none⟩ (.string (s.extract a s.size))) (s.extract a s.size) r') := Lib.hid fun r' => (H1.out.right hne r').left hne _
      have HK : Hid (KeepX (SR S R) w w1 ∧ Below B w w1) := Lib.hid ⟨KeepX.of b1, b1.mono hBw⟩
      clear c1 c2 c3 d1 d2 d3 b1
      obtain ⟨⟨c1, c2, c3⟩, ⟨d1, d2, d3⟩⟩ := H1.out
      go_wp2
      go_ret
      refine ⟨rfl, ?_, (HK.out.1.set (Or.inr rfl) _).set (Or.inl rfl) _, (HK.out.2.setCell (p := ⟨R, 0, none⟩) hBR _).setCell (p := ⟨S, 0, none⟩) hBS _⟩
      first | exact HE.out _ | (simpa using HE.out _)
  · have hxi : ¬ (x : Int) = 0 := by omega
    have hxb : ((x : Int) == 0) = false := by simpa using hx
    have hd : decide (x = 0) = false := by simpa using hx
    rw [hd]
    clear hd
    cases r
    all_goals
      go_enter Try.func57, Try.ntmps57
      go_wp2_with fail
      refine HT.out.mono ?_
      rintro e w1 ⟨rfl, b1⟩
      have H1 := Lib.hid (H.out.old b1)
      have HE : Hid (∀ r', NS S R ((w1.setCell ⟨R, 0, none⟩ (.bool r')).setCell ⟨S, 0, none⟩ (.string (s.extract a s.size))) (s.extract a s.size) r') := Lib.hid fun r' => (H1.out.right hne r').left hne _
      have HK : Hid (KeepX (SR S R) w w1 ∧ Below B w w1) := Lib.hid ⟨KeepX.of b1, b1.mono hBw⟩
      clear c1 c2 c3 d1 d2 d3 b1
      obtain ⟨⟨c1, c2, c3⟩, ⟨d1, d2, d3⟩⟩ := H1.out
      go_wp2
      go_ret
      refine ⟨rfl, ?_, (HK.out.1.set (Or.inr rfl) _).set (Or.inl rfl) _, (HK.out.2.setCell (p := ⟨R, 0, none⟩) hBR _).setCell (p := ⟨S, 0, none⟩) hBS _⟩
      first | exact HE.out _ | (simpa using HE.out _)

/-- The boxes in which the two closures lie. -/
def FS (F1 F2 S R : Nat) (w : World) : Prop :=
  w.cell? ⟨F1, 0, none⟩ = some (.func (.func 55) #[] #[.pointer (some ⟨S, 0, none⟩), .pointer (some ⟨R, 0, none⟩)]) ∧
  w.cell? ⟨F2, 0, none⟩ = some (.func (.func 57) #[] #[.pointer (some ⟨S, 0, none⟩), .pointer (some ⟨R, 0, none⟩)]) ∧ F1 < w.heap.size ∧ F2 < w.heap.size
theorem FS.keep {F1 F2 S R : Nat} {w w' : World} {X : Nat → Prop} (h : FS F1 F2 S R w) (hk : KeepX X w w') (h1 : ¬ X F1) (h2 : ¬ X F2) : FS F1 F2 S R w' :=
  ⟨(hk.cell h.2.2.1 h1 0).1.trans h.1, (hk.cell h.2.2.2 h2 0).1.trans h.2.1, Nat.lt_of_lt_of_le h.2.2.1 hk.2, Nat.lt_of_lt_of_le h.2.2.2 hk.2⟩
/-- A box of an edit that may be written. -/
def EdFree (w : World) (x : Nat) : Prop := w.frozen? ⟨x, 0, none⟩ = false ∧ w.frozen? ⟨x, 1, none⟩ = false ∧ w.frozen? ⟨x, 2, none⟩ = false ∧ w.frozen? ⟨x, 3, none⟩ = false
def EdW (w : World) (x : Nat) (A D : Value) (lg nx : Int) : Prop := EdBox w x A D lg nx ∧ EdFree w x
theorem EdW.keep {w w' : World} {x : Nat} {A D : Value} {lg nx : Int} {X : Nat → Prop} (h : EdW w x A D lg nx) (hk : KeepX X w w') (hx : ¬ X x) : EdW w' x A D lg nx := by
  obtain ⟨⟨h1, h2, h3, h4, h5⟩, f1, f2, f3, f4⟩ := h
  exact ⟨⟨(hk.cell h5 hx 0).1.trans h1, (hk.cell h5 hx 1).1.trans h2, (hk.cell h5 hx 2).1.trans h3, (hk.cell h5 hx 3).1.trans h4, Nat.lt_of_lt_of_le h5 hk.2⟩, (hk.cell h5 hx 0).2.trans f1, (hk.cell h5 hx 1).2.trans f2, (hk.cell h5 hx 2).2.trans f3, (hk.cell h5 hx 3).2.trans f4⟩
theorem EdW.new (w : World) (T : TypeId) (A D : Value) (lg nx : Int) : EdW (w.alloc (.cells #[A, D, .int .i64 lg, .int .i64 nx] T)) w.heap.size A D lg nx := ⟨EdBox.new w T A D lg nx, by simp, by simp, by simp, by simp⟩
theorem EdW.set0 {w : World} {x : Nat} {A D : Value} {lg nx : Int} (h : EdW w x A D lg nx) (A' : Value) : EdW (w.setCell ⟨x, 0, none⟩ A') x A' D lg nx := by
  obtain ⟨⟨h1, h2, h3, h4, h5⟩, f1, f2, f3, f4⟩ := h
  refine ⟨⟨World.cell?_setCell_same' _ _ _ (by rw [h1]; rfl), ?_, ?_, ?_, by simpa using h5⟩, ?_, ?_, ?_, ?_⟩
  all_goals first | (rw [World.cell?_setCell_other _ _ _ _ (by intro e; simp at e)]; assumption) | (rw [World.frozen?_setCell]; assumption)
theorem EdW.set1 {w : World} {x : Nat} {A D : Value} {lg nx : Int} (h : EdW w x A D lg nx) (D' : Value) : EdW (w.setCell ⟨x, 1, none⟩ D') x A D' lg nx := by
  obtain ⟨⟨h1, h2, h3, h4, h5⟩, f1, f2, f3, f4⟩ := h
  refine ⟨⟨?_, World.cell?_setCell_same' _ _ _ (by rw [h2]; rfl), ?_, ?_, by simpa using h5⟩, ?_, ?_, ?_, ?_⟩
  all_goals first | (rw [World.cell?_setCell_other _ _ _ _ (by intro e; simp at e)]; assumption) | (rw [World.frozen?_setCell]; assumption)
theorem EdW.set2 {w : World} {x : Nat} {A D : Value} {lg nx : Int} (h : EdW w x A D lg nx) (z : Int) : EdW (w.setCell ⟨x, 2, none⟩ (.int .i64 z)) x A D z nx := by
  obtain ⟨⟨h1, h2, h3, h4, h5⟩, f1, f2, f3, f4⟩ := h
  refine ⟨⟨?_, ?_, World.cell?_setCell_same' _ _ _ (by rw [h3]; rfl), ?_, by simpa using h5⟩, ?_, ?_, ?_, ?_⟩
  all_goals first | (rw [World.cell?_setCell_other _ _ _ _ (by intro e; simp at e)]; assumption) | (rw [World.frozen?_setCell]; assumption)
theorem EdW.set3 {w : World} {x : Nat} {A D : Value} {lg nx : Int} (h : EdW w x A D lg nx) (z : Int) : EdW (w.setCell ⟨x, 3, none⟩ (.int .i64 z)) x A D lg z := by
  obtain ⟨⟨h1, h2, h3, h4, h5⟩, f1, f2, f3, f4⟩ := h
  refine ⟨⟨?_, ?_, ?_, World.cell?_setCell_same' _ _ _ (by rw [h4]; rfl), by simpa using h5⟩, ?_, ?_, ?_, ?_⟩
  all_goals first | (rw [World.cell?_setCell_other _ _ _ _ (by intro e; simp at e)]; assumption) | (rw [World.frozen?_setCell]; assumption)
theorem own_keep {w w' : World} {base t sz n : Nat} {v : Value} {xs : List Value} (h : w.ownsRow base t sz v n xs) (hb : ∀ g, base ≤ g → g < w.heap.size → w'.heap[g]? = w.heap[g]?) : w'.ownsRow base t sz v n xs := by
  rcases h.2 with h2 | ⟨g, cap, cur, hv, hbg, hh, h3⟩
  · exact ⟨h.1, .inl h2⟩
  · exact ⟨h.1, .inr ⟨g, cap, cur, hv, hbg, (hb g hbg (heap_lt hh)).trans hh, h3⟩⟩
/-- The bytes that are left, if all was right till now. -/
def RS (S R : Nat) (w : World) (o : Option (List UInt8)) : Prop := ∃ s r, NS S R w s r ∧ s.size ≤ 16777216 ∧ (∀ l, o = some l → r = true ∧ s.data.toList = l) ∧ (o = none → r = false)
/-- How the boxes lie. -/
def LY (B0 B S R F1 F2 E E0 : Nat) : Prop := (B0 ≤ S ∧ B0 ≤ R ∧ B0 ≤ F1 ∧ B0 ≤ F2 ∧ B0 ≤ E ∧ B0 ≤ E0) ∧ (S < B ∧ R < B ∧ F1 < B ∧ F2 < B ∧ E < B ∧ E0 < B) ∧ (S ≠ R ∧ S ≠ F1 ∧ S ≠ F2 ∧ S ≠ E ∧ S ≠ E0) ∧ (R ≠ F1 ∧ R ≠ F2 ∧ R ≠ E ∧ R ≠ E0) ∧ (F1 ≠ E ∧ F1 ≠ E0 ∧ F2 ≠ E ∧ F2 ≠ E0 ∧ E ≠ E0)
/-- All that lies in memory while an edit is read. -/
def RW (B0 B S R F1 F2 E E0 : Nat) (wb : World) (o : Option (List UInt8)) (A D : Value) (ts : List Tb) (zs : List Int) (lg nx : Int) (w : World) : Prop :=
  RS S R w o ∧ FS F1 F2 S R w ∧ EdW w E A D lg nx ∧ EdW w E0 (.slice none 0 0) (.slice none 0 0) 0 0 ∧ w.ownsRow B 49 4 A ts.length (tv4 ts) ∧ w.ownsRow B 3 1 D zs.length (iv zs) ∧ okT ts ∧ Below B0 wb w ∧ B ≤ w.heap.size ∧ B0 ≤ B
theorem RW.keep {B0 B S R F1 F2 E E0 : Nat} {wb w w' : World} {o o' : Option (List UInt8)} {A D : Value} {ts : List Tb} {zs : List Int} {lg nx : Int} (hy : LY B0 B S R F1 F2 E E0) (h : RW B0 B S R F1 F2 E E0 wb o A D ts zs lg nx w) (hk : KeepX (SR S R) w w') (hb : Below B0 w w') (hr : RS S R w' o') :
    RW B0 B S R F1 F2 E E0 wb o' A D ts zs lg nx w' := by
  obtain ⟨-, y1, y2, y3, y4⟩ := hy
  obtain ⟨h1, h2, h3, h4, h5, h6, h7, h8, h9, h10⟩ := h
  have n1 : ¬ SR S R F1 := by unfold SR; omega
  have n2 : ¬ SR S R F2 := by unfold SR; omega
  have n3 : ¬ SR S R E := by unfold SR; omega
  have n4 : ¬ SR S R E0 := by unfold SR; omega
  have n5 : ∀ g, B ≤ g → g < w.heap.size → w'.heap[g]? = w.heap[g]? := fun g hg hl => hk.1 g hl (by unfold SR; omega)
  exact ⟨hr, h2.keep hk n1 n2, h3.keep hk n3, h4.keep hk n4, own_keep h5 n5, own_keep h6 n5, h7, h8.trans hb, Nat.le_trans h9 hk.2, h10⟩
set_option maxHeartbeats 1000000 in
theorem num_w {B0 B S R F1 F2 E E0 : Nat} {wb w : World} {o : Option (List UInt8)} {A D : Value} {ts : List Tb} {zs : List Int} {lg nx : Int} (hy : LY B0 B S R F1 F2 E E0) (h : RW B0 B S R F1 F2 E E0 wb o A D ts zs lg nx w) :
    Calls Try.prog 55 #[.pointer (some ⟨S, 0, none⟩), .pointer (some ⟨R, 0, none⟩)] w fun e w' => ∃ n : Nat, e = .returned (.int .i64 (n : Nat)) ∧ n ≤ 4611686018427387904 ∧ RW B0 B S R F1 F2 E E0 wb ((o.bind rdN).map (·.2)) A D ts zs lg nx w' ∧ (∀ p, o.bind rdN = some p → n = p.1) := by
  obtain ⟨s, r, hn, hs, ho1, ho2⟩ := h.1
  obtain ⟨n, a, x, ht⟩ : ∃ n a x, tk s.data.toList 0 0 = (n, a, x) := ⟨_, _, _, rfl⟩
  have hle := tk_le ht
  have hw := h.2.2.2.2.2.2.2.2
  refine (rnum1_any B0 S R hy.2.2.1.1 hy.1.1 hy.1.2.1 w (by omega) s hs r hn n a x ht).mono fun e w' k => ?_
  obtain ⟨k1, k2, k3, k4⟩ := k
  refine ⟨n, k1, hle.2, RW.keep hy h k3 k4 ⟨_, _, k2, by rw [ByteArray.size_extract]; omega, fun l hl => ?_, fun hl => ?_⟩, fun p hp => ?_⟩
  · cases o with
    | none => simp at hl
    | some m =>
      obtain ⟨rfl, rfl⟩ := ho1 m rfl
      simp only [Option.bind_some, rdN, ht] at hl
      by_cases hx : x = 0
      · rw [if_pos hx] at hl
        simp at hl
        exact ⟨by simp [hx], by rw [rest_bytes]; exact hl⟩
      · rw [if_neg hx] at hl; simp at hl
  · cases o with
    | none => rw [ho2 rfl]; rfl
    | some m =>
      obtain ⟨rfl, rfl⟩ := ho1 m rfl
      simp only [Option.bind_some, rdN, ht] at hl
      by_cases hx : x = 0
      · rw [if_pos hx] at hl; simp at hl
      · simp [hx]
  · cases o with
    | none => simp at hp
    | some m =>
      obtain ⟨rfl, rfl⟩ := ho1 m rfl
      simp only [Option.bind_some, rdN, ht] at hp
      by_cases hx : x = 0
      · rw [if_pos hx] at hp; cases hp; rfl
      · rw [if_neg hx] at hp; cases hp
set_option maxHeartbeats 1000000 in
theorem txt_w {B0 B S R F1 F2 E E0 : Nat} {wb w : World} {o : Option (List UInt8)} {A D : Value} {ts : List Tb} {zs : List Int} {lg nx : Int} (hy : LY B0 B S R F1 F2 E E0) (h : RW B0 B S R F1 F2 E E0 wb o A D ts zs lg nx w) :
    Calls Try.prog 57 #[.pointer (some ⟨S, 0, none⟩), .pointer (some ⟨R, 0, none⟩)] w fun e w' => ∃ t : List UInt8, e = .returned (.string ⟨t.toArray⟩) ∧ t.length ≤ 16777216 ∧ RW B0 B S R F1 F2 E E0 wb ((o.bind rdS).map (·.2)) A D ts zs lg nx w' ∧ (∀ p, o.bind rdS = some p → t = p.1) := by
  obtain ⟨s, r, hn, hs, ho1, ho2⟩ := h.1
  obtain ⟨n, a, x, ht⟩ : ∃ n a x, ttR s.data.toList = (n, a, x) := ⟨_, _, _, rfl⟩
  have hle := ttR_le ht
  rw [size_list] at hle
  have hw := h.2.2.2.2.2.2.2.2
  refine (rtext1_any B0 S R hy.2.2.1.1 hy.1.1 hy.1.2.1 w (by omega) s hs r hn n a x ht).mono fun e w' k => ?_
  obtain ⟨k1, k2, k3, k4⟩ := k
  refine ⟨n, k1, by omega, RW.keep hy h k3 k4 ⟨_, _, k2, by rw [ByteArray.size_extract]; omega, fun l hl => ?_, fun hl => ?_⟩, fun p hp => ?_⟩
  · cases o with
    | none => simp at hl
    | some m =>
      obtain ⟨rfl, rfl⟩ := ho1 m rfl
      simp only [Option.bind_some, rdS, ht] at hl
      by_cases hx : x = 0
      · rw [if_pos hx] at hl
        simp at hl
        exact ⟨by simp [hx], by rw [rest_bytes]; exact hl⟩
      · rw [if_neg hx] at hl; simp at hl
  · cases o with
    | none => rw [ho2 rfl]; rfl
    | some m =>
      obtain ⟨rfl, rfl⟩ := ho1 m rfl
      simp only [Option.bind_some, rdS, ht] at hl
      by_cases hx : x = 0
      · rw [if_pos hx] at hl; simp at hl
      · simp [hx]
  · cases o with
    | none => simp at hp
    | some m =>
      obtain ⟨rfl, rfl⟩ := ho1 m rfl
      simp only [Option.bind_some, rdS, ht] at hp
      by_cases hx : x = 0
      · rw [if_pos hx] at hp; cases hp; rfl
      · rw [if_neg hx] at hp; cases hp
end Go.Proofs.Ytkpemlgolpihiaa
namespace Go.Proofs.Ytkpemlgolpihiaa
set_option maxRecDepth 100000
open Go.RowKit
set_option linter.unusedVariables false
set_option linter.unusedSimpArgs false

theorem Try.infoInt : (Try.prog.info? 3).map (fun i => (i.zero, i.size, i.bytes)) = some (some (.int .i64 0), 1, 8) := by kernel_rfl
theorem cell_one1 (w : World) (A : Value) (t : TypeId) : ∀ j u, [A][j]? = some u → (w.alloc (.cells #[A] t)).cell? ((⟨w.heap.size, 0, none⟩ : Addr).add j) = some u := by
  intro j u hj
  have e' : ∀ j, (⟨w.heap.size, 0, none⟩ : Addr).add j = ⟨w.heap.size, 0 + j, none⟩ := by intro j; unfold Addr.add; split <;> simp_all
  rw [e']
  match j, hj with
  | 0, hj => simp at hj; subst hj; simp
theorem row_apart {w : World} {b1 b2 e1 e2 s1 s2 n1 n2 : Nat} {v1 v2 : Value} {x1 x2 : List Value} (h1 : w.ownsRow b1 e1 s1 v1 n1 x1) (h2 : w.ownsRow b2 e2 s2 v2 n2 x2) (hne : e1 ≠ e2) : v2.ownBlock = none ∨ v2.ownBlock ≠ v1.ownBlock := by
  rcases h2.2 with ⟨rfl, _⟩ | ⟨g, cap, cur, rfl, _, hgb, _⟩
  · exact .inl rfl
  · refine .inr fun e => ?_
    rcases h1.2 with ⟨rfl, _⟩ | ⟨g1, cap1, cur1, rfl, _, hgb1, _⟩
    · simp [Value.ownBlock] at e
    · obtain rfl : g = g1 := by simpa [Value.ownBlock] using e
      rw [hgb] at hgb1
      simp at hgb1
      exact hne hgb1.2.symm
theorem rdT_step (o : Option (List UInt8)) : (((((((o.bind rdN).map (·.2)).bind rdN).map (·.2)).bind rdS).map (·.2)).bind rdS).map (·.2) = (o.bind rdT).map (·.2) := by
  cases o with
  | none => rfl
  | some l =>
    simp only [Option.bind_some, rdT]
    cases h1 : rdN l with
    | none => rfl
    | some p =>
      simp only [Option.map_some, Option.bind_some]
      cases h2 : rdN p.2 with
      | none => rfl
      | some q =>
        simp only [Option.map_some, Option.bind_some]
        cases h3 : rdS q.2 with
        | none => rfl
        | some r =>
          simp only [Option.map_some, Option.bind_some]
          cases h4 : rdS r.2 with
          | none => rfl
          | some s => rfl
theorem rdT_vals {o : Option (List UInt8)} {n1 n2 : Nat} {t3 t4 : List UInt8} (h1 : ∀ p, o.bind rdN = some p → n1 = p.1) (h2 : ∀ p, ((o.bind rdN).map (·.2)).bind rdN = some p → n2 = p.1)
    (h3 : ∀ p, ((((o.bind rdN).map (·.2)).bind rdN).map (·.2)).bind rdS = some p → t3 = p.1) (h4 : ∀ p, ((((((o.bind rdN).map (·.2)).bind rdN).map (·.2)).bind rdS).map (·.2)).bind rdS = some p → t4 = p.1) :
    ∀ p, o.bind rdT = some p → (((n1 : Nat) : Int), ((n2 : Nat) : Int), (⟨t3.toArray⟩ : ByteArray), (⟨t4.toArray⟩ : ByteArray)) = p.1 := by
  intro p hp
  cases o with
  | none => cases hp
  | some l =>
    simp only [Option.bind_some, rdT] at hp h1 h2 h3 h4
    cases e1 : rdN l with
    | none => rw [e1] at hp; cases hp
    | some a =>
      rw [e1] at hp h2 h3 h4
      simp only [Option.map_some, Option.bind_some] at hp h2 h3 h4
      cases e2 : rdN a.2 with
      | none => rw [e2] at hp; cases hp
      | some b =>
        rw [e2] at hp h3 h4
        simp only [Option.map_some, Option.bind_some] at hp h3 h4
        cases e3 : rdS b.2 with
        | none => rw [e3] at hp; cases hp
        | some c =>
          rw [e3] at hp h4
          simp only [Option.map_some, Option.bind_some] at hp h4
          cases e4 : rdS c.2 with
          | none => rw [e4] at hp; cases hp
          | some d =>
            rw [e4] at hp
            cases hp
            rw [h1 _ e1, h2 _ e2, h3 _ e3, h4 _ e4]
theorem RW.drew {B0 B S R F1 F2 E E0 : Nat} {wb w : World} {o : Option (List UInt8)} {A D : Value} {ts : List Tb} {zs : List Int} {lg nx : Int} (h : RW B0 B S R F1 F2 E E0 wb o A D ts zs lg nx w) : RW B0 B S R F1 F2 E E0 wb o A D ts zs lg nx w.drew := by
  obtain ⟨h1, h2, h3, h4, h5, h6, h7, h8, h9, h10⟩ := h
  exact ⟨h1, h2, h3, h4, h5, h6, h7, h8.drew, h9, h10⟩
theorem KeepX.ofB {B : Nat} {w w' : World} (h : Below B w w') : KeepX (fun y => B ≤ y) w w' := ⟨fun y _ hx => h.block y (by omega), h.size⟩
theorem RS.keep {S R : Nat} {w w' : World} {o : Option (List UInt8)} {X : Nat → Prop} (h : RS S R w o) (hk : KeepX X w w') (h1 : ¬ X S) (h2 : ¬ X R) : RS S R w' o := by
  obtain ⟨s, r, hn, hs, ho⟩ := h
  exact ⟨s, r, hn.keep hk h1 h2, hs, ho⟩
theorem RW.app {B0 B S R F1 F2 E E0 : Nat} {wb w w3 : World} {o : Option (List UInt8)} {A A' D : Value} {ts ts' : List Tb} {zs : List Int} {lg nx : Int} (hy : LY B0 B S R F1 F2 E E0) (h : RW B0 B S R F1 F2 E E0 wb o A D ts zs lg nx w) (hb : Below B w w3)
    (h5' : w3.ownsRow B 49 4 A' ts'.length (tv4 ts')) (h6' : w3.ownsRow B 3 1 D zs.length (iv zs)) (hok : okT ts') : RW B0 B S R F1 F2 E E0 wb o A' D ts' zs lg nx (w3.setCell ⟨E, 0, none⟩ A') := by
  obtain ⟨y0, y1, y2, y3, y4⟩ := hy
  obtain ⟨h1, h2, h3, h4, h5, h6, h7, h8, h9, h10⟩ := h
  have k1 := KeepX.ofB hb
  have k2 : KeepX (fun y => y = E) w3 (w3.setCell ⟨E, 0, none⟩ A') := (KeepX.refl (fun y => y = E) w3).set (p := ⟨E, 0, none⟩) rfl A'
  have n5 : ∀ g, B ≤ g → g < w3.heap.size → (w3.setCell ⟨E, 0, none⟩ A').heap[g]? = w3.heap[g]? := fun g hg hl => k2.1 g hl (by omega)
  have s1 : ¬ B ≤ S := by omega
  have s2 : ¬ B ≤ R := by omega
  have s3 : ¬ B ≤ F1 := by omega
  have s4 : ¬ B ≤ F2 := by omega
  have s5 : ¬ B ≤ E := by omega
  have s6 : ¬ B ≤ E0 := by omega
  exact ⟨(h1.keep k1 s1 s2).keep k2 (by omega) (by omega), (h2.keep k1 s3 s4).keep k2 (by omega) (by omega), (h3.keep k1 s5).set0 A', (h4.keep k1 s6).keep k2 (by omega), own_keep h5' n5, own_keep h6' n5, hok, h8.trans ((hb.mono h10).setCell (p := ⟨E, 0, none⟩) (by show B0 ≤ E; omega) _), by simpa using Nat.le_trans h9 hb.size, h10⟩
theorem RW.app1 {B0 B S R F1 F2 E E0 : Nat} {wb w w3 : World} {o : Option (List UInt8)} {A D' D : Value} {ts : List Tb} {zs zs' : List Int} {lg nx : Int} (hy : LY B0 B S R F1 F2 E E0) (h : RW B0 B S R F1 F2 E E0 wb o A D ts zs lg nx w) (hb : Below B w w3)
    (h5' : w3.ownsRow B 49 4 A ts.length (tv4 ts)) (h6' : w3.ownsRow B 3 1 D' zs'.length (iv zs')) : RW B0 B S R F1 F2 E E0 wb o A D' ts zs' lg nx (w3.setCell ⟨E, 1, none⟩ D') := by
  obtain ⟨y0, y1, y2, y3, y4⟩ := hy
  obtain ⟨h1, h2, h3, h4, h5, h6, h7, h8, h9, h10⟩ := h
  have k1 := KeepX.ofB hb
  have k2 : KeepX (fun y => y = E) w3 (w3.setCell ⟨E, 1, none⟩ D') := (KeepX.refl (fun y => y = E) w3).set (p := ⟨E, 1, none⟩) rfl D'
  have n5 : ∀ g, B ≤ g → g < w3.heap.size → (w3.setCell ⟨E, 1, none⟩ D').heap[g]? = w3.heap[g]? := fun g hg hl => k2.1 g hl (by omega)
  have s1 : ¬ B ≤ S := by omega
  have s2 : ¬ B ≤ R := by omega
  have s3 : ¬ B ≤ F1 := by omega
  have s4 : ¬ B ≤ F2 := by omega
  have s5 : ¬ B ≤ E := by omega
  have s6 : ¬ B ≤ E0 := by omega
  exact ⟨(h1.keep k1 s1 s2).keep k2 (by omega) (by omega), (h2.keep k1 s3 s4).keep k2 (by omega) (by omega), (h3.keep k1 s5).set1 D', (h4.keep k1 s6).keep k2 (by omega), own_keep h5' n5, own_keep h6' n5, h7, h8.trans ((hb.mono h10).setCell (p := ⟨E, 1, none⟩) (by show B0 ≤ E; omega) _), by simpa using Nat.le_trans h9 hb.size, h10⟩
theorem iv_snoc (zs : List Int) (z : Int) : iv zs ++ [.int .i64 z] = iv (zs ++ [z]) := by simp [iv]
set_option maxHeartbeats 8000000 in
theorem tab_w {B0 B S R F1 F2 E E0 : Nat} {wb w : World} {o : Option (List UInt8)} {A D : Value} {ts : List Tb} {zs : List Int} {lg nx : Int} (hy : LY B0 B S R F1 F2 E E0) (h : RW B0 B S R F1 F2 E E0 wb o A D ts zs lg nx w) (hts : ts.length ≤ 200) :
    Calls Try.prog 60 #[.pointer (some ⟨E, 0, none⟩), .pointer (some ⟨F1, 0, none⟩), .pointer (some ⟨F2, 0, none⟩)] w fun e w' => e = .returned (.tuple #[]) ∧ ∃ A' t, RW B0 B S R F1 F2 E E0 wb ((o.bind rdT).map (·.2)) A' D (ts ++ [t]) zs lg nx w' ∧ (∀ p, o.bind rdT = some p → t = p.1) := by
  obtain ⟨i0, hi0, hz0, hz1, hz2⟩ := info_parts Try.infoTab
  obtain ⟨aa, ac, rfl⟩ := own_form h.2.2.2.2.1 (by decide)
  obtain ⟨n, hn⟩ : ∃ n, n = ts.length := ⟨_, rfl⟩
  rw [← hn] at h hts
  have HN := Lib.hid hn
  have HY := Lib.hid hy
  have HT := Lib.hid (rdT_step o)
  have H0 := Lib.hid h.drew
  have hEl : E < w.heap.size := h.2.2.1.1.2.2.2.2
  obtain ⟨⟨e0, e1, e2, e3, -⟩, -⟩ := h.2.2.1
  obtain ⟨f1, f2, f3, f4⟩ := h.2.1
  clear hy h hn
  go_enter Try.func60, Try.ntmps60
  go_wp2_with fail
  refine mixed_region (D := (fun w' => w'.cell? ⟨E, 0, none⟩ = some (.slice aa n ac) ∧ w'.cell? ⟨F1, 0, none⟩ = some (.func (.func 55) #[] #[.pointer (some ⟨S, 0, none⟩), .pointer (some ⟨R, 0, none⟩)]) ∧ w'.cell? ⟨F2, 0, none⟩ = some (.func (.func 57) #[] #[.pointer (some ⟨S, 0, none⟩), .pointer (some ⟨R, 0, none⟩)]))) [0, 1, 2, 4, 6, 8] [3, 5, 7, 9, 10, 11, 12, 13, 14] 14 (by kernel_rfl) (by kernel_rfl) (by decide) (⟨e0, f1, f2⟩) ?_
  simp only [List.filterMap_cons, List.filterMap_nil, List.getElem?_cons_zero, List.getElem?_cons_succ]
  repeat (
    (first
     | (refine calm_move _ rfl ?_)
     | (apply calm_cons
        · (intro w' hw'
           first | (obtain ⟨hwa', hwb', hwc'⟩ := hw') | (obtain ⟨hwa', hwb'⟩ := hw') | skip
           go_simp
           first
           | done
           | exact rfl)))
    simp only [Act.put, Act.eval, List.setIfInBounds_toArray, List.set_cons_zero, List.set_cons_succ, Array.getD_eq_getD_getElem?, List.getElem?_toArray, List.getElem?_cons_zero, List.getElem?_cons_succ, Option.getD_some])
  refine calm_nil ?_
  clear e0 e1 e2 e3 f1 f2 f3 f4
  refine loud_cons fun K hK => ?_
  go_wp2_with fail
  refine (num_w HY.out H0.out).mono ?_
  rintro e w1 ⟨n1, rfl, hn1, r1, p1⟩
  have HR1 := Lib.hid r1
  have HP1 := Lib.hid p1
  clear r1 p1 H0
  go_wp2
  refine hK _ _ (fun _ => ⟨HR1.out.2.2.1.1.1, HR1.out.2.1.1, HR1.out.2.1.2.1⟩) ?_
  clear hK K
  refine loud_cons fun K hK => ?_
  go_wp2_with fail
  refine (num_w HY.out HR1.out).mono ?_
  rintro e w2 ⟨n2, rfl, hn2, r2, p2⟩
  have HR2 := Lib.hid r2
  have HP2 := Lib.hid p2
  clear r2 p2 HR1
  go_wp2
  refine hK _ _ (fun _ => ⟨HR2.out.2.2.1.1.1, HR2.out.2.1.1, HR2.out.2.1.2.1⟩) ?_
  clear hK K
  refine loud_cons fun K hK => ?_
  go_wp2_with fail
  refine (txt_w HY.out HR2.out).mono ?_
  rintro e w3 ⟨t3, rfl, ht3, r3, p3⟩
  have HR3 := Lib.hid r3
  have HP3 := Lib.hid p3
  clear r3 p3 HR2
  go_wp2
  refine hK _ _ (fun _ => ⟨HR3.out.2.2.1.1.1, HR3.out.2.1.1, HR3.out.2.1.2.1⟩) ?_
  clear hK K
  refine loud_cons fun K hK => ?_
  go_wp2_with fail
  refine (txt_w HY.out HR3.out).mono ?_
  rintro e w4 ⟨t4, rfl, ht4, r4, p4⟩
  rw [HT.out] at r4
  have HR4 := Lib.hid r4
  have HP4 := Lib.hid p4
  clear r4 p4 HR3
  go_wp2
  refine hK _ _ (fun _ => ⟨HR4.out.2.2.1.1.1, HR4.out.2.1.1, HR4.out.2.1.2.1⟩) ?_
  clear hK K
  refine loud_cons fun K hK => ?_
  go_wp2
  refine hK _ _ (fun _ => ⟨HR4.out.2.2.1.1.1, HR4.out.2.1.1, HR4.out.2.1.2.1⟩) ?_
  clear hK K
  obtain ⟨s3, hs3⟩ : ∃ s3 : ByteArray, s3 = ⟨t3.toArray⟩ := ⟨_, rfl⟩
  obtain ⟨s4, hs4⟩ : ∃ s4 : ByteArray, s4 = ⟨t4.toArray⟩ := ⟨_, rfl⟩
  have HV := Lib.hid (rdT_vals HP1.out HP2.out HP3.out HP4.out)
  rw [← hs3, ← hs4] at HV ⊢
  have hok3 : okS s3 := by unfold okS; rw [hs3, mk_size]; omega
  have hok4 : okS s4 := by unfold okS; rw [hs4, mk_size]; omega
  have HOK := Lib.hid (And.intro hok3 hok4)
  clear HP1 HP2 HP3 HP4 hs3 hs4 hok3 hok4 ht3 ht4 hn1 hn2
  have hal : Below w4.heap.size w4 (w4.alloc (.cells #[.int .i64 (n1 : Int), .int .i64 (n2 : Int), .string s3, .string s4] 49)) := box_bel _ _
  have HAL := Lib.hid hal
  have hE4 : E < w4.heap.size := HR4.out.2.2.1.1.2.2.2.2
  refine loud_cons fun K hK => ?_
  go_wp2_with fail
  refine hK _ _ (fun _ => ⟨(hal.cell (p := ⟨E, 0, none⟩) hE4).trans HR4.out.2.2.1.1.1, (hal.cell (p := ⟨F1, 0, none⟩) HR4.out.2.1.2.2.1).trans HR4.out.2.1.1, (hal.cell (p := ⟨F2, 0, none⟩) HR4.out.2.1.2.2.2).trans HR4.out.2.1.2.1⟩) ?_
  clear hK K
  have hrow : w4.ownsRow B 49 4 (.slice aa n ac) n (tv4 ts) := by have := HR4.out.2.2.2.2.1; rwa [← HN.out] at this
  have HROW := Lib.hid hrow
  have hB4 : B ≤ w4.heap.size := HR4.out.2.2.2.2.2.2.2.2.1
  refine loud_cons fun K hK => ?_
  go_wp2_with (at_builtin; refine wpList_append_own _ rfl _ _ 22 rfl B 49 i0 (.agg #[.int .i64 0, .int .i64 0, .string ⟨#[]⟩, .string ⟨#[]⟩]) 4 48 Try.underlying22 hi0 hz0 hz1 hz2 rfl (by decide) _ _ _ rfl (HROW.out.alloc _) ⟨w4.heap.size, 0, none⟩ 1 1 (tv (n1, n2, s3, s4)) rfl rfl ?c1 ?c2 ?c3 ?c4 ?c5 ?_)
  case c1 => exact cell_new4 _ _ _ _ _ _
  case c2 => intro u hu; simp [tv] at hu; rcases hu with rfl | rfl | rfl | rfl <;> rfl
  case c3 => unfold maxLen; omega
  case c4 => omega
  case c5 => simp [go_sem]; omega
  intro v' w5 hown5 hgrow _
  obtain ⟨a5, c5, rfl⟩ := own_form hown5 (by decide)
  have hb5 : Below B w4 w5 := (((Below.refl B w4).alloc hB4 _).grown hgrow (by simp [go_sem]; omega) (fun k hk => (HROW.out.lt k hk).1))
  have h6 : w5.ownsRow B 3 1 D zs.length (iv zs) := (HR4.out.2.2.2.2.2.1.alloc _).kept hgrow (row_apart HROW.out HR4.out.2.2.2.2.2.1 (by decide))
  rw [tv4_snoc] at hown5
  have hlen : n + 1 = (ts ++ [((n1 : Int), (n2 : Int), s3, s4)]).length := by rw [List.length_append, ← HN.out]; rfl
  have h5 : w5.ownsRow B 49 4 (.slice a5 (n + 1) c5) (ts ++ [((n1 : Int), (n2 : Int), s3, s4)]).length (tv4 (ts ++ [((n1 : Int), (n2 : Int), s3, s4)])) := by rw [← hlen]; exact hown5
  have HFIN := Lib.hid (RW.app HY.out HR4.out hb5 h5 h6 (fun t ht => by
    rcases List.mem_append.1 ht with ht | ht
    · exact HR4.out.2.2.2.2.2.2.1 t ht
    · rw [List.mem_singleton.1 ht]; exact HOK.out))
  have hk5 := KeepX.ofB hb5
  have hyo := HY.out
  have hx1 : ¬ B ≤ E := by have := hyo.2.1; omega
  have hx2 : ¬ B ≤ F1 := by have := hyo.2.1; omega
  have hx3 : ¬ B ≤ F2 := by have := hyo.2.1; omega
  have hEW := HR4.out.2.2.1.keep hk5 hx1
  have hFS := HR4.out.2.1.keep hk5 hx2 hx3
  refine hK _ _ (fun _ => ⟨hEW.1.1, hFS.1, hFS.2.1⟩) ?_
  clear hK K
  refine loud_cons fun K hK => ?_
  go_wp2_with fail
  refine hK _ _ (fun _ => ⟨hEW.1.1, hFS.1, hFS.2.1⟩) ?_
  clear hK K hown5 hgrow hb5 h6 h5 hk5 hyo hx1 hx2 hx3 hlen
  obtain ⟨⟨z0, z1, z2, z3, z4⟩, y0, y1, y2, y3⟩ := hEW
  clear hFS
  refine loud_cons fun K hK => ?_
  go_wp2_with fail
  refine hK _ _ (fun h => absurd rfl h) ?_
  clear hK K
  refine loud_nil ?_
  go_wp2
  go_end0
  exact ⟨rfl, _, _, HFIN.out, HV.out⟩
def rdZ1 (l : List UInt8) : Option (Int × List UInt8) := (rdN l).map fun p => (((p.1 : Nat) : Int), p.2)
theorem rdZ1_step (o : Option (List UInt8)) : (o.bind rdN).map (·.2) = (o.bind rdZ1).map (·.2) := by
  cases o with
  | none => rfl
  | some l =>
    simp only [Option.bind_some, rdZ1]
    cases rdN l <;> rfl
theorem rdZ1_vals {o : Option (List UInt8)} {n : Nat} (h : ∀ p, o.bind rdN = some p → n = p.1) : ∀ p, o.bind rdZ1 = some p → ((n : Nat) : Int) = p.1 := by
  intro p hp
  cases o with
  | none => cases hp
  | some l =>
    simp only [Option.bind_some, rdZ1] at hp h
    cases e : rdN l with
    | none => rw [e] at hp; cases hp
    | some q => rw [e] at hp; cases hp; rw [h _ e]
set_option maxHeartbeats 8000000 in
theorem int_w {B0 B S R F1 F2 E E0 : Nat} {wb w : World} {o : Option (List UInt8)} {A D : Value} {ts : List Tb} {zs : List Int} {lg nx : Int} (hy : LY B0 B S R F1 F2 E E0) (h : RW B0 B S R F1 F2 E E0 wb o A D ts zs lg nx w) (hts : zs.length ≤ 200) :
    Calls Try.prog 61 #[.pointer (some ⟨E, 0, none⟩), .pointer (some ⟨F1, 0, none⟩)] w fun e w' => e = .returned (.tuple #[]) ∧ ∃ D' z, RW B0 B S R F1 F2 E E0 wb ((o.bind rdZ1).map (·.2)) A D' ts (zs ++ [z]) lg nx w' ∧ (∀ p, o.bind rdZ1 = some p → z = p.1) := by
  obtain ⟨i0, hi0, hz0, hz1, hz2⟩ := info_parts Try.infoInt
  obtain ⟨aa, ac, rfl⟩ := own_form h.2.2.2.2.2.1 (by decide)
  obtain ⟨n, hn⟩ : ∃ n, n = zs.length := ⟨_, rfl⟩
  rw [← hn] at h hts
  have HN := Lib.hid hn
  have HY := Lib.hid hy
  have HT := Lib.hid (rdZ1_step o)
  have H0 := Lib.hid h.drew
  have hEl : E < w.heap.size := h.2.2.1.1.2.2.2.2
  obtain ⟨⟨e0, e1, e2, e3, -⟩, -⟩ := h.2.2.1
  obtain ⟨f1, f2, f3, f4⟩ := h.2.1
  clear hy h hn
  go_enter Try.func61, Try.ntmps61
  go_wp2_with fail
  refine mixed_region (D := (fun w' => w'.cell? ⟨E, 1, none⟩ = some (.slice aa n ac) ∧ w'.cell? ⟨F1, 0, none⟩ = some (.func (.func 55) #[] #[.pointer (some ⟨S, 0, none⟩), .pointer (some ⟨R, 0, none⟩)]))) [0, 1, 2] [3, 4, 5, 6, 7] 7 (by kernel_rfl) (by kernel_rfl) (by decide) (⟨e1, f1⟩) ?_
  simp only [List.filterMap_cons, List.filterMap_nil, List.getElem?_cons_zero, List.getElem?_cons_succ]
  repeat (
    (first
     | (refine calm_move _ rfl ?_)
     | (apply calm_cons
        · (intro w' hw'
           first | (obtain ⟨hwa', hwb', hwc'⟩ := hw') | (obtain ⟨hwa', hwb'⟩ := hw') | skip
           go_simp
           first
           | done
           | exact rfl)))
    simp only [Act.put, Act.eval, List.setIfInBounds_toArray, List.set_cons_zero, List.set_cons_succ, Array.getD_eq_getD_getElem?, List.getElem?_toArray, List.getElem?_cons_zero, List.getElem?_cons_succ, Option.getD_some])
  refine calm_nil ?_
  clear e0 e1 e2 e3 f1 f2 f3 f4
  refine loud_cons fun K hK => ?_
  go_wp2_with fail
  refine (num_w HY.out H0.out).mono ?_
  rintro e w4 ⟨n1, rfl, hn1, r1, p1⟩
  rw [HT.out] at r1
  have HR4 := Lib.hid r1
  have HV := Lib.hid (rdZ1_vals p1)
  clear r1 p1 H0
  go_wp2
  refine hK _ _ (fun _ => ⟨HR4.out.2.2.1.1.2.1, HR4.out.2.1.1⟩) ?_
  clear hK K
  have hal : Below w4.heap.size w4 (w4.alloc (.cells #[.int .i64 (n1 : Int)] 3)) := box_bel _ _
  have hE4 : E < w4.heap.size := HR4.out.2.2.1.1.2.2.2.2
  refine loud_cons fun K hK => ?_
  go_wp2_with fail
  refine hK _ _ (fun _ => ⟨(hal.cell (p := ⟨E, 1, none⟩) hE4).trans HR4.out.2.2.1.1.2.1, (hal.cell (p := ⟨F1, 0, none⟩) HR4.out.2.1.2.2.1).trans HR4.out.2.1.1⟩) ?_
  clear hK K
  have hrow : w4.ownsRow B 3 1 (.slice aa n ac) n (iv zs) := by have := HR4.out.2.2.2.2.2.1; rwa [← HN.out] at this
  have HROW := Lib.hid hrow
  have hB4 : B ≤ w4.heap.size := HR4.out.2.2.2.2.2.2.2.2.1
  refine loud_cons fun K hK => ?_
  go_wp2_with (at_builtin; refine wpList_append_own _ rfl _ _ 23 rfl B 3 i0 (.int .i64 0) 1 8 Try.underlying23 hi0 hz0 hz1 hz2 rfl (by decide) _ _ _ rfl (HROW.out.alloc _) ⟨w4.heap.size, 0, none⟩ 1 1 [.int .i64 (n1 : Int)] rfl rfl ?d1 ?d2 ?d3 ?d4 ?d5 ?_)
  case d1 => exact cell_one1 _ _ _
  case d2 => intro u hu; simp at hu; rw [hu]; rfl
  case d3 => unfold maxLen; omega
  case d4 => omega
  case d5 => simp [go_sem]; omega
  intro v' w5 hown5 hgrow _
  obtain ⟨a5, c5, rfl⟩ := own_form hown5 (by decide)
  have hb5 : Below B w4 w5 := (((Below.refl B w4).alloc hB4 _).grown hgrow (by simp [go_sem]; omega) (fun k hk => (HROW.out.lt k hk).1))
  have h6 : w5.ownsRow B 49 4 A ts.length (tv4 ts) := (HR4.out.2.2.2.2.1.alloc _).kept hgrow (row_apart HROW.out HR4.out.2.2.2.2.1 (by decide))
  rw [iv_snoc] at hown5
  have hlen : n + 1 = (zs ++ [(n1 : Int)]).length := by rw [List.length_append, ← HN.out]; rfl
  have h5 : w5.ownsRow B 3 1 (.slice a5 (n + 1) c5) (zs ++ [(n1 : Int)]).length (iv (zs ++ [(n1 : Int)])) := by rw [← hlen]; exact hown5
  have HFIN := Lib.hid (RW.app1 HY.out HR4.out hb5 h6 h5)
  have hk5 := KeepX.ofB hb5
  have hyo := HY.out
  have hx1 : ¬ B ≤ E := by have := hyo.2.1; omega
  have hx2 : ¬ B ≤ F1 := by have := hyo.2.1; omega
  have hx3 : ¬ B ≤ F2 := by have := hyo.2.1; omega
  have hEW := HR4.out.2.2.1.keep hk5 hx1
  have hFS := HR4.out.2.1.keep hk5 hx2 hx3
  refine hK _ _ (fun _ => ⟨hEW.1.2.1, hFS.1⟩) ?_
  clear hK K
  refine loud_cons fun K hK => ?_
  go_wp2_with fail
  refine hK _ _ (fun _ => ⟨hEW.1.2.1, hFS.1⟩) ?_
  clear hK K hown5 hgrow hb5 h6 h5 hk5 hyo hx1 hx2 hx3 hlen
  obtain ⟨⟨z0, z1, z2, z3, z4⟩, y0, y1, y2, y3⟩ := hEW
  clear hFS
  refine loud_cons fun K hK => ?_
  go_wp2_with fail
  refine hK _ _ (fun h => absurd rfl h) ?_
  clear hK K
  refine loud_nil ?_
  go_wp2
  go_end0
  exact ⟨rfl, _, _, HFIN.out, HV.out⟩
end Go.Proofs.Ytkpemlgolpihiaa
namespace Go.Proofs.Ytkpemlgolpihiaa
set_option maxRecDepth 100000
open Go.RowKit
set_option linter.unusedVariables false
set_option linter.unusedSimpArgs false

theorem rdTs_zero (l : List UInt8) : rdTs 0 l = some ([], l) := rfl
theorem rdZs_zero (l : List UInt8) : rdZs 0 l = some ([], l) := rfl
theorem rdTs_succ (n : Nat) (l : List UInt8) : rdTs (n + 1) l = (rdT l).bind fun p => (rdTs n p.2).bind fun q => some (p.1 :: q.1, q.2) := rfl
theorem rdZs_succ (n : Nat) (l : List UInt8) : rdZs (n + 1) l = (rdZ1 l).bind fun p => (rdZs n p.2).bind fun q => some (p.1 :: q.1, q.2) := by
  rw [rdZs, rdZ1]
  cases rdN l <;> rfl
theorem RW.setR {B0 B S R F1 F2 E E0 : Nat} {wb w : World} {o o' : Option (List UInt8)} {A D : Value} {ts : List Tb} {zs : List Int} {lg nx : Int} (h : RW B0 B S R F1 F2 E E0 wb o A D ts zs lg nx w) (hy : LY B0 B S R F1 F2 E E0) (b : Bool)
    (h1 : ∀ l, o' = some l → b = true ∧ o = some l) (h2 : o' = none → b = false) : RW B0 B S R F1 F2 E E0 wb o' A D ts zs lg nx (w.setCell ⟨R, 0, none⟩ (.bool b)) := by
  obtain ⟨s, r, hns, hsz, ho1, ho2⟩ := h.1
  refine RW.keep hy h ((KeepX.refl (SR S R) w).set (p := ⟨R, 0, none⟩) (Or.inr rfl) _) ((Below.refl B0 w).setCell (p := ⟨R, 0, none⟩) hy.1.2.1 _) ⟨s, b, hns.right hy.2.2.1.1 b, hsz, fun l hl => ⟨(h1 l hl).1, (ho1 l (h1 l hl).2).2⟩, h2⟩

def rdEachT (l : List UInt8) : Option (List Tb × List UInt8) := (rdN l).bind fun n => if n.1 ≤ 128 then rdTs n.1 n.2 else none
/-- What was read till now, and what is still to be read. -/
def TillT (T : Option (List Tb × List UInt8)) (n k : Nat) (oi : Option (List UInt8)) (xs : List Tb) : Prop := (oi = none → T = none) ∧ (∀ li, oi = some li → T = (rdTs (n - k) li).map fun q => (xs ++ q.1, q.2))
theorem TillT.step {T : Option (List Tb × List UInt8)} {n k : Nat} {li : List UInt8} {xs : List Tb} (h : TillT T n k (some li) xs) (hk : k < n) {x : Tb} (hx : ∀ p, (some li).bind rdT = some p → x = p.1) : TillT T n (k + 1) (((some li).bind rdT).map (·.2)) (xs ++ [x]) := by
  have h2 := h.2 li rfl
  rw [show n - k = (n - (k + 1)) + 1 by omega, rdTs_succ] at h2
  simp only [Option.bind_some] at hx ⊢
  cases e : rdT li with
  | none => rw [e] at h2; exact ⟨fun _ => h2, fun l hl => by cases hl⟩
  | some p =>
    rw [e] at h2
    rw [hx p e]
    refine ⟨fun hl => (by cases hl), fun l hl => ?_⟩
    simp only [Option.map_some, Option.some.injEq] at hl
    rw [h2, ← hl]
    simp only [Option.bind_some]
    cases rdTs (n - (k + 1)) p.2 with
    | none => rfl
    | some q => simp
def EPT (B0 B S R F1 F2 E E0 : Nat) (wb : World) (T : Option (List Tb × List UInt8)) (D : Value) (zs : List Int) (lg nx : Int) (w : World) : Prop := ∃ X' xs, RW B0 B S R F1 F2 E E0 wb (T.map (·.2)) X' D xs zs lg nx w ∧ (∀ p, T = some p → xs = p.1) ∧ xs.length ≤ 200
set_option maxHeartbeats 8000000 in
theorem eachT_w {B0 B S R F1 F2 E E0 : Nat} {wb w : World} {o : Option (List UInt8)} {X : Value} {zs : List Int} {D : Value} {lg nx : Int} (hy : LY B0 B S R F1 F2 E E0) (h : RW B0 B S R F1 F2 E E0 wb o X D [] zs lg nx w) :
    Calls Try.prog 59 #[.func (.func 60) #[] #[.pointer (some ⟨E, 0, none⟩), .pointer (some ⟨F1, 0, none⟩), .pointer (some ⟨F2, 0, none⟩)], .pointer (some ⟨F1, 0, none⟩), .pointer (some ⟨R, 0, none⟩)] w fun e w' => e = .returned (.tuple #[]) ∧ EPT B0 B S R F1 F2 E E0 wb (o.bind rdEachT) D zs lg nx w' := by
  obtain ⟨T, hT0⟩ : ∃ T, T = o.bind rdEachT := ⟨_, rfl⟩
  rw [← hT0]
  have HT0 := Lib.hid hT0
  clear hT0
  have HY := Lib.hid hy
  have H0 := Lib.hid h
  obtain ⟨f1, f2, f3, f4⟩ := h.2.1
  clear hy h
  go_enter Try.func59, Try.ntmps59
  go_wp2_with fail
  refine (num_w HY.out H0.out).mono ?_
  rintro e w1 ⟨n, rfl, hn, r1, p1⟩
  clear f1 f2 f3 f4 H0
  obtain ⟨s, r, hns, hsz, ho1, ho2⟩ := r1.1
  obtain ⟨o1, ho⟩ : ∃ o1, o1 = (o.bind rdN).map (·.2) := ⟨_, rfl⟩
  rw [← ho] at r1 ho1 ho2
  obtain ⟨o2, ho2'⟩ : ∃ o2, o2 = if n ≤ 128 then o1 else none := ⟨_, rfl⟩
  obtain ⟨bb, hbb⟩ : ∃ bb, bb = (r && decide (n ≤ 128)) := ⟨_, rfl⟩
  have HR2 := Lib.hid (r1.setR HY.out (o' := o2) bb (fun l hl => by
    rw [ho2'] at hl
    by_cases h8 : n ≤ 128
    · rw [if_pos h8] at hl
      exact ⟨by rw [hbb, (ho1 l hl).1]; simp [h8], hl⟩
    · rw [if_neg h8] at hl; cases hl) (fun hl => by
    rw [ho2'] at hl
    by_cases h8 : n ≤ 128
    · rw [if_pos h8] at hl
      rw [hbb, ho2 hl]; rfl
    · rw [hbb]; simp [h8]))
  have hT := HT0.out
  have hTo : T = o2.bind (rdTs n) := by
    rw [hT, ho2', ho]
    cases o with
    | none => simp
    | some l =>
      simp only [Option.bind_some, rdEachT] at p1 ⊢
      cases e : rdN l with
      | none => simp
      | some p =>
        rw [p1 p e]
        simp only [Option.bind_some, Option.map_some]
        split <;> rfl
  have HI : Hid (TillT T n 0 o2 []) := Lib.hid (by
    rw [hTo]
    refine ⟨fun e => by rw [e]; rfl, fun li e => ?_⟩
    rw [e, Option.bind_some, Nat.sub_zero]
    cases rdTs n li <;> simp)
  have H8 : Hid (o2 ≠ none → n ≤ 128) := Lib.hid fun e => by
    by_cases h8 : n ≤ 128
    · exact h8
    · rw [ho2', if_neg h8] at e; exact absurd rfl e
  have HT := Lib.hid hT
  obtain ⟨⟨c1, c2, c3⟩, d1, d2, d3⟩ := hns
  have HBB := Lib.hid hbb
  clear ho ho2' hT hTo r1 ho1 ho2 p1 hbb
  have main : ∀ bb', bb' = bb → (r = false ∧ bb' = false) ∨ (r = true ∧ n ≤ 128 ∧ bb' = true) ∨ (r = true ∧ ¬ n ≤ 128 ∧ bb' = false) := fun bb' e => by
    rw [e, HBB.out]
    cases r with
    | false => exact .inl ⟨rfl, rfl⟩
    | true =>
      by_cases h8 : n ≤ 128
      · exact .inr (.inl ⟨rfl, h8, by simp [h8]⟩)
      · exact .inr (.inr ⟨rfl, h8, by simp [h8]⟩)
  have h3 := main bb rfl
  clear main HBB
  have HSTEP : Hid (∀ wz, wz = w1.setCell ⟨R, 0, none⟩ (.bool bb) → (RW B0 B S R F1 F2 E E0 wb o2 X D [] zs lg nx wz)) := Lib.hid fun wz e => by rw [e]; exact HR2.out
  clear HR2
  rcases h3 with ⟨rfl, rfl⟩ | ⟨rfl, h8, rfl⟩ | ⟨rfl, h8, rfl⟩
  · go_wp2_with fail
    obtain ⟨wz, hwz⟩ : ∃ wz, wz = w1.setCell ⟨R, 0, none⟩ (.bool false) := ⟨_, rfl⟩
    rw [← hwz]
    have HZ := Lib.hid (HSTEP.out wz hwz)
    clear HSTEP hwz c1 c2 c3 d1 d2 d3
    go_loopw [5] (fun i wr => ∃ (k : Nat) (oi : Option (List UInt8)) (X' : Value) (xs : List Tb), i = .int .i64 k ∧ k ≤ n ∧ Hid (xs.length = k ∧ k ≤ 128) ∧ Hid (RW B0 B S R F1 F2 E E0 wb oi X' D xs zs lg nx wr) ∧ Hid (TillT T n k oi xs) ∧ Hid (oi ≠ none → n ≤ 128)) (fun i _ => n - (intOf i).toNat)
    case atStart => exact ⟨0, o2, X, [], rfl, by omega, Lib.hid ⟨rfl, by omega⟩, HZ, HI, H8⟩
    case round =>
      clear HZ HI H8
      obtain ⟨k, oi, X', xs, rfl, hk, HL, HZ, HI, H8⟩ := hrel
      obtain ⟨s, r, hns, hsz, ho1, ho2⟩ := HZ.out.1
      have HO1 := Lib.hid ho1
      have HO2 := Lib.hid ho2
      obtain ⟨⟨c1, c2, c3⟩, d1, d2, d3⟩ := hns
      clear ho1 ho2
      cases r with
      | false =>
        have hoi : oi = none := by
          cases oi with
          | none => rfl
          | some l => have := (HO1.out l rfl).1; cases this
        subst hoi
        have HF := Lib.hid (HI.out.1 rfl)
        go_wp2_with fail
        go_end0
        refine ⟨rfl, X', xs, ?_, fun p hp => ?_, by have := HL.out; omega⟩
        · rw [HF.out]; exact HZ.out
        · rw [HF.out] at hp; cases hp
      | true =>
        obtain ⟨li, hli⟩ : ∃ li, oi = some li := by
          cases oi with
          | none => have := HO2.out rfl; cases this
          | some l => exact ⟨l, rfl⟩
        subst hli
        by_cases hlt : k < n
        · have hki : (k : Int) < (n : Int) := by omega
          have h128 := H8.out (by simp)
          go_wp2_with fail
          refine (tab_w HY.out HZ.out (by have := HL.out; omega)).mono ?_
          rintro e w2 ⟨rfl, Y, x, r2, p2⟩
          have HR2 := Lib.hid r2
          have HP2 := Lib.hid (HI.out.step hlt p2)
          clear r2 p2 c1 c2 c3 d1 d2 d3
          go_wp2_with fail
          go_roundw
          case rel => exact ⟨k + 1, _, Y, xs ++ [x], by go_num, hlt, Lib.hid ⟨by rw [List.length_append, HL.out.1]; rfl, by omega⟩, HR2, HP2, Lib.hid (fun _ => h128)⟩
          case measure => simp [intOf]; omega
        · have hki : ¬ (k : Int) < (n : Int) := by omega
          have HF := Lib.hid (HI.out.2 li rfl)
          go_wp2_with fail
          go_end0
          have hf := HF.out
          rw [show n - k = 0 by omega, rdTs_zero] at hf
          simp only [Option.map_some, List.append_nil] at hf
          refine ⟨rfl, X', xs, ?_, fun p hp => ?_, by have := HL.out; omega⟩
          · rw [hf]; exact HZ.out
          · rw [hf] at hp; cases hp; rfl
  · have h8z : (n : Int) ≤ 128 := by omega
    go_wp2_with fail
    obtain ⟨wz, hwz⟩ : ∃ wz, wz = w1.setCell ⟨R, 0, none⟩ (.bool true) := ⟨_, rfl⟩
    rw [← hwz]
    have HZ := Lib.hid (HSTEP.out wz hwz)
    clear HSTEP hwz c1 c2 c3 d1 d2 d3
    go_loopw [5] (fun i wr => ∃ (k : Nat) (oi : Option (List UInt8)) (X' : Value) (xs : List Tb), i = .int .i64 k ∧ k ≤ n ∧ Hid (xs.length = k ∧ k ≤ 128) ∧ Hid (RW B0 B S R F1 F2 E E0 wb oi X' D xs zs lg nx wr) ∧ Hid (TillT T n k oi xs) ∧ Hid (oi ≠ none → n ≤ 128)) (fun i _ => n - (intOf i).toNat)
    case atStart => exact ⟨0, o2, X, [], rfl, by omega, Lib.hid ⟨rfl, by omega⟩, HZ, HI, H8⟩
    case round =>
      clear HZ HI H8
      obtain ⟨k, oi, X', xs, rfl, hk, HL, HZ, HI, H8⟩ := hrel
      obtain ⟨s, r, hns, hsz, ho1, ho2⟩ := HZ.out.1
      have HO1 := Lib.hid ho1
      have HO2 := Lib.hid ho2
      obtain ⟨⟨c1, c2, c3⟩, d1, d2, d3⟩ := hns
      clear ho1 ho2
      cases r with
      | false =>
        have hoi : oi = none := by
          cases oi with
          | none => rfl
          | some l => have := (HO1.out l rfl).1; cases this
        subst hoi
        have HF := Lib.hid (HI.out.1 rfl)
        go_wp2_with fail
        go_end0
        refine ⟨rfl, X', xs, ?_, fun p hp => ?_, by have := HL.out; omega⟩
        · rw [HF.out]; exact HZ.out
        · rw [HF.out] at hp; cases hp
      | true =>
        obtain ⟨li, hli⟩ : ∃ li, oi = some li := by
          cases oi with
          | none => have := HO2.out rfl; cases this
          | some l => exact ⟨l, rfl⟩
        subst hli
        by_cases hlt : k < n
        · have hki : (k : Int) < (n : Int) := by omega
          have h128 := H8.out (by simp)
          go_wp2_with fail
          refine (tab_w HY.out HZ.out (by have := HL.out; omega)).mono ?_
          rintro e w2 ⟨rfl, Y, x, r2, p2⟩
          have HR2 := Lib.hid r2
          have HP2 := Lib.hid (HI.out.step hlt p2)
          clear r2 p2 c1 c2 c3 d1 d2 d3
          go_wp2_with fail
          go_roundw
          case rel => exact ⟨k + 1, _, Y, xs ++ [x], by go_num, hlt, Lib.hid ⟨by rw [List.length_append, HL.out.1]; rfl, by omega⟩, HR2, HP2, Lib.hid (fun _ => h128)⟩
          case measure => simp [intOf]; omega
        · have hki : ¬ (k : Int) < (n : Int) := by omega
          have HF := Lib.hid (HI.out.2 li rfl)
          go_wp2_with fail
          go_end0
          have hf := HF.out
          rw [show n - k = 0 by omega, rdTs_zero] at hf
          simp only [Option.map_some, List.append_nil] at hf
          refine ⟨rfl, X', xs, ?_, fun p hp => ?_, by have := HL.out; omega⟩
          · rw [hf]; exact HZ.out
          · rw [hf] at hp; cases hp; rfl
  · have h8d : decide ((n : Int) ≤ 128) = false := decide_eq_false (by omega)
    go_wp2_with fail
    obtain ⟨wz, hwz⟩ : ∃ wz, wz = w1.setCell ⟨R, 0, none⟩ (.bool false) := ⟨_, rfl⟩
    rw [← hwz]
    have HZ := Lib.hid (HSTEP.out wz hwz)
    clear HSTEP hwz c1 c2 c3 d1 d2 d3
    go_loopw [5] (fun i wr => ∃ (k : Nat) (oi : Option (List UInt8)) (X' : Value) (xs : List Tb), i = .int .i64 k ∧ k ≤ n ∧ Hid (xs.length = k ∧ k ≤ 128) ∧ Hid (RW B0 B S R F1 F2 E E0 wb oi X' D xs zs lg nx wr) ∧ Hid (TillT T n k oi xs) ∧ Hid (oi ≠ none → n ≤ 128)) (fun i _ => n - (intOf i).toNat)
    case atStart => exact ⟨0, o2, X, [], rfl, by omega, Lib.hid ⟨rfl, by omega⟩, HZ, HI, H8⟩
    case round =>
      clear HZ HI H8
      obtain ⟨k, oi, X', xs, rfl, hk, HL, HZ, HI, H8⟩ := hrel
      obtain ⟨s, r, hns, hsz, ho1, ho2⟩ := HZ.out.1
      have HO1 := Lib.hid ho1
      have HO2 := Lib.hid ho2
      obtain ⟨⟨c1, c2, c3⟩, d1, d2, d3⟩ := hns
      clear ho1 ho2
      cases r with
      | false =>
        have hoi : oi = none := by
          cases oi with
          | none => rfl
          | some l => have := (HO1.out l rfl).1; cases this
        subst hoi
        have HF := Lib.hid (HI.out.1 rfl)
        go_wp2_with fail
        go_end0
        refine ⟨rfl, X', xs, ?_, fun p hp => ?_, by have := HL.out; omega⟩
        · rw [HF.out]; exact HZ.out
        · rw [HF.out] at hp; cases hp
      | true =>
        obtain ⟨li, hli⟩ : ∃ li, oi = some li := by
          cases oi with
          | none => have := HO2.out rfl; cases this
          | some l => exact ⟨l, rfl⟩
        subst hli
        by_cases hlt : k < n
        · have hki : (k : Int) < (n : Int) := by omega
          have h128 := H8.out (by simp)
          go_wp2_with fail
          refine (tab_w HY.out HZ.out (by have := HL.out; omega)).mono ?_
          rintro e w2 ⟨rfl, Y, x, r2, p2⟩
          have HR2 := Lib.hid r2
          have HP2 := Lib.hid (HI.out.step hlt p2)
          clear r2 p2 c1 c2 c3 d1 d2 d3
          go_wp2_with fail
          go_roundw
          case rel => exact ⟨k + 1, _, Y, xs ++ [x], by go_num, hlt, Lib.hid ⟨by rw [List.length_append, HL.out.1]; rfl, by omega⟩, HR2, HP2, Lib.hid (fun _ => h128)⟩
          case measure => simp [intOf]; omega
        · have hki : ¬ (k : Int) < (n : Int) := by omega
          have HF := Lib.hid (HI.out.2 li rfl)
          go_wp2_with fail
          go_end0
          have hf := HF.out
          rw [show n - k = 0 by omega, rdTs_zero] at hf
          simp only [Option.map_some, List.append_nil] at hf
          refine ⟨rfl, X', xs, ?_, fun p hp => ?_, by have := HL.out; omega⟩
          · rw [hf]; exact HZ.out
          · rw [hf] at hp; cases hp; rfl

def rdEachZ (l : List UInt8) : Option (List Int × List UInt8) := (rdN l).bind fun n => if n.1 ≤ 128 then rdZs n.1 n.2 else none
/-- What was read till now, and what is still to be read. -/
def TillZ (T : Option (List Int × List UInt8)) (n k : Nat) (oi : Option (List UInt8)) (xs : List Int) : Prop := (oi = none → T = none) ∧ (∀ li, oi = some li → T = (rdZs (n - k) li).map fun q => (xs ++ q.1, q.2))
theorem TillZ.step {T : Option (List Int × List UInt8)} {n k : Nat} {li : List UInt8} {xs : List Int} (h : TillZ T n k (some li) xs) (hk : k < n) {x : Int} (hx : ∀ p, (some li).bind rdZ1 = some p → x = p.1) : TillZ T n (k + 1) (((some li).bind rdZ1).map (·.2)) (xs ++ [x]) := by
  have h2 := h.2 li rfl
  rw [show n - k = (n - (k + 1)) + 1 by omega, rdZs_succ] at h2
  simp only [Option.bind_some] at hx ⊢
  cases e : rdZ1 li with
  | none => rw [e] at h2; exact ⟨fun _ => h2, fun l hl => by cases hl⟩
  | some p =>
    rw [e] at h2
    rw [hx p e]
    refine ⟨fun hl => (by cases hl), fun l hl => ?_⟩
    simp only [Option.map_some, Option.some.injEq] at hl
    rw [h2, ← hl]
    simp only [Option.bind_some]
    cases rdZs (n - (k + 1)) p.2 with
    | none => rfl
    | some q => simp
def EPZ (B0 B S R F1 F2 E E0 : Nat) (wb : World) (T : Option (List Int × List UInt8)) (A : Value) (ts : List Tb) (lg nx : Int) (w : World) : Prop := ∃ X' xs, RW B0 B S R F1 F2 E E0 wb (T.map (·.2)) A X' ts xs lg nx w ∧ (∀ p, T = some p → xs = p.1) ∧ xs.length ≤ 200
set_option maxHeartbeats 8000000 in
theorem eachZ_w {B0 B S R F1 F2 E E0 : Nat} {wb w : World} {o : Option (List UInt8)} {X : Value} {ts : List Tb} {A : Value} {lg nx : Int} (hy : LY B0 B S R F1 F2 E E0) (h : RW B0 B S R F1 F2 E E0 wb o A X ts [] lg nx w) :
    Calls Try.prog 59 #[.func (.func 61) #[] #[.pointer (some ⟨E, 0, none⟩), .pointer (some ⟨F1, 0, none⟩)], .pointer (some ⟨F1, 0, none⟩), .pointer (some ⟨R, 0, none⟩)] w fun e w' => e = .returned (.tuple #[]) ∧ EPZ B0 B S R F1 F2 E E0 wb (o.bind rdEachZ) A ts lg nx w' := by
  obtain ⟨T, hT0⟩ : ∃ T, T = o.bind rdEachZ := ⟨_, rfl⟩
  rw [← hT0]
  have HT0 := Lib.hid hT0
  clear hT0
  have HY := Lib.hid hy
  have H0 := Lib.hid h
  obtain ⟨f1, f2, f3, f4⟩ := h.2.1
  clear hy h
  go_enter Try.func59, Try.ntmps59
  go_wp2_with fail
  refine (num_w HY.out H0.out).mono ?_
  rintro e w1 ⟨n, rfl, hn, r1, p1⟩
  clear f1 f2 f3 f4 H0
  obtain ⟨s, r, hns, hsz, ho1, ho2⟩ := r1.1
  obtain ⟨o1, ho⟩ : ∃ o1, o1 = (o.bind rdN).map (·.2) := ⟨_, rfl⟩
  rw [← ho] at r1 ho1 ho2
  obtain ⟨o2, ho2'⟩ : ∃ o2, o2 = if n ≤ 128 then o1 else none := ⟨_, rfl⟩
  obtain ⟨bb, hbb⟩ : ∃ bb, bb = (r && decide (n ≤ 128)) := ⟨_, rfl⟩
  have HR2 := Lib.hid (r1.setR HY.out (o' := o2) bb (fun l hl => by
    rw [ho2'] at hl
    by_cases h8 : n ≤ 128
    · rw [if_pos h8] at hl
      exact ⟨by rw [hbb, (ho1 l hl).1]; simp [h8], hl⟩
    · rw [if_neg h8] at hl; cases hl) (fun hl => by
    rw [ho2'] at hl
    by_cases h8 : n ≤ 128
    · rw [if_pos h8] at hl
      rw [hbb, ho2 hl]; rfl
    · rw [hbb]; simp [h8]))
  have hT := HT0.out
  have hTo : T = o2.bind (rdZs n) := by
    rw [hT, ho2', ho]
    cases o with
    | none => simp
    | some l =>
      simp only [Option.bind_some, rdEachZ] at p1 ⊢
      cases e : rdN l with
      | none => simp
      | some p =>
        rw [p1 p e]
        simp only [Option.bind_some, Option.map_some]
        split <;> rfl
  have HI : Hid (TillZ T n 0 o2 []) := Lib.hid (by
    rw [hTo]
    refine ⟨fun e => by rw [e]; rfl, fun li e => ?_⟩
    rw [e, Option.bind_some, Nat.sub_zero]
    cases rdZs n li <;> simp)
  have H8 : Hid (o2 ≠ none → n ≤ 128) := Lib.hid fun e => by
    by_cases h8 : n ≤ 128
    · exact h8
    · rw [ho2', if_neg h8] at e; exact absurd rfl e
  have HT := Lib.hid hT
  obtain ⟨⟨c1, c2, c3⟩, d1, d2, d3⟩ := hns
  have HBB := Lib.hid hbb
  clear ho ho2' hT hTo r1 ho1 ho2 p1 hbb
  have main : ∀ bb', bb' = bb → (r = false ∧ bb' = false) ∨ (r = true ∧ n ≤ 128 ∧ bb' = true) ∨ (r = true ∧ ¬ n ≤ 128 ∧ bb' = false) := fun bb' e => by
    rw [e, HBB.out]
    cases r with
    | false => exact .inl ⟨rfl, rfl⟩
    | true =>
      by_cases h8 : n ≤ 128
      · exact .inr (.inl ⟨rfl, h8, by simp [h8]⟩)
      · exact .inr (.inr ⟨rfl, h8, by simp [h8]⟩)
  have h3 := main bb rfl
  clear main HBB
  have HSTEP : Hid (∀ wz, wz = w1.setCell ⟨R, 0, none⟩ (.bool bb) → (RW B0 B S R F1 F2 E E0 wb o2 A X ts [] lg nx wz)) := Lib.hid fun wz e => by rw [e]; exact HR2.out
  clear HR2
  rcases h3 with ⟨rfl, rfl⟩ | ⟨rfl, h8, rfl⟩ | ⟨rfl, h8, rfl⟩
  · go_wp2_with fail
    obtain ⟨wz, hwz⟩ : ∃ wz, wz = w1.setCell ⟨R, 0, none⟩ (.bool false) := ⟨_, rfl⟩
    rw [← hwz]
    have HZ := Lib.hid (HSTEP.out wz hwz)
    clear HSTEP hwz c1 c2 c3 d1 d2 d3
    go_loopw [5] (fun i wr => ∃ (k : Nat) (oi : Option (List UInt8)) (X' : Value) (xs : List Int), i = .int .i64 k ∧ k ≤ n ∧ Hid (xs.length = k ∧ k ≤ 128) ∧ Hid (RW B0 B S R F1 F2 E E0 wb oi A X' ts xs lg nx wr) ∧ Hid (TillZ T n k oi xs) ∧ Hid (oi ≠ none → n ≤ 128)) (fun i _ => n - (intOf i).toNat)
    case atStart => exact ⟨0, o2, X, [], rfl, by omega, Lib.hid ⟨rfl, by omega⟩, HZ, HI, H8⟩
    case round =>
      clear HZ HI H8
      obtain ⟨k, oi, X', xs, rfl, hk, HL, HZ, HI, H8⟩ := hrel
      obtain ⟨s, r, hns, hsz, ho1, ho2⟩ := HZ.out.1
      have HO1 := Lib.hid ho1
      have HO2 := Lib.hid ho2
      obtain ⟨⟨c1, c2, c3⟩, d1, d2, d3⟩ := hns
      clear ho1 ho2
      cases r with
      | false =>
        have hoi : oi = none := by
          cases oi with
          | none => rfl
          | some l => have := (HO1.out l rfl).1; cases this
        subst hoi
        have HF := Lib.hid (HI.out.1 rfl)
        go_wp2_with fail
        go_end0
        refine ⟨rfl, X', xs, ?_, fun p hp => ?_, by have := HL.out; omega⟩
        · rw [HF.out]; exact HZ.out
        · rw [HF.out] at hp; cases hp
      | true =>
        obtain ⟨li, hli⟩ : ∃ li, oi = some li := by
          cases oi with
          | none => have := HO2.out rfl; cases this
          | some l => exact ⟨l, rfl⟩
        subst hli
        by_cases hlt : k < n
        · have hki : (k : Int) < (n : Int) := by omega
          have h128 := H8.out (by simp)
          go_wp2_with fail
          refine (int_w HY.out HZ.out (by have := HL.out; omega)).mono ?_
          rintro e w2 ⟨rfl, Y, x, r2, p2⟩
          have HR2 := Lib.hid r2
          have HP2 := Lib.hid (HI.out.step hlt p2)
          clear r2 p2 c1 c2 c3 d1 d2 d3
          go_wp2_with fail
          go_roundw
          case rel => exact ⟨k + 1, _, Y, xs ++ [x], by go_num, hlt, Lib.hid ⟨by rw [List.length_append, HL.out.1]; rfl, by omega⟩, HR2, HP2, Lib.hid (fun _ => h128)⟩
          case measure => simp [intOf]; omega
        · have hki : ¬ (k : Int) < (n : Int) := by omega
          have HF := Lib.hid (HI.out.2 li rfl)
          go_wp2_with fail
          go_end0
          have hf := HF.out
          rw [show n - k = 0 by omega, rdZs_zero] at hf
          simp only [Option.map_some, List.append_nil] at hf
          refine ⟨rfl, X', xs, ?_, fun p hp => ?_, by have := HL.out; omega⟩
          · rw [hf]; exact HZ.out
          · rw [hf] at hp; cases hp; rfl
  · have h8z : (n : Int) ≤ 128 := by omega
    go_wp2_with fail
    obtain ⟨wz, hwz⟩ : ∃ wz, wz = w1.setCell ⟨R, 0, none⟩ (.bool true) := ⟨_, rfl⟩
    rw [← hwz]
    have HZ := Lib.hid (HSTEP.out wz hwz)
    clear HSTEP hwz c1 c2 c3 d1 d2 d3
    go_loopw [5] (fun i wr => ∃ (k : Nat) (oi : Option (List UInt8)) (X' : Value) (xs : List Int), i = .int .i64 k ∧ k ≤ n ∧ Hid (xs.length = k ∧ k ≤ 128) ∧ Hid (RW B0 B S R F1 F2 E E0 wb oi A X' ts xs lg nx wr) ∧ Hid (TillZ T n k oi xs) ∧ Hid (oi ≠ none → n ≤ 128)) (fun i _ => n - (intOf i).toNat)
    case atStart => exact ⟨0, o2, X, [], rfl, by omega, Lib.hid ⟨rfl, by omega⟩, HZ, HI, H8⟩
    case round =>
      clear HZ HI H8
      obtain ⟨k, oi, X', xs, rfl, hk, HL, HZ, HI, H8⟩ := hrel
      obtain ⟨s, r, hns, hsz, ho1, ho2⟩ := HZ.out.1
      have HO1 := Lib.hid ho1
      have HO2 := Lib.hid ho2
      obtain ⟨⟨c1, c2, c3⟩, d1, d2, d3⟩ := hns
      clear ho1 ho2
      cases r with
      | false =>
        have hoi : oi = none := by
          cases oi with
          | none => rfl
          | some l => have := (HO1.out l rfl).1; cases this
        subst hoi
        have HF := Lib.hid (HI.out.1 rfl)
        go_wp2_with fail
        go_end0
        refine ⟨rfl, X', xs, ?_, fun p hp => ?_, by have := HL.out; omega⟩
        · rw [HF.out]; exact HZ.out
        · rw [HF.out] at hp; cases hp
      | true =>
        obtain ⟨li, hli⟩ : ∃ li, oi = some li := by
          cases oi with
          | none => have := HO2.out rfl; cases this
          | some l => exact ⟨l, rfl⟩
        subst hli
        by_cases hlt : k < n
        · have hki : (k : Int) < (n : Int) := by omega
          have h128 := H8.out (by simp)
          go_wp2_with fail
          refine (int_w HY.out HZ.out (by have := HL.out; omega)).mono ?_
          rintro e w2 ⟨rfl, Y, x, r2, p2⟩
          have HR2 := Lib.hid r2
          have HP2 := Lib.hid (HI.out.step hlt p2)
          clear r2 p2 c1 c2 c3 d1 d2 d3
          go_wp2_with fail
          go_roundw
          case rel => exact ⟨k + 1, _, Y, xs ++ [x], by go_num, hlt, Lib.hid ⟨by rw [List.length_append, HL.out.1]; rfl, by omega⟩, HR2, HP2, Lib.hid (fun _ => h128)⟩
          case measure => simp [intOf]; omega
        · have hki : ¬ (k : Int) < (n : Int) := by omega
          have HF := Lib.hid (HI.out.2 li rfl)
          go_wp2_with fail
          go_end0
          have hf := HF.out
          rw [show n - k = 0 by omega, rdZs_zero] at hf
          simp only [Option.map_some, List.append_nil] at hf
          refine ⟨rfl, X', xs, ?_, fun p hp => ?_, by have := HL.out; omega⟩
          · rw [hf]; exact HZ.out
          · rw [hf] at hp; cases hp; rfl
  · have h8d : decide ((n : Int) ≤ 128) = false := decide_eq_false (by omega)
    go_wp2_with fail
    obtain ⟨wz, hwz⟩ : ∃ wz, wz = w1.setCell ⟨R, 0, none⟩ (.bool false) := ⟨_, rfl⟩
    rw [← hwz]
    have HZ := Lib.hid (HSTEP.out wz hwz)
    clear HSTEP hwz c1 c2 c3 d1 d2 d3
    go_loopw [5] (fun i wr => ∃ (k : Nat) (oi : Option (List UInt8)) (X' : Value) (xs : List Int), i = .int .i64 k ∧ k ≤ n ∧ Hid (xs.length = k ∧ k ≤ 128) ∧ Hid (RW B0 B S R F1 F2 E E0 wb oi A X' ts xs lg nx wr) ∧ Hid (TillZ T n k oi xs) ∧ Hid (oi ≠ none → n ≤ 128)) (fun i _ => n - (intOf i).toNat)
    case atStart => exact ⟨0, o2, X, [], rfl, by omega, Lib.hid ⟨rfl, by omega⟩, HZ, HI, H8⟩
    case round =>
      clear HZ HI H8
      obtain ⟨k, oi, X', xs, rfl, hk, HL, HZ, HI, H8⟩ := hrel
      obtain ⟨s, r, hns, hsz, ho1, ho2⟩ := HZ.out.1
      have HO1 := Lib.hid ho1
      have HO2 := Lib.hid ho2
      obtain ⟨⟨c1, c2, c3⟩, d1, d2, d3⟩ := hns
      clear ho1 ho2
      cases r with
      | false =>
        have hoi : oi = none := by
          cases oi with
          | none => rfl
          | some l => have := (HO1.out l rfl).1; cases this
        subst hoi
        have HF := Lib.hid (HI.out.1 rfl)
        go_wp2_with fail
        go_end0
        refine ⟨rfl, X', xs, ?_, fun p hp => ?_, by have := HL.out; omega⟩
        · rw [HF.out]; exact HZ.out
        · rw [HF.out] at hp; cases hp
      | true =>
        obtain ⟨li, hli⟩ : ∃ li, oi = some li := by
          cases oi with
          | none => have := HO2.out rfl; cases this
          | some l => exact ⟨l, rfl⟩
        subst hli
        by_cases hlt : k < n
        · have hki : (k : Int) < (n : Int) := by omega
          have h128 := H8.out (by simp)
          go_wp2_with fail
          refine (int_w HY.out HZ.out (by have := HL.out; omega)).mono ?_
          rintro e w2 ⟨rfl, Y, x, r2, p2⟩
          have HR2 := Lib.hid r2
          have HP2 := Lib.hid (HI.out.step hlt p2)
          clear r2 p2 c1 c2 c3 d1 d2 d3
          go_wp2_with fail
          go_roundw
          case rel => exact ⟨k + 1, _, Y, xs ++ [x], by go_num, hlt, Lib.hid ⟨by rw [List.length_append, HL.out.1]; rfl, by omega⟩, HR2, HP2, Lib.hid (fun _ => h128)⟩
          case measure => simp [intOf]; omega
        · have hki : ¬ (k : Int) < (n : Int) := by omega
          have HF := Lib.hid (HI.out.2 li rfl)
          go_wp2_with fail
          go_end0
          have hf := HF.out
          rw [show n - k = 0 by omega, rdZs_zero] at hf
          simp only [Option.map_some, List.append_nil] at hf
          refine ⟨rfl, X', xs, ?_, fun p hp => ?_, by have := HL.out; omega⟩
          · rw [hf]; exact HZ.out
          · rw [hf] at hp; cases hp; rfl
end Go.Proofs.Ytkpemlgolpihiaa
namespace Go.Proofs.Ytkpemlgolpihiaa
set_option maxRecDepth 100000
open Go.RowKit
set_option linter.unusedVariables false
set_option linter.unusedSimpArgs false

theorem rdE_eq (l : List UInt8) : rdE l = (rdEachT l).bind fun ts => (rdEachZ ts.2).bind fun zs => (rdN zs.2).bind fun a => (rdN a.2).bind fun b => if b.2 = [] then some (ts.1, zs.1, ((a.1 : Nat) : Int), ((b.1 : Nat) : Int)) else none := by
  unfold rdE rdEachT
  cases rdN l with
  | none => rfl
  | some n =>
    simp only [Option.bind_some]
    by_cases h : n.1 ≤ 128
    · rw [if_pos h, if_pos h]
      cases rdTs n.1 n.2 with
      | none => rfl
      | some ts =>
        simp only [Option.bind_some]
        unfold rdEachZ
        cases rdN ts.2 with
        | none => rfl
        | some m =>
          simp only [Option.bind_some]
          by_cases h2 : m.1 ≤ 128
          · rw [if_pos h2, if_pos h2]
          · rw [if_neg h2, if_neg h2]; rfl
    · rw [if_neg h, if_neg h]; rfl
theorem rdE_all {l : List UInt8} {ts : List Tb} {zs : List Int} {n1 n2 : Nat} (h1 : ∀ p, (some l).bind rdEachT = some p → ts = p.1) (h2 : ∀ p, ((((some l).bind rdEachT).map (·.2)).bind rdEachZ) = some p → zs = p.1)
    (h3 : ∀ p, ((((((some l).bind rdEachT).map (·.2)).bind rdEachZ).map (·.2)).bind rdN) = some p → n1 = p.1) (h4 : ∀ p, ((((((((some l).bind rdEachT).map (·.2)).bind rdEachZ).map (·.2)).bind rdN).map (·.2)).bind rdN) = some p → n2 = p.1) :
    (∀ r, ((((((((some l).bind rdEachT).map (·.2)).bind rdEachZ).map (·.2)).bind rdN).map (·.2)).bind rdN).map (·.2) = some r → rdE l = if r = [] then some (ts, zs, (n1 : Int), (n2 : Int)) else none) ∧
    (((((((((some l).bind rdEachT).map (·.2)).bind rdEachZ).map (·.2)).bind rdN).map (·.2)).bind rdN).map (·.2) = none → rdE l = none) := by
  rw [rdE_eq]
  simp only [Option.bind_some] at h1 h2 h3 h4 ⊢
  cases e1 : rdEachT l with
  | none => exact ⟨fun r hr => (by cases hr), fun _ => rfl⟩
  | some p =>
    rw [e1] at h2 h3 h4
    rw [h1 p e1]
    simp only [Option.map_some, Option.bind_some] at h2 h3 h4 ⊢
    cases e2 : rdEachZ p.2 with
    | none => exact ⟨fun r hr => (by cases hr), fun _ => rfl⟩
    | some q =>
      rw [e2] at h3 h4
      rw [h2 q e2]
      simp only [Option.map_some, Option.bind_some] at h3 h4 ⊢
      cases e3 : rdN q.2 with
      | none => exact ⟨fun r hr => (by cases hr), fun _ => rfl⟩
      | some a =>
        rw [e3] at h4
        rw [h3 a e3]
        simp only [Option.map_some, Option.bind_some] at h4 ⊢
        cases e4 : rdN a.2 with
        | none => exact ⟨fun r hr => (by cases hr), fun _ => rfl⟩
        | some b =>
          rw [h4 b e4]
          refine ⟨fun r hr => ?_, fun hr => (by cases hr)⟩
          simp only [Option.map_some, Option.some.injEq] at hr
          rw [← hr]
          rfl
theorem RW.setL {B0 B S R F1 F2 E E0 : Nat} {wb w : World} {o : Option (List UInt8)} {A D : Value} {ts : List Tb} {zs : List Int} {lg nx : Int} (hy : LY B0 B S R F1 F2 E E0) (h : RW B0 B S R F1 F2 E E0 wb o A D ts zs lg nx w) (z : Int) :
    RW B0 B S R F1 F2 E E0 wb o A D ts zs z nx (w.setCell ⟨E, 2, none⟩ (.int .i64 z)) := by
  obtain ⟨y0, y1, y2, y3, y4⟩ := hy
  obtain ⟨h1, h2, h3, h4, h5, h6, h7, h8, h9, h10⟩ := h
  have k2 : KeepX (fun y => y = E) w (w.setCell ⟨E, 2, none⟩ (.int .i64 z)) := (KeepX.refl (fun y => y = E) w).set (p := ⟨E, 2, none⟩) rfl _
  have n5 : ∀ g, B ≤ g → g < w.heap.size → (w.setCell ⟨E, 2, none⟩ (.int .i64 z)).heap[g]? = w.heap[g]? := fun g hg hl => k2.1 g hl (by omega)
  exact ⟨h1.keep k2 (by omega) (by omega), h2.keep k2 (by omega) (by omega), h3.set2 z, h4.keep k2 (by omega), own_keep h5 n5, own_keep h6 n5, h7, h8.setCell (p := ⟨E, 2, none⟩) (by show B0 ≤ E; omega) _, by simpa using h9, h10⟩
theorem RW.setN {B0 B S R F1 F2 E E0 : Nat} {wb w : World} {o : Option (List UInt8)} {A D : Value} {ts : List Tb} {zs : List Int} {lg nx : Int} (hy : LY B0 B S R F1 F2 E E0) (h : RW B0 B S R F1 F2 E E0 wb o A D ts zs lg nx w) (z : Int) :
    RW B0 B S R F1 F2 E E0 wb o A D ts zs lg z (w.setCell ⟨E, 3, none⟩ (.int .i64 z)) := by
  obtain ⟨y0, y1, y2, y3, y4⟩ := hy
  obtain ⟨h1, h2, h3, h4, h5, h6, h7, h8, h9, h10⟩ := h
  have k2 : KeepX (fun y => y = E) w (w.setCell ⟨E, 3, none⟩ (.int .i64 z)) := (KeepX.refl (fun y => y = E) w).set (p := ⟨E, 3, none⟩) rfl _
  have n5 : ∀ g, B ≤ g → g < w.heap.size → (w.setCell ⟨E, 3, none⟩ (.int .i64 z)).heap[g]? = w.heap[g]? := fun g hg hl => k2.1 g hl (by omega)
  exact ⟨h1.keep k2 (by omega) (by omega), h2.keep k2 (by omega) (by omega), h3.set3 z, h4.keep k2 (by omega), own_keep h5 n5, own_keep h6 n5, h7, h8.setCell (p := ⟨E, 3, none⟩) (by show B0 ≤ E; omega) _, by simpa using h9, h10⟩
/-- A box of one cell. -/
def BoxC (w : World) (x : Nat) (v : Value) : Prop := w.cell? ⟨x, 0, none⟩ = some v ∧ w.frozen? ⟨x, 0, none⟩ = false ∧ x < w.heap.size
theorem BoxC.new (w : World) (v : Value) (T : TypeId) : BoxC (w.alloc (.cells #[v] T)) w.heap.size v := ⟨by simp, by simp, by simp⟩
theorem BoxC.al {w : World} {x : Nat} {v : Value} (h : BoxC w x v) (o : Obj) : BoxC (w.alloc o) x v := by
  have hk := KeepX.of (X := fun _ => False) (box_bel w o)
  exact ⟨(hk.cell h.2.2 id 0).1.trans h.1, (hk.cell h.2.2 id 0).2.trans h.2.1, Nat.lt_of_lt_of_le h.2.2 hk.2⟩
/-- What read leaves. -/
def RDE (s : ByteArray) (w : World) (e : Ending) (w' : World) : Prop := ∃ V r d, e = .returned (.tuple #[V, .bool r]) ∧ (∀ wf, KeepX (fun y => y < w.heap.size) w' wf → EV wf V d) ∧ (r = true → rdE s.data.toList = some d) ∧ (r = false → rdE s.data.toList = none) ∧ Below w.heap.size w w'
theorem own_sz {w : World} {base n : Nat} {v : Value} {zs : List Int} (h : w.ownsRow base 3 1 v n (iv zs)) (hn : zs.length = n) : ∃ a cap, v = .slice a n cap ∧ SZ w a n cap zs := by
  rcases h.2 with ⟨rfl, hnil⟩ | ⟨g, cap, cur, rfl, hbg, hh, hnc, hcm, _⟩
  · have h0 : zs = [] := List.length_eq_zero_iff.1 (hn.trans hnil)
    subst h0
    have : n = 0 := by simpa using hn.symm
    subst this
    exact ⟨none, 0, rfl, rfl, .inl rfl, Nat.le_refl _, Nat.zero_le _⟩
  · refine ⟨_, cap, rfl, hn, .inr ⟨g, 0, rfl, heap_lt hh, fun i hi => ?_⟩, hnc, hcm⟩
    have e' : ∀ j, (⟨g, 0, none⟩ : Addr).add j = ⟨g, 0 + j, none⟩ := by intro j; unfold Addr.add; split <;> simp_all
    have c := h.cells (g := g) rfl i (.int .i64 zs[i]) (by unfold iv; rw [List.getElem?_map, List.getElem?_eq_getElem hi]; rfl)
    rw [e'] at c
    exact c
set_option maxHeartbeats 16000000 in
theorem read_w (s : ByteArray) (hs : s.size ≤ 16777216) (w : World) : Calls Try.prog 35 #[.string s] w (RDE s w) := by
  have H0 : Hid (RW w.heap.size (w.heap.size + 1 + 1 + 1 + 1 + 1 + 1) w.heap.size (w.heap.size + 1 + 1) (w.heap.size + 1 + 1 + 1) (w.heap.size + 1 + 1 + 1 + 1) (w.heap.size + 1 + 1 + 1 + 1 + 1) (w.heap.size + 1) w (some s.data.toList) (.slice none 0 0) (.slice none 0 0) [] [] 0 0
      ((((((w.alloc (.cells #[.string s] 9)).alloc (.cells #[.slice none 0 0, .slice none 0 0, .int .i64 0, .int .i64 0] 25)).alloc (.cells #[.bool true] 4)).alloc (.cells #[.func (.func 55) #[] #[.pointer (some ⟨w.heap.size, 0, none⟩), .pointer (some ⟨w.heap.size + 1 + 1, 0, none⟩)]] 74)).alloc (.cells #[.func (.func 57) #[] #[.pointer (some ⟨w.heap.size, 0, none⟩), .pointer (some ⟨w.heap.size + 1 + 1, 0, none⟩)]] 66)).alloc (.cells #[.slice none 0 0, .slice none 0 0, .int .i64 0, .int .i64 0] 25))) := Lib.hid (by
    generalize hW1 : w.alloc (.cells #[.string s] 9) = W1
    have z1 : W1.heap.size = w.heap.size + 1 := by rw [← hW1]; simp
    have q1 : BoxC W1 w.heap.size (.string s) := by rw [← hW1]; exact BoxC.new _ _ _
    have t1 : Below w.heap.size w W1 := by rw [← hW1]; exact box_bel _ _
    clear hW1
    generalize hW2 : W1.alloc (.cells #[.slice none 0 0, .slice none 0 0, .int .i64 0, .int .i64 0] 25) = W2
    have z2 : W2.heap.size = w.heap.size + 1 + 1 := by rw [← hW2, ← z1]; simp
    have q2 := (q1.al (.cells #[.slice none 0 0, .slice none 0 0, .int .i64 0, .int .i64 0] 25))
    have g2 := EdW.new W1 25 (.slice none 0 0) (.slice none 0 0) 0 0
    have k2 := box_bel W1 (.cells #[.slice none 0 0, .slice none 0 0, .int .i64 0, .int .i64 0] 25)
    rw [hW2] at q2 g2 k2
    rw [z1] at g2 k2
    have t2 := t1.trans (k2.mono (by omega))
    clear hW2 q1 k2 t1
    generalize hW3 : W2.alloc (.cells #[.bool true] 4) = W3
    have z3 : W3.heap.size = w.heap.size + 1 + 1 + 1 := by rw [← hW3, ← z2]; simp
    have q3 := q2.al (.cells #[.bool true] 4)
    have g3 := g2.keep (X := fun _ => False) (KeepX.of (box_bel W2 (.cells #[.bool true] 4))) id
    have r3 := BoxC.new W2 (.bool true) 4
    have k3 := box_bel W2 (.cells #[.bool true] 4)
    rw [hW3] at q3 g3 r3 k3
    rw [z2] at r3 k3
    have t3 := t2.trans (k3.mono (by omega))
    clear hW3 q2 g2 k3 t2
    generalize hW4 : W3.alloc (.cells #[.func (.func 55) #[] #[.pointer (some ⟨w.heap.size, 0, none⟩), .pointer (some ⟨w.heap.size + 1 + 1, 0, none⟩)]] 74) = W4
    have z4 : W4.heap.size = w.heap.size + 1 + 1 + 1 + 1 := by rw [← hW4, ← z3]; simp
    have q4 := q3.al (.cells #[.func (.func 55) #[] #[.pointer (some ⟨w.heap.size, 0, none⟩), .pointer (some ⟨w.heap.size + 1 + 1, 0, none⟩)]] 74)
    have r4 := r3.al (.cells #[.func (.func 55) #[] #[.pointer (some ⟨w.heap.size, 0, none⟩), .pointer (some ⟨w.heap.size + 1 + 1, 0, none⟩)]] 74)
    have g4 := g3.keep (X := fun _ => False) (KeepX.of (box_bel W3 (.cells #[.func (.func 55) #[] #[.pointer (some ⟨w.heap.size, 0, none⟩), .pointer (some ⟨w.heap.size + 1 + 1, 0, none⟩)]] 74))) id
    have m4 := BoxC.new W3 (.func (.func 55) #[] #[.pointer (some ⟨w.heap.size, 0, none⟩), .pointer (some ⟨w.heap.size + 1 + 1, 0, none⟩)]) 74
    have k4 := box_bel W3 (.cells #[.func (.func 55) #[] #[.pointer (some ⟨w.heap.size, 0, none⟩), .pointer (some ⟨w.heap.size + 1 + 1, 0, none⟩)]] 74)
    rw [hW4] at q4 r4 g4 m4 k4
    rw [z3] at m4 k4
    have t4 := t3.trans (k4.mono (by omega))
    clear hW4 q3 g3 r3 k4 t3
    generalize hW5 : W4.alloc (.cells #[.func (.func 57) #[] #[.pointer (some ⟨w.heap.size, 0, none⟩), .pointer (some ⟨w.heap.size + 1 + 1, 0, none⟩)]] 66) = W5
    have z5 : W5.heap.size = w.heap.size + 1 + 1 + 1 + 1 + 1 := by rw [← hW5, ← z4]; simp
    have q5 := q4.al (.cells #[.func (.func 57) #[] #[.pointer (some ⟨w.heap.size, 0, none⟩), .pointer (some ⟨w.heap.size + 1 + 1, 0, none⟩)]] 66)
    have r5 := r4.al (.cells #[.func (.func 57) #[] #[.pointer (some ⟨w.heap.size, 0, none⟩), .pointer (some ⟨w.heap.size + 1 + 1, 0, none⟩)]] 66)
    have m5 := m4.al (.cells #[.func (.func 57) #[] #[.pointer (some ⟨w.heap.size, 0, none⟩), .pointer (some ⟨w.heap.size + 1 + 1, 0, none⟩)]] 66)
    have g5 := g4.keep (X := fun _ => False) (KeepX.of (box_bel W4 (.cells #[.func (.func 57) #[] #[.pointer (some ⟨w.heap.size, 0, none⟩), .pointer (some ⟨w.heap.size + 1 + 1, 0, none⟩)]] 66))) id
    have n5 := BoxC.new W4 (.func (.func 57) #[] #[.pointer (some ⟨w.heap.size, 0, none⟩), .pointer (some ⟨w.heap.size + 1 + 1, 0, none⟩)]) 66
    have k5 := box_bel W4 (.cells #[.func (.func 57) #[] #[.pointer (some ⟨w.heap.size, 0, none⟩), .pointer (some ⟨w.heap.size + 1 + 1, 0, none⟩)]] 66)
    rw [hW5] at q5 r5 m5 g5 n5 k5
    rw [z4] at n5 k5
    have t5 := t4.trans (k5.mono (by omega))
    clear hW5 q4 g4 r4 m4 k5 t4
    generalize hW6 : W5.alloc (.cells #[.slice none 0 0, .slice none 0 0, .int .i64 0, .int .i64 0] 25) = W6
    have z6 : W6.heap.size = w.heap.size + 1 + 1 + 1 + 1 + 1 + 1 := by rw [← hW6, ← z5]; simp
    have q6 := q5.al (.cells #[.slice none 0 0, .slice none 0 0, .int .i64 0, .int .i64 0] 25)
    have r6 := r5.al (.cells #[.slice none 0 0, .slice none 0 0, .int .i64 0, .int .i64 0] 25)
    have m6 := m5.al (.cells #[.slice none 0 0, .slice none 0 0, .int .i64 0, .int .i64 0] 25)
    have n6 := n5.al (.cells #[.slice none 0 0, .slice none 0 0, .int .i64 0, .int .i64 0] 25)
    have g6 := g5.keep (X := fun _ => False) (KeepX.of (box_bel W5 (.cells #[.slice none 0 0, .slice none 0 0, .int .i64 0, .int .i64 0] 25))) id
    have h6 := EdW.new W5 25 (.slice none 0 0) (.slice none 0 0) 0 0
    have k6 := box_bel W5 (.cells #[.slice none 0 0, .slice none 0 0, .int .i64 0, .int .i64 0] 25)
    rw [hW6] at q6 r6 m6 n6 g6 h6 k6
    rw [z5] at h6 k6
    have t6 := t5.trans (k6.mono (by omega))
    exact ⟨⟨s, true, ⟨q6, r6⟩, hs, fun l hl => ⟨rfl, by simpa using hl⟩, fun hl => by cases hl⟩, ⟨m6.1, n6.1, m6.2.2, n6.2.2⟩, h6, g6, World.ownsRow_nil _ _ _ _, World.ownsRow_nil _ _ _ _, fun t ht => by simp at ht, t6, by omega, by omega⟩)
  have hy : LY w.heap.size (w.heap.size + 1 + 1 + 1 + 1 + 1 + 1) w.heap.size (w.heap.size + 1 + 1) (w.heap.size + 1 + 1 + 1) (w.heap.size + 1 + 1 + 1 + 1) (w.heap.size + 1 + 1 + 1 + 1 + 1) (w.heap.size + 1) := by unfold LY; omega
  go_enter Try.func35, Try.ntmps35
  go_wp2_with fail
  generalize ((((((w.alloc (.cells #[.string s] 9)).alloc (.cells #[.slice none 0 0, .slice none 0 0, .int .i64 0, .int .i64 0] 25)).alloc (.cells #[.bool true] 4)).alloc (.cells #[.func (.func 55) #[] #[.pointer (some ⟨w.heap.size, 0, none⟩), .pointer (some ⟨w.heap.size + 1 + 1, 0, none⟩)]] 74)).alloc (.cells #[.func (.func 57) #[] #[.pointer (some ⟨w.heap.size, 0, none⟩), .pointer (some ⟨w.heap.size + 1 + 1, 0, none⟩)]] 66)).alloc (.cells #[.slice none 0 0, .slice none 0 0, .int .i64 0, .int .i64 0] 25)) = w0 at *
  obtain ⟨B0, hB0⟩ : ∃ B0, B0 = w.heap.size := ⟨_, rfl⟩
  rw [← hB0] at H0 hy ⊢
  obtain ⟨E0, hE0⟩ : ∃ E0, E0 = B0 + 1 := ⟨_, rfl⟩
  rw [← hE0] at H0 hy ⊢
  obtain ⟨R, hR⟩ : ∃ R, R = E0 + 1 := ⟨_, rfl⟩
  rw [← hR] at H0 hy ⊢
  obtain ⟨F1, hF1⟩ : ∃ F1, F1 = R + 1 := ⟨_, rfl⟩
  rw [← hF1] at H0 hy ⊢
  obtain ⟨F2, hF2⟩ : ∃ F2, F2 = F1 + 1 := ⟨_, rfl⟩
  rw [← hF2] at H0 hy ⊢
  obtain ⟨E, hE⟩ : ∃ E, E = F2 + 1 := ⟨_, rfl⟩
  rw [← hE] at H0 hy ⊢
  obtain ⟨B, hB⟩ : ∃ B, B = E + 1 := ⟨_, rfl⟩
  rw [← hB] at H0 hy
  have HY := Lib.hid hy
  have HB0 := Lib.hid hB0
  clear hy hB0 hE0 hR hF1 hF2 hE hB
  refine (eachT_w HY.out H0.out).mono ?_
  rintro e w1 ⟨rfl, A1, ts, r1, p1, l1⟩
  have HR1 := Lib.hid r1
  have HP1 := Lib.hid p1
  clear r1 p1 H0
  go_wp2_with fail
  refine (eachZ_w HY.out HR1.out).mono ?_
  rintro e w2 ⟨rfl, D1, zs, r2, p2, l2⟩
  have HR2 := Lib.hid r2
  have HP2 := Lib.hid p2
  obtain ⟨f1, f2, f3, f4⟩ := r2.2.1
  clear r2 p2 HR1
  go_wp2_with fail
  refine (num_w HY.out HR2.out).mono ?_
  rintro e w3 ⟨n1, rfl, hn1, r3, p3⟩
  have HR3 := Lib.hid (r3.setL HY.out (n1 : Int))
  have HP3 := Lib.hid p3
  obtain ⟨⟨⟨y0, y1, y2, y3, y4⟩, x0, x1, x2, x3⟩, -⟩ := r3.2.2
  clear f1 f2 f3 f4 r3 p3 HR2
  obtain ⟨f1, f2, f3, f4⟩ := HR3.out.2.1
  go_wp2_with fail
  refine (num_w HY.out HR3.out).mono ?_
  rintro e w4 ⟨n2, rfl, hn2, r4, p4⟩
  have HR4 := Lib.hid (r4.setN HY.out (n2 : Int))
  obtain ⟨q1, q2⟩ := rdE_all HP1.out HP2.out HP3.out p4
  have HQ := Lib.hid (And.intro q1 q2)
  clear q1 q2 HP1 HP2 HP3
  generalize Option.map (fun (x : Nat × List UInt8) => x.2) (Option.bind (Option.map (fun (x : Nat × List UInt8) => x.2) (Option.bind (Option.map (fun (x : List Int × List UInt8) => x.2) (Option.bind (Option.map (fun (x : List Tb × List UInt8) => x.2) ((some s.data.toList).bind rdEachT)) rdEachZ)) rdN)) rdN) = o4 at HR4 HQ
  clear y0 y1 y2 y3 y4 x0 x1 x2 x3 f1 f2 f3 f4
  obtain ⟨⟨⟨y0, y1, y2, y3, y4⟩, x0, x1, x2, x3⟩, -⟩ := r4.2.2
  clear r4 p4 HR3
  go_wp2_with fail
  clear y0 y1 y2 y3 y4 x0 x1 x2 x3
  generalize w4.setCell ⟨E, 3, none⟩ (.int .i64 (n2 : Int)) = wz at *
  obtain ⟨s', r', hns, hsz, ho1, ho2⟩ := HR4.out.1
  obtain ⟨⟨c1, c2, c3⟩, d1, d2, d3⟩ := hns
  obtain ⟨⟨y0, y1, y2, y3, y4⟩, -⟩ := HR4.out.2.2.1
  obtain ⟨⟨z0, z1, z2, z3, z4⟩, x0, x1, x2, x3⟩ := HR4.out.2.2.2.1
  obtain ⟨aa, ac, rfl, hst⟩ := own_st HR4.out.2.2.2.2.1 rfl
  obtain ⟨da, dc, rfl, hsz2⟩ := own_sz HR4.out.2.2.2.2.2.1 rfl
  have hyo := HY.out
  have ne1 : ¬ B0 = E0 := by have := hyo.2.2; omega
  have ne2 : ¬ R = E0 := by have := hyo.2.2; omega
  have ne3 : ¬ E = E0 := by have := hyo.2.2; omega
  have ne4 : ¬ E0 = B0 := by have := hyo.2.2; omega
  have ne5 : ¬ E0 = R := by have := hyo.2.2; omega
  have ne6 : ¬ E0 = E := by have := hyo.2.2; omega
  have HE : Hid (∀ wf, KeepX (fun y => y < B) wz wf → EV wf (.agg #[.slice aa ts.length ac, .slice da zs.length dc, .int .i64 (n1 : Int), .int .i64 (n2 : Int)]) (ts, zs, (n1 : Int), (n2 : Int))) := Lib.hid (fun wf hk => by
    have nb : ∀ g, B ≤ g → g < wz.heap.size → wf.heap[g]? = wz.heap[g]? := fun g hg hl => hk.1 g hl (by omega)
    obtain ⟨a', c', e1, st⟩ := own_st (own_keep HR4.out.2.2.2.2.1 nb) rfl
    obtain ⟨a2', c2', e2, sz⟩ := own_sz (own_keep HR4.out.2.2.2.2.2.1 nb) rfl
    cases e1
    cases e2
    exact ⟨_, _, _, _, _, _, rfl, st, sz, HR4.out.2.2.2.2.2.2.1⟩)
  have HBW := Lib.hid HR4.out.2.2.2.2.2.2.2.1
  have HOO := Lib.hid (And.intro ho1 ho2)
  obtain ⟨tn, htn⟩ : ∃ tn, tn = ts.length := ⟨_, rfl⟩
  obtain ⟨zn, hzn⟩ : ∃ zn, zn = zs.length := ⟨_, rfl⟩
  rw [← htn] at y0 HE
  rw [← hzn] at y1 HE
  have hB0E : B0 ≤ E0 := by have := hyo.1; omega
  have hE0B : E0 < B := hyo.2.1.2.2.2.2.2
  have hB0B : w.heap.size ≤ B := by have := hyo.1; have := HB0.out; omega
  clear hyo ho1 ho2 hst hsz2 HR4 htn hzn
  have HKF : Hid (∀ (u0 u1 u2 u3 : Value), KeepX (fun y => y < B) wz ((((wz.drew.setCell ⟨E0, 0, none⟩ u0).setCell ⟨E0, 1, none⟩ u1).setCell ⟨E0, 2, none⟩ u2).setCell ⟨E0, 3, none⟩ u3) ∧ Below B0 w ((((wz.drew.setCell ⟨E0, 0, none⟩ u0).setCell ⟨E0, 1, none⟩ u1).setCell ⟨E0, 2, none⟩ u2).setCell ⟨E0, 3, none⟩ u3)) := Lib.hid (fun u0 u1 u2 u3 =>
    ⟨((((KeepX.refl (fun y => y < B) wz).drew.set (p := ⟨E0, 0, none⟩) hE0B u0).set (p := ⟨E0, 1, none⟩) hE0B u1).set (p := ⟨E0, 2, none⟩) hE0B u2).set (p := ⟨E0, 3, none⟩) hE0B u3,
     (((HBW.out.drew.setCell (p := ⟨E0, 0, none⟩) hB0E u0).setCell (p := ⟨E0, 1, none⟩) hB0E u1).setCell (p := ⟨E0, 2, none⟩) hB0E u2).setCell (p := ⟨E0, 3, none⟩) hB0E u3⟩)
  cases r' with
  | false =>
    have HN : Hid (rdE s.data.toList = none) := Lib.hid (HQ.out.2 (by
      cases o4 with
      | none => rfl
      | some l => have := (HOO.out.1 l rfl).1; cases this))
    go_region
    go_wp2
    refine bodyPost_ret (v := .tuple #[.agg #[.slice aa tn ac, .slice da zn dc, .int .i64 (n1 : Int), .int .i64 (n2 : Int)], .bool false]) (by simp [results, Try.results35, go_sem, z0, z1, z2, z3, z4]) rfl ?_
    exact ⟨_, false, _, rfl, fun wf hk => HE.out wf ((HKF.out _ _ _ _).1.trans (hk.weaken fun y _ hy => by omega)), fun h => (by cases h), fun _ => HN.out, by have := (HKF.out (.slice aa tn ac) (.slice da zn dc) (.int .i64 (n1 : Int)) (.int .i64 (n2 : Int))).2; rw [HB0.out] at this; exact this⟩
  | true =>
    obtain ⟨l4, hl4⟩ : ∃ l4, o4 = some l4 := by
      cases o4 with
      | none => have := HOO.out.2 rfl; cases this
      | some l => exact ⟨l, rfl⟩
    have hsl := (HOO.out.1 l4 hl4).2
    have hq := HQ.out.1 l4 hl4
    by_cases h0 : l4 = []
    · rw [if_pos h0] at hq
      have HN := Lib.hid hq
      have hs0 : s' = ⟨#[]⟩ := by
        apply ByteArray.ext
        apply Array.toList_inj.1
        first | (rw [hsl, h0]; done) | (rw [hsl, h0]; rfl)
      subst hs0
      clear hq hsl h0 hl4
      go_region
      go_wp2
      refine bodyPost_ret (v := .tuple #[.agg #[.slice aa tn ac, .slice da zn dc, .int .i64 (n1 : Int), .int .i64 (n2 : Int)], .bool true]) (by simp [results, Try.results35, go_sem, z0, z1, z2, z3, z4]) rfl ?_
      exact ⟨_, true, _, rfl, fun wf hk => HE.out wf ((HKF.out _ _ _ _).1.trans (hk.weaken fun y _ hy => by omega)), fun _ => HN.out, fun h => (by cases h), by have := (HKF.out (.slice aa tn ac) (.slice da zn dc) (.int .i64 (n1 : Int)) (.int .i64 (n2 : Int))).2; rw [HB0.out] at this; exact this⟩
    · rw [if_neg h0] at hq
      have HN := Lib.hid hq
      have hne : ¬ s' = ⟨#[]⟩ := fun e => h0 (by rw [← hsl, e])
      have hsn := str_ne hne
      have hsi : s'.toList.isEmpty = false := by
        cases e : s'.toList.isEmpty with
        | false => rfl
        | true => exact absurd (emB_iff.1 e) hne
      clear hq hsl h0 hl4 hne
      go_region
      go_wp2
      refine bodyPost_ret (v := .tuple #[.agg #[.slice aa tn ac, .slice da zn dc, .int .i64 (n1 : Int), .int .i64 (n2 : Int)], .bool false]) (by simp [results, Try.results35, go_sem, z0, z1, z2, z3, z4]) rfl ?_
      exact ⟨_, false, _, rfl, fun wf hk => HE.out wf ((HKF.out _ _ _ _).1.trans (hk.weaken fun y _ hy => by omega)), fun h => (by cases h), fun _ => HN.out, by have := (HKF.out (.slice aa tn ac) (.slice da zn dc) (.int .i64 (n1 : Int)) (.int .i64 (n2 : Int))).2; rw [HB0.out] at this; exact this⟩
end Go.Proofs.Ytkpemlgolpihiaa
namespace Go.Proofs.Ytkpemlgolpihiaa
set_option maxRecDepth 100000
open Go.RowKit
set_option linter.unusedVariables false
set_option linter.unusedSimpArgs false

/-- What Take leaves of bytes. -/
def tkD (s : ByteArray) : Ed := (takE s.data.toList).getD ([], [], 0, 0)
def tkN (s : ByteArray) : Int := if (takE s.data.toList).isSome = true then 0 else 120
def TKE (s : ByteArray) (w : World) (e : Ending) (w' : World) : Prop := ∃ V, e = .returned (.tuple #[V, .int .i64 (tkN s)]) ∧ EV w' V (tkD s) ∧ Below w.heap.size w w'
theorem EV.zero (w : World) : EV w (.agg #[.slice none 0 0, .slice none 0 0, .int .i64 0, .int .i64 0]) ([], [], 0, 0) :=
  ⟨none, 0, 0, none, 0, 0, rfl, ⟨rfl, .inl rfl, Nat.le_refl _, Nat.zero_le _⟩, ⟨rfl, .inl rfl, Nat.le_refl _, Nat.zero_le _⟩, fun t ht => by simp at ht⟩
theorem tk_no {s : ByteArray} (h : takE s.data.toList = none) : tkD s = ([], [], 0, 0) ∧ tkN s = 120 := by
  unfold tkD tkN; rw [h]; exact ⟨rfl, rfl⟩
theorem tk_yes {s : ByteArray} {d : Ed} (h : takE s.data.toList = some d) : tkD s = d ∧ tkN s = 0 := by
  unfold tkD tkN; rw [h]; exact ⟨rfl, rfl⟩
/-- What is written into a block that was not there changes nothing that was. -/
theorem below_new {w w' : World} {x : Nat} (h : Below w.heap.size w w') (hx : w.heap.size ≤ x) (i : Nat) (v : Value) : Below w.heap.size w (w'.setCell ⟨x, i, none⟩ v) := h.setCell (p := ⟨x, i, none⟩) hx v
set_option maxHeartbeats 8000000 in
theorem take12_any (s : ByteArray) (hs : s.size ≤ 16777216) (w : World) : Calls Try.prog 13 #[.string s] w (TKE s w) := by
  obtain ⟨w1, hw1⟩ : ∃ w1, w1 = w.alloc (.cells #[.slice none 0 0, .slice none 0 0, .int .i64 0, .int .i64 0] 25) := ⟨_, rfl⟩
  have CR := Lib.hid (read_w s hs w1)
  have g0 := EdW.new w 25 (.slice none 0 0) (.slice none 0 0) 0 0
  have b0 := box_bel w (.cells #[.slice none 0 0, .slice none 0 0, .int .i64 0, .int .i64 0] 25)
  rw [← hw1] at g0 b0
  have z1 : w.heap.size < w1.heap.size := by rw [hw1]; simp
  obtain ⟨x0, hx0⟩ : ∃ x0, x0 = w.heap.size := ⟨_, rfl⟩
  have HB0 := Lib.hid b0
  have HG0 := Lib.hid g0
  clear g0 b0
  go_enter Try.func13, Try.ntmps13
  go_wp2_with fail
  rw [← hw1, ← hx0]
  rw [← hx0] at HG0 z1
  have HX := Lib.hid hx0
  clear hw1 hx0
  refine CR.out.mono ?_
  rintro e w2 ⟨V, r, d, rfl, hev, h1, h2, b2⟩
  have HG2 := Lib.hid (HG0.out.keep (X := fun _ => False) (KeepX.of b2) id)
  have HB2 := Lib.hid (HB0.out.trans (b2.mono HB0.out.size))
  have HD := Lib.hid (And.intro h1 h2)
  have HEF := Lib.hid hev
  replace hev := hev w2 (KeepX.refl _ _)
  have HZ1 := Lib.hid z1
  have z2 : x0 < w2.heap.size := Nat.lt_of_lt_of_le z1 b2.size
  have CK := Lib.hid fun (wx : World) (hx : Below w2.heap.size w2 wx) => chk12_any V d wx (hev.old hx)
  obtain ⟨aa, an, ac, da, dn, dc, rfl, hst, hsz, hok⟩ := id hev
  obtain ⟨ts, zs, lg, nx⟩ := d
  simp only at *
  have HEV := Lib.hid hev
  have HX2 : Hid (w.heap.size ≤ x0) := Lib.hid (by rw [HX.out]; exact Nat.le_refl _)
  have hxn : ¬ x0 = w2.heap.size := by omega
  have hnx : ¬ w2.heap.size = x0 := by omega
  clear h1 h2 b2 hev hst hsz hok CR HG0 HB0 z1
  have HBA := Lib.hid (box_bel w2 (.cells #[.slice aa an ac, .slice da dn dc, .int .i64 lg, .int .i64 nx] 25))
  have bx := Lib.hid (EdBox.new w2 25 (.slice aa an ac) (.slice da dn dc) lg nx)
  have HFIN : Hid (∀ (wf : World) (u0 u1 u2 u3 : Value), Below w2.heap.size w2 wf → EV ((((wf.setCell ⟨x0, 0, none⟩ u0).setCell ⟨x0, 1, none⟩ u1).setCell ⟨x0, 2, none⟩ u2).setCell ⟨x0, 3, none⟩ u3) (.agg #[.slice aa an ac, .slice da dn dc, .int .i64 lg, .int .i64 nx]) (ts, zs, lg, nx) ∧ Below w.heap.size w ((((wf.setCell ⟨x0, 0, none⟩ u0).setCell ⟨x0, 1, none⟩ u1).setCell ⟨x0, 2, none⟩ u2).setCell ⟨x0, 3, none⟩ u3)) := Lib.hid (fun wf u0 u1 u2 u3 hb =>
    ⟨HEF.out _ (((((KeepX.of (X := fun y => y < w1.heap.size) hb).set (p := ⟨x0, 0, none⟩) HZ1.out u0).set (p := ⟨x0, 1, none⟩) HZ1.out u1).set (p := ⟨x0, 2, none⟩) HZ1.out u2).set (p := ⟨x0, 3, none⟩) HZ1.out u3),
     below_new (below_new (below_new (below_new (HB2.out.trans (hb.mono HB2.out.size)) HX2.out 0 u0) HX2.out 1 u1) HX2.out 2 u2) HX2.out 3 u3⟩)
  have HGF : Hid (∀ wf, Below w2.heap.size w2 wf → EdW wf x0 (.slice none 0 0) (.slice none 0 0) 0 0) := Lib.hid fun wf hb => HG2.out.keep (X := fun _ => False) (KeepX.of hb) id
  clear HEF HG2 HB2
  cases r with
  | false =>
    have hno : takE s.data.toList = none := by unfold takE; rw [HD.out.2 rfl]; rfl
    have HNO := Lib.hid (tk_no hno)
    clear hno
    go_upto_if 17 with fail
    have hgo := HGF.out _ HBA.out
    generalize w2.alloc (.cells #[.slice aa an ac, .slice da dn dc, .int .i64 lg, .int .i64 nx] 25) = wq at *
    obtain ⟨⟨y0, y1, y2, y3, y4⟩, f0, f1, f2, f3⟩ := hgo
    go_wp2
    have hf := HFIN.out _ (.slice none 0 0) (.slice none 0 0) (.int .i64 0) (.int .i64 0) HBA.out
    refine bodyPost_ret (v := .tuple #[.agg #[.slice none 0 0, .slice none 0 0, .int .i64 0, .int .i64 0], .int .i64 120]) (by simp [results, Try.results13, go_sem, y0, y1, y2, y3, y4]) rfl ?_
    exact ⟨.agg #[.slice none 0 0, .slice none 0 0, .int .i64 0, .int .i64 0], by rw [HNO.out.2], by rw [HNO.out.1]; exact EV.zero _, hf.2⟩
  | true =>
    have hre := HD.out.1 rfl
    obtain ⟨m, hm⟩ : ∃ m, mayEd (ts, zs, lg, nx) = m := ⟨_, rfl⟩
    have hed : edN (ts, zs, lg, nx) = if m = true then 0 else 1 := by unfold edN; rw [hm]
    rw [hed] at CK
    have HTK : Hid (takE s.data.toList = if m = true then some (ts, zs, lg, nx) else none) := Lib.hid (by unfold takE; rw [hre, Option.bind_some, hm])
    clear hre hm hed
    obtain ⟨y0, y1, y2, y3, y4⟩ := bx.out
    go_wp2_with fail
    refine (CK.out _ HBA.out).mono ?_
    rintro e w3 ⟨rfl, b3⟩
    have HB3 := Lib.hid (HBA.out.trans (b3.mono HBA.out.size))
    have bx3 := Lib.hid (bx.out.below b3)
    clear y0 y1 y2 y3 y4 b3 CK
    cases m with
    | false =>
      have HNO := Lib.hid (tk_no (HTK.out.trans (by simp)))
      rw [if_neg (by decide)]
      obtain ⟨⟨y0, y1, y2, y3, y4⟩, f0, f1, f2, f3⟩ := HGF.out _ HB3.out
      go_wp2
      have hf := HFIN.out _ (.slice none 0 0) (.slice none 0 0) (.int .i64 0) (.int .i64 0) HB3.out
      refine bodyPost_ret (v := .tuple #[.agg #[.slice none 0 0, .slice none 0 0, .int .i64 0, .int .i64 0], .int .i64 120]) (by simp [results, Try.results13, go_sem, y0, y1, y2, y3, y4]) rfl ?_
      exact ⟨.agg #[.slice none 0 0, .slice none 0 0, .int .i64 0, .int .i64 0], by rw [HNO.out.2], by rw [HNO.out.1]; exact EV.zero _, hf.2⟩
    | true =>
      have HNO := Lib.hid (tk_yes (d := (ts, zs, lg, nx)) (HTK.out.trans (by simp)))
      rw [if_pos rfl]
      obtain ⟨⟨y0, y1, y2, y3, y4⟩, f0, f1, f2, f3⟩ := HGF.out _ HB3.out
      obtain ⟨v0, v1, v2, v3, v4⟩ := bx3.out
      go_wp2
      have hf := HFIN.out _ (.slice aa an ac) (.slice da dn dc) (.int .i64 lg) (.int .i64 nx) HB3.out
      refine bodyPost_ret (v := .tuple #[.agg #[.slice aa an ac, .slice da dn dc, .int .i64 lg, .int .i64 nx], .int .i64 0]) (by simp [results, Try.results13, go_sem, y0, y1, y2, y3, y4]) rfl ?_
      exact ⟨.agg #[.slice aa an ac, .slice da dn dc, .int .i64 lg, .int .i64 nx], by rw [HNO.out.2], by rw [HNO.out.1]; exact hf.1, hf.2⟩
end Go.Proofs.Ytkpemlgolpihiaa
