/-
  Layer 12 (manifest): what the closures that read an edit keep; contracts of the closures number and text. Conditions: at most 2^24 bytes are left.
-/
import Derived.Test.YthmkalnbdocdcaaYg
import Derived.Test.YthmkalnbdocdcaaQm
import Derived.Lib.MinMax
namespace Go.Proofs.Ythmkalnbdocdcaa
set_option maxRecDepth 100000
open Go.RowKit
set_option linter.unusedVariables false
set_option linter.unusedSimpArgs false

theorem tk_le {l : List UInt8} {n a x : Nat} (h : tk l 0 0 = (n, a, x)) : a ≤ l.length ∧ n ≤ 4611686018427387904 := by
  by_cases hx : x = 0
  · subst hx
    obtain ⟨_, h1, h2, _, _, h5, _⟩ := tk_back l 0 0 _ _ h
    omega
  · have h1 := tk_err l 0 0 (by rw [h]; exact hx)
    rw [h] at h1
    simp only at h1
    omega
theorem ttR_le {l t : List UInt8} {b x : Nat} (h : ttR l = (t, b, x)) : b ≤ l.length ∧ t.length ≤ b := by
  rcases tk_cases l with h1 | ⟨n, k, h1, h2, h3, h4⟩
  · have : ttR l = ([], 0, (tk l 0 0).2.2) := ttR_err rfl (by rcases h1 with h1 | h1 <;> rw [h1] <;> decide)
    rw [h] at this
    simp only [Prod.mk.injEq] at this
    obtain ⟨rfl, rfl, _⟩ := this
    simp
  · by_cases c1 : 262144 < n
    · rw [ttR_big h1 c1] at h
      simp only [Prod.mk.injEq] at h
      obtain ⟨rfl, rfl, _⟩ := h
      simp
    · by_cases c2 : l.length < k + n
      · rw [ttR_short h1 (by omega) c2] at h
        simp only [Prod.mk.injEq] at h
        obtain ⟨rfl, rfl, _⟩ := h
        simp
      · rw [ttR_ok h1 (by omega) (by omega)] at h
        simp only [Prod.mk.injEq] at h
        obtain ⟨rfl, rfl, _⟩ := h
        rw [List.length_take, List.length_drop]
        omega
theorem rest_bytes (X : ByteArray) (n : Nat) : (X.extract n X.size).data.toList = X.data.toList.drop n := by
  rw [Lib.extract_data, List.take_of_length_le]
  rw [Lib.size_eq, List.length_drop]
  exact Nat.le_refl _
/-- All blocks but some are as they were. -/
def KeepX (X : Nat → Prop) (w w' : World) : Prop := (∀ y, y < w.heap.size → ¬ X y → w'.heap[y]? = w.heap[y]?) ∧ w.heap.size ≤ w'.heap.size
theorem KeepX.refl (X : Nat → Prop) (w : World) : KeepX X w w := ⟨fun _ _ _ => rfl, Nat.le_refl _⟩
theorem KeepX.trans {X : Nat → Prop} {w w' w'' : World} (h : KeepX X w w') (k : KeepX X w' w'') : KeepX X w w'' :=
  ⟨fun y hy hx => (k.1 y (Nat.lt_of_lt_of_le hy h.2) hx).trans (h.1 y hy hx), Nat.le_trans h.2 k.2⟩
theorem KeepX.of {X : Nat → Prop} {w w' : World} (h : Below w.heap.size w w') : KeepX X w w' := ⟨fun y hy _ => h.block y hy, h.size⟩
theorem KeepX.drew {X : Nat → Prop} {w w' : World} (h : KeepX X w w') : KeepX X w w'.drew := h
theorem KeepX.set {X : Nat → Prop} {w w' : World} (h : KeepX X w w') {p : Addr} (hp : X p.block) (v : Value) : KeepX X w (w'.setCell p v) :=
  ⟨fun y hy hx => by rw [Below.heap_setCell _ _ _ _ (fun e => hx (by rw [e]; exact hp))]; exact h.1 y hy hx, by simpa using h.2⟩
theorem KeepX.weaken {X Y : Nat → Prop} {w w' : World} (h : KeepX X w w') (hXY : ∀ y, y < w.heap.size → X y → Y y) : KeepX Y w w' := ⟨fun y hy hn => h.1 y hy (fun hx => hn (hXY y hy hx)), h.2⟩
theorem cell_heap {w w' : World} {y : Nat} (h : w'.heap[y]? = w.heap[y]?) (i : Nat) : w'.cell? ⟨y, i, none⟩ = w.cell? ⟨y, i, none⟩ ∧ w'.frozen? ⟨y, i, none⟩ = w.frozen? ⟨y, i, none⟩ := by
  unfold World.cell? World.frozen?
  simp only [h, and_self]
theorem KeepX.cell {X : Nat → Prop} {w w' : World} (h : KeepX X w w') {y : Nat} (hy : y < w.heap.size) (hx : ¬ X y) (i : Nat) : w'.cell? ⟨y, i, none⟩ = w.cell? ⟨y, i, none⟩ ∧ w'.frozen? ⟨y, i, none⟩ = w.frozen? ⟨y, i, none⟩ :=
  cell_heap (h.1 y hy hx) i
/-- What is left of the bytes, and whether all was right, each in a box. -/
def NS (S R : Nat) (w : World) (s : ByteArray) (r : Bool) : Prop :=
  (w.cell? ⟨S, 0, none⟩ = some (.string s) ∧ w.frozen? ⟨S, 0, none⟩ = false ∧ S < w.heap.size) ∧ (w.cell? ⟨R, 0, none⟩ = some (.bool r) ∧ w.frozen? ⟨R, 0, none⟩ = false ∧ R < w.heap.size)
theorem NS.keep {S R : Nat} {w w' : World} {s : ByteArray} {r : Bool} {X : Nat → Prop} (h : NS S R w s r) (hk : KeepX X w w') (hS : ¬ X S) (hR : ¬ X R) : NS S R w' s r := by
  obtain ⟨⟨a, b, c⟩, ⟨d, e, f⟩⟩ := h
  have h1 := hk.cell c hS 0
  have h2 := hk.cell f hR 0
  exact ⟨⟨h1.1.trans a, h1.2.trans b, Nat.lt_of_lt_of_le c hk.2⟩, ⟨h2.1.trans d, h2.2.trans e, Nat.lt_of_lt_of_le f hk.2⟩⟩
theorem NS.old {S R : Nat} {w w' : World} {s : ByteArray} {r : Bool} (h : NS S R w s r) (hb : Below w.heap.size w w') : NS S R w' s r := h.keep (X := fun _ => False) (KeepX.of hb) id id
theorem NS.right {S R : Nat} {w : World} {s : ByteArray} {r : Bool} (h : NS S R w s r) (hne : S ≠ R) (r' : Bool) : NS S R (w.setCell ⟨R, 0, none⟩ (.bool r')) s r' := by
  obtain ⟨⟨a, b, c⟩, ⟨d, e, f⟩⟩ := h
  refine ⟨⟨?_, ?_, by simpa using c⟩, ⟨World.cell?_setCell_same' _ _ _ (by rw [d]; rfl), by rw [World.frozen?_setCell]; exact e, by simpa using f⟩⟩
  · rw [World.cell?_setCell_other _ _ _ _ (by intro h; simp only [Addr.mk.injEq] at h; omega)]; exact a
  · rw [World.frozen?_setCell]; exact b
theorem NS.left {S R : Nat} {w : World} {s : ByteArray} {r : Bool} (h : NS S R w s r) (hne : S ≠ R) (s' : ByteArray) : NS S R (w.setCell ⟨S, 0, none⟩ (.string s')) s' r := by
  obtain ⟨⟨a, b, c⟩, ⟨d, e, f⟩⟩ := h
  refine ⟨⟨World.cell?_setCell_same' _ _ _ (by rw [a]; rfl), by rw [World.frozen?_setCell]; exact b, by simpa using c⟩, ⟨?_, ?_, by simpa using f⟩⟩
  · rw [World.cell?_setCell_other _ _ _ _ (by intro h; simp only [Addr.mk.injEq] at h; omega)]; exact d
  · rw [World.frozen?_setCell]; exact e
def SR (S R y : Nat) : Prop := y = S ∨ y = R
set_option maxHeartbeats 2000000 in
theorem rnum1_any (B S R : Nat) (hne : S ≠ R) (hBS : B ≤ S) (hBR : B ≤ R) (w : World) (hBw : B ≤ w.heap.size) (s : ByteArray) (hs : s.size ≤ 16777216) (r : Bool) (h : NS S R w s r) (n a x : Nat) (ht : tk s.data.toList 0 0 = (n, a, x)) :
    Calls Try.prog 55 #[.pointer (some ⟨S, 0, none⟩), .pointer (some ⟨R, 0, none⟩)] w fun e w' =>
      e = .returned (.int .i64 (n : Nat)) ∧ NS S R w' (s.extract a s.size) (r && decide (x = 0)) ∧ KeepX (SR S R) w w' ∧ Below B w w' := by
  have hT := take_code s w (by omega)
  rw [ht] at hT
  simp only at hT
  have hle := (tk_le ht).1
  rw [size_list] at hle
  have HT := Lib.hid hT
  have H := Lib.hid h
  have hai : (a : Int) ≤ (s.size : Int) := by omega
  have a0 : (0 : Int) ≤ (a : Int) := by omega
  obtain ⟨⟨c1, c2, c3⟩, ⟨d1, d2, d3⟩⟩ := h
  clear ht hT
  by_cases hx : x = 0
  · subst hx
    cases r
    all_goals
      go_enter Try.func55, Try.ntmps55
      go_wp2_with fail
      refine HT.out.mono ?_
      rintro e w1 ⟨rfl, rfl⟩
      have HE : Hid (∀ r', NS S R ((w.setCell ⟨R, 0, none⟩ (.bool r')).setCell ⟨S, 0, none⟩ (.string (s.extract a s.size))) (s.extract a s.size) r') := Lib.hid fun r' => (H.out.right hne r').left hne _
      have HK : Hid (KeepX (SR S R) w w ∧ Below B w w) := Lib.hid ⟨KeepX.refl _ w, Below.refl B w⟩
      go_wp2
      go_ret
      refine ⟨rfl, ?_, (HK.out.1.set (Or.inr rfl) _).set (Or.inl rfl) _, (HK.out.2.setCell (p := ⟨R, 0, none⟩) hBR _).setCell (p := ⟨S, 0, none⟩) hBS _⟩
      first | exact HE.out _ | (simpa using HE.out _)
  · have hxi : ¬ (x : Int) = 0 := by omega
    have hxb : ((x : Int) == 0) = false := by simpa using hx
    have hd : decide (x = 0) = false := by simpa using hx
    rw [hd]
    clear hd
    cases r
    all_goals
      go_enter Try.func55, Try.ntmps55
      go_wp2_with fail
      refine HT.out.mono ?_
      rintro e w1 ⟨rfl, rfl⟩
      have HE : Hid (∀ r', NS S R ((w.setCell ⟨R, 0, none⟩ (.bool r')).setCell ⟨S, 0, none⟩ (.string (s.extract a s.size))) (s.extract a s.size) r') := Lib.hid fun r' => (H.out.right hne r').left hne _
      have HK : Hid (KeepX (SR S R) w w ∧ Below B w w) := Lib.hid ⟨KeepX.refl _ w, Below.refl B w⟩
      go_wp2
      go_ret
      refine ⟨rfl, ?_, (HK.out.1.set (Or.inr rfl) _).set (Or.inl rfl) _, (HK.out.2.setCell (p := ⟨R, 0, none⟩) hBR _).setCell (p := ⟨S, 0, none⟩) hBS _⟩
      first | exact HE.out _ | (simpa using HE.out _)
set_option maxHeartbeats 2000000 in
theorem rtext1_any (B S R : Nat) (hne : S ≠ R) (hBS : B ≤ S) (hBR : B ≤ R) (w : World) (hBw : B ≤ w.heap.size) (s : ByteArray) (hs : s.size ≤ 16777216) (r : Bool) (h : NS S R w s r) (t : List UInt8) (a x : Nat) (ht : ttR s.data.toList = (t, a, x)) :
    Calls Try.prog 57 #[.pointer (some ⟨S, 0, none⟩), .pointer (some ⟨R, 0, none⟩)] w fun e w' =>
      e = .returned (.string ⟨t.toArray⟩) ∧ NS S R w' (s.extract a s.size) (r && decide (x = 0)) ∧ KeepX (SR S R) w w' ∧ Below B w w' := by
  have hT := taketext_code s w (by omega)
  unfold TT at hT
  rw [ht] at hT
  simp only at hT
  have hle := (ttR_le ht).1
  rw [size_list] at hle
  have HT := Lib.hid hT
  have H := Lib.hid h
  have hai : (a : Int) ≤ (s.size : Int) := by omega
  have a0 : (0 : Int) ≤ (a : Int) := by omega
  obtain ⟨⟨c1, c2, c3⟩, ⟨d1, d2, d3⟩⟩ := h
  clear ht hT
  by_cases hx : x = 0
  · subst hx
    cases r
    all_goals
      go_enter Try.func57, Try.ntmps57
      go_wp2_with fail
      refine HT.out.mono ?_
      rintro e w1 ⟨rfl, b1⟩
      have H1 := Lib.hid (H.out.old b1)
      have HE : Hid (∀ r', NS S R ((w1.setCell ⟨R, 0, none⟩ (.bool r')).setCell ⟨S, 0, none⟩ (.string (s.extract a s.size))) (s.extract a s.size) r') := Lib.hid fun r' => (H1.out.right hne r').left hne _
      have HK : Hid (KeepX (SR S R) w w1 ∧ Below B w w1) := Lib.hid ⟨KeepX.of b1, b1.mono hBw⟩
      clear c1 c2 c3 d1 d2 d3 b1
      obtain ⟨⟨c1, c2, c3⟩, ⟨d1, d2, d3⟩⟩ := H1.out
      go_wp2
      go_ret
      refine ⟨rfl, ?_, (HK.out.1.set (Or.inr rfl) _).set (Or.inl rfl) _, (HK.out.2.setCell (p := ⟨R, 0, none⟩) hBR _).setCell (p := ⟨S, 0, none⟩) hBS _⟩
      first | exact HE.out _ | (simpa using HE.out _)
  · have hxi : ¬ (x : Int) = 0 := by omega
    have hxb : ((x : Int) == 0) = false := by simpa using hx
    have hd : decide (x = 0) = false := by simpa using hx
    rw [hd]
    clear hd
    cases r
    all_goals
      go_enter Try.func57, Try.ntmps57
      go_wp2_with fail
      refine HT.out.mono ?_
      rintro e w1 ⟨rfl, b1⟩
      have H1 := Lib.hid (H.out.old b1)
      have HE : Hid (∀ r', NS S R ((w1.setCell ⟨R, 0, none⟩ (.bool r')).setCell ⟨S, 0, none⟩ (.string (s.extract a s.size))) (s.extract a s.size) r') := Lib.hid fun r' => (H1.out.right hne r').left hne _
      have HK : Hid (KeepX (SR S R) w w1 ∧ Below B w w1) := Lib.hid ⟨KeepX.of b1, b1.mono hBw⟩
      clear c1 c2 c3 d1 d2 d3 b1
      obtain ⟨⟨c1, c2, c3⟩, ⟨d1, d2, d3⟩⟩ := H1.out
      go_wp2
      go_ret
      refine ⟨rfl, ?_, (HK.out.1.set (Or.inr rfl) _).set (Or.inl rfl) _, (HK.out.2.setCell (p := ⟨R, 0, none⟩) hBR _).setCell (p := ⟨S, 0, none⟩) hBS _⟩
      first | exact HE.out _ | (simpa using HE.out _)

/-- The boxes in which the two closures lie. -/
def FS (F1 F2 S R : Nat) (w : World) : Prop :=
  w.cell? ⟨F1, 0, none⟩ = some (.func (.func 55) #[] #[.pointer (some ⟨S, 0, none⟩), .pointer (some ⟨R, 0, none⟩)]) ∧
  w.cell? ⟨F2, 0, none⟩ = some (.func (.func 57) #[] #[.pointer (some ⟨S, 0, none⟩), .pointer (some ⟨R, 0, none⟩)]) ∧ F1 < w.heap.size ∧ F2 < w.heap.size
theorem FS.keep {F1 F2 S R : Nat} {w w' : World} {X : Nat → Prop} (h : FS F1 F2 S R w) (hk : KeepX X w w') (h1 : ¬ X F1) (h2 : ¬ X F2) : FS F1 F2 S R w' :=
  ⟨(hk.cell h.2.2.1 h1 0).1.trans h.1, (hk.cell h.2.2.2 h2 0).1.trans h.2.1, Nat.lt_of_lt_of_le h.2.2.1 hk.2, Nat.lt_of_lt_of_le h.2.2.2 hk.2⟩
/-- A box of an edit that may be written. -/
def EdFree (w : World) (x : Nat) : Prop := w.frozen? ⟨x, 0, none⟩ = false ∧ w.frozen? ⟨x, 1, none⟩ = false ∧ w.frozen? ⟨x, 2, none⟩ = false ∧ w.frozen? ⟨x, 3, none⟩ = false
def EdW (w : World) (x : Nat) (A D : Value) (lg nx : Int) : Prop := EdBox w x A D lg nx ∧ EdFree w x
theorem EdW.keep {w w' : World} {x : Nat} {A D : Value} {lg nx : Int} {X : Nat → Prop} (h : EdW w x A D lg nx) (hk : KeepX X w w') (hx : ¬ X x) : EdW w' x A D lg nx := by
  obtain ⟨⟨h1, h2, h3, h4, h5⟩, f1, f2, f3, f4⟩ := h
  exact ⟨⟨(hk.cell h5 hx 0).1.trans h1, (hk.cell h5 hx 1).1.trans h2, (hk.cell h5 hx 2).1.trans h3, (hk.cell h5 hx 3).1.trans h4, Nat.lt_of_lt_of_le h5 hk.2⟩, (hk.cell h5 hx 0).2.trans f1, (hk.cell h5 hx 1).2.trans f2, (hk.cell h5 hx 2).2.trans f3, (hk.cell h5 hx 3).2.trans f4⟩
theorem EdW.new (w : World) (T : TypeId) (A D : Value) (lg nx : Int) : EdW (w.alloc (.cells #[A, D, .int .i64 lg, .int .i64 nx] T)) w.heap.size A D lg nx := ⟨EdBox.new w T A D lg nx, by simp, by simp, by simp, by simp⟩
theorem EdW.set0 {w : World} {x : Nat} {A D : Value} {lg nx : Int} (h : EdW w x A D lg nx) (A' : Value) : EdW (w.setCell ⟨x, 0, none⟩ A') x A' D lg nx := by
  obtain ⟨⟨h1, h2, h3, h4, h5⟩, f1, f2, f3, f4⟩ := h
  refine ⟨⟨World.cell?_setCell_same' _ _ _ (by rw [h1]; rfl), ?_, ?_, ?_, by simpa using h5⟩, ?_, ?_, ?_, ?_⟩
  all_goals first | (rw [World.cell?_setCell_other _ _ _ _ (by intro e; simp at e)]; assumption) | (rw [World.frozen?_setCell]; assumption)
theorem EdW.set1 {w : World} {x : Nat} {A D : Value} {lg nx : Int} (h : EdW w x A D lg nx) (D' : Value) : EdW (w.setCell ⟨x, 1, none⟩ D') x A D' lg nx := by
  obtain ⟨⟨h1, h2, h3, h4, h5⟩, f1, f2, f3, f4⟩ := h
  refine ⟨⟨?_, World.cell?_setCell_same' _ _ _ (by rw [h2]; rfl), ?_, ?_, by simpa using h5⟩, ?_, ?_, ?_, ?_⟩
  all_goals first | (rw [World.cell?_setCell_other _ _ _ _ (by intro e; simp at e)]; assumption) | (rw [World.frozen?_setCell]; assumption)
theorem EdW.set2 {w : World} {x : Nat} {A D : Value} {lg nx : Int} (h : EdW w x A D lg nx) (z : Int) : EdW (w.setCell ⟨x, 2, none⟩ (.int .i64 z)) x A D z nx := by
  obtain ⟨⟨h1, h2, h3, h4, h5⟩, f1, f2, f3, f4⟩ := h
  refine ⟨⟨?_, ?_, World.cell?_setCell_same' _ _ _ (by rw [h3]; rfl), ?_, by simpa using h5⟩, ?_, ?_, ?_, ?_⟩
  all_goals first | (rw [World.cell?_setCell_other _ _ _ _ (by intro e; simp at e)]; assumption) | (rw [World.frozen?_setCell]; assumption)
theorem EdW.set3 {w : World} {x : Nat} {A D : Value} {lg nx : Int} (h : EdW w x A D lg nx) (z : Int) : EdW (w.setCell ⟨x, 3, none⟩ (.int .i64 z)) x A D lg z := by
  obtain ⟨⟨h1, h2, h3, h4, h5⟩, f1, f2, f3, f4⟩ := h
  refine ⟨⟨?_, ?_, ?_, World.cell?_setCell_same' _ _ _ (by rw [h4]; rfl), by simpa using h5⟩, ?_, ?_, ?_, ?_⟩
  all_goals first | (rw [World.cell?_setCell_other _ _ _ _ (by intro e; simp at e)]; assumption) | (rw [World.frozen?_setCell]; assumption)
theorem own_keep {w w' : World} {base t sz n : Nat} {v : Value} {xs : List Value} (h : w.ownsRow base t sz v n xs) (hb : ∀ g, base ≤ g → g < w.heap.size → w'.heap[g]? = w.heap[g]?) : w'.ownsRow base t sz v n xs := by
  rcases h.2 with h2 | ⟨g, cap, cur, hv, hbg, hh, h3⟩
  · exact ⟨h.1, .inl h2⟩
  · exact ⟨h.1, .inr ⟨g, cap, cur, hv, hbg, (hb g hbg (heap_lt hh)).trans hh, h3⟩⟩
/-- The bytes that are left, if all was right till now. -/
def RS (S R : Nat) (w : World) (o : Option (List UInt8)) : Prop := ∃ s r, NS S R w s r ∧ s.size ≤ 16777216 ∧ (∀ l, o = some l → r = true ∧ s.data.toList = l) ∧ (o = none → r = false)
/-- How the boxes lie. -/
def LY (B0 B S R F1 F2 E E0 : Nat) : Prop := (B0 ≤ S ∧ B0 ≤ R ∧ B0 ≤ F1 ∧ B0 ≤ F2 ∧ B0 ≤ E ∧ B0 ≤ E0) ∧ (S < B ∧ R < B ∧ F1 < B ∧ F2 < B ∧ E < B ∧ E0 < B) ∧ (S ≠ R ∧ S ≠ F1 ∧ S ≠ F2 ∧ S ≠ E ∧ S ≠ E0) ∧ (R ≠ F1 ∧ R ≠ F2 ∧ R ≠ E ∧ R ≠ E0) ∧ (F1 ≠ E ∧ F1 ≠ E0 ∧ F2 ≠ E ∧ F2 ≠ E0 ∧ E ≠ E0)
/-- All that lies in memory while an edit is read. -/
def RW (B0 B S R F1 F2 E E0 : Nat) (wb : World) (o : Option (List UInt8)) (A D : Value) (ts : List Tb) (zs : List Int) (lg nx : Int) (w : World) : Prop :=
  RS S R w o ∧ FS F1 F2 S R w ∧ EdW w E A D lg nx ∧ EdW w E0 (.slice none 0 0) (.slice none 0 0) 0 0 ∧ w.ownsRow B 49 4 A ts.length (tv4 ts) ∧ w.ownsRow B 3 1 D zs.length (iv zs) ∧ okT ts ∧ Below B0 wb w ∧ B ≤ w.heap.size ∧ B0 ≤ B
theorem RW.keep {B0 B S R F1 F2 E E0 : Nat} {wb w w' : World} {o o' : Option (List UInt8)} {A D : Value} {ts : List Tb} {zs : List Int} {lg nx : Int} (hy : LY B0 B S R F1 F2 E E0) (h : RW B0 B S R F1 F2 E E0 wb o A D ts zs lg nx w) (hk : KeepX (SR S R) w w') (hb : Below B0 w w') (hr : RS S R w' o') :
    RW B0 B S R F1 F2 E E0 wb o' A D ts zs lg nx w' := by
  obtain ⟨-, y1, y2, y3, y4⟩ := hy
  obtain ⟨h1, h2, h3, h4, h5, h6, h7, h8, h9, h10⟩ := h
  have n1 : ¬ SR S R F1 := by unfold SR; omega
  have n2 : ¬ SR S R F2 := by unfold SR; omega
  have n3 : ¬ SR S R E := by unfold SR; omega
  have n4 : ¬ SR S R E0 := by unfold SR; omega
  have n5 : ∀ g, B ≤ g → g < w.heap.size → w'.heap[g]? = w.heap[g]? := fun g hg hl => hk.1 g hl (by unfold SR; omega)
  exact ⟨hr, h2.keep hk n1 n2, h3.keep hk n3, h4.keep hk n4, own_keep h5 n5, own_keep h6 n5, h7, h8.trans hb, Nat.le_trans h9 hk.2, h10⟩
set_option maxHeartbeats 1000000 in
theorem num_w {B0 B S R F1 F2 E E0 : Nat} {wb w : World} {o : Option (List UInt8)} {A D : Value} {ts : List Tb} {zs : List Int} {lg nx : Int} (hy : LY B0 B S R F1 F2 E E0) (h : RW B0 B S R F1 F2 E E0 wb o A D ts zs lg nx w) :
    Calls Try.prog 55 #[.pointer (some ⟨S, 0, none⟩), .pointer (some ⟨R, 0, none⟩)] w fun e w' => ∃ n : Nat, e = .returned (.int .i64 (n : Nat)) ∧ n ≤ 4611686018427387904 ∧ RW B0 B S R F1 F2 E E0 wb ((o.bind rdN).map (·.2)) A D ts zs lg nx w' ∧ (∀ p, o.bind rdN = some p → n = p.1) := by
  obtain ⟨s, r, hn, hs, ho1, ho2⟩ := h.1
  obtain ⟨n, a, x, ht⟩ : ∃ n a x, tk s.data.toList 0 0 = (n, a, x) := ⟨_, _, _, rfl⟩
  have hle := tk_le ht
  have hw := h.2.2.2.2.2.2.2.2
  refine (rnum1_any B0 S R hy.2.2.1.1 hy.1.1 hy.1.2.1 w (by omega) s hs r hn n a x ht).mono fun e w' k => ?_
  obtain ⟨k1, k2, k3, k4⟩ := k
  refine ⟨n, k1, hle.2, RW.keep hy h k3 k4 ⟨_, _, k2, by rw [ByteArray.size_extract]; omega, fun l hl => ?_, fun hl => ?_⟩, fun p hp => ?_⟩
  · cases o with
    | none => simp at hl
    | some m =>
      obtain ⟨rfl, rfl⟩ := ho1 m rfl
      simp only [Option.bind_some, rdN, ht] at hl
      by_cases hx : x = 0
      · rw [if_pos hx] at hl
        simp at hl
        exact ⟨by simp [hx], by rw [rest_bytes]; exact hl⟩
      · rw [if_neg hx] at hl; simp at hl
  · cases o with
    | none => rw [ho2 rfl]; rfl
    | some m =>
      obtain ⟨rfl, rfl⟩ := ho1 m rfl
      simp only [Option.bind_some, rdN, ht] at hl
      by_cases hx : x = 0
      · rw [if_pos hx] at hl; simp at hl
      · simp [hx]
  · cases o with
    | none => simp at hp
    | some m =>
      obtain ⟨rfl, rfl⟩ := ho1 m rfl
      simp only [Option.bind_some, rdN, ht] at hp
      by_cases hx : x = 0
      · rw [if_pos hx] at hp; cases hp; rfl
      · rw [if_neg hx] at hp; cases hp
set_option maxHeartbeats 1000000 in
theorem txt_w {B0 B S R F1 F2 E E0 : Nat} {wb w : World} {o : Option (List UInt8)} {A D : Value} {ts : List Tb} {zs : List Int} {lg nx : Int} (hy : LY B0 B S R F1 F2 E E0) (h : RW B0 B S R F1 F2 E E0 wb o A D ts zs lg nx w) :
    Calls Try.prog 57 #[.pointer (some ⟨S, 0, none⟩), .pointer (some ⟨R, 0, none⟩)] w fun e w' => ∃ t : List UInt8, e = .returned (.string ⟨t.toArray⟩) ∧ t.length ≤ 16777216 ∧ RW B0 B S R F1 F2 E E0 wb ((o.bind rdS).map (·.2)) A D ts zs lg nx w' ∧ (∀ p, o.bind rdS = some p → t = p.1) := by
  obtain ⟨s, r, hn, hs, ho1, ho2⟩ := h.1
  obtain ⟨n, a, x, ht⟩ : ∃ n a x, ttR s.data.toList = (n, a, x) := ⟨_, _, _, rfl⟩
  have hle := ttR_le ht
  rw [size_list] at hle
  have hw := h.2.2.2.2.2.2.2.2
  refine (rtext1_any B0 S R hy.2.2.1.1 hy.1.1 hy.1.2.1 w (by omega) s hs r hn n a x ht).mono fun e w' k => ?_
  obtain ⟨k1, k2, k3, k4⟩ := k
  refine ⟨n, k1, by omega, RW.keep hy h k3 k4 ⟨_, _, k2, by rw [ByteArray.size_extract]; omega, fun l hl => ?_, fun hl => ?_⟩, fun p hp => ?_⟩
  · cases o with
    | none => simp at hl
    | some m =>
      obtain ⟨rfl, rfl⟩ := ho1 m rfl
      simp only [Option.bind_some, rdS, ht] at hl
      by_cases hx : x = 0
      · rw [if_pos hx] at hl
        simp at hl
        exact ⟨by simp [hx], by rw [rest_bytes]; exact hl⟩
      · rw [if_neg hx] at hl; simp at hl
  · cases o with
    | none => rw [ho2 rfl]; rfl
    | some m =>
      obtain ⟨rfl, rfl⟩ := ho1 m rfl
      simp only [Option.bind_some, rdS, ht] at hl
      by_cases hx : x = 0
      · rw [if_pos hx] at hl; simp at hl
      · simp [hx]
  · cases o with
    | none => simp at hp
    | some m =>
      obtain ⟨rfl, rfl⟩ := ho1 m rfl
      simp only [Option.bind_some, rdS, ht] at hp
      by_cases hx : x = 0
      · rw [if_pos hx] at hp; cases hp; rfl
      · rw [if_neg hx] at hp; cases hp
end Go.Proofs.Ythmkalnbdocdcaa
