/-
  Layer 4 (span): the walks of the laws' awake, of SpanKeys. Conditions: texts within the form's reach.
-/
import Derived.Test.YtmglgmljlaplcaaSh
namespace Go.Proofs.Ytmglgmljlaplcaa
open Go.RowKit

/-- A box at its place, behind calls. -/
theorem keep_box {w a b : World} {g : Nat} {lo hi : ByteArray}
    (h : (a.cell? ⟨g, 0, none⟩ = some (.string lo) ∧ a.cell? ⟨g, 1, none⟩ = some (.string hi) ∧ Below w.heap.size w a) ∧ g < a.heap.size)
    (hb : Below a.heap.size a b) (hw : w.heap.size ≤ g) :
    (b.cell? ⟨g, 0, none⟩ = some (.string lo) ∧ b.cell? ⟨g, 1, none⟩ = some (.string hi) ∧ Below w.heap.size w b) ∧ g < b.heap.size := by
  obtain ⟨⟨h1, h2, h3⟩, h4⟩ := h
  exact ⟨⟨(hb.cell (p := ⟨g, 0, none⟩) h4).trans h1, (hb.cell (p := ⟨g, 1, none⟩) h4).trans h2, h3.trans (hb.mono (by omega))⟩, Nat.lt_of_lt_of_le h4 hb.size⟩

set_option maxRecDepth 100000 in
set_option maxHeartbeats 2000000 in
theorem awake_any (w : World) : Calls Try.prog 16 #[] w fun e w' => e = .returned (.bool true) ∧ Below w.heap.size w w' := by
  have H1 := Lib.hid fun w => cut_yes ⟨#[98]⟩ ⟨#[109]⟩ ⟨#[102]⟩ (by decide +kernel) (by unfold okS; decide) (by unfold okS; decide) (by unfold okS; decide) w
  have H2 := Lib.hid fun w => join_yes ⟨#[98]⟩ ⟨#[102]⟩ ⟨#[102]⟩ ⟨#[109]⟩ (by decide +kernel) (by unfold okS; decide) (by unfold okS; decide) (by unfold okS; decide) (by unfold okS; decide) w
  have H3 := Lib.hid fun w => has_any ⟨#[98]⟩ ⟨#[102]⟩ ⟨#[101]⟩ true (by decide +kernel) (by unfold okS; decide) (by unfold okS; decide) (by unfold okS; decide) w
  have H4 := Lib.hid fun w => has_any ⟨#[98]⟩ ⟨#[102]⟩ ⟨#[102]⟩ false (by decide +kernel) (by unfold okS; decide) (by unfold okS; decide) (by unfold okS; decide) w
  have H5 := Lib.hid fun w => key_eq ⟨#[120]⟩ true (by decide +kernel) (by unfold okS; decide) w
  go_enter Try.func16, Try.ntmps16
  go_wp2_with fail
  refine (H1.out _).mono ?_
  rintro e w1 ⟨rfl, b1⟩
  go_wp2_with fail
  refine (H2.out _).mono ?_
  rintro e w2 ⟨rfl, b2⟩
  obtain ⟨hc2, hf2⟩ := bcell b2
  have hz2 : w1.heap.size + 2 ≤ w2.heap.size := by have := b2.size; simp at this; omega
  have hy0 : w1.heap.size < w2.heap.size := by omega
  have hy1 : w1.heap.size + 1 < w2.heap.size := by omega
  have hy4 : w1.heap.size < w2.heap.size + 1 := by omega
  go_wp2_with fail
  refine (H3.out _).mono ?_
  rintro e w3 ⟨rfl, b3⟩
  obtain ⟨hc3, hf3⟩ := bcell b3
  go_wp2_with fail
  refine (H4.out _).mono ?_
  rintro e w4 ⟨rfl, b4⟩
  go_wp2_with fail
  refine (H5.out _).mono ?_
  rintro e w5 ⟨rfl, rfl⟩
  go_wp2
  go_ret
  have c1 := b1.size
  have c2 := b2.size
  have c3 := b3.size
  simp at c1 c2 c3
  exact ⟨rfl, (b1.trans ((below_box2 b2).mono (by omega))).trans (((below_box b3).mono (by omega)).trans (b4.mono (by omega)))⟩
/-! ### SpanKeys -/
set_option maxRecDepth 100000 in
set_option maxHeartbeats 4000000 in
theorem walk_SpanKeys (lo hi : ByteArray) (h1 : okS lo) (h2 : okS hi) (k : ByteArray) (h3 : okS k) (w : World) :
    Calls Try.prog 3 #[.agg #[.string lo, .string hi], .string k] w fun e w' => e = .returned (.bool true) ∧ Below w.heap.size w w' := by
  obtain ⟨kb, hk⟩ : ∃ b, keyB k = b := ⟨_, rfl⟩
  obtain ⟨mb, hm⟩ : ∃ b, mayB lo hi = b := ⟨_, rfl⟩
  obtain ⟨hb, hh⟩ : ∃ b, hasB lo hi k = b := ⟨_, rfl⟩
  have K1 := Lib.hid fun w => key_eq k kb hk h3 w
  have K2 := Lib.hid fun w => rkey_eq k kb hk h3 w
  have C1 := Lib.hid fun w => chk_any lo hi mb hm h1 h2 w
  have C2 := Lib.hid fun w => rchk_any lo hi mb hm h1 h2 w
  have A1 := Lib.hid fun w => has_any lo hi k hb hh h1 h2 h3 w
  have A2 := Lib.hid fun w => rhas_any lo hi k hb hh h1 h2 h3 w
  obtain ⟨n, hn⟩ : ∃ n, chkN mb = n := ⟨_, rfl⟩
  rw [hn] at C1 C2
  clear hk hm hh h1 h2 h3 hn
  go_enter Try.func3, Try.ntmps3
  go_wp2_with fail
  go_region_held3 (fun w' => (w'.cell? ⟨w.heap.size, 0, none⟩ = some (.string lo) ∧ w'.cell? ⟨w.heap.size, 1, none⟩ = some (.string hi) ∧ Below w.heap.size w w') ∧ w.heap.size < w'.heap.size)
    (first | assumption | exact keep_box (by assumption) (by assumption) (Nat.le_refl _) | (refine ⟨⟨by simp [go_sem], by simp [go_sem], ((Below.refl _ _).alloc (Nat.le_refl _) _).drew⟩, by simp⟩))
    (first
      | (go_at_call 10; refine (K1.out _).mono ?_; rintro e w' ⟨rfl, rfl⟩)
      | (go_at_call 11; refine (K2.out _).mono ?_; rintro e w' ⟨rfl, rfl⟩)
      | (go_at_call 12; refine (C1.out _).mono ?_; rintro e w' ⟨rfl, bb⟩)
      | (go_at_call 13; refine (C2.out _).mono ?_; rintro e w' ⟨rfl, bb⟩)
      | (go_at_call 14; refine (A1.out _).mono ?_; rintro e w' ⟨rfl, bb⟩)
      | (go_at_call 15; refine (A2.out _).mono ?_; rintro e w' ⟨rfl, bb⟩)
      | (go_at_call 16; refine (awake_any _).mono ?_; rintro e w' ⟨rfl, bb⟩))
  go_wp2
  go_ret
  exact ⟨rfl, (by assumption : (_ ∧ _ ∧ Below w.heap.size w _) ∧ w.heap.size < _).1.2.2⟩
end Go.Proofs.Ytmglgmljlaplcaa
