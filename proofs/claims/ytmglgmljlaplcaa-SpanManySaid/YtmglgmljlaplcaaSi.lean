/-
  Layer 4 (span): the contracts of lesser and Meet, and of the document's own. Conditions: texts within the form's reach.
-/
import Derived.Test.YtmglgmljlaplcaaSj
import Derived.Deep.RegionHeld3
namespace Go.Proofs.Ytmglgmljlaplcaa
open Go.RowKit

theorem lesser_any (a b : ByteArray) (w : World) :
    Calls Try.prog 30 #[.string a, .string b] w fun x w' => x = .returned (.string (endS a b)) ∧ w = w' := by
  cases ha : emB a with
  | true =>
    have e1 : a.toList = [] := List.isEmpty_iff.1 ha
    have HE := Lib.hid (show endS a b = b from by unfold endS; rw [if_pos ha])
    clear ha
    go_enter Try.func30, Try.ntmps30
    go_wp2
    go_ret
    exact ⟨by rw [HE.out]; rfl, rfl⟩
  | false =>
    have e1 : ¬ a.toList = [] := fun k => by rw [emB, k] at ha; cases ha
    have e2 : a.toList.isEmpty = false := ha
    cases hb : emB b with
    | true =>
      have e3 : b.toList = [] := List.isEmpty_iff.1 hb
      have HE := Lib.hid (show endS a b = a from by unfold endS; rw [ha, hb]; rfl)
      clear ha hb
      go_enter Try.func30, Try.ntmps30
      go_wp2
      go_ret
      exact ⟨by rw [HE.out]; rfl, rfl⟩
    | false =>
      have e3 : ¬ b.toList = [] := fun k => by rw [emB, k] at hb; cases hb
      have e4 : b.toList.isEmpty = false := hb
      cases hl : ltB b a with
      | true =>
        have e5 : Op.bytesLess b.toList a.toList = true := hl
        have HE := Lib.hid (show endS a b = b from by unfold endS; rw [ha, hb, hl]; rfl)
        clear ha hb hl
        go_enter Try.func30, Try.ntmps30
        go_wp2
        go_ret
        exact ⟨by rw [HE.out]; rfl, rfl⟩
      | false =>
        have e5 : Op.bytesLess b.toList a.toList = false := hl
        have HE := Lib.hid (show endS a b = a from by unfold endS; rw [ha, hb, hl]; rfl)
        clear ha hb hl
        go_enter Try.func30, Try.ntmps30
        go_wp2
        go_ret
        exact ⟨by rw [HE.out]; rfl, rfl⟩
theorem run_max_str (lo lo' : ByteArray) (ts : Array TypeId) (t : TypeId) (w : World) :
    (Builtin.max_ ts t #[.string lo, .string lo']).run Try.prog w = .ok (.string (maxS lo lo')) w := by
  have e : maxS lo lo' = if (!Op.bytesLess lo.toList lo'.toList) = true then lo else lo' := by
    unfold maxS ltB
    cases Op.bytesLess lo.toList lo'.toList <;> rfl
  rw [e]
  simp [Builtin.max_, Builtin.max2, Op.stringOp, asBool]
/-- Three boxes behind a call. -/
theorem cells3 {w w1 : World} {p q p' q' r s : ByteArray} {t t' t'' : TypeId}
    (b1 : Below (((w.alloc (.cells #[.string p, .string q] t)).alloc (.cells #[.string p', .string q'] t')).alloc (.cells #[.string r, .string s] t'')).heap.size (((w.alloc (.cells #[.string p, .string q] t)).alloc (.cells #[.string p', .string q'] t')).alloc (.cells #[.string r, .string s] t'')) w1) :
    w1.cell? ⟨w.heap.size, 0, none⟩ = some (.string p) ∧ w1.cell? ⟨w.heap.size, 1, none⟩ = some (.string q) ∧ w1.cell? ⟨w.heap.size + 1, 0, none⟩ = some (.string p') ∧ w1.cell? ⟨w.heap.size + 1, 1, none⟩ = some (.string q') ∧
    w1.cell? ⟨w.heap.size + 1 + 1, 0, none⟩ = some (.string r) ∧ w1.cell? ⟨w.heap.size + 1 + 1, 1, none⟩ = some (.string s) ∧ w1.frozen? ⟨w.heap.size + 1 + 1, 0, none⟩ = false ∧ w1.frozen? ⟨w.heap.size + 1 + 1, 1, none⟩ = false ∧ w.heap.size + 2 < w1.heap.size := by
  obtain ⟨hc, hf⟩ := bcell b1
  have hz := b1.size
  refine ⟨?_, ?_, ?_, ?_, ?_, ?_, ?_, ?_, by simp at hz; omega⟩
  · rw [hc _ _ (by simp; omega)]; simp [go_sem]
  · rw [hc _ _ (by simp; omega)]; simp [go_sem]
  · rw [hc _ _ (by simp)]; simp [go_sem]
  · rw [hc _ _ (by simp)]; simp [go_sem]
  · rw [hc _ _ (by simp)]; simp [go_sem]
  · rw [hc _ _ (by simp)]; simp [go_sem]
  · rw [hf _ _ (by simp)]; simp [go_sem]
  · rw [hf _ _ (by simp)]; simp [go_sem]
set_option maxHeartbeats 1000000 in
theorem meet_yes (lo hi lo' hi' : ByteArray) (h : meetB lo hi lo' hi' = true) (h1 : okS lo) (h2 : okS hi) (h3 : okS lo') (h4 : okS hi') (w : World) :
    Calls Try.prog 21 #[.agg #[.string lo, .string hi], .agg #[.string lo', .string hi']] w fun x w' => x = .returned (.tuple #[.agg #[.string (maxS lo lo'), .string (endS hi hi')], .bool true]) ∧ Below w.heap.size w w' := by
  obtain ⟨m1, m2, em⟩ := meetB_iff.1 h
  have H1 := Lib.hid fun w => chk_any lo hi _ m1 h1 h2 w
  have H2 := Lib.hid fun w => chk_any lo' hi' _ m2 h3 h4 w
  have hA := fun w => ahead_any (maxS lo lo') (endS hi hi') w
  rw [em] at hA
  have hmx := run_max_str lo lo'
  have hL := fun w => lesser_any hi hi' w
  obtain ⟨M, hM⟩ : ∃ M, M = maxS lo lo' := ⟨_, rfl⟩
  obtain ⟨E, hE⟩ : ∃ E, E = endS hi hi' := ⟨_, rfl⟩
  rw [← hM] at hA hmx
  rw [← hE] at hA hL
  rw [← hM, ← hE]
  have HA := Lib.hid hA
  have HL := Lib.hid hL
  clear hM hE hL h m1 m2 em h1 h2 h3 h4 hA
  go_enter Try.func21, Try.ntmps21
  go_wp2_with fail
  refine (H1.out _).mono ?_
  rintro e w1 ⟨rfl, b1⟩
  rw [show chkN true = 0 from rfl]
  obtain ⟨x0, x1, y0, y1, r0, r1, f0, f1, hz⟩ := cells3 b1
  go_wp2_with fail
  refine (H2.out _).mono ?_
  rintro e w2 ⟨rfl, b2⟩
  rw [show chkN true = 0 from rfl]
  obtain ⟨hc2, hf2⟩ := bcell b2
  have bb := (below_box3 b1).trans (b2.mono (by omega))
  have hz2 : w.heap.size + 2 < w2.heap.size := by have := b2.size; omega
  rw [← hc2 _ _ (by omega)] at x0 x1 y0 y1 r0 r1
  rw [← hf2 _ _ (by omega)] at f0 f1
  have HB := Lib.hid bb
  clear hc2 hf2 b1 b2 hz bb H1 H2
  go_wp2_with fail
  go_region_held3 (fun w' => w'.cell? ⟨w.heap.size, 0, none⟩ = some (.string lo) ∧ w'.cell? ⟨w.heap.size, 1, none⟩ = some (.string hi) ∧ w'.cell? ⟨w.heap.size + 1, 0, none⟩ = some (.string lo') ∧ w'.cell? ⟨w.heap.size + 1, 1, none⟩ = some (.string hi')) (go_keep)
    (first | (go_at_call 30; refine (HL.out _).mono ?_; rintro e w' ⟨rfl, rfl⟩))
  all_goals
    go_wp2_with fail
    refine (HA.out _).mono ?_
    rintro e w3 ⟨rfl, rfl⟩
    have hz5 : w.heap.size + 1 + 1 < w2.heap.size := by omega
    go_wp2
    exact bodyPost_ret (v := .tuple #[.agg #[.string M, .string E], .bool true]) (by simp [results, Try.results21, go_sem, r0, r1, hz5]) rfl ⟨rfl, (((HB.out.setCell (by simp; try omega) _).setCell (by simp; try omega) _).alloc (by simp; omega) _).drew⟩
set_option maxHeartbeats 1000000 in
theorem meet_no1 (lo hi lo' hi' : ByteArray) (h : mayB lo hi = false) (h1 : okS lo) (h2 : okS hi) (w : World) :
    Calls Try.prog 21 #[.agg #[.string lo, .string hi], .agg #[.string lo', .string hi']] w fun x w' => x = .returned (.tuple #[sp0, .bool false]) ∧ Below w.heap.size w w' := by
  have H1 := Lib.hid fun w => chk_any lo hi _ h h1 h2 w
  clear h h1 h2
  go_enter Try.func21, Try.ntmps21
  go_wp2_with fail
  refine (H1.out _).mono ?_
  rintro e w1 ⟨rfl, b1⟩
  rw [show chkN false = 1 from rfl]
  obtain ⟨x0, x1, y0, y1, r0, r1, f0, f1, hz⟩ := cells3 b1
  go_wp2
  exact bodyPost_ret (v := .tuple #[sp0, .bool false]) (by simp [results, Try.results21, go_sem, r0, r1]) rfl ⟨rfl, ((below_box3 b1).setCell (by simp; try omega) _).setCell (by simp; try omega) _⟩
set_option maxHeartbeats 1000000 in
theorem meet_no2 (lo hi lo' hi' : ByteArray) (m1 : mayB lo hi = true) (m2 : mayB lo' hi' = false) (h1 : okS lo) (h2 : okS hi) (h3 : okS lo') (h4 : okS hi') (w : World) :
    Calls Try.prog 21 #[.agg #[.string lo, .string hi], .agg #[.string lo', .string hi']] w fun x w' => x = .returned (.tuple #[sp0, .bool false]) ∧ Below w.heap.size w w' := by
  have H1 := Lib.hid fun w => chk_any lo hi _ m1 h1 h2 w
  have H2 := Lib.hid fun w => chk_any lo' hi' _ m2 h3 h4 w
  clear m1 m2 h1 h2 h3 h4
  go_enter Try.func21, Try.ntmps21
  go_wp2_with fail
  refine (H1.out _).mono ?_
  rintro e w1 ⟨rfl, b1⟩
  rw [show chkN true = 0 from rfl]
  obtain ⟨x0, x1, y0, y1, r0, r1, f0, f1, hz⟩ := cells3 b1
  go_wp2_with fail
  refine (H2.out _).mono ?_
  rintro e w2 ⟨rfl, b2⟩
  rw [show chkN false = 1 from rfl]
  obtain ⟨hc2, hf2⟩ := bcell b2
  have bb := (below_box3 b1).trans (b2.mono (by omega))
  have hz2 : w.heap.size + 2 < w2.heap.size := by have := b2.size; omega
  rw [← hc2 _ _ (by omega)] at x0 x1 y0 y1 r0 r1
  rw [← hf2 _ _ (by omega)] at f0 f1
  have HB := Lib.hid bb
  clear hc2 hf2 b1 b2 hz bb H1 H2
  go_wp2
  exact bodyPost_ret (v := .tuple #[sp0, .bool false]) (by simp [results, Try.results21, go_sem, r0, r1]) rfl ⟨rfl, (HB.out.setCell (by simp; try omega) _).setCell (by simp; try omega) _⟩
set_option maxHeartbeats 1000000 in
theorem meet_no3 (lo hi lo' hi' : ByteArray) (m1 : mayB lo hi = true) (m2 : mayB lo' hi' = true) (em : aheadB (maxS lo lo') (endS hi hi') = false) (h1 : okS lo) (h2 : okS hi) (h3 : okS lo') (h4 : okS hi') (w : World) :
    Calls Try.prog 21 #[.agg #[.string lo, .string hi], .agg #[.string lo', .string hi']] w fun x w' => x = .returned (.tuple #[sp0, .bool false]) ∧ Below w.heap.size w w' := by
  have H1 := Lib.hid fun w => chk_any lo hi _ m1 h1 h2 w
  have H2 := Lib.hid fun w => chk_any lo' hi' _ m2 h3 h4 w
  have hA := fun w => ahead_any (maxS lo lo') (endS hi hi') w
  rw [em] at hA
  have hmx := run_max_str lo lo'
  have hL := fun w => lesser_any hi hi' w
  obtain ⟨M, hM⟩ : ∃ M, M = maxS lo lo' := ⟨_, rfl⟩
  obtain ⟨E, hE⟩ : ∃ E, E = endS hi hi' := ⟨_, rfl⟩
  rw [← hM] at hA hmx
  rw [← hE] at hA hL
  have HA := Lib.hid hA
  have HL := Lib.hid hL
  clear hM hE hL m1 m2 em h1 h2 h3 h4 hA
  go_enter Try.func21, Try.ntmps21
  go_wp2_with fail
  refine (H1.out _).mono ?_
  rintro e w1 ⟨rfl, b1⟩
  rw [show chkN true = 0 from rfl]
  obtain ⟨x0, x1, y0, y1, r0, r1, f0, f1, hz⟩ := cells3 b1
  go_wp2_with fail
  refine (H2.out _).mono ?_
  rintro e w2 ⟨rfl, b2⟩
  rw [show chkN true = 0 from rfl]
  obtain ⟨hc2, hf2⟩ := bcell b2
  have bb := (below_box3 b1).trans (b2.mono (by omega))
  have hz2 : w.heap.size + 2 < w2.heap.size := by have := b2.size; omega
  rw [← hc2 _ _ (by omega)] at x0 x1 y0 y1 r0 r1
  rw [← hf2 _ _ (by omega)] at f0 f1
  have HB := Lib.hid bb
  clear hc2 hf2 b1 b2 hz bb H1 H2
  go_wp2_with fail
  go_region_held3 (fun w' => w'.cell? ⟨w.heap.size, 0, none⟩ = some (.string lo) ∧ w'.cell? ⟨w.heap.size, 1, none⟩ = some (.string hi) ∧ w'.cell? ⟨w.heap.size + 1, 0, none⟩ = some (.string lo') ∧ w'.cell? ⟨w.heap.size + 1, 1, none⟩ = some (.string hi')) (go_keep)
    (first | (go_at_call 30; refine (HL.out _).mono ?_; rintro e w' ⟨rfl, rfl⟩))
  all_goals
    go_wp2_with fail
    refine (HA.out _).mono ?_
    rintro e w3 ⟨rfl, rfl⟩
    have hz5 : w.heap.size + 1 + 1 < w2.heap.size := by omega
    go_wp2
    exact bodyPost_ret (v := .tuple #[sp0, .bool false]) (by simp [results, Try.results21, go_sem, r0, r1, hz5]) rfl ⟨rfl, (((HB.out.setCell (by simp; try omega) _).setCell (by simp; try omega) _).alloc (by simp; omega) _).drew⟩
theorem meet_no (lo hi lo' hi' : ByteArray) (h : meetB lo hi lo' hi' = false) (h1 : okS lo) (h2 : okS hi) (h3 : okS lo') (h4 : okS hi') (w : World) :
    Calls Try.prog 21 #[.agg #[.string lo, .string hi], .agg #[.string lo', .string hi']] w fun x w' => x = .returned (.tuple #[sp0, .bool false]) ∧ Below w.heap.size w w' := by
  cases m1 : mayB lo hi with
  | false => exact meet_no1 lo hi lo' hi' m1 h1 h2 w
  | true =>
    cases m2 : mayB lo' hi' with
    | false => exact meet_no2 lo hi lo' hi' m1 m2 h1 h2 h3 h4 w
    | true =>
      unfold meetB at h
      rw [m1, m2, Bool.true_and, Bool.true_and] at h
      exact meet_no3 lo hi lo' hi' m1 m2 h h1 h2 h3 h4 w
end Go.Proofs.Ytmglgmljlaplcaa
