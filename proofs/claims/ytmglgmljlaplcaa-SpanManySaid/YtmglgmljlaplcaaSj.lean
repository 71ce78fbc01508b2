/-
  Layer 4 (span): the contracts of Cut, Join, Meet, and of the document's own. Conditions: texts within the form's reach.
-/
import Derived.Test.YtmglgmljlaplcaaSk
import Derived.RegionTactic
import Derived.BigRegion
import Derived.Lib.MinMax
namespace Go.Proofs.Ytmglgmljlaplcaa
open Go.RowKit

theorem below_box2 {w w' : World} {o p : Obj} (h : Below ((w.alloc o).alloc p).heap.size ((w.alloc o).alloc p) w') : Below w.heap.size w w' := below_box (below_box h)
theorem below_box3 {w w' : World} {o p q : Obj} (h : Below (((w.alloc o).alloc p).alloc q).heap.size (((w.alloc o).alloc p).alloc q) w') : Below w.heap.size w w' := below_box (below_box2 h)
/-- The empty range. -/
abbrev sp0 : Value := .agg #[.string ⟨#[]⟩, .string ⟨#[]⟩]

set_option maxHeartbeats 1000000 in
theorem cut_yes (lo hi k : ByteArray) (h : cutB lo hi k = true) (h1 : okS lo) (h2 : okS hi) (h3 : okS k) (w : World) :
    Calls Try.prog 17 #[.agg #[.string lo, .string hi], .string k] w fun x w' => x = .returned (.tuple #[.agg #[.string lo, .string k], .agg #[.string k, .string hi], .int .i64 0]) ∧ Below w.heap.size w w' := by
  obtain ⟨hh, hne⟩ := cutB_iff.1 h
  have HH := Lib.hid fun w => has_any lo hi k _ hh h1 h2 h3 w
  have hne' : (k.toList == lo.toList) = false := by rw [beq_eq_false_iff_ne]; exact fun e => hne (ba_ext e)
  clear h hh hne h1 h2 h3
  go_enter Try.func17, Try.ntmps17
  go_wp2_with fail
  refine (HH.out _).mono ?_
  rintro e w1 ⟨rfl, b1⟩
  obtain ⟨hc, hf⟩ := bcell b1
  have hz : w.heap.size + 2 < w1.heap.size := by have := b1.size; simp at this; omega
  go_wp2
  go_region
  go_wp2
  exact bodyPost_ret (v := .tuple #[.agg #[.string lo, .string k], .agg #[.string k, .string hi], .int .i64 0]) (by simp [results, Try.results17, go_sem, hc]) rfl ⟨rfl, (((((below_box3 b1).setCell (by simp) _).setCell (by simp) _).setCell (by simp; omega) _).setCell (by simp; omega) _).drew⟩
set_option maxHeartbeats 1000000 in
theorem cut_no (lo hi k : ByteArray) (h : cutB lo hi k = false) (h1 : okS lo) (h2 : okS hi) (h3 : okS k) (w : World) :
    Calls Try.prog 17 #[.agg #[.string lo, .string hi], .string k] w fun x w' => x = .returned (.tuple #[sp0, sp0, .int .i64 1]) ∧ Below w.heap.size w w' := by
  cases hh : hasB lo hi k with
  | false =>
    have HH := Lib.hid fun w => has_any lo hi k _ hh h1 h2 h3 w
    clear h hh h1 h2 h3
    go_enter Try.func17, Try.ntmps17
    go_wp2_with fail
    refine (HH.out _).mono ?_
    rintro e w1 ⟨rfl, b1⟩
    obtain ⟨hc, hf⟩ := bcell b1
    have hz : w.heap.size + 2 < w1.heap.size := by have := b1.size; simp at this; omega
    go_wp2
    exact bodyPost_ret (v := .tuple #[sp0, sp0, .int .i64 1]) (by simp [results, Try.results17, go_sem, hc]) rfl ⟨rfl, ((((below_box3 b1).setCell (by simp) _).setCell (by simp) _).setCell (by simp; omega) _).setCell (by simp; omega) _⟩
  | true =>
    have HH := Lib.hid fun w => has_any lo hi k _ hh h1 h2 h3 w
    have hne' : (k.toList == lo.toList) = true := by
      unfold cutB at h
      rw [hh, Bool.true_and, Bool.not_eq_false'] at h
      exact h
    clear h hh h1 h2 h3
    go_enter Try.func17, Try.ntmps17
    go_wp2_with fail
    refine (HH.out _).mono ?_
    rintro e w1 ⟨rfl, b1⟩
    obtain ⟨hc, hf⟩ := bcell b1
    have hz : w.heap.size + 2 < w1.heap.size := by have := b1.size; simp at this; omega
    go_wp2
    exact bodyPost_ret (v := .tuple #[sp0, sp0, .int .i64 1]) (by simp [results, Try.results17, go_sem, hc]) rfl ⟨rfl, ((((below_box3 b1).setCell (by simp) _).setCell (by simp) _).setCell (by simp; omega) _).setCell (by simp; omega) _⟩

set_option maxHeartbeats 1000000 in
theorem rcut_yes (lo hi k : ByteArray) (h : cutB lo hi k = true) (h1 : okS lo) (h2 : okS hi) (h3 : okS k) (w : World) :
    Calls Try.prog 18 #[.agg #[.string lo, .string hi], .string k] w fun x w' => x = .returned (.tuple #[.agg #[.string lo, .string k], .agg #[.string k, .string hi], .int .i64 0]) ∧ Below w.heap.size w w' := by
  obtain ⟨hh, hne⟩ := cutB_iff.1 h
  have HH := Lib.hid fun w => rhas_any lo hi k _ hh h1 h2 h3 w
  have hne' : (k.toList == lo.toList) = false := by rw [beq_eq_false_iff_ne]; exact fun e => hne (ba_ext e)
  clear h hh hne h1 h2 h3
  go_enter Try.func18, Try.ntmps18
  go_wp2_with fail
  refine (HH.out _).mono ?_
  rintro e w1 ⟨rfl, b1⟩
  obtain ⟨hc, hf⟩ := bcell b1
  have hz : w.heap.size + 2 < w1.heap.size := by have := b1.size; simp at this; omega
  go_wp2
  go_region
  go_wp2
  exact bodyPost_ret (v := .tuple #[.agg #[.string lo, .string k], .agg #[.string k, .string hi], .int .i64 0]) (by simp [results, Try.results18, go_sem, hc]) rfl ⟨rfl, (((((below_box3 b1).setCell (by simp) _).setCell (by simp) _).setCell (by simp; omega) _).setCell (by simp; omega) _).drew⟩
set_option maxHeartbeats 1000000 in
theorem rcut_no (lo hi k : ByteArray) (h : cutB lo hi k = false) (h1 : okS lo) (h2 : okS hi) (h3 : okS k) (w : World) :
    Calls Try.prog 18 #[.agg #[.string lo, .string hi], .string k] w fun x w' => x = .returned (.tuple #[sp0, sp0, .int .i64 1]) ∧ Below w.heap.size w w' := by
  cases hh : hasB lo hi k with
  | false =>
    have HH := Lib.hid fun w => rhas_any lo hi k _ hh h1 h2 h3 w
    clear h hh h1 h2 h3
    go_enter Try.func18, Try.ntmps18
    go_wp2_with fail
    refine (HH.out _).mono ?_
    rintro e w1 ⟨rfl, b1⟩
    obtain ⟨hc, hf⟩ := bcell b1
    have hz : w.heap.size + 2 < w1.heap.size := by have := b1.size; simp at this; omega
    go_wp2
    exact bodyPost_ret (v := .tuple #[sp0, sp0, .int .i64 1]) (by simp [results, Try.results18, go_sem, hc]) rfl ⟨rfl, ((((below_box3 b1).setCell (by simp) _).setCell (by simp) _).setCell (by simp; omega) _).setCell (by simp; omega) _⟩
  | true =>
    have HH := Lib.hid fun w => rhas_any lo hi k _ hh h1 h2 h3 w
    have hne' : (k.toList == lo.toList) = true := by
      unfold cutB at h
      rw [hh, Bool.true_and, Bool.not_eq_false'] at h
      exact h
    clear h hh h1 h2 h3
    go_enter Try.func18, Try.ntmps18
    go_wp2_with fail
    refine (HH.out _).mono ?_
    rintro e w1 ⟨rfl, b1⟩
    obtain ⟨hc, hf⟩ := bcell b1
    have hz : w.heap.size + 2 < w1.heap.size := by have := b1.size; simp at this; omega
    go_wp2
    exact bodyPost_ret (v := .tuple #[sp0, sp0, .int .i64 1]) (by simp [results, Try.results18, go_sem, hc]) rfl ⟨rfl, ((((below_box3 b1).setCell (by simp) _).setCell (by simp) _).setCell (by simp; omega) _).setCell (by simp; omega) _⟩

set_option maxHeartbeats 1000000 in
theorem join_yes (lo hi lo' hi' : ByteArray) (h : joinB lo hi lo' hi' = true) (h1 : okS lo) (h2 : okS hi) (h3 : okS lo') (h4 : okS hi') (w : World) :
    Calls Try.prog 19 #[.agg #[.string lo, .string hi], .agg #[.string lo', .string hi']] w fun x w' => x = .returned (.tuple #[.agg #[.string lo, .string hi'], .int .i64 0]) ∧ Below w.heap.size w w' := by
  obtain ⟨m1, m2, em, he⟩ := joinB_iff.1 h
  have H1 := Lib.hid fun w => chk_any lo hi _ m1 h1 h2 w
  have H2 := Lib.hid fun w => chk_any lo' hi' _ m2 h3 h4 w
  have e1 : ¬ hi.toList = [] := fun k => by rw [emB, k] at em; cases em
  have e2 : hi.toList.isEmpty = false := em
  have e3 : (hi.toList == lo'.toList) = true := by rw [he]; simp
  clear h m1 m2 em he h1 h2 h3 h4
  go_enter Try.func19, Try.ntmps19
  go_wp2_with fail
  refine (H1.out _).mono ?_
  rintro e w1 ⟨rfl, b1⟩
  rw [show chkN true = 0 from rfl]
  obtain ⟨hc, hf⟩ := bcell b1
  have hz : w.heap.size + 2 < w1.heap.size := by have := b1.size; simp at this; omega
  have hz0 : w.heap.size < w1.heap.size := by omega
  have hz1 : w.heap.size + 1 < w1.heap.size := by omega
  have hz3 : w.heap.size + 1 + 1 < w1.heap.size := by omega
  go_wp2_with fail
  refine (H2.out _).mono ?_
  rintro e w2 ⟨rfl, b2⟩
  rw [show chkN true = 0 from rfl]
  obtain ⟨hc2, hf2⟩ := bcell b2
  have hz2 : w.heap.size + 2 < w2.heap.size := by have := b2.size; omega
  go_wp2
  exact bodyPost_ret (v := .tuple #[.agg #[.string lo, .string hi'], .int .i64 0]) (by simp [results, Try.results19, go_sem, hc, hc2, hz3]) rfl ⟨rfl, (((below_box3 b1).trans (b2.mono (by have := b1.size; simp at this; omega))).setCell (by simp; try omega) _).setCell (by simp; try omega) _⟩
set_option maxHeartbeats 1000000 in
theorem join_no (lo hi lo' hi' : ByteArray) (h : joinB lo hi lo' hi' = false) (h1 : okS lo) (h2 : okS hi) (h3 : okS lo') (h4 : okS hi') (w : World) :
    Calls Try.prog 19 #[.agg #[.string lo, .string hi], .agg #[.string lo', .string hi']] w fun x w' => x = .returned (.tuple #[sp0, .int .i64 1]) ∧ Below w.heap.size w w' := by
  cases m1 : mayB lo hi with
  | false =>
    have H1 := Lib.hid fun w => chk_any lo hi _ m1 h1 h2 w
    clear h m1 h1 h2 h3 h4
    go_enter Try.func19, Try.ntmps19
    go_wp2_with fail
    refine (H1.out _).mono ?_
    rintro e w1 ⟨rfl, b1⟩
    rw [show chkN false = 1 from rfl]
    obtain ⟨hc, hf⟩ := bcell b1
    have hz : w.heap.size + 2 < w1.heap.size := by have := b1.size; simp at this; omega
    have hz0 : w.heap.size < w1.heap.size := by omega
    have hz1 : w.heap.size + 1 < w1.heap.size := by omega
    have hz3 : w.heap.size + 1 + 1 < w1.heap.size := by omega
    go_wp2
    exact bodyPost_ret (v := .tuple #[sp0, .int .i64 1]) (by simp [results, Try.results19, go_sem, hc]) rfl ⟨rfl, ((below_box3 b1).setCell (by simp; try omega) _).setCell (by simp; try omega) _⟩
  | true =>
    have H1 := Lib.hid fun w => chk_any lo hi _ m1 h1 h2 w
    cases m2 : mayB lo' hi' with
    | false =>
      have H2 := Lib.hid fun w => chk_any lo' hi' _ m2 h3 h4 w
      clear h m1 m2 h1 h2 h3 h4
      go_enter Try.func19, Try.ntmps19
      go_wp2_with fail
      refine (H1.out _).mono ?_
      rintro e w1 ⟨rfl, b1⟩
      rw [show chkN true = 0 from rfl]
      obtain ⟨hc, hf⟩ := bcell b1
      have hz : w.heap.size + 2 < w1.heap.size := by have := b1.size; simp at this; omega
      have hz0 : w.heap.size < w1.heap.size := by omega
      have hz1 : w.heap.size + 1 < w1.heap.size := by omega
      have hz3 : w.heap.size + 1 + 1 < w1.heap.size := by omega
      go_wp2_with fail
      refine (H2.out _).mono ?_
      rintro e w2 ⟨rfl, b2⟩
      rw [show chkN false = 1 from rfl]
      obtain ⟨hc2, hf2⟩ := bcell b2
      have hz2 : w.heap.size + 2 < w2.heap.size := by have := b2.size; omega
      go_wp2
      exact bodyPost_ret (v := .tuple #[sp0, .int .i64 1]) (by simp [results, Try.results19, go_sem, hc, hc2, hz3]) rfl ⟨rfl, (((below_box3 b1).trans (b2.mono (by have := b1.size; simp at this; omega))).setCell (by simp; try omega) _).setCell (by simp; try omega) _⟩
    | true =>
      have H2 := Lib.hid fun w => chk_any lo' hi' _ m2 h3 h4 w
      cases em : emB hi with
      | true =>
        have e1 : hi.toList = [] := List.isEmpty_iff.1 em
        clear h m1 m2 em h1 h2 h3 h4
        go_enter Try.func19, Try.ntmps19
        go_wp2_with fail
        refine (H1.out _).mono ?_
        rintro e w1 ⟨rfl, b1⟩
        rw [show chkN true = 0 from rfl]
        obtain ⟨hc, hf⟩ := bcell b1
        have hz : w.heap.size + 2 < w1.heap.size := by have := b1.size; simp at this; omega
        have hz0 : w.heap.size < w1.heap.size := by omega
        have hz1 : w.heap.size + 1 < w1.heap.size := by omega
        have hz3 : w.heap.size + 1 + 1 < w1.heap.size := by omega
        go_wp2_with fail
        refine (H2.out _).mono ?_
        rintro e w2 ⟨rfl, b2⟩
        rw [show chkN true = 0 from rfl]
        obtain ⟨hc2, hf2⟩ := bcell b2
        have hz2 : w.heap.size + 2 < w2.heap.size := by have := b2.size; omega
        go_wp2
        exact bodyPost_ret (v := .tuple #[sp0, .int .i64 1]) (by simp [results, Try.results19, go_sem, hc, hc2, hz3]) rfl ⟨rfl, (((below_box3 b1).trans (b2.mono (by have := b1.size; simp at this; omega))).setCell (by simp; try omega) _).setCell (by simp; try omega) _⟩
      | false =>
        have e1 : ¬ hi.toList = [] := fun k => by rw [emB, k] at em; cases em
        have e2 : hi.toList.isEmpty = false := em
        have e3 : (hi.toList == lo'.toList) = false := by
          unfold joinB at h
          rw [m1, m2, em, Bool.true_and, Bool.not_false, Bool.true_and] at h
          exact h
        clear h m1 m2 em h1 h2 h3 h4
        go_enter Try.func19, Try.ntmps19
        go_wp2_with fail
        refine (H1.out _).mono ?_
        rintro e w1 ⟨rfl, b1⟩
        rw [show chkN true = 0 from rfl]
        obtain ⟨hc, hf⟩ := bcell b1
        have hz : w.heap.size + 2 < w1.heap.size := by have := b1.size; simp at this; omega
        have hz0 : w.heap.size < w1.heap.size := by omega
        have hz1 : w.heap.size + 1 < w1.heap.size := by omega
        have hz3 : w.heap.size + 1 + 1 < w1.heap.size := by omega
        go_wp2_with fail
        refine (H2.out _).mono ?_
        rintro e w2 ⟨rfl, b2⟩
        rw [show chkN true = 0 from rfl]
        obtain ⟨hc2, hf2⟩ := bcell b2
        have hz2 : w.heap.size + 2 < w2.heap.size := by have := b2.size; omega
        go_wp2
        exact bodyPost_ret (v := .tuple #[sp0, .int .i64 1]) (by simp [results, Try.results19, go_sem, hc, hc2, hz3]) rfl ⟨rfl, (((below_box3 b1).trans (b2.mono (by have := b1.size; simp at this; omega))).setCell (by simp; try omega) _).setCell (by simp; try omega) _⟩

set_option maxHeartbeats 1000000 in
theorem rjoin_yes (lo hi lo' hi' : ByteArray) (h : joinB lo hi lo' hi' = true) (h1 : okS lo) (h2 : okS hi) (h3 : okS lo') (h4 : okS hi') (w : World) :
    Calls Try.prog 20 #[.agg #[.string lo, .string hi], .agg #[.string lo', .string hi']] w fun x w' => x = .returned (.tuple #[.agg #[.string lo, .string hi'], .int .i64 0]) ∧ Below w.heap.size w w' := by
  obtain ⟨m1, m2, em, he⟩ := joinB_iff.1 h
  have H1 := Lib.hid fun w => rmay_any lo hi _ m1 h1 h2 w
  have H2 := Lib.hid fun w => rmay_any lo' hi' _ m2 h3 h4 w
  have e1 : ¬ hi.toList = [] := fun k => by rw [emB, k] at em; cases em
  have e2 : hi.toList.isEmpty = false := em
  have e3 : (hi.toList == lo'.toList) = true := by rw [he]; simp
  clear h m1 m2 em he h1 h2 h3 h4
  go_enter Try.func20, Try.ntmps20
  go_wp2_with fail
  refine (H1.out _).mono ?_
  rintro e w1 ⟨rfl, b1⟩
  obtain ⟨hc, hf⟩ := bcell b1
  have hz : w.heap.size + 2 < w1.heap.size := by have := b1.size; simp at this; omega
  have hz0 : w.heap.size < w1.heap.size := by omega
  have hz1 : w.heap.size + 1 < w1.heap.size := by omega
  have hz3 : w.heap.size + 1 + 1 < w1.heap.size := by omega
  go_wp2_with fail
  refine (H2.out _).mono ?_
  rintro e w2 ⟨rfl, b2⟩
  obtain ⟨hc2, hf2⟩ := bcell b2
  have hz2 : w.heap.size + 2 < w2.heap.size := by have := b2.size; omega
  go_wp2
  exact bodyPost_ret (v := .tuple #[.agg #[.string lo, .string hi'], .int .i64 0]) (by simp [results, Try.results20, go_sem, hc, hc2, hz3]) rfl ⟨rfl, (((below_box3 b1).trans (b2.mono (by have := b1.size; simp at this; omega))).setCell (by simp; try omega) _).setCell (by simp; try omega) _⟩
set_option maxHeartbeats 1000000 in
theorem rjoin_no (lo hi lo' hi' : ByteArray) (h : joinB lo hi lo' hi' = false) (h1 : okS lo) (h2 : okS hi) (h3 : okS lo') (h4 : okS hi') (w : World) :
    Calls Try.prog 20 #[.agg #[.string lo, .string hi], .agg #[.string lo', .string hi']] w fun x w' => x = .returned (.tuple #[sp0, .int .i64 1]) ∧ Below w.heap.size w w' := by
  cases m1 : mayB lo hi with
  | false =>
    have H1 := Lib.hid fun w => rmay_any lo hi _ m1 h1 h2 w
    clear h m1 h1 h2 h3 h4
    go_enter Try.func20, Try.ntmps20
    go_wp2_with fail
    refine (H1.out _).mono ?_
    rintro e w1 ⟨rfl, b1⟩
    obtain ⟨hc, hf⟩ := bcell b1
    have hz : w.heap.size + 2 < w1.heap.size := by have := b1.size; simp at this; omega
    have hz0 : w.heap.size < w1.heap.size := by omega
    have hz1 : w.heap.size + 1 < w1.heap.size := by omega
    have hz3 : w.heap.size + 1 + 1 < w1.heap.size := by omega
    go_wp2
    exact bodyPost_ret (v := .tuple #[sp0, .int .i64 1]) (by simp [results, Try.results20, go_sem, hc]) rfl ⟨rfl, ((below_box3 b1).setCell (by simp; try omega) _).setCell (by simp; try omega) _⟩
  | true =>
    have H1 := Lib.hid fun w => rmay_any lo hi _ m1 h1 h2 w
    cases m2 : mayB lo' hi' with
    | false =>
      have H2 := Lib.hid fun w => rmay_any lo' hi' _ m2 h3 h4 w
      clear h m1 m2 h1 h2 h3 h4
      go_enter Try.func20, Try.ntmps20
      go_wp2_with fail
      refine (H1.out _).mono ?_
      rintro e w1 ⟨rfl, b1⟩
      obtain ⟨hc, hf⟩ := bcell b1
      have hz : w.heap.size + 2 < w1.heap.size := by have := b1.size; simp at this; omega
      have hz0 : w.heap.size < w1.heap.size := by omega
      have hz1 : w.heap.size + 1 < w1.heap.size := by omega
      have hz3 : w.heap.size + 1 + 1 < w1.heap.size := by omega
      go_wp2_with fail
      refine (H2.out _).mono ?_
      rintro e w2 ⟨rfl, b2⟩
      obtain ⟨hc2, hf2⟩ := bcell b2
      have hz2 : w.heap.size + 2 < w2.heap.size := by have := b2.size; omega
      go_wp2
      exact bodyPost_ret (v := .tuple #[sp0, .int .i64 1]) (by simp [results, Try.results20, go_sem, hc, hc2, hz3]) rfl ⟨rfl, (((below_box3 b1).trans (b2.mono (by have := b1.size; simp at this; omega))).setCell (by simp; try omega) _).setCell (by simp; try omega) _⟩
    | true =>
      have H2 := Lib.hid fun w => rmay_any lo' hi' _ m2 h3 h4 w
      cases em : emB hi with
      | true =>
        have e1 : hi.toList = [] := List.isEmpty_iff.1 em
        clear h m1 m2 em h1 h2 h3 h4
        go_enter Try.func20, Try.ntmps20
        go_wp2_with fail
        refine (H1.out _).mono ?_
        rintro e w1 ⟨rfl, b1⟩
        obtain ⟨hc, hf⟩ := bcell b1
        have hz : w.heap.size + 2 < w1.heap.size := by have := b1.size; simp at this; omega
        have hz0 : w.heap.size < w1.heap.size := by omega
        have hz1 : w.heap.size + 1 < w1.heap.size := by omega
        have hz3 : w.heap.size + 1 + 1 < w1.heap.size := by omega
        go_wp2_with fail
        refine (H2.out _).mono ?_
        rintro e w2 ⟨rfl, b2⟩
        obtain ⟨hc2, hf2⟩ := bcell b2
        have hz2 : w.heap.size + 2 < w2.heap.size := by have := b2.size; omega
        go_wp2
        exact bodyPost_ret (v := .tuple #[sp0, .int .i64 1]) (by simp [results, Try.results20, go_sem, hc, hc2, hz3]) rfl ⟨rfl, (((below_box3 b1).trans (b2.mono (by have := b1.size; simp at this; omega))).setCell (by simp; try omega) _).setCell (by simp; try omega) _⟩
      | false =>
        have e1 : ¬ hi.toList = [] := fun k => by rw [emB, k] at em; cases em
        have e2 : hi.toList.isEmpty = false := em
        have e3 : (hi.toList == lo'.toList) = false := by
          unfold joinB at h
          rw [m1, m2, em, Bool.true_and, Bool.not_false, Bool.true_and] at h
          exact h
        clear h m1 m2 em h1 h2 h3 h4
        go_enter Try.func20, Try.ntmps20
        go_wp2_with fail
        refine (H1.out _).mono ?_
        rintro e w1 ⟨rfl, b1⟩
        obtain ⟨hc, hf⟩ := bcell b1
        have hz : w.heap.size + 2 < w1.heap.size := by have := b1.size; simp at this; omega
        have hz0 : w.heap.size < w1.heap.size := by omega
        have hz1 : w.heap.size + 1 < w1.heap.size := by omega
        have hz3 : w.heap.size + 1 + 1 < w1.heap.size := by omega
        go_wp2_with fail
        refine (H2.out _).mono ?_
        rintro e w2 ⟨rfl, b2⟩
        obtain ⟨hc2, hf2⟩ := bcell b2
        have hz2 : w.heap.size + 2 < w2.heap.size := by have := b2.size; omega
        go_wp2
        exact bodyPost_ret (v := .tuple #[sp0, .int .i64 1]) (by simp [results, Try.results20, go_sem, hc, hc2, hz3]) rfl ⟨rfl, (((below_box3 b1).trans (b2.mono (by have := b1.size; simp at this; omega))).setCell (by simp; try omega) _).setCell (by simp; try omega) _⟩
end Go.Proofs.Ytmglgmljlaplcaa
