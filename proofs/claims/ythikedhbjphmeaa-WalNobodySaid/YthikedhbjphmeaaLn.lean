/-
  Layer 6 (wal): a log of no disk; the calls of a log that nobody made. Conditions: none.
-/
import Derived.Test.YthikedhbjphmeaaLv
import Derived.Test.YthikedhbjphmeaaDn
namespace Go.Proofs.Ythikedhbjphmeaa
open Go.RowKit Go.Lib
set_option linter.unusedVariables false
set_option linter.unusedSimpArgs false

section
variable {w0 : World} {p : Option Addr}
theorem each_ng (h : Ng w0 p) (W : World) (hb : Below w0.heap.size w0 W) (v : Value) :
    Calls Try.prog 36 #[.pointer p, v] W fun e w' => e = .returned (.int .i64 0) ∧ Below W.heap.size W w' := by
  have A := names_ng h W hb
  go_enter Try.func36, Try.ntmps36
  go_wp2_with fail
  refine A.mono ?_
  rintro e w1 ⟨rfl, hb1⟩
  go_wp2
  refine wp_loop_rounds 1 ?_
  rw [rounds_succ]
  go_wp2
  go_ret
  exact ⟨rfl, hb1⟩
theorem load_ng (h : Ng w0 p) (W : World) (hb : Below w0.heap.size w0 W) (fr : Int) :
    Calls Try.prog 20 #[.pointer p, .int .i64 fr] W fun e w' => e = .returned (.tuple #[.slice none 0 0, .int .i64 0]) ∧ Below W.heap.size W w' := by
  have hb3 : Below W.heap.size W (((W.alloc (.cells #[.pointer p] 25)).alloc (.cells #[.int .i64 fr] 51)).alloc (.cells #[.slice none 0 0] 46)) := (((Below.refl _ _).alloc (Nat.le_refl _) _).alloc (by simp) _).alloc (by simp; omega) _
  have A := each_ng h _ (hb.trans (hb3.mono hb.size))
  have s1 : (W.alloc (.cells #[.pointer p] 25)).heap.size = W.heap.size + 1 := by simp
  have s2 : ((W.alloc (.cells #[.pointer p] 25)).alloc (.cells #[.int .i64 fr] 51)).heap.size = W.heap.size + 2 := by simp
  have h2 := heap_alloc_new ((W.alloc (.cells #[.pointer p] 25)).alloc (.cells #[.int .i64 fr] 51)) (.cells #[.slice none 0 0] 46)
  rw [s2] at h2
  have c2 := cell_of h2 0
  have HB3 := Lib.hid hb3
  have HA := Lib.hid A
  have HC2 := Lib.hid c2
  clear hb3 A s1 s2 h2 c2
  go_enter Try.func20, Try.ntmps20
  go_wp2_with fail
  refine (HA.out _).mono ?_
  rintro e w1 ⟨rfl, hb1⟩
  have hc : w1.cell? ⟨W.heap.size + 2, 0, none⟩ = some (.slice none 0 0) := (hb1.cell (p := ⟨W.heap.size + 2, 0, none⟩) (by show W.heap.size + 2 < _; simp)).trans HC2.out
  have HB := Lib.hid (bt HB3.out hb1)
  clear hb1 HA
  go_wp2
  go_ret2
  exact ⟨rfl, HB.out⟩
theorem mayMake_ng (h : Ng w0 p) (W : World) (hb : Below w0.heap.size w0 W) (n : Nat) (hn : n ≤ 99999999) :
    Calls Try.prog 21 #[.pointer p, .int .i64 (n : Int)] W fun e w' => e = .returned (.int .i64 1) ∧ Below W.heap.size W w' := by
  have hF := Lib.hid (file_any n hn)
  have HB := Lib.hid hb
  have HN := Lib.hid h
  clear h hb
  go_enter Try.func21, Try.ntmps21
  go_wp2_with fail
  refine (hF.out _).mono ?_
  rintro e w1 ⟨rfl, hb1⟩
  have HB1 := Lib.hid hb1
  clear hb1
  go_wp2_with fail
  refine (sure_ng HN.out _ (HB.out.trans (HB1.out.mono HB.out.size)) _).mono ?_
  rintro e w2 ⟨rfl, hb2⟩
  have HB2 := Lib.hid (bt HB1.out hb2)
  clear hb2
  go_wp2
  go_ret
  exact ⟨rfl, HB2.out⟩
set_option maxRecDepth 100000 in
set_option maxHeartbeats 400000 in
theorem open_ng (h : Ng w0 p) (W : World) (hb : Below w0.heap.size w0 W) (fr : Int) :
    Calls Try.prog 8 #[.pointer p, .int .i64 fr] W fun e w' => e = .returned (.tuple #[.pointer none, .int .i64 1]) ∧ Below W.heap.size W w' := by
  by_cases hr : fr < 0 ∨ 1048576 < fr
  · exact (open_arg (own := fun _ => True) p W fr hr).mono fun e w' ⟨h1, h2⟩ => ⟨h1, by rw [← h2]; exact Below.refl _ _⟩
  · obtain ⟨n, rfl⟩ : ∃ n : Nat, fr = (n : Int) := ⟨fr.toNat, by omega⟩
    have hfi : (n : Int) ≤ 1048576 := by omega
    have A := load_ng h W hb n
    have HM := Lib.hid fun w' (hb' : Below W.heap.size W w') => mayMake_ng h w' (hb.trans (hb'.mono hb.size)) n (by omega)
    clear hr h hb
    go_enter Try.func8, Try.ntmps8
    go_wp2_with fail
    refine A.mono ?_
    rintro e w1 ⟨rfl, hb1⟩
    have HB1 := Lib.hid hb1
    clear A hb1
    go_wp2_with fail
    refine (HM.out _ HB1.out).mono ?_
    rintro e w2 ⟨rfl, hb2⟩
    have HB2 := Lib.hid (bt HB1.out hb2)
    clear hb2
    go_wp2
    go_ret2
    exact ⟨rfl, HB2.out⟩
end
/-! ### a log that nobody made -/
def Nl (w0 : World) (p : Option Addr) : Prop := ∀ W, Below w0.heap.size w0 W → Calls Try.prog 25 #[.pointer p] W fun e w' => e = .returned (.bool false) ∧ W = w'
theorem Nl.nil (w0 : World) : Nl w0 none := fun W _ => lgiven_nil W
theorem Nl.zero (w0 : World) (b : Nat) (hb : b < w0.heap.size) (h : w0.cell? ⟨b, 0, none⟩ = some (.pointer none)) : Nl w0 (some ⟨b, 0, none⟩) := fun W hW =>
  lgiven_no b W ((hW.cell (p := ⟨b, 0, none⟩) hb).trans h)
section
variable {w0 : World} {p : Option Addr}
theorem roll_nl (h : Nl w0 p) (W : World) (hb : Below w0.heap.size w0 W) : Calls Try.prog 12 #[.pointer p] W fun e w' => e = .returned (.tuple #[.int .i64 0, .int .i64 1]) ∧ W = w' := by
  have A := h W hb
  go_enter Try.func12, Try.ntmps12
  go_wp2_with (go_at_call 25; refine A.mono ?_; rintro e w' ⟨rfl, rfl⟩)
  go_ret2
  exact ⟨rfl, rfl⟩
theorem add_nl (h : Nl w0 p) (W : World) (hb : Below w0.heap.size w0 W) (s : ByteArray) : Calls Try.prog 10 #[.pointer p, .string s] W fun e w' => e = .returned (.int .i64 1) ∧ W = w' := by
  have A := h W hb
  go_enter Try.func10, Try.ntmps10
  go_wp2_with (go_at_call 25; refine A.mono ?_; rintro e w' ⟨rfl, rfl⟩)
  go_ret
  exact ⟨rfl, rfl⟩
theorem flush_nl (h : Nl w0 p) (W : World) (hb : Below w0.heap.size w0 W) : Calls Try.prog 11 #[.pointer p] W fun e w' => e = .returned (.int .i64 1) ∧ W = w' := by
  have A := h W hb
  go_enter Try.func11, Try.ntmps11
  go_wp2_with (go_at_call 25; refine A.mono ?_; rintro e w' ⟨rfl, rfl⟩)
  go_ret
  exact ⟨rfl, rfl⟩
theorem drop_nl (h : Nl w0 p) (W : World) (hb : Below w0.heap.size w0 W) (n : Int) : Calls Try.prog 19 #[.pointer p, .int .i64 n] W fun e w' => e = .returned (.int .i64 1) ∧ W = w' := by
  have A := h W hb
  go_enter Try.func19, Try.ntmps19
  go_wp2_with (go_at_call 25; refine A.mono ?_; rintro e w' ⟨rfl, rfl⟩)
  go_ret
  exact ⟨rfl, rfl⟩
theorem all_nl (h : Nl w0 p) (W : World) (hb : Below w0.heap.size w0 W) : Calls Try.prog 14 #[.pointer p] W fun e w' => e = .returned (.slice none 0 0) ∧ W = w' := by
  have A := h W hb
  go_enter Try.func14, Try.ntmps14
  go_wp2_with (go_at_call 25; refine A.mono ?_; rintro e w' ⟨rfl, rfl⟩)
  go_ret
  exact ⟨rfl, rfl⟩
theorem last_nl (h : Nl w0 p) (W : World) (hb : Below w0.heap.size w0 W) : Calls Try.prog 18 #[.pointer p] W fun e w' => e = .returned (.int .i64 0) ∧ W = w' := by
  have A := h W hb
  go_enter Try.func18, Try.ntmps18
  go_wp2_with (go_at_call 25; refine A.mono ?_; rintro e w' ⟨rfl, rfl⟩)
  go_ret
  exact ⟨rfl, rfl⟩
end
/-- Open of a new disk. -/
theorem open_new {own : Nat → Prop} {w : World} {d : Nat} (hd : DiskAt own w d ⟨[], -1, false⟩) (fr : Nat) (h : fr ≤ 1048576) :
    Calls Try.prog 8 #[.pointer (some ⟨d, 0, none⟩), .int .i64 (fr : Int)] w fun e w' => (∃ l, e = .returned (.tuple #[.pointer (some ⟨l, 0, none⟩), .int .i64 0])) ∧ Keeps own w w' := by
  obtain ⟨M, x, h1, h2, h3, h4, h5, h6, h7⟩ := opens_full (N := []) ⟨List.Pairwise.nil, by simp⟩ (by simp) fr h (by simp)
  have e : (⟨[], -1, false⟩ : Ds) = calm (lf []) := rfl
  rw [e] at hd
  refine (open_any hd h).mono fun e w' ⟨hk, ho⟩ => ?_
  rw [h7] at ho
  rcases ho with ⟨_, l, he, hw⟩ | ⟨hc, _⟩
  · exact ⟨⟨l, he⟩, hk⟩
  · exact absurd rfl hc
end Go.Proofs.Ythikedhbjphmeaa
