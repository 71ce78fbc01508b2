/-
  Layer 5 (fs): every call of a disk that nobody made is refused. Conditions: none.
-/
import Derived.Test.YthikedhbjphmeaaDs
namespace Go.Proofs.Ythikedhbjphmeaa
open Go.RowKit Go.Lib
set_option linter.unusedVariables false

/-- In every world behind w0 the pointer p is of no disk. -/
def Ng (w0 : World) (p : Option Addr) : Prop := ∀ W, Below w0.heap.size w0 W → Calls Try.prog 32 #[.pointer p] W fun e w' => e = .returned (.bool false) ∧ W = w'
theorem Ng.nil (w0 : World) : Ng w0 none := fun W _ => given_nil W
theorem Ng.zero (w0 : World) (b : Nat) (hb : b < w0.heap.size) (h : w0.cell? ⟨b, 0, none⟩ = some (.pointer none)) : Ng w0 (some ⟨b, 0, none⟩) := fun W hW =>
  given_no b W ((hW.cell (p := ⟨b, 0, none⟩) hb).trans h)
section
variable {w0 : World} {p : Option Addr}
theorem Ng.at (h : Ng w0 p) {W W' : World} (hb : Below w0.heap.size w0 W) (k : Below W.heap.size W W') : Calls Try.prog 32 #[.pointer p] W' fun e w' => e = .returned (.bool false) ∧ W' = w' := h W' (hb.trans (k.mono hb.size))
theorem one_more (W : World) (o : Obj) : Below W.heap.size W (W.alloc o) := (Below.refl _ _).alloc (Nat.le_refl _) _
theorem ask_ng {W : World} (h : Calls Try.prog 32 #[.pointer p] W fun e w' => e = .returned (.bool false) ∧ W = w') (v : Value) :
    Calls Try.prog 63 #[.pointer p, v] W fun e w' => e = .returned (.int .i64 1) ∧ W = w' := by
  go_enter Try.func63, Try.ntmps63
  go_wp2_with (go_at_call 32; refine h.mono ?_; rintro e w' ⟨rfl, rfl⟩)
  go_ret
  exact ⟨rfl, rfl⟩
theorem begin_ng {W : World} (h : Calls Try.prog 32 #[.pointer p] W fun e w' => e = .returned (.bool false) ∧ W = w') (v : Value) :
    Calls Try.prog 55 #[.pointer p, v] W fun e w' => e = .returned (.int .i64 1) ∧ W = w' := by
  have A := ask_ng h v
  go_enter Try.func55, Try.ntmps55
  go_wp2_with (go_at_call 63; refine A.mono ?_; rintro e w' ⟨rfl, rfl⟩)
  go_ret
  exact ⟨rfl, rfl⟩
theorem change_ng {W : World} (h : Calls Try.prog 32 #[.pointer p] W fun e w' => e = .returned (.bool false) ∧ W = w') (v : Value) :
    Calls Try.prog 48 #[.pointer p, v] W fun e w' => e = .returned (.tuple #[.pointer none, .int .i64 1]) ∧ W = w' := by
  have A := begin_ng h v
  go_enter Try.func48, Try.ntmps48
  go_wp2_with (go_at_call 55; refine A.mono ?_; rintro e w' ⟨rfl, rfl⟩)
  go_ret2
  exact ⟨rfl, rfl⟩
theorem look_ng (h : Ng w0 p) (W : World) (hb : Below w0.heap.size w0 W) (s : ByteArray) :
    Calls Try.prog 52 #[.pointer p, .string s] W fun e w' => e = .returned (.tuple #[.pointer none, .int .i64 1]) ∧ Below W.heap.size W w' := by
  have A := ask_ng (h.at hb (one_more W (.cells #[.string s] 9))) (.slice (some ⟨W.heap.size, 0, none⟩) 1 1)
  go_enter Try.func52, Try.ntmps52
  go_wp2_with (go_at_call 63; refine A.mono ?_; rintro e w' ⟨rfl, rfl⟩)
  go_ret2
  exact ⟨rfl, one_more _ _⟩
theorem make_ng (h : Ng w0 p) (W : World) (hb : Below w0.heap.size w0 W) (s : ByteArray) :
    Calls Try.prog 43 #[.pointer p, .string s] W fun e w' => e = .returned (.int .i64 1) ∧ Below W.heap.size W w' := by
  have A := begin_ng (h.at hb (one_more W (.cells #[.string s] 9))) (.slice (some ⟨W.heap.size, 0, none⟩) 1 1)
  go_enter Try.func43, Try.ntmps43
  go_wp2_with (go_at_call 55; refine A.mono ?_; rintro e w' ⟨rfl, rfl⟩)
  go_ret
  exact ⟨rfl, one_more _ _⟩
theorem append_ng (h : Ng w0 p) (W : World) (hb : Below w0.heap.size w0 W) (s t : ByteArray) :
    Calls Try.prog 28 #[.pointer p, .string s, .string t] W fun e w' => e = .returned (.int .i64 1) ∧ Below W.heap.size W w' := by
  have A := change_ng (h.at hb (one_more W (.cells #[.string s] 9))) (.slice (some ⟨W.heap.size, 0, none⟩) 1 1)
  go_enter Try.func28, Try.ntmps28
  go_wp2_with (go_at_call 48; refine A.mono ?_; rintro e w' ⟨rfl, rfl⟩)
  go_ret
  exact ⟨rfl, one_more _ _⟩
theorem sync_ng (h : Ng w0 p) (W : World) (hb : Below w0.heap.size w0 W) (s : ByteArray) :
    Calls Try.prog 31 #[.pointer p, .string s] W fun e w' => e = .returned (.int .i64 1) ∧ Below W.heap.size W w' := by
  have A := change_ng (h.at hb (one_more W (.cells #[.string s] 9))) (.slice (some ⟨W.heap.size, 0, none⟩) 1 1)
  go_enter Try.func31, Try.ntmps31
  go_wp2_with (go_at_call 48; refine A.mono ?_; rintro e w' ⟨rfl, rfl⟩)
  go_ret
  exact ⟨rfl, one_more _ _⟩
theorem remove_ng (h : Ng w0 p) (W : World) (hb : Below w0.heap.size w0 W) (s : ByteArray) :
    Calls Try.prog 42 #[.pointer p, .string s] W fun e w' => e = .returned (.int .i64 1) ∧ Below W.heap.size W w' := by
  have A := change_ng (h.at hb (one_more W (.cells #[.string s] 9))) (.slice (some ⟨W.heap.size, 0, none⟩) 1 1)
  go_enter Try.func42, Try.ntmps42
  go_wp2_with (go_at_call 48; refine A.mono ?_; rintro e w' ⟨rfl, rfl⟩)
  go_ret
  exact ⟨rfl, one_more _ _⟩
theorem read_ng (h : Ng w0 p) (W : World) (hb : Below w0.heap.size w0 W) (s : ByteArray) :
    Calls Try.prog 38 #[.pointer p, .string s] W fun e w' => e = .returned (.tuple #[.string ⟨#[]⟩, .int .i64 1]) ∧ Below W.heap.size W w' := by
  have A := look_ng h W hb s
  go_enter Try.func38, Try.ntmps38
  go_wp2_with (go_at_call 52; refine A.mono ?_; rintro e w' ⟨rfl, bb⟩)
  go_ret2
  exact ⟨rfl, bb⟩
theorem sure_ng (h : Ng w0 p) (W : World) (hb : Below w0.heap.size w0 W) (s : ByteArray) :
    Calls Try.prog 40 #[.pointer p, .string s] W fun e w' => e = .returned (.tuple #[.int .i64 0, .int .i64 1]) ∧ Below W.heap.size W w' := by
  have A := look_ng h W hb s
  go_enter Try.func40, Try.ntmps40
  go_wp2_with (go_at_call 52; refine A.mono ?_; rintro e w' ⟨rfl, bb⟩)
  go_ret2
  exact ⟨rfl, bb⟩
theorem names_ng (h : Ng w0 p) (W : World) (hb : Below w0.heap.size w0 W)  :
    Calls Try.prog 24 #[.pointer p] W fun e w' => e = .returned (.slice none 0 0) ∧ Below W.heap.size W w' := by
  have A := h W hb
  go_enter Try.func24, Try.ntmps24
  go_wp2_with (go_at_call 32; refine A.mono ?_; rintro e w' ⟨rfl, rfl⟩)
  go_ret
  exact ⟨rfl, Below.refl _ _⟩
theorem off_ng (h : Ng w0 p) (W : World) (hb : Below w0.heap.size w0 W)  :
    Calls Try.prog 17 #[.pointer p] W fun e w' => e = .returned (.bool false) ∧ Below W.heap.size W w' := by
  have A := h W hb
  go_enter Try.func17, Try.ntmps17
  go_wp2_with (go_at_call 32; refine A.mono ?_; rintro e w' ⟨rfl, rfl⟩)
  go_ret
  exact ⟨rfl, Below.refl _ _⟩
theorem fuse_ng (h : Ng w0 p) (W : World) (hb : Below w0.heap.size w0 W) (n : Int) :
    Calls Try.prog 16 #[.pointer p, .int .i64 n] W fun e w' => e = .returned (.int .i64 1) ∧ Below W.heap.size W w' := by
  have A := h W hb
  go_enter Try.func16, Try.ntmps16
  go_wp2_with (go_at_call 32; refine A.mono ?_; rintro e w' ⟨rfl, rfl⟩)
  go_ret
  exact ⟨rfl, Below.refl _ _⟩
theorem crash_ng (h : Ng w0 p) (W : World) (hb : Below w0.heap.size w0 W) (v : Value) :
    Calls Try.prog 13 #[.pointer p, v] W fun e w' => e = .returned (.int .i64 1) ∧ Below W.heap.size W w' := by
  have A := h W hb
  go_enter Try.func13, Try.ntmps13
  go_wp2_with (go_at_call 32; refine A.mono ?_; rintro e w' ⟨rfl, rfl⟩)
  go_ret
  exact ⟨rfl, Below.refl _ _⟩
end
end Go.Proofs.Ythikedhbjphmeaa
