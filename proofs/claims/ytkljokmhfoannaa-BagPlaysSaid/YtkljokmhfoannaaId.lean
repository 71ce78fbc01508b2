/-
  Layer 15 (bag): contracts of find, Waits, lay, Clear. Conditions: none.
-/
import Derived.Test.YtkljokmhfoannaaIc
import Derived.Test.YtkljokmhfoannaaQm
import Derived.Deep.RegionWith
import Derived.BigRegion
import Derived.StillTailTactics
namespace Go.Proofs.Ytkljokmhfoannaa
open Go.RowKit Go.Maps
set_option linter.unusedVariables false
set_option linter.unusedSimpArgs false

theorem has_one {own : Nat → Prop} {w0 w : World} {b n c : Nat} {q : Wq} (h : BagAt own w0 b n c q) (hb : Below w0.heap.size w0 w) (k : Int) (hk : (Lit.int .i64 k).wf = true) :
    Calls Try.prog 35 #[.pointer (some ⟨b, 0, none⟩), .slice (some ⟨w.heap.size, 0, none⟩) 1 1] (w.alloc (.cells #[.int .i64 k] 3)) fun e w' => e = .returned (.bool (place n c k)) ∧ w.alloc (.cells #[.int .i64 k] 3) = w' := by
  have hB : BagAt own (w.alloc (.cells #[.int .i64 k] 3)) b n c q := h.below (hb.alloc hb.size _)
  have := has15_any hB w.heap.size 1 [k] (fun i hi => by simp at hi; subst hi; simp) (by simpa using hk) (by simp)
  simpa using this
theorem has_two {own : Nat → Prop} {w0 w : World} {b n c : Nat} {q : Wq} (h : BagAt own w0 b n c q) (hb : Below w0.heap.size w0 w) (k j : Int) (hk : (Lit.int .i64 k).wf = true) (hj : (Lit.int .i64 j).wf = true) :
    Calls Try.prog 35 #[.pointer (some ⟨b, 0, none⟩), .slice (some ⟨w.heap.size, 0, none⟩) 2 2] (w.alloc (.cells #[.int .i64 k, .int .i64 j] 3)) fun e w' => e = .returned (.bool (place n c k && place n c j)) ∧ w.alloc (.cells #[.int .i64 k, .int .i64 j] 3) = w' := by
  have hB : BagAt own (w.alloc (.cells #[.int .i64 k, .int .i64 j] 3)) b n c q := h.below (hb.alloc hb.size _)
  have := has15_any hB w.heap.size 2 [k, j] (fun i hi => by
    match i, hi with
    | 0, _ => simp
    | 1, _ => simp) (by simp [hk, hj]) (by simp)
  simpa using this
theorem bal {w0 w : World} (h : Below w0.heap.size w0 w) (o : Obj) : Below w0.heap.size w0 (w.alloc o) := h.alloc h.size o
set_option maxRecDepth 100000 in
set_option maxHeartbeats 2000000 in
theorem waits15_any {own : Nat → Prop} {w : World} {b n c : Nat} {q : Wq} (h : BagAt own w b n c q) (k : Int) (hk : (Lit.int .i64 k).wf = true) :
    Calls Try.prog 22 #[.pointer (some ⟨b, 0, none⟩), .int .i64 k] w fun e w' => e = .returned (.int .i64 ((q k).length : Nat)) ∧ Below w.heap.size w w' := by
  have HH := Lib.hid (has_one h (Below.refl _ _) k hk)
  obtain ⟨mb, S, D, hB⟩ := h
  obtain ⟨L, hL⟩ : ∃ L, L = (q k).length := ⟨_, rfl⟩
  rw [← hL]
  have HB1 := Lib.hid (bal (Below.refl _ w) (.cells #[.int .i64 k] 3))
  by_cases hp : place n c k = true
  · rw [hp] at HH
    have hB' := hB.below HB1.out
    obtain ⟨a, cp, hv, hcp⟩ := own_len (hB'.row k hp)
    have hlook := hB'.look k hk hp
    rw [hv, ← hL] at hlook
    obtain ⟨c0, c1, hlt⟩ := hB'.cells
    clear hB hB' hL hv
    go_enter Try.func22, Try.ntmps22
    go_wp2_with (go_at_call 35; refine HH.out.mono ?_; rintro e w' ⟨rfl, rfl⟩)
    go_ret
    exact ⟨rfl, HB1.out⟩
  · have hp' : place n c k = false := by simpa using hp
    rw [hp'] at HH
    obtain rfl : L = 0 := by rw [hL, (hB.home k).2.1 hp']; rfl
    clear hB hL
    go_enter Try.func22, Try.ntmps22
    go_wp2_with (go_at_call 35; refine HH.out.mono ?_; rintro e w' ⟨rfl, rfl⟩)
    go_ret
    exact ⟨rfl, HB1.out⟩
theorem waits15_no {w : World} {p : Option Addr} (h : NoBag w p) (k : Int) : Calls Try.prog 22 #[.pointer p, .int .i64 k] w fun e w' => e = .returned (.int .i64 0) ∧ Below w.heap.size w w' := by
  have HH := Lib.hid (has15_no (h.below (bal (Below.refl _ w) (.cells #[.int .i64 k] 3))))
  have HB1 := Lib.hid (bal (Below.refl _ w) (.cells #[.int .i64 k] 3))
  clear h
  go_enter Try.func22, Try.ntmps22
  go_wp2_with (go_at_call 35; refine (HH.out _).mono ?_; rintro e w' ⟨rfl, rfl⟩)
  go_ret
  exact ⟨rfl, HB1.out⟩
/-- What Clear leaves. -/
def CLR (own : Nat → Prop) (w : World) (b n c : Nat) (q : Wq) (k : Int) (e : Ending) (w' : World) : Prop :=
  e = .returned (.int .i64 (clE n c k)) ∧ BagAt own w' b n c (clQ n c q k) ∧ Kp own w w'
set_option maxRecDepth 100000 in
set_option maxHeartbeats 2000000 in
theorem clear15_any {own : Nat → Prop} {w : World} {b n c : Nat} {q : Wq} (h : BagAt own w b n c q) (k : Int) (hk : (Lit.int .i64 k).wf = true) :
    Calls Try.prog 20 #[.pointer (some ⟨b, 0, none⟩), .int .i64 k] w (CLR own w b n c q k) := by
  have HH := Lib.hid (has_one h (Below.refl _ _) k hk)
  have H0 := Lib.hid h
  obtain ⟨mb, S, D, hB⟩ := h
  have HB1 := Lib.hid (bal (Below.refl _ w) (.cells #[.int .i64 k] 3))
  by_cases hp : place n c k = true
  · rw [hp] at HH
    have HP := Lib.hid hp
    have hB' := hB.below HB1.out
    have HBI := Lib.hid hB'
    have HBO := Lib.hid hB
    obtain ⟨c0, c1, hlt⟩ := hB'.cells
    have HK := Lib.hid hk
    have HSM := Lib.hid (show Maps.size D < maxLen by have := hB.small; unfold maxLen; omega)
    clear hB hB' hp
    go_enter Try.func20, Try.ntmps20
    go_wp2_with (first
      | (go_at_call 35; refine HH.out.mono ?_; rintro e w' ⟨rfl, rfl⟩)
      | (at_mapUpdate; refine wpList_mapUpdate_in _ rfl _ _ _ 58 rfl 3 28 (int_keyed Try.underlying3) Try.underlying58 sR mb _ D rfl HBI.out.map HSM.out _ _ _ rfl rfl (keyI k HK.out) _ [] (sR_mk (none, 0, 0)) ?_; intro w1 hown1 hturn1)
      | go_in)
    have hst := HBO.out.store (k := k) (x := (none, 0, 0)) (L := []) HP.out HB1.out ⟨rfl, rfl, rfl, Nat.le_refl _, fun _ _ _ => rfl⟩ (World.ownsRow_nil _ _ _ _) (by simp) hown1 hturn1 (by simp) (by simp)
    clear hown1 hturn1
    go_ret
    unfold CLR clE clQ
    rw [HP.out]
    exact ⟨rfl, hst⟩
  · have hp' : place n c k = false := by simpa using hp
    rw [hp'] at HH
    have HP := Lib.hid hp'
    clear hB hp hp'
    go_enter Try.func20, Try.ntmps20
    go_wp2_with (go_at_call 35; refine HH.out.mono ?_; rintro e w' ⟨rfl, rfl⟩)
    go_ret
    unfold CLR clE clQ
    rw [HP.out]
    exact ⟨rfl, H0.out.below HB1.out, Kp.of_below HB1.out H0.out.lt⟩
end Go.Proofs.Ytkljokmhfoannaa
