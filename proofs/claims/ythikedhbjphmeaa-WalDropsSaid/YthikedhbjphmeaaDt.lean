/-
  Layer 5 (fs), contract of a file's crash: of what is not sure so many bytes survive. Conditions: texts within the form's reach.
-/
import Derived.Test.YthikedhbjphmeaaDq
import Derived.Lib.MinMax
import Derived.StillTailTactics
import Derived.BigRegion
namespace Go.Proofs.Ythikedhbjphmeaa
open Go.RowKit Go.Lib
set_option linter.unusedVariables false

/-- How many bytes are sure then. -/
def keepN (n : Int) (f : Fl) : Nat := f.sure + (min (max n 0) ((f.bytes.length : Int) - (f.sure : Int))).toNat
theorem keepN_le (n : Int) (f : Fl) (h : f.sure ≤ f.bytes.length) : keepN n f ≤ f.bytes.length := by unfold keepN; omega
theorem keepN_ge (n : Int) (f : Fl) : f.sure ≤ keepN n f := by unfold keepN; omega
def cutF (n : Int) (f : Fl) : Fl := ⟨f.bytes.take (keepN n f), keepN n f⟩
section
variable {own : Nat → Prop} {w : World} {d m : Nat} {G : List (List UInt8 × Gf)} {fuse : Int} {off : Bool}
theorem Dsk.cut (h : Dsk own w d m G fuse off) {k : List UInt8} {g : Gf} (hg : getL k G = some g) {a : Option Addr} {cap : Nat} (hh : w.heap[g.blk]? = some (.cells #[.slice a g.fl.bytes.length cap, .int .i64 (g.fl.sure : Int)] 81 (0, 0))) :
    Dsk own (w.setCell ⟨g.blk, 0, none⟩ (.slice a g.fl.sure cap)) d m (setL k ⟨⟨g.fl.bytes.take g.fl.sure, g.fl.sure⟩, g.blk, g.row⟩ G) fuse off ∧ Keeps own w (w.setCell ⟨g.blk, 0, none⟩ (.slice a g.fl.sure cap)) := by
  have hf : FileAt w g := h.file _ ((getL_iff h.srt).1 hg)
  have hf1 := hf
  obtain ⟨v, h1, h2, h3, h4, h5⟩ := hf1
  obtain rfl : v = .slice a g.fl.bytes.length cap := by rw [hh] at h1; cases h1; rfl
  have hs : ∀ b, b < w.heap.size → b ≠ g.blk → g.row ≠ some b → (w.setCell ⟨g.blk, 0, none⟩ (.slice a g.fl.sure cap)).heap[b]? = w.heap[b]? := fun b hb n1 n2 => Below.heap_setCell _ _ _ _ n1
  have hsz : w.heap.size ≤ (w.setCell ⟨g.blk, 0, none⟩ (.slice a g.fl.sure cap)).heap.size := by simp [World.setCell]
  have ho : (Value.slice a g.fl.sure cap).ownBlock = g.row := by rw [← h3]; cases a <;> rfl
  refine ⟨h.reFile hg rfl ⟨_, by rw [setCell_at hh]; rfl, ?_, ho, ?_, ?_⟩ hs (fun r hr => .inl hr) hsz, h.reFile_keeps hg rfl rfl rfl hsz hs⟩
  · have h6 := own_cut h2 g.fl.sure h4
    have h7 := own_same h6 (w' := w.setCell ⟨g.blk, 0, none⟩ (.slice a g.fl.sure cap)) fun r hr => Below.heap_setCell _ _ _ _ (fun e => hf.apart hf (by rw [← ho, hr]; exact congrArg some e))
    have e : (g.fl.bytes.take g.fl.sure).length = g.fl.sure := by rw [List.length_take]; omega
    rw [e]
    have e2 : bv (g.fl.bytes.take g.fl.sure) = (bv g.fl.bytes).take g.fl.sure := by unfold bv; rw [List.map_take]
    rw [e2]
    exact h7
  · show g.fl.sure ≤ (g.fl.bytes.take g.fl.sure).length
    rw [List.length_take]; omega
  · show (g.fl.bytes.take g.fl.sure).length ≤ 4194304
    rw [List.length_take]; omega
end
set_option maxRecDepth 100000 in
set_option maxHeartbeats 2000000 in
theorem fcrash_any {own : Nat → Prop} {w : World} {d m : Nat} {G : List (List UInt8 × Gf)} {fuse : Int} {off : Bool} (h : Dsk own w d m G fuse off) {k : List UInt8} {g : Gf} (hg : getL k G = some g) (n : Int) (hn : -9223372036854775808 ≤ n ∧ n ≤ 9223372036854775807) :
    Calls Try.prog 33 #[.pointer (some ⟨g.blk, 0, none⟩), .int .i64 n] w fun e w' => (∃ v, e = .returned v) ∧ Dsk own w' d m (setL k ⟨cutF n g.fl, g.blk, g.row⟩ G) fuse off ∧ Keeps own w w' := by
  obtain ⟨a, cap, c0, c1, f0, f1, lt, ho, hob, hsu, hle, hh⟩ := h.fileCells hg
  have H := Lib.hid h
  have HG := Lib.hid hg
  have HO := Lib.hid ho
  have HH := Lib.hid hh
  clear h hg ho hob hh
  go_enter Try.func33, Try.ntmps33
  go_wp2
  go_still_tail 20, (by kernel_rfl)
  change wpList _ _ _ _ _ w.drew
  go_wp2
  have e1 : (g.fl.sure : Int) + min (max n 0) ((g.fl.bytes.length : Int) - (g.fl.sure : Int)) = ((keepN n g.fl : Nat) : Int) := by unfold keepN; omega
  have hK := keepN_le n g.fl hsu
  rw [e1]
  obtain ⟨h1, k1⟩ := H.out.reSure HG.out (keepN n g.fl) hK
  have h2 : Dsk own (w.setCell ⟨g.blk, 1, none⟩ (.int .i64 ((keepN n g.fl : Nat) : Int))).drew d m _ fuse off := h1.below ((Below.refl _ _).drew)
  have k2 : Keeps own w (w.setCell ⟨g.blk, 1, none⟩ (.int .i64 ((keepN n g.fl : Nat) : Int))).drew := k1.drew
  have hg2 : getL k (setL k (⟨⟨g.fl.bytes, keepN n g.fl⟩, g.blk, g.row⟩ : Gf) G) = some ⟨⟨g.fl.bytes, keepN n g.fl⟩, g.blk, g.row⟩ := by rw [getL_setL, if_pos rfl, HG.out]; rfl
  clear c0 c1 f0 f1 lt h1 k1 e1
  generalize (w.setCell ⟨g.blk, 1, none⟩ (.int .i64 ((keepN n g.fl : Nat) : Int))).drew = w2 at h2 k2 ⊢
  obtain ⟨a2, cap2, c0, c1, f0, f1, lt, ho, hob, hsu2, hle2, hh⟩ := h2.fileCells hg2
  dsimp only at c0 c1 f0 f1 lt ho hob hsu2 hle2 hh
  have hcut := h2.cut hg2 hh
  dsimp only at hcut
  have e3 : setL k (⟨⟨g.fl.bytes.take (keepN n g.fl), keepN n g.fl⟩, g.blk, g.row⟩ : Gf) (setL k (⟨⟨g.fl.bytes, keepN n g.fl⟩, g.blk, g.row⟩ : Gf) G) = setL k ⟨cutF n g.fl, g.blk, g.row⟩ G := by
    unfold setL cutF
    rw [List.map_map]
    refine List.map_congr_left fun p _ => ?_
    simp only [Function.comp]
    by_cases e : (p.1 == k) = true
    · simp [e]
    · simp [e]
  rw [e3] at hcut
  have HC := Lib.hid hcut
  have K2 := Lib.hid k2
  generalize keepN n g.fl = K at c1 hsu2 hK HC ⊢
  clear e3 hcut k2 h2 hg2 hob hh
  rcases ho.2 with ⟨hv, hl0⟩ | ⟨gb, cap3, cur, hv, hbg, hhh, hnc, hcm, hcs, htk⟩
  · simp only [Value.slice.injEq] at hv
    obtain ⟨rfl, hl1, rfl⟩ := hv
    have HL := Lib.hid hl0
    have hK0 : K = 0 := by omega
    subst hK0
    clear ho hl0 hl1
    go_wp2
    go_still_tail 12, (by kernel_rfl)
    change wpList _ _ _ _ _ w2.drew
    go_wp2
    go_end0
    exact ⟨⟨_, rfl⟩, HC.out.1.below ((Below.refl _ _).drew), K2.out.trans HC.out.2.drew⟩
  · cases hv
    have hKc : K ≤ cap2 := by omega
    unfold maxLen at hcm
    clear ho hhh hcs htk
    go_wp2
    go_still_tail 12, (by kernel_rfl)
    change wpList _ _ _ _ _ w2.drew
    go_wp2
    go_end0
    exact ⟨⟨_, rfl⟩, HC.out.1.below ((Below.refl _ _).drew), K2.out.trans HC.out.2.drew⟩
end Go.Proofs.Ythikedhbjphmeaa
