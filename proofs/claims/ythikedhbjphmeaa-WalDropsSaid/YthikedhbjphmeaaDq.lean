/-
  Layer 5 (fs), contracts of Append, Sync, Rename, Remove. Conditions: texts within the form's reach.
-/
import Derived.Test.YthikedhbjphmeaaDp
namespace Go.Proofs.Ythikedhbjphmeaa
open Go.RowKit Go.Lib
set_option linter.unusedVariables false

theorem chg_cases {S : Ds} {G : List (List UInt8 × Gf)} (hF : mapL Gf.fl G = S.files) (ok : Bool) (n : List UInt8) :
    (∃ g, getL n G = some g ∧ begE ok S.fuse S.off = 0 ∧ getL n S.files = some g.fl ∧ S.chgE ok n = 0) ∨
    (∃ X : Int, (X = 1 ∨ X = 50 ∨ X = 3) ∧ chgP (begE ok S.fuse S.off) (getL n G) = .pointer none ∧ chgE (begE ok S.fuse S.off) (getL n G) = X ∧ S.chgE ok n = X) := by
  have hG : getL n S.files = (getL n G).map Gf.fl := by rw [← hF, getL_mapL]
  have h3 := begE_cases ok S.fuse S.off
  by_cases h0 : begE ok S.fuse S.off = 0
  · cases hg : getL n G with
    | some g => exact .inl ⟨g, rfl, h0, by rw [hG, hg]; rfl, by unfold Ds.chgE; rw [if_pos h0, hG, hg]; rfl⟩
    | none => exact .inr ⟨3, by omega, by unfold chgP; rw [if_pos h0]; rfl, by unfold chgE; rw [if_pos h0]; rfl, by unfold Ds.chgE; rw [if_pos h0, hG, hg]; rfl⟩
  · exact .inr ⟨begE ok S.fuse S.off, by omega, by unfold chgP; rw [if_neg h0], by unfold chgE; rw [if_neg h0], by unfold Ds.chgE; rw [if_neg h0]⟩
section
variable {own : Nat → Prop} {w : World} {d m : Nat} {G : List (List UInt8 × Gf)} {fuse : Int} {off : Bool}
theorem change1 (h : Dsk own w d m G fuse off) (name : ByteArray) (hn : name.size ≤ maxLen) :
    Calls Try.prog 48 #[.pointer (some ⟨d, 0, none⟩), .slice (some ⟨w.heap.size, 0, none⟩) 1 1] (w.alloc (.cells #[.string name] 9)) fun e w' =>
      e = .returned (.tuple #[chgP (begE (namL name.data.toList) fuse off) (getL name.data.toList G), .int .i64 (chgE (begE (namL name.data.toList) fuse off) (getL name.data.toList G))]) ∧
      Dsk own w' d m G (begF (namL name.data.toList) fuse off) (begO (namL name.data.toList) fuse off) ∧ Keeps own w w' := by
  have A := change_any (h.lent (.cells #[.string name] 9)) name [] w.heap.size 1 1 (.inr rfl) hn (names1 w name) rfl (by simp [maxLen]) (by simp) _ rfl
  rw [all1] at A
  exact A.mono fun e w' ⟨h1, h2, h3⟩ => ⟨h1, h2.weaken fun b hb => .inl hb, h.lent_back _ h3⟩
theorem change2 (h : Dsk own w d m G fuse off) (name to : ByteArray) (hn : name.size ≤ maxLen) (ht : to.size ≤ maxLen) :
    Calls Try.prog 48 #[.pointer (some ⟨d, 0, none⟩), .slice (some ⟨w.heap.size, 0, none⟩) 2 2] (w.alloc (.cells #[.string name, .string to] 9)) fun e w' =>
      e = .returned (.tuple #[chgP (begE (namL name.data.toList && namL to.data.toList) fuse off) (getL name.data.toList G), .int .i64 (chgE (begE (namL name.data.toList && namL to.data.toList) fuse off) (getL name.data.toList G))]) ∧
      Dsk own w' d m G (begF (namL name.data.toList && namL to.data.toList) fuse off) (begO (namL name.data.toList && namL to.data.toList) fuse off) ∧ Keeps own w w' := by
  have A := change_any (h.lent (.cells #[.string name, .string to] 9)) name [to.data.toList] w.heap.size 2 2 (.inr rfl) hn (names2 w name to) rfl (by simp [maxLen]) (by intro t hm; simp at hm; subst hm; rw [Array.length_toList]; exact ht) _ rfl
  rw [all2] at A
  exact A.mono fun e w' ⟨h1, h2, h3⟩ => ⟨h1, h2.weaken fun b hb => .inl hb, h.lent_back _ h3⟩
/-- A file's cells. -/
theorem Dsk.fileCells (h : Dsk own w d m G fuse off) {k : List UInt8} {g : Gf} (hg : getL k G = some g) :
    ∃ a cap, w.cell? ⟨g.blk, 0, none⟩ = some (.slice a g.fl.bytes.length cap) ∧ w.cell? ⟨g.blk, 1, none⟩ = some (.int .i64 (g.fl.sure : Int)) ∧ w.frozen? ⟨g.blk, 0, none⟩ = false ∧ w.frozen? ⟨g.blk, 1, none⟩ = false ∧ g.blk < w.heap.size ∧
      w.ownsRow 0 5 1 (.slice a g.fl.bytes.length cap) g.fl.bytes.length (bv g.fl.bytes) ∧ (Value.slice a g.fl.bytes.length cap).ownBlock = g.row ∧ g.fl.sure ≤ g.fl.bytes.length ∧ g.fl.bytes.length ≤ 4194304 ∧
      w.heap[g.blk]? = some (.cells #[.slice a g.fl.bytes.length cap, .int .i64 (g.fl.sure : Int)] 81 (0, 0)) := by
  obtain ⟨v, h1, h2, h3, h4, h5⟩ := h.file _ ((getL_iff h.srt).1 hg)
  obtain ⟨a, cap, rfl⟩ := own_slice h2
  exact ⟨a, cap, cell_of h1 0, cell_of h1 1, frozen_of h1 0, frozen_of h1 1, heap_lt h1, h2, h3, h4, h5, h1⟩
/-- Bytes are put behind a file's. -/
theorem Dsk.appended {w' : World} (h : Dsk own w d m G fuse off) {k : List UInt8} {g : Gf} (hg : getL k G = some g) {v' : Value} {s : List UInt8} (hl : g.fl.bytes.length + s.length ≤ 4194304)
    (hr : ∀ r, v'.ownBlock = some r → g.row = some r ∨ w.heap.size ≤ r) (hgr : w.grownBy w' g.row) (ho : w'.ownsRow 0 5 1 v' (g.fl.bytes.length + s.length) (bv g.fl.bytes ++ bv s)) :
    Dsk own (w'.setCell ⟨g.blk, 0, none⟩ v') d m (setL k ⟨⟨g.fl.bytes ++ s, g.fl.sure⟩, g.blk, v'.ownBlock⟩ G) fuse off ∧ Keeps own w (w'.setCell ⟨g.blk, 0, none⟩ v') := by
  have hf : FileAt w g := h.file _ ((getL_iff h.srt).1 hg)
  have hf1 := hf
  obtain ⟨v, h1, h2, h3, h4, h5⟩ := hf1
  have hne : some g.blk ≠ g.row := fun e => hf.apart hf e.symm
  have h1' : w'.heap[g.blk]? = some (.cells #[v, .int .i64 (g.fl.sure : Int)] 81 (0, 0)) := (hgr.block _ hf.lt hne).trans h1
  have hs : ∀ b, b < w.heap.size → b ≠ g.blk → g.row ≠ some b → (w'.setCell ⟨g.blk, 0, none⟩ v').heap[b]? = w.heap[b]? := fun b hb n1 n2 =>
    (Below.heap_setCell _ _ _ _ n1).trans (hgr.block _ hb (fun e => n2 e.symm))
  have hsz : w.heap.size ≤ (w'.setCell ⟨g.blk, 0, none⟩ v').heap.size := by have := hgr.size; simp [World.setCell]; exact this
  have hvb : ∀ r, v'.ownBlock = some r → r ≠ g.blk := fun r hr' => by
    rcases hr r hr' with e | e
    · exact fun e' => hne (e' ▸ e).symm
    · have := hf.lt; omega
  refine ⟨h.reFile hg rfl ⟨v', by rw [setCell_at h1']; rfl, ?_, rfl, ?_, ?_⟩ hs hr hsz, h.reFile_keeps hg hgr.os hgr.tape hgr.output hsz hs⟩
  · have := own_same ho (w' := w'.setCell ⟨g.blk, 0, none⟩ v') fun r hr' => Below.heap_setCell _ _ _ _ (hvb r hr')
    rw [bv_append, List.length_append]
    exact this
  · show g.fl.sure ≤ (g.fl.bytes ++ s).length
    rw [List.length_append]; omega
  · show (g.fl.bytes ++ s).length ≤ 4194304
    rw [List.length_append]; omega
/-- All its bytes are sure; it is cut. -/
theorem Dsk.reSure (h : Dsk own w d m G fuse off) {k : List UInt8} {g : Gf} (hg : getL k G = some g) (n : Nat) (hn : n ≤ g.fl.bytes.length) :
    Dsk own (w.setCell ⟨g.blk, 1, none⟩ (.int .i64 (n : Int))) d m (setL k ⟨⟨g.fl.bytes, n⟩, g.blk, g.row⟩ G) fuse off ∧ Keeps own w (w.setCell ⟨g.blk, 1, none⟩ (.int .i64 (n : Int))) := by
  have hf : FileAt w g := h.file _ ((getL_iff h.srt).1 hg)
  have hf1 := hf
  obtain ⟨v, h1, h2, h3, h4, h5⟩ := hf1
  have hs : ∀ b, b < w.heap.size → b ≠ g.blk → g.row ≠ some b → (w.setCell ⟨g.blk, 1, none⟩ (.int .i64 (n : Int))).heap[b]? = w.heap[b]? := fun b hb n1 n2 => Below.heap_setCell _ _ _ _ n1
  have hsz : w.heap.size ≤ (w.setCell ⟨g.blk, 1, none⟩ (.int .i64 (n : Int))).heap.size := by simp [World.setCell]
  refine ⟨h.reFile hg rfl ⟨v, by rw [setCell_at h1]; rfl, ?_, h3, hn, h5⟩ hs (fun r hr => .inl hr) hsz, h.reFile_keeps hg rfl rfl rfl hsz hs⟩
  exact own_same h2 fun r hr => Below.heap_setCell _ _ _ _ (fun e => hf.apart hf (by rw [← h3, hr]; exact congrArg some e))
end

set_option maxRecDepth 100000 in
set_option maxHeartbeats 2000000 in
theorem append_any {own : Nat → Prop} {w : World} {d : Nat} {S : Ds} (h : DiskAt own w d S) (name s : ByteArray) (hn : name.size ≤ maxLen) (hs : s.size ≤ maxLen) :
    Calls Try.prog 28 #[.pointer (some ⟨d, 0, none⟩), .string name, .string s] w fun e w' => e = .returned (.int .i64 (S.append name.data.toList s.data.toList).2) ∧ DiskAt own w' d (S.append name.data.toList s.data.toList).1 ∧ Keeps own w w' := by
  obtain ⟨m, G, h, hF⟩ := h
  have A := change1 h name hn
  have hc := chg_cases hF (namL name.data.toList) name.data.toList
  have HF := Lib.hid hF
  clear h hF
  unfold Ds.append
  unfold maxLen at hs
  rcases hc with ⟨g, hg, h0, hgS, hX⟩ | ⟨X, hX3, hP, hE, hX⟩
  · rw [h0, hg] at A
    simp only [chgP, chgE, findP, findE, if_true] at A
    rw [if_pos hX, hgS]
    dsimp only
    have hsz : s.data.toList.length = s.size := Array.length_toList
    have HG := Lib.hid hg
    clear h0 hX hgS hg
    by_cases hl : 4194304 < g.fl.bytes.length + s.data.toList.length
    · rw [if_pos hl]
      have hl1 : (4194304 : Int) - (g.fl.bytes.length : Int) < (s.size : Int) := by omega
      have A := Lib.hid A
      clear hl hsz
      go_enter Try.func28, Try.ntmps28
      go_wp2_with fail
      refine A.out.mono ?_
      rintro e w1 ⟨rfl, h1, k1⟩
      obtain ⟨a, cap, c0, c1, f0, f1, lt, ho, hob, hsu, hle, hh⟩ := h1.fileCells HG.out
      have H1 := Lib.hid h1
      have K1 := Lib.hid k1
      clear h1 k1 ho hob hh
      go_wp2
      go_ret
      exact ⟨rfl, ⟨m, G, H1.out, HF.out⟩, K1.out⟩
    · rw [if_neg hl]
      have hl1 : ¬ (4194304 : Int) - (g.fl.bytes.length : Int) < (s.size : Int) := by omega
      have A := Lib.hid A
      have HL := Lib.hid hl
      clear hsz
      obtain ⟨i0, hi, hz0, hz1, hz2⟩ := info_parts infoF
      clear hl
      go_enter Try.func28, Try.ntmps28
      go_wp2_with fail
      refine A.out.mono ?_
      rintro e w1 ⟨rfl, h1, k1⟩
      obtain ⟨a, cap, c0, c1, f0, f1, lt, ho, hob, hsu, hle, hh⟩ := h1.fileCells HG.out
      have hne : some g.blk ≠ g.row := fun e => (h1.file _ ((getL_iff h1.srt).1 HG.out)).apart (h1.file _ ((getL_iff h1.srt).1 HG.out)) e.symm
      have H1 := Lib.hid h1
      have K1 := Lib.hid k1
      have HO := Lib.hid ho
      have HB := Lib.hid hob
      have HH := Lib.hid hh
      have HN := Lib.hid hne
      clear h1 k1 ho hob hh hne
      go_wp2_with (at_builtin; refine wpList_str_own rfl _ _ 79 9 rfl 5 i0 Try.underlying79 Try.underlying9 hi hz0 hz1 hz2 (.slice a g.fl.bytes.length cap) _ _ rfl HO.out s rfl (by unfold maxLen; have := HL.out; have e : s.data.toList.length = s.size := Array.length_toList; omega) (by have := HL.out; have e : s.data.toList.length = s.size := Array.length_toList; omega) ?_; intro v2 w2 o2 g2 r2; (have c2 : w2.cell? ⟨g.blk, 0, none⟩ = some (.slice a g.fl.bytes.length cap) := (g2.cell (a := ⟨g.blk, 0, none⟩) c0 (by rw [HB.out]; exact HN.out))); (have f2 : w2.frozen? ⟨g.blk, 0, none⟩ = false := (World.frozen?_of_block (w := w1) (g2.block g.blk lt (by rw [HB.out]; exact HN.out))).trans f0); obtain ⟨a2, cap2, rfl⟩ := own_slice o2; (have O2 := Lib.hid o2); (have G2 := Lib.hid g2); (have R2 := Lib.hid r2); clear o2 g2 r2)
      go_ret
      have o2 := O2.out
      have g2 := G2.out
      have r2 := R2.out
      rw [HB.out] at g2 r2
      obtain ⟨h5, k5⟩ := H1.out.appended HG.out (s := s.data.toList) (by have := HL.out; omega) r2 g2 o2
      exact ⟨rfl, ⟨m, _, h5, by rw [mapL_setL, HF.out]⟩, K1.out.trans k5⟩
  · rw [hP, hE] at A
    rw [hX, if_neg (show ¬ X = 0 by omega)]
    clear hP hE hX
    rcases hX3 with rfl | rfl | rfl
    all_goals
      go_enter Try.func28, Try.ntmps28
      go_wp2_with fail
      refine A.mono ?_
      rintro e w1 ⟨rfl, h1, k1⟩
      have H1 := Lib.hid h1
      have K1 := Lib.hid k1
      clear h1 k1 A
      go_wp2
      go_ret
      exact ⟨rfl, ⟨m, G, H1.out, HF.out⟩, K1.out⟩
end Go.Proofs.Ythikedhbjphmeaa
