/-
  Texts of mine as one, in the order in which they build: Dq, Dl, Ds, Dt, Du, Dx. Conditions: as each says.
-/
import Derived.Test.YtkfmjkcomjmedaaGreatQ7
import Derived.Test.YtkfmjkcomjmedaaGreatRows
import Derived.Shelf.SlIter.Nil
import Derived.Shelf.SortM.Plain
import Derived.Shelf.SortM.SortNone
import Derived.Maps.Ext
import Derived.Lib.MinMax
import Derived.StillTailTactics
import Derived.BigRegion
import Derived.LoopN
import Derived.WideShapes
namespace Go.Proofs.YtkfmjkcomjmedaaGreat
open Go.RowKit Go.Lib
set_option linter.unusedVariables false

theorem chg_cases {S : Ds} {G : List (List UInt8 × Gf)} (hF : mapL Gf.fl G = S.files) (ok : Bool) (n : List UInt8) :
    (∃ g, getL n G = some g ∧ begE ok S.fuse S.off = 0 ∧ getL n S.files = some g.fl ∧ S.chgE ok n = 0) ∨
    (∃ X : Int, (X = 1 ∨ X = 50 ∨ X = 3) ∧ chgP (begE ok S.fuse S.off) (getL n G) = .pointer none ∧ chgE (begE ok S.fuse S.off) (getL n G) = X ∧ S.chgE ok n = X) := by
  have hG : getL n S.files = (getL n G).map Gf.fl := by rw [← hF, getL_mapL]
  have h3 := begE_cases ok S.fuse S.off
  by_cases h0 : begE ok S.fuse S.off = 0
  · cases hg : getL n G with
    | some g => exact .inl ⟨g, rfl, h0, by rw [hG, hg]; rfl, by unfold Ds.chgE; rw [if_pos h0, hG, hg]; rfl⟩
    | none => exact .inr ⟨3, by omega, by unfold chgP; rw [if_pos h0]; rfl, by unfold chgE; rw [if_pos h0]; rfl, by unfold Ds.chgE; rw [if_pos h0, hG, hg]; rfl⟩
  · exact .inr ⟨begE ok S.fuse S.off, by omega, by unfold chgP; rw [if_neg h0], by unfold chgE; rw [if_neg h0], by unfold Ds.chgE; rw [if_neg h0]⟩
section
variable {own : Nat → Prop} {w : World} {d m : Nat} {G : List (List UInt8 × Gf)} {fuse : Int} {off : Bool}
theorem change1 (h : Dsk own w d m G fuse off) (name : ByteArray) (hn : name.size ≤ maxLen) :
    Calls Tryz.prog 72 #[.pointer (some ⟨d, 0, none⟩), .slice (some ⟨w.heap.size, 0, none⟩) 1 1] (w.alloc (.cells #[.string name] 9)) fun e w' =>
      e = .returned (.tuple #[chgP (begE (namL name.data.toList) fuse off) (getL name.data.toList G), .int .i64 (chgE (begE (namL name.data.toList) fuse off) (getL name.data.toList G))]) ∧
      Dsk own w' d m G (begF (namL name.data.toList) fuse off) (begO (namL name.data.toList) fuse off) ∧ Keeps own w w' := by
  have A := change_any (h.lent (.cells #[.string name] 9)) name [] w.heap.size 1 1 (.inr rfl) hn (names1 w name) rfl (by simp [maxLen]) (by simp) _ rfl
  rw [all1] at A
  exact A.mono fun e w' ⟨h1, h2, h3⟩ => ⟨h1, h2.weaken fun b hb => .inl hb, h.lent_back _ h3⟩
theorem change2 (h : Dsk own w d m G fuse off) (name to : ByteArray) (hn : name.size ≤ maxLen) (ht : to.size ≤ maxLen) :
    Calls Tryz.prog 72 #[.pointer (some ⟨d, 0, none⟩), .slice (some ⟨w.heap.size, 0, none⟩) 2 2] (w.alloc (.cells #[.string name, .string to] 9)) fun e w' =>
      e = .returned (.tuple #[chgP (begE (namL name.data.toList && namL to.data.toList) fuse off) (getL name.data.toList G), .int .i64 (chgE (begE (namL name.data.toList && namL to.data.toList) fuse off) (getL name.data.toList G))]) ∧
      Dsk own w' d m G (begF (namL name.data.toList && namL to.data.toList) fuse off) (begO (namL name.data.toList && namL to.data.toList) fuse off) ∧ Keeps own w w' := by
  have A := change_any (h.lent (.cells #[.string name, .string to] 9)) name [to.data.toList] w.heap.size 2 2 (.inr rfl) hn (names2 w name to) rfl (by simp [maxLen]) (by intro t hm; simp at hm; subst hm; rw [Array.length_toList]; exact ht) _ rfl
  rw [all2] at A
  exact A.mono fun e w' ⟨h1, h2, h3⟩ => ⟨h1, h2.weaken fun b hb => .inl hb, h.lent_back _ h3⟩
/-- A file's cells. -/
theorem Dsk.fileCells (h : Dsk own w d m G fuse off) {k : List UInt8} {g : Gf} (hg : getL k G = some g) :
    ∃ a cap, w.cell? ⟨g.blk, 0, none⟩ = some (.slice a g.fl.bytes.length cap) ∧ w.cell? ⟨g.blk, 1, none⟩ = some (.int .i64 (g.fl.sure : Int)) ∧ w.frozen? ⟨g.blk, 0, none⟩ = false ∧ w.frozen? ⟨g.blk, 1, none⟩ = false ∧ g.blk < w.heap.size ∧
      w.ownsRow 0 5 1 (.slice a g.fl.bytes.length cap) g.fl.bytes.length (bv g.fl.bytes) ∧ (Value.slice a g.fl.bytes.length cap).ownBlock = g.row ∧ g.fl.sure ≤ g.fl.bytes.length ∧ g.fl.bytes.length ≤ 4194304 ∧
      w.heap[g.blk]? = some (.cells #[.slice a g.fl.bytes.length cap, .int .i64 (g.fl.sure : Int)] 108 (0, 0)) := by
  obtain ⟨v, h1, h2, h3, h4, h5⟩ := h.file _ ((getL_iff h.srt).1 hg)
  obtain ⟨a, cap, rfl⟩ := own_slice h2
  exact ⟨a, cap, cell_of h1 0, cell_of h1 1, frozen_of h1 0, frozen_of h1 1, heap_lt h1, h2, h3, h4, h5, h1⟩
/-- Bytes are put behind a file's. -/
theorem Dsk.appended {w' : World} (h : Dsk own w d m G fuse off) {k : List UInt8} {g : Gf} (hg : getL k G = some g) {v' : Value} {s : List UInt8} (hl : g.fl.bytes.length + s.length ≤ 4194304)
    (hr : ∀ r, v'.ownBlock = some r → g.row = some r ∨ w.heap.size ≤ r) (hgr : w.grownBy w' g.row) (ho : w'.ownsRow 0 5 1 v' (g.fl.bytes.length + s.length) (bv g.fl.bytes ++ bv s)) :
    Dsk own (w'.setCell ⟨g.blk, 0, none⟩ v') d m (setL k ⟨⟨g.fl.bytes ++ s, g.fl.sure⟩, g.blk, v'.ownBlock⟩ G) fuse off ∧ Keeps own w (w'.setCell ⟨g.blk, 0, none⟩ v') := by
  have hf : FileAt w g := h.file _ ((getL_iff h.srt).1 hg)
  have hf1 := hf
  obtain ⟨v, h1, h2, h3, h4, h5⟩ := hf1
  have hne : some g.blk ≠ g.row := fun e => hf.apart hf e.symm
  have h1' : w'.heap[g.blk]? = some (.cells #[v, .int .i64 (g.fl.sure : Int)] 108 (0, 0)) := (hgr.block _ hf.lt hne).trans h1
  have hs : ∀ b, b < w.heap.size → b ≠ g.blk → g.row ≠ some b → (w'.setCell ⟨g.blk, 0, none⟩ v').heap[b]? = w.heap[b]? := fun b hb n1 n2 =>
    (Below.heap_setCell _ _ _ _ n1).trans (hgr.block _ hb (fun e => n2 e.symm))
  have hsz : w.heap.size ≤ (w'.setCell ⟨g.blk, 0, none⟩ v').heap.size := by have := hgr.size; simp [World.setCell]; exact this
  have hvb : ∀ r, v'.ownBlock = some r → r ≠ g.blk := fun r hr' => by
    rcases hr r hr' with e | e
    · exact fun e' => hne (e' ▸ e).symm
    · have := hf.lt; omega
  refine ⟨h.reFile hg rfl ⟨v', by rw [setCell_at h1']; rfl, ?_, rfl, ?_, ?_⟩ hs hr hsz, h.reFile_keeps hg hgr.os hgr.tape hgr.output hsz hs⟩
  · have := own_same ho (w' := w'.setCell ⟨g.blk, 0, none⟩ v') fun r hr' => Below.heap_setCell _ _ _ _ (hvb r hr')
    rw [bv_append, List.length_append]
    exact this
  · show g.fl.sure ≤ (g.fl.bytes ++ s).length
    rw [List.length_append]; omega
  · show (g.fl.bytes ++ s).length ≤ 4194304
    rw [List.length_append]; omega
/-- All its bytes are sure; it is cut. -/
theorem Dsk.reSure (h : Dsk own w d m G fuse off) {k : List UInt8} {g : Gf} (hg : getL k G = some g) (n : Nat) (hn : n ≤ g.fl.bytes.length) :
    Dsk own (w.setCell ⟨g.blk, 1, none⟩ (.int .i64 (n : Int))) d m (setL k ⟨⟨g.fl.bytes, n⟩, g.blk, g.row⟩ G) fuse off ∧ Keeps own w (w.setCell ⟨g.blk, 1, none⟩ (.int .i64 (n : Int))) := by
  have hf : FileAt w g := h.file _ ((getL_iff h.srt).1 hg)
  have hf1 := hf
  obtain ⟨v, h1, h2, h3, h4, h5⟩ := hf1
  have hs : ∀ b, b < w.heap.size → b ≠ g.blk → g.row ≠ some b → (w.setCell ⟨g.blk, 1, none⟩ (.int .i64 (n : Int))).heap[b]? = w.heap[b]? := fun b hb n1 n2 => Below.heap_setCell _ _ _ _ n1
  have hsz : w.heap.size ≤ (w.setCell ⟨g.blk, 1, none⟩ (.int .i64 (n : Int))).heap.size := by simp [World.setCell]
  refine ⟨h.reFile hg rfl ⟨v, by rw [setCell_at h1]; rfl, ?_, h3, hn, h5⟩ hs (fun r hr => .inl hr) hsz, h.reFile_keeps hg rfl rfl rfl hsz hs⟩
  exact own_same h2 fun r hr => Below.heap_setCell _ _ _ _ (fun e => hf.apart hf (by rw [← h3, hr]; exact congrArg some e))
end

set_option maxRecDepth 100000 in
set_option maxHeartbeats 2000000 in
theorem append_any {own : Nat → Prop} {w : World} {d : Nat} {S : Ds} (h : DiskAt own w d S) (name s : ByteArray) (hn : name.size ≤ maxLen) (hs : s.size ≤ maxLen) :
    Calls Tryz.prog 45 #[.pointer (some ⟨d, 0, none⟩), .string name, .string s] w fun e w' => e = .returned (.int .i64 (S.append name.data.toList s.data.toList).2) ∧ DiskAt own w' d (S.append name.data.toList s.data.toList).1 ∧ Keeps own w w' := by
  obtain ⟨m, G, h, hF⟩ := h
  have A := change1 h name hn
  have hc := chg_cases hF (namL name.data.toList) name.data.toList
  have HF := Lib.hid hF
  clear h hF
  unfold Ds.append
  unfold maxLen at hs
  rcases hc with ⟨g, hg, h0, hgS, hX⟩ | ⟨X, hX3, hP, hE, hX⟩
  · rw [h0, hg] at A
    simp only [chgP, chgE, findP, findE, if_true] at A
    rw [if_pos hX, hgS]
    dsimp only
    have hsz : s.data.toList.length = s.size := Array.length_toList
    have HG := Lib.hid hg
    clear h0 hX hgS hg
    by_cases hl : 4194304 < g.fl.bytes.length + s.data.toList.length
    · rw [if_pos hl]
      have hl1 : (4194304 : Int) - (g.fl.bytes.length : Int) < (s.size : Int) := by omega
      have A := Lib.hid A
      clear hl hsz
      go_enter Tryz.func45, Tryz.ntmps45
      go_wp2_with fail
      refine A.out.mono ?_
      rintro e w1 ⟨rfl, h1, k1⟩
      obtain ⟨a, cap, c0, c1, f0, f1, lt, ho, hob, hsu, hle, hh⟩ := h1.fileCells HG.out
      have H1 := Lib.hid h1
      have K1 := Lib.hid k1
      clear h1 k1 ho hob hh
      go_wp2
      go_ret
      exact ⟨rfl, ⟨m, G, H1.out, HF.out⟩, K1.out⟩
    · rw [if_neg hl]
      have hl1 : ¬ (4194304 : Int) - (g.fl.bytes.length : Int) < (s.size : Int) := by omega
      have A := Lib.hid A
      have HL := Lib.hid hl
      clear hsz
      obtain ⟨i0, hi, hz0, hz1, hz2⟩ := info_parts infoF
      clear hl
      go_enter Tryz.func45, Tryz.ntmps45
      go_wp2_with fail
      refine A.out.mono ?_
      rintro e w1 ⟨rfl, h1, k1⟩
      obtain ⟨a, cap, c0, c1, f0, f1, lt, ho, hob, hsu, hle, hh⟩ := h1.fileCells HG.out
      have hne : some g.blk ≠ g.row := fun e => (h1.file _ ((getL_iff h1.srt).1 HG.out)).apart (h1.file _ ((getL_iff h1.srt).1 HG.out)) e.symm
      have H1 := Lib.hid h1
      have K1 := Lib.hid k1
      have HO := Lib.hid ho
      have HB := Lib.hid hob
      have HH := Lib.hid hh
      have HN := Lib.hid hne
      clear h1 k1 ho hob hh hne
      go_wp2_with (at_builtin; refine wpList_str_own rfl _ _ 106 9 rfl 5 i0 Tryz.underlying106 Tryz.underlying9 hi hz0 hz1 hz2 (.slice a g.fl.bytes.length cap) _ _ rfl HO.out s rfl (by unfold maxLen; have := HL.out; have e : s.data.toList.length = s.size := Array.length_toList; omega) (by have := HL.out; have e : s.data.toList.length = s.size := Array.length_toList; omega) ?_; intro v2 w2 o2 g2 r2; (have c2 : w2.cell? ⟨g.blk, 0, none⟩ = some (.slice a g.fl.bytes.length cap) := (g2.cell (a := ⟨g.blk, 0, none⟩) c0 (by rw [HB.out]; exact HN.out))); (have f2 : w2.frozen? ⟨g.blk, 0, none⟩ = false := (World.frozen?_of_block (w := w1) (g2.block g.blk lt (by rw [HB.out]; exact HN.out))).trans f0); obtain ⟨a2, cap2, rfl⟩ := own_slice o2; (have O2 := Lib.hid o2); (have G2 := Lib.hid g2); (have R2 := Lib.hid r2); clear o2 g2 r2)
      go_ret
      have o2 := O2.out
      have g2 := G2.out
      have r2 := R2.out
      rw [HB.out] at g2 r2
      obtain ⟨h5, k5⟩ := H1.out.appended HG.out (s := s.data.toList) (by have := HL.out; omega) r2 g2 o2
      exact ⟨rfl, ⟨m, _, h5, by rw [mapL_setL, HF.out]⟩, K1.out.trans k5⟩
  · rw [hP, hE] at A
    rw [hX, if_neg (show ¬ X = 0 by omega)]
    clear hP hE hX
    rcases hX3 with rfl | rfl | rfl
    all_goals
      go_enter Tryz.func45, Tryz.ntmps45
      go_wp2_with fail
      refine A.mono ?_
      rintro e w1 ⟨rfl, h1, k1⟩
      have H1 := Lib.hid h1
      have K1 := Lib.hid k1
      clear h1 k1 A
      go_wp2
      go_ret
      exact ⟨rfl, ⟨m, G, H1.out, HF.out⟩, K1.out⟩
end Go.Proofs.YtkfmjkcomjmedaaGreat
namespace Go.Proofs.YtkfmjkcomjmedaaGreat
open Go.Shelf
def keysA_ren : Go.Shelf.Ren := ⟨fun | 7 => 50 | 10 => 76 | n => n, fun | 23 => 47 | 26 => 9 | 3 => 83 | 28 => 99 | 0 => 0 | 27 => 98 | 33 => 109 | 4 => 4 | n => n, fun | n => n⟩
theorem keysA : Go.Proofs.SlLaysZ.n7 Tryz.prog keysA_ren := {
  mixed := by kernel_rfl
  f7 := ⟨Tryz.f50.name, by decide, Tryz.func50.trans (congrArg some (by kernel_rfl))⟩
  f10 := ⟨Tryz.f76.name, by decide, Tryz.func76.trans (congrArg some (by kernel_rfl))⟩
  t0 := Tryz.underlying0
  a0 := Tryz.isAgg0
  z0 := Tryz.sizeOf0
  v0 := Tryz.zeroValue0
  t4 := Tryz.underlying4
  a4 := Tryz.isAgg4
  z4 := Tryz.sizeOf4
  v4 := Tryz.zeroValue4
  t23 := Tryz.underlying47
  a23 := Tryz.isAgg47
  z23 := Tryz.sizeOf47
  v23 := Tryz.zeroValue47
  t26 := Tryz.underlying9
  a26 := Tryz.isAgg9
  z26 := Tryz.sizeOf9
  v26 := Tryz.zeroValue9
  t27 := Tryz.underlying98
  a27 := Tryz.isAgg98
  z27 := Tryz.sizeOf98
  v27 := Tryz.zeroValue98
  t28 := Tryz.underlying99
  a28 := Tryz.isAgg99
  z28 := Tryz.sizeOf99
  v28 := Tryz.zeroValue99
  t33 := Tryz.underlying109
  a33 := Tryz.isAgg109
  z33 := Tryz.sizeOf109
  v33 := Tryz.zeroValue109 }
def sortedA_ren : Go.Shelf.Ren := ⟨fun | 6 => 49 | 8 => 74 | 9 => 75 | 11 => 90 | 13 => 92 | 12 => 91 | 23 => 111 | 24 => 112 | 14 => 102 | 15 => 103 | 16 => 104 | 17 => 105 | 18 => 106 | 19 => 107 | 20 => 108 | 21 => 109 | 22 => 110 | 25 => 119 | 26 => 120 | 27 => 121 | 28 => 122 | 29 => 123 | 30 => 124 | 31 => 127 | n => n, fun | 26 => 9 | 28 => 99 | 24 => 31 | 0 => 0 | 3 => 3 | 37 => 129 | 48 => 147 | 50 => 149 | 4 => 4 | 40 => 139 | 39 => 138 | 45 => 144 | 5 => 5 | 9 => 9 | 51 => 152 | 55 => 156 | 57 => 158 | 58 => 159 | 33 => 109 | n => n, fun | n => n⟩
theorem sortedA : Go.Proofs.SlLaysZ.n6 Tryz.prog sortedA_ren := {
  mixed := by kernel_rfl
  f6 := ⟨Tryz.f49.name, by decide, Tryz.func49.trans (congrArg some (by kernel_rfl))⟩
  f8 := ⟨Tryz.f74.name, by decide, Tryz.func74.trans (congrArg some (by kernel_rfl))⟩
  f11 := ⟨Tryz.f90.name, by decide, Tryz.func90.trans (congrArg some (by kernel_rfl))⟩
  t0 := Tryz.underlying0
  a0 := Tryz.isAgg0
  z0 := Tryz.sizeOf0
  v0 := Tryz.zeroValue0
  t24 := Tryz.underlying31
  a24 := Tryz.isAgg31
  z24 := Tryz.sizeOf31
  v24 := Tryz.zeroValue31
  t26 := Tryz.underlying9
  a26 := Tryz.isAgg9
  z26 := Tryz.sizeOf9
  v26 := Tryz.zeroValue9
  t28 := Tryz.underlying99
  a28 := Tryz.isAgg99
  z28 := Tryz.sizeOf99
  v28 := Tryz.zeroValue99
  i26 := by kernel_rfl }
def sortA_ren : Go.Shelf.Ren := ⟨fun | 6 => 75 | 8 => 92 | 9 => 91 | 19 => 111 | 20 => 112 | 21 => 102 | 22 => 103 | 23 => 104 | 24 => 105 | 25 => 106 | 26 => 107 | 27 => 108 | 28 => 109 | 29 => 110 | 36 => 119 | 31 => 120 | 32 => 121 | 37 => 122 | 38 => 123 | 39 => 124 | 41 => 127 | n => n, fun | 27 => 31 | 29 => 9 | 3 => 3 | 32 => 129 | 26 => 31 | 0 => 0 | 44 => 147 | 46 => 149 | 4 => 4 | 36 => 139 | 35 => 138 | 41 => 144 | 5 => 5 | 9 => 9 | 53 => 152 | 57 => 156 | 63 => 158 | 64 => 159 | n => n, fun | n => n⟩
theorem sortA : Go.Proofs.SlLaysM.n6 Tryz.prog sortA_ren := {
  mixed := by kernel_rfl
  f6 := ⟨Tryz.f75.name, by decide, Tryz.func75.trans (congrArg some (by kernel_rfl))⟩
  f8 := Tryz.func92.trans (congrArg some (by kernel_rfl))
  f9 := ⟨Tryz.f91.name, by decide, Tryz.func91.trans (congrArg some (by kernel_rfl))⟩
  f19 := Tryz.func111.trans (congrArg some (by kernel_rfl))
  f20 := Tryz.func112.trans (congrArg some (by kernel_rfl))
  f21 := ⟨Tryz.f102.name, by decide, Tryz.func102.trans (congrArg some (by kernel_rfl))⟩
  f22 := ⟨Tryz.f103.name, by decide, Tryz.func103.trans (congrArg some (by kernel_rfl))⟩
  f23 := ⟨Tryz.f104.name, by decide, Tryz.func104.trans (congrArg some (by kernel_rfl))⟩
  f24 := ⟨Tryz.f105.name, by decide, Tryz.func105.trans (congrArg some (by kernel_rfl))⟩
  f25 := ⟨Tryz.f106.name, by decide, Tryz.func106.trans (congrArg some (by kernel_rfl))⟩
  f26 := ⟨Tryz.f107.name, by decide, Tryz.func107.trans (congrArg some (by kernel_rfl))⟩
  f27 := ⟨Tryz.f108.name, by decide, Tryz.func108.trans (congrArg some (by kernel_rfl))⟩
  f28 := ⟨Tryz.f109.name, by decide, Tryz.func109.trans (congrArg some (by kernel_rfl))⟩
  f29 := ⟨Tryz.f110.name, by decide, Tryz.func110.trans (congrArg some (by kernel_rfl))⟩
  f31 := Tryz.func120.trans (congrArg some (by kernel_rfl))
  f32 := Tryz.func121.trans (congrArg some (by kernel_rfl))
  f36 := ⟨Tryz.f119.name, by decide, Tryz.func119.trans (congrArg some (by kernel_rfl))⟩
  f37 := ⟨Tryz.f122.name, by decide, Tryz.func122.trans (congrArg some (by kernel_rfl))⟩
  f38 := ⟨Tryz.f123.name, by decide, Tryz.func123.trans (congrArg some (by kernel_rfl))⟩
  f39 := ⟨Tryz.f124.name, by decide, Tryz.func124.trans (congrArg some (by kernel_rfl))⟩
  f41 := ⟨Tryz.f127.name, by decide, Tryz.func127.trans (congrArg some (by kernel_rfl))⟩
  t0 := Tryz.underlying0
  a0 := Tryz.isAgg0
  z0 := Tryz.sizeOf0
  v0 := Tryz.zeroValue0
  t3 := Tryz.underlying3
  a3 := Tryz.isAgg3
  z3 := Tryz.sizeOf3
  v3 := Tryz.zeroValue3
  t4 := Tryz.underlying4
  a4 := Tryz.isAgg4
  z4 := Tryz.sizeOf4
  v4 := Tryz.zeroValue4
  t5 := Tryz.underlying5
  a5 := Tryz.isAgg5
  z5 := Tryz.sizeOf5
  v5 := Tryz.zeroValue5
  t9 := Tryz.underlying9
  a9 := Tryz.isAgg9
  z9 := Tryz.sizeOf9
  v9 := Tryz.zeroValue9
  t26 := Tryz.underlying31
  a26 := Tryz.isAgg31
  z26 := Tryz.sizeOf31
  v26 := Tryz.zeroValue31
  t27 := Tryz.underlying31
  a27 := Tryz.isAgg31
  z27 := Tryz.sizeOf31
  v27 := Tryz.zeroValue31
  t29 := Tryz.underlying9
  a29 := Tryz.isAgg9
  z29 := Tryz.sizeOf9
  v29 := Tryz.zeroValue9
  t32 := Tryz.underlying129
  a32 := Tryz.isAgg129
  z32 := Tryz.sizeOf129
  v32 := Tryz.zeroValue129
  t35 := Tryz.underlying138
  a35 := Tryz.isAgg138
  z35 := Tryz.sizeOf138
  v35 := Tryz.zeroValue138
  t36 := Tryz.underlying139
  a36 := Tryz.isAgg139
  z36 := Tryz.sizeOf139
  v36 := Tryz.zeroValue139
  t41 := Tryz.underlying144
  a41 := Tryz.isAgg144
  z41 := Tryz.sizeOf144
  v41 := Tryz.zeroValue144
  t44 := Tryz.underlying147
  a44 := Tryz.isAgg147
  z44 := Tryz.sizeOf147
  v44 := Tryz.zeroValue147
  t46 := Tryz.underlying149
  a46 := Tryz.isAgg149
  z46 := Tryz.sizeOf149
  v46 := Tryz.zeroValue149
  t53 := Tryz.underlying152
  a53 := Tryz.isAgg152
  z53 := Tryz.sizeOf152
  v53 := Tryz.zeroValue152
  t57 := Tryz.underlying156
  a57 := Tryz.isAgg156
  z57 := Tryz.sizeOf156
  v57 := Tryz.zeroValue156
  t63 := Tryz.underlying158
  a63 := Tryz.isAgg158
  z63 := Tryz.sizeOf158
  v63 := Tryz.zeroValue158
  t64 := Tryz.underlying159
  a64 := Tryz.isAgg159
  z64 := Tryz.sizeOf159
  v64 := Tryz.zeroValue159 }
end Go.Proofs.YtkfmjkcomjmedaaGreat
namespace Go.Proofs.YtkfmjkcomjmedaaGreat
open Go.RowKit Go.Lib
set_option linter.unusedVariables false

section
open Go.Sort Go.Maps Go.Shelf
theorem sorts_in (m : Nat) : AnyZ.SortsIn Tryz.prog sortedA_ren Fence.wide m :=
  ⟨fun blk off cap ss W hH hblk hsz => callsIn_wide.2 (AnyM.slices_Sort_string sortA blk off cap ss W hH hblk hsz),
   fun p cap W => callsIn_wide.2 (AnyM.slices_Sort_string_none sortA p cap W)⟩
theorem keys_c (mb : Option Nat) (W : World) : Calls Tryz.prog 50 #[.map mb] W fun e w' => e = .returned (.func (.func 76) #[] #[.pointer (some ⟨W.heap.size, 0, none⟩)]) ∧ w' = W.alloc (.cells #[.map mb] 47) :=
  callsIn_wide.1 (AnyZ.keys_in keysA Fence.wide 5 trivial rfl mb W)
theorem sorted_c (b nn : Nat) (D0 : DataW Unit) (w : World) (hown : w.ownsMap Tryz.prog 9 fR b nn D0) (hmax : Maps.size D0 ≤ maxLen) (hbytes : Maps.size D0 * 16 ≤ 140737488355328) :
    Calls Tryz.prog 49 #[.func (.func 76) #[] #[.pointer (some ⟨w.heap.size, 0, none⟩)]] (w.alloc (.cells #[.map (some b)] 47)) fun e w' => ∃ (v : Value) (ss : List (List UInt8)), e = .returned v ∧ ss.Perm (strKeys D0) ∧
      w'.ownsRow (w.alloc (.cells #[.map (some b)] 47)).heap.size 9 1 v ss.length ((ss.mergeSort (fun x y => decide (x ≤ y))).map encStr) ∧ (v = .slice none 0 0 ↔ ss = []) ∧ Below (w.alloc (.cells #[.map (some b)] 47)).heap.size (w.alloc (.cells #[.map (some b)] 47)) w' := by
  have hbl := hown.lt
  have hseq : SeqGives Fence.wide 2 Tryz.prog 76 #[.pointer (some ⟨w.heap.size, 0, none⟩)] encStr (fun ss => ss.Perm (strKeys D0)) (Maps.size D0) (w.alloc (.cells #[.map (some b)] 47)) :=
    AnyZ.keys_gives (ρ := keysA_ren) { keysA with } Fence.wide _ trivial rfl (by omega) w.heap.size b nn D0 _ (by simp) (by simp) (by
      obtain ⟨es, clock, hb, Ft, hs, hD⟩ := hown
      exact ⟨es, clock, (Below.heap_alloc _ _ b hbl).trans hb, Ft, hs, hD⟩)
  exact callsIn_wide.1 (AnyZ.sorted_in sortedA Fence.wide 5 trivial trivial trivial trivial rfl (by omega) (sorts_in _) (enters_of Tryz.func75 (by kernel_rfl) rfl) 76 #[.pointer (some ⟨w.heap.size, 0, none⟩)] trivial (enters_of Tryz.func76 (by kernel_rfl) rfl) _ _ hmax hbytes _ hseq)
end

theorem sv_enc (l : List (List UInt8)) : l.map encStr = sv l := rfl
/-- What a disk's names are, as a value. -/
def NamesV (w : World) (base : Nat) (ns : List (List UInt8)) (v : Value) : Prop := w.ownsRow base 9 1 v ns.length (sv ns)
set_option maxRecDepth 100000 in
set_option maxHeartbeats 2000000 in
theorem names_dsk {own : Nat → Prop} {w : World} {d m : Nat} {G : List (List UInt8 × Gf)} {fuse : Int} {off : Bool} (h : Dsk own w d m G fuse off) :
    Calls Tryz.prog 19 #[.pointer (some ⟨d, 0, none⟩)] w fun e w' => ∃ v, e = .returned v ∧ NamesV w' w.heap.size (G.map (·.1)) v ∧ Below w.heap.size w w' := by
  have hS := sorted_c m _ _ w h.mp (by rw [fD_size, length_mapL]; have := h.len; unfold maxLen; omega) (by rw [fD_size, length_mapL]; have := h.len; omega)
  have hG := given_yes d w h.cells.c0
  obtain ⟨c0, c1, c2, c3, f2, f3, lt⟩ := h.cells
  have hs := h.srt
  have HS := Lib.hid hs
  clear h hs
  have hp : ∀ ss : List (List UInt8), ss.Perm (strKeys (fD (mapL Gf.blk G))) → (ss.mergeSort (fun x y => decide (x ≤ y))) = G.map (·.1) := by
    intro ss hss
    rw [fD_keys, mapL_keys] at hss
    exact sorted_keys HS.out hss
  have HP := Lib.hid hp
  clear hp
  go_enter Tryz.func19, Tryz.ntmps19
  go_wp2_with (first
    | (go_at_call 33; refine hG.mono ?_; rintro e w' ⟨rfl, rfl⟩)
    | (go_at_call 50; refine (keys_c _ _).mono ?_; rintro e w' ⟨rfl, rfl⟩)
    | (go_at_call 49; refine hS.mono ?_; rintro e w' ⟨v, ss, rfl, hss, hrow, hnil, hb⟩))
  go_ret
  rw [HP.out ss hss, sv_enc] at hrow
  have hl : ss.length = (G.map (·.1)).length := by rw [← HP.out ss hss, List.length_mergeSort]
  rw [hl] at hrow
  refine ⟨v, rfl, ?_, ((Below.refl _ w).alloc (Nat.le_refl _) _).trans (hb.mono (by simp))⟩
  refine ⟨hrow.1, ?_⟩
  rcases hrow.2 with h | ⟨g, cap, cur, hv, hbg, hrest⟩
  · exact .inl h
  · exact .inr ⟨g, cap, cur, hv, by simp at hbg; omega, hrest⟩
theorem names_any {own : Nat → Prop} {w : World} {d : Nat} {S : Ds} (h : DiskAt own w d S) :
    Calls Tryz.prog 19 #[.pointer (some ⟨d, 0, none⟩)] w fun e w' => ∃ v, e = .returned v ∧ NamesV w' w.heap.size (S.files.map (·.1)) v ∧ Below w.heap.size w w' := by
  obtain ⟨m, G, h, hF⟩ := h
  rw [← hF, mapL_keys]
  exact names_dsk h

theorem DiskAt.below {own : Nat → Prop} {w w' : World} {d : Nat} {S : Ds} (h : DiskAt own w d S) (hb : Below w.heap.size w w') : DiskAt own w' d S := by
  obtain ⟨m, G, h, hF⟩ := h
  exact ⟨m, G, h.below hb, hF⟩
theorem DiskAt.own {own : Nat → Prop} {w : World} {d : Nat} {S : Ds} (h : DiskAt own w d S) {b : Nat} (hb : own b) : b < w.heap.size := by
  obtain ⟨m, G, h, hF⟩ := h
  exact (h.own b hb).1
theorem DiskAt.weaken {own own' : Nat → Prop} {w : World} {d : Nat} {S : Ds} (h : DiskAt own w d S) (ho : ∀ b, own' b → own b) : DiskAt own' w d S := by
  obtain ⟨m, G, h, hF⟩ := h
  exact ⟨m, G, h.weaken ho, hF⟩
theorem DiskAt.fresh {own : Nat → Prop} {w w' : World} {d : Nat} {S : Ds} (h : DiskAt own w d S) (hb : Below w.heap.size w w') : DiskAt (fun b => own b ∨ (w.heap.size ≤ b ∧ b < w'.heap.size)) w' d S := by
  obtain ⟨m, G, h, hF⟩ := h
  exact ⟨m, G, h.fresh hb, hF⟩
theorem DiskAt.lent {own : Nat → Prop} {w : World} {d : Nat} {S : Ds} (h : DiskAt own w d S) (o : Obj) : DiskAt (fun b => own b ∨ b = w.heap.size) (w.alloc o) d S := by
  obtain ⟨m, G, h, hF⟩ := h
  exact ⟨m, G, h.lent o, hF⟩
/-- The caller writes what is its own. -/
theorem DiskAt.setCell {own : Nat → Prop} {w : World} {d : Nat} {S : Ds} (h : DiskAt own w d S) {a : Addr} (ha : own a.block) (u : Value) : DiskAt own (w.setCell a u) d S := by
  obtain ⟨m, G, h, hF⟩ := h
  obtain ⟨h1, h2, h3, h4⟩ := h.own _ ha
  have hs : ∀ b, b ≠ a.block → (w.setCell a u).heap[b]? = w.heap[b]? := fun b hb => Below.heap_setCell _ _ _ _ hb
  exact ⟨m, G, h.same (hs _ h2.symm) (hs _ h3.symm) (fun p hp => hs _ (h4 p hp).1.symm) (fun p hp r hr => hs _ (fun e => (h4 p hp).2 (e ▸ hr))) (by simp [World.setCell]), hF⟩
theorem DiskAt.drew {own : Nat → Prop} {w : World} {d : Nat} {S : Ds} (h : DiskAt own w d S) : DiskAt own w.drew d S := h.below ((Below.refl _ _).drew)

/-! ### Read, Sure -/
def Ds.lookE (S : Ds) (n : List UInt8) : Int := if askE (namL n) S.off = 0 then fE (getL n S.files) else askE (namL n) S.off
def Ds.bytesOf (S : Ds) (n : List UInt8) : List UInt8 := if S.lookE n = 0 then (match getL n S.files with | some f => f.bytes | none => []) else []
def Ds.sureOf (S : Ds) (n : List UInt8) : Nat := if S.lookE n = 0 then (match getL n S.files with | some f => f.sure | none => 0) else 0
theorem look_cases {S : Ds} {G : List (List UInt8 × Gf)} (hF : mapL Gf.fl G = S.files) (n : List UInt8) :
    (∃ g, getL n G = some g ∧ askE (namL n) S.off = 0 ∧ S.lookE n = 0 ∧ S.bytesOf n = g.fl.bytes ∧ S.sureOf n = g.fl.sure) ∨
    (∃ X : Int, (X = 1 ∨ X = 50 ∨ X = 3) ∧ chgP (askE (namL n) S.off) (getL n G) = .pointer none ∧ chgE (askE (namL n) S.off) (getL n G) = X ∧ S.lookE n = X ∧ S.bytesOf n = [] ∧ S.sureOf n = 0) := by
  have hG : getL n S.files = (getL n G).map Gf.fl := by rw [← hF, getL_mapL]
  have h3 : askE (namL n) S.off = 0 ∨ askE (namL n) S.off = 1 ∨ askE (namL n) S.off = 50 := by unfold askE; split <;> (try split) <;> simp
  by_cases h0 : askE (namL n) S.off = 0
  · cases hg : getL n G with
    | some g =>
      have hl : S.lookE n = 0 := by unfold Ds.lookE; rw [if_pos h0, hG, hg]; rfl
      exact .inl ⟨g, rfl, h0, hl, by unfold Ds.bytesOf; rw [if_pos hl, hG, hg]; rfl, by unfold Ds.sureOf; rw [if_pos hl, hG, hg]; rfl⟩
    | none =>
      have hl : S.lookE n = 3 := by unfold Ds.lookE; rw [if_pos h0, hG, hg]; rfl
      exact .inr ⟨3, by omega, by unfold chgP; rw [if_pos h0]; rfl, by unfold chgE; rw [if_pos h0]; rfl, hl, by unfold Ds.bytesOf; rw [hl]; rfl, by unfold Ds.sureOf; rw [hl]; rfl⟩
  · have hl : S.lookE n = askE (namL n) S.off := by unfold Ds.lookE; rw [if_neg h0]
    exact .inr ⟨askE (namL n) S.off, by omega, by unfold chgP; rw [if_neg h0], by unfold chgE; rw [if_neg h0], hl, by unfold Ds.bytesOf; rw [hl, if_neg h0], by unfold Ds.sureOf; rw [hl, if_neg h0]⟩
set_option maxRecDepth 100000 in
set_option maxHeartbeats 2000000 in
theorem read_any {own : Nat → Prop} {w : World} {d : Nat} {S : Ds} (h : DiskAt own w d S) (name : ByteArray) (hn : name.size ≤ maxLen) :
    Calls Tryz.prog 29 #[.pointer (some ⟨d, 0, none⟩), .string name] w fun e w' => e = .returned (.tuple #[.string ⟨(S.bytesOf name.data.toList).toArray⟩, .int .i64 (S.lookE name.data.toList)]) ∧ Below w.heap.size w w' := by
  obtain ⟨m, G, h, hF⟩ := h
  have A := look_any h name hn _ rfl
  have hc := look_cases hF name.data.toList
  clear h hF
  rcases hc with ⟨g, hg, h0, hl, hb, hs⟩ | ⟨X, hX3, hP, hE, hl, hb, hs⟩
  · rw [h0, hg] at A
    simp only [chgP, chgE, findP, findE, if_true] at A
    rw [hl, hb]
    have HG := Lib.hid hg
    have A := Lib.hid A
    clear h0 hl hb hs hg
    go_enter Tryz.func29, Tryz.ntmps29
    go_wp2_with fail
    refine A.out.mono ?_
    rintro e w1 ⟨rfl, h1, k1⟩
    obtain ⟨a, cap, c0, c1, f0, f1, lt, ho, hob, hsu, hle, hh⟩ := h1.fileCells HG.out
    have run := run_str_own (P := Tryz.prog) w1 106 9 5 Tryz.underlying106 Tryz.underlying5 Tryz.underlying9 0 5 g.fl.bytes.length _ g.fl.bytes rfl ho
    have K1 := Lib.hid k1
    clear h1 k1 ho hob hh
    go_wp2
    first
      | (go_ret2; exact ⟨rfl, K1.out⟩)
      | (rw [run]; go_wp2; go_ret2; exact ⟨rfl, K1.out⟩)
  · rw [hP, hE] at A
    rw [hl, hb]
    clear hP hE hl hb hs
    rcases hX3 with rfl | rfl | rfl
    all_goals
      go_enter Tryz.func29, Tryz.ntmps29
      go_wp2_with fail
      refine A.mono ?_
      rintro e w1 ⟨rfl, h1, k1⟩
      have K1 := Lib.hid k1
      clear h1 k1 A
      go_wp2
      go_ret2
      exact ⟨rfl, K1.out⟩
set_option maxRecDepth 100000 in
set_option maxHeartbeats 2000000 in
theorem sure_any {own : Nat → Prop} {w : World} {d : Nat} {S : Ds} (h : DiskAt own w d S) (name : ByteArray) (hn : name.size ≤ maxLen) :
    Calls Tryz.prog 62 #[.pointer (some ⟨d, 0, none⟩), .string name] w fun e w' => e = .returned (.tuple #[.int .i64 (S.sureOf name.data.toList : Nat), .int .i64 (S.lookE name.data.toList)]) ∧ Below w.heap.size w w' := by
  obtain ⟨m, G, h, hF⟩ := h
  have A := look_any h name hn _ rfl
  have hc := look_cases hF name.data.toList
  clear h hF
  rcases hc with ⟨g, hg, h0, hl, hb, hs⟩ | ⟨X, hX3, hP, hE, hl, hb, hs⟩
  · rw [h0, hg] at A
    simp only [chgP, chgE, findP, findE, if_true] at A
    rw [hl, hs]
    have HG := Lib.hid hg
    have A := Lib.hid A
    clear h0 hl hb hs hg
    go_enter Tryz.func62, Tryz.ntmps62
    go_wp2_with fail
    refine A.out.mono ?_
    rintro e w1 ⟨rfl, h1, k1⟩
    obtain ⟨a, cap, c0, c1, f0, f1, lt, ho, hob, hsu, hle, hh⟩ := h1.fileCells HG.out
    have K1 := Lib.hid k1
    clear h1 k1 ho hob hh
    go_wp2
    go_ret2
    exact ⟨rfl, K1.out⟩
  · rw [hP, hE] at A
    rw [hl, hs]
    clear hP hE hl hb hs
    rcases hX3 with rfl | rfl | rfl
    all_goals
      go_enter Tryz.func62, Tryz.ntmps62
      go_wp2_with fail
      refine A.mono ?_
      rintro e w1 ⟨rfl, h1, k1⟩
      have K1 := Lib.hid k1
      clear h1 k1 A
      go_wp2
      go_ret2
      exact ⟨rfl, K1.out⟩
/-! ### Fuse, Off, New -/
theorem fuse_any {own : Nat → Prop} {w : World} {d : Nat} {S : Ds} (h : DiskAt own w d S) (n : Int) (hn : -9223372036854775808 ≤ n ∧ n ≤ 9223372036854775807) :
    Calls Tryz.prog 27 #[.pointer (some ⟨d, 0, none⟩), .int .i64 n] w fun e w' => e = .returned (.int .i64 0) ∧ DiskAt own w' d ⟨S.files, n, S.off⟩ ∧ Keeps own w w' := by
  obtain ⟨m, G, h, hF⟩ := h
  have hG := given_yes d w h.cells.c0
  obtain ⟨c0, c1, c2, c3, f2, f3, lt⟩ := h.cells
  have H := Lib.hid h
  clear h
  go_enter Tryz.func27, Tryz.ntmps27
  go_wp2_with (go_at_call 33; refine hG.mono ?_; rintro e w' ⟨rfl, rfl⟩)
  go_ret
  exact ⟨rfl, ⟨m, G, H.out.setFuse n hn, hF⟩, H.out.keepsCell _ _⟩
theorem new_any (w : World) : Calls Tryz.prog 4 #[] w fun e w' => e = .returned (.pointer (some ⟨w.heap.size + 1, 0, none⟩)) ∧ DiskAt (fun b => b < w.heap.size) w' (w.heap.size + 1) ⟨[], -1, false⟩ ∧ Below w.heap.size w w' := by
  have hmm := @run_makeMap Tryz.prog
  go_enter Tryz.func4, Tryz.ntmps4
  go_wp2
  go_ret
  refine ⟨rfl, ⟨w.heap.size, [], ⟨?_, ?_, List.Pairwise.nil, by simp, by simp, by simp, by simp, by show (-9223372036854775808 : Int) ≤ -1 ∧ (-1 : Int) ≤ 9223372036854775807; omega, fun b hb => ⟨by simp; omega, by omega, by omega, by simp⟩⟩, rfl⟩, ?_⟩
  · have := heap_alloc_new (w.alloc (.map #[] 0)) (.cells #[.pointer (some ⟨w.heap.size + 1, 0, none⟩), .map (some w.heap.size), .int .i64 (-1), .bool false] 49)
    rw [show (w.alloc (.map #[] 0)).heap.size = w.heap.size + 1 by simp] at this
    exact this
  · exact (World.ownsMap_made (H := Unit) w Tryz.prog 9 fR).alloc _
  · exact ((Below.refl _ w).alloc (Nat.le_refl _) _).alloc (by simp) _
end Go.Proofs.YtkfmjkcomjmedaaGreat
namespace Go.Proofs.YtkfmjkcomjmedaaGreat
open Go.RowKit Go.Lib
set_option linter.unusedVariables false

/-- How many bytes are sure then. -/
def keepN (n : Int) (f : Fl) : Nat := f.sure + (min (max n 0) ((f.bytes.length : Int) - (f.sure : Int))).toNat
theorem keepN_le (n : Int) (f : Fl) (h : f.sure ≤ f.bytes.length) : keepN n f ≤ f.bytes.length := by unfold keepN; omega
theorem keepN_ge (n : Int) (f : Fl) : f.sure ≤ keepN n f := by unfold keepN; omega
def cutF (n : Int) (f : Fl) : Fl := ⟨f.bytes.take (keepN n f), keepN n f⟩
section
variable {own : Nat → Prop} {w : World} {d m : Nat} {G : List (List UInt8 × Gf)} {fuse : Int} {off : Bool}
theorem Dsk.cut (h : Dsk own w d m G fuse off) {k : List UInt8} {g : Gf} (hg : getL k G = some g) {a : Option Addr} {cap : Nat} (hh : w.heap[g.blk]? = some (.cells #[.slice a g.fl.bytes.length cap, .int .i64 (g.fl.sure : Int)] 108 (0, 0))) :
    Dsk own (w.setCell ⟨g.blk, 0, none⟩ (.slice a g.fl.sure cap)) d m (setL k ⟨⟨g.fl.bytes.take g.fl.sure, g.fl.sure⟩, g.blk, g.row⟩ G) fuse off ∧ Keeps own w (w.setCell ⟨g.blk, 0, none⟩ (.slice a g.fl.sure cap)) := by
  have hf : FileAt w g := h.file _ ((getL_iff h.srt).1 hg)
  have hf1 := hf
  obtain ⟨v, h1, h2, h3, h4, h5⟩ := hf1
  obtain rfl : v = .slice a g.fl.bytes.length cap := by rw [hh] at h1; cases h1; rfl
  have hs : ∀ b, b < w.heap.size → b ≠ g.blk → g.row ≠ some b → (w.setCell ⟨g.blk, 0, none⟩ (.slice a g.fl.sure cap)).heap[b]? = w.heap[b]? := fun b hb n1 n2 => Below.heap_setCell _ _ _ _ n1
  have hsz : w.heap.size ≤ (w.setCell ⟨g.blk, 0, none⟩ (.slice a g.fl.sure cap)).heap.size := by simp [World.setCell]
  have ho : (Value.slice a g.fl.sure cap).ownBlock = g.row := by rw [← h3]; cases a <;> rfl
  refine ⟨h.reFile hg rfl ⟨_, by rw [setCell_at hh]; rfl, ?_, ho, ?_, ?_⟩ hs (fun r hr => .inl hr) hsz, h.reFile_keeps hg rfl rfl rfl hsz hs⟩
  · have h6 := own_cut h2 g.fl.sure h4
    have h7 := own_same h6 (w' := w.setCell ⟨g.blk, 0, none⟩ (.slice a g.fl.sure cap)) fun r hr => Below.heap_setCell _ _ _ _ (fun e => hf.apart hf (by rw [← ho, hr]; exact congrArg some e))
    have e : (g.fl.bytes.take g.fl.sure).length = g.fl.sure := by rw [List.length_take]; omega
    rw [e]
    have e2 : bv (g.fl.bytes.take g.fl.sure) = (bv g.fl.bytes).take g.fl.sure := by unfold bv; rw [List.map_take]
    rw [e2]
    exact h7
  · show g.fl.sure ≤ (g.fl.bytes.take g.fl.sure).length
    rw [List.length_take]; omega
  · show (g.fl.bytes.take g.fl.sure).length ≤ 4194304
    rw [List.length_take]; omega
end
set_option maxRecDepth 100000 in
set_option maxHeartbeats 2000000 in
theorem fcrash_any {own : Nat → Prop} {w : World} {d m : Nat} {G : List (List UInt8 × Gf)} {fuse : Int} {off : Bool} (h : Dsk own w d m G fuse off) {k : List UInt8} {g : Gf} (hg : getL k G = some g) (n : Int) (hn : -9223372036854775808 ≤ n ∧ n ≤ 9223372036854775807) :
    Calls Tryz.prog 34 #[.pointer (some ⟨g.blk, 0, none⟩), .int .i64 n] w fun e w' => (∃ v, e = .returned v) ∧ Dsk own w' d m (setL k ⟨cutF n g.fl, g.blk, g.row⟩ G) fuse off ∧ Keeps own w w' := by
  obtain ⟨a, cap, c0, c1, f0, f1, lt, ho, hob, hsu, hle, hh⟩ := h.fileCells hg
  have H := Lib.hid h
  have HG := Lib.hid hg
  have HO := Lib.hid ho
  have HH := Lib.hid hh
  clear h hg ho hob hh
  go_enter Tryz.func34, Tryz.ntmps34
  go_wp2
  go_still_tail 20, (by kernel_rfl)
  change wpList _ _ _ _ _ w.drew
  go_wp2
  have e1 : (g.fl.sure : Int) + min (max n 0) ((g.fl.bytes.length : Int) - (g.fl.sure : Int)) = ((keepN n g.fl : Nat) : Int) := by unfold keepN; omega
  have hK := keepN_le n g.fl hsu
  rw [e1]
  obtain ⟨h1, k1⟩ := H.out.reSure HG.out (keepN n g.fl) hK
  have h2 : Dsk own (w.setCell ⟨g.blk, 1, none⟩ (.int .i64 ((keepN n g.fl : Nat) : Int))).drew d m _ fuse off := h1.below ((Below.refl _ _).drew)
  have k2 : Keeps own w (w.setCell ⟨g.blk, 1, none⟩ (.int .i64 ((keepN n g.fl : Nat) : Int))).drew := k1.drew
  have hg2 : getL k (setL k (⟨⟨g.fl.bytes, keepN n g.fl⟩, g.blk, g.row⟩ : Gf) G) = some ⟨⟨g.fl.bytes, keepN n g.fl⟩, g.blk, g.row⟩ := by rw [getL_setL, if_pos rfl, HG.out]; rfl
  clear c0 c1 f0 f1 lt h1 k1 e1
  generalize (w.setCell ⟨g.blk, 1, none⟩ (.int .i64 ((keepN n g.fl : Nat) : Int))).drew = w2 at h2 k2 ⊢
  obtain ⟨a2, cap2, c0, c1, f0, f1, lt, ho, hob, hsu2, hle2, hh⟩ := h2.fileCells hg2
  dsimp only at c0 c1 f0 f1 lt ho hob hsu2 hle2 hh
  have hcut := h2.cut hg2 hh
  dsimp only at hcut
  have e3 : setL k (⟨⟨g.fl.bytes.take (keepN n g.fl), keepN n g.fl⟩, g.blk, g.row⟩ : Gf) (setL k (⟨⟨g.fl.bytes, keepN n g.fl⟩, g.blk, g.row⟩ : Gf) G) = setL k ⟨cutF n g.fl, g.blk, g.row⟩ G := by
    unfold setL cutF
    rw [List.map_map]
    refine List.map_congr_left fun p _ => ?_
    simp only [Function.comp]
    by_cases e : (p.1 == k) = true
    · simp [e]
    · simp [e]
  rw [e3] at hcut
  have HC := Lib.hid hcut
  have K2 := Lib.hid k2
  generalize keepN n g.fl = K at c1 hsu2 hK HC ⊢
  clear e3 hcut k2 h2 hg2 hob hh
  rcases ho.2 with ⟨hv, hl0⟩ | ⟨gb, cap3, cur, hv, hbg, hhh, hnc, hcm, hcs, htk⟩
  · simp only [Value.slice.injEq] at hv
    obtain ⟨rfl, hl1, rfl⟩ := hv
    have HL := Lib.hid hl0
    have hK0 : K = 0 := by omega
    subst hK0
    clear ho hl0 hl1
    go_wp2
    go_still_tail 12, (by kernel_rfl)
    change wpList _ _ _ _ _ w2.drew
    go_wp2
    go_end0
    exact ⟨⟨_, rfl⟩, HC.out.1.below ((Below.refl _ _).drew), K2.out.trans HC.out.2.drew⟩
  · cases hv
    have hKc : K ≤ cap2 := by omega
    unfold maxLen at hcm
    clear ho hhh hcs htk
    go_wp2
    go_still_tail 12, (by kernel_rfl)
    change wpList _ _ _ _ _ w2.drew
    go_wp2
    go_end0
    exact ⟨⟨_, rfl⟩, HC.out.1.below ((Below.refl _ _).drew), K2.out.trans HC.out.2.drew⟩
end Go.Proofs.YtkfmjkcomjmedaaGreat
namespace Go.Proofs.YtkfmjkcomjmedaaGreat
open Go.RowKit Go.Lib
set_option linter.unusedVariables false

/-! ### plain -/
def keepAt (ks : List Int) (i : Nat) : Int := if ks.length = 0 then 0 else ks.getD (i % ks.length) 0
def crashTo {α : Type} (c : Nat → α → α) (i : Nat) (l : List (List UInt8 × α)) : List (List UInt8 × α) := l.mapIdx fun j p => if j < i then (p.1, c j p.2) else p
def Ds.crash (S : Ds) (ks : List Int) : Ds := ⟨S.files.mapIdx fun j p => (p.1, cutF (keepAt ks j) p.2), -1, false⟩
theorem crashTo_zero {α : Type} (c : Nat → α → α) (l : List (List UInt8 × α)) : crashTo c 0 l = l := by
  unfold crashTo
  apply List.ext_getElem (by simp)
  intro j h1 h2
  simp
theorem crashTo_length {α : Type} (c : Nat → α → α) (i : Nat) (l : List (List UInt8 × α)) : (crashTo c i l).length = l.length := by simp [crashTo]
theorem crashTo_all {α : Type} (c : Nat → α → α) (l : List (List UInt8 × α)) : crashTo c l.length l = l.mapIdx fun j p => (p.1, c j p.2) := by
  unfold crashTo
  apply List.ext_getElem (by simp)
  intro j h1 h2
  simp at h1
  simp [h1]
theorem crashTo_get {α : Type} (c : Nat → α → α) (i : Nat) (l : List (List UInt8 × α)) (h : i < l.length) : (crashTo c i l)[i]'(by rw [crashTo_length]; exact h) = l[i] := by
  simp [crashTo]
theorem crashTo_keys {α : Type} (c : Nat → α → α) (i : Nat) (l : List (List UInt8 × α)) : (crashTo c i l).map (·.1) = l.map (·.1) := by
  unfold crashTo
  apply List.ext_getElem (by simp)
  intro j h1 h2
  simp
  split <;> rfl
theorem setL_at {α : Type} : ∀ {l : List (List UInt8 × α)} (_ : Srt l) (i : Nat) (h : i < l.length) (v : α), setL l[i].1 v l = l.set i (l[i].1, v)
  | [], _, i, h, _ => by simp at h
  | y :: r, hs, i, h, v => by
    obtain ⟨h1, h2⟩ := List.pairwise_cons.1 hs
    match i with
    | 0 =>
      have hr : r.map (fun p => if p.1 == y.1 then (p.1, v) else p) = r := by
        conv => rhs; rw [← List.map_id r]
        refine List.map_congr_left fun p hp => ?_
        have := h1 p hp
        rw [if_neg]
        · rfl
        · intro e
          rw [beq_iff_eq.1 e, WideAt.bytes_irrefl] at this; cases this
      unfold setL
      simp only [List.getElem_cons_zero, List.map_cons, List.set_cons_zero]
      rw [hr, if_pos (by simp)]
    | i + 1 =>
      have hi : i < r.length := by simpa using h
      have ih := setL_at h2 i hi v
      have hne : ¬ (y.1 == r[i].1) = true := by
        intro e
        have := h1 _ (List.getElem_mem hi)
        rw [← beq_iff_eq.1 e, WideAt.bytes_irrefl] at this; cases this
      unfold setL at ih ⊢
      simp only [List.getElem_cons_succ, List.map_cons, List.set_cons_succ]
      rw [ih, if_neg hne]
theorem crashTo_step {α : Type} (c : Nat → α → α) {l : List (List UInt8 × α)} (hs : Srt l) (i : Nat) (h : i < l.length) : setL l[i].1 (c i l[i].2) (crashTo c i l) = crashTo c (i + 1) l := by
  have hs2 : Srt (crashTo c i l) := by
    unfold Srt
    have e := crashTo_keys c i l
    have h3 : (l.map (·.1)).Pairwise fun p q => bytesBefore p q = true := by rw [List.pairwise_map]; exact hs
    rw [← e, List.pairwise_map] at h3
    exact h3
  have h1 := setL_at hs2 i (by rw [crashTo_length]; exact h) (c i l[i].2)
  rw [crashTo_get c i l h] at h1
  rw [h1]
  apply List.ext_getElem (by simp [crashTo])
  intro j h2 h3
  simp [crashTo] at h3
  rw [List.getElem_set]
  by_cases e : i = j
  · subst e
    simp [crashTo]
  · rw [if_neg e]
    simp only [crashTo, List.getElem_mapIdx]
    by_cases e2 : j < i
    · rw [if_pos e2, if_pos (by omega)]
    · rw [if_neg e2, if_neg (by omega)]
theorem srt_getL {α : Type} {l : List (List UInt8 × α)} (hs : Srt l) (i : Nat) (h : i < l.length) : getL l[i].1 l = some l[i].2 := (getL_iff hs).2 (List.getElem_mem h)

/-! ### in memory -/
/-- A ghost's file is cut. -/
def cutG (ks : List Int) (j : Nat) (g : Gf) : Gf := ⟨cutF (keepAt ks j) g.fl, g.blk, g.row⟩
theorem crash_fl (ks : List Int) (G : List (List UInt8 × Gf)) : mapL Gf.fl (G.mapIdx fun j p => (p.1, cutG ks j p.2)) = (mapL Gf.fl G).mapIdx fun j p => (p.1, cutF (keepAt ks j) p.2) := by
  unfold mapL
  apply List.ext_getElem (by simp)
  intro j h1 h2
  simp [cutG]
/-- A list of numbers that a caller has. -/
def Kp (own : Nat → Prop) (w : World) (a : Option Addr) (ks : List Int) : Prop :=
  (∀ n ∈ ks, -9223372036854775808 ≤ n ∧ n ≤ 9223372036854775807) ∧ (ks = [] ∨ ∃ b off, a = some ⟨b, off, none⟩ ∧ own b ∧ ∀ i (h : i < ks.length), w.cell? ⟨b, off + i, none⟩ = some (.int .i64 ks[i]))
theorem Kp.keeps {own : Nat → Prop} {w w' : World} {a : Option Addr} {ks : List Int} (h : Kp own w a ks) (k : Keeps own w w') : Kp own w' a ks := by
  refine ⟨h.1, ?_⟩
  rcases h.2 with h | ⟨b, off, h1, h2, h3⟩
  · exact .inl h
  · exact .inr ⟨b, off, h1, h2, fun i hi => (k.cell b _ h2).trans (h3 i hi)⟩
theorem Kp.nil (own : Nat → Prop) (w : World) (a : Option Addr) : Kp own w a [] := ⟨by simp, .inl rfl⟩
theorem Dsk.key {own : Nat → Prop} {w : World} {d m : Nat} {G : List (List UInt8 × Gf)} {fuse : Int} {off : Bool} (h : Dsk own w d m G fuse off) {p : List UInt8 × Gf} (hp : p ∈ G) :
    keyOf Tryz.prog 9 (.string ⟨p.1.toArray⟩) = some (.string p.1) := by
  obtain ⟨es, c, h1, F, h3, hD⟩ := h.mp
  unfold fD at hD
  simp only [DataW.map.injEq] at hD
  have hm : (Lit.string p.1, (DataW.lit (.int .i64 (p.2.blk : Int)) : DataW Unit)) ∈ (es.toList.map (WideElems.rg Tryz.prog 9 fR)).foldr DataW.insert [] := by
    rw [← hD]
    unfold mapL
    rw [List.map_map]
    exact List.mem_map.2 ⟨p, hp, rfl⟩
  rw [mem_sorted] at hm
  obtain ⟨x, hx, hx2⟩ := List.mem_map.1 hm
  obtain ⟨y, hy⟩ := F.reads x hx
  have hk := WideElems.rd_key hy
  have he : WideElems.rg Tryz.prog 9 fR x = y := by unfold WideElems.rg; rw [hy]; rfl
  rw [he] at hx2
  subst hx2
  obtain ⟨s, hs1, hs2, hs3⟩ := Maps.keyOf_str Tryz.underlying9 hk
  cases hs2
  rw [hs1] at hk
  exact hk
theorem names_at {w1 : World} {base : Nat} {ns : List (List UInt8)} {a : Option Addr} {n cap : Nat} (h : NamesV w1 base ns (.slice a n cap)) :
    ns = [] ∨ ∃ b, a = some ⟨b, 0, none⟩ ∧ base ≤ b ∧ b < w1.heap.size ∧ ∀ i (h : i < ns.length), w1.cell? ⟨b, i, none⟩ = some (.string ⟨ns[i].toArray⟩) := by
  unfold NamesV at h
  rcases h.2 with ⟨hv, hn⟩ | ⟨g, cap', cur, hv, hbg, hh, _⟩
  · exact .inl (List.eq_nil_of_length_eq_zero hn)
  · simp only [Value.slice.injEq] at hv
    obtain ⟨rfl, rfl, rfl⟩ := hv
    refine .inr ⟨g, rfl, hbg, heap_lt hh, fun i hi => ?_⟩
    rw [h.cellAt i (by omega)]
    simp [sv, hi]
theorem names_get {w1 : World} {base : Nat} {ns : List (List UInt8)} {a : Option Addr} (h : ns = [] ∨ ∃ b, a = some ⟨b, 0, none⟩ ∧ base ≤ b ∧ b < w1.heap.size ∧ ∀ i (h : i < ns.length), w1.cell? ⟨b, i, none⟩ = some (.string ⟨ns[i].toArray⟩)) {i : Nat} (hi : i < ns.length) :
    ∃ b, a = some ⟨b, 0, none⟩ ∧ base ≤ b ∧ b < w1.heap.size ∧ w1.cell? ⟨b, i, none⟩ = some (.string ⟨ns[i].toArray⟩) := by
  rcases h with rfl | ⟨b, h1, h2, h3, h4⟩
  · simp at hi
  · exact ⟨b, h1, h2, h3, h4 i hi⟩
theorem crashTo_mem {ks : List Int} {G : List (List UInt8 × Gf)} {i : Nat} (h : i < G.length) : G[i].1 = ((G.map (·.1))[i]'(by simpa using h)) := by simp
set_option maxRecDepth 100000 in
set_option maxHeartbeats 4000000 in
theorem crash_any {own : Nat → Prop} {w : World} {d : Nat} {S : Ds} (h : DiskAt own w d S) (a : Option Addr) (cap : Nat) (ks : List Int) (hk : Kp own w a ks) (hkl : ks.length ≤ maxLen) :
    Calls Tryz.prog 14 #[.pointer (some ⟨d, 0, none⟩), .slice a ks.length cap] w fun e w' => e = .returned (.int .i64 0) ∧ DiskAt own w' d (S.crash ks) ∧ Keeps own w w' := by
  obtain ⟨m, G, h, hF⟩ := h
  have hG := given_yes d w h.cells.c0
  have hN := names_dsk h
  have hlen := h.len
  have HKp := Lib.hid hk
  have HF := Lib.hid hF
  have H := Lib.hid h
  unfold maxLen at hkl
  clear hk hF h
  go_enter Tryz.func14, Tryz.ntmps14
  go_wp2_with (go_at_call 33; refine hG.mono ?_; rintro e w' ⟨rfl, rfl⟩)
  refine hN.mono ?_
  rintro e w1 ⟨v, rfl, hv, hb⟩
  have h1 := H.out.fresh hb
  have k1 : Keeps own w w1 := Keeps.of_below hb fun b hb => (H.out.own b hb).1
  obtain ⟨na, ncap, rfl⟩ := own_slice hv
  have hrd := names_at hv
  have H1 := Lib.hid h1
  have K1 := Lib.hid k1
  have HRD := Lib.hid hrd
  simp only [List.length_map]
  clear h1 k1 hrd hv hb hN hG
  go_wp2
  go_loopw [14] (fun i wr => ∃ k : Nat, k ≤ G.length ∧ i = .int .i64 k ∧ Dsk (fun b => own b ∨ (w.heap.size ≤ b ∧ b < w1.heap.size)) wr d m (crashTo (cutG ks) k G) S.fuse S.off ∧ Keeps (fun b => own b ∨ (w.heap.size ≤ b ∧ b < w1.heap.size)) w1 wr) (fun i _ => G.length - (intOf i).toNat)
  case atStart => exact ⟨0, Nat.zero_le _, rfl, by rw [crashTo_zero]; exact H1.out, Keeps.refl _ _⟩
  case round =>
    obtain ⟨k, hkn, rfl, hd, hkk⟩ := hrel
    by_cases hlt : k < G.length
    · obtain ⟨nb, rfl, hnb1, hnb2, hnc⟩ := names_get HRD.out (i := k) (by simpa using hlt)
      have hnc2 : wr.cell? ⟨nb, k, none⟩ = some (.string ⟨G[k].1.toArray⟩) := by
        rw [hkk.cell nb k (.inr ⟨hnb1, hnb2⟩), hnc]
        simp
      have hin : G[k] ∈ crashTo (cutG ks) k G := by
        have := List.getElem_mem (l := crashTo (cutG ks) k G) (n := k) (by rw [crashTo_length]; exact hlt)
        rwa [crashTo_get] at this
      have hget : getL G[k].1 (crashTo (cutG ks) k G) = some G[k].2 := (getL_iff hd.srt).2 hin
      have hkey := hd.key hin
      obtain ⟨lv, lps, hrun, hlv⟩ := hd.mp.lookup (Maps.string_keyed Tryz.underlying9) Tryz.underlying47 (Tryz.zeroValue83 wr) (zd := .nil) (zp := []) rfl hkey
      rw [fD_at, getL_mapL, hget] at hlv
      obtain rfl := fR_inv hlv
      obtain ⟨c0, c1, c2, c3, f2, f3, lt⟩ := hd.cells
      have hkp := HKp.out.keeps K1.out
      have hkp2 := (show Kp (fun b => own b ∨ (w.heap.size ≤ b ∧ b < w1.heap.size)) w1 a ks from ⟨hkp.1, hkp.2.imp id fun ⟨b, off, h1, h2, h3⟩ => ⟨b, off, h1, .inl h2, h3⟩⟩).keeps hkk
      have hstep := crashTo_step (cutG ks) H1.out.srt k hlt
      have HD := Lib.hid hd
      have HKK := Lib.hid hkk
      have HST := Lib.hid hstep
      have HGT := Lib.hid hget
      have HKP2 := Lib.hid hkp2
      clear hd hkk hstep hget hkp hkp2 hlv hkey hin hnc
      have hnil : (⟨G[k].1.toArray⟩ : ByteArray) = ⟨G[k].1.toArray⟩ := rfl
      generalize hnm : (⟨G[k].1.toArray⟩ : ByteArray) = nm at hnc2 hrun
      clear hnm hnil
      by_cases hz : ks.length = 0
      · have hz0 : ¬ (0 : Int) < (ks.length : Int) := by omega
        have C := fcrash_any HD.out HGT.out (keepAt ks k) (by unfold keepAt; rw [if_pos hz]; omega)
        have e0 : keepAt ks k = 0 := by unfold keepAt; rw [if_pos hz]
        rw [e0] at C
        have HC := Lib.hid C
        have HE := Lib.hid e0
        have HZ := Lib.hid hz
        clear C e0 hz
        go_wp2_with (go_at_call 34; refine HC.out.mono ?_; rintro e w3 ⟨⟨v3, rfl⟩, h3, k3⟩; (have H3 := Lib.hid h3); (have K3 := Lib.hid k3); clear h3 k3)
        go_roundw
        case rel =>
          refine ⟨k + 1, by omega, by go_num, ?_, HKK.out.trans K3.out⟩
          have h4 := H3.out
          rw [← HE.out] at h4
          rw [← HST.out]
          exact h4
        case measure => simp [intOf]; omega
      · have hz0 : (0 : Int) < (ks.length : Int) := by omega
        have hrl : k % ks.length < ks.length := Nat.mod_lt _ (by omega)
        obtain ⟨kb, off, rfl, hkb⟩ : ∃ kb off, a = some ⟨kb, off, none⟩ ∧ wr.cell? ⟨kb, off + k % ks.length, none⟩ = some (.int .i64 (keepAt ks k)) := by
          rcases HKP2.out.2 with h | ⟨b, off, h1, _, h3⟩
          · rw [h] at hz; exact absurd rfl hz
          · refine ⟨b, off, h1, ?_⟩
            rw [h3 _ hrl]
            unfold keepAt
            rw [if_neg hz, List.getD_eq_getElem?_getD, List.getElem?_eq_getElem hrl]
            rfl
        have hrange : -9223372036854775808 ≤ keepAt ks k ∧ keepAt ks k ≤ 9223372036854775807 := by
          unfold keepAt
          rw [if_neg hz, List.getD_eq_getElem?_getD, List.getElem?_eq_getElem hrl]
          exact HKP2.out.1 _ (List.getElem_mem hrl)
        have C := fcrash_any HD.out HGT.out (keepAt ks k) hrange
        have em : (k : Int) % (ks.length : Int) = ((k % ks.length : Nat) : Int) := by omega
        have em2 : (k : Int).tmod (ks.length : Int) = ((k % ks.length : Nat) : Int) := by rw [Int.tmod_eq_emod_of_nonneg (by omega)]; exact em
        generalize hr : k % ks.length = r at em em2 hkb hrl
        generalize hka : keepAt ks k = q at hkb C hrange
        have HC := Lib.hid C
        have HE := Lib.hid hka
        have HZ := Lib.hid hz
        clear C hka hz hr
        go_wp2_with (go_at_call 34; refine HC.out.mono ?_; rintro e w3 ⟨⟨v3, rfl⟩, h3, k3⟩; (have H3 := Lib.hid h3); (have K3 := Lib.hid k3); clear h3 k3)
        go_roundw
        case rel =>
          refine ⟨k + 1, by omega, by go_num, ?_, HKK.out.trans K3.out⟩
          have h4 := H3.out
          rw [← HE.out] at h4
          rw [← HST.out]
          exact h4
        case measure => simp [intOf]; omega
    · have hke : k = G.length := by omega
      have HK := Lib.hid hke
      obtain ⟨c0, c1, c2, c3, f2, f3, lt⟩ := hd.cells
      have HD := Lib.hid hd
      have HKK := Lib.hid hkk
      clear hke hd hkk
      go_wp2
      go_ret
      have h5 := HD.out
      rw [HK.out, crashTo_all] at h5
      have h6 := h5.setOff false
      have h7 := h6.setFuse (-1) (by omega)
      refine ⟨rfl, ⟨m, _, h7.weaken (fun b hb => .inl hb), by rw [crash_fl, HF.out]; rfl⟩, ?_⟩
      exact K1.out.trans (((HKK.out.trans (h5.keepsCell _ _)).trans (h6.keepsCell _ _)).mono fun b hb => .inl hb)
end Go.Proofs.YtkfmjkcomjmedaaGreat
namespace Go.Proofs.YtkfmjkcomjmedaaGreat
open Go.RowKit Go.Lib
set_option linter.unusedVariables false

/-! ### arrays of texts that come in -/
theorem mapM_each2 {α β : Type} {f : α → Option β} : ∀ (L : List α) {ys : List β}, L.mapM f = some ys → ∀ i (hi : i < L.length), ∃ y, f (L[i]) = some y := by
  intro L
  induction L with
  | nil => intro ys _ i hi; simp at hi
  | cons a r ih =>
    intro ys h i hi
    rw [List.mapM_cons] at h
    simp only [Option.bind_eq_bind, Option.bind_eq_some_iff] at h
    obtain ⟨y, hy, zs, hz, _⟩ := h
    match i, hi with
    | 0, _ => exact ⟨y, hy⟩
    | i + 1, hi => exact ih hz i (by simpa using hi)
theorem open_str2 {H : Type} {enc : TypeId × Value → H} {P : Program} {W : World} {base : Nat} {sp : Nat → Bool} {held : Bool} {t e : TypeId} {r : Reach} {b0 : Nat} {v : Value} {d : DataW H} {ps : List MemPlace}
    (ht : P.underlying t = some (.array 2 e)) (he : P.underlying e = some .string) (h1 : P.cellsOf e = 1) (hs : P.cellsOf t = 2)
    (hval : Value.okWide P W r b0 t v) (hd : DataW.Trod enc P W base sp held t v d ps) :
    ∃ x y : ByteArray, v = .agg #[.string x, .string y] ∧ x.size ≤ maxLen ∧ y.size ≤ maxLen := by
  simp only [Value.okWide, ht] at hval
  obtain ⟨cs, rfl, h2, _⟩ := hval
  rw [hs] at h2
  obtain ⟨fuel, hf⟩ := hd
  cases fuel with
  | zero => simp [DataW.trod] at hf
  | succ m =>
    rw [DataW.trod_step] at hf
    unfold DataW.trodStep at hf
    simp only [ht, Value.cells] at hf
    rw [if_pos (by rw [hs]; simpa using h2)] at hf
    simp only [Option.map_eq_some_iff] at hf
    obtain ⟨ys, hy, _⟩ := hf
    have hall : ∀ i (hi : i < 2), ∃ z, cs[i]'(by omega) = .string z ∧ z.size ≤ maxLen := by
      intro i hi
      obtain ⟨y, hy'⟩ := mapM_each2 _ hy i (by simpa using hi)
      obtain ⟨z, ez, _, wz⟩ := DataW.trod_string he hy'
      rw [h1, Nat.mul_one, List.getElem_range] at ez
      refine ⟨z, ?_, wz⟩
      have e2 := congrArg (fun l : List Value => l[0]?) ez
      simp only [List.getElem?_take, List.getElem?_drop, Nat.add_zero] at e2
      rw [if_pos (by omega), Array.getElem?_toList, Array.getElem?_eq_getElem (by omega)] at e2
      simpa using e2
    obtain ⟨x, hx, hx2⟩ := hall 0 (by omega)
    obtain ⟨y, hy, hy2⟩ := hall 1 (by omega)
    refine ⟨x, y, ?_, hx2, hy2⟩
    congr 1
    apply Array.ext (by simpa using h2)
    intro i h3 h4
    have : i = 0 ∨ i = 1 := by omega
    rcases this with rfl | rfl
    · simpa using hx
    · simpa using hy

/-! ### disks whose power stays on -/
section
variable {F : List (List UInt8 × Fl)} {n k s : List UInt8} {f : Fl}
abbrev calm (F : List (List UInt8 × Fl)) : Ds := ⟨F, -1, false⟩
theorem calm_E (ok : Bool) : begE ok (-1) false = if ok = true then 0 else 1 := by unfold begE; split <;> rfl
theorem calm_F (ok : Bool) : begF ok (-1) false = -1 := by unfold begF; rw [if_neg (by omega)]
theorem calm_O (ok : Bool) : begO ok (-1) false = false := by unfold begO; rw [if_neg (by omega)]
theorem calm_B (ok : Bool) : (calm F).begin ok = calm F := by unfold Ds.begin calm; dsimp only; rw [calm_F, calm_O]
theorem calm_chg (hn : namL n = true) (ok : Bool) (hok : ok = true) : (calm F).chgE ok n = fE (getL n F) := by
  subst hok
  unfold Ds.chgE calm; dsimp only; rw [calm_E, if_pos rfl, if_pos rfl]
theorem make_new (hn : namL n = true) (hg : getL n F = none) (hl : F.length < 256) : (calm F).make n = (calm (putL n ⟨[], 0⟩ F), 0) := by
  unfold Ds.make; rw [calm_B]; dsimp only; rw [calm_E, if_pos hn, if_pos rfl, hg]; dsimp only; rw [if_neg (by omega)]
theorem make_old (hn : namL n = true) (hg : getL n F = some f) : (calm F).make n = (calm F, 1) := by
  unfold Ds.make; rw [calm_B]; dsimp only; rw [calm_E, if_pos hn, if_pos rfl, hg]
theorem append_calm (hn : namL n = true) (hg : getL n F = some f) (hl : f.bytes.length + s.length ≤ 4194304) : (calm F).append n s = (calm (setL n ⟨f.bytes ++ s, f.sure⟩ F), 0) := by
  unfold Ds.append; rw [calm_B, calm_chg hn _ hn]; dsimp only; rw [hg]; rw [show fE (some f) = 0 from rfl, if_pos rfl]; dsimp only; rw [if_neg (by omega)]
theorem sync_calm (hn : namL n = true) (hg : getL n F = some f) : (calm F).sync n = (calm (setL n ⟨f.bytes, f.bytes.length⟩ F), 0) := by
  unfold Ds.sync; rw [calm_B, calm_chg hn _ hn]; dsimp only; rw [hg]; rw [show fE (some f) = 0 from rfl, if_pos rfl]
theorem rename_calm (hn : namL n = true) (hk : namL k = true) (hg : getL n F = some f) : (calm F).rename n k = (calm (putL k f (delL n F)), 0) := by
  unfold Ds.rename; rw [calm_B, calm_chg hn _ (by rw [hn, hk]; rfl)]; dsimp only; rw [hg]; rw [show fE (some f) = 0 from rfl, if_pos rfl]
theorem rename_none (hn : namL n = true) (hk : namL k = true) (hg : getL n F = none) : (calm F).rename n k = (calm F, 3) := by
  unfold Ds.rename; rw [calm_B, calm_chg hn _ (by rw [hn, hk]; rfl)]; rw [hg, show fE (none : Option Fl) = 3 from rfl, if_neg (by omega)]
theorem remove_calm (hn : namL n = true) (hg : getL n F = some f) : (calm F).remove n = (calm (delL n F), 0) := by
  unfold Ds.remove; rw [calm_B, calm_chg hn _ hn, hg]; rw [show fE (some f) = 0 from rfl, if_pos rfl]
theorem look_calm (hn : namL n = true) : (calm F).lookE n = fE (getL n F) := by
  unfold Ds.lookE askE calm; dsimp only; rw [hn]; rfl
theorem bytes_calm (hn : namL n = true) (hg : getL n F = some f) : (calm F).bytesOf n = f.bytes := by
  unfold Ds.bytesOf; rw [look_calm hn, hg]; rw [show fE (some f) = 0 from rfl, if_pos rfl]
theorem sure_calm (hn : namL n = true) (hg : getL n F = some f) : (calm F).sureOf n = f.sure := by
  unfold Ds.sureOf; rw [look_calm hn, hg]; rw [show fE (some f) = 0 from rfl, if_pos rfl]
theorem crash_none (F : List (List UInt8 × Fl)) (fu : Int) (o : Bool) : (⟨F, fu, o⟩ : Ds).crash [] = calm (F.mapIdx fun _ p => (p.1, cutF 0 p.2)) := rfl
theorem cut_zero (h : f.sure ≤ f.bytes.length) : cutF 0 f = ⟨f.bytes.take f.sure, f.sure⟩ := by
  have e : keepN 0 f = f.sure := by unfold keepN; omega
  unfold cutF; rw [e]
theorem mapIdx_map {α β : Type} (c : α → β) (l : List (List UInt8 × α)) : (l.mapIdx fun _ p => (p.1, c p.2)) = mapL c l := by
  unfold mapL
  apply List.ext_getElem (by simp)
  intro j h1 h2
  simp
end

/-! ### the document's own Name -/
set_option maxRecDepth 100000 in
set_option maxHeartbeats 2000000 in
theorem rname_any (s : ByteArray) (hs : s.size ≤ maxLen) (w : World) :
    Calls Tryz.prog 57 #[.string s] w fun e w' => e = .returned (.bool (namL s.data.toList)) ∧ w = w' := by
  unfold maxLen at hs
  go_enter Tryz.func57, Tryz.ntmps57
  go_wp2
  go_loop [3] (fun i => ∃ j : Nat, j ≤ s.size ∧ i = .int .i64 j ∧ AllB s.data.toList j) (fun i => s.size - (intOf i).toNat)
  case atStart => exact ⟨0, Nat.zero_le _, rfl, rfl⟩
  case round =>
    obtain ⟨j, hj, rfl, hB⟩ := hrel
    have HBB := Lib.hid hB
    clear hB
    by_cases hjt : j < s.size
    · have hl : j < s.data.toList.length := by rw [Array.length_toList]; exact hjt
      have hg : s.data.toList[j] = s[j] := by simp; rfl
      have hlt := s[j].toNat_lt
      cases hn : namB s[j] with
      | true =>
        have HN := Lib.hid hn
        have h1 := hn
        unfold namB at h1
        simp only [Bool.or_eq_true, Bool.and_eq_true, decide_eq_true_eq] at h1
        have HE := Lib.hid (show AllB s.data.toList (j + 1) from by unfold AllB; rw [take_all_snoc namB _ j hl, HBB.out, hg, HN.out]; rfl)
        clear hn hg
        have hcase : (97 ≤ (s[j].toNat : Int) ∧ (s[j].toNat : Int) ≤ 122) ∨ ((s[j].toNat : Int) < 97 ∧ 48 ≤ (s[j].toNat : Int) ∧ (s[j].toNat : Int) ≤ 57) ∨ ((s[j].toNat : Int) < 48 ∧ (s[j].toNat : Int) = 46) ∨ ((s[j].toNat : Int) < 48 ∧ (s[j].toNat : Int) = 45) := by omega
        clear h1
        rcases hcase with ⟨h1, h2⟩ | ⟨h1, h2, h3⟩ | ⟨h1, h2⟩ | ⟨h1, h2⟩
        · go_wp2
          go_round
          case rel => exact ⟨j + 1, by omega, by go_num, HE.out⟩
          case measure => simp [intOf]; omega
        · go_wp2
          go_round
          case rel => exact ⟨j + 1, by omega, by go_num, HE.out⟩
          case measure => simp [intOf]; omega
        · have h3 : (s[j].toNat : Int) < 97 := by omega
          have h4 : ((s[j].toNat : Int) != 46) = false := by simp [h2]
          clear h2
          go_wp2
          go_round
          case rel => exact ⟨j + 1, by omega, by go_num, HE.out⟩
          case measure => simp [intOf]; omega
        · have h3 : (s[j].toNat : Int) < 97 := by omega
          have h4 : ((s[j].toNat : Int) != 46) = true := by simp [h2]
          have h5 : ((s[j].toNat : Int) != 45) = false := by simp [h2]
          clear h2
          go_wp2
          go_round
          case rel => exact ⟨j + 1, by omega, by go_num, HE.out⟩
          case measure => simp [intOf]; omega
      | false =>
        have h1 := hn
        unfold namB at h1
        simp only [Bool.or_eq_false_iff, Bool.and_eq_false_iff, decide_eq_false_iff_not] at h1
        obtain ⟨⟨⟨h1, h2⟩, h3⟩, h4⟩ := h1
        have h3' : ((s[j].toNat : Int) != 46) = true := by simpa using h3
        have h4' : ((s[j].toNat : Int) != 45) = true := by simpa using h4
        have HF := Lib.hid (show namL s.data.toList = false from by unfold namL; rw [all_false_at namB _ j hl (by rw [hg]; exact hn)]; simp)
        clear h3 h4 hn hg
        have hcase : ((s[j].toNat : Int) < 97 ∧ (s[j].toNat : Int) < 48) ∨ ((s[j].toNat : Int) < 97 ∧ 57 < (s[j].toNat : Int)) ∨ 122 < (s[j].toNat : Int) := by omega
        clear h1 h2
        rcases hcase with ⟨h1, h2⟩ | ⟨h1, h2⟩ | h1
        all_goals
          go_wp2
          go_ret
          exact ⟨ret_b HF.out.symm, rfl⟩
    · have hje : j = s.size := by omega
      have HJ := Lib.hid hje
      have hall : s.data.toList.all namB = true := by
        have := HBB.out
        unfold AllB at this
        rw [hje, List.take_of_length_le (by rw [Array.length_toList]; exact Nat.le_refl _)] at this
        exact this
      have HA := Lib.hid hall
      clear hje hall
      have hlen : s.data.toList.length = s.size := Array.length_toList
      by_cases h1 : 1 ≤ s.size
      · by_cases h2 : s.size ≤ 32
        · have HF := Lib.hid (show namL s.data.toList = true from by unfold namL; rw [HA.out, decide_eq_true (by omega), decide_eq_true (by omega)]; rfl)
          clear hlen
          go_wp2
          go_ret
          exact ⟨ret_b (by rw [HF.out, decide_eq_true_eq]; omega), rfl⟩
        · have HF := Lib.hid (show namL s.data.toList = false from by unfold namL; rw [decide_eq_false (show ¬ s.data.toList.length ≤ 32 by omega)]; simp)
          clear hlen
          go_wp2
          go_ret
          exact ⟨ret_b (by rw [HF.out, decide_eq_false_iff_not]; omega), rfl⟩
      · have HF := Lib.hid (show namL s.data.toList = false from by unfold namL; rw [decide_eq_false (show ¬ 0 < s.data.toList.length by omega)]; simp)
        clear hlen
        go_wp2
        go_ret
        exact ⟨ret_b HF.out.symm, rfl⟩
end Go.Proofs.YtkfmjkcomjmedaaGreat
