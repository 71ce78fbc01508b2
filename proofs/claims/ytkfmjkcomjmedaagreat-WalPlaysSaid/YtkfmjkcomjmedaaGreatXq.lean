/-
  Layer 6 (wal), the law WalPlays: the contract of does, a Fuse. Conditions: a log as the law has it.
-/
import Derived.Test.YtkfmjkcomjmedaaGreatXm
import Derived.Deep.CutBlock
namespace Go.Proofs.YtkfmjkcomjmedaaGreat
open Go.RowKit
set_option linter.unusedVariables false
set_option linter.unusedSimpArgs false

set_option maxRecDepth 100000 in
set_option maxHeartbeats 16000000 in
theorem does_fuse {bb nb : Nat} {own : Nat → Prop} {w : World} {G d l : Nat} {S : Ds} {L0 : Lt} {n : Nat} {ts : List (List UInt8)} {m : Value} (h : SideL own w G d l S (L0 ++ [(n, ts)]) n m) (hk : OkS bb nb S)  (N : Int) (hN : -9223372036854775808 ≤ N ∧ N ≤ 9223372036854775807) (s : ByteArray) (ka : Option Addr) (kn kc : Nat) :
    Calls Tryz.prog 8 #[.pointer (some ⟨G, 0, none⟩), .agg #[.int .i64 5, .int .i64 N, .string s, .slice ka kn kc]] w (DoE own w G d l ⟨S.files, max N (-1), S.off⟩ 0 (L0 ++ [(n, ts)]) n) := by
  have HK := Lib.hid hk
  obtain ⟨sd, ⟨C, hCS, wl⟩, rl⟩ := h
  have HCS := Lib.hid hCS
  have HRL := Lib.hid rl
  obtain ⟨a, c, a1, n1, c1, a2, n2, c2, x, hg, hq, rfl⟩ := sd.gx
  have hx := rl.last
  subst hx
  have HG0 := Lib.hid hg
  have HQ0 := Lib.hid hq
  have HWL := Lib.hid wl
  have HOG := Lib.hid sd.oG
  have HTF := Lib.hid sd.tf
  have HWO := Lib.hid (fun b (hb : own b) => wl.toDisk.own hb)
  have hGw := wl.toDisk.own sd.oG
  obtain ⟨LL, hLL⟩ : ∃ LL, L0 ++ [(n, ts)] = LL := ⟨_, rfl⟩
  rw [hLL] at HWL HRL ⊢
  have HCO := Lib.hid (fun (own : Nat → Prop) (W : World) (h : WalAt own W l d C LL) => wfuse_any h N hN)
  have hCT := HCS.out.fuse N
  obtain ⟨T, hT⟩ : ∃ T, (⟨S.files, max N (-1), S.off⟩ : Ds) = T := ⟨_, rfl⟩
  obtain ⟨C', hC'⟩ : ∃ C', (⟨C.files, N, C.off⟩ : Ds) = C' := ⟨_, rfl⟩
  rw [hT]
  rw [hC'] at HCO
  rw [hC', hT] at hCT
  have HCT := Lib.hid hCT
  have HTE := Lib.hid hT
  clear hT hLL hCT hC'
  clear sd hg hq wl rl hk hCS
  go_enter Tryz.func8, Tryz.ntmps8
  go_upto_block 0 with fail
  generalize hW : World.alloc w _ = W
  have b0 : Below w.heap.size w W := by rw [← hW]; exact (Below.refl _ _).alloc (Nat.le_refl _) _
  have hsW : w.heap.size < W.heap.size := by rw [← hW]; simp
  have o0 : W.cell? ⟨w.heap.size, 0, none⟩ = some (.int .i64 5) := by rw [← hW]; simp
  have o1 : W.cell? ⟨w.heap.size, 1, none⟩ = some (.int .i64 N) := by rw [← hW]; simp
  clear hW
  have HG1 := Lib.hid (HG0.out.old b0)
  have HQ1 := Lib.hid (HQ0.out.old b0)
  have HW1 := Lib.hid (HWL.out.fresh b0)
  have HR1 := Lib.hid (HRL.out.old b0)
  have TF1 := Lib.hid (tf_below HTF.out b0)
  have HK1 := Lib.hid (Keeps.of_below (own := fun b => own b ∧ b ≠ G) b0 (fun b hb => HWO.out b hb.1))
  have hoB : (fun b => own b ∨ (w.heap.size ≤ b ∧ b < W.heap.size)) w.heap.size := .inr ⟨Nat.le_refl _, hsW⟩
  have HOB := Lib.hid hoB
  clear hoB
  have HAR := Lib.hid (fun (W' : World) (hb : Below W.heap.size W W') => fuse_ref (HQ1.out.old hb) N)
  rw [HTE.out] at HAR
  obtain ⟨g0, g1, g2, g3, g4, g5, g6, g7, gf, -⟩ := HG1.out
  clear gf
  have HB0 := Lib.hid b0
  clear b0
  go_wp2_with fail
  go_region_with (go_at_call 26; (with_reducible refine (HAR.out _ ((Below.refl _ _).drew)).mono ?_); rintro e w5 ⟨q5, rfl, hq5, b5'⟩; have b5 := ((Below.refl _ _).drew).trans b5'; have HB5 := Lib.hid b5; have HQ5 := Lib.hid hq5; have HG5 := Lib.hid (HG1.out.old b5); have hg5 := HG5.out; obtain ⟨a5, c5, rfl, -, -, -⟩ := hq5; have hf := hg5.fz; have f2 := hf 2 (by omega); have f3 := hf 3 (by omega); have f4 := hf 4 (by omega); obtain ⟨y10, -, y12, y13, y14, -, -, -, -, -⟩ := hg5; have ho5 := (b5.cell (p := ⟨w.heap.size, 1, none⟩) hsW).trans o1; clear hf b5 b5')
  all_goals
    go_wp2_with fail
    obtain ⟨W8, hW8⟩ : ∃ W8, putq w5 G a5 T.files.length c5 T.fuse T.off = W8 := ⟨_, rfl⟩
    have HG8 := Lib.hid (hW8 ▸ HG5.out.putq a5 T.files.length c5 T.fuse T.off)
    have HQ8 := Lib.hid (hW8 ▸ RefD.inq HG5.out HQ5.out a5 T.files.length c5 T.fuse T.off)
    have HW8 : Hid (WalAt (fun b => (own b ∨ (w.heap.size ≤ b ∧ b < W.heap.size)) ∨ (W.heap.size ≤ b ∧ b < w5.heap.size)) W8 l d C LL) := Lib.hid (by rw [← hW8]; exact ((((HW1.out.fresh HB5.out).setCell (a := ⟨G, 2, none⟩) (.inl (.inl HOG.out)) _).setCell (a := ⟨G, 3, none⟩) (.inl (.inl HOG.out)) _).setCell (a := ⟨G, 4, none⟩) (.inl (.inl HOG.out)) _))
    have TF8 : Hid (∀ b, TF W8 b → (fun b => (own b ∨ (w.heap.size ≤ b ∧ b < W.heap.size)) ∨ (W.heap.size ≤ b ∧ b < w5.heap.size)) b) := Lib.hid (by rw [← hW8]; exact tf_set (tf_set (tf_set (tf_below TF1.out HB5.out) (.inl (.inl HOG.out)) 2 _) (.inl (.inl HOG.out)) 3 _) (.inl (.inl HOG.out)) 4 _)
    have ks : ∀ (own : Nat → Prop), (∀ b, own b → b ≠ G) → Keeps own w5 W8 := by rw [← hW8]; exact fun own h => ((Keeps.setCell ⟨G, 2, none⟩ _ h).trans (Keeps.setCell ⟨G, 3, none⟩ _ h)).trans (Keeps.setCell ⟨G, 4, none⟩ _ h)
    have HK8 := Lib.hid ((Keeps.of_below (own := fun b => own b ∧ b ≠ G) (HB0.out.trans (HB5.out.mono (Nat.le_of_lt hsW))) (fun b hb => HWO.out b hb.1)).trans (ks _ fun b hb => hb.2))
    have HR8 := Lib.hid ((HR1.out.old HB5.out).keeps (ks (fun b => own b ∧ b ≠ G) fun b hb => hb.2) (fun b hb => hb))
    have ho8 : W8.cell? ⟨w.heap.size, 1, none⟩ = some (.int .i64 N) := ((ks (fun b => b = w.heap.size) (fun b hb => by omega)).cell w.heap.size 1 rfl).trans ho5
    have SS := And.intro HG8.out.g0 ho8
    unfold putq at hW8
    rw [hW8]
    clear hW8 ks y10 y12 y13 y14 f2 f3 f4 ho5 ho8
    go_region_held3 (fun w' => w'.cell? ⟨G, 0, none⟩ = some (.pointer (some ⟨d, 0, none⟩)) ∧ w'.cell? ⟨w.heap.size, 1, none⟩ = some (.int .i64 N))
      (first
        | assumption
        | exact ⟨(k9.cell G 0 (.inl (.inl HOG.out))).trans SS.1, (k9.cell w.heap.size 1 (.inl HOB.out)).trans SS.2⟩
        | exact keep_two (base := W8.heap.size) SS (by have := HW8.out.own (.inl (.inl HOG.out)); omega) (by have := HW8.out.own (.inl HOB.out); omega) ((Below.refl _ _).drew))
      (first
        | (go_at_call 27; (with_reducible refine (HCO.out _ _ HW8.out).mono ?_); rintro e w9 ⟨rfl, hw9, k9⟩)
        | (go_at_call 27; (with_reducible refine (HCO.out _ _ HW8.out.drew).mono ?_); rintro e w9 ⟨rfl, hw9, k9'⟩; have k9 := (Keeps.refl _ W8).drew.trans k9'; clear k9'))
    go_wp2_with fail
    go_ret2
    refine ⟨fun b => ((own b ∨ (w.heap.size ≤ b ∧ b < W.heap.size)) ∨ (W.heap.size ≤ b ∧ b < w5.heap.size)) ∨ TF w9 b, _, rfl, fun b hb => .inl (.inl (.inl hb)), HK8.out.trans (k9.mono fun b hb => .inl (.inl hb.1)), ⟨⟨_, _, _, _, _, _, _, _, _, HG8.out.keeps k9 (.inl (.inl HOG.out)), HQ8.out.keeps k9 TF8.out, rfl⟩, .inl (.inl (.inl HOG.out)), fun b hb => .inr hb, ⟨_, HCT.out, hw9.typed.toDisk⟩⟩, ⟨_, HCT.out, hw9.typed⟩, ?_⟩
    exact (HR8.out.keeps k9 (fun b hb => .inl (.inl hb.1))).mono fun b _ hb => ⟨.inl (.inl (.inl hb.1)), hb.2⟩
end Go.Proofs.YtkfmjkcomjmedaaGreat
