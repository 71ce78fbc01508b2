/-
  Layer 6 (wal), the law WalPlays: what a Flush, a Roll and a Fuse leave on both sides. Conditions: none.
-/
import Derived.Test.YtkfmjkcomjmedaaGreatQD
namespace Go.Proofs.YtkfmjkcomjmedaaGreat
open Go.RowKit
set_option linter.unusedVariables false
set_option linter.unusedSimpArgs false

theorem does_fin3 {P own own' : Nat → Prop} {w w7 : World} {G d l n' : Nat} {T C : Ds} {L' : Lt} {a : Option Addr} {nn c : Nat} {f : Int} {o : Bool} {a1 : Option Addr} {n1 c1 : Nat} {a2 : Option Addr} {n2 c2 : Nat} {x : Int} {a7 : Option Addr} {c7 : Nat}
    (hg : Gx w7 G d (.pointer (some ⟨l, 0, none⟩)) a nn c f o a1 n1 c1 a2 n2 c2 x) (hq : RefD w7 (.agg #[.slice a7 T.files.length c7, .int .i64 T.fuse, .bool T.off]) T) (hG : own' G) (htf : ∀ b, TF w7 b → own' b) (hCT : EqD C T) (hw : WalAt own' w7 l d C L')
    (hk : Keeps (fun b => own b ∧ b ≠ G) w w7) (hoo : ∀ b, own b → own' b) (hv : RefL P w7 (.agg #[.slice a1 n1 c1, .slice a2 n2 c2, .int .i64 x]) (flat L') (ofs L') n') (hP : ∀ b, P b → b ≠ G) (hPo : ∀ b, b < w7.heap.size → P b → own' b) :
    ∀ W8, W8 = putq w7 G a7 T.files.length c7 T.fuse T.off → (∀ b, own b → own' b) ∧ Keeps (fun b => own b ∧ b ≠ G) w W8 ∧ SideL own' W8 G d l T L' n' (.agg #[.slice a1 n1 c1, .slice a2 n2 c2, .int .i64 x]) := by
  rintro W8 rfl
  have g2 := hg.putq a7 T.files.length c7 T.fuse T.off
  have q2 := RefD.inq hg hq a7 T.files.length c7 T.fuse T.off
  have ks : ∀ (own : Nat → Prop), (∀ b, own b → b ≠ G) → Keeps own w7 (putq w7 G a7 T.files.length c7 T.fuse T.off) := fun own h => ((Keeps.setCell ⟨G, 2, none⟩ _ h).trans (Keeps.setCell ⟨G, 3, none⟩ _ h)).trans (Keeps.setCell ⟨G, 4, none⟩ _ h)
  have hw8 : WalAt own' (putq w7 G a7 T.files.length c7 T.fuse T.off) l d C L' := (((hw).setCell (a := ⟨G, 2, none⟩) hG _).setCell (a := ⟨G, 3, none⟩) hG _).setCell (a := ⟨G, 4, none⟩) hG _
  refine ⟨hoo, hk.trans (ks _ fun b hb => hb.2), ⟨⟨a7, c7, a1, n1, c1, a2, n2, c2, x, g2, q2, rfl⟩, hG, ?_, ⟨C, hCT, hw8.toDisk⟩⟩, ⟨C, hCT, hw8⟩, ?_⟩
  · exact tf_set (tf_set (tf_set (htf) hG 2 _) hG 3 _) hG 4 _
  · have h1 : RefL (fun b => own' b ∧ b ≠ G) w7 (.agg #[.slice a1 n1 c1, .slice a2 n2 c2, .int .i64 x]) (flat L') (ofs L') n' := hv.mono fun b h h2 => ⟨hPo b h h2, hP b h2⟩
    exact h1.keeps (ks (fun b => own' b ∧ b ≠ G) fun b hb => hb.2) (fun b hb => hb)
theorem RefL.last {P : Nat → Prop} {w : World} {a1 a2 : Option Addr} {n1 c1 n2 c2 : Nat} {x : Int} {ts : List (List UInt8)} {os : List Nat} {n : Nat} (h : RefL P w (.agg #[.slice a1 n1 c1, .slice a2 n2 c2, .int .i64 x]) ts os n) : x = (n : Int) := by
  obtain ⟨_, _, _, _, hm, -⟩ := h
  simp at hm
  exact hm.2.2
theorem RefL.num {P : Nat → Prop} {w : World} {a1 a2 : Option Addr} {n1 c1 n2 c2 : Nat} {x : Int} {ts : List (List UInt8)} {os : List Nat} {n : Nat} (h : RefL P w (.agg #[.slice a1 n1 c1, .slice a2 n2 c2, .int .i64 x]) ts os n) (m : Nat) : RefL P w (.agg #[.slice a1 n1 c1, .slice a2 n2 c2, .int .i64 (m : Int)]) ts os m := by
  obtain ⟨b1, e1, b2, e2, hm, h1⟩ := h
  simp at hm
  exact ⟨b1, e1, b2, e2, by simp [hm.1, hm.2.1], h1⟩
theorem flat_roll (L : Lt) (m : Nat) : flat (L ++ [(m, [])]) = flat L ∧ ofs (L ++ [(m, [])]) = ofs L := by
  refine ⟨by rw [flat_append, flat_one]; simp, by rw [ofs_append, ofs_one]; simp⟩
theorem wfuse_any {own : Nat → Prop} {w : World} {l d : Nat} {C : Ds} {L : Lt} (h : WalAt own w l d C L) (N : Int) (hN : -9223372036854775808 ≤ N ∧ N ≤ 9223372036854775807) :
    Calls Tryz.prog 27 #[.pointer (some ⟨d, 0, none⟩), .int .i64 N] w fun e w' => e = .returned (.int .i64 0) ∧ WalAt own w' l d ⟨C.files, N, C.off⟩ L ∧ Keeps own w w' := by
  obtain ⟨own2, hd, ho, hre⟩ := h.disk
  refine (fuse_any hd N hN).mono ?_
  rintro e w' ⟨rfl, hd', hk⟩
  exact ⟨rfl, hre w' _ hd' hk, hk.mono ho⟩
theorem EqD.fuse {C S : Ds} (h : EqD C S) (N : Int) : EqD ⟨C.files, N, C.off⟩ ⟨S.files, max N (-1), S.off⟩ := by
  refine ⟨h.1, h.2.1, ?_⟩
  show N = max N (-1) ∨ (N < 0 ∧ max N (-1) < 0)
  by_cases hn : -1 ≤ N
  · exact .inl (by omega)
  · exact .inr (by omega)
end Go.Proofs.YtkfmjkcomjmedaaGreat
