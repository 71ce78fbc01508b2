/-
  Layer 6 (wal), the law WalPlays: the contract of does, an Add. Conditions: a log as the law has it.
-/
import Derived.Test.YtkfmjkcomjmedaaGreatQD
import Derived.Deep.CutBlock
namespace Go.Proofs.YtkfmjkcomjmedaaGreat
open Go.RowKit
set_option linter.unusedVariables false
set_option linter.unusedSimpArgs false

set_option maxRecDepth 100000 in
set_option maxHeartbeats 16000000 in
theorem does_add {bb nb : Nat} {own : Nat → Prop} {w : World} {G d l : Nat} {S : Ds} {L0 : Lt} {n : Nat} {ts : List (List UInt8)} {m : Value} (h : SideL own w G d l S (L0 ++ [(n, ts)]) n m) (hk : OkS bb nb S) (hbb : bb ≤ 4194304) (hn : n ≤ 99999999) (hts : ts.length ≤ 1000000) (hfl : (flat (L0 ++ [(n, ts)])).length ≤ 100000000) (N : Int) (s : List UInt8) (hs : s.length ≤ 131072) (ka : Option Addr) (kn kc : Nat) :
    Calls Tryz.prog 8 #[.pointer (some ⟨G, 0, none⟩), .agg #[.int .i64 1, .int .i64 N, .string ⟨s.toArray⟩, .slice ka kn kc]] w (DoE own w G d l (S.add n s).1 (S.add n s).2 (if (S.add n s).2 = 0 then L0 ++ [(n, ts ++ [s])] else L0 ++ [(n, ts)]) n) := by
  have HK := Lib.hid hk
  obtain ⟨sd, ⟨C, hCS, wl⟩, rl⟩ := h
  have HCS := Lib.hid hCS
  have HRL := Lib.hid rl
  obtain ⟨a, c, a1, n1, c1, a2, n2, c2, x, hg, hq, rfl⟩ := sd.gx
  have HG0 := Lib.hid hg
  have HQ0 := Lib.hid hq
  have HWL := Lib.hid wl
  have HOG := Lib.hid sd.oG
  have HTF := Lib.hid sd.tf
  have HWO := Lib.hid (fun b (hb : own b) => wl.toDisk.own hb)
  have hGw := wl.toDisk.own sd.oG
  have hsz : (⟨s.toArray⟩ : ByteArray).size = s.length := size_mkl s
  have HCO := Lib.hid (fun (own : Nat → Prop) (W : World) (h : WalAt own W l d C (L0 ++ [(n, ts)])) => add_any h ⟨s.toArray⟩ (by rw [hsz]; omega) (by omega))
  simp only at HCO
  obtain ⟨hE, hCT⟩ := HCS.out.append (lname n) (frL s)
  obtain ⟨T, hT⟩ : ∃ T, (S.append (lname n) (frL s)).1 = T := ⟨_, rfl⟩
  obtain ⟨F, hF⟩ : ∃ F, (S.append (lname n) (frL s)).2 = F := ⟨_, rfl⟩
  obtain ⟨LL, hLL⟩ : ∃ LL, (if F = 0 then L0 ++ [(n, ts ++ [s])] else L0 ++ [(n, ts)]) = LL := ⟨_, rfl⟩
  obtain ⟨tx, htx⟩ : ∃ tx, (if F = 0 then flat (L0 ++ [(n, ts)]) ++ [s] else flat (L0 ++ [(n, ts)])) = tx := ⟨_, rfl⟩
  obtain ⟨ox, hox⟩ : ∃ ox, (if F = 0 then ofs (L0 ++ [(n, ts)]) ++ [n] else ofs (L0 ++ [(n, ts)])) = ox := ⟨_, rfl⟩
  obtain ⟨C', hC'⟩ : ∃ C', (C.add n s).1 = C' := ⟨_, rfl⟩
  have HTX : Hid (tx = flat LL) := Lib.hid (by rw [← htx, ← hLL]; split <;> simp [flat_append, flat_one])
  have HOX : Hid (ox = ofs LL) := Lib.hid (by rw [← hox, ← hLL]; split <;> simp [ofs_append, ofs_one, List.replicate_succ'])
  show Calls _ _ _ _ (DoE own w G d l (S.append (lname n) (frL s)).1 (S.append (lname n) (frL s)).2 (if (S.append (lname n) (frL s)).2 = 0 then L0 ++ [(n, ts ++ [s])] else L0 ++ [(n, ts)]) n)
  rw [hT, hF, hLL]
  rw [show (C.add n s).2 = F from hE.trans hF, hLL, hC'] at HCO
  rw [show (C.append (lname n) (frL s)).1 = C' from hC', hT] at hCT
  have HCT := Lib.hid hCT
  have HFE := Lib.hid hF
  have HTE := Lib.hid hT
  have HTX0 := Lib.hid htx
  have HOX0 := Lib.hid hox
  clear hT hF htx hox hLL hE hCT hC'

  clear sd hg hq wl rl hk hCS
  go_enter Tryz.func8, Tryz.ntmps8
  go_upto_block 0 with fail
  generalize hW : World.alloc w _ = W
  have b0 : Below w.heap.size w W := by rw [← hW]; exact (Below.refl _ _).alloc (Nat.le_refl _) _
  have hsW : w.heap.size < W.heap.size := by rw [← hW]; simp
  have o0 : W.cell? ⟨w.heap.size, 0, none⟩ = some (.int .i64 1) := by rw [← hW]; simp
  have o2 : W.cell? ⟨w.heap.size, 2, none⟩ = some (.string ⟨s.toArray⟩) := by rw [← hW]; simp
  clear hW
  go_cut [6, 7] (fun s6 s7 wx => s6 = .int .i64 F ∧ s7 = .int .i64 F ∧ ∃ own' m', (∀ b, own b → own' b) ∧ Keeps (fun b => own b ∧ b ≠ G) w wx ∧ SideL own' wx G d l T LL n m')
  case first =>
   have HG1 := Lib.hid (HG0.out.old b0)
   have HQ1 := Lib.hid (HQ0.out.old b0)
   have HW1 := Lib.hid (HWL.out.fresh b0)
   have HR1 := Lib.hid (HRL.out.old b0)
   have TF1 := Lib.hid (tf_below HTF.out b0)
   have HK1 := Lib.hid (Keeps.of_below (own := fun b => own b ∧ b ≠ G) b0 (fun b hb => HWO.out b hb.1))
   have hoB : (fun b => own b ∨ (w.heap.size ≤ b ∧ b < W.heap.size)) w.heap.size := .inr ⟨Nat.le_refl _, hsW⟩
   have HOB := Lib.hid hoB
   clear b0 hoB
   obtain ⟨g0, g1, g2, g3, g4, g5, g6, g7, gf, -⟩ := HG1.out
   go_wp2_with fail
   have SS := And.intro g1 o2
   clear g0 g1 g2 g3 g4 g5 g6 g7 gf
   go_region_held3 (fun w' => w'.cell? ⟨G, 1, none⟩ = some (.pointer (some ⟨l, 0, none⟩)) ∧ w'.cell? ⟨w.heap.size, 2, none⟩ = some (.string ⟨s.toArray⟩))
     (first
       | assumption
       | exact ⟨(k5.cell G 1 (.inl HOG.out)).trans SS.1, (k5.cell w.heap.size 2 HOB.out).trans SS.2⟩
       | exact keep_two (base := W.heap.size) SS (by omega) (by omega) ((Below.refl _ _).drew))
     (first
       | (go_at_call 17; (with_reducible refine (HCO.out _ _ HW1.out).mono ?_); rintro e w5 ⟨rfl, hw5, k5⟩)
       | (go_at_call 17; (with_reducible refine (HCO.out _ _ HW1.out.drew).mono ?_); rintro e w5 ⟨rfl, hw5, k5'⟩; have k5 := (Keeps.refl _ W).drew.trans k5'; clear k5'))
   have HG5 := Lib.hid (HG1.out.keeps k5 (.inl HOG.out))
   have HQ5 := Lib.hid (HQ1.out.keeps k5 TF1.out)
   have HR5 := Lib.hid (HR1.out.keeps k5 (fun b hb => .inl hb.1))
   have HK5 := Lib.hid (HK1.out.trans (k5.mono fun b (hb : own b ∧ b ≠ G) => .inl hb.1))
   have ho2 := (k5.cell w.heap.size 2 HOB.out).trans SS.2
   have hs5 := k5.size
   have hW5s : w.heap.size ≤ w5.heap.size := by omega
   have hG5 : G < w5.heap.size := by omega
   have HWL5 := Lib.hid hw5.typed
   clear SS k5 hw5
   have HAR := Lib.hid (fun (W' : World) (hb : Below w5.heap.size w5 W') => add_ref (P := fun b => (own b ∧ b ≠ G) ∨ w5.heap.size ≤ b) (HQ5.out.old hb) ((HR5.out.mono (P' := fun b => (own b ∧ b ≠ G) ∨ w5.heap.size ≤ b) (fun b _ h => .inl h)).old hb) (fun b h => .inr (Nat.le_trans hb.size h)) HK.out hbb hn hfl (by rw [ofs_len]; exact hfl) s hs)
   unfold AddE at HAR
   rw [HTE.out, HFE.out, HTX0.out, HOX0.out] at HAR
   obtain ⟨g0, g1, g2, g3, g4, g5, g6, g7, gf, -⟩ := HG5.out
   clear gf
   go_wp2_with fail
   go_region_with (go_at_call 20; (with_reducible refine (HAR.out _ ((Below.refl _ _).drew)).mono ?_); rintro e w7 ⟨q7, v7, rfl, hq7, hv7, b7'⟩; have b7 := ((Below.refl _ _).drew).trans b7'; have HB7 := Lib.hid b7; have HQ7 := Lib.hid hq7; have HV7 := Lib.hid hv7; have HG7 := Lib.hid (HG5.out.old b7); have hg7 := HG7.out; obtain ⟨a7, c7, rfl, -, -, -⟩ := hq7; obtain ⟨x1, y1, x2, y2, rfl, -, -, -, -⟩ := hv7; have hf := hg7.fz; have f2 := hf 2 (by omega); have f3 := hf 3 (by omega); have f4 := hf 4 (by omega); have f5 := hf 5 (by omega); have f6 := hf 6 (by omega); have f7 := hf 7 (by omega); obtain ⟨y10, y11, y12, y13, y14, y15, y16, y17, -, -⟩ := hg7; clear hf b7 b7')
   all_goals
      go_wp2_with fail
      go_meet
      have HWL7 := HWL5.out.fresh HB7.out
      have TF7 : ∀ b, TF w7 b → (((own b ∨ (w.heap.size ≤ b ∧ b < W.heap.size)) ∨ TF w5 b) ∨ (w5.heap.size ≤ b ∧ b < w7.heap.size)) := tf_below (own := fun b => (own b ∨ (w.heap.size ≤ b ∧ b < W.heap.size)) ∨ TF w5 b) (fun b hb => .inr hb) HB7.out
      have K7 := HK5.out.trans (Keeps.of_below (own := fun b => own b ∧ b ≠ G) HB7.out (fun b hb => Nat.lt_of_lt_of_le (HWO.out b hb.1) hW5s))
      have hP7 : ∀ b, ((own b ∧ b ≠ G) ∨ w5.heap.size ≤ b) → b ≠ G := fun b hb => hb.elim (fun h => h.2) (fun h => by omega)
      have hP8 : ∀ b, b < w7.heap.size → ((own b ∧ b ≠ G) ∨ w5.heap.size ≤ b) → ((own b ∨ (w.heap.size ≤ b ∧ b < W.heap.size)) ∨ TF w5 b) ∨ (w5.heap.size ≤ b ∧ b < w7.heap.size) := fun b hb h => h.elim (fun h => .inl (.inl (.inl h.1))) (fun h => .inr ⟨h, hb⟩)
      have hv8 := HV7.out
      rw [HTX.out, HOX.out] at hv8
      first
        | exact ⟨rfl, rfl, fun b => ((own b ∨ (w.heap.size ≤ b ∧ b < W.heap.size)) ∨ TF w5 b) ∨ (w5.heap.size ≤ b ∧ b < w7.heap.size), _, does_fin1 HG7.out HQ7.out (.inl (.inl (.inl HOG.out))) TF7 HCT.out HWL7 K7 (fun b hb => .inl (.inl (.inl hb))) hv8 hP7 hP8 _ (by unfold putm putq; rw [HTX.out, HOX.out])⟩
        | exact ⟨rfl, rfl, fun b => ((own b ∨ (w.heap.size ≤ b ∧ b < W.heap.size)) ∨ TF w5 b) ∨ (w5.heap.size ≤ b ∧ b < w7.heap.size), _, does_fin2 HG7.out HQ7.out (.inl (.inl (.inl HOG.out))) TF7 HCT.out HWL7 K7 (fun b hb => .inl (.inl (.inl hb))) hv8 hP7 hP8 _ (by unfold putm putq; rw [HTX.out, HOX.out])⟩
  case rest =>
    obtain ⟨rfl, rfl, own', m', h1, h2, h3⟩ := hcut
    have HEND := Lib.hid (And.intro h1 (And.intro h2 h3))
    clear h1 h2 h3
    go_wp2_with fail
    all_goals go_ret2
    all_goals refine ⟨own', m', ?_, HEND.out.1, HEND.out.2.1, HEND.out.2.2⟩
    all_goals simp [refB, go_sem, *, Bool.or_assoc]
end Go.Proofs.YtkfmjkcomjmedaaGreat
