/-
  Layer 16 (post): Same of a message and of what is taken of its text, over cells as lists. Conditions: as each says.
-/
import Derived.Test.YtdnhmkfgcpdbkaaUg
namespace Go.Proofs.Ytdnhmkfgcpdbkaa
open Go.RowKit
set_option linter.unusedVariables false
set_option linter.unusedSimpArgs false

theorem nf_id {L : List (List Fld)} (h : ∀ x ∈ L, x.map nF = x) : L.map (·.map nF) = L := by
  induction L with
  | nil => rfl
  | cons x r ih => rw [List.map_cons, h x (by simp), ih (fun y hy => h y (by simp [hy]))]
theorem nWrite {x : List Fld} (h : isWrite x) : x.map nF = x := by obtain ⟨_, _, _, rfl⟩ := h; rfl
theorem nPair {x : List Fld} (h : isPair x) : x.map nF = x := by obtain ⟨_, _, rfl⟩ := h; rfl
theorem nShard {x : List Fld} (h : isShard x) : x.map nF = x := by obtain ⟨_, _, _, _, _, _, rfl⟩ := h; rfl
theorem nEntry {x : List Fld} (h : isEntry x) : x.map nF = x := by obtain ⟨_, _, _, _, rfl⟩ := h; rfl
theorem okM_len {m : Mg} (h : okM m = true) : m.OW.length ≤ 64 ∧ m.RP.length ≤ 512 ∧ m.MP.length ≤ 64 ∧ m.EN.length ≤ 512 ∧ m.SE.length ≤ 8 := by
  unfold okM okSg okLs at h
  simp only [Bool.and_eq_true, decide_eq_true_eq] at h
  obtain ⟨_, ⟨_, ⟨h1, _⟩, _⟩, ⟨_, ⟨h2, _⟩, _⟩, ⟨h3, _⟩, ⟨h4, _⟩, h5, _⟩ := h
  exact ⟨h1, h2, h3, h4, h5⟩
theorem same16 (VL UL : List Value) (m : Mg) (w : World) (h : MV (LRv w) VL m) (k : MV (LRv w) UL (nM m)) (hb : bareL m.SE = true) (hok : okM m = true) :
    Calls Try.prog 15 #[.agg VL.toArray, .agg UL.toArray] w fun e w' => e = .returned (.bool true) ∧ Below w.heap.size w w' := by
  have hl := okM_len hok
  clear hok
  obtain ⟨kd, a1, a2, a3, a4, a5, a6, wh, ok, oy, ov, od, og, OW, ol, oh, om, er, rv, rg, RP, ru, MP, EN, SE, v1, v2, v3, v4, v5, e1, e2, r1, r2, r3, r4, r5, s1, s2, s3, s4, s5⟩ := h
  obtain ⟨zkd, za1, za2, za3, za4, za5, za6, zwh, zok, zoy, zov, zod, zog, zOW, zol, zoh, zom, zer, zrv, zrg, zRP, zru, zMP, zEN, zSE, u1, u2, u3, u4, u5, e1', e2', r1', r2', r3', r4', r5', t1, t2, t3, t4, t5⟩ := k
  subst e1 e2 e2'
  have hA := congrArg Mg.A e1'
  have hOA := congrArg Mg.OA e1'
  have hOW := congrArg Mg.OW e1'
  have hOC := congrArg Mg.OC e1'
  have hRA := congrArg Mg.RA e1'
  have hRP := congrArg Mg.RP e1'
  have hRC := congrArg Mg.RC e1'
  have hMP := congrArg Mg.MP e1'
  have hEN := congrArg Mg.EN e1'
  have hSE := congrArg Mg.SE e1'
  clear e1'
  simp only [nM, List.map_cons, List.map_nil, nF, List.cons.injEq, Fld.n.injEq, Fld.f.injEq, Fld.t.injEq, true_and, and_true] at hA hOA hOC hRA hRC
  simp only [nM] at hOW hRP hMP hEN hSE
  rw [nf_id (fun x hx => nWrite (s1 x hx))] at hOW
  rw [nf_id (fun x hx => nPair (s2 x hx))] at hRP
  rw [nf_id (fun x hx => nShard (s3 x hx))] at hMP
  rw [nf_id (fun x hx => nEntry (s4 x hx))] at hEN
  obtain ⟨rfl, rfl, rfl, rfl, rfl, rfl, rfl, rfl⟩ := hA
  obtain ⟨rfl, rfl, rfl, rfl, rfl⟩ := hOA
  obtain ⟨rfl, rfl, rfl⟩ := hOC
  obtain ⟨rfl, rfl, rfl⟩ := hRA
  obtain rfl := hRC
  subst hOW hRP hMP hEN hSE
  simp only at hl hb
  obtain ⟨l1, l2, l3, l4, l5⟩ := hl
  obtain ⟨xa1, xn1, xc1, rfl, p1⟩ := r1
  obtain ⟨xa2, xn2, xc2, rfl, p2⟩ := r2
  obtain ⟨xa3, xn3, xc3, rfl, p3⟩ := r3
  obtain ⟨xa4, xn4, xc4, rfl, p4⟩ := r4
  obtain ⟨xa5, xn5, xc5, rfl, p5⟩ := r5
  obtain ⟨ya1, yn1, yc1, rfl, q1⟩ := r1'
  obtain ⟨ya2, yn2, yc2, rfl, q2⟩ := r2'
  obtain ⟨ya3, yn3, yc3, rfl, q3⟩ := r3'
  obtain ⟨ya4, yn4, yc4, rfl, q4⟩ := r4'
  obtain ⟨ya5, yn5, yc5, rfl, q5⟩ := r5'
  have hm : (512 : Nat) ≤ maxLen := by decide
  exact same16_any w kd a1 a2 a3 a4 a5 a6 wh ok oy ov od og OW ol oh om er rv rg RP ru MP EN SE xa1 xn1 xc1 xa2 xn2 xc2 xa3 xn3 xc3 xa4 xn4 xc4 xa5 xn5 xc5 ya1 yn1 yc1 ya2 yn2 yc2 ya3 yn3 yc3 ya4 yn4 yc4 ya5 yn5 yc5 ⟨_, _, _, rfl, p1⟩ ⟨_, _, _, rfl, q1⟩ s1 (by omega) ⟨_, _, _, rfl, p2⟩ ⟨_, _, _, rfl, q2⟩ s2 (by omega) ⟨_, _, _, rfl, p3⟩ ⟨_, _, _, rfl, q3⟩ s3 (by omega) ⟨_, _, _, rfl, p4⟩ ⟨_, _, _, rfl, q4⟩ s4 (by omega) ⟨_, _, _, rfl, p5⟩ ⟨_, _, _, rfl, q5⟩ (by omega) s5 hb
end Go.Proofs.Ytdnhmkfgcpdbkaa
