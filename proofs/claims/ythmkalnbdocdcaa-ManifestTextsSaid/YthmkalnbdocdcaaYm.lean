/-
  Layer 12 (manifest): the contract of Take, of the code. Conditions: at most 2^24 bytes.
-/
import Derived.Test.YthmkalnbdocdcaaYl
import Derived.Deep.DeepCutAuto
namespace Go.Proofs.Ythmkalnbdocdcaa
set_option maxRecDepth 100000
open Go.RowKit
set_option linter.unusedVariables false
set_option linter.unusedSimpArgs false

/-- What Take leaves of bytes. -/
def tkD (s : ByteArray) : Ed := (takE s.data.toList).getD ([], [], 0, 0)
def tkN (s : ByteArray) : Int := if (takE s.data.toList).isSome = true then 0 else 120
def TKE (s : ByteArray) (w : World) (e : Ending) (w' : World) : Prop := ∃ V, e = .returned (.tuple #[V, .int .i64 (tkN s)]) ∧ EV w' V (tkD s) ∧ Below w.heap.size w w'
theorem EV.zero (w : World) : EV w (.agg #[.slice none 0 0, .slice none 0 0, .int .i64 0, .int .i64 0]) ([], [], 0, 0) :=
  ⟨none, 0, 0, none, 0, 0, rfl, ⟨rfl, .inl rfl, Nat.le_refl _, Nat.zero_le _⟩, ⟨rfl, .inl rfl, Nat.le_refl _, Nat.zero_le _⟩, fun t ht => by simp at ht⟩
theorem tk_no {s : ByteArray} (h : takE s.data.toList = none) : tkD s = ([], [], 0, 0) ∧ tkN s = 120 := by
  unfold tkD tkN; rw [h]; exact ⟨rfl, rfl⟩
theorem tk_yes {s : ByteArray} {d : Ed} (h : takE s.data.toList = some d) : tkD s = d ∧ tkN s = 0 := by
  unfold tkD tkN; rw [h]; exact ⟨rfl, rfl⟩
/-- What is written into a block that was not there changes nothing that was. -/
theorem below_new {w w' : World} {x : Nat} (h : Below w.heap.size w w') (hx : w.heap.size ≤ x) (i : Nat) (v : Value) : Below w.heap.size w (w'.setCell ⟨x, i, none⟩ v) := h.setCell (p := ⟨x, i, none⟩) hx v
set_option maxHeartbeats 8000000 in
theorem take12_any (s : ByteArray) (hs : s.size ≤ 16777216) (w : World) : Calls Try.prog 13 #[.string s] w (TKE s w) := by
  obtain ⟨w1, hw1⟩ : ∃ w1, w1 = w.alloc (.cells #[.slice none 0 0, .slice none 0 0, .int .i64 0, .int .i64 0] 25) := ⟨_, rfl⟩
  have CR := Lib.hid (read_w s hs w1)
  have g0 := EdW.new w 25 (.slice none 0 0) (.slice none 0 0) 0 0
  have b0 := box_bel w (.cells #[.slice none 0 0, .slice none 0 0, .int .i64 0, .int .i64 0] 25)
  rw [← hw1] at g0 b0
  have z1 : w.heap.size < w1.heap.size := by rw [hw1]; simp
  obtain ⟨x0, hx0⟩ : ∃ x0, x0 = w.heap.size := ⟨_, rfl⟩
  have HB0 := Lib.hid b0
  have HG0 := Lib.hid g0
  clear g0 b0
  go_enter Try.func13, Try.ntmps13
  go_wp2_with fail
  rw [← hw1, ← hx0]
  rw [← hx0] at HG0 z1
  have HX := Lib.hid hx0
  clear hw1 hx0
  refine CR.out.mono ?_
  rintro e w2 ⟨V, r, d, rfl, hev, h1, h2, b2⟩
  have HG2 := Lib.hid (HG0.out.keep (X := fun _ => False) (KeepX.of b2) id)
  have HB2 := Lib.hid (HB0.out.trans (b2.mono HB0.out.size))
  have HD := Lib.hid (And.intro h1 h2)
  have HEF := Lib.hid hev
  replace hev := hev w2 (KeepX.refl _ _)
  have HZ1 := Lib.hid z1
  have z2 : x0 < w2.heap.size := Nat.lt_of_lt_of_le z1 b2.size
  have CK := Lib.hid fun (wx : World) (hx : Below w2.heap.size w2 wx) => chk12_any V d wx (hev.old hx)
  obtain ⟨aa, an, ac, da, dn, dc, rfl, hst, hsz, hok⟩ := id hev
  obtain ⟨ts, zs, lg, nx⟩ := d
  simp only at *
  have HEV := Lib.hid hev
  have HX2 : Hid (w.heap.size ≤ x0) := Lib.hid (by rw [HX.out]; exact Nat.le_refl _)
  have hxn : ¬ x0 = w2.heap.size := by omega
  have hnx : ¬ w2.heap.size = x0 := by omega
  clear h1 h2 b2 hev hst hsz hok CR HG0 HB0 z1
  have HBA := Lib.hid (box_bel w2 (.cells #[.slice aa an ac, .slice da dn dc, .int .i64 lg, .int .i64 nx] 25))
  have bx := Lib.hid (EdBox.new w2 25 (.slice aa an ac) (.slice da dn dc) lg nx)
  have HFIN : Hid (∀ (wf : World) (u0 u1 u2 u3 : Value), Below w2.heap.size w2 wf → EV ((((wf.setCell ⟨x0, 0, none⟩ u0).setCell ⟨x0, 1, none⟩ u1).setCell ⟨x0, 2, none⟩ u2).setCell ⟨x0, 3, none⟩ u3) (.agg #[.slice aa an ac, .slice da dn dc, .int .i64 lg, .int .i64 nx]) (ts, zs, lg, nx) ∧ Below w.heap.size w ((((wf.setCell ⟨x0, 0, none⟩ u0).setCell ⟨x0, 1, none⟩ u1).setCell ⟨x0, 2, none⟩ u2).setCell ⟨x0, 3, none⟩ u3)) := Lib.hid (fun wf u0 u1 u2 u3 hb =>
    ⟨HEF.out _ (((((KeepX.of (X := fun y => y < w1.heap.size) hb).set (p := ⟨x0, 0, none⟩) HZ1.out u0).set (p := ⟨x0, 1, none⟩) HZ1.out u1).set (p := ⟨x0, 2, none⟩) HZ1.out u2).set (p := ⟨x0, 3, none⟩) HZ1.out u3),
     below_new (below_new (below_new (below_new (HB2.out.trans (hb.mono HB2.out.size)) HX2.out 0 u0) HX2.out 1 u1) HX2.out 2 u2) HX2.out 3 u3⟩)
  have HGF : Hid (∀ wf, Below w2.heap.size w2 wf → EdW wf x0 (.slice none 0 0) (.slice none 0 0) 0 0) := Lib.hid fun wf hb => HG2.out.keep (X := fun _ => False) (KeepX.of hb) id
  clear HEF HG2 HB2
  cases r with
  | false =>
    have hno : takE s.data.toList = none := by unfold takE; rw [HD.out.2 rfl]; rfl
    have HNO := Lib.hid (tk_no hno)
    clear hno
    go_upto_if 17 with fail
    have hgo := HGF.out _ HBA.out
    generalize w2.alloc (.cells #[.slice aa an ac, .slice da dn dc, .int .i64 lg, .int .i64 nx] 25) = wq at *
    obtain ⟨⟨y0, y1, y2, y3, y4⟩, f0, f1, f2, f3⟩ := hgo
    go_wp2
    have hf := HFIN.out _ (.slice none 0 0) (.slice none 0 0) (.int .i64 0) (.int .i64 0) HBA.out
    refine bodyPost_ret (v := .tuple #[.agg #[.slice none 0 0, .slice none 0 0, .int .i64 0, .int .i64 0], .int .i64 120]) (by simp [results, Try.results13, go_sem, y0, y1, y2, y3, y4]) rfl ?_
    exact ⟨.agg #[.slice none 0 0, .slice none 0 0, .int .i64 0, .int .i64 0], by rw [HNO.out.2], by rw [HNO.out.1]; exact EV.zero _, hf.2⟩
  | true =>
    have hre := HD.out.1 rfl
    obtain ⟨m, hm⟩ : ∃ m, mayEd (ts, zs, lg, nx) = m := ⟨_, rfl⟩
    have hed : edN (ts, zs, lg, nx) = if m = true then 0 else 1 := by unfold edN; rw [hm]
    rw [hed] at CK
    have HTK : Hid (takE s.data.toList = if m = true then some (ts, zs, lg, nx) else none) := Lib.hid (by unfold takE; rw [hre, Option.bind_some, hm])
    clear hre hm hed
    obtain ⟨y0, y1, y2, y3, y4⟩ := bx.out
    go_wp2_with fail
    refine (CK.out _ HBA.out).mono ?_
    rintro e w3 ⟨rfl, b3⟩
    have HB3 := Lib.hid (HBA.out.trans (b3.mono HBA.out.size))
    have bx3 := Lib.hid (bx.out.below b3)
    clear y0 y1 y2 y3 y4 b3 CK
    cases m with
    | false =>
      have HNO := Lib.hid (tk_no (HTK.out.trans (by simp)))
      rw [if_neg (by decide)]
      obtain ⟨⟨y0, y1, y2, y3, y4⟩, f0, f1, f2, f3⟩ := HGF.out _ HB3.out
      go_wp2
      have hf := HFIN.out _ (.slice none 0 0) (.slice none 0 0) (.int .i64 0) (.int .i64 0) HB3.out
      refine bodyPost_ret (v := .tuple #[.agg #[.slice none 0 0, .slice none 0 0, .int .i64 0, .int .i64 0], .int .i64 120]) (by simp [results, Try.results13, go_sem, y0, y1, y2, y3, y4]) rfl ?_
      exact ⟨.agg #[.slice none 0 0, .slice none 0 0, .int .i64 0, .int .i64 0], by rw [HNO.out.2], by rw [HNO.out.1]; exact EV.zero _, hf.2⟩
    | true =>
      have HNO := Lib.hid (tk_yes (d := (ts, zs, lg, nx)) (HTK.out.trans (by simp)))
      rw [if_pos rfl]
      obtain ⟨⟨y0, y1, y2, y3, y4⟩, f0, f1, f2, f3⟩ := HGF.out _ HB3.out
      obtain ⟨v0, v1, v2, v3, v4⟩ := bx3.out
      go_wp2
      have hf := HFIN.out _ (.slice aa an ac) (.slice da dn dc) (.int .i64 lg) (.int .i64 nx) HB3.out
      refine bodyPost_ret (v := .tuple #[.agg #[.slice aa an ac, .slice da dn dc, .int .i64 lg, .int .i64 nx], .int .i64 0]) (by simp [results, Try.results13, go_sem, y0, y1, y2, y3, y4]) rfl ?_
      exact ⟨.agg #[.slice aa an ac, .slice da dn dc, .int .i64 lg, .int .i64 nx], by rw [HNO.out.2], by rw [HNO.out.1]; exact hf.1, hf.2⟩
end Go.Proofs.Ythmkalnbdocdcaa
