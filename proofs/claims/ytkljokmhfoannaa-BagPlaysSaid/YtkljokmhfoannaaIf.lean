/-
  Layer 15 (bag): contracts of find, Put, Twice. Conditions: none.
-/
import Derived.Test.YtkljokmhfoannaaIe
import Derived.Deep.MidRow
namespace Go.Proofs.Ytkljokmhfoannaa
open Go.RowKit Go.Maps
set_option linter.unusedVariables false
set_option linter.unusedSimpArgs false

theorem size3 : (Try.prog.info? 39).map (·.size) = some 3 := by kernel_rfl
theorem find_res (tmps : Array Value) (w : World) (x : Nat) (l : Lt) (er : Int) (h : w.rangeAt x 0 (lcell l)) (h2 : tmps.getD 6 undef = .pointer (some ⟨x, 0, none⟩)) (h3 : tmps.getD 7 undef = .int .i64 er) :
    (results Try.f39 tmps).run Try.prog w = .ok (.tuple #[lv l, .int .i64 er]) w := by
  have hl := run_loadVar_mid (P := Try.prog) w x 0 39 _ _ h Try.underlying39 rfl size3
  rw [Array.getD_eq_getD_getElem?] at h2 h3
  simp [results, Try.results39, asAddr, hl, h2, h3, lcell, lv]
theorem take_res (tmps : Array Value) (w : World) (x : Nat) (l : Lt) (er : Int) (h : w.rangeAt x 0 (lcell l)) (h2 : tmps.getD 6 undef = .pointer (some ⟨x, 0, none⟩)) (h3 : tmps.getD 7 undef = .int .i64 er) :
    (results Try.f16 tmps).run Try.prog w = .ok (.tuple #[lv l, .int .i64 er]) w := by
  have hl := run_loadVar_mid (P := Try.prog) w x 0 39 _ _ h Try.underlying39 rfl size3
  rw [Array.getD_eq_getD_getElem?] at h2 h3
  simp [results, Try.results16, asAddr, hl, h2, h3, lcell, lv]
theorem LBox.rng {w : World} {x : Nat} {l : Lt} (h : LBox w x l) : w.rangeAt x 0 (lcell l) := fun j v hv => by
  match j, hv with
  | 0, hv => simp [lcell] at hv; subst hv; simpa using h.c0
  | 1, hv => simp [lcell] at hv; subst hv; simpa using h.c1
  | 2, hv => simp [lcell] at hv; subst hv; simpa using h.c2
/-- Three cells are written. -/
theorem LBox.store {w : World} {x : Nat} {l : Lt} (h : LBox w x l) (m : Lt) : LBox (((w.setCell ⟨x, 0, none⟩ (.int .i64 m.fr)).setCell ⟨x, 1, none⟩ (.int .i64 m.to)).setCell ⟨x, 2, none⟩ (.string m.tx)) x m := by
  obtain ⟨h0, h1, h2, hl, f0, f1, f2⟩ := h
  have o : ∀ {W : World} {i j : Nat} (u : Value), j ≠ i → (W.setCell ⟨x, i, none⟩ u).cell? ⟨x, j, none⟩ = W.cell? ⟨x, j, none⟩ := fun u hij => World.cell?_setCell_other _ _ _ _ (by simp [Ne.symm hij])
  refine ⟨?_, ?_, ?_, by simpa using hl, ?_, ?_, ?_⟩
  · rw [o _ (by decide), o _ (by decide)]; exact World.cell?_setCell_same _ _ _ h0
  · rw [o _ (by decide)]; exact World.cell?_setCell_same _ _ _ ((o _ (by decide)).trans h1)
  · exact World.cell?_setCell_same _ _ _ ((o _ (by decide)).trans ((o _ (by decide)).trans h2))
  · rw [World.frozen?_setCell, World.frozen?_setCell, World.frozen?_setCell]; exact f0
  · rw [World.frozen?_setCell, World.frozen?_setCell, World.frozen?_setCell]; exact f1
  · rw [World.frozen?_setCell, World.frozen?_setCell, World.frozen?_setCell]; exact f2
theorem set3_below {B : Nat} {w w' : World} (h : Below B w w') {x : Nat} (hx : B ≤ x) (u v z : Value) : Below B w (((w'.setCell ⟨x, 0, none⟩ u).setCell ⟨x, 1, none⟩ v).setCell ⟨x, 2, none⟩ z) :=
  ((h.setCell (p := ⟨x, 0, none⟩) hx u).setCell (p := ⟨x, 1, none⟩) hx v).setCell (p := ⟨x, 2, none⟩) hx z
def FND (w : World) (L : Lt) (er : Int) (e : Ending) (w' : World) : Prop := e = .returned (.tuple #[lv L, .int .i64 er]) ∧ Below w.heap.size w w'
set_option maxRecDepth 100000 in
set_option maxHeartbeats 4000000 in
theorem find15_any {own : Nat → Prop} {w : World} {b n c : Nat} {q : Wq} (h : BagAt own w b n c q) (k j : Int) (hk : (Lit.int .i64 k).wf = true) :
    Calls Try.prog 39 #[.pointer (some ⟨b, 0, none⟩), .int .i64 k, .int .i64 j] w (FND w (fndL n c q k j) (fndE n c q k j)) := by
  have H0 := Lib.hid h
  obtain ⟨mb, S, D, hB⟩ := h
  have HBO := Lib.hid hB
  have HK := Lib.hid hk
  obtain ⟨L, hL⟩ : ∃ L, L = fndL n c q k j := ⟨_, rfl⟩
  obtain ⟨er, her⟩ : ∃ er, er = fndE n c q k j := ⟨_, rfl⟩
  rw [← hL, ← her]
  have HL := Lib.hid hL
  have HE := Lib.hid her
  have hlb := LBox.new w zL
  have hb1 := bal (Below.refl _ w) (.cells #[.int .i64 zL.fr, .int .i64 zL.to, .string zL.tx] 39)
  have hgt : w.heap.size < (w.alloc (.cells #[.int .i64 zL.fr, .int .i64 zL.to, .string zL.tx] 39)).heap.size := by simp
  obtain ⟨o1, ho1⟩ : ∃ o, o = Obj.cells #[.int .i64 zL.fr, .int .i64 zL.to, .string zL.tx] 39 := ⟨_, rfl⟩
  rw [← ho1] at hlb hb1 hgt
  have HO1 : Hid (o1 = Obj.cells #[.int .i64 0, .int .i64 0, .string ⟨#[]⟩] 39) := Lib.hid ho1
  clear hL her hk hB ho1
  go_enter Try.func39, Try.ntmps39
  go_upto_region 1 with fail
  rw [← HO1.out]
  obtain ⟨xb, hxb⟩ : ∃ xb, xb = w.heap.size := ⟨_, rfl⟩
  rw [← hxb] at hlb hgt ⊢
  have HXB := Lib.hid hxb
  obtain ⟨w1, hw1⟩ : ∃ w1, w1 = w.alloc o1 := ⟨_, rfl⟩
  rw [← hw1] at hlb hb1 hgt ⊢
  clear hw1 hxb
  have HB1 := Lib.hid hb1
  have hh := has_one H0.out hb1 k HK.out
  have hb2 := bal hb1 (.cells #[.int .i64 k] 3)
  have HB2 := Lib.hid hb2
  have hlb2 := hlb.below (bal (Below.refl _ w1) (.cells #[.int .i64 k] 3))
  have HBX := Lib.hid hlb2
  have hgt2 : xb < (w1.alloc (.cells #[.int .i64 k] 3)).heap.size := by simp; omega
  have HGT := Lib.hid (show w.heap.size ≤ xb by rw [HXB.out]; exact Nat.le_refl _)
  obtain ⟨W2, hW2⟩ : ∃ W2, W2 = w1.alloc (.cells #[.int .i64 k] 3) := ⟨_, rfl⟩
  have HH : Hid (Calls Try.prog 35 #[.pointer (some ⟨b, 0, none⟩), .slice (some ⟨w1.heap.size, 0, none⟩) 1 1] (w1.alloc (.cells #[.int .i64 k] 3)) fun e w' => e = .returned (.bool (place n c k)) ∧ w' = W2) := Lib.hid (hh.mono fun e w' hq => ⟨hq.1, by rw [hW2]; exact hq.2.symm⟩)
  rw [← hW2] at hb2 HB2 hlb2 HBX hgt2
  clear hh hW2
  clear hb1 hlb
  cases hp : place n c k with
  | false =>
    rw [hp] at HH
    have hE : fndE n c q k j = 1 := by unfold fndE; rw [hp]; rfl
    obtain rfl : er = 1 := HE.out.trans hE
    have hLz : L = zL := by rw [HL.out]; unfold fndL; rw [hE]; rfl
    have HLZ := Lib.hid hLz
    clear hLz hE hp hb2
    obtain ⟨x0, x1, x2, -, f0, f1, f2⟩ := hlb2
    go_wp2_with (go_at_call 35; refine HH.out.mono ?_; rintro e w' ⟨rfl, rfl⟩)
    rw [HLZ.out]
    refine bodyPost_ret (v := .tuple #[lv zL, .int .i64 1]) ?_ rfl ⟨rfl, set3_below HB2.out HGT.out _ _ _⟩
    exact find_res _ _ xb _ _ (HBX.out.store zL).rng rfl rfl
  | true =>
    rw [hp] at HH
    have HP := Lib.hid hp
    have hB2 := HBO.out.below hb2
    obtain ⟨a, cp, hv, hcp⟩ := own_len (HBO.out.row k hp)
    have hlook := hB2.look k HK.out hp
    rw [hv] at hlook
    obtain ⟨c0, c1, hlt⟩ := hB2.cells
    obtain ⟨x0, x1, x2, -, f0, f1, f2⟩ := hlb2
    obtain ⟨m, hm⟩ : ∃ m, m = (q k).length := ⟨_, rfl⟩
    have HM := Lib.hid hm
    rw [← hm] at hlook hcp
    have HV := Lib.hid hv
    clear hB2 hv hm hp hb2
    by_cases hr : 0 ≤ j ∧ j < (m : Int)
    · obtain ⟨hj0, hjm⟩ := hr
      have hz : fndE n c q k j = 0 := fndE_zero.2 ⟨HP.out, hj0, by rw [← HM.out]; exact hjm⟩
      obtain rfl : er = 0 := HE.out.trans hz
      obtain ⟨i, rfl⟩ : ∃ i : Nat, j = (i : Int) := ⟨j.toNat, by omega⟩
      have him : i < m := by omega
      obtain ⟨hi, hq0⟩ := fnd_get hz
      have hLi : L = (q k)[i]'(by rw [← HM.out]; exact him) := by
        rw [HL.out, hq0]
        simp only [Int.toNat_natCast]
      have HROW := HBO.out.below HB2.out
      have hrow := HROW.row k HP.out
      rw [HV.out] at hrow
      obtain ⟨g, cp', he⟩ : ∃ g cp', Value.slice a (q k).length cp = .slice (some ⟨g, 0, none⟩) (q k).length cp' := by
        rcases hrow.2 with ⟨h, h0⟩ | ⟨g, cp', _, h, _⟩
        · have := HM.out; omega
        · exact ⟨g, cp', h⟩
      injection he with ha _ hcc
      subst ha hcc
      have hgb := (own_row_at hrow (r := g) rfl).2
      obtain ⟨_, hgb⟩ := hgb
      have hgl := heap_lt15 hgb
      have hlc := lcs_get (q k) i (by rw [← HM.out]; exact him)
      have g0 := (hrow.cellAt (i * 3) (by rw [← HM.out]; omega)).trans hlc.1
      have g1 := (hrow.cellAt (i * 3 + 1) (by rw [← HM.out]; omega)).trans hlc.2.1
      have g2 := (hrow.cellAt (i * 3 + 2) (by rw [← HM.out]; omega)).trans hlc.2.2
      rw [← hLi] at g0 g1 g2
      clear hq0
      clear hlc hgb hrow HROW hLi hz HL HE hi
      have hni : ¬ (m : Int) ≤ (i : Int) := by omega
      go_wp2_with (go_at_call 35; refine HH.out.mono ?_; rintro e w' ⟨rfl, rfl⟩)
      refine bodyPost_ret (v := .tuple #[lv L, .int .i64 0]) ?_ rfl ⟨rfl, set3_below HB2.out HGT.out _ _ _⟩
      exact find_res _ _ xb _ _ (HBX.out.store L).rng rfl rfl
    · have h3 : fndE n c q k j = 3 := by
        unfold fndE
        rw [if_pos HP.out, if_neg (by rw [← HM.out]; exact hr)]
      obtain rfl : er = 3 := HE.out.trans h3
      have hLz : L = zL := by rw [HL.out]; unfold fndL; rw [h3]; rfl
      have HLZ := Lib.hid hLz
      clear hLz h3
      by_cases hj0 : j < 0
      · clear hr
        go_wp2_with (go_at_call 35; refine HH.out.mono ?_; rintro e w' ⟨rfl, rfl⟩)
        rw [HLZ.out]
        refine bodyPost_ret (v := .tuple #[lv zL, .int .i64 3]) ?_ rfl ⟨rfl, set3_below HB2.out HGT.out _ _ _⟩
        exact find_res _ _ xb _ _ (HBX.out.store zL).rng rfl rfl
      · have hjm : (m : Int) ≤ j := by omega
        clear hr
        go_wp2_with (go_at_call 35; refine HH.out.mono ?_; rintro e w' ⟨rfl, rfl⟩)
        rw [HLZ.out]
        refine bodyPost_ret (v := .tuple #[lv zL, .int .i64 3]) ?_ rfl ⟨rfl, set3_below HB2.out HGT.out _ _ _⟩
        exact find_res _ _ xb _ _ (HBX.out.store zL).rng rfl rfl
theorem find15_no {w : World} {p : Option Addr} (h : NoBag w p) (k j : Int) : Calls Try.prog 39 #[.pointer p, .int .i64 k, .int .i64 j] w (FND w zL 1) := by
  have hlb := LBox.new w zL
  have hb1 := bal (Below.refl _ w) (.cells #[.int .i64 zL.fr, .int .i64 zL.to, .string zL.tx] 39)
  have hgt : w.heap.size < (w.alloc (.cells #[.int .i64 zL.fr, .int .i64 zL.to, .string zL.tx] 39)).heap.size := by simp
  obtain ⟨o1, ho1⟩ : ∃ o, o = Obj.cells #[.int .i64 zL.fr, .int .i64 zL.to, .string zL.tx] 39 := ⟨_, rfl⟩
  rw [← ho1] at hlb hb1 hgt
  have HO1 : Hid (o1 = Obj.cells #[.int .i64 0, .int .i64 0, .string ⟨#[]⟩] 39) := Lib.hid ho1
  clear ho1
  go_enter Try.func39, Try.ntmps39
  go_upto_region 1 with fail
  rw [← HO1.out]
  obtain ⟨xb, hxb⟩ : ∃ xb, xb = w.heap.size := ⟨_, rfl⟩
  rw [← hxb] at hlb hgt ⊢
  have HGT : Hid (w.heap.size ≤ xb) := Lib.hid (by rw [hxb]; exact Nat.le_refl _)
  obtain ⟨w1, hw1⟩ : ∃ w1, w1 = w.alloc o1 := ⟨_, rfl⟩
  rw [← hw1] at hlb hb1 hgt ⊢
  clear hw1 hxb
  have hb2 := bal hb1 (.cells #[.int .i64 k] 3)
  have hlb2 := hlb.below (bal (Below.refl _ w1) (.cells #[.int .i64 k] 3))
  have hh := has15_no (h.below hb2) (.slice (some ⟨w1.heap.size, 0, none⟩) 1 1)
  obtain ⟨W2, hW2⟩ : ∃ W2, W2 = w1.alloc (.cells #[.int .i64 k] 3) := ⟨_, rfl⟩
  have HH : Hid (Calls Try.prog 35 #[.pointer p, .slice (some ⟨w1.heap.size, 0, none⟩) 1 1] (w1.alloc (.cells #[.int .i64 k] 3)) fun e w' => e = .returned (.bool false) ∧ w' = W2) := Lib.hid (hh.mono fun e w' hq => ⟨hq.1, by rw [hW2]; exact hq.2.symm⟩)
  rw [← hW2] at hb2 hlb2
  have HB2 := Lib.hid hb2
  have HBX := Lib.hid hlb2
  clear hh hW2 hb2 hb1 hlb h
  obtain ⟨x0, x1, x2, hxl, f0, f1, f2⟩ := hlb2
  go_wp2_with (go_at_call 35; refine HH.out.mono ?_; rintro e w' ⟨rfl, rfl⟩)
  refine bodyPost_ret (v := .tuple #[lv zL, .int .i64 1]) ?_ rfl ⟨rfl, set3_below HB2.out HGT.out _ _ _⟩
  exact find_res _ _ xb _ _ (HBX.out.store zL).rng rfl rfl
/-! ### Put -/
def PUR (own : Nat → Prop) (w : World) (b n c : Nat) (q : Wq) (l : Lt) (e : Ending) (w' : World) : Prop :=
  e = .returned (.int .i64 (putE n c q l)) ∧ BagAt own w' b n c (putQ n c q l) ∧ Kp own w w'
set_option maxRecDepth 100000 in
set_option maxHeartbeats 4000000 in
theorem put15_any {own : Nat → Prop} {w : World} {b n c : Nat} {q : Wq} (h : BagAt own w b n c q) (l : Lt) (hf : (Lit.int .i64 l.fr).wf = true) (ht : (Lit.int .i64 l.to).wf = true) (hs : l.tx.size ≤ 9223372036854775807) :
    Calls Try.prog 14 #[.pointer (some ⟨b, 0, none⟩), lv l] w (PUR own w b n c q l) := by
  have H0 := Lib.hid h
  have HF := Lib.hid hf
  have HT := Lib.hid ht
  have hlb := LBox.new w l
  have hb1 := bal (Below.refl _ w) (.cells #[.int .i64 l.fr, .int .i64 l.to, .string l.tx] 39)
  obtain ⟨o1, ho1⟩ : ∃ o, o = Obj.cells #[.int .i64 l.fr, .int .i64 l.to, .string l.tx] 39 := ⟨_, rfl⟩
  rw [← ho1] at hlb hb1
  have HO1 := Lib.hid ho1
  clear ho1 h hf ht
  unfold lv
  go_enter Try.func14, Try.ntmps14
  go_upto_region 1 with fail
  rw [← HO1.out]
  obtain ⟨xb, hxb⟩ : ∃ xb, xb = w.heap.size := ⟨_, rfl⟩
  rw [← hxb] at hlb ⊢
  obtain ⟨w1, hw1⟩ : ∃ w1, w1 = w.alloc o1 := ⟨_, rfl⟩
  rw [← hw1] at hlb hb1 ⊢
  clear hw1 hxb
  have hh := has_two H0.out hb1 l.fr l.to HF.out HT.out
  have hb2 := bal hb1 (.cells #[.int .i64 l.fr, .int .i64 l.to] 3)
  have hlb2 := hlb.below (bal (Below.refl _ w1) (.cells #[.int .i64 l.fr, .int .i64 l.to] 3))
  obtain ⟨W2, hW2⟩ : ∃ W2, W2 = w1.alloc (.cells #[.int .i64 l.fr, .int .i64 l.to] 3) := ⟨_, rfl⟩
  have HH : Hid (Calls Try.prog 35 #[.pointer (some ⟨b, 0, none⟩), .slice (some ⟨w1.heap.size, 0, none⟩) 2 2] (w1.alloc (.cells #[.int .i64 l.fr, .int .i64 l.to] 3)) fun e w' => e = .returned (.bool (place n c l.fr && place n c l.to)) ∧ w' = W2) := Lib.hid (hh.mono fun e w' hq => ⟨hq.1, by rw [hW2]; exact hq.2.symm⟩)
  rw [← hW2] at hb2 hlb2
  have HB2 := Lib.hid hb2
  have HEND := Lib.hid (And.intro (H0.out.below hb2) (Kp.of_below hb2 H0.out.lt))
  obtain ⟨x0, x1, x2, hxl, f0, f1, f2⟩ := hlb2
  obtain ⟨y0, y1, y2, yl, -, -, -⟩ := hlb
  have HL := Lib.hid (fun (hp : place n c l.to = true) => lay15_any HEND.out.1 l HT.out hp)
  clear hh hW2 hb2 hb1 f0 f1 f2
  by_cases hp : (place n c l.fr && place n c l.to) = true
  · rw [hp] at HH
    have HP : Hid (place n c l.fr = true ∧ place n c l.to = true) := Lib.hid (by simpa using hp)
    have HLY := Lib.hid (HL.out HP.out.2)
    unfold lv at HLY
    clear hp
    by_cases hbig : l.tx.size ≤ 262144
    · have hbi : ¬ (262144 : Int) < (l.tx.size : Int) := by omega
      go_wp2_with (first
        | (go_at_call 35; refine HH.out.mono ?_; rintro e w' ⟨rfl, rfl⟩)
        | (go_at_call 36; refine HLY.out.mono ?_; rintro e w3 ⟨rfl, h3, k3⟩))
      go_ret
      unfold PUR putE putQ
      rw [if_pos ⟨HP.out.1, HP.out.2, hbig⟩, if_pos ⟨HP.out.1, HP.out.2, hbig⟩]
      exact ⟨rfl, h3, HEND.out.2.trans k3⟩
    · have hbi : (262144 : Int) < (l.tx.size : Int) := by omega
      go_wp2_with (go_at_call 35; refine HH.out.mono ?_; rintro e w' ⟨rfl, rfl⟩)
      go_ret
      unfold PUR putE putQ
      rw [if_neg (fun h => hbig h.2.2), if_neg (fun h => hbig h.2.2)]
      exact ⟨rfl, HEND.out⟩
  · have hp' : (place n c l.fr && place n c l.to) = false := by simpa using hp
    rw [hp'] at HH
    have HP : Hid (¬ (place n c l.fr = true ∧ place n c l.to = true)) := Lib.hid (by simpa using hp)
    clear hp hp'
    go_wp2_with (go_at_call 35; refine HH.out.mono ?_; rintro e w' ⟨rfl, rfl⟩)
    go_ret
    unfold PUR putE putQ
    rw [if_neg (fun h => HP.out ⟨h.1, h.2.1⟩), if_neg (fun h => HP.out ⟨h.1, h.2.1⟩)]
    exact ⟨rfl, HEND.out⟩
/-! ### Twice -/
def TWR (own : Nat → Prop) (w : World) (b n c : Nat) (q : Wq) (k j : Int) (e : Ending) (w' : World) : Prop :=
  e = .returned (.int .i64 (twE n c q k j)) ∧ BagAt own w' b n c (twQ n c q k j) ∧ Kp own w w'
set_option maxRecDepth 100000 in
set_option maxHeartbeats 4000000 in
theorem twice15_any {own : Nat → Prop} {w : World} {b n c : Nat} {q : Wq} (h : BagAt own w b n c q) (k j : Int) (hk : (Lit.int .i64 k).wf = true) :
    Calls Try.prog 18 #[.pointer (some ⟨b, 0, none⟩), .int .i64 k, .int .i64 j] w (TWR own w b n c q k j) := by
  have H0 := Lib.hid h
  have HF := Lib.hid (find15_any h k j hk)
  have HK := Lib.hid hk
  obtain ⟨L, hL⟩ : ∃ L, L = fndL n c q k j := ⟨_, rfl⟩
  obtain ⟨er, her⟩ : ∃ er, er = fndE n c q k j := ⟨_, rfl⟩
  rw [← hL, ← her] at HF
  have HL := Lib.hid hL
  have HE := Lib.hid her
  clear hL her h hk
  go_enter Try.func18, Try.ntmps18
  go_upto_region 2 with (go_at_call 39; refine HF.out.mono ?_; rintro e w1 ⟨rfl, hb1⟩; unfold lv)
  have hb2 := bal hb1 (.cells #[.int .i64 L.fr, .int .i64 L.to, .string L.tx] 39)
  have hlb := LBox.new w1 L
  obtain ⟨W2, hW2⟩ : ∃ W2, W2 = w1.alloc (.cells #[.int .i64 L.fr, .int .i64 L.to, .string L.tx] 39) := ⟨_, rfl⟩
  rw [← hW2] at hb2 hlb ⊢
  have HEND := Lib.hid (And.intro (H0.out.below hb2) (Kp.of_below hb2 H0.out.lt))
  obtain ⟨x0, x1, x2, hxl, -, -, -⟩ := hlb
  obtain ⟨xb, hxb⟩ : ∃ xb, xb = w1.heap.size := ⟨_, rfl⟩
  rw [← hxb] at x0 x1 x2 hxl ⊢
  clear hW2 hb2 hb1 hxb
  by_cases h0 : er = 0
  · subst h0
    have hto : L.to = k := by rw [HL.out]; exact fndL_to H0.out.home HE.out.symm
    have hwk := (fndE_zero.1 HE.out.symm).1
    have HLY := Lib.hid (lay15_any HEND.out.1 L (by rw [hto]; exact HK.out) (by rw [hto]; exact hwk))
    unfold lv at HLY
    clear hto hwk
    go_wp2_with (go_at_call 36; refine HLY.out.mono ?_; rintro e w3 ⟨rfl, h3, k3⟩)
    go_ret
    unfold TWR twE twQ
    rw [if_pos HE.out.symm, if_pos HE.out.symm, ← HL.out]
    exact ⟨rfl, h3, HEND.out.2.trans k3⟩
  · go_wp2_with fail
    go_ret
    unfold TWR twE twQ
    rw [if_neg (fun h => h0 (HE.out.trans h)), if_neg (fun h => h0 (HE.out.trans h)), ← HE.out]
    exact ⟨rfl, HEND.out⟩
end Go.Proofs.Ytkljokmhfoannaa
