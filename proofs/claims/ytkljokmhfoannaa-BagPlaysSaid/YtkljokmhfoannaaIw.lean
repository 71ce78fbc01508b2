/-
  Layer 15 (bag): contracts of the document's Put, Twice, Take, Clear, Places. Conditions: lists of at most 1000 letters.
-/
import Derived.Test.YtkljokmhfoannaaIv
namespace Go.Proofs.Ytkljokmhfoannaa
open Go.RowKit Go.Maps
set_option linter.unusedVariables false
set_option linter.unusedSimpArgs false

theorem len_filter {q : Wq} {L : List Lt} (h : Has15 q L) (k : Int) : (L.filter (atP k)).length = (q k).length := by rw [h k]
theorem q_small {q : Wq} {L : List Lt} (h : Has15 q L) (k : Int) (hl : L.length ≤ 1000) : (q k).length < 1024 := by
  rw [h k]
  have := List.length_filter_le (atP k) L
  omega
theorem RefB.set3 {w : World} {a : Option Addr} {len cap : Nat} {L : List Lt} (h : RefB w a len cap L) {x : Nat} (hx : ∀ g, a = some ⟨g, 0, none⟩ → g ≠ x) (u v z : Value) : RefB (((w.setCell ⟨x, 0, none⟩ u).setCell ⟨x, 1, none⟩ v).setCell ⟨x, 2, none⟩ z) a len cap L := by
  refine ⟨h.1, h.2.1.kp (fun g hg => ?_) (by simp), h.2.2⟩
  have hne := hx g hg
  exact ((Below.heap_setCell _ _ _ _ hne).trans (Below.heap_setCell _ _ _ _ hne)).trans (Below.heap_setCell _ _ _ _ hne)
/-- What a doing of the document's leaves. -/
def RDO (w : World) (a0 : Option Addr) (L0 : List Lt) (n c : Nat) (q' : Wq) (er : Int) (m : Nat) (e : Ending) (w' : World) : Prop := ∃ a cap L, e = .returned (.tuple #[.agg #[.int .i64 (n : Int), .int .i64 (c : Int), .slice a L.length cap], .int .i64 er]) ∧ RefB w' a L.length cap L ∧ Has15 q' L ∧ L.length ≤ m ∧ Below w.heap.size w w' ∧ ((a = a0 ∧ L = L0) ∨ ∀ g, a = some ⟨g, 0, none⟩ → w.heap.size ≤ g)
set_option maxRecDepth 100000 in
set_option maxHeartbeats 8000000 in
theorem rput15_any (n c : Nat) (a : Option Addr) (len cap : Nat) (L : List Lt) (q : Wq) (l : Lt) (w : World) (h : RefB w a len cap L) (hl : len ≤ 1000) (hq : Has15 q L) (hf : (Lit.int .i64 l.fr).wf = true) (ht : (Lit.int .i64 l.to).wf = true) (hs : l.tx.size ≤ 9223372036854775807) : Calls Try.prog 15 #[.agg #[.int .i64 (n : Int), .int .i64 (c : Int), .slice a len cap], .agg #[.int .i64 l.fr, .int .i64 l.to, .string l.tx]] w (RDO w a L n c (putQ n c q l) (putE n c q l) (len + 1)) := by
  have HF := Lib.hid hf
  have HT := Lib.hid ht
  have HQQ := Lib.hid hq
  obtain ⟨E, hE⟩ : ∃ E, E = putE n c q l := ⟨_, rfl⟩
  obtain ⟨Q, hQ⟩ : ∃ Q, Q = putQ n c q l := ⟨_, rfl⟩
  rw [← hE, ← hQ]
  have HE := Lib.hid (And.intro hE hQ)
  have HLL := Lib.hid h.1
  clear hf ht hq hE hQ
  have hb1 := bal (Below.refl _ w) (.cells #[.int .i64 (n : Int), .int .i64 (c : Int), .slice a len cap] 30)
  have hq1 := QBox.new w n c (.slice a len cap)
  obtain ⟨w1, hw1⟩ : ∃ w1, w1 = w.alloc (.cells #[.int .i64 (n : Int), .int .i64 (c : Int), .slice a len cap] 30) := ⟨_, rfl⟩
  rw [← hw1] at hb1 hq1
  have hs1 : w1.heap.size = w.heap.size + 1 := by rw [hw1]; simp
  have hb2 := bal (Below.refl _ w1) (.cells #[.int .i64 l.fr, .int .i64 l.to, .string l.tx] 39)
  have hq2 := LBox.new w1 l
  obtain ⟨w2, hw2⟩ : ∃ w2, w2 = w1.alloc (.cells #[.int .i64 l.fr, .int .i64 l.to, .string l.tx] 39) := ⟨_, rfl⟩
  rw [← hw2] at hb2 hq2
  have hs2 : w2.heap.size = w1.heap.size + 1 := by rw [hw2]; simp
  have hb3 := bal (Below.refl _ w2) (.cells #[.int .i64 0, .int .i64 0, .slice none 0 0] 30)
  have hq3 := QBox.new w2 0 0 (.slice none 0 0)
  obtain ⟨w3, hw3⟩ : ∃ w3, w3 = w2.alloc (.cells #[.int .i64 0, .int .i64 0, .slice none 0 0] 30) := ⟨_, rfl⟩
  rw [← hw3] at hb3 hq3
  have hs3 : w3.heap.size = w2.heap.size + 1 := by rw [hw3]; simp
  have HQ1 := Lib.hid ((hq1.below hb2).below hb3)
  have HQ2 := Lib.hid (hq2.below hb3)
  have HQ3 := Lib.hid hq3
  have HB := Lib.hid (bt (bt hb1 hb2) hb3)
  have HR := Lib.hid (h.old HB.out)
  have H0 := Lib.hid h
  have HW := Lib.hid (And.intro hw1 (And.intro hw2 (hw3)))
  have HS := Lib.hid (And.intro hs1 (And.intro hs2 (hs3)))
  clear hb1 hq1 hw1 hs1 hb2 hq2 hw2 hs2 hb3 hq3 hw3 hs3 h
  go_enter Try.func15, Try.ntmps15
  go_upto_region 1 with fail
  rw [← HW.out.1, ← HW.out.2.1, ← HW.out.2.2]
  obtain ⟨x3, hx3⟩ : ∃ x3, x3 = w.heap.size + 1 + 1 := ⟨_, rfl⟩
  obtain ⟨x2, hx2⟩ : ∃ x2, x2 = w.heap.size + 1 := ⟨_, rfl⟩
  obtain ⟨x1, hx1⟩ : ∃ x1, x1 = w.heap.size := ⟨_, rfl⟩
  rw [← hx3, ← hx2, ← hx1]
  have HG1 : Hid (QBox w3 x1 n c (.slice a len cap)) := Lib.hid (by rw [hx1]; exact HQ1.out)
  have HG2 : Hid (LBox w3 x2 l) := Lib.hid (by rw [hx2, ← HS.out.1]; exact HQ2.out)
  have HG3 : Hid (QBox w3 x3 0 0 (.slice none 0 0)) := Lib.hid (by rw [hx3, ← HS.out.1, ← HS.out.2.1]; exact HQ3.out)
  have HXX : Hid (x1 = w.heap.size + 0 ∧ x2 = w.heap.size + 1 ∧ x3 = w.heap.size + 2 ∧ w3.heap.size = w.heap.size + 3) := Lib.hid (by have := HS.out; omega)
  clear hx1 hx2 hx3 HS HW HQ1 HQ2 HQ3
  have HB0 : Hid (Below w3.heap.size w3 w3) := Lib.hid (Below.refl _ _)
  obtain ⟨p0, p1, p2, pl, pf0, pf1, pf2⟩ := HG1.out.below HB0.out
  obtain ⟨q0, q1, q2, ql, qf0, qf1, qf2⟩ := HG2.out.below HB0.out
  obtain ⟨r0, r1, r2, rl, rf0, rf1, rf2⟩ := HG3.out.below HB0.out
  by_cases hp1 : place n c l.fr = true
  · have hp1d := hp1
    go_wp2_with fail
    refine (rplace15_any n c a len cap l.fr HF.out _).mono ?_
    rintro e w4 ⟨rfl, b4⟩
    rw [hp1]
    have HB4 := Lib.hid b4
    clear b4
    clear p0 p1 p2 pl pf0 pf1 pf2 q0 q1 q2 ql qf0 qf1 qf2 r0 r1 r2 rl rf0 rf1 rf2
    obtain ⟨p0, p1, p2, pl, pf0, pf1, pf2⟩ := HG1.out.below HB4.out
    obtain ⟨q0, q1, q2, ql, qf0, qf1, qf2⟩ := HG2.out.below HB4.out
    obtain ⟨r0, r1, r2, rl, rf0, rf1, rf2⟩ := HG3.out.below HB4.out
    by_cases hp2 : place n c l.to = true
    · go_wp2_with fail
      refine (rplace15_any n c a len cap l.to HT.out _).mono ?_
      rintro e w5 ⟨rfl, b5⟩
      rw [hp2]
      have HB5 := Lib.hid (HB4.out.trans (b5.mono HB4.out.size))
      clear b5
      clear p0 p1 p2 pl pf0 pf1 pf2 q0 q1 q2 ql qf0 qf1 qf2 r0 r1 r2 rl rf0 rf1 rf2
      obtain ⟨p0, p1, p2, pl, pf0, pf1, pf2⟩ := HG1.out.below HB5.out
      obtain ⟨q0, q1, q2, ql, qf0, qf1, qf2⟩ := HG2.out.below HB5.out
      obtain ⟨r0, r1, r2, rl, rf0, rf1, rf2⟩ := HG3.out.below HB5.out
      by_cases hbig : l.tx.size ≤ 262144
      · have hbi : ¬ (262144 : Int) < (l.tx.size : Int) := by omega
        have hcn : place n c l.fr = true ∧ place n c l.to = true ∧ l.tx.size ≤ 262144 := ⟨hp1, hp2, hbig⟩
        have hsm := q_small HQQ.out l.to (by rw [HLL.out]; exact hl)
        obtain rfl : E = 0 := by rw [HE.out.1]; unfold putE layE; rw [if_pos hcn, if_pos hsm]
        have HQ1 : Hid (Has15 (putQ n c q l) (L ++ [l])) := Lib.hid (by unfold putQ; rw [if_pos hcn]; exact HQQ.out.lay l hsm)
        obtain ⟨m, hm⟩ : ∃ m, m = (L.filter (atP l.to)).length := ⟨_, rfl⟩
        have hm1 : m < 1024 := by rw [hm, len_filter HQQ.out]; exact hsm
        have HWT := Lib.hid (fun (w' : World) (hb : Below w3.heap.size w3 w') => rwaits15_any n c a len cap L l.to w' (HR.out.old hb) hl)
        rw [← hm] at HWT
        have HWH := Lib.hid (fun (w' : World) (hb : Below w3.heap.size w3 w') => rwith15_any n c a len cap L l w' (HR.out.old hb) hl)
        have hm2 : ¬ (1024 : Int) ≤ (m : Int) := by omega
        clear hcn hsm hm hp1 hp2 hp1d
        go_wp2_with fail
        refine (HWT.out _ HB5.out).mono ?_
        rintro e w6 ⟨rfl, b6⟩
        have HB6 := Lib.hid (HB5.out.trans (b6.mono HB5.out.size))
        clear b6
        clear p0 p1 p2 pl pf0 pf1 pf2 q0 q1 q2 ql qf0 qf1 qf2 r0 r1 r2 rl rf0 rf1 rf2
        obtain ⟨p0, p1, p2, pl, pf0, pf1, pf2⟩ := HG1.out.below HB6.out
        obtain ⟨q0, q1, q2, ql, qf0, qf1, qf2⟩ := HG2.out.below HB6.out
        obtain ⟨r0, r1, r2, rl, rf0, rf1, rf2⟩ := HG3.out.below HB6.out
        go_wp2_with fail
        refine (HWH.out _ HB6.out).mono ?_
        rintro e w7 ⟨a7, c7, rfl, hr7, b7, hg7⟩
        have HB7 := Lib.hid (HB6.out.trans (b7.mono HB6.out.size))
        have HR7 := Lib.hid hr7
        have HG7 := Lib.hid (fun g hg => Nat.le_trans HB6.out.size (hg7 g hg))
        clear b7 hr7 hg7
        obtain ⟨m7, hm7⟩ : ∃ m7, m7 = (L ++ [l]).length := ⟨_, rfl⟩
        rw [← hm7]
        have HM7 := Lib.hid hm7
        clear hm7
        clear p0 p1 p2 pl pf0 pf1 pf2 q0 q1 q2 ql qf0 qf1 qf2 r0 r1 r2 rl rf0 rf1 rf2
        obtain ⟨p0, p1, p2, pl, pf0, pf1, pf2⟩ := HG1.out.below HB7.out
        obtain ⟨q0, q1, q2, ql, qf0, qf1, qf2⟩ := HG2.out.below HB7.out
        obtain ⟨r0, r1, r2, rl, rf0, rf1, rf2⟩ := HG3.out.below HB7.out
        go_wp2_with fail
        refine bodyPost_ret (v := .tuple #[.agg #[.int .i64 (n : Int), .int .i64 (c : Int), .slice a7 m7 c7], .int .i64 0]) ?_ rfl ?_
        · exact put_res _ _ x3 _ _ _ _ (HG3.out.below HB7.out).store rfl rfl rfl
        · have hbf := set3_below (HB.out.trans (HB7.out.mono HB.out.size)) (x := x3) (by have := HXX.out; omega) (.int .i64 (n : Int)) (.int .i64 (c : Int)) (.slice a7 m7 c7)
          have hr := HR7.out.set3 (x := x3) (fun g hg => by have := HG7.out g hg; have := HXX.out; omega) (.int .i64 (n : Int)) (.int .i64 (c : Int)) (.slice a7 m7 c7)
          rw [HM7.out] at hbf hr ⊢
          exact ⟨a7, c7, L ++ [l], rfl, hr, by rw [HE.out.2]; exact HQ1.out, by rw [List.length_append, HLL.out]; simp, hbf, Or.inr fun g hg => (by have := HG7.out g hg; have := HXX.out; omega)⟩
      · have hbi : (262144 : Int) < (l.tx.size : Int) := by omega
        have hcn : ¬ (place n c l.fr = true ∧ place n c l.to = true ∧ l.tx.size ≤ 262144) := fun h => hbig h.2.2
        obtain rfl : E = 1 := by rw [HE.out.1]; unfold putE; rw [if_neg hcn]
        have HQ1 : Hid (putQ n c q l = q) := Lib.hid (by unfold putQ; rw [if_neg hcn])
        clear hcn
        go_wp2_with fail
        refine bodyPost_ret (v := .tuple #[.agg #[.int .i64 (n : Int), .int .i64 (c : Int), .slice a len cap], .int .i64 1]) ?_ rfl ?_
        · exact put_res _ _ x3 _ _ _ _ (HG3.out.below HB5.out).store rfl rfl rfl
        · have hbf := set3_below (HB.out.trans (HB5.out.mono HB.out.size)) (x := x3) (by have := HXX.out; omega) (.int .i64 (n : Int)) (.int .i64 (c : Int)) (.slice a len cap)
          have hr := H0.out.old hbf
          have hll := HLL.out
          subst hll
          exact ⟨a, cap, L, rfl, hr, by rw [HE.out.2]; rw [HQ1.out]; exact HQQ.out, by omega, hbf, .inl ⟨rfl, rfl⟩⟩
    · have hp2' : place n c l.to = false := by simpa using hp2
      have hcn : ¬ (place n c l.fr = true ∧ place n c l.to = true ∧ l.tx.size ≤ 262144) := fun h => hp2 h.2.1
      obtain rfl : E = 1 := by rw [HE.out.1]; unfold putE; rw [if_neg hcn]
      have HQ1 : Hid (putQ n c q l = q) := Lib.hid (by unfold putQ; rw [if_neg hcn])
      clear hcn
      have hp2d := hp2'
      go_wp2_with fail
      refine (rplace15_any n c a len cap l.to HT.out _).mono ?_
      rintro e w5 ⟨rfl, b5⟩
      rw [hp2']
      have HB5 := Lib.hid (HB4.out.trans (b5.mono HB4.out.size))
      clear b5
      clear p0 p1 p2 pl pf0 pf1 pf2 q0 q1 q2 ql qf0 qf1 qf2 r0 r1 r2 rl rf0 rf1 rf2
      obtain ⟨p0, p1, p2, pl, pf0, pf1, pf2⟩ := HG1.out.below HB5.out
      obtain ⟨q0, q1, q2, ql, qf0, qf1, qf2⟩ := HG2.out.below HB5.out
      obtain ⟨r0, r1, r2, rl, rf0, rf1, rf2⟩ := HG3.out.below HB5.out
      go_wp2_with fail
      refine bodyPost_ret (v := .tuple #[.agg #[.int .i64 (n : Int), .int .i64 (c : Int), .slice a len cap], .int .i64 1]) ?_ rfl ?_
      · exact put_res _ _ x3 _ _ _ _ (HG3.out.below HB5.out).store rfl rfl rfl
      · have hbf := set3_below (HB.out.trans (HB5.out.mono HB.out.size)) (x := x3) (by have := HXX.out; omega) (.int .i64 (n : Int)) (.int .i64 (c : Int)) (.slice a len cap)
        have hr := H0.out.old hbf
        have hll := HLL.out
        subst hll
        exact ⟨a, cap, L, rfl, hr, by rw [HE.out.2]; rw [HQ1.out]; exact HQQ.out, by omega, hbf, .inl ⟨rfl, rfl⟩⟩
  · have hp1' : place n c l.fr = false := by simpa using hp1
    have hcn : ¬ (place n c l.fr = true ∧ place n c l.to = true ∧ l.tx.size ≤ 262144) := fun h => hp1 h.1
    obtain rfl : E = 1 := by rw [HE.out.1]; unfold putE; rw [if_neg hcn]
    have HQ1 : Hid (putQ n c q l = q) := Lib.hid (by unfold putQ; rw [if_neg hcn])
    clear hcn
    go_wp2_with fail
    refine (rplace15_any n c a len cap l.fr HF.out _).mono ?_
    rintro e w4 ⟨rfl, b4⟩
    rw [hp1']
    have HB4 := Lib.hid b4
    clear b4
    clear p0 p1 p2 pl pf0 pf1 pf2 q0 q1 q2 ql qf0 qf1 qf2 r0 r1 r2 rl rf0 rf1 rf2
    obtain ⟨p0, p1, p2, pl, pf0, pf1, pf2⟩ := HG1.out.below HB4.out
    obtain ⟨q0, q1, q2, ql, qf0, qf1, qf2⟩ := HG2.out.below HB4.out
    obtain ⟨r0, r1, r2, rl, rf0, rf1, rf2⟩ := HG3.out.below HB4.out
    go_wp2_with fail
    refine bodyPost_ret (v := .tuple #[.agg #[.int .i64 (n : Int), .int .i64 (c : Int), .slice a len cap], .int .i64 1]) ?_ rfl ?_
    · exact put_res _ _ x3 _ _ _ _ (HG3.out.below HB4.out).store rfl rfl rfl
    · have hbf := set3_below (HB.out.trans (HB4.out.mono HB.out.size)) (x := x3) (by have := HXX.out; omega) (.int .i64 (n : Int)) (.int .i64 (c : Int)) (.slice a len cap)
      have hr := H0.out.old hbf
      have hll := HLL.out
      subst hll
      exact ⟨a, cap, L, rfl, hr, by rw [HE.out.2]; rw [HQ1.out]; exact HQQ.out, by omega, hbf, .inl ⟨rfl, rfl⟩⟩
end Go.Proofs.Ytkljokmhfoannaa
