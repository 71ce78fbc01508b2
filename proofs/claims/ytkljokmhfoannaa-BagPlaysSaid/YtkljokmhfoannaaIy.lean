/-
  Layer 15 (bag): contract of the document's Take. Conditions: lists of at most 1000 letters.
-/
import Derived.Test.YtkljokmhfoannaaIx
namespace Go.Proofs.Ytkljokmhfoannaa
open Go.RowKit Go.Maps
set_option linter.unusedVariables false
set_option linter.unusedSimpArgs false

abbrev set3 (w : World) (x : Nat) (u v z : Value) : World := ((w.setCell ⟨x, 0, none⟩ u).setCell ⟨x, 1, none⟩ v).setCell ⟨x, 2, none⟩ z
theorem set3_heap (w : World) {x y : Nat} (h : y ≠ x) (u v z : Value) : (set3 w x u v z).heap[y]? = w.heap[y]? :=
  ((Below.heap_setCell _ _ _ _ h).trans (Below.heap_setCell _ _ _ _ h)).trans (Below.heap_setCell _ _ _ _ h)
theorem set3_size (w : World) (x : Nat) (u v z : Value) : (set3 w x u v z).heap.size = w.heap.size := by simp
/-- What Take leaves. -/
def RTK (w : World) (a0 : Option Addr) (L0 : List Lt) (n c : Nat) (q' : Wq) (l : Lt) (er : Int) (m : Nat) (e : Ending) (w' : World) : Prop := ∃ a cap L, e = .returned (.tuple #[.agg #[.int .i64 (n : Int), .int .i64 (c : Int), .slice a L.length cap], lv l, .int .i64 er]) ∧ RefB w' a L.length cap L ∧ Has15 q' L ∧ L.length ≤ m ∧ Below w.heap.size w w' ∧ ((a = a0 ∧ L = L0) ∨ ∀ g, a = some ⟨g, 0, none⟩ → w.heap.size ≤ g)
theorem QBox.drew {w : World} {x : Nat} {n c : Int} {s : Value} (h : QBox w x n c s) : QBox w.drew x n c s := ⟨h.c0, h.c1, h.c2, h.lt, h.f0, h.f1, h.f2⟩
theorem LBox.drew {w : World} {x : Nat} {l : Lt} (h : LBox w x l) : LBox w.drew x l := ⟨h.c0, h.c1, h.c2, h.lt, h.f0, h.f1, h.f2⟩
theorem RefB.drew {w : World} {a : Option Addr} {len cap : Nat} {L : List Lt} (h : RefB w a len cap L) : RefB w.drew a len cap L := ⟨h.1, h.2.1.kp (fun _ _ => rfl) (Nat.le_refl _), h.2.2⟩
theorem fndL_bad {n c : Nat} {q : Wq} {tp at_ : Int} (h : ¬ fndE n c q tp at_ = 0) : fndL n c q tp at_ = zL ∧ takeQ n c q tp at_ = q := by
  unfold fndL takeQ
  rw [if_neg h, if_neg h]
  exact ⟨rfl, rfl⟩
set_option maxRecDepth 100000 in
set_option maxHeartbeats 8000000 in
theorem rtake15_any (n c : Nat) (a : Option Addr) (len cap : Nat) (L : List Lt) (q : Wq) (tp at_ : Int) (w : World) (h : RefB w a len cap L) (hl : len ≤ 1000) (hq : Has15 q L) (ht : (Lit.int .i64 tp).wf = true) (hat : -9223372036854775808 ≤ at_ ∧ at_ ≤ 9223372036854775807) : Calls Try.prog 17 #[.agg #[.int .i64 (n : Int), .int .i64 (c : Int), .slice a len cap], .int .i64 tp, .int .i64 at_] w (RTK w a L n c (takeQ n c q tp at_) (fndL n c q tp at_) (fndE n c q tp at_) len) := by
  obtain ⟨i0, hi, hz0, hz1, hz2⟩ := infoLt_parts
  have HT := Lib.hid ht
  have HQQ := Lib.hid hq
  have HAT := Lib.hid hat
  obtain ⟨E, hE⟩ : ∃ E, E = fndE n c q tp at_ := ⟨_, rfl⟩
  obtain ⟨Q, hQ⟩ : ∃ Q, Q = takeQ n c q tp at_ := ⟨_, rfl⟩
  obtain ⟨F, hF⟩ : ∃ F, F = fndL n c q tp at_ := ⟨_, rfl⟩
  rw [← hE, ← hQ, ← hF]
  have HE := Lib.hid (And.intro hE (And.intro hQ hF))
  have HLL := Lib.hid h.1
  clear ht hq hE hQ hat hF
  have hb1 := bal (Below.refl _ w) (.cells #[.int .i64 (n : Int), .int .i64 (c : Int), .slice a len cap] 30)
  have hq1 := QBox.new w n c (.slice a len cap)
  obtain ⟨w1, hw1⟩ : ∃ w1, w1 = w.alloc (.cells #[.int .i64 (n : Int), .int .i64 (c : Int), .slice a len cap] 30) := ⟨_, rfl⟩
  rw [← hw1] at hb1 hq1
  have hs1 : w1.heap.size = w.heap.size + 1 := by rw [hw1]; simp
  have hb2 := bal (Below.refl _ w1) (.cells #[.int .i64 0, .int .i64 0, .slice none 0 0] 30)
  have hq2 := QBox.new w1 0 0 (.slice none 0 0)
  obtain ⟨w2, hw2⟩ : ∃ w2, w2 = w1.alloc (.cells #[.int .i64 0, .int .i64 0, .slice none 0 0] 30) := ⟨_, rfl⟩
  rw [← hw2] at hb2 hq2
  have hs2 : w2.heap.size = w1.heap.size + 1 := by rw [hw2]; simp
  have hb3 := bal (Below.refl _ w2) (.cells #[.int .i64 0, .int .i64 0, .string ⟨#[]⟩] 39)
  have hq3 := (show LBox (w2.alloc (.cells #[.int .i64 0, .int .i64 0, .string ⟨#[]⟩] 39)) w2.heap.size zL from LBox.new w2 zL)
  obtain ⟨w3, hw3⟩ : ∃ w3, w3 = w2.alloc (.cells #[.int .i64 0, .int .i64 0, .string ⟨#[]⟩] 39) := ⟨_, rfl⟩
  rw [← hw3] at hb3 hq3
  have hs3 : w3.heap.size = w2.heap.size + 1 := by rw [hw3]; simp
  have HQ1 := Lib.hid ((hq1.below hb2).below hb3)
  have HQ2 := Lib.hid (hq2.below hb3)
  have HQ3 := Lib.hid hq3
  have HB := Lib.hid (bt (bt hb1 hb2) hb3)
  have HR := Lib.hid (h.old HB.out)
  have H0 := Lib.hid h
  have HW := Lib.hid (And.intro hw1 (And.intro hw2 (hw3)))
  have HS := Lib.hid (And.intro hs1 (And.intro hs2 (hs3)))
  clear hb1 hq1 hw1 hs1 hb2 hq2 hw2 hs2 hb3 hq3 hw3 hs3 h
  go_enter Try.func17, Try.ntmps17
  go_upto_region 1 with fail
  rw [← HW.out.1, ← HW.out.2.1, ← HW.out.2.2]
  obtain ⟨x3, hx3⟩ : ∃ x3, x3 = w.heap.size + 1 + 1 := ⟨_, rfl⟩
  obtain ⟨x2, hx2⟩ : ∃ x2, x2 = w.heap.size + 1 := ⟨_, rfl⟩
  obtain ⟨x1, hx1⟩ : ∃ x1, x1 = w.heap.size := ⟨_, rfl⟩
  rw [← hx3, ← hx2, ← hx1]
  have HG1 : Hid (QBox w3 x1 n c (.slice a len cap)) := Lib.hid (by rw [hx1]; exact HQ1.out)
  have HG2 : Hid (QBox w3 x2 0 0 (.slice none 0 0)) := Lib.hid (by rw [hx2, ← HS.out.1]; exact HQ2.out)
  have HG3 : Hid (LBox w3 x3 zL) := Lib.hid (by rw [hx3, ← HS.out.1, ← HS.out.2.1]; exact HQ3.out)
  have HXX : Hid (x1 = w.heap.size + 0 ∧ x2 = w.heap.size + 1 ∧ x3 = w.heap.size + 2 ∧ w3.heap.size = w.heap.size + 3) := Lib.hid (by have := HS.out; omega)
  clear hx1 hx2 hx3 HS HW HQ1 HQ2 HQ3
  have HB0 : Hid (Below w3.heap.size w3 w3) := Lib.hid (Below.refl _ _)
  obtain ⟨p0, p1, p2, pl, pf0, pf1, pf2⟩ := HG1.out.below HB0.out
  obtain ⟨q0, q1, q2, ql, qf0, qf1, qf2⟩ := HG2.out.below HB0.out
  obtain ⟨r0, r1, r2, rl, rf0, rf1, rf2⟩ := HG3.out.below HB0.out
  by_cases hp : place n c tp = true
  · go_wp2_with fail
    refine (rplace15_any n c a len cap tp HT.out _).mono ?_
    rintro e w4 ⟨rfl, b4⟩
    rw [hp]
    have HB4 := Lib.hid (HB0.out.trans (b4.mono HB0.out.size))
    clear b4
    clear p0 p1 p2 pl pf0 pf1 pf2 q0 q1 q2 ql qf0 qf1 qf2 r0 r1 r2 rl rf0 rf1 rf2
    obtain ⟨p0, p1, p2, pl, pf0, pf1, pf2⟩ := HG1.out.below HB4.out
    obtain ⟨q0, q1, q2, ql, qf0, qf1, qf2⟩ := HG2.out.below HB4.out
    obtain ⟨r0, r1, r2, rl, rf0, rf1, rf2⟩ := HG3.out.below HB4.out
    have HP := Lib.hid hp
    have HFN := Lib.hid (fun (w' : World) (hb : Below w3.heap.size w3 w') => rfind15_any n c a len cap L tp at_ HAT.out w' (HR.out.old hb) hl)
    clear hp
    by_cases hneg : at_ < 0
    · rw [fnI_neg hneg] at HFN
      have hf3 := fn_neg (q := q) HP.out hneg
      obtain rfl : E = 3 := by rw [HE.out.1]; exact hf3
      have HBD : Hid (¬ fndE n c q tp at_ = 0) := Lib.hid (by rw [hf3]; decide)
      clear hf3
      go_wp2_with fail
      refine (HFN.out _ HB4.out).mono ?_
      rintro e w5 ⟨rfl, b5⟩
      have HB5 := Lib.hid (HB4.out.trans (b5.mono HB4.out.size))
      clear b5
      clear p0 p1 p2 pl pf0 pf1 pf2 q0 q1 q2 ql qf0 qf1 qf2 r0 r1 r2 rl rf0 rf1 rf2
      obtain ⟨p0, p1, p2, pl, pf0, pf1, pf2⟩ := HG1.out.below HB5.out
      obtain ⟨q0, q1, q2, ql, qf0, qf1, qf2⟩ := HG2.out.below HB5.out
      obtain ⟨r0, r1, r2, rl, rf0, rf1, rf2⟩ := HG3.out.below HB5.out
      have hn23 : ¬ x2 = x3 := by have := HXX.out; omega
      have hn32 : ¬ x3 = x2 := by have := HXX.out; omega
      go_wp2_with fail
      refine bodyPost_ret (v := .tuple #[.agg #[.int .i64 (n : Int), .int .i64 (c : Int), .slice a len cap], lv zL, .int .i64 3]) ?_ rfl ?_
      · have hne : x3 ≠ x2 := by have := HXX.out; omega
        exact rtake_res _ _ x2 x3 _ _ _ _ _ ((HG2.out.below HB5.out).store.kp (set3_heap _ (Ne.symm hne) _ _ _) (by simp)) rfl (((HG3.out.below HB5.out).kp (w' := set3 w5 x2 (.int .i64 (n : Int)) (.int .i64 (c : Int)) (.slice a len cap)) (set3_heap _ hne _ _ _) (by simp)).store zL) rfl rfl rfl
      · have hbf := set3_below (set3_below (HB.out.trans (HB5.out.mono HB.out.size)) (x := x2) (by have := HXX.out; omega) (.int .i64 (n : Int)) (.int .i64 (c : Int)) (.slice a len cap)) (x := x3) (by have := HXX.out; omega) (.int .i64 0) (.int .i64 0) (.string ⟨#[]⟩)
        have hr := H0.out.old hbf
        have hll := HLL.out
        subst hll
        rw [HE.out.2.2, (fndL_bad HBD.out).1]
        exact ⟨a, cap, L, rfl, hr, by rw [HE.out.2.1, (fndL_bad HBD.out).2]; exact HQQ.out, by omega, hbf, .inl ⟨rfl, rfl⟩⟩
    · obtain ⟨A, rfl⟩ : ∃ A : Nat, at_ = (A : Int) := ⟨at_.toNat, by omega⟩
      rw [fnI_nat] at HFN
      cases hix : idx tp L A with
      | none =>
        rw [hix, show idN none = -1 from rfl] at HFN
        have hf3 := fn_none HQQ.out HP.out hix
        obtain rfl : E = 3 := by rw [HE.out.1]; exact hf3
        have HBD : Hid (¬ fndE n c q tp (A : Int) = 0) := Lib.hid (by rw [hf3]; decide)
        clear hf3 hix
        go_wp2_with fail
        refine (HFN.out _ HB4.out).mono ?_
        rintro e w5 ⟨rfl, b5⟩
        have HB5 := Lib.hid (HB4.out.trans (b5.mono HB4.out.size))
        clear b5
        clear p0 p1 p2 pl pf0 pf1 pf2 q0 q1 q2 ql qf0 qf1 qf2 r0 r1 r2 rl rf0 rf1 rf2
        obtain ⟨p0, p1, p2, pl, pf0, pf1, pf2⟩ := HG1.out.below HB5.out
        obtain ⟨q0, q1, q2, ql, qf0, qf1, qf2⟩ := HG2.out.below HB5.out
        obtain ⟨r0, r1, r2, rl, rf0, rf1, rf2⟩ := HG3.out.below HB5.out
        have hn23 : ¬ x2 = x3 := by have := HXX.out; omega
        have hn32 : ¬ x3 = x2 := by have := HXX.out; omega
        go_wp2_with fail
        refine bodyPost_ret (v := .tuple #[.agg #[.int .i64 (n : Int), .int .i64 (c : Int), .slice a len cap], lv zL, .int .i64 3]) ?_ rfl ?_
        · have hne : x3 ≠ x2 := by have := HXX.out; omega
          exact rtake_res _ _ x2 x3 _ _ _ _ _ ((HG2.out.below HB5.out).store.kp (set3_heap _ (Ne.symm hne) _ _ _) (by simp)) rfl (((HG3.out.below HB5.out).kp (w' := set3 w5 x2 (.int .i64 (n : Int)) (.int .i64 (c : Int)) (.slice a len cap)) (set3_heap _ hne _ _ _) (by simp)).store zL) rfl rfl rfl
        · have hbf := set3_below (set3_below (HB.out.trans (HB5.out.mono HB.out.size)) (x := x2) (by have := HXX.out; omega) (.int .i64 (n : Int)) (.int .i64 (c : Int)) (.slice a len cap)) (x := x3) (by have := HXX.out; omega) (.int .i64 0) (.int .i64 0) (.string ⟨#[]⟩)
          have hr := H0.out.old hbf
          have hll := HLL.out
          subst hll
          rw [HE.out.2.2, (fndL_bad HBD.out).1]
          exact ⟨a, cap, L, rfl, hr, by rw [HE.out.2.1, (fndL_bad HBD.out).2]; exact HQQ.out, by omega, hbf, .inl ⟨rfl, rfl⟩⟩
      | some k =>
        rw [hix, show idN (some k) = (k : Int) from rfl] at HFN
        obtain ⟨hk, f0, f1, f2⟩ := fn_some HQQ.out HP.out hix
        obtain ⟨lk, hlk⟩ : ∃ lk, lk = L[k] := ⟨_, rfl⟩
        rw [← hlk] at f1
        obtain ⟨k1, hk1⟩ : ∃ k1, k1 = k + 1 := ⟨_, rfl⟩
        rw [← hk1] at f2
        obtain rfl : E = 0 := by rw [HE.out.1]; exact f0
        have HQ1 := Lib.hid (And.intro f1 f2)
        have HKL := Lib.hid hk
        have HLK := Lib.hid hlk
        have hkl : k < len := by rw [← HLL.out]; exact hk
        have hcap : len ≤ cap := H0.out.2.2.1
        have hcap2 : cap ≤ 9223372036854775807 := by have := H0.out.2.2.2; unfold maxLen at this; exact this
        have a1 : (k : Int) < (len : Int) := by omega
        have a2 : ¬ (k : Int) < 0 := by omega
        have a3 : IntKind.i64.wrap ((k : Int) + 1) = (k1 : Int) := by rw [IntWalk.i64_in _ (by omega)]; omega
        have a4 : (k : Int) + 1 = (k1 : Int) := by omega
        have a5 : (k1 : Int) ≤ (len : Int) := by omega
        have a6 : (len : Int) ≤ (cap : Int) := by omega
        have a7 : (k : Int) ≤ (cap : Int) := by omega
        have a8 : k ≤ cap := by omega
        have a9 : k1 ≤ len := by omega
        have a10 : (0 : Int) ≤ (k1 : Int) := by omega
        have a11 : (k1 : Int) ≤ (cap : Int) := by omega
        have a12 : k1 ≤ cap := by omega
        obtain ⟨m8, hm8⟩ : ∃ m8, m8 = k + (len - k1) := ⟨_, rfl⟩
        have HMM := Lib.hid hm8
        have HM8 : Hid ((L.take k ++ L.drop k1).length = m8) := Lib.hid (by rw [List.length_append, List.length_take, List.length_drop, HLL.out, hm8]; omega)
        clear f0 f1 f2 hix hlk hk1 hm8
        go_wp2_with fail
        refine (HFN.out _ HB4.out).mono ?_
        rintro e w5 ⟨rfl, b5⟩
        have HB5 := Lib.hid (HB4.out.trans (b5.mono HB4.out.size))
        clear b5
        clear p0 p1 p2 pl pf0 pf1 pf2 q0 q1 q2 ql qf0 qf1 qf2 r0 r1 r2 rl rf0 rf1 rf2
        obtain ⟨p0, p1, p2, pl, pf0, pf1, pf2⟩ := HG1.out.below HB5.out
        obtain ⟨q0, q1, q2, ql, qf0, qf1, qf2⟩ := HG2.out.below HB5.out
        obtain ⟨r0, r1, r2, rl, rf0, rf1, rf2⟩ := HG3.out.below HB5.out
        obtain ⟨g, hag, hgl, hat⟩ := (HR.out.2.1.old HB5.out).at_ HKL.out
        subst hag
        obtain ⟨z0, z1, z2⟩ := hat k HKL.out
        rw [Nat.zero_add, ← HLK.out] at z0 z1 z2
        clear hat
        go_upto_region 7 with fail
        have hb6 := bal (Below.refl _ w5) (.cells #[.int .i64 lk.fr, .int .i64 lk.to, .string lk.tx] 39)
        have hl6 := LBox.new w5 lk
        have hs6 : (w5.alloc (.cells #[.int .i64 lk.fr, .int .i64 lk.to, .string lk.tx] 39)).heap.size = w5.heap.size + 1 := by simp
        obtain ⟨w6, hw6⟩ : ∃ w6, w6 = w5.alloc (.cells #[.int .i64 lk.fr, .int .i64 lk.to, .string lk.tx] 39) := ⟨_, rfl⟩
        rw [← hw6] at hb6 hl6 hs6 ⊢
        obtain ⟨x4, hx4⟩ : ∃ x4, x4 = w5.heap.size := ⟨_, rfl⟩
        rw [← hx4] at hl6 ⊢
        have HB6 := Lib.hid (HB5.out.trans (hb6.mono HB5.out.size))
        have HB6S : Hid (w3.heap.size ≤ w6.heap.size) := Lib.hid HB6.out.size
        have HL6 := Lib.hid hl6
        have HX4 : Hid (w3.heap.size ≤ x4 ∧ x4 < w6.heap.size) := Lib.hid ⟨by rw [hx4]; exact HB5.out.size, by omega⟩
        clear hw6 hb6 hl6 hs6 hx4 z0 z1 z2 hgl p0 p1 p2 pl pf0 pf1 pf2 q0 q1 q2 ql qf0 qf1 qf2 r0 r1 r2 rl rf0 rf1 rf2
        obtain ⟨p0, p1, p2, pl, pf0, pf1, pf2⟩ := HG1.out.below HB6.out
        obtain ⟨q0, q1, q2, ql, qf0, qf1, qf2⟩ := HG2.out.below HB6.out
        obtain ⟨r0, r1, r2, rl, rf0, rf1, rf2⟩ := HG3.out.below HB6.out
        obtain ⟨g', hag, hgl, hat⟩ := (HR.out.2.1.old HB6.out).at_ HKL.out
        obtain rfl : g' = g := by injection hag with hag; injection hag with hag; exact hag.symm
        have HLT6 := Lib.hid hat
        clear hat hag
        go_wp2_with (at_builtin; refine wpList_append_any rfl (.tmp 35) (.tmp 39) 28 rfl w6.heap.size 39 i0 (.agg #[.int .i64 0, .int .i64 0, .string ⟨#[]⟩]) 3 32 Try.underlying28 hi hz0 hz1 hz2 rfl (by decide) (.slice none 0 0) 0 [] rfl (World.ownsRow_nil _ _ _ _) (some ⟨g', 0, none⟩) k cap (lcs (L.take k)) rfl ?d1 ?d2 ?d3 ?d4 ?d5 ?d6 ?d7 ?_)
        case d1 => exact fun e => by cases e
        case d2 => rw [lcs_len, List.length_take, HLL.out]; congr 1; omega
        case d3 =>
          intro y hy j u hj
          cases hy
          rw [← lcs_take, List.getElem?_take] at hj
          split at hj
          · have := HLT6.out.cells 0 j u (by simpa using hj)
            simpa using this
          · cases hj
        case d4 => exact lcs_one _
        case d5 => unfold maxLen; omega
        case d6 => omega
        case d7 => exact Nat.le_refl _
        intro v7 w7 hown7 hb7
        obtain ⟨x7, rfl⟩ := own_sV hown7
        have HO7 := Lib.hid hown7
        have HB7 := Lib.hid hb7
        clear p0 p1 p2 pl pf0 pf1 pf2 q0 q1 q2 ql qf0 qf1 qf2 r0 r1 r2 rl rf0 rf1 rf2
        obtain ⟨p0, p1, p2, pl, pf0, pf1, pf2⟩ := (HG1.out.below HB6.out).below hb7
        obtain ⟨g2, hag2, hgl2, hat2⟩ := ((HR.out.2.1.old HB6.out).old hb7).at_ HKL.out
        obtain rfl : g2 = g' := by injection hag2 with hag2; injection hag2 with hag2; exact hag2.symm
        have HLT7 := Lib.hid hat2
        clear hown7 hb7 hat2 hag2 hgl
        go_upto_region 9 with fail
        by_cases hc : cap = k1
        · subst hc
          go_wp2_with (at_builtin; refine wpList_append_own _ rfl (.tmp 41) (.tmp 46) 28 rfl w6.heap.size 39 i0 (.agg #[.int .i64 0, .int .i64 0, .string ⟨#[]⟩]) 3 32 Try.underlying28 hi hz0 hz1 hz2 rfl (by decide) _ _ _ rfl HO7.out ⟨g2, 0, none⟩ 0 0 [] rfl ?e1 ?e2 ?e3 ?e4 ?e5 ?e6 ?_)
          case e1 => rfl
          case e2 => exact fun j u hj => by simp at hj
          case e3 => exact fun u hu => by simp at hu
          case e4 => unfold maxLen; omega
          case e5 => omega
          case e6 => exact HB7.out.size
          intro v8 w8 hown8 hgrow8 _
          obtain ⟨x8, rfl⟩ := own_sV hown8
          have hb8 : Below w6.heap.size w6 w8 := HB7.out.grown hgrow8 HB7.out.size (fun k hk => (HO7.out.lt k hk).1)
          have HO8 : Hid (w8.ownsRow w6.heap.size 39 3 (sV x8) (L.take k ++ L.drop cap).length (lcs (L.take k ++ L.drop cap))) := Lib.hid (by
            have h := hown8
            rw [lcs_app, HM8.out]
            rw [List.drop_eq_nil_of_le (by rw [HLL.out]; omega)]
            have e : k = m8 := by have := HMM.out; omega
            rw [show lcs ([] : List Lt) = [] from rfl, List.append_nil, ← e]
            exact h)
          have HB8 := Lib.hid hb8
          have g1 := (HG1.out.below HB6.out).below hb8
          have hg1 := g1.set2 (sV x8)
          obtain ⟨aa, cc, hsv, _⟩ := own_len HO8.out
          rw [HM8.out] at hsv
          have HSV := Lib.hid hsv
          rw [hsv] at hg1 ⊢
          have HF1 := Lib.hid hg1
          have HL4 := Lib.hid ((HL6.out.below hb8).kp (w' := w8.setCell ⟨x1, 2, none⟩ (.slice aa m8 cc)) (Below.heap_setCell _ _ _ _ (show x4 ≠ x1 by have := HX4.out; have := HXX.out; have := HB6S.out; omega)) (by simp))
          have HB9 : Hid (Below w.heap.size w (w8.setCell ⟨x1, 2, none⟩ (.slice aa m8 cc))) := Lib.hid ((HB.out.trans ((HB6.out.trans (hb8.mono HB6.out.size)).mono HB.out.size)).setCell (p := ⟨x1, 2, none⟩) (show w.heap.size ≤ x1 by have := HXX.out; omega) _)
          have HG2b := Lib.hid (((HG2.out.below HB6.out).below hb8).kp (w' := w8.setCell ⟨x1, 2, none⟩ (.slice aa m8 cc)) (Below.heap_setCell _ _ _ _ (show x2 ≠ x1 by have := HXX.out; omega)) (by simp))
          have HG3b := Lib.hid (((HG3.out.below HB6.out).below hb8).kp (w' := w8.setCell ⟨x1, 2, none⟩ (.slice aa m8 cc)) (Below.heap_setCell _ _ _ _ (show x3 ≠ x1 by have := HXX.out; omega)) (by simp))
          clear p0 p1 p2 pl pf0 pf1 pf2
          obtain ⟨p0, p1, p2, pl, pf0, pf1, pf2⟩ := g1
          clear hown8 hgrow8 hb8 hsv hg1
          go_upto_region 10 with fail
          obtain ⟨W9, hW9⟩ : ∃ W9, W9 = w8.setCell ⟨x1, 2, none⟩ (.slice aa m8 cc) := ⟨_, rfl⟩
          rw [← hW9] at HF1 HL4 HB9 HG2b HG3b ⊢
          have HW9 := Lib.hid hW9
          have HK9 : Hid (∀ g, w6.heap.size ≤ g → W9.heap[g]? = w8.heap[g]?) := Lib.hid fun g hg => by
            rw [hW9]
            exact Below.heap_setCell _ _ _ _ (show g ≠ x1 by have := HXX.out; have := HB6S.out; omega)
          have HS9 : Hid (W9.heap.size = w8.heap.size) := Lib.hid (by rw [hW9]; simp)
          clear hW9 p0 p1 p2 pl pf0 pf1 pf2
          obtain ⟨p0, p1, p2, pl, -, -, -⟩ := HF1.out
          obtain ⟨s0, s1, s2, sl, -, -, -⟩ := HL4.out
          obtain ⟨q0, q1, q2, ql, qf0, qf1, qf2⟩ := HG2b.out
          obtain ⟨r0, r1, r2, rl, rf0, rf1, rf2⟩ := HG3b.out
          have hn23 : ¬ x2 = x3 := by have := HXX.out; omega
          have hn32 : ¬ x3 = x2 := by have := HXX.out; omega
          have hn24 : ¬ x2 = x4 := by have := HXX.out; have := HX4.out; omega
          have hn42 : ¬ x4 = x2 := by have := HXX.out; have := HX4.out; omega
          go_region
          all_goals
            go_wp2_with fail
            refine bodyPost_ret (v := .tuple #[.agg #[.int .i64 (n : Int), .int .i64 (c : Int), .slice aa m8 cc], lv lk, .int .i64 0]) ?_ rfl ?_
            · have hne : x3 ≠ x2 := hn32
              exact rtake_res _ _ x2 x3 _ _ _ _ _ ((HG2b.out).store.kp (set3_heap _ (Ne.symm hne) _ _ _) (by simp)).drew rfl (((HG3b.out).kp (w' := set3 W9 x2 (.int .i64 (n : Int)) (.int .i64 (c : Int)) (.slice aa m8 cc)) (set3_heap _ hne _ _ _) (by simp)).store lk).drew rfl rfl rfl
            · have hbf := set3_below (set3_below HB9.out (x := x2) (by have := HXX.out; omega) (.int .i64 (n : Int)) (.int .i64 (c : Int)) (.slice aa m8 cc)) (x := x3) (by have := HXX.out; omega) (.int .i64 lk.fr) (.int .i64 lk.to) (.string lk.tx)
              have ho : w8.ownsRow w6.heap.size 39 3 (.slice aa m8 cc) m8 (lcs (L.take k ++ L.drop cap)) := by
                have h := HO8.out
                rw [HSV.out, HM8.out] at h
                exact h
              obtain ⟨hr, hc1, hc2⟩ := own_rdl ho HM8.out
              have hgo : ∀ g, aa = some ⟨g, 0, none⟩ → w6.heap.size ≤ g := fun g hg => (ho.lt g (by rw [hg]; rfl)).1
              have hr9 : RefB W9 aa m8 cc (L.take k ++ L.drop cap) := ⟨HM8.out, hr.kp (fun g hg => HK9.out g (hgo g hg)) (by rw [HS9.out]; exact Nat.le_refl _), hc1, hc2⟩
              have hrf := (hr9.set3 (x := x2) (fun g hg => by have := hgo g hg; have := HXX.out; have := HB6S.out; omega) (.int .i64 (n : Int)) (.int .i64 (c : Int)) (.slice aa m8 cc)).set3 (x := x3) (fun g hg => by have := hgo g hg; have := HXX.out; have := HB6S.out; omega) (.int .i64 lk.fr) (.int .i64 lk.to) (.string lk.tx)
              have hrf := hrf.drew
              have hbf := hbf.drew
              have hq1 := HQ1.out
              rw [HE.out.2.1, HE.out.2.2, hq1.1]
              rw [← HM8.out] at hrf hbf ⊢
              exact ⟨aa, cc, L.take k ++ L.drop cap, rfl, hrf, hq1.2, by rw [HM8.out, HMM.out]; omega, hbf, Or.inr fun g hg => (by have := hgo g hg; have := HXX.out; have := HB6S.out; omega)⟩
        · have hlt : k1 < cap := by omega
          have hlti : (k1 : Int) < (cap : Int) := by omega
          go_wp2_with (at_builtin; refine wpList_append_own _ rfl (.tmp 41) (.tmp 46) 28 rfl w6.heap.size 39 i0 (.agg #[.int .i64 0, .int .i64 0, .string ⟨#[]⟩]) 3 32 Try.underlying28 hi hz0 hz1 hz2 rfl (by decide) _ _ _ rfl HO7.out ⟨g2, k1 * 3, none⟩ (len - k1) (cap - k1) (lcs (L.drop k1)) rfl ?f1 ?f2 ?f3 ?f4 ?f5 ?f6 ?_)
          case f1 => rw [lcs_len, List.length_drop, HLL.out]
          case f2 => exact HLT7.out.cells k1
          case f3 => exact lcs_one _
          case f4 => unfold maxLen; omega
          case f5 => omega
          case f6 => exact HB7.out.size
          intro v8 w8 hown8 hgrow8 _
          obtain ⟨x8, rfl⟩ := own_sV hown8
          have hb8 : Below w6.heap.size w6 w8 := HB7.out.grown hgrow8 HB7.out.size (fun k hk => (HO7.out.lt k hk).1)
          have HO8 : Hid (w8.ownsRow w6.heap.size 39 3 (sV x8) (L.take k ++ L.drop k1).length (lcs (L.take k ++ L.drop k1))) := Lib.hid (by
            have h := hown8
            rw [lcs_app, HM8.out]
            have e : k + (len - k1) = m8 := HMM.out.symm
            rw [e] at h
            exact h)
          have HB8 := Lib.hid hb8
          have g1 := (HG1.out.below HB6.out).below hb8
          have hg1 := g1.set2 (sV x8)
          obtain ⟨aa, cc, hsv, _⟩ := own_len HO8.out
          rw [HM8.out] at hsv
          have HSV := Lib.hid hsv
          rw [hsv] at hg1 ⊢
          have HF1 := Lib.hid hg1
          have HL4 := Lib.hid ((HL6.out.below hb8).kp (w' := w8.setCell ⟨x1, 2, none⟩ (.slice aa m8 cc)) (Below.heap_setCell _ _ _ _ (show x4 ≠ x1 by have := HX4.out; have := HXX.out; have := HB6S.out; omega)) (by simp))
          have HB9 : Hid (Below w.heap.size w (w8.setCell ⟨x1, 2, none⟩ (.slice aa m8 cc))) := Lib.hid ((HB.out.trans ((HB6.out.trans (hb8.mono HB6.out.size)).mono HB.out.size)).setCell (p := ⟨x1, 2, none⟩) (show w.heap.size ≤ x1 by have := HXX.out; omega) _)
          have HG2b := Lib.hid (((HG2.out.below HB6.out).below hb8).kp (w' := w8.setCell ⟨x1, 2, none⟩ (.slice aa m8 cc)) (Below.heap_setCell _ _ _ _ (show x2 ≠ x1 by have := HXX.out; omega)) (by simp))
          have HG3b := Lib.hid (((HG3.out.below HB6.out).below hb8).kp (w' := w8.setCell ⟨x1, 2, none⟩ (.slice aa m8 cc)) (Below.heap_setCell _ _ _ _ (show x3 ≠ x1 by have := HXX.out; omega)) (by simp))
          clear p0 p1 p2 pl pf0 pf1 pf2
          obtain ⟨p0, p1, p2, pl, pf0, pf1, pf2⟩ := g1
          clear hown8 hgrow8 hb8 hsv hg1
          go_upto_region 10 with fail
          obtain ⟨W9, hW9⟩ : ∃ W9, W9 = w8.setCell ⟨x1, 2, none⟩ (.slice aa m8 cc) := ⟨_, rfl⟩
          rw [← hW9] at HF1 HL4 HB9 HG2b HG3b ⊢
          have HW9 := Lib.hid hW9
          have HK9 : Hid (∀ g, w6.heap.size ≤ g → W9.heap[g]? = w8.heap[g]?) := Lib.hid fun g hg => by
            rw [hW9]
            exact Below.heap_setCell _ _ _ _ (show g ≠ x1 by have := HXX.out; have := HB6S.out; omega)
          have HS9 : Hid (W9.heap.size = w8.heap.size) := Lib.hid (by rw [hW9]; simp)
          clear hW9 p0 p1 p2 pl pf0 pf1 pf2
          obtain ⟨p0, p1, p2, pl, -, -, -⟩ := HF1.out
          obtain ⟨s0, s1, s2, sl, -, -, -⟩ := HL4.out
          obtain ⟨q0, q1, q2, ql, qf0, qf1, qf2⟩ := HG2b.out
          obtain ⟨r0, r1, r2, rl, rf0, rf1, rf2⟩ := HG3b.out
          have hn23 : ¬ x2 = x3 := by have := HXX.out; omega
          have hn32 : ¬ x3 = x2 := by have := HXX.out; omega
          have hn24 : ¬ x2 = x4 := by have := HXX.out; have := HX4.out; omega
          have hn42 : ¬ x4 = x2 := by have := HXX.out; have := HX4.out; omega
          go_region
          all_goals
            go_wp2_with fail
            refine bodyPost_ret (v := .tuple #[.agg #[.int .i64 (n : Int), .int .i64 (c : Int), .slice aa m8 cc], lv lk, .int .i64 0]) ?_ rfl ?_
            · have hne : x3 ≠ x2 := hn32
              exact rtake_res _ _ x2 x3 _ _ _ _ _ ((HG2b.out).store.kp (set3_heap _ (Ne.symm hne) _ _ _) (by simp)).drew rfl (((HG3b.out).kp (w' := set3 W9 x2 (.int .i64 (n : Int)) (.int .i64 (c : Int)) (.slice aa m8 cc)) (set3_heap _ hne _ _ _) (by simp)).store lk).drew rfl rfl rfl
            · have hbf := set3_below (set3_below HB9.out (x := x2) (by have := HXX.out; omega) (.int .i64 (n : Int)) (.int .i64 (c : Int)) (.slice aa m8 cc)) (x := x3) (by have := HXX.out; omega) (.int .i64 lk.fr) (.int .i64 lk.to) (.string lk.tx)
              have ho : w8.ownsRow w6.heap.size 39 3 (.slice aa m8 cc) m8 (lcs (L.take k ++ L.drop k1)) := by
                have h := HO8.out
                rw [HSV.out, HM8.out] at h
                exact h
              obtain ⟨hr, hc1, hc2⟩ := own_rdl ho HM8.out
              have hgo : ∀ g, aa = some ⟨g, 0, none⟩ → w6.heap.size ≤ g := fun g hg => (ho.lt g (by rw [hg]; rfl)).1
              have hr9 : RefB W9 aa m8 cc (L.take k ++ L.drop k1) := ⟨HM8.out, hr.kp (fun g hg => HK9.out g (hgo g hg)) (by rw [HS9.out]; exact Nat.le_refl _), hc1, hc2⟩
              have hrf := (hr9.set3 (x := x2) (fun g hg => by have := hgo g hg; have := HXX.out; have := HB6S.out; omega) (.int .i64 (n : Int)) (.int .i64 (c : Int)) (.slice aa m8 cc)).set3 (x := x3) (fun g hg => by have := hgo g hg; have := HXX.out; have := HB6S.out; omega) (.int .i64 lk.fr) (.int .i64 lk.to) (.string lk.tx)
              have hrf := hrf.drew
              have hbf := hbf.drew
              have hq1 := HQ1.out
              rw [HE.out.2.1, HE.out.2.2, hq1.1]
              rw [← HM8.out] at hrf hbf ⊢
              exact ⟨aa, cc, L.take k ++ L.drop k1, rfl, hrf, hq1.2, by rw [HM8.out, HMM.out]; omega, hbf, Or.inr fun g hg => (by have := hgo g hg; have := HXX.out; have := HB6S.out; omega)⟩
  · have hp' : place n c tp = false := by simpa using hp
    have hf1 : fndE n c q tp at_ = 1 := by unfold fndE; rw [if_neg hp]
    obtain rfl : E = 1 := by rw [HE.out.1]; exact hf1
    have HBD : Hid (¬ fndE n c q tp at_ = 0) := Lib.hid (by rw [hf1]; decide)
    clear hf1
    go_wp2_with fail
    refine (rplace15_any n c a len cap tp HT.out _).mono ?_
    rintro e w4 ⟨rfl, b4⟩
    rw [hp']
    have HB4 := Lib.hid (HB0.out.trans (b4.mono HB0.out.size))
    clear b4
    clear p0 p1 p2 pl pf0 pf1 pf2 q0 q1 q2 ql qf0 qf1 qf2 r0 r1 r2 rl rf0 rf1 rf2
    obtain ⟨p0, p1, p2, pl, pf0, pf1, pf2⟩ := HG1.out.below HB4.out
    obtain ⟨q0, q1, q2, ql, qf0, qf1, qf2⟩ := HG2.out.below HB4.out
    obtain ⟨r0, r1, r2, rl, rf0, rf1, rf2⟩ := HG3.out.below HB4.out
    have hn23 : ¬ x2 = x3 := by have := HXX.out; omega
    have hn32 : ¬ x3 = x2 := by have := HXX.out; omega
    go_wp2_with fail
    refine bodyPost_ret (v := .tuple #[.agg #[.int .i64 (n : Int), .int .i64 (c : Int), .slice a len cap], lv zL, .int .i64 1]) ?_ rfl ?_
    · have hne : x3 ≠ x2 := by have := HXX.out; omega
      exact rtake_res _ _ x2 x3 _ _ _ _ _ ((HG2.out.below HB4.out).store.kp (set3_heap _ (Ne.symm hne) _ _ _) (by simp)) rfl (((HG3.out.below HB4.out).kp (w' := set3 w4 x2 (.int .i64 (n : Int)) (.int .i64 (c : Int)) (.slice a len cap)) (set3_heap _ hne _ _ _) (by simp)).store zL) rfl rfl rfl
    · have hbf := set3_below (set3_below (HB.out.trans (HB4.out.mono HB.out.size)) (x := x2) (by have := HXX.out; omega) (.int .i64 (n : Int)) (.int .i64 (c : Int)) (.slice a len cap)) (x := x3) (by have := HXX.out; omega) (.int .i64 0) (.int .i64 0) (.string ⟨#[]⟩)
      have hr := H0.out.old hbf
      have hll := HLL.out
      subst hll
      rw [HE.out.2.2, (fndL_bad HBD.out).1]
      exact ⟨a, cap, L, rfl, hr, by rw [HE.out.2.1, (fndL_bad HBD.out).2]; exact HQQ.out, by omega, hbf, .inl ⟨rfl, rfl⟩⟩
end Go.Proofs.Ytkljokmhfoannaa
