/-
  Layer 15 (bag): contracts of the document's Twice. Conditions: lists of at most 1000 letters.
-/
import Derived.Test.YtkljokmhfoannaaIw
namespace Go.Proofs.Ytkljokmhfoannaa
open Go.RowKit Go.Maps
set_option linter.unusedVariables false
set_option linter.unusedSimpArgs false

theorem fn_some {n c : Nat} {q : Wq} {L : List Lt} (hq : Has15 q L) {tp : Int} {A k : Nat} (hp : place n c tp = true) (h : idx tp L A = some k) : ∃ hk : k < L.length, fndE n c q tp (A : Int) = 0 ∧ fndL n c q tp (A : Int) = L[k] ∧ Has15 (takeQ n c q tp (A : Int)) (L.take k ++ L.drop (k + 1)) := by
  obtain ⟨hk, ha, h1, h2, h3⟩ := idx_some h
  have hA : A < (q tp).length := by rw [hq tp]; exact ha
  have h0 : fndE n c q tp (A : Int) = 0 := fndE_zero.2 ⟨hp, by omega, by omega⟩
  refine ⟨hk, h0, ?_, ?_⟩
  · unfold fndL
    rw [if_pos h0, Int.toNat_natCast, List.getD_eq_getElem?_getD]
    rw [hq tp, List.getElem?_eq_getElem ha, Option.getD_some, h1]
  · unfold takeQ
    rw [if_pos h0, Int.toNat_natCast]
    exact hq.take h
theorem fn_none {n c : Nat} {q : Wq} {L : List Lt} (hq : Has15 q L) {tp : Int} {A : Nat} (hp : place n c tp = true) (h : idx tp L A = none) : fndE n c q tp (A : Int) = 3 := by
  have := idx_none.1 h
  unfold fndE
  rw [if_pos hp, if_neg (by rw [hq tp]; omega)]
theorem fn_neg {n c : Nat} {q : Wq} {tp at_ : Int} (hp : place n c tp = true) (h : at_ < 0) : fndE n c q tp at_ = 3 := by
  unfold fndE
  rw [if_pos hp, if_neg (by omega)]
theorem fnI_neg {tp at_ : Int} {L : List Lt} (h : at_ < 0) : fnI tp at_ L = -1 := by unfold fnI; rw [if_pos h]
theorem fnI_nat {tp : Int} {A : Nat} {L : List Lt} : fnI tp (A : Int) L = idN (idx tp L A) := by unfold fnI idN; rw [if_neg (by omega), Int.toNat_natCast]
set_option maxRecDepth 100000 in
set_option maxHeartbeats 8000000 in
theorem rtwice15_any (n c : Nat) (a : Option Addr) (len cap : Nat) (L : List Lt) (q : Wq) (tp at_ : Int) (w : World) (h : RefB w a len cap L) (hl : len ≤ 1000) (hq : Has15 q L) (ht : (Lit.int .i64 tp).wf = true) (hat : -9223372036854775808 ≤ at_ ∧ at_ ≤ 9223372036854775807) : Calls Try.prog 19 #[.agg #[.int .i64 (n : Int), .int .i64 (c : Int), .slice a len cap], .int .i64 tp, .int .i64 at_] w (RDO w a L n c (twQ n c q tp at_) (twE n c q tp at_) (len + 1)) := by
  have HT := Lib.hid ht
  have HQQ := Lib.hid hq
  have HAT := Lib.hid hat
  obtain ⟨E, hE⟩ : ∃ E, E = twE n c q tp at_ := ⟨_, rfl⟩
  obtain ⟨Q, hQ⟩ : ∃ Q, Q = twQ n c q tp at_ := ⟨_, rfl⟩
  rw [← hE, ← hQ]
  have HE := Lib.hid (And.intro hE hQ)
  have HLL := Lib.hid h.1
  clear ht hq hE hQ hat
  have hb1 := bal (Below.refl _ w) (.cells #[.int .i64 (n : Int), .int .i64 (c : Int), .slice a len cap] 30)
  have hq1 := QBox.new w n c (.slice a len cap)
  obtain ⟨w1, hw1⟩ : ∃ w1, w1 = w.alloc (.cells #[.int .i64 (n : Int), .int .i64 (c : Int), .slice a len cap] 30) := ⟨_, rfl⟩
  rw [← hw1] at hb1 hq1
  have hs1 : w1.heap.size = w.heap.size + 1 := by rw [hw1]; simp
  have hb2 := bal (Below.refl _ w1) (.cells #[.int .i64 0, .int .i64 0, .slice none 0 0] 30)
  have hq2 := QBox.new w1 0 0 (.slice none 0 0)
  obtain ⟨w2, hw2⟩ : ∃ w2, w2 = w1.alloc (.cells #[.int .i64 0, .int .i64 0, .slice none 0 0] 30) := ⟨_, rfl⟩
  rw [← hw2] at hb2 hq2
  have hs2 : w2.heap.size = w1.heap.size + 1 := by rw [hw2]; simp
  have HQ1 := Lib.hid (hq1.below hb2)
  have HQ2 := Lib.hid hq2
  have HB := Lib.hid (bt hb1 hb2)
  have HR := Lib.hid (h.old HB.out)
  have H0 := Lib.hid h
  have HW := Lib.hid (And.intro hw1 (hw2))
  have HS := Lib.hid (And.intro hs1 (hs2))
  clear hb1 hq1 hw1 hs1 hb2 hq2 hw2 hs2 h
  go_enter Try.func19, Try.ntmps19
  go_upto_region 1 with fail
  rw [← HW.out.1, ← HW.out.2]
  obtain ⟨x2, hx2⟩ : ∃ x2, x2 = w.heap.size + 1 := ⟨_, rfl⟩
  obtain ⟨x1, hx1⟩ : ∃ x1, x1 = w.heap.size := ⟨_, rfl⟩
  rw [← hx2, ← hx1]
  have HG1 : Hid (QBox w2 x1 n c (.slice a len cap)) := Lib.hid (by rw [hx1]; exact HQ1.out)
  have HG2 : Hid (QBox w2 x2 0 0 (.slice none 0 0)) := Lib.hid (by rw [hx2, ← HS.out.1]; exact HQ2.out)
  have HXX : Hid (x1 = w.heap.size + 0 ∧ x2 = w.heap.size + 1 ∧ w2.heap.size = w.heap.size + 2) := Lib.hid (by have := HS.out; omega)
  clear hx1 hx2 HS HW HQ1 HQ2
  have HB0 : Hid (Below w2.heap.size w2 w2) := Lib.hid (Below.refl _ _)
  obtain ⟨p0, p1, p2, pl, pf0, pf1, pf2⟩ := HG1.out.below HB0.out
  obtain ⟨q0, q1, q2, ql, qf0, qf1, qf2⟩ := HG2.out.below HB0.out
  by_cases hp : place n c tp = true
  · go_wp2_with fail
    refine (rplace15_any n c a len cap tp HT.out _).mono ?_
    rintro e w3 ⟨rfl, b3⟩
    rw [hp]
    have HB3 := Lib.hid (HB0.out.trans (b3.mono HB0.out.size))
    clear b3
    clear p0 p1 p2 pl pf0 pf1 pf2 q0 q1 q2 ql qf0 qf1 qf2
    obtain ⟨p0, p1, p2, pl, pf0, pf1, pf2⟩ := HG1.out.below HB3.out
    obtain ⟨q0, q1, q2, ql, qf0, qf1, qf2⟩ := HG2.out.below HB3.out
    have HP := Lib.hid hp
    have HFN := Lib.hid (fun (w' : World) (hb : Below w2.heap.size w2 w') => rfind15_any n c a len cap L tp at_ HAT.out w' (HR.out.old hb) hl)
    clear hp
    by_cases hneg : at_ < 0
    · rw [fnI_neg hneg] at HFN
      have hf3 := fn_neg (q := q) HP.out hneg
      obtain rfl : E = 3 := by rw [HE.out.1]; unfold twE; rw [hf3, if_neg (by decide)]
      have HQ1 : Hid (twQ n c q tp at_ = q) := Lib.hid (by unfold twQ; rw [hf3, if_neg (by decide)])
      clear hf3
      go_wp2_with fail
      refine (HFN.out _ HB3.out).mono ?_
      rintro e w4 ⟨rfl, b4⟩
      have HB4 := Lib.hid (HB3.out.trans (b4.mono HB3.out.size))
      clear b4
      clear p0 p1 p2 pl pf0 pf1 pf2 q0 q1 q2 ql qf0 qf1 qf2
      obtain ⟨p0, p1, p2, pl, pf0, pf1, pf2⟩ := HG1.out.below HB4.out
      obtain ⟨q0, q1, q2, ql, qf0, qf1, qf2⟩ := HG2.out.below HB4.out
      go_wp2_with fail
      refine bodyPost_ret (v := .tuple #[.agg #[.int .i64 (n : Int), .int .i64 (c : Int), .slice a len cap], .int .i64 3]) ?_ rfl ?_
      · exact twice_res _ _ x2 _ _ _ _ (HG2.out.below HB4.out).store rfl rfl rfl
      · have hbf := set3_below (HB.out.trans (HB4.out.mono HB.out.size)) (x := x2) (by have := HXX.out; omega) (.int .i64 (n : Int)) (.int .i64 (c : Int)) (.slice a len cap)
        have hr := H0.out.old hbf
        have hll := HLL.out
        subst hll
        exact ⟨a, cap, L, rfl, hr, by rw [HE.out.2, HQ1.out]; exact HQQ.out, by omega, hbf, .inl ⟨rfl, rfl⟩⟩
    · obtain ⟨A, rfl⟩ : ∃ A : Nat, at_ = (A : Int) := ⟨at_.toNat, by omega⟩
      rw [fnI_nat] at HFN
      cases hix : idx tp L A with
      | none =>
        rw [hix, show idN none = -1 from rfl] at HFN
        have hf3 := fn_none HQQ.out HP.out hix
        obtain rfl : E = 3 := by rw [HE.out.1]; unfold twE; rw [hf3, if_neg (by decide)]
        have HQ1 : Hid (twQ n c q tp (A : Int) = q) := Lib.hid (by unfold twQ; rw [hf3, if_neg (by decide)])
        clear hf3 hix
        go_wp2_with fail
        refine (HFN.out _ HB3.out).mono ?_
        rintro e w4 ⟨rfl, b4⟩
        have HB4 := Lib.hid (HB3.out.trans (b4.mono HB3.out.size))
        clear b4
        clear p0 p1 p2 pl pf0 pf1 pf2 q0 q1 q2 ql qf0 qf1 qf2
        obtain ⟨p0, p1, p2, pl, pf0, pf1, pf2⟩ := HG1.out.below HB4.out
        obtain ⟨q0, q1, q2, ql, qf0, qf1, qf2⟩ := HG2.out.below HB4.out
        go_wp2_with fail
        refine bodyPost_ret (v := .tuple #[.agg #[.int .i64 (n : Int), .int .i64 (c : Int), .slice a len cap], .int .i64 3]) ?_ rfl ?_
        · exact twice_res _ _ x2 _ _ _ _ (HG2.out.below HB4.out).store rfl rfl rfl
        · have hbf := set3_below (HB.out.trans (HB4.out.mono HB.out.size)) (x := x2) (by have := HXX.out; omega) (.int .i64 (n : Int)) (.int .i64 (c : Int)) (.slice a len cap)
          have hr := H0.out.old hbf
          have hll := HLL.out
          subst hll
          exact ⟨a, cap, L, rfl, hr, by rw [HE.out.2, HQ1.out]; exact HQQ.out, by omega, hbf, .inl ⟨rfl, rfl⟩⟩
      | some k =>
        rw [hix, show idN (some k) = (k : Int) from rfl] at HFN
        obtain ⟨hk, f0, f1, -⟩ := fn_some HQQ.out HP.out hix
        obtain ⟨lk, hlk⟩ : ∃ lk, lk = L[k] := ⟨_, rfl⟩
        rw [← hlk] at f1
        have hsm := q_small HQQ.out lk.to (by rw [HLL.out]; exact hl)
        have hsm2 := q_small HQQ.out tp (by rw [HLL.out]; exact hl)
        obtain rfl : E = 0 := by rw [HE.out.1]; unfold twE layE; rw [if_pos f0, f1, if_pos hsm]
        have HQ1 : Hid (Has15 (twQ n c q tp (A : Int)) (L ++ [lk])) := Lib.hid (by unfold twQ; rw [if_pos f0, f1]; exact HQQ.out.lay _ hsm)
        obtain ⟨m, hm⟩ : ∃ m, m = (L.filter (atP tp)).length := ⟨_, rfl⟩
        have hm1 : m < 1024 := by rw [hm, len_filter HQQ.out]; exact hsm2
        have HWT := Lib.hid (fun (w' : World) (hb : Below w2.heap.size w2 w') => rwaits15_any n c a len cap L tp w' (HR.out.old hb) hl)
        rw [← hm] at HWT
        have hm2 : ¬ (1024 : Int) ≤ (m : Int) := by omega
        have HKL := Lib.hid hk
        have hkl : k < len := by rw [← HLL.out]; exact hk
        have hki : (k : Int) < (len : Int) := by omega
        have HLK := Lib.hid hlk
        have HWH := Lib.hid (fun (w' : World) (hb : Below w2.heap.size w2 w') => rwith15_any n c a len cap L lk w' (HR.out.old hb) hl)
        clear f0 f1 hsm hsm2 hm hix hlk
        go_wp2_with fail
        refine (HFN.out _ HB3.out).mono ?_
        rintro e w4 ⟨rfl, b4⟩
        have HB4 := Lib.hid (HB3.out.trans (b4.mono HB3.out.size))
        clear b4
        clear p0 p1 p2 pl pf0 pf1 pf2 q0 q1 q2 ql qf0 qf1 qf2
        obtain ⟨p0, p1, p2, pl, pf0, pf1, pf2⟩ := HG1.out.below HB4.out
        obtain ⟨q0, q1, q2, ql, qf0, qf1, qf2⟩ := HG2.out.below HB4.out
        go_wp2_with fail
        refine (HWT.out _ HB4.out).mono ?_
        rintro e w5 ⟨rfl, b5⟩
        have HB5 := Lib.hid (HB4.out.trans (b5.mono HB4.out.size))
        clear b5
        clear p0 p1 p2 pl pf0 pf1 pf2 q0 q1 q2 ql qf0 qf1 qf2
        obtain ⟨p0, p1, p2, pl, pf0, pf1, pf2⟩ := HG1.out.below HB5.out
        obtain ⟨q0, q1, q2, ql, qf0, qf1, qf2⟩ := HG2.out.below HB5.out
        obtain ⟨g, hag, hgl, hat⟩ := (HR.out.2.1.old HB5.out).at_ HKL.out
        subst hag
        obtain ⟨z0, z1, z2⟩ := hat k HKL.out
        rw [Nat.zero_add, ← HLK.out] at z0 z1 z2
        have d0 : w5.drew.cell? ⟨x1, 0, none⟩ = some (.int .i64 (n : Int)) := p0
        have d1 : w5.drew.cell? ⟨x1, 1, none⟩ = some (.int .i64 (c : Int)) := p1
        have d2 : w5.drew.cell? ⟨x1, 2, none⟩ = some (.slice (some ⟨g, 0, none⟩) len cap) := p2
        have d3 : w5.drew.cell? ⟨g, k * 3, none⟩ = some (.int .i64 lk.fr) := z0
        have d4 : w5.drew.cell? ⟨g, k * 3 + 1, none⟩ = some (.int .i64 lk.to) := z1
        have d5 : w5.drew.cell? ⟨g, k * 3 + 2, none⟩ = some (.string lk.tx) := z2
        have HBD := Lib.hid (HB5.out.drew)
        clear hat
        go_upto_region 8 with fail
        refine mixed_region (D := (fun w' => w'.cell? ⟨x1, 0, none⟩ = some (.int .i64 (n : Int)) ∧ w'.cell? ⟨x1, 1, none⟩ = some (.int .i64 (c : Int)) ∧ w'.cell? ⟨x1, 2, none⟩ = some (.slice (some ⟨g, 0, none⟩) len cap) ∧ w'.cell? ⟨g, k * 3, none⟩ = some (.int .i64 lk.fr) ∧ w'.cell? ⟨g, k * 3 + 1, none⟩ = some (.int .i64 lk.to) ∧ w'.cell? ⟨g, k * 3 + 2, none⟩ = some (.string lk.tx))) [0, 1, 2, 3, 4, 5] [6, 7, 8] 8 (by kernel_rfl) (by kernel_rfl) (by decide) (⟨d0, d1, d2, d3, d4, d5⟩) ?_
        simp only [List.filterMap_cons, List.filterMap_nil, List.getElem?_cons_zero, List.getElem?_cons_succ]
        repeat (
          (first
           | (refine calm_move _ rfl ?_)
           | (apply calm_cons
              · (intro w' hw'
                 obtain ⟨hwa', hwb', hwc', hwd', hwe', hwf'⟩ := hw'
                 go_simp
                 first
                 | done
                 | exact rfl)))
          simp only [Act.put, Act.eval, List.setIfInBounds_toArray, List.set_cons_zero, List.set_cons_succ, Array.getD_eq_getD_getElem?, List.getElem?_toArray, List.getElem?_cons_zero, List.getElem?_cons_succ, Option.getD_some])
        refine calm_nil ?_
        have HD := Lib.hid (And.intro (And.intro d0 (And.intro d1 d2)) (And.intro d3 (And.intro d4 d5)))
        have HGL := Lib.hid (And.intro pl hgl)
        clear d0 d1 d2 d3 d4 d5 z0 z1 z2
        refine loud_cons fun K hK => ?_
        go_wp2_with fail
        refine (HWH.out _ HBD.out).mono ?_
        rintro e w7 ⟨a7, c7, rfl, hr7, b7, hg7⟩
        have HB7 := Lib.hid (HBD.out.trans (b7.mono HBD.out.size))
        have HC7 := Lib.hid (bcell b7)
        have HR7 := Lib.hid hr7
        have HG7 := Lib.hid (fun g hg => Nat.le_trans HBD.out.size (hg7 g hg))
        clear b7 hr7 hg7
        obtain ⟨m7, hm7⟩ : ∃ m7, m7 = (L ++ [lk]).length := ⟨_, rfl⟩
        rw [← hm7]
        have HM7 := Lib.hid hm7
        clear hm7
        go_wp2_with fail
        refine hK _ _ (fun _ => ?_) ?_
        · obtain ⟨⟨d0, d1, d2⟩, d3, d4, d5⟩ := HD.out
          exact ⟨(HC7.out.1 _ _ HGL.out.1).trans d0, (HC7.out.1 _ _ HGL.out.1).trans d1, (HC7.out.1 _ _ HGL.out.1).trans d2, (HC7.out.1 _ _ HGL.out.2).trans d3, (HC7.out.1 _ _ HGL.out.2).trans d4, (HC7.out.1 _ _ HGL.out.2).trans d5⟩
        clear hK K
        clear p0 p1 p2 pl pf0 pf1 pf2 q0 q1 q2 ql qf0 qf1 qf2
        obtain ⟨p0, p1, p2, pl, pf0, pf1, pf2⟩ := HG1.out.below HB7.out
        obtain ⟨q0, q1, q2, ql, qf0, qf1, qf2⟩ := HG2.out.below HB7.out
        have HGX : Hid (g ≠ x2) := Lib.hid (by
          rcases H0.out.2.1 with h0 | ⟨g', hg', hgl', _⟩
          · have := HKL.out; rw [h0] at this; cases this
          · cases hg'; have := HXX.out; omega)
        refine loud_cons fun K hK => ?_
        go_wp2_with fail
        refine hK _ _ (fun _ => ?_) ?_
        · have hne1 : x1 ≠ x2 := by have := HXX.out; omega
          have hs : ∀ {y : Nat} (hy : y ≠ x2) (o : Nat) (u v z : Value), (((w7.setCell ⟨x2, 0, none⟩ u).setCell ⟨x2, 1, none⟩ v).setCell ⟨x2, 2, none⟩ z).cell? ⟨y, o, none⟩ = w7.cell? ⟨y, o, none⟩ := fun {y} hy o u v z => World.cell?_of_block (w := w7) (a := ⟨y, o, none⟩) (((Below.heap_setCell _ _ _ _ hy).trans (Below.heap_setCell _ _ _ _ hy)).trans (Below.heap_setCell _ _ _ _ hy))
          obtain ⟨⟨d0, d1, d2⟩, d3, d4, d5⟩ := HD.out
          exact ⟨(hs hne1 _ _ _ _).trans ((HC7.out.1 _ _ HGL.out.1).trans d0), (hs hne1 _ _ _ _).trans ((HC7.out.1 _ _ HGL.out.1).trans d1), (hs hne1 _ _ _ _).trans ((HC7.out.1 _ _ HGL.out.1).trans d2), (hs HGX.out _ _ _ _).trans ((HC7.out.1 _ _ HGL.out.2).trans d3), (hs HGX.out _ _ _ _).trans ((HC7.out.1 _ _ HGL.out.2).trans d4), (hs HGX.out _ _ _ _).trans ((HC7.out.1 _ _ HGL.out.2).trans d5)⟩
        clear hK K
        refine loud_cons fun K hK => ?_
        go_wp2_with fail
        refine hK _ _ (fun h => absurd rfl h) ?_
        clear hK K
        refine loud_nil ?_
        go_wp2_with fail
        refine bodyPost_ret (v := .tuple #[.agg #[.int .i64 (n : Int), .int .i64 (c : Int), .slice a7 m7 c7], .int .i64 0]) ?_ rfl ?_
        · exact twice_res _ _ x2 _ _ _ _ (HG2.out.below HB7.out).store rfl rfl rfl
        · have hbf := set3_below (HB.out.trans (HB7.out.mono HB.out.size)) (x := x2) (by have := HXX.out; omega) (.int .i64 (n : Int)) (.int .i64 (c : Int)) (.slice a7 m7 c7)
          have hr := HR7.out.set3 (x := x2) (fun g hg => by have := HG7.out g hg; have := HXX.out; omega) (.int .i64 (n : Int)) (.int .i64 (c : Int)) (.slice a7 m7 c7)
          rw [HM7.out] at hbf hr ⊢
          exact ⟨a7, c7, L ++ [lk], rfl, hr, by rw [HE.out.2]; exact HQ1.out, by rw [List.length_append, HLL.out]; simp, hbf, Or.inr fun g hg => (by have := HG7.out g hg; have := HXX.out; omega)⟩
  · have hp' : place n c tp = false := by simpa using hp
    have hf1 : fndE n c q tp at_ = 1 := by unfold fndE; rw [if_neg hp]
    obtain rfl : E = 1 := by rw [HE.out.1]; unfold twE; rw [hf1, if_neg (by decide)]
    have HQ1 : Hid (twQ n c q tp at_ = q) := Lib.hid (by unfold twQ; rw [hf1, if_neg (by decide)])
    clear hf1
    go_wp2_with fail
    refine (rplace15_any n c a len cap tp HT.out _).mono ?_
    rintro e w3 ⟨rfl, b3⟩
    rw [hp']
    have HB3 := Lib.hid (HB0.out.trans (b3.mono HB0.out.size))
    clear b3
    clear p0 p1 p2 pl pf0 pf1 pf2 q0 q1 q2 ql qf0 qf1 qf2
    obtain ⟨p0, p1, p2, pl, pf0, pf1, pf2⟩ := HG1.out.below HB3.out
    obtain ⟨q0, q1, q2, ql, qf0, qf1, qf2⟩ := HG2.out.below HB3.out
    go_wp2_with fail
    refine bodyPost_ret (v := .tuple #[.agg #[.int .i64 (n : Int), .int .i64 (c : Int), .slice a len cap], .int .i64 1]) ?_ rfl ?_
    · exact twice_res _ _ x2 _ _ _ _ (HG2.out.below HB3.out).store rfl rfl rfl
    · have hbf := set3_below (HB.out.trans (HB3.out.mono HB.out.size)) (x := x2) (by have := HXX.out; omega) (.int .i64 (n : Int)) (.int .i64 (c : Int)) (.slice a len cap)
      have hr := H0.out.old hbf
      have hll := HLL.out
      subst hll
      exact ⟨a, cap, L, rfl, hr, by rw [HE.out.2, HQ1.out]; exact HQQ.out, by omega, hbf, .inl ⟨rfl, rfl⟩⟩
end Go.Proofs.Ytkljokmhfoannaa
