/-
  Layer 15 (bag): contracts of the document's Clear, Places. Conditions: lists of at most 1000 letters.
-/
import Derived.Test.YtkljokmhfoannaaIy
namespace Go.Proofs.Ytkljokmhfoannaa
open Go.RowKit Go.Maps
set_option linter.unusedVariables false
set_option linter.unusedSimpArgs false

def out15 (tp : Int) (L : List Lt) : List Lt := L.filter fun l => !atP tp l
theorem out_le (tp : Int) (L : List Lt) : (out15 tp L).length ≤ L.length := List.length_filter_le _ _
set_option maxRecDepth 100000 in
set_option maxHeartbeats 2000000 in
theorem rclear15_any (n c : Nat) (a : Option Addr) (len cap : Nat) (L : List Lt) (q : Wq) (tp : Int) (w : World) (h : RefB w a len cap L) (hl : len ≤ 1000) (hq : Has15 q L) (ht : (Lit.int .i64 tp).wf = true) : Calls Try.prog 21 #[.agg #[.int .i64 (n : Int), .int .i64 (c : Int), .slice a len cap], .int .i64 tp] w (RDO w a L n c (clQ n c q tp) (clE n c tp) len) := by
  obtain ⟨i0, hi, hz0, hz1, hz2⟩ := infoLt_parts
  have HT := Lib.hid ht
  have HQQ := Lib.hid hq
  obtain ⟨E, hE⟩ : ∃ E, E = clE n c tp := ⟨_, rfl⟩
  obtain ⟨Q, hQ⟩ : ∃ Q, Q = clQ n c q tp := ⟨_, rfl⟩
  rw [← hE, ← hQ]
  have HE := Lib.hid (And.intro hE hQ)
  have HLL := Lib.hid h.1
  clear ht hq hE hQ
  have hb1 := bal (Below.refl _ w) (.cells #[.int .i64 (n : Int), .int .i64 (c : Int), .slice a len cap] 30)
  have hq1 := QBox.new w n c (.slice a len cap)
  obtain ⟨w1, hw1⟩ : ∃ w1, w1 = w.alloc (.cells #[.int .i64 (n : Int), .int .i64 (c : Int), .slice a len cap] 30) := ⟨_, rfl⟩
  rw [← hw1] at hb1 hq1
  have hs1 : w1.heap.size = w.heap.size + 1 := by rw [hw1]; simp
  have hb2 := bal (Below.refl _ w1) (.cells #[.int .i64 0, .int .i64 0, .slice none 0 0] 30)
  have hq2 := QBox.new w1 0 0 (.slice none 0 0)
  obtain ⟨w2, hw2⟩ : ∃ w2, w2 = w1.alloc (.cells #[.int .i64 0, .int .i64 0, .slice none 0 0] 30) := ⟨_, rfl⟩
  rw [← hw2] at hb2 hq2
  have hs2 : w2.heap.size = w1.heap.size + 1 := by rw [hw2]; simp
  have HQ1 := Lib.hid (hq1.below hb2)
  have HQ2 := Lib.hid hq2
  have HB := Lib.hid (bt hb1 hb2)
  have HR := Lib.hid (h.old HB.out)
  have H0 := Lib.hid h
  have HW := Lib.hid (And.intro hw1 (hw2))
  have HS := Lib.hid (And.intro hs1 (hs2))
  clear hb1 hq1 hw1 hs1 hb2 hq2 hw2 hs2 h
  go_enter Try.func21, Try.ntmps21
  go_upto_region 1 with fail
  rw [← HW.out.1, ← HW.out.2]
  obtain ⟨x2, hx2⟩ : ∃ x2, x2 = w.heap.size + 1 := ⟨_, rfl⟩
  obtain ⟨x1, hx1⟩ : ∃ x1, x1 = w.heap.size := ⟨_, rfl⟩
  rw [← hx2, ← hx1]
  have HG1 : Hid (QBox w2 x1 n c (.slice a len cap)) := Lib.hid (by rw [hx1]; exact HQ1.out)
  have HG2 : Hid (QBox w2 x2 0 0 (.slice none 0 0)) := Lib.hid (by rw [hx2, ← HS.out.1]; exact HQ2.out)
  have HXX : Hid (x1 = w.heap.size + 0 ∧ x2 = w.heap.size + 1 ∧ w2.heap.size = w.heap.size + 2) := Lib.hid (by have := HS.out; omega)
  clear hx1 hx2 HS HW HQ1 HQ2
  have HB0 : Hid (Below w2.heap.size w2 w2) := Lib.hid (Below.refl _ _)
  obtain ⟨p0, p1, p2, pl, pf0, pf1, pf2⟩ := HG1.out.below HB0.out
  obtain ⟨q0, q1, q2, ql, qf0, qf1, qf2⟩ := HG2.out.below HB0.out
  by_cases hp : place n c tp = true
  · go_wp2_with fail
    refine (rplace15_any n c a len cap tp HT.out _).mono ?_
    rintro e w3 ⟨rfl, b3⟩
    rw [hp]
    have HB3 := Lib.hid (HB0.out.trans (b3.mono HB0.out.size))
    clear b3
    clear p0 p1 p2 pl pf0 pf1 pf2 q0 q1 q2 ql qf0 qf1 qf2
    obtain ⟨p0, p1, p2, pl, pf0, pf1, pf2⟩ := HG1.out.below HB3.out
    obtain ⟨q0, q1, q2, ql, qf0, qf1, qf2⟩ := HG2.out.below HB3.out
    obtain rfl : E = 0 := by rw [HE.out.1]; exact if_pos hp
    have HQ1 : Hid (clQ n c q tp = upd q tp []) := Lib.hid (if_pos hp)
    clear p0 p1 p2 pl pf0 pf1 pf2 q0 q1 q2 ql qf0 qf1 qf2
    clear hp
    go_upto_region 5 with fail
    go_loopw [7, 6] (fun i v wr => ∃ k : Nat, ∃ x : Sv, i = .int .i64 k ∧ k ≤ len ∧ v = sV x ∧ Hid (wr.ownsRow w2.heap.size 39 3 (sV x) (out15 tp (L.take k)).length (lcs (out15 tp (L.take k)))) ∧ Hid (Below w2.heap.size w2 wr)) (fun i _ _ => len - (intOf i).toNat)
    case atStart => exact ⟨0, (none, 0, 0), rfl, by omega, rfl, Lib.hid (World.ownsRow_nil _ _ _ _), HB3⟩
    case round =>
      obtain ⟨k, x, rfl, hk, rfl, HO, HW⟩ := hrel
      obtain ⟨p0, p1, p2, pl, pf0, pf1, pf2⟩ := HG1.out.below HW.out
      obtain ⟨q0, q1, q2, ql, qf0, qf1, qf2⟩ := HG2.out.below HW.out
      by_cases hlt : k < len
      · have hki : (k : Int) < (len : Int) := by omega
        have hkl : k < L.length := by rw [HLL.out]; exact hlt
        obtain ⟨g, rfl, hgl, hat⟩ := (HR.out.2.1.old HW.out).at_ hkl
        obtain ⟨z0, z1, z2⟩ := hat k hkl
        rw [Nat.zero_add] at z0 z1 z2
        have hs : L.take (k + 1) = L.take k ++ [L[k]] := List.take_succ_eq_append_getElem hkl
        have hle : (out15 tp (L.take k)).length ≤ 1000 := by
          have := out_le tp (L.take k)
          rw [List.length_take] at this
          omega
        obtain ⟨lk, hlk⟩ : ∃ lk, lk = L[k] := ⟨_, rfl⟩
        rw [← hlk] at z0 z1 z2 hs
        obtain ⟨O, hO⟩ : ∃ O, O = out15 tp (L.take k) := ⟨_, rfl⟩
        rw [← hO] at HO hle
        have hnx : out15 tp (L.take (k + 1)) = O ++ (if lk.to = tp then [] else [lk]) := by
          rw [hs, hO]
          unfold out15
          rw [List.filter_append]
          congr 1
          unfold atP
          by_cases e : lk.to = tp
          · simp [e]
          · simp [e]
        have HNX := Lib.hid hnx
        clear hs hnx hlk hO hat
        by_cases e : lk.to = tp
        · have eb : (lk.to == tp) = true := by simpa using e
          have HN2 : Hid (out15 tp (L.take (k + 1)) = O) := Lib.hid (by rw [HNX.out, if_pos e, List.append_nil])
          go_wp2_with fail
          go_roundw
          case rel =>
            refine ⟨k + 1, x, by go_num, by omega, rfl, ?_, HW⟩
            rw [HN2.out]
            exact HO
          case measure => simp [intOf]; omega
        · have eb : (lk.to == tp) = false := beq_eq_false_iff_ne.2 e
          have HN2 : Hid (out15 tp (L.take (k + 1)) = O ++ [lk]) := Lib.hid (by rw [HNX.out, if_neg e])
          have HNW := Lib.hid (cell_new3 wr (.int .i64 lk.fr) (.int .i64 lk.to) (.string lk.tx) 39)
          have HAL := Lib.hid (bal HW.out (.cells #[.int .i64 lk.fr, .int .i64 lk.to, .string lk.tx] 39))
          have HOA := Lib.hid (HO.out.alloc (.cells #[.int .i64 lk.fr, .int .i64 lk.to, .string lk.tx] 39))
          go_wp2_with (at_builtin; refine wpList_append_own _ rfl (.tmp 28) (.tmp 34) 28 rfl w2.heap.size 39 i0 (.agg #[.int .i64 0, .int .i64 0, .string ⟨#[]⟩]) 3 32 Try.underlying28 hi hz0 hz1 hz2 rfl (by decide) _ _ _ rfl HOA.out ⟨wr.heap.size, 0, none⟩ 1 1 (lcell lk) rfl rfl ?c1 ?c2 ?c3 ?c4 ?c5 ?_)
          case c1 => exact HNW.out
          case c2 => exact lcs_one [lk]
          case c3 => unfold maxLen; omega
          case c4 => omega
          case c5 => exact HAL.out.size
          intro v6 w6 hown6 hgrow6 _
          obtain ⟨x6, rfl⟩ := own_sV hown6
          have HB6 : Hid (Below w2.heap.size w2 w6) := Lib.hid (HAL.out.grown hgrow6 HAL.out.size (fun k hk => (HOA.out.lt k hk).1))
          have HO6 : Hid (w6.ownsRow w2.heap.size 39 3 (sV x6) (O ++ [lk]).length (lcs (O ++ [lk]))) := Lib.hid (by
            have h := hown6
            rw [lcs_app, List.length_append]
            exact h)
          clear hown6 hgrow6
          go_wp2_with fail
          go_roundw
          case rel =>
            refine ⟨k + 1, x6, by go_num, by omega, rfl, ?_, HB6⟩
            rw [HN2.out]
            exact HO6
          case measure => simp [intOf]; omega
      · obtain rfl : k = len := by omega
        have hfin : L.take k = L := List.take_of_length_le (by rw [HLL.out]; exact Nat.le_refl _)
        rw [hfin] at HO
        have HQ2 : Hid (Has15 (upd q tp []) (out15 tp L)) := Lib.hid (HQQ.out.clear tp)
        have hol := out_le tp L
        obtain ⟨O, hO⟩ : ∃ O, O = out15 tp L := ⟨_, rfl⟩
        rw [← hO] at HO HQ2 hol
        obtain ⟨m8, hm8⟩ : ∃ m8, m8 = O.length := ⟨_, rfl⟩
        have HM8 := Lib.hid hm8
        obtain ⟨aa, cc, hsv, _⟩ := own_len HO.out
        rw [← hm8] at hsv
        have HO8 : Hid (wr.ownsRow w2.heap.size 39 3 (.slice aa m8 cc) m8 (lcs O)) := Lib.hid (by rw [← hsv, hm8]; exact HO.out)
        rw [hsv]
        have HOL : Hid (O.length ≤ k) := Lib.hid (by rw [← HLL.out]; exact hol)
        have hg1 := (HG1.out.below HW.out).set2 (.slice aa m8 cc)
        have HF1 := Lib.hid hg1
        have HG2b := Lib.hid ((HG2.out.below HW.out).kp (w' := wr.setCell ⟨x1, 2, none⟩ (.slice aa m8 cc)) (Below.heap_setCell _ _ _ _ (show x2 ≠ x1 by have := HXX.out; omega)) (by simp))
        have HB9 : Hid (Below w.heap.size w (wr.setCell ⟨x1, 2, none⟩ (.slice aa m8 cc))) := Lib.hid ((HB.out.trans (HW.out.mono HB.out.size)).setCell (p := ⟨x1, 2, none⟩) (show w.heap.size ≤ x1 by have := HXX.out; omega) _)
        clear hfin hO hm8 hsv hol hg1
        go_upto_region 10 with fail
        obtain ⟨W9, hW9⟩ : ∃ W9, W9 = wr.setCell ⟨x1, 2, none⟩ (.slice aa m8 cc) := ⟨_, rfl⟩
        rw [← hW9] at HF1 HB9 HG2b ⊢
        have HK9 : Hid (∀ g, w2.heap.size ≤ g → W9.heap[g]? = wr.heap[g]?) := Lib.hid fun g hg => by
          rw [hW9]
          exact Below.heap_setCell _ _ _ _ (show g ≠ x1 by have := HXX.out; omega)
        have HS9 : Hid (W9.heap.size = wr.heap.size) := Lib.hid (by rw [hW9]; simp)
        clear p0 p1 p2 pl pf0 pf1 pf2 q0 q1 q2 ql qf0 qf1 qf2
        clear hW9
        obtain ⟨p0, p1, p2, pl, -, -, -⟩ := HF1.out
        obtain ⟨q0, q1, q2, ql, qf0, qf1, qf2⟩ := HG2b.out
        go_wp2_with fail
        refine bodyPost_ret (v := .tuple #[.agg #[.int .i64 (n : Int), .int .i64 (c : Int), .slice aa m8 cc], .int .i64 0]) ?_ rfl ?_
        · exact clear_res _ _ x2 _ _ _ _ HG2b.out.store rfl rfl rfl
        · have hbf := set3_below HB9.out (x := x2) (by have := HXX.out; omega) (.int .i64 (n : Int)) (.int .i64 (c : Int)) (.slice aa m8 cc)
          obtain ⟨hr, hc1, hc2⟩ := own_rdl HO8.out HM8.out.symm
          have hgo : ∀ g, aa = some ⟨g, 0, none⟩ → w2.heap.size ≤ g := fun g hg => (HO8.out.lt g (by rw [hg]; rfl)).1
          have hr9 : RefB W9 aa m8 cc O := ⟨HM8.out.symm, hr.kp (fun g hg => HK9.out g (hgo g hg)) (by rw [HS9.out]; exact Nat.le_refl _), hc1, hc2⟩
          have hrf := hr9.set3 (x := x2) (fun g hg => by have := hgo g hg; have := HXX.out; omega) (.int .i64 (n : Int)) (.int .i64 (c : Int)) (.slice aa m8 cc)
          rw [HE.out.2, HQ1.out]
          rw [HM8.out] at hrf hbf ⊢
          exact ⟨aa, cc, O, rfl, hrf, HQ2.out, HOL.out, hbf, Or.inr fun g hg => (by have := hgo g hg; have := HXX.out; omega)⟩
  · have hp' : place n c tp = false := by simpa using hp
    obtain rfl : E = 1 := by rw [HE.out.1]; exact if_neg hp
    have HQ1 : Hid (clQ n c q tp = q) := Lib.hid (if_neg hp)
    go_wp2_with fail
    refine (rplace15_any n c a len cap tp HT.out _).mono ?_
    rintro e w3 ⟨rfl, b3⟩
    rw [hp']
    have HB3 := Lib.hid (HB0.out.trans (b3.mono HB0.out.size))
    clear b3
    clear p0 p1 p2 pl pf0 pf1 pf2 q0 q1 q2 ql qf0 qf1 qf2
    obtain ⟨p0, p1, p2, pl, pf0, pf1, pf2⟩ := HG1.out.below HB3.out
    obtain ⟨q0, q1, q2, ql, qf0, qf1, qf2⟩ := HG2.out.below HB3.out
    go_wp2_with fail
    refine bodyPost_ret (v := .tuple #[.agg #[.int .i64 (n : Int), .int .i64 (c : Int), .slice a len cap], .int .i64 1]) ?_ rfl ?_
    · exact clear_res _ _ x2 _ _ _ _ (HG2.out.below HB3.out).store rfl rfl rfl
    · have hbf := set3_below (HB.out.trans (HB3.out.mono HB.out.size)) (x := x2) (by have := HXX.out; omega) (.int .i64 (n : Int)) (.int .i64 (c : Int)) (.slice a len cap)
      have hr := H0.out.old hbf
      have hll := HLL.out
      subst hll
      exact ⟨a, cap, L, rfl, hr, by rw [HE.out.2, HQ1.out]; exact HQQ.out, by omega, hbf, .inl ⟨rfl, rfl⟩⟩
/-! ### Places -/
theorem ups_succ (n : Nat) : ups (n + 1) = ups n ++ [(n : Int)] := by unfold ups; rw [List.range_succ]; simp
theorem intRow (w : World) (V : Int) : ∀ j u, [Value.int .i64 V][j]? = some u → (w.alloc (.cells #[.int .i64 V] 3)).cell? ((⟨w.heap.size, 0, none⟩ : Addr).add j) = some u := cell_new1 w _ _
set_option maxRecDepth 100000 in
set_option maxHeartbeats 2000000 in
theorem rplaces15_any (n c : Nat) (hn : n ≤ 6) (hc : c ≤ 8) (a : Option Addr) (len cap : Nat) (w : World) : Calls Try.prog 13 #[.agg #[.int .i64 (n : Int), .int .i64 (c : Int), .slice a len cap]] w (PLR w (plist n c)) := by
  obtain ⟨i0, hi, h⟩ := Option.map_eq_some_iff.1 (show (Try.prog.info? 3).map (fun i => (i.zero, i.size, i.bytes)) = some (some (.int .i64 0), 1, 8) by kernel_rfl)
  simp only [Prod.mk.injEq] at h
  obtain ⟨hz0, hz1, hz2⟩ := h
  have hb1 := bal (Below.refl _ w) (.cells #[.int .i64 (n : Int), .int .i64 (c : Int), .slice a len cap] 30)
  have hq1 := QBox.new w n c (.slice a len cap)
  obtain ⟨w1, hw1⟩ : ∃ w1, w1 = w.alloc (.cells #[.int .i64 (n : Int), .int .i64 (c : Int), .slice a len cap] 30) := ⟨_, rfl⟩
  rw [← hw1] at hb1 hq1
  obtain ⟨x1, hx1⟩ : ∃ x1, x1 = w.heap.size := ⟨_, rfl⟩
  rw [← hx1] at hq1
  have hown0 : (w1.alloc (.cells #[.int .i64 (-1)] 3)).ownsRow w1.heap.size 3 1 (sV (some w1.heap.size, 1, 1)) 1 (iv (-1 :: ups 0)) := World.ownsRow_lit w1 #[.int .i64 (-1)] 1 (Nat.le_refl _) (by unfold maxLen; omega) rfl
  have hbA := bal (Below.refl _ w1) (.cells #[.int .i64 (-1)] 3)
  obtain ⟨w2, hw2⟩ : ∃ w2, w2 = w1.alloc (.cells #[.int .i64 (-1)] 3) := ⟨_, rfl⟩
  rw [← hw2] at hown0 hbA
  have HW1 := Lib.hid (And.intro hw1 (And.intro hw2 hx1))
  have HB := Lib.hid hb1
  have HQ := Lib.hid hq1
  have HO0 := Lib.hid hown0
  have HBA := Lib.hid hbA
  clear hb1 hq1 hw1 hx1 hown0 hbA hw2
  go_enter Try.func13, Try.ntmps13
  go_upto_region 1 with fail
  rw [← HW1.out.1, ← HW1.out.2.2]
  go_upto_region 3 with fail
  rw [← HW1.out.2.1]
  go_loopw [4, 3] (fun i v wr => ∃ k : Nat, ∃ x : Sv, i = .int .i64 k ∧ k ≤ n ∧ v = sV x ∧ Hid (wr.ownsRow w1.heap.size 3 1 (sV x) (k + 1) (iv (-1 :: ups k))) ∧ Hid (Below w1.heap.size w1 wr)) (fun i _ _ => n - (intOf i).toNat)
  case atStart => exact ⟨0, (some w1.heap.size, 1, 1), rfl, by omega, rfl, HO0, HBA⟩
  case round =>
    obtain ⟨k, x, rfl, hk, rfl, HO, HW⟩ := hrel
    obtain ⟨q0, q1, q2, ql, -, -, -⟩ := HQ.out.below HW.out
    by_cases hlt : k < n
    · have hki : (k : Int) < (n : Int) := by omega
      have HNW := Lib.hid (intRow wr (k : Int))
      have HAL := Lib.hid (bal HW.out (.cells #[.int .i64 (k : Int)] 3))
      have HOA := Lib.hid (HO.out.alloc (.cells #[.int .i64 (k : Int)] 3))
      go_wp2_with (at_builtin; refine wpList_append_own _ rfl (.tmp 13) (.tmp 15) 35 rfl w1.heap.size 3 i0 (.int .i64 0) 1 8 Try.underlying35 hi hz0 hz1 hz2 rfl (by decide) _ _ _ rfl HOA.out ⟨wr.heap.size, 0, none⟩ 1 1 [.int .i64 (k : Int)] rfl rfl ?c1 ?c2 ?c3 ?c4 ?c5 ?_)
      case c1 => exact HNW.out
      case c2 => exact one_int _ _
      case c3 => unfold maxLen; omega
      case c4 => omega
      case c5 => exact HAL.out.size
      intro v6 w6 hown6 hgrow6 _
      obtain ⟨x6, rfl⟩ := own_sV hown6
      have HB6 : Hid (Below w1.heap.size w1 w6) := Lib.hid (HAL.out.grown hgrow6 HAL.out.size (fun k hk => (HOA.out.lt k hk).1))
      have HO6 : Hid (w6.ownsRow w1.heap.size 3 1 (sV x6) (k + 1 + 1) (iv (-1 :: ups (k + 1)))) := Lib.hid (by
        have h := hown6
        rw [ups_succ, ← List.cons_append, show iv ((-1 :: ups k) ++ [(k : Int)]) = iv (-1 :: ups k) ++ [.int .i64 (k : Int)] by simp [iv]]
        exact h)
      clear hown6 hgrow6
      go_wp2_with fail
      go_roundw
      case rel => exact ⟨k + 1, x6, by go_num, by omega, rfl, HO6, HB6⟩
      case measure => simp [intOf]; omega
    · obtain rfl : k = n := by omega
      go_upto_region 7 with fail
      go_loopw [5, 3] (fun i v wr => ∃ j : Nat, ∃ x : Sv, i = .int .i64 j ∧ j ≤ c ∧ v = sV x ∧ Hid (wr.ownsRow w1.heap.size 3 1 (sV x) (1 + k + j) (iv (-1 :: (ups k ++ (ups j).map (100 + ·))))) ∧ Hid (Below w1.heap.size w1 wr)) (fun i _ _ => c - (intOf i).toNat)
      case atStart =>
        refine ⟨0, x, rfl, by omega, rfl, Lib.hid ?_, HW⟩
        have h := HO.out
        rw [show 1 + k + 0 = k + 1 by omega, show ups k ++ (ups 0).map (100 + ·) = ups k by simp [ups]]
        exact h
      case round =>
        clear HO HW q0 q1 q2 ql
        obtain ⟨j, x, rfl, hj, rfl, HO, HW⟩ := hrel
        obtain ⟨q0, q1, q2, ql, -, -, -⟩ := HQ.out.below HW.out
        by_cases hlt : j < c
        · have hki : (j : Int) < (c : Int) := by omega
          obtain ⟨kk, hkk⟩ : ∃ kk : Int, kk = 100 + (j : Int) := ⟨_, rfl⟩
          have HKK := Lib.hid hkk
          have hwr : IntKind.i64.wrap (100 + (j : Int)) = kk := by rw [hkk]; exact IntWalk.i64_in _ (by omega)
          have hwr2 : 100 + (j : Int) = kk := hkk.symm
          have HNW := Lib.hid (intRow wr kk)
          have HAL := Lib.hid (bal HW.out (.cells #[.int .i64 kk] 3))
          have HOA := Lib.hid (HO.out.alloc (.cells #[.int .i64 kk] 3))
          clear hkk
          go_wp2_with (at_builtin; refine wpList_append_own _ rfl (.tmp 23) (.tmp 26) 35 rfl w1.heap.size 3 i0 (.int .i64 0) 1 8 Try.underlying35 hi hz0 hz1 hz2 rfl (by decide) _ _ _ rfl HOA.out ⟨wr.heap.size, 0, none⟩ 1 1 [.int .i64 kk] rfl rfl ?e1 ?e2 ?e3 ?e4 ?e5 ?_)
          case e1 => exact HNW.out
          case e2 => exact one_int _ _
          case e3 => unfold maxLen; omega
          case e4 => omega
          case e5 => exact HAL.out.size
          intro v6 w6 hown6 hgrow6 _
          obtain ⟨x6, rfl⟩ := own_sV hown6
          have HB6 : Hid (Below w1.heap.size w1 w6) := Lib.hid (HAL.out.grown hgrow6 HAL.out.size (fun k hk => (HOA.out.lt k hk).1))
          have HO6 : Hid (w6.ownsRow w1.heap.size 3 1 (sV x6) (1 + k + (j + 1)) (iv (-1 :: (ups k ++ (ups (j + 1)).map (100 + ·))))) := Lib.hid (by
            have h := hown6
            rw [ups_succ, List.map_append, ← List.append_assoc, ← List.cons_append, show iv ((-1 :: (ups k ++ (ups j).map (100 + ·))) ++ [(j : Int)].map (100 + ·)) = iv (-1 :: (ups k ++ (ups j).map (100 + ·))) ++ [.int .i64 kk] by simp [iv, HKK.out]]
            exact h)
          clear hown6 hgrow6
          go_wp2_with fail
          go_roundw
          case rel => exact ⟨j + 1, x6, by go_num, by omega, rfl, HO6, HB6⟩
          case measure => simp [intOf]; omega
        · obtain rfl : j = c := by omega
          obtain ⟨aa, cc, hsv, _⟩ := own_len HO.out
          have hfin : RdZ wr aa (plist k j) := own_rdz (l := plist k j) (by rw [← hsv]; exact HO.out) (plist_len k j)
          have HF := Lib.hid hfin
          rw [hsv]
          have HBF := Lib.hid (HB.out.trans (HW.out.mono HB.out.size))
          have HPL := Lib.hid (plist_len k j)
          clear hfin hsv
          go_wp2_with fail
          go_ret
          unfold PLR
          rw [HPL.out]
          exact ⟨aa, cc, rfl, HF.out, HBF.out⟩
end Go.Proofs.Ytkljokmhfoannaa
