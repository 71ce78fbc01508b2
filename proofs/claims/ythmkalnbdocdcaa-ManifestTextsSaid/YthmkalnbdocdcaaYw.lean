/-
  Layer 12 (manifest): contracts of Overlap, of the document and of the code. Conditions: a state that came of Apply.
-/
import Derived.Test.YthmkalnbdocdcaaYr
import Derived.Test.YthmkalnbdocdcaaYv
import Derived.Laws.Cover1
import Derived.Deep.DeepCutAuto
import Derived.Deep.CutRange
namespace Go.Proofs.Ythmkalnbdocdcaa
set_option maxRecDepth 100000
open Go.RowKit
set_option linter.unusedVariables false
set_option linter.unusedSimpArgs false

def ovP (v : Int) (lo hi : ByteArray) (t : Tb) : Bool := decide (t.2.1 = v) && !ltB t.2.2.2 lo && !ltB hi t.2.2.1
/-- The tables of a level that have keys from lo to hi. -/
def ovT (ts : List Tb) (v : Int) (lo hi : ByteArray) : List Tb := ts.filter (ovP v lo hi)
theorem tb_snoc (P : Tb → Bool) (es : List Tb) (e : Tb) : (es ++ [e]).filter P = es.filter P ++ (if P e = true then [e] else []) := by
  rw [List.filter_append]
  congr 1
  cases h : P e with
  | false => simp [h]
  | true => simp [h]
theorem cmp3 (a b : ByteArray) : (Op.bytesLess a.toList b.toList = true ∧ Op.bytesLess b.toList a.toList = false ∧ (a.toList == b.toList) = false ∧ (b.toList == a.toList) = false) ∨ (Op.bytesLess a.toList b.toList = false ∧ Op.bytesLess b.toList a.toList = true ∧ (a.toList == b.toList) = false ∧ (b.toList == a.toList) = false) ∨ (Op.bytesLess a.toList b.toList = false ∧ Op.bytesLess b.toList a.toList = false ∧ (a.toList == b.toList) = true ∧ (b.toList == a.toList) = true) := by
  have ne : ∀ {x y : ByteArray}, Op.bytesLess x.toList y.toList = true → (x.toList == y.toList) = false := fun h => by
    rw [beq_eq_false_iff_ne]
    intro e
    rw [e, less_irr] at h
    cases h
  cases h1 : Op.bytesLess a.toList b.toList with
  | true => exact .inl ⟨rfl, less_asymm _ _ h1, ne h1, by rw [Bool.eq_false_iff]; intro e; have := ne h1; rw [beq_iff_eq] at e; rw [e] at this; simp at this⟩
  | false =>
    cases h2 : Op.bytesLess b.toList a.toList with
    | true => exact .inr (.inl ⟨rfl, rfl, by rw [Bool.eq_false_iff]; intro e; have := ne h2; rw [beq_iff_eq] at e; rw [e] at this; simp at this, ne h2⟩)
    | false =>
      have e := less_total _ _ h1 h2
      rw [e]
      simp
set_option maxRecDepth 1000000 in
set_option maxHeartbeats 16000000 in
theorem rov_any (V : Value) (s : St) (v : Int) (lo hi : ByteArray) (w : World) (h : SV w V s) (hlen : s.1.length ≤ 50000) :
    Calls Try.prog 23 #[V, .int .i64 v, .string lo, .string hi] w (PT (ovT s.1 v lo hi) w) := by
  obtain ⟨i0, hi0, hz0, hz1, hz2⟩ := info_parts Try.infoTab
  obtain ⟨a, n, cap, rfl, hst, hok⟩ := h
  obtain ⟨ts, lg, nx'⟩ := s
  obtain ⟨b, off, ha, hb, hc⟩ := hst.2.1.at_
  simp only at *
  have hl := hst.1
  rw [hl] at ha hb hlen
  obtain ⟨PP, hPP⟩ : ∃ PP : Tb → Bool, PP = ovP v lo hi := ⟨_, rfl⟩
  have hR : ovT ts v lo hi = ts.filter PP := by rw [hPP]; rfl
  rw [hR]
  have HPP := Lib.hid hPP

  have HC := Lib.hid hc
  have HL := Lib.hid hl
  have HB0 := Lib.hid (box_bel w (.cells #[.slice a n cap, .int .i64 lg, .int .i64 nx'] 38))
  have bx := SBox.new w 38 (.slice a n cap) lg nx'
  clear hst hok hc hl hR hPP
  go_enter Try.func23, Try.ntmps23
  go_wp2_with fail
  obtain ⟨xb, hxb⟩ : ∃ xb, xb = w.heap.size := ⟨_, rfl⟩
  rw [← hxb] at bx ⊢
  have HXB := Lib.hid hxb
  clear hxb
  generalize w.alloc (.cells #[.slice a n cap, .int .i64 lg, .int .i64 nx'] 38) = wb at *
  have BX := Lib.hid bx
  clear bx
  go_loopw [9, 10, 11] (fun l i _ wr => ∃ (k m : Nat), i = .int .i64 k ∧ k ≤ n ∧ m ≤ k ∧ Hid (m = ((ts.take k).filter PP).length ∧ wr.ownsRow wb.heap.size 49 4 l m (tv4 ((ts.take k).filter PP))) ∧ Hid (Below wb.heap.size wb wr)) (fun _ i _ _ => n - (intOf i).toNat)
  case atStart => exact ⟨0, 0, by first | rfl | go_num, by omega, by omega, Lib.hid ⟨rfl, World.ownsRow_nil _ _ _ _⟩, Lib.hid (Below.refl _ _)⟩
  case round =>
    obtain ⟨k, m, rfl, hk, hm, HM, HW⟩ := hrel
    obtain ⟨y0, y1, y2, y3⟩ := BX.out.below HW.out
    have hws : wb.heap.size ≤ wr.heap.size := HW.out.size
    by_cases hlt : k < n
    · have hki : (k : Int) < (n : Int) := by omega
      obtain rfl := ha (by omega)
      have hbw := hb (by omega)
      have hkl : k < ts.length := by rw [HL.out]; exact hlt
      have hbel : Below w.heap.size w wr := HB0.out.trans (HW.out.mono HB0.out.size)
      obtain ⟨g0, g1, g2, g3⟩ := HC.out.old hbw hbel k hkl
      have hbr : b < wr.heap.size := Nat.lt_of_lt_of_le hbw hbel.size
      have hs := tb_snoc PP (ts.take k) ts[k]
      rw [← List.take_succ_eq_append_getElem hkl] at hs
      obtain ⟨E, hE⟩ : ∃ E, E = ts[k] := ⟨_, rfl⟩
      rw [← hE] at g0 g1 g2 g3 hs
      obtain ⟨x1, x2, x3, x4⟩ := E
      obtain ⟨c, hcc⟩ : ∃ c, PP (x1, x2, x3, x4) = c := ⟨_, rfl⟩
      rw [hcc] at hs
      have hce : c = (decide (x2 = v) && !ltB x4 lo && !ltB hi x3) := by rw [← hcc, HPP.out]; rfl
      have HN := Lib.hid hs
      have HT := Lib.hid (TBox.new wr 49 (x1, x2, x3, x4))
      have HAL := Lib.hid (box_bel wr (.cells #[.int .i64 x1, .int .i64 x2, .string x3, .string x4] 49))
      have HROW := Lib.hid (And.intro HM.out.1 (HM.out.2.alloc (.cells #[.int .i64 x1, .int .i64 x2, .string x3, .string x4] 49)))
      obtain ⟨tb, htb⟩ : ∃ tb, tb = wr.heap.size := ⟨_, rfl⟩
      clear hE hs hcc HM hbel
      go_upto_region 6 with fail
      rw [← htb] at HT ⊢
      clear htb y0 y1 y2 y3 g0 g1 g2 g3 hbr
      have hwa := HAL.out.size
      generalize wr.alloc (.cells #[.int .i64 x1, .int .i64 x2, .string x3, .string x4] 49) = wa at *
      obtain ⟨t0, t1, t2, t3, t4⟩ := HT.out
      go_cut [39] from 24 to 39 (fun s9 wx => s9 = .bool c ∧ wx = wa)
      case first =>
        by_cases hv : x2 = v
        case neg =>
          obtain rfl : c = false := by rw [hce]; simp [hv]
          clear hce
          go_wp2_with fail
          go_meet
          case rel => exact ⟨rfl, rfl⟩
        case pos =>
        subst hv
        rcases cmp3 x4 lo with ⟨p1, p2, p3, p4⟩ | ⟨p1, p2, p3, p4⟩ | ⟨p1, p2, p3, p4⟩
        · obtain rfl : c = false := by rw [hce, show ltB x4 lo = true from p1]; simp
          clear hce
          go_wp2_with fail
          go_meet
          case rel => exact ⟨rfl, rfl⟩
        all_goals
          rcases cmp3 hi x3 with ⟨q1, q2, q3, q4⟩ | ⟨q1, q2, q3, q4⟩ | ⟨q1, q2, q3, q4⟩
          all_goals
            have hc2 : c = !ltB hi x3 := by rw [hce, show ltB x4 lo = false from p1]; simp
            have hc3 : ltB hi x3 = Op.bytesLess hi.toList x3.toList := rfl
            rw [hc3, q1] at hc2
            simp only [Bool.not_true, Bool.not_false] at hc2
            subst hc2
            clear hce hc3
            go_wp2_with fail
            go_meet
            case rel => exact ⟨rfl, rfl⟩
      case rest =>
      obtain ⟨rfl, rfl⟩ := hcut
      clear hce
      cases c with
      | true =>
        have HNT := Lib.hid (show (ts.take (k + 1)).filter PP = (ts.take k).filter PP ++ [(x1, x2, x3, x4)] by rw [HN.out]; rfl)
        go_wp2_with (at_builtin; generalize hG : wpList _ _ _ _ _ _ = G)
        rw [← hG]
        clear hG
        refine wpList_append_own _ rfl (.tmp 40) (.tmp 42) 22 rfl wb.heap.size 49 i0 (.agg #[.int .i64 0, .int .i64 0, .string ⟨#[]⟩, .string ⟨#[]⟩]) 4 48 Try.underlying22 hi0 hz0 hz1 hz2 rfl (by decide) _ _ _ rfl (HROW.out.2.alloc _) ⟨wc.heap.size, 0, none⟩ 1 1 (tv (x1, x2, x3, x4)) rfl rfl ?c1 ?c2 ?c3 ?c4 ?c5 ?_
        case c1 => exact cell_new4 _ _ _ _ _ _
        case c2 => intro u hu; simp [tv] at hu; rcases hu with rfl | rfl | rfl | rfl <;> rfl
        case c3 => unfold maxLen; omega
        case c4 => omega
        case c5 => simp [go_sem]; omega
        intro v' w3 hown3 hgrow _
        have HB3 := Lib.hid (HW.out.trans ((HAL.out.mono hws).trans (((Below.refl wb.heap.size wc).alloc (by omega) _).grown hgrow (by simp [go_sem]; omega) (fun k hk => (HROW.out.2.lt k hk).1))))
        rw [tv4_snoc, ← HNT.out] at hown3
        have HR3 := Lib.hid (And.intro (show m + 1 = ((ts.take (k + 1)).filter PP).length by rw [HNT.out, List.length_append, ← HROW.out.1]; rfl) hown3)
        clear hown3 hgrow
        go_wp2_with fail
        go_roundw
        case rel => exact ⟨k + 1, m + 1, by go_num, by omega, by omega, HR3, HB3⟩
        case measure => simp [intOf]; omega
      | false =>
        have HNT := Lib.hid (show (ts.take (k + 1)).filter PP = (ts.take k).filter PP by rw [HN.out]; simp)
        have HB3 := Lib.hid (HW.out.trans (HAL.out.mono hws))
        go_wp2_with fail
        go_roundw
        case rel => exact ⟨k + 1, m, by go_num, by omega, by omega, Lib.hid ⟨by rw [HNT.out]; exact HROW.out.1, by rw [HNT.out]; exact HROW.out.2⟩, HB3⟩
        case measure => simp [intOf]; omega
    · obtain rfl : k = n := by omega
      have HE := HM.out
      rw [← HL.out, List.take_length] at HE
      obtain ⟨a', cap', rfl, hsp⟩ := own_st HE.2 (by rw [← HE.1])
      have HSP := Lib.hid hsp
      clear HE HM hsp
      go_wp2_with fail
      go_ret
      exact ⟨a', _, cap', rfl, HSP.out, HB0.out.trans (HW.out.mono HB0.out.size)⟩
set_option maxRecDepth 1000000 in
set_option maxHeartbeats 16000000 in
theorem ov_any (V : Value) (s : St) (v : Int) (lo hi : ByteArray) (w : World) (h : SV w V s) (hlen : s.1.length ≤ 50000) (nx : Int) (hs : OkT s.1 nx) :
    Calls Try.prog 22 #[V, .int .i64 v, .string lo, .string hi] w (PT (ovT s.1 v lo hi) w) := by
  obtain ⟨i0, hi0, hz0, hz1, hz2⟩ := info_parts Try.infoTab
  obtain ⟨a, n, cap, rfl, hst, hok⟩ := h
  obtain ⟨ts, lg, nx'⟩ := s
  obtain ⟨b, off, ha, hb, hc⟩ := hst.2.1.at_
  simp only at *
  have hl := hst.1
  rw [hl] at ha hb hlen
  obtain ⟨PP, hPP⟩ : ∃ PP : Tb → Bool, PP = ovP v lo hi := ⟨_, rfl⟩
  have hR : ovT ts v lo hi = ts.filter PP := by rw [hPP]; rfl
  rw [hR]
  have HPP := Lib.hid hPP
  have HS := Lib.hid hs
  have HC := Lib.hid hc
  have HL := Lib.hid hl
  have HB0 := Lib.hid (box_bel w (.cells #[.slice a n cap, .int .i64 lg, .int .i64 nx'] 38))
  have bx := SBox.new w 38 (.slice a n cap) lg nx'
  clear hst hok hc hl hR hPP hs
  go_enter Try.func22, Try.ntmps22
  go_wp2_with fail
  obtain ⟨xb, hxb⟩ : ∃ xb, xb = w.heap.size := ⟨_, rfl⟩
  rw [← hxb] at bx ⊢
  have HXB := Lib.hid hxb
  clear hxb
  generalize w.alloc (.cells #[.slice a n cap, .int .i64 lg, .int .i64 nx'] 38) = wb at *
  have BX := Lib.hid bx
  clear bx
  go_loopw [9, 11, 15] (fun l _ i wr => ∃ (k m : Nat), i = .int .i64 k ∧ k ≤ n ∧ m ≤ k ∧ Hid (m = ((ts.take k).filter PP).length ∧ wr.ownsRow wb.heap.size 49 4 l m (tv4 ((ts.take k).filter PP))) ∧ Hid (Below wb.heap.size wb wr)) (fun _ _ i _ => n - (intOf i).toNat)
  case atStart => exact ⟨0, 0, by first | rfl | go_num, by omega, by omega, Lib.hid ⟨rfl, World.ownsRow_nil _ _ _ _⟩, Lib.hid (Below.refl _ _)⟩
  case round =>
    obtain ⟨k, m, rfl, hk, hm, HM, HW⟩ := hrel
    obtain ⟨y0, y1, y2, y3⟩ := BX.out.below HW.out
    have hws : wb.heap.size ≤ wr.heap.size := HW.out.size
    by_cases hlt : k < n
    · have hki : (k : Int) < (n : Int) := by omega
      obtain rfl := ha (by omega)
      have hbw := hb (by omega)
      have hkl : k < ts.length := by rw [HL.out]; exact hlt
      have hbel : Below w.heap.size w wr := HB0.out.trans (HW.out.mono HB0.out.size)
      obtain ⟨g0, g1, g2, g3⟩ := HC.out.old hbw hbel k hkl
      have hbr : b < wr.heap.size := Nat.lt_of_lt_of_le hbw hbel.size
      have hs := tb_snoc PP (ts.take k) ts[k]
      rw [← List.take_succ_eq_append_getElem hkl] at hs
      obtain ⟨E, hE⟩ : ∃ E, E = ts[k] := ⟨_, rfl⟩
      rw [← hE] at g0 g1 g2 g3 hs
      obtain ⟨x1, x2, x3, x4⟩ := E
      obtain ⟨c, hcc⟩ : ∃ c, PP (x1, x2, x3, x4) = c := ⟨_, rfl⟩
      rw [hcc] at hs
      have hce : c = (decide (x2 = v) && !ltB x4 lo && !ltB hi x3) := by rw [← hcc, HPP.out]; rfl
      have HN := Lib.hid hs
      have HT := Lib.hid (TBox.new wr 49 (x1, x2, x3, x4))
      have HAL := Lib.hid (box_bel wr (.cells #[.int .i64 x1, .int .i64 x2, .string x3, .string x4] 49))
      have HROW := Lib.hid (And.intro HM.out.1 (HM.out.2.alloc (.cells #[.int .i64 x1, .int .i64 x2, .string x3, .string x4] 49)))
      obtain ⟨tb, htb⟩ : ∃ tb, tb = wr.heap.size := ⟨_, rfl⟩
      clear hE hs hcc HM hbel
      go_upto_region 5 with fail
      rw [← htb] at HT ⊢
      clear htb y0 y1 y2 y3 g0 g1 g2 g3 hbr
      have hwa := HAL.out.size
      generalize wr.alloc (.cells #[.int .i64 x1, .int .i64 x2, .string x3, .string x4] 49) = wa at *
      obtain ⟨t0, t1, t2, t3, t4⟩ := HT.out
      go_cut [34] from 19 to 34 (fun s9 wx => s9 = .bool c ∧ wx = wa)
      case first =>
        by_cases hv : x2 = v
        case neg =>
          obtain rfl : c = false := by rw [hce]; simp [hv]
          clear hce
          go_wp2_with fail
          go_meet
          case rel => exact ⟨rfl, rfl⟩
        case pos =>
        subst hv
        rcases cmp3 x4 lo with ⟨p1, p2, p3, p4⟩ | ⟨p1, p2, p3, p4⟩ | ⟨p1, p2, p3, p4⟩
        · obtain rfl : c = false := by rw [hce, show ltB x4 lo = true from p1]; simp
          clear hce
          go_wp2_with fail
          go_meet
          case rel => exact ⟨rfl, rfl⟩
        all_goals
          rcases cmp3 hi x3 with ⟨q1, q2, q3, q4⟩ | ⟨q1, q2, q3, q4⟩ | ⟨q1, q2, q3, q4⟩
          all_goals
            have hc2 : c = !ltB hi x3 := by rw [hce, show ltB x4 lo = false from p1]; simp
            have hc3 : ltB hi x3 = Op.bytesLess hi.toList x3.toList := rfl
            rw [hc3, q1] at hc2
            simp only [Bool.not_true, Bool.not_false] at hc2
            subst hc2
            clear hce hc3
            go_wp2_with fail
            go_meet
            case rel => exact ⟨rfl, rfl⟩
      case rest =>
      obtain ⟨rfl, rfl⟩ := hcut
      clear hce
      cases c with
      | true =>
        have HNT := Lib.hid (show (ts.take (k + 1)).filter PP = (ts.take k).filter PP ++ [(x1, x2, x3, x4)] by rw [HN.out]; rfl)
        go_wp2_with (at_builtin; generalize hG : wpList _ _ _ _ _ _ = G)
        rw [← hG]
        clear hG
        refine wpList_append_own _ rfl (.tmp 35) (.tmp 37) 22 rfl wb.heap.size 49 i0 (.agg #[.int .i64 0, .int .i64 0, .string ⟨#[]⟩, .string ⟨#[]⟩]) 4 48 Try.underlying22 hi0 hz0 hz1 hz2 rfl (by decide) _ _ _ rfl (HROW.out.2.alloc _) ⟨wc.heap.size, 0, none⟩ 1 1 (tv (x1, x2, x3, x4)) rfl rfl ?c1 ?c2 ?c3 ?c4 ?c5 ?_
        case c1 => exact cell_new4 _ _ _ _ _ _
        case c2 => intro u hu; simp [tv] at hu; rcases hu with rfl | rfl | rfl | rfl <;> rfl
        case c3 => unfold maxLen; omega
        case c4 => omega
        case c5 => simp [go_sem]; omega
        intro v' w3 hown3 hgrow _
        have HB3 := Lib.hid (HW.out.trans ((HAL.out.mono hws).trans (((Below.refl wb.heap.size wc).alloc (by omega) _).grown hgrow (by simp [go_sem]; omega) (fun k hk => (HROW.out.2.lt k hk).1))))
        rw [tv4_snoc, ← HNT.out] at hown3
        have HR3 := Lib.hid (And.intro (show m + 1 = ((ts.take (k + 1)).filter PP).length by rw [HNT.out, List.length_append, ← HROW.out.1]; rfl) hown3)
        clear hown3 hgrow
        go_wp2_with fail
        go_roundw
        case rel => exact ⟨k + 1, m + 1, by go_num, by omega, by omega, HR3, HB3⟩
        case measure => simp [intOf]; omega
      | false =>
        have HNT := Lib.hid (show (ts.take (k + 1)).filter PP = (ts.take k).filter PP by rw [HN.out]; simp)
        have HB3 := Lib.hid (HW.out.trans (HAL.out.mono hws))
        go_wp2_with fail
        go_roundw
        case rel => exact ⟨k + 1, m, by go_num, by omega, by omega, Lib.hid ⟨by rw [HNT.out]; exact HROW.out.1, by rw [HNT.out]; exact HROW.out.2⟩, HB3⟩
        case measure => simp [intOf]; omega
    · obtain rfl : k = n := by omega
      have HE := HM.out
      rw [← HL.out, List.take_length] at HE
      obtain ⟨hml, hrow⟩ := HE
      rw [hml] at hrow
      obtain ⟨a', cap', rfl, hcall⟩ := sortTab_any wb.heap.size _ (ts.filter PP) wr hws (by have := List.length_filter_le PP ts; have := HL.out; omega) hrow
      have HCALL := Lib.hid hcall
      have HML := Lib.hid hml
      rw [← hml] at HCALL ⊢
      clear hrow hml hcall HM
      go_wp2_with fail
      refine HCALL.out.mono ?_
      rintro e w4 ⟨rfl, L, hp, hw, hst, hb4⟩
      have hLe : L = ts.filter PP := by
        have hsub : (ts.filter PP).Sublist ts := List.filter_sublist
        exact wk_eq hw (sr_wk (HS.out.sr.sublist hsub)) hp (fun t ht => HS.out.may t (hsub.subset (hp.mem_iff.1 ht))) ((hp.map _).nodup_iff.2 ((hsub.map _).nodup HS.out.ids)) ((Apt.perm hp).2 (HS.out.apt.sublist hsub))
      subst hLe
      have HST := Lib.hid hst
      have HB4 := Lib.hid (HB0.out.trans ((HW.out.trans hb4).mono HB0.out.size))
      clear hp hw hst hb4 HCALL
      go_wp2_with fail
      go_ret
      exact ⟨_, _, _, rfl, HST.out, HB4.out⟩
end Go.Proofs.Ythmkalnbdocdcaa
