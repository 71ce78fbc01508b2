/-
  Layer 14 (once): contract of Of, of the code. Conditions: the pairs' values within the form's reach.
-/
import Derived.Test.YtemaonfgledcmaaNy
import Derived.Test.YtemaonfgledcmaaNf
namespace Go.Proofs.Ytemaonfgledcmaa
open Go.RowKit
set_option linter.unusedVariables false
set_option linter.unusedSimpArgs false

set_option maxRecDepth 100000 in
set_option maxHeartbeats 8000000 in
theorem of14_any (a : Option Addr) (n cap : Nat) (xs : List Pr) (w : World) (hx : PRd w a xs) (hn : xs.length = n) (hm : n ≤ 1000000) (hv : ∀ x ∈ xs, x.2.size ≤ 9223372036854775807) : Calls Try.prog 11 #[.slice a n cap] w (OFR xs w) := by
  obtain ⟨E, hE⟩ : ∃ E, E = ofE xs := ⟨_, rfl⟩
  have HE := Lib.hid hE
  have HX := Lib.hid hx
  have HN := Lib.hid hn
  have HV := Lib.hid hv
  have hnone : w.ownsRow w.heap.size 39 7 (.slice none 0 0) ([] : List Sn).length (cvs []) := World.ownsRow_nil _ _ _ _
  obtain ⟨i0, hi0, hz0, hz1, hz2⟩ := info_parts Try.infoSn
  have HR0 := Lib.hid hnone
  clear hnone hE hx hn hv
  obtain ⟨B, hB⟩ : ∃ B, B = w.heap.size := ⟨_, rfl⟩
  have HBW := Lib.hid hB
  rw [← hB] at HR0
  clear hB
  go_enter Try.func11, Try.ntmps11
  by_cases h8 : 8 < n
  · have h8i : (8 : Int) < (n : Int) := by omega
    have H1 := Lib.hid (of_bad (of_many (l := xs) (by rw [HN.out]; exact h8)))
    go_wp2_with fail
    go_ret2
    exact ⟨none, 0, 0, by rw [H1.out.1]; rfl, by rw [H1.out.2]; exact SS.none _, Below.refl _ _⟩
  · have h8i : ¬ (8 : Int) < (n : Int) := by omega
    go_upto_region 5 with fail
    go_loopw [4, 16, 6, 7, 8] (fun s i _ _ _ wr => ∃ (k : Nat) (oa : Option Addr) (oc : Nat), s = .slice oa k oc ∧ i = .int .i64 k ∧ k ≤ n ∧ Hid (∃ L, L.length = k ∧ rdAll (xs.take k) = some L ∧ wr.ownsRow B 39 7 (.slice oa k oc) k (cvs L)) ∧ Hid (Below B w wr)) (fun _ i _ _ _ _ => n - (intOf i).toNat)
    case atStart => exact ⟨0, none, 0, rfl, by first | rfl | go_num, by omega, Lib.hid ⟨[], rfl, rfl, HR0.out⟩, Lib.hid (by rw [HBW.out]; exact Below.refl _ _)⟩
    case round =>
      obtain ⟨k, oa, oc, rfl, rfl, hk, HR, HW⟩ := hrel
      have hBr : B ≤ wr.heap.size := by rw [HBW.out]; exact HW.out.size
      by_cases hlt : k < n
      · have hki : (k : Int) < (n : Int) := by omega
        have hkl : k < xs.length := by rw [HN.out]; exact hlt
        obtain ⟨pb, po, hpa, hpl, z0, z1⟩ := (HX.out.old (w' := wr) (by rw [← HBW.out]; exact HW.out)).at_ hkl
        subst hpa
        obtain ⟨x, hx⟩ : ∃ x, x = xs[k] := ⟨_, rfl⟩
        rw [← hx] at z0 z1
        have HXK := Lib.hid (fun (h : rdP x = none) => rdAll_bad hkl (by rw [← hx]; exact h))
        have HXG := Lib.hid (fun (L : List Sn) (s : Sn) (h : rdAll (xs.take k) = some L) (hs : rdP x = some s) => rdAll_take hkl h (by rw [← hx]; exact hs))
        have HXV := Lib.hid (show x.2.size ≤ 9223372036854775807 by rw [hx]; exact HV.out _ (List.getElem_mem hkl))
        obtain ⟨K, V⟩ := x
        simp only at z0 z1 HXV
        clear hx hkl
        go_upto_region 7 with fail
        have hb1 := HW.out.alloc hBr (.cells #[.string K, .string V] 27)
        have HR1 : Hid (∃ L, L.length = k ∧ rdAll (xs.take k) = some L ∧ (wr.alloc (.cells #[.string K, .string V] 27)).ownsRow B 39 7 (.slice oa k oc) k (cvs L)) := Lib.hid (by obtain ⟨L, h1, h2, h3⟩ := HR.out; exact ⟨L, h1, h2, h3.alloc _⟩)
        have hpb := PBox.new wr 27 K V
        have hs1 : B ≤ (wr.alloc (.cells #[.string K, .string V] 27)).heap.size := by simp; omega
        obtain ⟨w1, hw1⟩ : ∃ w1, w1 = wr.alloc (.cells #[.string K, .string V] 27) := ⟨_, rfl⟩
        rw [← hw1] at hb1 HR1 hpb hs1 ⊢
        obtain ⟨y, hy⟩ : ∃ y, y = wr.heap.size := ⟨_, rfl⟩
        rw [← hy] at hpb ⊢
        have HB1 := Lib.hid hb1
        clear hw1 hy hb1 z0 z1 hpl HR
        obtain ⟨q0, q1, ql⟩ := hpb
        go_wp2_with fail
        refine (read14_any K V HXV.out w1).mono ?_
        rintro e w2 ⟨s, b, rfl, hrd, hb2⟩
        have HRD := Lib.hid hrd
        have HB2 := Lib.hid (HB1.out.trans (hb2.mono hs1))
        have HR2 : Hid (∃ L, L.length = k ∧ rdAll (xs.take k) = some L ∧ w2.ownsRow B 39 7 (.slice oa k oc) k (cvs L)) := Lib.hid (by obtain ⟨L, h1, h2, h3⟩ := HR1.out; exact ⟨L, h1, h2, below_own h3 hb2⟩)
        have hs2 : B ≤ w2.heap.size := Nat.le_trans hs1 hb2.size
        clear hrd hb2 q0 q1 ql HB1 HR1
        cases b with
        | false =>
          have H1 := Lib.hid (of_bad (of_none (HXK.out (by rw [HRD.out]; rfl))))
          have HB3 := Lib.hid (fun o => HB2.out.alloc hs2 o)
          go_wp2_with fail
          go_ret2
          exact ⟨none, 0, 0, by rw [H1.out.1]; rfl, by rw [H1.out.2]; exact SS.none _, by have := HB3.out; rw [HBW.out] at this; exact this _⟩
        | true =>
          have HSO := Lib.hid (show rdP (K, V) = some s by rw [HRD.out]; rfl)
          clear HRD HXK
          go_upto_region 8 with fail
          obtain ⟨o, ho⟩ : ∃ o, o = Obj.cells #[.int .i64 s.c, .int .i64 s.s, .int .i64 s.e, .string s.v, .bool s.h, .slice s.p s.n s.k, .string s.u] 39 := ⟨_, rfl⟩
          have hB2 : SBox (w2.alloc o) w2.heap.size s := by rw [ho]; exact SBox.new w2 _ s
          rw [← ho]
          clear ho
          have HB3 := Lib.hid (HB2.out.alloc hs2 o)
          have HR3 : Hid (∃ L, L.length = k ∧ rdAll (xs.take k) = some L ∧ (w2.alloc o).ownsRow B 39 7 (.slice oa k oc) k (cvs L)) := Lib.hid (by obtain ⟨L, h1, h2, h3⟩ := HR2.out; exact ⟨L, h1, h2, h3.alloc _⟩)
          have hBs : B ≤ (w2.alloc o).heap.size := by simp; omega
          obtain ⟨y2, hy2⟩ : ∃ y, y = w2.heap.size := ⟨_, rfl⟩
          rw [← hy2] at hB2 ⊢
          have hyb : B ≤ y2 := by omega
          clear hy2 HR2
          generalize w2.alloc o = w3 at *
          obtain ⟨q0, q1, q2, q3, q4, q5, q6, q7⟩ := hB2
          obtain ⟨L, hL1, hL2, hL3⟩ := HR3.out
          have HRow := Lib.hid hL3
          have HLL := Lib.hid (And.intro hL1 (HXG.out L s hL2 HSO.out))
          clear hL1 hL2 hL3 HR3
          go_wp2_with (at_builtin; generalize hG : wpList _ _ _ _ _ _ = G)
          rw [← hG]
          clear hG
          refine wpList_append_own _ rfl (.tmp 27) (.tmp 29) 22 rfl B 39 i0 (.agg #[.int .i64 0, .int .i64 0, .int .i64 0, .string ⟨#[]⟩, .bool false, .slice none 0 0, .string ⟨#[]⟩]) 7 88 Try.underlying22 hi0 hz0 hz1 hz2 rfl (by decide) _ _ _ rfl (HRow.out.alloc _) ⟨w3.heap.size, 0, none⟩ 1 1 (cv s) rfl rfl ?c1 ?c2 ?c3 ?c4 ?c5 ?_
          case c1 => exact cell_new7 w3 s _
          case c2 => exact cv_one _
          case c3 => unfold maxLen; omega
          case c4 => omega
          case c5 => simp [go_sem]; omega
          intro v' w6 hown6 hgrow _
          obtain ⟨a6, c6, rfl⟩ := own_form14 hown6 (by decide)
          have hb6 := Lib.hid (HB3.out.trans ((((Below.refl B w3).alloc hBs _).grown hgrow (by simp [go_sem]; omega) (fun k hk => (HRow.out.lt k hk).1))))
          rw [cvs_snoc] at hown6
          have HN6 : Hid (∃ L, L.length = k + 1 ∧ rdAll (xs.take (k + 1)) = some L ∧ w6.ownsRow B 39 7 (.slice a6 (k + 1) c6) (k + 1) (cvs L)) := Lib.hid ⟨L ++ [s], by rw [List.length_append, HLL.out.1]; rfl, HLL.out.2, hown6⟩
          clear hown6 hgrow q0 q1 q2 q3 q4 q5 q6 q7
          go_wp2_with fail
          go_roundw
          case rel => exact ⟨k + 1, _, _, rfl, by go_num, by omega, HN6, hb6⟩
          case measure => simp [intOf]; omega
      · obtain rfl : k = n := by omega
        have hki : ¬ (k : Int) < (k : Int) := by omega
        obtain ⟨L, hL1, hL2, hL3⟩ := HR.out
        rw [List.take_of_length_le (Nat.le_of_eq HN.out)] at hL2
        obtain ⟨oa', oc', e, hs⟩ := own_ss hL3 hL1
        obtain ⟨rfl, rfl⟩ : oa = oa' ∧ oc = oc' := by injection e with e1 _ e2; exact ⟨e1, e2⟩
        obtain ⟨b, hb⟩ : ∃ b, b = chk L := ⟨_, rfl⟩
        have HP := Lib.hid (place14_any oa k oc L wr hs b hb.symm)
        obtain ⟨PP, hPP⟩ : ∃ PP, PP = if b = true then plcd L else fun _ => Z0 := ⟨_, rfl⟩
        rw [← hPP] at HP
        have HPP := Lib.hid hPP
        have HSZ := Lib.hid (size8_of PP)
        have HOF := Lib.hid (of_here hL2 (by rw [HN.out]; omega))
        have HNM := Lib.hid (rdAll_norm hL2)
        have HBL := Lib.hid hb
        clear hb hPP hL1 hL2 hL3 hs e HR
        go_wp2_with fail
        refine HP.out.mono ?_
        rintro e w2 ⟨rfl, hb2⟩
        have HB2 := Lib.hid (HW.out.trans (hb2.mono hBr))
        have hw2 : B ≤ w2.heap.size := Nat.le_trans hBr hb2.size
        clear hb2 HP
        go_upto_region 13 with (with_reducible refine wpList_store_mid rfl 69 (.tmp 9) (.tmp 35) rfl w2.heap.size 0 (cells8 PP).toArray ?e11 ?e12 ?e13 HSZ.out (cells8_one _) ?_)
        case e11 => rfl
        case e12 => rfl
        case e13 => exact there8 _ _
        rw [zero8]
        have HP3 := Lib.hid ((PL.new w2 (fun _ => Z0) 69).all (q := PP))
        have HB3 := Lib.hid (below_setCells (cells8 PP) 0 _ (HB2.out.alloc hw2 (.cells (cells8 fun _ => Z0).toArray 69)) hw2)
        obtain ⟨y, hy⟩ : ∃ y, y = w2.heap.size := ⟨_, rfl⟩
        rw [← hy] at HP3 HB3 ⊢
        clear hy HB2
        generalize (w2.alloc (.cells (cells8 fun _ => Z0).toArray 69)).setCells y 0 (cells8 PP) = w3 at *
        cases b with
        | false =>
          have H1 := Lib.hid (of_bad (l := xs) (by rw [HOF.out, ← HBL.out]; rfl))
          go_wp2_with fail
          go_ret2
          exact ⟨none, 0, 0, by rw [H1.out.1]; rfl, by rw [H1.out.2]; exact SS.none _, by have := HB3.out; rw [HBW.out] at this; exact this⟩
        | true =>
          have H1 := Lib.hid (of_good (l := xs) (L := L) (by rw [HOF.out, ← HBL.out]; rfl))
          have HLS : Hid (lstP PP 8 = L) := Lib.hid (by rw [HPP.out, if_pos rfl, lst_plcd HBL.out.symm, HNM.out])
          have HBw := HB3.out.size
          have hw3 : B ≤ w3.heap.size := by rw [HBW.out]; exact HB3.out.size
          go_wp2_with fail
          refine (list14_any y PP w3 HP3.out).mono ?_
          rintro e w4 ⟨a7, n7, c7, rfl, hs7, hb7⟩
          rw [HLS.out] at hs7
          have HS7 := Lib.hid hs7
          have HB7 := Lib.hid (HB3.out.trans (hb7.mono hw3))
          clear hs7 hb7
          go_wp2_with fail
          go_ret2
          exact ⟨a7, n7, c7, by rw [H1.out.1]; rfl, by rw [H1.out.2]; exact HS7.out, by have := HB7.out; rw [HBW.out] at this; exact this⟩
end Go.Proofs.Ytemaonfgledcmaa
