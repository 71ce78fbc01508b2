/-
  Layer 16 (post): Same of what clients did last, exact, where replies have no pairs. Conditions: as each says.
-/
import Derived.Test.YtdnhmkfgcpdbkaaAb
import Derived.Test.YtdnhmkfgcpdbkaaTz
import Derived.Test.YtdnhmkfgcpdbkaaRg
namespace Go.Proofs.Ytdnhmkfgcpdbkaa
open Go.RowKit
set_option linter.unusedVariables false
set_option linter.unusedSimpArgs false

set_option maxRecDepth 100000 in
set_option maxHeartbeats 8000000 in
theorem same14x (w : World) (a1 : Option Addr) (n1 c1 : Nat) (a2 : Option Addr) (n2 c2 : Nat) (L M : List (List Fld)) (h1 : LRv w 7 (.slice a1 n1 c1) L) (h2 : LRv w 7 (.slice a2 n2 c2) M) (hsp : ∀ x ∈ L, slPr x) (hsp2 : ∀ x ∈ M, slPr x) (hb : bareL L = true) (hb2 : bareL M = true) (hm : L.length ≤ maxLen) (hm2 : M.length ≤ maxLen) :
    Calls Try.prog 27 #[.slice a1 n1 c1, .slice a2 n2 c2] w fun e w' => SamB (L.map (·.map nF)) (M.map (·.map nF)) e ∧ Below w.heap.size w w' := by
  unfold maxLen at hm hm2
  obtain ⟨_, _, _, e1, k1, r1⟩ := h1
  obtain ⟨_, _, _, e2, k2, r2⟩ := h2
  injection e1 with e1 e1' e1''
  injection e2 with e2 e2' e2''
  subst e1 e1' e1'' e2 e2' e2''
  by_cases hn : n1 = n2
  case neg =>
    have hni : ¬ (n1 : Int) = (n2 : Int) := by omega
    have HF : Hid (SamB (L.map (·.map nF)) (M.map (·.map nF)) (.returned (.bool false))) := Lib.hid (SamB.no (fun e => hn (by have := congrArg List.length e; rw [List.length_map, List.length_map] at this; omega)))
    clear r1 r2 k1 k2 hsp hsp2 hb hb2
    go_enter Try.func27, Try.ntmps27
    go_wp2_with fail
    go_ret
    exact ⟨HF.out, Below.refl _ _⟩
  subst hn
  obtain ⟨n, hn⟩ : ∃ n, n = L.length := ⟨_, rfl⟩
  rw [← hn] at k1
  subst k1
  rw [← hn] at hm
  have HN := Lib.hid (And.intro hn k2)
  have H1 := Lib.hid r1
  have H2 := Lib.hid r2
  have HSH := Lib.hid (And.intro hsp (And.intro hsp2 (And.intro hb hb2)))
  clear r1 r2 hsp hsp2 hb hb2 hn k2
  go_enter Try.func27, Try.ntmps27
  go_wp2_with fail
  go_loopw [5] (fun i wr => ∃ k : Nat, i = .int .i64 k ∧ k ≤ n ∧ Hid ((L.map (·.map nF)).take k = (M.map (·.map nF)).take k) ∧ Hid (Below w.heap.size w wr)) (fun i _ => n - (intOf i).toNat)
  case atStart => exact ⟨0, by first | rfl | go_num, by omega, Lib.hid rfl, Lib.hid (Below.refl _ _)⟩
  case round =>
    obtain ⟨k, rfl, hk, HE, HW⟩ := hrel
    have hws := HW.out.size
    by_cases hlt : k < n
    · have hki : (k : Int) < (n : Int) := by omega
      have hkl : k < L.length := by rw [← HN.out.1]; exact hlt
      have hkm : k < M.length := by rw [HN.out.2]; exact hlt
      have hkl' : k < (L.map (·.map nF)).length := by rw [List.length_map]; exact hkl
      have hkm' : k < (M.map (·.map nF)).length := by rw [List.length_map]; exact hkm
      obtain ⟨x, hx⟩ : ∃ x, x = L[k] := ⟨_, rfl⟩
      obtain ⟨y, hy⟩ : ∃ y, y = M[k] := ⟨_, rfl⟩
      have hmx : x ∈ L := by rw [hx]; exact List.getElem_mem hkl
      have hmy : y ∈ M := by rw [hy]; exact List.getElem_mem hkm
      have hsx := HSH.out.1 x hmx
      have hsy := HSH.out.2.1 y hmy
      have hbx : prN x = 0 := of_decide_eq_true (List.all_eq_true.1 HSH.out.2.2.1 x hmx)
      have hby : prN y = 0 := of_decide_eq_true (List.all_eq_true.1 HSH.out.2.2.2 y hmy)
      have hgx : (L.map (·.map nF))[k] = x.map nF := by rw [List.getElem_map, hx]
      have hgy : (M.map (·.map nF))[k] = y.map nF := by rw [List.getElem_map, hy]
      have HTE : Hid (x.map nF = y.map nF → (L.map (·.map nF)).take (k + 1) = (M.map (·.map nF)).take (k + 1)) := Lib.hid (fun e => by rw [List.take_succ_eq_append_getElem hkl', List.take_succ_eq_append_getElem hkm', HE.out, hgx, hgy, e])
      have HTN : Hid (x.map nF ≠ y.map nF → SamB (L.map (·.map nF)) (M.map (·.map nF)) (.returned (.bool false))) := Lib.hid (fun e => SamB.no (fun c => e (by rw [← hgx, ← hgy]; exact getElem_eq c hkl' hkm')))
      rcases H1.out with e0 | ⟨b1, o1, q1, l1, g1⟩
      · rw [e0] at hkl; simp at hkl
      rcases H2.out with e0 | ⟨b2, o2, q2, l2, g2⟩
      · rw [e0] at hkm; simp at hkm
      subst q1 q2
      have hf1 : FAt wr b1 (o1 + k * 7) x := fun i hi => (HW.out.cell (p := ⟨b1, _, none⟩) l1).trans (by subst hx; exact g1 k hkl i hi)
      have hf2 : FAt wr b2 (o2 + k * 7) y := fun i hi => (HW.out.cell (p := ⟨b2, _, none⟩) l2).trans (by subst hy; exact g2 k hkm i hi)
      have hl1 : b1 < wr.heap.size := Nat.lt_of_lt_of_le l1 hws
      have hl2 : b2 < wr.heap.size := Nat.lt_of_lt_of_le l2 hws
      clear g1 g2 hx hy l1 l2 hkl hkm hkl' hkm' hgx hgy hmx hmy
      obtain ⟨cc, sq, er, va, g, pa, pn, pc, pu, rfl⟩ := hsx
      obtain ⟨cc2, sq2, er2, va2, g2, pa2, pn2, pc2, pu2, rfl⟩ := hsy
      obtain rfl : pn = 0 := hbx
      obtain rfl : pn2 = 0 := hby
      have p0 := hf1 0 (by simp)
      have p1 := hf1 1 (by simp)
      have p2 := hf1 2 (by simp)
      have p3 := hf1 3 (by simp)
      have p4 := hf1 4 (by simp)
      have p5 := hf1 5 (by simp)
      have p6 := hf1 6 (by simp)
      have q0 := hf2 0 (by simp)
      have q1 := hf2 1 (by simp)
      have q2 := hf2 2 (by simp)
      have q3 := hf2 3 (by simp)
      have q4 := hf2 4 (by simp)
      have q5 := hf2 5 (by simp)
      have q6 := hf2 6 (by simp)
      simp only [List.getElem_cons_zero, List.getElem_cons_succ, Fld.cell, Nat.add_zero] at p0 p1 p2 p3 p4 p5 p6 q0 q1 q2 q3 q4 q5 q6
      clear hf1 hf2
      obtain ⟨qv, hqv⟩ : ∃ qv : Bool, qv = true ↔ (er, va, g, pu, ([] : List (List Fld))) = (er2, va2, g2, pu2, ([] : List (List Fld))) := by
        by_cases c : (er, va, g, pu, ([] : List (List Fld))) = (er2, va2, g2, pu2, ([] : List (List Fld)))
        · exact ⟨true, by simp [c]⟩
        · exact ⟨false, by simp [c]⟩
      have HSR : Hid (∀ W, Calls Try.prog 24 #[.agg #[.int .i64 er, .string va, .bool g, .slice pa 0 pc, .string pu], .agg #[.int .i64 er2, .string va2, .bool g2, .slice pa2 0 pc2, .string pu2]] W fun e w' => e = .returned (.bool qv) ∧ Below W.heap.size W w') := Lib.hid fun W =>
        (sameRepx W er va g pu pa 0 pc er2 va2 g2 pu2 pa2 0 pc2 [] [] ⟨_, _, _, rfl, rfl, .inl rfl⟩ ⟨_, _, _, rfl, rfl, .inl rfl⟩ (fun x hx => by simp at hx) (fun x hx => by simp at hx) (Nat.zero_le _) (Nat.zero_le _)).mono (by
          rintro e w' ⟨⟨q, rfl, hq⟩, hb⟩
          refine ⟨?_, hb⟩
          have : q = qv := by
            by_cases c : (er, va, g, pu, ([] : List (List Fld))) = (er2, va2, g2, pu2, ([] : List (List Fld)))
            · rw [hq.2 c, hqv.2 c]
            · have h1 : q = false := by cases q with | false => rfl | true => exact absurd (hq.1 rfl) c
              have h2 : qv = false := by cases qv with | false => rfl | true => exact absurd (hqv.1 rfl) c
              rw [h1, h2]
          rw [this])
      have HQ := Lib.hid hqv
      clear hqv
      by_cases ecc : cc = cc2
      case neg =>
        have hb0 : (cc != cc2) = true := by rw [bne_iff_ne]; exact ecc
        have hb1 : (cc == cc2) = false := by rw [beq_eq_false_iff_ne]; exact ecc
        have HF := Lib.hid (HTN.out (fun c => ecc (by have := congrArg (fun l => l[0]?) c; simpa [nF] using this)))
        clear HTE HTN
        go_wp2_with fail
        refine wp_region_below (by kernel_rfl) (by kernel_rfl) ?_
        repeat (first
          | go_big_quiet_skip
          | (go_big_quiet_want
             first
             | (refine BigFrame.quiet_move _ rfl ?_)
             | (refine BigFrame.quiet_assign _ rfl ?_)
             | (unfold Oper.quiet
                apply Exists.intro
                refine ⟨fun w' hw' => ?_, ?_⟩
                · (obtain ⟨hc', hf'⟩ := bcell hw'
                   go_simp
                   first
                   | done
                   | exact rfl
                   | (go_at_call 24; (with_reducible refine (HSR.out _).mono ?_); rintro e w'' ⟨rfl, bb⟩; exact ⟨rfl, by first | exact bt hw' bb | simpa using bt hw' bb⟩)))
             go_big_quiet_on
             simp only [Act.put, Act.eval, List.setIfInBounds_toArray, List.set_cons_zero, List.set_cons_succ, Array.getD_eq_getD_getElem?, List.getElem?_toArray, List.getElem?_cons_zero, List.getElem?_cons_succ, Option.getD_some]))
        refine wpQuiet_nil ?_
        intro w' hw'
        clear p0 p1 p2 p3 p4 p5 p6 q0 q1 q2 q3 q4 q5 q6
        go_wp2_with fail
        go_ret
        exact ⟨HF.out, HW.out.trans (hw'.mono hws)⟩
      subst ecc
      by_cases esq : sq = sq2
      case neg =>
        have hb0 : (sq != sq2) = true := by rw [bne_iff_ne]; exact esq
        have hb1 : (sq == sq2) = false := by rw [beq_eq_false_iff_ne]; exact esq
        have HF := Lib.hid (HTN.out (fun c => esq (by have := congrArg (fun l => l[1]?) c; simpa [nF] using this)))
        clear HTE HTN
        go_wp2_with fail
        refine wp_region_below (by kernel_rfl) (by kernel_rfl) ?_
        repeat (first
          | go_big_quiet_skip
          | (go_big_quiet_want
             first
             | (refine BigFrame.quiet_move _ rfl ?_)
             | (refine BigFrame.quiet_assign _ rfl ?_)
             | (unfold Oper.quiet
                apply Exists.intro
                refine ⟨fun w' hw' => ?_, ?_⟩
                · (obtain ⟨hc', hf'⟩ := bcell hw'
                   go_simp
                   first
                   | done
                   | exact rfl
                   | (go_at_call 24; (with_reducible refine (HSR.out _).mono ?_); rintro e w'' ⟨rfl, bb⟩; exact ⟨rfl, by first | exact bt hw' bb | simpa using bt hw' bb⟩)))
             go_big_quiet_on
             simp only [Act.put, Act.eval, List.setIfInBounds_toArray, List.set_cons_zero, List.set_cons_succ, Array.getD_eq_getD_getElem?, List.getElem?_toArray, List.getElem?_cons_zero, List.getElem?_cons_succ, Option.getD_some]))
        refine wpQuiet_nil ?_
        intro w' hw'
        clear p0 p1 p2 p3 p4 p5 p6 q0 q1 q2 q3 q4 q5 q6
        go_wp2_with fail
        go_ret
        exact ⟨HF.out, HW.out.trans (hw'.mono hws)⟩
      subst esq
      cases qv with
      | false =>
        have HF := Lib.hid (HTN.out (fun c => by
          have h2 := congrArg (fun l => l[2]?) c
          have h3 := congrArg (fun l => l[3]?) c
          have h4 := congrArg (fun l => l[4]?) c
          have h6 := congrArg (fun l => l[6]?) c
          simp [nF] at h2 h3 h4 h6
          have := HQ.out.2 (by rw [h2, h3, h4, h6])
          cases this))
        clear HTE HTN
        go_wp2_with fail
        refine wp_region_below (by kernel_rfl) (by kernel_rfl) ?_
        repeat (first
          | go_big_quiet_skip
          | (go_big_quiet_want
             first
             | (refine BigFrame.quiet_move _ rfl ?_)
             | (refine BigFrame.quiet_assign _ rfl ?_)
             | (unfold Oper.quiet
                apply Exists.intro
                refine ⟨fun w' hw' => ?_, ?_⟩
                · (obtain ⟨hc', hf'⟩ := bcell hw'
                   go_simp
                   first
                   | done
                   | exact rfl
                   | (go_at_call 24; (with_reducible refine (HSR.out _).mono ?_); rintro e w'' ⟨rfl, bb⟩; exact ⟨rfl, by first | exact bt hw' bb | simpa using bt hw' bb⟩)))
             go_big_quiet_on
             simp only [Act.put, Act.eval, List.setIfInBounds_toArray, List.set_cons_zero, List.set_cons_succ, Array.getD_eq_getD_getElem?, List.getElem?_toArray, List.getElem?_cons_zero, List.getElem?_cons_succ, Option.getD_some]))
        refine wpQuiet_nil ?_
        intro w' hw'
        clear p0 p1 p2 p3 p4 p5 p6 q0 q1 q2 q3 q4 q5 q6
        go_wp2_with fail
        go_ret
        exact ⟨HF.out, HW.out.trans (hw'.mono hws)⟩
      | true =>
        have HTK := Lib.hid (HTE.out (by
          have h := HQ.out.1 rfl
          simp only [Prod.mk.injEq] at h
          obtain ⟨e1, e2, e3, e4, _⟩ := h
          simp [nF, e1, e2, e3, e4]))
        clear HTE HTN
        go_wp2_with fail
        refine wp_region_below (by kernel_rfl) (by kernel_rfl) ?_
        repeat (first
          | go_big_quiet_skip
          | (go_big_quiet_want
             first
             | (refine BigFrame.quiet_move _ rfl ?_)
             | (refine BigFrame.quiet_assign _ rfl ?_)
             | (unfold Oper.quiet
                apply Exists.intro
                refine ⟨fun w' hw' => ?_, ?_⟩
                · (obtain ⟨hc', hf'⟩ := bcell hw'
                   go_simp
                   first
                   | done
                   | exact rfl
                   | (go_at_call 24; (with_reducible refine (HSR.out _).mono ?_); rintro e w'' ⟨rfl, bb⟩; exact ⟨rfl, by first | exact bt hw' bb | simpa using bt hw' bb⟩)))
             go_big_quiet_on
             simp only [Act.put, Act.eval, List.setIfInBounds_toArray, List.set_cons_zero, List.set_cons_succ, Array.getD_eq_getD_getElem?, List.getElem?_toArray, List.getElem?_cons_zero, List.getElem?_cons_succ, Option.getD_some]))
        refine wpQuiet_nil ?_
        intro w' hw'
        clear p0 p1 p2 p3 p4 p5 p6 q0 q1 q2 q3 q4 q5 q6
        go_wp2_with fail
        go_roundw
        case rel => exact ⟨k + 1, by go_num, by omega, HTK, Lib.hid (HW.out.trans (hw'.mono hws))⟩
        case measure => simp [intOf]; omega
    · obtain rfl : k = n := by omega
      have hki : ¬ (k : Int) < (k : Int) := by omega
      have HF : Hid (SamB (L.map (·.map nF)) (M.map (·.map nF)) (.returned (.bool true))) := Lib.hid (SamB.yes (by
        have h := HE.out
        have e1 : (L.map (·.map nF)).take k = L.map (·.map nF) := by rw [List.take_of_length_le (by rw [List.length_map, ← HN.out.1]; exact Nat.le_refl _)]
        have e2 : (M.map (·.map nF)).take k = M.map (·.map nF) := by rw [List.take_of_length_le (by rw [List.length_map, HN.out.2]; exact Nat.le_refl _)]
        rw [e1, e2] at h
        exact h))
      clear hlt hk
      go_wp2_with fail
      go_ret
      exact ⟨HF.out, HW.out⟩
end Go.Proofs.Ytdnhmkfgcpdbkaa
