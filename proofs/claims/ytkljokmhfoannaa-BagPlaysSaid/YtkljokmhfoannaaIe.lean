/-
  Layer 15 (bag): contract of lay. Conditions: none.
-/
import Derived.Test.YtkljokmhfoannaaId
import Derived.Deep.DeepCutAuto
import Derived.Deep.CutRange
import Derived.BigQuiet
namespace Go.Proofs.Ytkljokmhfoannaa
open Go.RowKit Go.Maps
set_option linter.unusedVariables false
set_option linter.unusedSimpArgs false

theorem look_map {w : World} {mb N : Nat} {D : DataW Unit} (hm : w.ownsMap Try.prog 3 sR mb N D) {k : Int} {x : Sv} (hk : (Lit.int .i64 k).wf = true) (hat : ∀ z, D.atKey (ik k) z = sD x) :
    (Instr.lookup 58 (.map (some mb)) (.int .i64 k) false).run Try.prog w = .ok (sV x) w := by
  obtain ⟨v, ps, hr, hv⟩ := hm.lookup (int_keyed Try.underlying3) Try.underlying58 (zeroLs w) (zd := .nil) (zp := []) rfl (keyI k hk)
  rw [hat] at hv
  rw [hr, sR_inv hv]
theorem infoLt : (Try.prog.info? 39).map (fun i => (i.zero, i.size, i.bytes)) = some (some (.agg #[.int .i64 0, .int .i64 0, .string ⟨#[]⟩]), 3, 32) := by kernel_rfl
theorem infoLt_parts : ∃ i, Try.prog.info? 39 = some i ∧ i.zero = some (.agg #[.int .i64 0, .int .i64 0, .string ⟨#[]⟩]) ∧ i.size = 3 ∧ i.bytes = 32 := by
  obtain ⟨i, hi, h⟩ := Option.map_eq_some_iff.1 infoLt
  simp only [Prod.mk.injEq] at h
  exact ⟨i, hi, h.1, h.2.1, h.2.2⟩
/-- A letter in a block of its own. -/
structure LBox (w : World) (x : Nat) (l : Lt) : Prop where
  c0 : w.cell? ⟨x, 0, none⟩ = some (.int .i64 l.fr)
  c1 : w.cell? ⟨x, 1, none⟩ = some (.int .i64 l.to)
  c2 : w.cell? ⟨x, 2, none⟩ = some (.string l.tx)
  lt : x < w.heap.size
  f0 : w.frozen? ⟨x, 0, none⟩ = false
  f1 : w.frozen? ⟨x, 1, none⟩ = false
  f2 : w.frozen? ⟨x, 2, none⟩ = false
theorem LBox.new (w : World) (l : Lt) : LBox (w.alloc (.cells #[.int .i64 l.fr, .int .i64 l.to, .string l.tx] 39)) w.heap.size l := ⟨by simp, by simp, by simp, by simp, by simp, by simp, by simp⟩
theorem LBox.below {w w' : World} {x : Nat} {l : Lt} (h : LBox w x l) (hb : Below w.heap.size w w') : LBox w' x l :=
  ⟨(hb.cell (p := ⟨x, 0, none⟩) h.lt).trans h.c0, (hb.cell (p := ⟨x, 1, none⟩) h.lt).trans h.c1, (hb.cell (p := ⟨x, 2, none⟩) h.lt).trans h.c2, Nat.lt_of_lt_of_le h.lt hb.size,
    (hb.frozen (p := ⟨x, 0, none⟩) h.lt).trans h.f0, (hb.frozen (p := ⟨x, 1, none⟩) h.lt).trans h.f1, (hb.frozen (p := ⟨x, 2, none⟩) h.lt).trans h.f2⟩
theorem LBox.kp {w w' : World} {x : Nat} {l : Lt} (h : LBox w x l) (hb : w'.heap[x]? = w.heap[x]?) (hs : w.heap.size ≤ w'.heap.size) : LBox w' x l := by
  have c : ∀ o, w'.cell? ⟨x, o, none⟩ = w.cell? ⟨x, o, none⟩ := fun o => World.cell?_of_block (w := w) (a := ⟨x, o, none⟩) hb
  have f : ∀ o, w'.frozen? ⟨x, o, none⟩ = w.frozen? ⟨x, o, none⟩ := fun o => World.frozen?_of_block (w := w) (a := ⟨x, o, none⟩) hb
  exact ⟨(c 0).trans h.c0, (c 1).trans h.c1, (c 2).trans h.c2, Nat.lt_of_lt_of_le h.lt hs, (f 0).trans h.f0, (f 1).trans h.f1, (f 2).trans h.f2⟩
theorem cell_new3 (w : World) (a b c : Value) (t : TypeId) : ∀ j u, [a, b, c][j]? = some u → (w.alloc (.cells #[a, b, c] t)).cell? ((⟨w.heap.size, 0, none⟩ : Addr).add j) = some u := by
  intro j u hj
  match j, hj with
  | 0, hj => simp at hj; subst hj; simp [Addr.add]
  | 1, hj => simp at hj; subst hj; simp [Addr.add]
  | 2, hj => simp at hj; subst hj; simp [Addr.add]
/-- What lay leaves. -/
def LYR (own : Nat → Prop) (w : World) (b n c : Nat) (q : Wq) (l : Lt) (e : Ending) (w' : World) : Prop :=
  e = .returned (.int .i64 (layE q l)) ∧ BagAt own w' b n c (layQ q l) ∧ Kp own w w'
set_option maxRecDepth 100000 in
set_option maxHeartbeats 4000000 in
theorem lay15_any {own : Nat → Prop} {w : World} {b n c : Nat} {q : Wq} (h : BagAt own w b n c q) (l : Lt) (hk : (Lit.int .i64 l.to).wf = true) (hp : place n c l.to = true) :
    Calls Try.prog 36 #[.pointer (some ⟨b, 0, none⟩), lv l] w (LYR own w b n c q l) := by
  have H0 := Lib.hid h
  obtain ⟨mb, S, D, hB⟩ := h
  obtain ⟨i0, hi, hz0, hz1, hz2⟩ := infoLt_parts
  have hb1 := bal (Below.refl _ w) (.cells #[.int .i64 l.fr, .int .i64 l.to, .string l.tx] 39)
  have hB' := hB.below hb1
  have hlx := LBox.new w l
  have hxg : w.heap.size < (w.alloc (.cells #[.int .i64 l.fr, .int .i64 l.to, .string l.tx] 39)).heap.size := by simp
  obtain ⟨a, cp, hv, hcp⟩ := own_len (hB.row l.to hp)
  have HB1 := Lib.hid hb1
  have HBI := Lib.hid hB'
  have HBO := Lib.hid hB
  have HK := Lib.hid hk
  have HP := Lib.hid hp
  have HV := Lib.hid hv
  have HSM := Lib.hid (show Maps.size D < maxLen by have := hB.small; unfold maxLen; omega)
  have HHM := Lib.hid (hB.home l.to)
  unfold lv
  obtain ⟨o1, ho1⟩ : ∃ o, o = Obj.cells #[.int .i64 l.fr, .int .i64 l.to, .string l.tx] 39 := ⟨_, rfl⟩
  rw [← ho1] at hb1 hB' hlx hxg HB1 HBI
  obtain ⟨m, hm⟩ : ∃ m, m = (q l.to).length := ⟨_, rfl⟩
  have HMM := Lib.hid hm
  rw [← hm] at hcp hv
  have HO1 := Lib.hid ho1
  clear hb1 hk hp hB
  go_enter Try.func36, Try.ntmps36
  go_upto_region 1 with fail
  rw [← HO1.out]
  clear ho1
  obtain ⟨xb, hxb⟩ : ∃ xb, xb = w.heap.size := ⟨_, rfl⟩
  rw [← hxb] at hlx hxg ⊢
  have HXB := Lib.hid hxb
  obtain ⟨w1, hw1⟩ : ∃ w1, w1 = w.alloc o1 := ⟨_, rfl⟩
  rw [← hw1] at hB' hlx hxg HB1 HBI ⊢
  clear hw1 hxb
  have hlk : ∀ w', Below w1.heap.size w1 w' → (Instr.lookup 58 (.map (some mb)) (.int .i64 l.to) false).run Try.prog w' = .ok (.slice a m cp) w' := fun w' hb => by
    rw [(HBI.out.below hb).look l.to HK.out HP.out, hv]
  obtain ⟨c0, c1, hlt⟩ := hB'.cells
  obtain ⟨x0, x1, x2, -, -, -, -⟩ := hlx
  obtain ⟨kk, hK⟩ : ∃ kk, kk = l.to := ⟨_, rfl⟩
  have HKK := Lib.hid hK
  have HKW : Hid ((Lit.int .i64 kk).wf = true) := Lib.hid (by rw [hK]; exact HK.out)
  rw [← hK] at hlk x1
  clear hB' hm hv hK
  by_cases hfull : m < 1024
  · have hge : ¬ (1024 : Int) ≤ (m : Int) := by omega
    refine wp_region_below (by kernel_rfl) (by kernel_rfl) ?_
    repeat (first
      | go_big_quiet_skip
      | (go_big_quiet_want
         first
         | (refine BigFrame.quiet_move _ rfl ?_)
         | (refine BigFrame.quiet_assign _ rfl ?_)
         | (unfold Oper.quiet
            apply Exists.intro
            refine ⟨fun w' hw' => ?_, ?_⟩
            · (obtain ⟨hc', hf'⟩ := bcell hw'
               go_simp
               first
               | done
               | exact rfl))
         go_big_quiet_on
         simp only [Act.put, Act.eval, List.setIfInBounds_toArray, List.set_cons_zero, List.set_cons_succ, Array.getD_eq_getD_getElem?, List.getElem?_toArray, List.getElem?_cons_zero, List.getElem?_cons_succ, Option.getD_some]))
    refine wpQuiet_nil ?_
    intro w' hw'
    have HW := Lib.hid hw'
    have HC := Lib.hid (bcell hw')
    have y1 := (HC.out.1 b 1 hlt).trans c1
    have z0 := (HC.out.1 xb 0 hxg).trans x0
    have z1 := (HC.out.1 xb 1 hxg).trans x1
    have z2 := (HC.out.1 xb 2 hxg).trans x2
    have hlkd := hlk w'.drew hw'.drew
    have HLK := Lib.hid hlk
    have HLT := Lib.hid (And.intro hlt hxg)
    clear hlk c1 c0 x0 x1 x2 hw' hge hlt
    go_wp2_with fail
    refine mixed_region (D := (fun v => v.cell? ⟨b, 1, none⟩ = some (.map (some mb)) ∧ v.cell? ⟨xb, 0, none⟩ = some (.int .i64 l.fr) ∧ v.cell? ⟨xb, 1, none⟩ = some (.int .i64 kk) ∧ v.cell? ⟨xb, 2, none⟩ = some (.string l.tx) ∧ (Instr.lookup 58 (.map (some mb)) (.int .i64 kk) false).run Try.prog v = .ok (.slice a m cp) v)) [0, 1, 2, 3, 4, 5, 6, 7, 8, 9, 10, 11, 12, 13] [14, 15, 16] 16 (by kernel_rfl) (by kernel_rfl) (by decide) (⟨y1, z0, z1, z2, hlkd⟩) ?_
    simp only [List.filterMap_cons, List.filterMap_nil, List.getElem?_cons_zero, List.getElem?_cons_succ]
    repeat (
      (first
       | (refine calm_move _ rfl ?_)
       | (apply calm_cons
          · (intro w' hw'
             obtain ⟨hwa', hwb', hwc', hwd', hwe'⟩ := hw'
             go_simp
             first
             | done
             | exact rfl)))
      simp only [Act.put, Act.eval, List.setIfInBounds_toArray, List.set_cons_zero, List.set_cons_succ, Array.getD_eq_getD_getElem?, List.getElem?_toArray, List.getElem?_cons_zero, List.getElem?_cons_succ, Option.getD_some])
    refine calm_nil ?_
    have HY := Lib.hid (And.intro y1 (And.intro z0 (And.intro z1 z2)))
    clear y1 z0 z1 z2 hlkd
    have hbn := ((Below.refl w'.heap.size w').alloc (Nat.le_refl _) (.cells #[.int .i64 l.fr, .int .i64 kk, .string l.tx] 39)).drew
    have hnw : ∀ j u, [Value.int .i64 l.fr, .int .i64 kk, .string l.tx][j]? = some u → (w'.alloc (.cells #[.int .i64 l.fr, .int .i64 kk, .string l.tx] 39)).drew.cell? ((⟨w'.heap.size, 0, none⟩ : Addr).add j) = some u := cell_new3 w' (.int .i64 l.fr) (.int .i64 kk) (.string l.tx) 39
    obtain ⟨W2, hW2⟩ : ∃ W, W = (w'.alloc (.cells #[.int .i64 l.fr, .int .i64 kk, .string l.tx] 39)).drew := ⟨_, rfl⟩
    rw [← hW2] at hbn hnw
    have HBN := Lib.hid hbn
    have HNW := Lib.hid hnw
    have HW2 := Lib.hid hW2
    have H12 := Lib.hid (HW.out.trans (hbn.mono HW.out.size))
    clear hbn hnw hW2
    have hd2 : W2.cell? ⟨b, 1, none⟩ = some (.map (some mb)) ∧ W2.cell? ⟨xb, 0, none⟩ = some (.int .i64 l.fr) ∧ W2.cell? ⟨xb, 1, none⟩ = some (.int .i64 kk) ∧ W2.cell? ⟨xb, 2, none⟩ = some (.string l.tx) ∧ (Instr.lookup 58 (.map (some mb)) (.int .i64 kk) false).run Try.prog W2 = .ok (.slice a m cp) W2 := by
      obtain ⟨d1, d2, d3, d4⟩ := HY.out
      have hc := (bcell HBN.out).1
      have l1 := HLT.out
      exact ⟨(hc _ _ (Nat.lt_of_lt_of_le l1.1 HW.out.size)).trans d1, (hc _ _ (Nat.lt_of_lt_of_le l1.2 HW.out.size)).trans d2, (hc _ _ (Nat.lt_of_lt_of_le l1.2 HW.out.size)).trans d3, (hc _ _ (Nat.lt_of_lt_of_le l1.2 HW.out.size)).trans d4, HLK.out _ H12.out⟩
    have HD2 := Lib.hid hd2
    clear hd2
    refine loud_cons fun K hK => ?_
    go_wp2_with fail
    rw [← HW2.out]
    refine hK _ _ (fun _ => HD2.out) ?_
    clear hK K
    refine loud_cons fun K hK => ?_
    have hrow := (HBI.out.below H12.out).row l.to HP.out
    rw [HV.out, ← HMM.out] at hrow
    refine wpList_app_own rfl (.tmp 26) (.tmp 28) 28 rfl 39 i0 (.agg #[.int .i64 0, .int .i64 0, .string ⟨#[]⟩]) 3 32 Try.underlying28 hi hz0 hz1 hz2 rfl (by decide) (.slice a m cp) m (lcs (q l.to)) rfl hrow ⟨w'.heap.size, 0, none⟩ 1 1 (lcell ⟨l.fr, kk, l.tx⟩) rfl rfl ?c1 ?c2 ?c3 ?c4 ?_
    case c1 => exact HNW.out
    case c2 => exact lcs_one [⟨l.fr, kk, l.tx⟩]
    case c3 => unfold maxLen; omega
    case c4 => omega
    intro v3 W3 hown3 hgrow3 hblk3
    obtain ⟨x3, rfl⟩ := own_sV hown3
    have hown3 : W3.ownsRow 0 39 3 (sV x3) (q l.to ++ [l]).length (lcs (q l.to ++ [l])) := by
      rw [lcs_app, List.length_append, ← HMM.out]
      rw [HKK.out] at hown3
      exact hown3
    have hvb : (Value.slice a m cp).ownBlock = (S l.to).1 := by rw [← sV_own, HV.out, HMM.out]
    rw [hvb] at hgrow3 hblk3
    rw [sV_own] at hblk3
    have HO3 := Lib.hid hown3
    have HG3 := Lib.hid hgrow3
    have HR3 := Lib.hid hblk3
    clear hown3 hgrow3 hblk3 hrow hvb
    have hnb : (S l.to).1 ≠ some b := fun e => (HBO.out.rb HP.out e).1 rfl
    have hnx : (S l.to).1 ≠ some xb := fun e => by
      obtain ⟨_, hc⟩ := HBO.out.r_obj HP.out e
      have := heap_lt15 hc
      rw [HXB.out] at this
      exact Nat.lt_irrefl _ this
    have hnm : (S l.to).1 ≠ some mb := fun e => (HBO.out.rb HP.out e).2 rfl
    have hm3 : W3.ownsMap Try.prog 3 sR mb (Maps.size D) D := map_same15 (HBI.out.below H12.out).map (HG3.out.block mb (HBI.out.below H12.out).map.lt (fun e => hnm e.symm))
    have HM3 := Lib.hid hm3
    refine hK _ _ (fun _ => ?_) ?_
    · obtain ⟨d1, d2, d3, d4, -⟩ := HD2.out
      have l1 := HLT.out
      have s2 := H12.out.size
      have hcb : ∀ o, W3.cell? ⟨b, o, none⟩ = W2.cell? ⟨b, o, none⟩ := fun o => World.cell?_of_block (w := W2) (a := ⟨b, o, none⟩) (HG3.out.block b (Nat.lt_of_lt_of_le l1.1 s2) (fun e => hnb e.symm))
      have hcx : ∀ o, W3.cell? ⟨xb, o, none⟩ = W2.cell? ⟨xb, o, none⟩ := fun o => World.cell?_of_block (w := W2) (a := ⟨xb, o, none⟩) (HG3.out.block xb (Nat.lt_of_lt_of_le l1.2 s2) (fun e => hnx e.symm))
      refine ⟨(hcb 1).trans d1, (hcx 0).trans d2, (hcx 1).trans d3, (hcx 2).trans d4, ?_⟩
      have h := look_map (x := S l.to) HM3.out HK.out (HBO.out.at_ l.to HP.out)
      rw [HV.out, ← HMM.out, ← HKK.out] at h
      exact h
    clear hK K hm3 hnb hnx hnm
    refine loud_cons fun K hK => ?_
    go_wp2_with (at_mapUpdate; refine wpList_mapUpdate_in _ rfl _ _ _ 58 rfl 3 28 (int_keyed Try.underlying3) Try.underlying58 sR mb _ D rfl HM3.out HSM.out _ _ _ rfl rfl (keyI kk HKW.out) _ [] (sR_mk x3) ?_; intro w4 hown4 hturn4)
    refine hK _ _ (fun h => absurd rfl h) ?_
    clear hK K
    rw [HKK.out] at hown4
    have hst := HBO.out.store (k := l.to) (x := x3) (L := q l.to ++ [l]) HP.out (HB1.out.trans (H12.out.mono HB1.out.size)) HG3.out HO3.out HR3.out hown4 hturn4 (fun y hy => by
      rcases List.mem_append.1 hy with hy | hy
      · exact HHM.out.1 y hy
      · simp at hy; rw [hy]) (by rw [List.length_append, ← HMM.out]; simp; omega)
    have HST := Lib.hid hst
    clear hown4 hturn4 hst
    refine loud_nil ?_
    go_wp2_with fail
    go_ret
    unfold LYR layE layQ
    rw [← HMM.out, if_pos hfull, if_pos hfull]
    exact ⟨rfl, HST.out⟩
  · have hge : (1024 : Int) ≤ (m : Int) := by omega
    refine wp_region_below (by kernel_rfl) (by kernel_rfl) ?_
    repeat (first
      | go_big_quiet_skip
      | (go_big_quiet_want
         first
         | (refine BigFrame.quiet_move _ rfl ?_)
         | (refine BigFrame.quiet_assign _ rfl ?_)
         | (unfold Oper.quiet
            apply Exists.intro
            refine ⟨fun w' hw' => ?_, ?_⟩
            · (obtain ⟨hc', hf'⟩ := bcell hw'
               go_simp
               first
               | done
               | exact rfl))
         go_big_quiet_on
         simp only [Act.put, Act.eval, List.setIfInBounds_toArray, List.set_cons_zero, List.set_cons_succ, Array.getD_eq_getD_getElem?, List.getElem?_toArray, List.getElem?_cons_zero, List.getElem?_cons_succ, Option.getD_some]))
    refine wpQuiet_nil ?_
    intro w' hw'
    have HEND := Lib.hid (And.intro (H0.out.below (HB1.out.trans (hw'.mono HB1.out.size))) (Kp.of_below (HB1.out.trans (hw'.mono HB1.out.size)) H0.out.lt))
    go_wp2_with fail
    go_ret
    unfold LYR layE layQ
    rw [← HMM.out, if_neg hfull, if_neg hfull]
    exact ⟨rfl, HEND.out⟩
end Go.Proofs.Ytkljokmhfoannaa
