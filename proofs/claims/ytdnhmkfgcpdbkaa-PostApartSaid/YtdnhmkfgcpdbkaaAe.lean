/-
  Layer 16 (post): the walk of PostApart. Conditions: none.
-/
import Derived.Test.YtdnhmkfgcpdbkaaAd
import Derived.Test.YtdnhmkfgcpdbkaaUl
namespace Go.Proofs.Ytdnhmkfgcpdbkaa
open Go.RowKit
set_option linter.unusedVariables false
set_option linter.unusedSimpArgs false

theorem sealB_inj {l m : List UInt8} (h : sealB l = sealB m) : l = m := by
  have h2 : l ++ CR.tailL l = m ++ CR.tailL m := by
    have := congrArg (fun b => b.data.toList) h
    simpa [sealB] using this
  exact (List.append_inj' h2 (by rw [CR.tailL_length, CR.tailL_length])).1
theorem txF_n (x : Fld) : txF (nF x) = txF x := by cases x <;> rfl
theorem txE_n (l : List Fld) : txE (l.map nF) = txE l := by
  induction l with
  | nil => rfl
  | cons x r ih => unfold txE at ih ⊢; rw [List.map_cons, List.flatMap_cons, List.flatMap_cons, txF_n, ih]
theorem txLs_n (L : List (List Fld)) : txLs (L.map (·.map nF)) = txLs L := by
  unfold txLs
  rw [List.length_map]
  congr 1
  induction L with
  | nil => rfl
  | cons x r ih => rw [List.map_cons, List.flatMap_cons, List.flatMap_cons, txE_n, ih]
theorem txM_n (m : Mg) : txM (nM m) = txM m := by
  unfold txM txSg nM
  simp only [txE_n, txLs_n]
/-- Texts are the same just if the messages are (but for what Reply.Pairs of no elements is). -/
theorem apart_iff {a b : Mg} {R R' : Nat → Value → List (List Fld) → Prop} {VL UL : List Value} (ha : MV R VL a) (hb : MV R' UL b) (oa : okM a = true) (ob : okM b = true) : sealB (txM a) = sealB (txM b) ↔ nM a = nM b := by
  constructor
  · intro h
    have p := take_put a ha.shl.1 ha.shl.2.1 ha.shl.2.2 oa
    have q := take_put b hb.shl.1 hb.shl.2.1 hb.shl.2.2 ob
    rw [h] at p
    rw [← p.2, ← q.2]
  · intro h
    have : txM a = txM b := by rw [← txM_n a, ← txM_n b, h]
    rw [this]
set_option maxRecDepth 100000 in
set_option maxHeartbeats 8000000 in
theorem walk_PostApart (VL : List Value) (a : Mg) (UL : List Value) (b : Mg) (w : World) (h : MV (LRd w) VL a) (k : MV (LRd w) UL b) :
    Calls Try.prog 5 #[.agg VL.toArray, .agg UL.toArray] w fun e w' => e = .returned (.bool true) ∧ Below w.heap.size w w' := by
  have HLA := Lib.hid (fun W (hb : Below w.heap.size w W) => light16 VL a W (h.old hb))
  have HLB := Lib.hid (fun W (hb : Below w.heap.size w W) => light16 UL b W (k.old hb))
  have HPA := Lib.hid (fun W (hb : Below w.heap.size w W) => put16 VL a W (h.old hb))
  have HPB := Lib.hid (fun W (hb : Below w.heap.size w W) => put16 UL b W (k.old hb))
  have HSM := Lib.hid (fun W (hb : Below w.heap.size w W) => same16x VL UL a b W (h.old hb).v (k.old hb).v)
  have HIF := Lib.hid (apart_iff h k)
  have HSU : Hid ((Try.prog.info? 35).map (·.size) = some VL.length ∧ (Try.prog.info? 35).map (·.size) = some UL.length) := Lib.hid ⟨by rw [h.len]; exact Try.sizeMsg, by rw [k.len]; exact Try.sizeMsg⟩
  obtain ⟨ma, hma⟩ : ∃ x, x = w.heap.size := ⟨_, rfl⟩
  obtain ⟨mb, hmb⟩ : ∃ x, x = w.heap.size + 1 := ⟨_, rfl⟩
  obtain ⟨W1, hW1⟩ : ∃ W, W = (w.alloc (.cells VL.toArray 35)).alloc (.cells UL.toArray 35) := ⟨_, rfl⟩
  have e1 : (w.alloc (.cells VL.toArray 35)).heap.size = w.heap.size + 1 := by simp
  have hs1 : W1.heap.size = w.heap.size + 2 := by rw [hW1]; simp
  have hb0 : Below w.heap.size w (w.alloc (.cells VL.toArray 35)) := (Below.refl _ w).alloc (Nat.le_refl _) _
  have hb1 : Below w.heap.size w W1 := by rw [hW1]; exact hb0.alloc (by rw [e1]; omega) _
  have hra : W1.rangeAt ma 0 VL := fun i v hi => by
    rw [hW1, hma]
    have hlt : w.heap.size < (w.alloc (.cells VL.toArray 35)).heap.size := by rw [e1]; omega
    exact ((Below.refl (w.alloc (.cells VL.toArray 35)).heap.size (w.alloc (.cells VL.toArray 35))).alloc (Nat.le_refl _) _ |>.cell (p := ⟨w.heap.size, _, none⟩) hlt).trans (box_range w VL _ i v hi)
  have hrb : W1.rangeAt mb 0 UL := by
    have := box_range (w.alloc (.cells VL.toArray 35)) UL 35
    rw [e1] at this
    rw [hW1, hmb]
    exact this
  have hal : ma < W1.heap.size := by omega
  have hbl : mb < W1.heap.size := by omega
  have HX := Lib.hid (And.intro hma hmb)
  have HB1 := Lib.hid hb1
  have HRA : Hid (∀ W, Below W1.heap.size W1 W → W.rangeAt ma 0 VL) := Lib.hid (fun W hb j v hj => (hb.cell (p := ⟨ma, _, none⟩) hal).trans (hra j v hj))
  have HRB : Hid (∀ W, Below W1.heap.size W1 W → W.rangeAt mb 0 UL) := Lib.hid (fun W hb j v hj => (hb.cell (p := ⟨mb, _, none⟩) hbl).trans (hrb j v hj))
  have HRA1 := Lib.hid hra
  have HRB1 := Lib.hid hrb
  obtain ⟨pA, hpA⟩ : ∃ x, x = putS a := ⟨_, rfl⟩
  obtain ⟨eA, heA⟩ : ∃ x, x = putE a := ⟨_, rfl⟩
  obtain ⟨pB, hpB⟩ : ∃ x, x = putS b := ⟨_, rfl⟩
  obtain ⟨eB, heB⟩ : ∃ x, x = putE b := ⟨_, rfl⟩
  rw [← hpA, ← heA] at HPA
  rw [← hpB, ← heB] at HPB
  have HPS := Lib.hid (And.intro hpA (And.intro heA (And.intro hpB heB)))
  clear h k e1 hs1 hb0 hb1 hra hrb hma hmb hal hbl hpA heA hpB heB
  go_enter Try.func5, Try.ntmps5
  go_upto_region 1 with fail
  rw [← hW1]
  rw [show w.heap.size + 1 = mb from HX.out.2.symm]
  rw [show (Value.pointer (some ⟨w.heap.size, 0, none⟩)) = .pointer (some ⟨ma, 0, none⟩) by rw [HX.out.1]]
  clear hW1
  go_wp2_with (refine wpList_load_mid rfl 35 (.tmp 2) rfl ma 0 rfl VL _ HRA1.out Try.underlying35 rfl HSU.out.1 ?_)
  refine (HLA.out _ HB1.out).mono ?_
  rintro e w2 ⟨⟨q1, rfl⟩, hb⟩
  have HC2 := Lib.hid hb
  have HB2 := Lib.hid (HB1.out.trans (hb.mono HB1.out.size))
  have HRB2 := Lib.hid (HRB.out w2 hb)
  clear hb HLA HRA1 HRB1
  cases q1 with
  | false =>
    go_wp2_with fail
    refine (awake16_any w2).mono ?_
    rintro e w6 ⟨rfl, hb⟩
    have HB6 := Lib.hid (HB2.out.trans (hb.mono HB2.out.size))
    clear hb
    go_wp2_with fail
    go_ret
    exact ⟨rfl, HB6.out⟩
  | true =>
  go_wp2_with (refine wpList_load_want rfl 35 (.tmp 3) rfl mb 0 rfl UL _ HRB2.out Try.underlying35 rfl HSU.out.2 ?_)
  refine (HLB.out _ HB2.out).mono ?_
  rintro e w3 ⟨⟨q2, rfl⟩, hb⟩
  have HC3 := Lib.hid (HC2.out.trans (hb.mono HC2.out.size))
  have HB3 := Lib.hid (HB2.out.trans (hb.mono HB2.out.size))
  have HRA3 := Lib.hid (HRA.out w3 HC3.out)
  clear hb HLB HRB2 HB2 HC2
  cases q2 with
  | false =>
    go_wp2_with fail
    refine (awake16_any w3).mono ?_
    rintro e w6 ⟨rfl, hb⟩
    have HB6 := Lib.hid (HB3.out.trans (hb.mono HB3.out.size))
    clear hb
    go_wp2_with fail
    go_ret
    exact ⟨rfl, HB6.out⟩
  | true =>
  go_wp2_with (refine wpList_load_mid rfl 35 (.tmp 2) rfl ma 0 rfl VL _ HRA3.out Try.underlying35 rfl HSU.out.1 ?_)
  refine (HPA.out _ HB3.out).mono ?_
  rintro e w4 ⟨rfl, hb⟩
  have HC4 := Lib.hid (HC3.out.trans (hb.mono HC3.out.size))
  have HB4 := Lib.hid (HB3.out.trans (hb.mono HB3.out.size))
  have HRB4 := Lib.hid (HRB.out w4 HC4.out)
  clear hb HPA HRA3 HB3 HC3
  go_wp2_with (refine wpList_load_mid rfl 35 (.tmp 3) rfl mb 0 rfl UL _ HRB4.out Try.underlying35 rfl HSU.out.2 ?_)
  refine (HPB.out _ HB4.out).mono ?_
  rintro e w5 ⟨rfl, hb⟩
  have HC5 := Lib.hid (HC4.out.trans (hb.mono HC4.out.size))
  have HB5 := Lib.hid (HB4.out.trans (hb.mono HB4.out.size))
  have HRA5 := Lib.hid (HRA.out w5 HC5.out)
  have HRB5 := Lib.hid (HRB.out w5 HC5.out)
  clear hb HPB HRB4 HB4 HC4
  by_cases pa : putOk a = true
  case neg =>
    obtain rfl : eA = 1 := by rw [HPS.out.2.1]; unfold putE; rw [if_neg pa]
    clear HPS pa
    go_wp2_with fail
    refine (awake16_any w5).mono ?_
    rintro e w6 ⟨rfl, hb⟩
    have HB6 := Lib.hid (HB5.out.trans (hb.mono HB5.out.size))
    clear hb
    go_wp2_with fail
    go_ret
    exact ⟨rfl, HB6.out⟩
  obtain rfl : eA = 0 := by rw [HPS.out.2.1]; unfold putE; rw [if_pos pa]
  by_cases pb : putOk b = true
  case neg =>
    obtain rfl : eB = 1 := by rw [HPS.out.2.2.2]; unfold putE; rw [if_neg pb]
    clear HPS pa pb
    go_wp2_with fail
    refine (awake16_any w5).mono ?_
    rintro e w6 ⟨rfl, hb⟩
    have HB6 := Lib.hid (HB5.out.trans (hb.mono HB5.out.size))
    clear hb
    go_wp2_with fail
    go_ret
    exact ⟨rfl, HB6.out⟩
  obtain rfl : eB = 0 := by rw [HPS.out.2.2.2]; unfold putE; rw [if_pos pb]
  have hA : pA = sealB (txM a) := by rw [HPS.out.1]; unfold putS; rw [if_pos pa]
  have hB : pB = sealB (txM b) := by rw [HPS.out.2.2.1]; unfold putS; rw [if_pos pb]
  unfold putOk at pa pb
  simp only [Bool.and_eq_true, decide_eq_true_eq] at pa pb
  have HI : Hid (pA = pB ↔ nM a = nM b) := Lib.hid (by rw [hA, hB]; exact HIF.out pa.1.1 pb.1.1)
  have HS := Lib.hid (HSM.out w5 HB5.out pa.1.2 pb.1.2 pa.1.1 pb.1.1)
  clear hA hB pa pb HPS HIF HSM
  by_cases hpp : pA = pB
  · subst hpp
    have HNE : Hid (nM a = nM b) := Lib.hid (HI.out.1 rfl)
    go_wp2_with (first
      | (refine wpList_load_mid rfl 35 (.tmp 2) rfl ma 0 rfl VL _ HRA5.out Try.underlying35 rfl HSU.out.1 ?_)
      | (refine wpList_load_mid rfl 35 (.tmp 3) rfl mb 0 rfl UL _ HRB5.out Try.underlying35 rfl HSU.out.2 ?_))
    refine HS.out.mono ?_
    rintro e w6 ⟨⟨q, rfl, hq⟩, hb⟩
    obtain rfl : q = true := hq.2 HNE.out
    have HB6 := Lib.hid (HB5.out.trans (hb.mono HB5.out.size))
    clear hb hq
    go_wp2_with fail
    refine (awake16_any w6).mono ?_
    rintro e w7 ⟨rfl, hb⟩
    have HB7 := Lib.hid (HB6.out.trans (hb.mono HB6.out.size))
    clear hb
    go_wp2_with fail
    go_ret
    exact ⟨rfl, HB7.out⟩
  · have HNE : Hid (¬ nM a = nM b) := Lib.hid (fun e => hpp (HI.out.2 e))
    have hpl := bl_ne hpp
    have hpl2 : (pA.toList == pB.toList) = false := by rw [beq_eq_false_iff_ne]; exact hpl
    clear hpp
    go_wp2_with (first
      | (refine wpList_load_mid rfl 35 (.tmp 2) rfl ma 0 rfl VL _ HRA5.out Try.underlying35 rfl HSU.out.1 ?_)
      | (refine wpList_load_mid rfl 35 (.tmp 3) rfl mb 0 rfl UL _ HRB5.out Try.underlying35 rfl HSU.out.2 ?_))
    refine HS.out.mono ?_
    rintro e w6 ⟨⟨q, rfl, hq⟩, hb⟩
    obtain rfl : q = false := by cases q with | false => rfl | true => exact absurd (hq.1 rfl) HNE.out
    have HB6 := Lib.hid (HB5.out.trans (hb.mono HB5.out.size))
    clear hb hq
    go_wp2_with fail
    refine (awake16_any w6).mono ?_
    rintro e w7 ⟨rfl, hb⟩
    have HB7 := Lib.hid (HB6.out.trans (hb.mono HB6.out.size))
    clear hb
    go_wp2_with fail
    go_ret
    exact ⟨rfl, HB7.out⟩
end Go.Proofs.Ytdnhmkfgcpdbkaa
