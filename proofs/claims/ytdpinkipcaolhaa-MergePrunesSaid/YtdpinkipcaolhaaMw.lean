/-
  Layer 11 (merge): what is left in order is one only; the contract of the law's own awake. Conditions: none.
-/
import Derived.Test.YtdpinkipcaolhaaQK
import Derived.Test.YtdpinkipcaolhaaQO
import Derived.Test.YtdpinkipcaolhaaQL
import Derived.Laws.StructEq
import Derived.Deep.RegionHeld3
namespace Go.Proofs.Ytdpinkipcaolhaa
set_option maxRecDepth 100000
open Go.RowKit
set_option linter.unusedVariables false
set_option linter.unusedSimpArgs false

theorem pw_uniq : ∀ {l l' : List Ent}, PW l → PW l' → (∀ e, e ∈ l ↔ e ∈ l') → l = l'
  | [], [], _, _, _ => rfl
  | [], y :: l', _, _, h => absurd ((h y).2 (by simp)) (by simp)
  | x :: l, [], _, _, h => absurd ((h x).1 (by simp)) (by simp)
  | x :: l, y :: l', h, h', hm => by
    obtain ⟨h1, h2⟩ := List.pairwise_cons.1 h
    obtain ⟨k1, k2⟩ := List.pairwise_cons.1 h'
    have hxy : x = y := by
      rcases List.mem_cons.1 ((hm x).1 (by simp)) with e | e
      · exact e
      · rcases List.mem_cons.1 ((hm y).2 (by simp)) with q | q
        · exact q.symm
        · have := lessE_asymm (h1 y q)
          rw [k1 x e] at this
          cases this
    subst hxy
    rw [pw_uniq h2 k2 fun e => ?_]
    have hi := lessE_irr x
    constructor
    · intro he
      rcases List.mem_cons.1 ((hm e).1 (by simp [he])) with q | q
      · subst q; rw [h1 e he] at hi; cases hi
      · exact q
    · intro he
      rcases List.mem_cons.1 ((hm e).2 (by simp [he])) with q | q
      · subst q; rw [k1 e he] at hi; cases hi
      · exact q
theorem AllS.uniq {L vs ts : List Ent} (h : AllS L vs) (h' : AllS L ts) : vs = ts := pw_uniq h.2 h'.2 fun e => (h.1 e).trans (h'.1 e).symm
theorem pw_place {l : List Ent} (h : PW l) {a b : Ent} (ha : a ∈ l) (hb : b ∈ l) (h1 : a.1 = b.1) (h2 : a.2.2.2 = b.2.2.2) : a = b := by
  obtain ⟨i, hi, rfl⟩ := List.getElem_of_mem ha
  obtain ⟨j, hj, rfl⟩ := List.getElem_of_mem hb
  rcases Nat.lt_trichotomy i j with q | q | q
  · have := pw_at h hi hj q
    rw [lessE_like (c := l[j]) h1 h2, lessE_irr] at this
    cases this
  · subst q; rfl
  · have := pw_at h hj hi q
    rw [lessE_like (c := l[i]) h1.symm h2.symm, lessE_irr] at this
    cases this
theorem all_perm {L vs : List Ent} (hp : vs.Perm L) (hs : PW vs) : AllS L vs := by
  refine ⟨fun e => ⟨fun he => ?_, fun he => hp.mem_iff.2 (List.mem_reverse.1 (List.mem_of_find?_eq_some he))⟩, hs⟩
  have h1 : (L.reverse.find? (atM e.1 e.2.2.2)).isSome = true := List.find?_isSome.2 ⟨e, List.mem_reverse.2 (hp.mem_iff.1 he), atM_iff.2 ⟨rfl, rfl⟩⟩
  obtain ⟨f, hf⟩ := Option.isSome_iff_exists.1 h1
  obtain ⟨e1, e2⟩ := atM_iff.1 (List.find?_some hf)
  have hm := hp.mem_iff.2 (List.mem_reverse.1 (List.mem_of_find?_eq_some hf))
  rw [hf, pw_place hs hm he e1 e2]
def awA : List Ent := [(⟨#[97]⟩, ⟨#[120]⟩, false, 9), (⟨#[97]⟩, ⟨#[]⟩, true, 4)]
def awB : List Ent := [(⟨#[97]⟩, ⟨#[121]⟩, false, 2), (⟨#[98]⟩, ⟨#[122]⟩, false, 3)]
def awM : List Ent := [(⟨#[97]⟩, ⟨#[120]⟩, false, 9), (⟨#[97]⟩, ⟨#[]⟩, true, 4), (⟨#[97]⟩, ⟨#[121]⟩, false, 2), (⟨#[98]⟩, ⟨#[122]⟩, false, 3)]
theorem awM_ok : okB awM = true := by decide +kernel
theorem awA_ok : okB awA = true := by decide +kernel
theorem awB_ok : okB awB = true := by decide +kernel
theorem awM_all : AllS (awA ++ awB) awM := all_perm (List.Perm.refl _) (okB_pw awM_ok)
theorem ok_small {k v : ByteArray} (h : k.size ≤ 9) (h' : v.size ≤ 9) : okS k ∧ okS v := by unfold okS; exact ⟨by omega, by omega⟩
theorem awA_okV : okV awA := by
  intro e he
  simp only [awA, List.mem_cons, List.not_mem_nil, or_false] at he
  rcases he with rfl | rfl <;> exact ok_small (by decide) (by decide)
theorem awB_okV : okV awB := by
  intro e he
  simp only [awB, List.mem_cons, List.not_mem_nil, or_false] at he
  rcases he with rfl | rfl <;> exact ok_small (by decide) (by decide)
theorem awM_okV : okV awM := by
  intro e he
  simp only [awM, List.mem_cons, List.not_mem_nil, or_false] at he
  rcases he with rfl | rfl | rfl | rfl <;> exact ok_small (by decide) (by decide)
theorem awM_vis : visA 3 (allG awM) = [(⟨#[97]⟩, ⟨#[121]⟩), (⟨#[98]⟩, ⟨#[122]⟩)] := by
  rw [visA_eq, if_pos awM_ok]
  decide +kernel
theorem awM_sin : sinA 8 (allG awM) = [(⟨#[97]⟩, ⟨#[120]⟩, false, 9)] := by
  rw [sinA_eq, if_pos awM_ok]
  decide +kernel
theorem awM_groups : allG awM = [(0, awM.take 3), (3, awM.drop 3)] := by
  unfold allG
  rw [if_pos awM_ok, groups_cons (by decide), show runN awM = 3 by decide +kernel, groups_cons (by decide), show runN (awM.drop 3) = 1 by decide +kernel]
  rw [show (awM.drop 3).drop 1 = [] by rfl, groups_nil]
  rfl
theorem awM_pru : (pruA [3] true (allG awM)).length = 3 := by
  rw [awM_groups]
  decide +kernel
abbrev awObjA : Obj := .cells #[.string ⟨#[97]⟩, .string ⟨#[120]⟩, .bool false, .int .i64 9, .string ⟨#[97]⟩, .string ⟨#[]⟩, .bool true, .int .i64 4] 37
abbrev awObjB : Obj := .cells #[.string ⟨#[97]⟩, .string ⟨#[121]⟩, .bool false, .int .i64 2, .string ⟨#[98]⟩, .string ⟨#[122]⟩, .bool false, .int .i64 3] 37
abbrev awObjL (n : Nat) : Obj := .cells #[.slice (some ⟨n + 1, 0, none⟩) 2 2, .slice (some ⟨n, 0, none⟩) 2 2] 22
abbrev awW (w : World) : World := ((w.alloc awObjA).alloc awObjB).alloc (awObjL w.heap.size)
abbrev awLs (n : Nat) : List Lst := [(some ⟨n + 1, 0, none⟩, 2, awB), (some ⟨n, 0, none⟩, 2, awA)]
theorem awA_rd (w : World) : RdE (w.alloc awObjA) (some ⟨w.heap.size, 0, none⟩) awA := by
  have hh : (w.alloc awObjA).heap[w.heap.size]? = some awObjA := heap_alloc_new w _
  refine .inr ⟨w.heap.size, 0, rfl, heap_lt hh, fun i hi => ?_⟩
  have hi2 : i < 2 := hi
  match i, hi2 with
  | 0, _ => exact ⟨by rw [Lib.cell_of_heap hh]; rfl, by rw [Lib.cell_of_heap hh]; rfl, by rw [Lib.cell_of_heap hh]; rfl, by rw [Lib.cell_of_heap hh]; rfl⟩
  | 1, _ => exact ⟨by rw [Lib.cell_of_heap hh]; rfl, by rw [Lib.cell_of_heap hh]; rfl, by rw [Lib.cell_of_heap hh]; rfl, by rw [Lib.cell_of_heap hh]; rfl⟩
theorem awB_rd (w : World) : RdE (w.alloc awObjB) (some ⟨w.heap.size, 0, none⟩) awB := by
  have hh : (w.alloc awObjB).heap[w.heap.size]? = some awObjB := heap_alloc_new w _
  refine .inr ⟨w.heap.size, 0, rfl, heap_lt hh, fun i hi => ?_⟩
  have hi2 : i < 2 := hi
  match i, hi2 with
  | 0, _ => exact ⟨by rw [Lib.cell_of_heap hh]; rfl, by rw [Lib.cell_of_heap hh]; rfl, by rw [Lib.cell_of_heap hh]; rfl, by rw [Lib.cell_of_heap hh]; rfl⟩
  | 1, _ => exact ⟨by rw [Lib.cell_of_heap hh]; rfl, by rw [Lib.cell_of_heap hh]; rfl, by rw [Lib.cell_of_heap hh]; rfl, by rw [Lib.cell_of_heap hh]; rfl⟩
theorem awW_below (w : World) : Below w.heap.size w (awW w) := (((Below.refl _ w).alloc (Nat.le_refl _) _).alloc (by simp) _).alloc (by simp; omega) _
theorem awW_a (w : World) : RdE (awW w) (some ⟨w.heap.size, 0, none⟩) awA := ((awA_rd w).old ((Below.refl _ _).alloc (Nat.le_refl _) _)).old ((Below.refl _ _).alloc (Nat.le_refl _) _)
theorem awW_b (w : World) : RdE (awW w) (some ⟨w.heap.size + 1, 0, none⟩) awB := by
  have h := awB_rd (w.alloc awObjA)
  rw [World.size_alloc] at h
  exact h.old ((Below.refl _ _).alloc (Nat.le_refl _) _)
theorem awW_ls (w : World) : LLc (awW w) (w.heap.size + 2) 0 (awLs w.heap.size) := by
  have hh : (awW w).heap[w.heap.size + 2]? = some (awObjL w.heap.size) := by
    have h := heap_alloc_new ((w.alloc awObjA).alloc awObjB) (awObjL w.heap.size)
    rw [World.size_alloc, World.size_alloc] at h
    exact h
  intro i hi
  have hi2 : i < 2 := hi
  match i, hi2 with
  | 0, _ => exact ⟨by rw [Lib.cell_of_heap hh]; rfl, awW_b w⟩
  | 1, _ => exact ⟨by rw [Lib.cell_of_heap hh]; rfl, awW_a w⟩
theorem awLs_ok (n : Nat) : okLs (awLs n) := by
  intro x hx
  simp only [awLs, List.mem_cons, List.not_mem_nil, or_false] at hx
  rcases hx with rfl | rfl
  · exact ⟨awB_okV, show 2 ≤ 4096 by decide, show 2 ≤ 2 by decide, show 2 ≤ maxLen by decide⟩
  · exact ⟨awA_okV, show 2 ≤ 4096 by decide, show 2 ≤ 2 by decide, show 2 ≤ maxLen by decide⟩
theorem awLs_may (n : Nat) : mayL (awLs n) = true := by
  simp [mayL, awLs, awA_ok, awB_ok]
theorem okP_may {e : Ent} (h : mayE e = true) : okP e := by
  obtain ⟨k, v, g, q⟩ := e
  obtain ⟨h1, _, _, h2, h3⟩ := may_iff.1 h
  unfold keyB at h1
  simp only [Bool.and_eq_true, decide_eq_true_eq] at h1
  have hm : 64 ≤ maxLen := by decide
  refine ⟨by show k.size ≤ maxLen; omega, ?_⟩
  show okQ q
  simp only [okQ, Lit.wf, Bool.and_eq_true, decide_eq_true_eq]
  exact ⟨show (-9223372036854775808 : Int) ≤ q by omega, show q ≤ (9223372036854775807 : Int) by omega⟩
theorem awLs_okM (n : Nat) : okM (awLs n) := by
  intro x hx
  simp only [awLs, List.mem_cons, List.not_mem_nil, or_false] at hx
  rcases hx with rfl | rfl
  · exact fun e he => okP_may (okB_may awB_ok e he)
  · exact fun e he => okP_may (okB_may awA_ok e he)
/-- Merge of the two lists. -/
theorem awM_any (w : World) : Calls Try.prog 12 #[.slice (some ⟨w.heap.size + 2, 0, none⟩) 2 2] (awW w) fun e w' => ∃ a cap, e = .returned (.tuple #[.slice a 4 cap, .int .i64 0]) ∧ SE w' a 4 cap awM ∧ Below (awW w).heap.size (awW w) w' := by
  refine (merge11_any (w.heap.size + 2) 0 2 2 (awLs w.heap.size) (awW w) (by decide) rfl (by simp) (awW_ls w) (awLs_ok _) (fun _ => awLs_okM _) (show (wrL (awLs w.heap.size).reverse).length ≤ 4096 by show 4 ≤ 4096; decide)).mono ?_
  rintro e w' ⟨a, n, cap, vs, rfl, hse, -, hA, -, hb⟩
  rw [if_pos (awLs_may _)]
  obtain rfl : vs = awM := (hA (awLs_may _)).uniq awM_all
  obtain rfl : 4 = n := hse.1
  exact ⟨a, cap, rfl, hse, hb⟩
abbrev awP : List Par := [(⟨#[97]⟩, ⟨#[121]⟩), (⟨#[98]⟩, ⟨#[122]⟩)]
/-- An entry's four cells, wherever. -/
def ECell (w : World) (b o0 o1 o2 o3 : Nat) (k v : ByteArray) (g : Bool) (q : Int) : Prop := w.cell? ⟨b, o0, none⟩ = some (.string k) ∧ w.cell? ⟨b, o1, none⟩ = some (.string v) ∧ w.cell? ⟨b, o2, none⟩ = some (.bool g) ∧ w.cell? ⟨b, o3, none⟩ = some (.int .i64 q) ∧ b < w.heap.size
theorem ECell.old {w w' : World} {b o0 o1 o2 o3 : Nat} {k v : ByteArray} {g : Bool} {q : Int} (h : ECell w b o0 o1 o2 o3 k v g q) (hb : Below w.heap.size w w') : ECell w' b o0 o1 o2 o3 k v g q :=
  ⟨(hb.cell (p := ⟨b, o0, none⟩) h.2.2.2.2).trans h.1, (hb.cell (p := ⟨b, o1, none⟩) h.2.2.2.2).trans h.2.1, (hb.cell (p := ⟨b, o2, none⟩) h.2.2.2.2).trans h.2.2.1, (hb.cell (p := ⟨b, o3, none⟩) h.2.2.2.2).trans h.2.2.2.1, Nat.lt_of_lt_of_le h.2.2.2.2 hb.size⟩
theorem keepW {V a b : World} {b0 p0 p1 p2 p3 : Nat} {k0 v0 : ByteArray} {g0 : Bool} {q0 : Int} {b1 r0 r1 r2 r3 : Nat} {k1 v1 : ByteArray} {g1 : Bool} {q1 : Int} {b2 s0 s1 s2 s3 : Nat} {k2 v2 : ByteArray} {g2 : Bool} {q2 : Int} {b3 t0 t1 t2 t3 : Nat} {k3 v3 : ByteArray} {g3 : Bool} {q3 : Int}
    (h : ECell a b0 p0 p1 p2 p3 k0 v0 g0 q0 ∧ ECell a b1 r0 r1 r2 r3 k1 v1 g1 q1 ∧ ECell a b2 s0 s1 s2 s3 k2 v2 g2 q2 ∧ ECell a b3 t0 t1 t2 t3 k3 v3 g3 q3 ∧ Below V.heap.size V a) (hb : Below a.heap.size a b) :
    ECell b b0 p0 p1 p2 p3 k0 v0 g0 q0 ∧ ECell b b1 r0 r1 r2 r3 k1 v1 g1 q1 ∧ ECell b b2 s0 s1 s2 s3 k2 v2 g2 q2 ∧ ECell b b3 t0 t1 t2 t3 k3 v3 g3 q3 ∧ Below V.heap.size V b :=
  ⟨h.1.old hb, h.2.1.old hb, h.2.2.1.old hb, h.2.2.2.1.old hb, h.2.2.2.2.trans (hb.mono h.2.2.2.2.size)⟩
theorem awP_new (w : World) : RdP (w.alloc (.cells #[.string ⟨#[97]⟩, .string ⟨#[121]⟩, .string ⟨#[98]⟩, .string ⟨#[122]⟩] 49)) (some ⟨w.heap.size, 0, none⟩) awP := by
  have hh := heap_alloc_new w (.cells #[.string ⟨#[97]⟩, .string ⟨#[121]⟩, .string ⟨#[98]⟩, .string ⟨#[122]⟩] 49)
  refine .inr ⟨w.heap.size, 0, rfl, heap_lt hh, fun i hi => ?_⟩
  have hi2 : i < 2 := hi
  match i, hi2 with
  | 0, _ => exact ⟨by rw [Lib.cell_of_heap hh]; rfl, by rw [Lib.cell_of_heap hh]; rfl⟩
  | 1, _ => exact ⟨by rw [Lib.cell_of_heap hh]; rfl, by rw [Lib.cell_of_heap hh]; rfl⟩
theorem aw_vis (a : Option Addr) (cap : Nat) (w : World) (hs : SE w a 4 cap awM) : Calls Try.prog 19 #[.slice a 4 cap, .int .i64 3] w fun e w' => ∃ a' c', e = .returned (.slice a' 2 c') ∧ RdP w' a' awP ∧ Below w.heap.size w w' := by
  have h := vis11_any a 4 cap awM 3 w (by decide) hs awM_okV
  rw [awM_vis] at h
  refine h.mono ?_
  rintro e w' ⟨a', n', c', rfl, hs, hb⟩
  obtain rfl : 2 = n' := hs.1
  exact ⟨a', c', rfl, hs.2.1, hb⟩
theorem aw_sin (a : Option Addr) (cap : Nat) (w : World) (hs : SE w a 4 cap awM) : Calls Try.prog 21 #[.slice a 4 cap, .int .i64 8] w fun e w' => ∃ a' c', e = .returned (.slice a' 1 c') ∧ Below w.heap.size w w' := by
  have h := sin11_any a 4 cap awM 8 w (by decide) hs awM_okV
  rw [awM_sin] at h
  refine h.mono ?_
  rintro e w' ⟨a', n', c', rfl, hs, hb⟩
  obtain rfl : 1 = n' := hs.1
  exact ⟨a', c', rfl, hb⟩
set_option maxHeartbeats 16000000 in
theorem awake11_any (w : World) : Calls Try.prog 11 #[] w fun e w' => e = .returned (.bool true) ∧ Below w.heap.size w w' := by
  have HM := Lib.hid (awM_any w)
  have HA := Lib.hid (awW_a w)
  have HB := Lib.hid (awW_b w)
  go_enter Try.func11, Try.ntmps11
  go_wp2_with fail
  refine HM.out.mono ?_
  rintro e w1 ⟨a, cap, rfl, hse, b1⟩
  have HS1 := Lib.hid hse
  have HB1 := Lib.hid b1
  clear HM hse b1
  go_wp2_with fail
  have HB2 : Hid (Below w1.heap.size w1 (w1.alloc (.cells #[.int .i64 3] 3))) := Lib.hid ((Below.refl _ _).alloc (Nat.le_refl _) _)
  have hpin : RdPin (w1.alloc (.cells #[.int .i64 3] 3)) (some ⟨w1.heap.size, 0, none⟩) [3] := by
    have hh : (w1.alloc (.cells #[.int .i64 3] 3)).heap[w1.heap.size]? = some (.cells #[.int .i64 3] 3) := heap_alloc_new w1 _
    refine .inr ⟨w1.heap.size, 0, rfl, heap_lt hh, fun i hi => ?_⟩
    have hi2 : i < 1 := hi
    match i, hi2 with
    | 0, _ => rw [Lib.cell_of_heap hh]; rfl
  refine (pru11_any a 4 cap awM (some ⟨w1.heap.size, 0, none⟩) 1 1 [3] true _ (by decide) (HS1.out.old HB2.out) awM_okV rfl (by decide) hpin).mono ?_
  rintro e w2 ⟨pa, pn, pc, rfl, hsp, b3⟩
  obtain rfl : 3 = pn := awM_pru.symm.trans hsp.1
  have HB3 := Lib.hid (HB2.out.trans (b3.mono HB2.out.size))
  have HS2 := Lib.hid (HS1.out.old HB3.out)
  have HAB := Lib.hid (HB1.out.trans (HB3.out.mono HB1.out.size))
  have HW2 := Lib.hid ((awW_below w).trans (HAB.out.mono (awW_below w).size))
  have HA2 := Lib.hid (HA.out.old HAB.out)
  have HBb2 := Lib.hid (HB.out.old HAB.out)
  clear HA HB HB1 HS1 HAB
  clear hpin hsp b3 HB2
  obtain ⟨lb, lo, hla, hll, hlc⟩ := HS2.out.2.1.at_
  obtain rfl := hla (by decide)
  have hll := hll (by decide)
  have l0 := hlc 0 (by decide)
  have l3 := hlc 3 (by decide)
  simp only [awM, List.getElem_cons_zero, List.getElem_cons_succ] at l0 l3
  clear hla hlc
  obtain ⟨ab, ao, haa, hal, hac⟩ := HA2.out.at_
  obtain ⟨rfl, rfl⟩ : ab = w.heap.size ∧ ao = 0 := by have := haa (by decide); simp at this; exact ⟨this.1.symm, this.2.symm⟩
  have hal := hal (by decide)
  have a0 := hac 0 (by decide)
  simp only [awA, List.getElem_cons_zero, List.getElem_cons_succ, Nat.zero_mul, Nat.zero_add, Nat.add_zero] at a0
  obtain ⟨bb, bo, hba, hbl, hbc⟩ := HBb2.out.at_
  obtain ⟨rfl, rfl⟩ : bb = w.heap.size + 1 ∧ bo = 0 := by have := hba (by decide); simp at this; exact ⟨this.1.symm, this.2.symm⟩
  have hbl := hbl (by decide)
  have b1 := hbc 1 (by decide)
  simp only [awB, List.getElem_cons_zero, List.getElem_cons_succ, Nat.zero_mul, Nat.zero_add, Nat.one_mul, Nat.reduceAdd] at b1
  simp only [Nat.zero_mul, Nat.add_zero, Nat.reduceMul, Nat.add_assoc, Nat.reduceAdd] at l0 l3
  clear haa hac hba hbc
  have HXG : Hid (ECell w2 lb lo (lo + 1) (lo + 2) (lo + 3) ⟨#[97]⟩ ⟨#[120]⟩ false 9 ∧ ECell w2 lb (lo + 12) (lo + 13) (lo + 14) (lo + 15) ⟨#[98]⟩ ⟨#[122]⟩ false 3 ∧ ECell w2 w.heap.size 0 1 2 3 ⟨#[97]⟩ ⟨#[120]⟩ false 9 ∧ ECell w2 (w.heap.size + 1) 4 5 6 7 ⟨#[98]⟩ ⟨#[122]⟩ false 3) :=
    Lib.hid ⟨⟨l0.1, l0.2.1, l0.2.2.1, l0.2.2.2, hll⟩, ⟨l3.1, l3.2.1, l3.2.2.1, l3.2.2.2, hll⟩, ⟨a0.1, a0.2.1, a0.2.2.1, a0.2.2.2, hal⟩, ⟨b1.1, b1.2.1, b1.2.2.1, b1.2.2.2, hbl⟩⟩
  have HV := Lib.hid fun (wx : World) (hx : Below w2.heap.size w2 wx) => aw_vis (some ⟨lb, lo, none⟩) cap wx (HS2.out.old hx)
  have HI := Lib.hid fun (wx : World) (hx : Below w2.heap.size w2 wx) => aw_sin (some ⟨lb, lo, none⟩) cap wx (HS2.out.old hx)
  clear l0 l3 a0 b1 HA2 HBb2
  go_wp2
  go_region_held3 (fun w' => (w'.cell? ⟨lb, lo, none⟩ = some (.string ⟨#[97]⟩) ∧ w'.cell? ⟨lb, lo + 1, none⟩ = some (.string ⟨#[120]⟩) ∧ w'.cell? ⟨lb, lo + 2, none⟩ = some (.bool false) ∧ w'.cell? ⟨lb, lo + 3, none⟩ = some (.int .i64 9) ∧ lb < w'.heap.size) ∧
      (w'.cell? ⟨lb, lo + 12, none⟩ = some (.string ⟨#[98]⟩) ∧ w'.cell? ⟨lb, lo + 13, none⟩ = some (.string ⟨#[122]⟩) ∧ w'.cell? ⟨lb, lo + 14, none⟩ = some (.bool false) ∧ w'.cell? ⟨lb, lo + 15, none⟩ = some (.int .i64 3) ∧ lb < w'.heap.size) ∧
      (w'.cell? ⟨w.heap.size, 0, none⟩ = some (.string ⟨#[97]⟩) ∧ w'.cell? ⟨w.heap.size, 1, none⟩ = some (.string ⟨#[120]⟩) ∧ w'.cell? ⟨w.heap.size, 2, none⟩ = some (.bool false) ∧ w'.cell? ⟨w.heap.size, 3, none⟩ = some (.int .i64 9) ∧ w.heap.size < w'.heap.size) ∧
      (w'.cell? ⟨w.heap.size + 1, 4, none⟩ = some (.string ⟨#[98]⟩) ∧ w'.cell? ⟨w.heap.size + 1, 5, none⟩ = some (.string ⟨#[122]⟩) ∧ w'.cell? ⟨w.heap.size + 1, 6, none⟩ = some (.bool false) ∧ w'.cell? ⟨w.heap.size + 1, 7, none⟩ = some (.int .i64 3) ∧ w.heap.size + 1 < w'.heap.size) ∧ Below w2.heap.size w2 w')
    (first | assumption | exact keepW (by assumption) (by assumption) | exact keepW (by assumption) ((Below.refl _ _).alloc (Nat.le_refl _) _) | exact ⟨HXG.out.1, HXG.out.2.1, HXG.out.2.2.1, HXG.out.2.2.2, (Below.refl _ _).drew⟩)
    (first
      | (go_at_call 19; (with_reducible refine (HV.out _ (And.right (And.right (And.right (And.right (by assumption)))))).mono ?_); rintro e w' ⟨a', c', rfl, rr, bb⟩)
      | (go_at_call 21; (with_reducible refine (HI.out _ (And.right (And.right (And.right (And.right (by assumption)))))).mono ?_); rintro e w' ⟨a', c', rfl, bb⟩)
      | (go_at_call 18; refine (samep_any _ _ 2 2 _ _ awP _ rfl rfl ?_ ?_ (by decide)).mono ?_; (first | assumption | exact RdP.old (by assumption) (by assumption) | exact RdP.old (by assumption) ((Below.refl _ _).alloc (Nat.le_refl _) _)); (first | exact awP_new _ | exact (awP_new _).old (by assumption) | exact (awP_new _).old ((Below.refl _ _).drew.trans (by assumption))); rintro e w' ⟨rfl, bb⟩))
  all_goals
    go_wp2
    go_ret
    exact ⟨rfl, HW2.out.trans ((by assumption : _ ∧ _ ∧ _ ∧ _ ∧ Below w2.heap.size w2 _).2.2.2.2.mono HW2.out.size)⟩
end Go.Proofs.Ytdpinkipcaolhaa
