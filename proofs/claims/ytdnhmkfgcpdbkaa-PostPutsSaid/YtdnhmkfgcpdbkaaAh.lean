/-
  Layer 16 (post): the document's writer: a reply without pairs, the lists. Conditions: as each says.
-/
import Derived.Test.YtdnhmkfgcpdbkaaAg
import Derived.Deep.CutBlock
namespace Go.Proofs.Ytdnhmkfgcpdbkaa
open Go.RowKit
set_option linter.unusedVariables false
set_option linter.unusedSimpArgs false

set_option maxRecDepth 100000 in
set_option maxHeartbeats 8000000 in
theorem wrep0 (b : Nat) (w : World) (o : List UInt8) (bad : Bool) (K : Nat) (er : Int) (rv : ByteArray) (rg : Bool) (ru : ByteArray) (xa : Option Addr) (n c : Nat) (h : Wr b w o bad K) (hK : K ≤ 900000000) :
    Calls Try.prog 45 #[.pointer (some ⟨b, 0, none⟩), .agg #[.int .i64 er, .string rv, .bool rg, .slice xa n c, .string ru], .bool false] w fun e w' => e = .returned (.tuple #[]) ∧ KB b b w w' ∧
      Wr b w' (o ++ txE [.n 0 maxN er, .t rv, .f rg, .r (.slice xa n c), .t ru]) ((bad || decide (0 < n)) || !okE [.n 0 maxN er, .t rv, .f rg, .r (.slice xa n c), .t ru]) (K + 1500) := by
  obtain ⟨ob, hob⟩ : ∃ x, x = w.heap.size := ⟨_, rfl⟩
  obtain ⟨w1, hW1⟩ : ∃ W, W = w.alloc (.cells #[.int .i64 er, .string rv, .bool rg, .slice xa n c, .string ru] 30) := ⟨_, rfl⟩
  have hs1 : w1.heap.size = w.heap.size + 1 := by rw [hW1]; simp
  have hbb : Below w.heap.size w w1 := by rw [hW1]; exact (Below.refl _ w).alloc (Nat.le_refl _) _
  have hbw := h.lt
  have hx : w1.heap[ob]? = some (.cells #[.int .i64 er, .string rv, .bool rg, .slice xa n c, .string ru] 30 (0, 0)) := by rw [hW1, hob]; exact heap_alloc_new w _
  have HC : Hid (∀ W, KB b b w1 W → ∀ i v, (#[.int .i64 er, .string rv, .bool rg, .slice xa n c, .string ru] : Array Value)[i]? = some v → W.cell? ⟨ob, i, none⟩ = some v) := Lib.hid fun W hk i v hv => hk.box hx (by decide) (by omega) i v hv
  have hol : ob < w1.heap.size := by omega
  have HW1 : Hid (Wr b w1 (o ++ txE []) (bad || !okE []) K) := Lib.hid ((h.old hbb).to (by simp [okE]) (fun _ => by simp [txE]) (Nat.le_refl _))
  have HK1 : Hid (KB b b w1 w1) := Lib.hid (KB.refl _ _ _)
  have HK0 : Hid (KB b b w w1) := Lib.hid (KB.of hbb (by omega))
  have HX := Lib.hid hob
  clear h hs1 hbb hbw hx hob
  go_enter Try.func45, Try.ntmps45
  go_upto_region 1 with fail
  rw [← hW1, ← HX.out]
  clear hW1 HX
  have z0 := HC.out w1 HK1.out 0 _ rfl
  have hx1 : ob < w1.heap.size := Nat.lt_of_lt_of_le hol HK1.out.size
  go_wp2_with fail
  refine (wnumF b _ o bad (K + 300 * 0) ([] : List Fld) er HW1.out (by omega)).mono ?_
  rintro e w2 ⟨rfl, hk, hw⟩
  have HK2 := Lib.hid (HK1.out.trans hk)
  have HW2 : Hid (Wr b w2 (o ++ txE [.n 0 maxN er]) (bad || !okE [.n 0 maxN er]) ((K + 300 * 0) + 300)) := Lib.hid hw
  clear hk hw HW1 HK1
  clear z0 hx1
  have z1 := HC.out w2 HK2.out 1 _ rfl
  have hx2 : ob < w2.heap.size := Nat.lt_of_lt_of_le hol HK2.out.size
  go_wp2_with fail
  refine (wtxtF b _ o bad (K + 300 * 1) ([.n 0 maxN er] : List Fld) rv HW2.out (by omega)).mono ?_
  rintro e w3 ⟨rfl, hk, hw⟩
  have HK3 := Lib.hid (HK2.out.trans hk)
  have HW3 : Hid (Wr b w3 (o ++ txE [.n 0 maxN er, .t rv]) (bad || !okE [.n 0 maxN er, .t rv]) ((K + 300 * 1) + 300)) := Lib.hid hw
  clear hk hw HW2 HK2
  clear z1 hx2
  have z2 := HC.out w3 HK3.out 2 _ rfl
  have hx3 : ob < w3.heap.size := Nat.lt_of_lt_of_le hol HK3.out.size
  go_wp2_with fail
  refine (wflagF b _ o bad (K + 300 * 2) ([.n 0 maxN er, .t rv] : List Fld) rg HW3.out (by omega)).mono ?_
  rintro e w4 ⟨rfl, hk, hw⟩
  have HK4 := Lib.hid (HK3.out.trans hk)
  have HW4 : Hid (Wr b w4 (o ++ txE [.n 0 maxN er, .t rv, .f rg]) (bad || !okE [.n 0 maxN er, .t rv, .f rg]) ((K + 300 * 2) + 300)) := Lib.hid hw
  clear hk hw HW3 HK3
  clear z2 hx3
  obtain ⟨q, hq⟩ : ∃ q, q = (bad || !okE [.n 0 maxN er, .t rv, .f rg]) := ⟨_, rfl⟩
  obtain ⟨q2, hq2⟩ : ∃ q2, q2 = decide (0 < n) := ⟨_, rfl⟩
  rw [← hq] at HW4
  have HQ := Lib.hid (And.intro hq hq2)
  obtain ⟨bz, hbl, hbf⟩ := HW4.out.bad?
  have ho := wr_or HW4.out q2
  have z3 := HC.out w4 HK4.out 3 _ rfl
  have hx4 : ob < w4.heap.size := Nat.lt_of_lt_of_le hol HK4.out.size
  have HW5 := Lib.hid ho.1
  have HK5 := Lib.hid (HK4.out.trans ho.2)
  have z4 := HC.out _ HK5.out 4 _ rfl
  have hx5 : ob < (w4.setCell ⟨b, 1, none⟩ (.bool (q || q2))).heap.size := Nat.lt_of_lt_of_le hol HK5.out.size
  clear ho hq
  have hdn : q2 = true ∧ (0 : Int) < (n : Int) ∨ q2 = false ∧ ¬ (0 : Int) < (n : Int) := by
    by_cases h0 : 0 < n
    · exact .inl ⟨by rw [hq2, decide_eq_true h0], by omega⟩
    · exact .inr ⟨by rw [hq2, decide_eq_false h0], by omega⟩
  clear hq2
  have HT : Hid (∀ W : World, W = w4.setCell ⟨b, 1, none⟩ (.bool (q || q2)) → Calls Try.prog 62 #[.pointer (some ⟨b, 0, none⟩), .string ru] W fun e w' => e = .returned (.tuple #[]) ∧ KB b b w w' ∧ Wr b w' (o ++ txE [.n 0 maxN er, .t rv, .f rg, .r (.slice xa n c), .t ru]) ((bad || decide (0 < n)) || !okE [.n 0 maxN er, .t rv, .f rg, .r (.slice xa n c), .t ru]) (K + 1500)) := Lib.hid (fun W hWe => by
    rw [hWe]
    refine (wtxt b _ _ _ _ ru HW5.out (by omega)).mono ?_
    rintro e w' ⟨he, hk, hw⟩
    refine ⟨he, (HK0.out.trans HK5.out).trans hk, hw.to ?_ (fun _ => ?_) (by omega)⟩
    · rw [HQ.out.1, HQ.out.2]
      have e1 : okE [.n 0 maxN er, .t rv, .f rg, .r (.slice xa n c), .t ru] = (okE [.n 0 maxN er, .t rv, .f rg] && okF (.t ru)) := by simp [okE, okF, Bool.and_assoc]
      rw [e1]
      generalize okE [.n 0 maxN er, .t rv, .f rg] = x1
      generalize okF (.t ru) = x2
      cases bad <;> cases decide (0 < n) <;> cases x1 <;> cases x2 <;> rfl
    · have e1 : txE [.n 0 maxN er, .t rv, .f rg, .r (.slice xa n c), .t ru] = txE [.n 0 maxN er, .t rv, .f rg] ++ txF (.t ru) := by simp [txE, txF]
      rw [e1, List.append_assoc])
  obtain ⟨w5, hw5⟩ : ∃ W, W = w4.setCell ⟨b, 1, none⟩ (.bool (q || q2)) := ⟨_, rfl⟩
  rw [← hw5] at z4 hx5
  have HT5 := Lib.hid (HT.out w5 hw5)
  clear HW5 HW4 HT HK5
  rcases hdn with ⟨rfl, hn0⟩ | ⟨rfl, hn0⟩
  all_goals
    first | (have hdd : decide (0 < n) = true := decide_eq_true (by omega)) | (have hdd : decide (0 < n) = false := decide_eq_false (by omega))
    cases q
    all_goals
      simp only [Bool.or_true, Bool.or_false, Bool.true_or, Bool.false_or] at hw5
      go_upto_region 12 with fail
      rw [← hw5]
      clear hw5
      go_wp2_with fail
      refine HT5.out.mono ?_
      rintro e w6 ⟨rfl, hk, hw⟩
      have HKW := Lib.hid (And.intro hk hw)
      clear hk hw HT5 z4 hx5
      go_wp2_with fail
      go_end0
      exact ⟨rfl, HKW.out.1, HKW.out.2⟩
theorem ls_end {b n most k : Nat} {wr : World} {o : List UInt8} {bad qb : Bool} {K : Nat} {L : List (List Fld)} {ok : List Fld → Bool} (h : Wr b wr (o ++ vL n ++ (L.take k).flatMap txE) qb (K + 3000 * k)) (hq : qb = (bad || lsB most ok L k)) (hn : L.length = n) (hk : k ≤ n) (hkm : k = 0 ∨ n ≤ most) (hm : most ≤ 512) (hc : ¬ (k < n ∧ qb = false)) :
    Wr b wr (o ++ txLs L) (bad || !(decide (L.length ≤ most) && L.all ok)) (K + 2000000) := by
  have hk3 : k ≤ 512 := by rcases hkm with h | h <;> omega
  by_cases e : qb = true
  · have e2 : (bad || !(decide (L.length ≤ most) && L.all ok)) = true := by
      rw [e] at hq
      cases bad with
      | true => rfl
      | false => rw [Bool.false_or] at hq; rw [lsB_true hq.symm]; rfl
    rw [e2]
    exact h.to e (fun c => by cases c) (by omega)
  · have hqf : qb = false := by simpa using e
    have hkn : k = n := by have : ¬ k < n := fun h => hc ⟨h, hqf⟩; omega
    subst hkn
    refine h.to ?_ (fun _ => ?_) (by omega)
    · rw [hq, ← hn, lsB_all]
    · unfold txLs
      rw [hn, show L.take k = L by rw [← hn, List.take_length], List.append_assoc]
theorem ls_next {b n most k : Nat} {w' : World} {o : List UInt8} {bad qb : Bool} {K : Nat} {L : List (List Fld)} {ok : List Fld → Bool} (hkl : k < L.length) (hq : false = (bad || lsB most ok L k)) {q' : Bool} {d : List Fld} (hqq : q' = !ok L[k]) (hd : txE d = txE L[k]) (h : Wr b w' (o ++ vL n ++ (L.take k).flatMap txE ++ txE d) q' (K + 3000 * k + 3000)) :
    Wr b w' (o ++ vL n ++ (L.take (k + 1)).flatMap txE) (bad || lsB most ok L (k + 1)) (K + 3000 * (k + 1)) := by
  refine h.to ?_ (fun _ => ?_) (by omega)
  · rw [lsB_succ most ok L hkl, ← Bool.or_assoc, ← hq, hqq]; rfl
  · rw [txs_succ L hkl, hd, List.append_assoc]
theorem ls_most {most k n : Nat} {bad : Bool} {L : List (List Fld)} {ok : List Fld → Bool} (hq : false = (bad || lsB most ok L k)) (hn : L.length = n) : n ≤ most := by
  unfold lsB at hq
  by_cases h : L.length ≤ most
  · omega
  · rw [decide_eq_false h] at hq; simp at hq
def okS (x : List Fld) : Bool := okE x && decide (prN x = 0)
theorem okS_all (L : List (List Fld)) : L.all okS = (L.all okE && bareL L) := by
  unfold bareL
  induction L with
  | nil => rfl
  | cons x r ih =>
    rw [List.all_cons, List.all_cons, List.all_cons, ih]
    unfold okS
    cases okE x <;> cases decide (prN x = 0) <;> cases r.all okE <;> cases (r.all fun x => decide (prN x = 0)) <;> rfl
set_option maxRecDepth 100000 in
set_option maxHeartbeats 8000000 in
theorem wlists (b : Nat) (w : World) (o : List UInt8) (bad : Bool) (K : Nat) (VL : List Value) (a3 : Option Addr) (n3 c3 : Nat) (a4 : Option Addr) (n4 c4 : Nat) (a5 : Option Addr) (n5 c5 : Nat) (MP EN SE : List (List Fld)) (h : Wr b w o bad K) (hK : K ≤ 800000000) (v3 : VL[22]? = some (.slice a3 n3 c3)) (v4 : VL[23]? = some (.slice a4 n4 c4)) (v5 : VL[24]? = some (.slice a5 n5 c5))
    (hr3 : LRb b w 6 (.slice a3 n3 c3) MP) (s3 : ∀ x ∈ MP, isShard x) (hr4 : LRb b w 4 (.slice a4 n4 c4) EN) (s4 : ∀ x ∈ EN, isEntry x) (hr5 : LRb b w 7 (.slice a5 n5 c5) SE) (s5 : ∀ x ∈ SE, slPr x) :
    Calls Try.prog 46 #[.pointer (some ⟨b, 0, none⟩), .agg VL.toArray] w fun e w' => e = .returned (.tuple #[]) ∧ KB b b w w' ∧
      Wr b w' (o ++ (txLs MP ++ (txLs EN ++ txLs SE))) (bad || !(okLs 64 MP && (okLs 512 EN && (okLs 8 SE && bareL SE)))) (K + 8000000) := by
  obtain ⟨ob, hob⟩ : ∃ x, x = w.heap.size := ⟨_, rfl⟩
  obtain ⟨w1, hW1⟩ : ∃ W, W = w.alloc (.cells VL.toArray 35) := ⟨_, rfl⟩
  have hs1 : w1.heap.size = w.heap.size + 1 := by rw [hW1]; simp
  have hbb : Below w.heap.size w w1 := by rw [hW1]; exact (Below.refl _ w).alloc (Nat.le_refl _) _
  have hbw := h.lt
  have hx : w1.heap[ob]? = some (.cells VL.toArray 35 (0, 0)) := by rw [hW1, hob]; exact heap_alloc_new w _
  have HC : Hid (∀ W, KB b b w1 W → ∀ i v, VL[i]? = some v → W.cell? ⟨ob, i, none⟩ = some v) := Lib.hid fun W hk i v hv => hk.box hx (by decide) (by omega) i v (by rw [List.getElem?_toArray]; exact hv)
  have HV := Lib.hid (And.intro v3 (And.intro v4 v5))
  have hol : ob < w1.heap.size := by omega
  have hb1 : b < w1.heap.size := by omega
  have HW1 : Hid (Wr b w1 o bad K) := Lib.hid (h.old hbb)
  have HK1 : Hid (KB b b w1 w1) := Lib.hid (KB.refl _ _ _)
  have HK0 : Hid (KB b b w w1) := Lib.hid (KB.of hbb (by omega))
  obtain ⟨a', n', c', e1, hn3, hm3, hw3⟩ := hr3.keep (hbb.mono (by omega))
  injection e1 with e1 e2 e3
  subst e1 e2 e3
  unfold maxLen at hm3
  have HR3 := Lib.hid (And.intro hn3 (And.intro s3 hw3))
  obtain ⟨a', n', c', e1, hn4, hm4, hw4⟩ := hr4.keep (hbb.mono (by omega))
  injection e1 with e1 e2 e3
  subst e1 e2 e3
  unfold maxLen at hm4
  have HR4 := Lib.hid (And.intro hn4 (And.intro s4 hw4))
  obtain ⟨a', n', c', e1, hn5, hm5, hw5⟩ := hr5.keep (hbb.mono (by omega))
  injection e1 with e1 e2 e3
  subst e1 e2 e3
  unfold maxLen at hm5
  have HR5 := Lib.hid (And.intro hn5 (And.intro s5 hw5))
  have HX := Lib.hid hob
  clear h hr3 hr4 hr5 s3 s4 s5 hn3 hn4 hn5 hw3 hw4 hw5 hs1 hbb hbw hx hob v3 v4 v5
  go_enter Try.func46, Try.ntmps46
  go_upto_region 1 with fail
  rw [← hW1, ← HX.out]
  clear hW1 HX
  have z := HC.out w1 HK1.out 22 _ HV.out.1
  have hxz : ob < w1.heap.size := Nat.lt_of_lt_of_le hol HK1.out.size
  go_wp2_with fail
  refine (wcount b _ o bad K n3 64 HW1.out (by omega) (by omega) (by omega)).mono ?_
  rintro e w2 ⟨rfl, hk, hw⟩
  have HKc2 := Lib.hid (HK1.out.trans hk)
  have HWc2 := Lib.hid hw
  clear hk hw z hxz HW1 HK1
  have z := HC.out w2 HKc2.out 22 _ HV.out.1
  have hxz : ob < w2.heap.size := Nat.lt_of_lt_of_le hol HKc2.out.size
  go_wp2_with fail
  clear z hxz
  go_loopw [4, 5] (fun i _ wr => ∃ k : Nat, i = .int .i64 k ∧ k ≤ n3 ∧ Hid (k = 0 ∨ n3 ≤ 64) ∧ Hid (Wr b wr (o ++ vL n3 ++ (MP.take k).flatMap txE) (bad || lsB 64 okE MP k) ((K + 300) + 3000 * k)) ∧ Hid (KB b b w1 wr)) (fun i _ _ => n3 - (intOf i).toNat)
  case atStart => exact ⟨0, by first | rfl | go_num, by omega, Lib.hid (.inl rfl), Lib.hid (HWc2.out.to (by rw [lsB_zero, HR3.out.1]) (fun _ => by simp) (by omega)), HKc2⟩
  case round =>
  obtain ⟨k, rfl, hk, HKM, HWr, HKr⟩ := hrel
  obtain ⟨qb, hqb⟩ : ∃ q, q = (bad || lsB 64 okE MP k) := ⟨_, rfl⟩
  rw [← hqb] at HWr
  have HQB := Lib.hid hqb
  clear hqb
  obtain ⟨qc, hqc⟩ : ∃ q, q = (decide (k < n3) && !qb) := ⟨_, rfl⟩
  have HQC := Lib.hid hqc
  clear hqc
  obtain ⟨bz, hbl, hbf⟩ := HWr.out.bad?
  have m1 := HC.out wr HKr.out 22 _ HV.out.1
  have hxw : ob < wr.heap.size := Nat.lt_of_lt_of_le hol HKr.out.size
  go_upto_region 3 with fail
  go_cut [25] from 14 to 25 (fun v wx => v = .bool qc ∧ Hid (wx = wr))
  case first =>
    by_cases hlt : k < n3
    · have hki : (k : Int) < (n3 : Int) := by omega
      cases qb
      · have hq := HQC.out
        rw [decide_eq_true hlt] at hq
        obtain rfl : qc = true := hq
        go_wp2_with fail
        go_meet
        exact ⟨rfl, Lib.hid rfl⟩
      · have hq := HQC.out
        rw [decide_eq_true hlt] at hq
        obtain rfl : qc = false := hq
        go_wp2_with fail
        go_meet
        exact ⟨rfl, Lib.hid rfl⟩
    · have hki : ¬ (k : Int) < (n3 : Int) := by omega
      have hq := HQC.out
      rw [decide_eq_false hlt] at hq
      obtain rfl : qc = false := hq
      go_wp2_with fail
      go_meet
      exact ⟨rfl, Lib.hid rfl⟩
  case rest =>
  rename World => wx
  obtain ⟨rfl, HXE⟩ := hcut
  have hxe := HXE.out
  subst hxe
  clear HXE
  cases qc with
  | true =>
    have hlt : k < n3 ∧ qb = false := by
      have h := HQC.out
      simp only [Bool.true_eq, Bool.and_eq_true, decide_eq_true_eq, Bool.not_eq_true'] at h
      exact h
    obtain ⟨hlt, rfl⟩ := hlt
    have hki : (k : Int) < (n3 : Int) := by omega
    have hmost : n3 ≤ 64 := ls_most HQB.out HR3.out.1
    have hkl : k < MP.length := by rw [HR3.out.1]; exact hlt
    have HNX := Lib.hid (fun (w' : World) (q' : Bool) (d : List Fld) => @ls_next b n3 64 k w' o bad false (K + 300) MP okE hkl HQB.out q' d)
    obtain ⟨x, hx⟩ : ∃ x, x = MP[k] := ⟨_, rfl⟩
    rw [← hx] at HNX
    have hsx := HR3.out.2.1 x (by rw [hx]; exact List.getElem_mem hkl)
    rcases HR3.out.2.2 with e0 | ⟨rb, ro, q1, t1, u1⟩
    · rw [e0] at hkl; simp at hkl
    subst q1
    have hf0 : FAt w1 rb (ro + k * 6) x := by subst hx; exact u1 k hkl
    have hrl : rb < w1.heap.size := Nat.lt_trans t1 hb1
    have HF : Hid (∀ W, KB b b w1 W → FAt W rb (ro + k * 6) x) := Lib.hid (fun W hk i hi => (hk.l.cell (p := ⟨rb, _, none⟩) t1).trans (hf0 i hi))
    have HRB : Hid (∀ W, KB b b w1 W → rb < W.heap.size) := Lib.hid (fun W hk => Nat.lt_of_lt_of_le hrl hk.size)
    clear u1 hx hkl hf0 hrl
    obtain ⟨id, lo, hi, ep, nd, st, rfl⟩ := hsx
    obtain ⟨o2, ho2⟩ : ∃ y, y = o ++ vL n3 ++ (MP.take k).flatMap txE := ⟨_, rfl⟩
    rw [← ho2] at HWr HNX
    clear ho2
    obtain ⟨K2, hK2⟩ : ∃ y, y = (K + 300) + 3000 * k := ⟨_, rfl⟩
    rw [← hK2] at HWr HNX
    have hK2b : K2 ≤ 890000000 := by omega
    clear hK2
    have f0 := (HF.out wx HKr.out) 0 (by simp)
    have f1 := (HF.out wx HKr.out) 1 (by simp)
    have f2 := (HF.out wx HKr.out) 2 (by simp)
    have f3 := (HF.out wx HKr.out) 3 (by simp)
    have f4 := (HF.out wx HKr.out) 4 (by simp)
    have f5 := (HF.out wx HKr.out) 5 (by simp)
    simp only [List.getElem_cons_zero, List.getElem_cons_succ, Fld.cell, Nat.add_zero] at f0 f1 f2 f3 f4 f5
    have hrb := HRB.out wx HKr.out
    obtain ⟨xb, hxb⟩ : ∃ x, x = wx.heap.size := ⟨_, rfl⟩
    obtain ⟨w20, hW2⟩ : ∃ W, W = wx.alloc (.cells #[.int .i64 id, .string lo, .string hi, .int .i64 ep, .int .i64 nd, .int .i64 st] 54) := ⟨_, rfl⟩
    have hs2 : w20.heap.size = wx.heap.size + 1 := by rw [hW2]; simp
    have hb2 : Below wx.heap.size wx w20 := by rw [hW2]; exact (Below.refl _ wx).alloc (Nat.le_refl _) _
    have hx2 : w20.heap[xb]? = some (.cells #[.int .i64 id, .string lo, .string hi, .int .i64 ep, .int .i64 nd, .int .i64 st] 54 (0, 0)) := by rw [hW2, hxb]; exact heap_alloc_new wx _
    have HJ20 : Hid (KB b b w20 w20) := Lib.hid (KB.refl _ _ _)
    have HK2 : Hid (KB b b w1 w20) := Lib.hid (HKr.out.trans (KB.of hb2 (by omega)))
    have HXB : Hid (∀ W, KB b b w20 W → ∀ i v, (#[.int .i64 id, .string lo, .string hi, .int .i64 ep, .int .i64 nd, .int .i64 st] : Array Value)[i]? = some v → W.cell? ⟨xb, i, none⟩ = some v) := Lib.hid fun W hk i v hv => hk.box hx2 (by decide) (by omega) i v hv
    have hxl : xb < w20.heap.size := by omega
    have HW20 : Hid (Wr b w20 (o2 ++ txE []) (false || !okE []) K2) := Lib.hid ((HWr.out.old hb2).to (by simp [okE]) (fun _ => by simp [txE]) (Nat.le_refl _))
    have HXX := Lib.hid hxb
    clear HWr hs2 hb2 hx2 hxb
    go_upto_region 6 with fail
    rw [← hW2, ← HXX.out]
    clear hW2 bz hbl hbf m1 hxw f0 f1 f2 f3 f4 f5 hrb
    have y0 := HXB.out w20 HJ20.out 0 _ rfl
    have hx20 : xb < w20.heap.size := Nat.lt_of_lt_of_le hxl HJ20.out.size
    go_wp2_with fail
    refine (wnumF b _ o2 false (K2 + 300 * 0) ([] : List Fld) id HW20.out (by omega)).mono ?_
    rintro e w21 ⟨rfl, hk2, hw2⟩
    have HJ21 := Lib.hid (HJ20.out.trans hk2)
    have HW21 : Hid (Wr b w21 (o2 ++ txE [.n 0 maxN id]) (false || !okE [.n 0 maxN id]) (K2 + 300 * 0 + 300)) := Lib.hid hw2
    clear hk2 hw2 HW20 HJ20 y0 hx20
    have y1 := HXB.out w21 HJ21.out 1 _ rfl
    have hx21 : xb < w21.heap.size := Nat.lt_of_lt_of_le hxl HJ21.out.size
    go_wp2_with fail
    refine (wtxtF b _ o2 false (K2 + 300 * 1) ([.n 0 maxN id] : List Fld) lo HW21.out (by omega)).mono ?_
    rintro e w22 ⟨rfl, hk2, hw2⟩
    have HJ22 := Lib.hid (HJ21.out.trans hk2)
    have HW22 : Hid (Wr b w22 (o2 ++ txE [.n 0 maxN id, .t lo]) (false || !okE [.n 0 maxN id, .t lo]) (K2 + 300 * 1 + 300)) := Lib.hid hw2
    clear hk2 hw2 HW21 HJ21 y1 hx21
    have y2 := HXB.out w22 HJ22.out 2 _ rfl
    have hx22 : xb < w22.heap.size := Nat.lt_of_lt_of_le hxl HJ22.out.size
    go_wp2_with fail
    refine (wtxtF b _ o2 false (K2 + 300 * 2) ([.n 0 maxN id, .t lo] : List Fld) hi HW22.out (by omega)).mono ?_
    rintro e w23 ⟨rfl, hk2, hw2⟩
    have HJ23 := Lib.hid (HJ22.out.trans hk2)
    have HW23 : Hid (Wr b w23 (o2 ++ txE [.n 0 maxN id, .t lo, .t hi]) (false || !okE [.n 0 maxN id, .t lo, .t hi]) (K2 + 300 * 2 + 300)) := Lib.hid hw2
    clear hk2 hw2 HW22 HJ22 y2 hx22
    have y3 := HXB.out w23 HJ23.out 3 _ rfl
    have hx23 : xb < w23.heap.size := Nat.lt_of_lt_of_le hxl HJ23.out.size
    go_wp2_with fail
    refine (wnumF b _ o2 false (K2 + 300 * 3) ([.n 0 maxN id, .t lo, .t hi] : List Fld) ep HW23.out (by omega)).mono ?_
    rintro e w24 ⟨rfl, hk2, hw2⟩
    have HJ24 := Lib.hid (HJ23.out.trans hk2)
    have HW24 : Hid (Wr b w24 (o2 ++ txE [.n 0 maxN id, .t lo, .t hi, .n 0 maxN ep]) (false || !okE [.n 0 maxN id, .t lo, .t hi, .n 0 maxN ep]) (K2 + 300 * 3 + 300)) := Lib.hid hw2
    clear hk2 hw2 HW23 HJ23 y3 hx23
    have y4 := HXB.out w24 HJ24.out 4 _ rfl
    have hx24 : xb < w24.heap.size := Nat.lt_of_lt_of_le hxl HJ24.out.size
    go_wp2_with fail
    refine (wnumF b _ o2 false (K2 + 300 * 4) ([.n 0 maxN id, .t lo, .t hi, .n 0 maxN ep] : List Fld) nd HW24.out (by omega)).mono ?_
    rintro e w25 ⟨rfl, hk2, hw2⟩
    have HJ25 := Lib.hid (HJ24.out.trans hk2)
    have HW25 : Hid (Wr b w25 (o2 ++ txE [.n 0 maxN id, .t lo, .t hi, .n 0 maxN ep, .n 0 maxN nd]) (false || !okE [.n 0 maxN id, .t lo, .t hi, .n 0 maxN ep, .n 0 maxN nd]) (K2 + 300 * 4 + 300)) := Lib.hid hw2
    clear hk2 hw2 HW24 HJ24 y4 hx24
    have y5 := HXB.out w25 HJ25.out 5 _ rfl
    have hx25 : xb < w25.heap.size := Nat.lt_of_lt_of_le hxl HJ25.out.size
    go_wp2_with fail
    refine (wnumF b _ o2 false (K2 + 300 * 5) ([.n 0 maxN id, .t lo, .t hi, .n 0 maxN ep, .n 0 maxN nd] : List Fld) st HW25.out (by omega)).mono ?_
    rintro e w26 ⟨rfl, hk2, hw2⟩
    have HJ26 := Lib.hid (HJ25.out.trans hk2)
    have HW26 : Hid (Wr b w26 (o2 ++ txE [.n 0 maxN id, .t lo, .t hi, .n 0 maxN ep, .n 0 maxN nd, .n 0 maxN st]) (false || !okE [.n 0 maxN id, .t lo, .t hi, .n 0 maxN ep, .n 0 maxN nd, .n 0 maxN st]) (K2 + 300 * 5 + 300)) := Lib.hid hw2
    clear hk2 hw2 HW25 HJ25 y5 hx25
    have HWF := Lib.hid (HNX.out w26 _ _ (by rfl) rfl (HW26.out.to (by rfl) (fun _ => rfl) (by omega)))
    have HKF := Lib.hid (HK2.out.trans HJ26.out)
    go_wp2_with fail
    go_roundw
    case rel => exact ⟨k + 1, by go_num, by omega, Lib.hid (.inr hmost), HWF, HKF⟩
    case measure => simp [intOf]; omega
  | false =>
  have hne : ¬ (k < n3 ∧ qb = false) := by
    rintro ⟨h1, h2⟩
    have h := HQC.out
    rw [decide_eq_true h1, h2] at h
    cases h
  have HWe2 := Lib.hid (ls_end HWr.out HQB.out HR3.out.1 hk HKM.out (by omega) hne)
  have HKe2 := HKr
  clear HWr HKr HQB HQC HKM hne bz hbl hbf m1 hxw hk
  rename World => we2
  obtain ⟨o2, ho2⟩ : ∃ x, x = o ++ txLs MP := ⟨_, rfl⟩
  obtain ⟨bad2, hbad2⟩ : ∃ x, x = (bad || !(decide (MP.length ≤ 64) && MP.all okE)) := ⟨_, rfl⟩
  rw [← ho2, ← hbad2] at HWe2
  have HO2 := Lib.hid (And.intro ho2 hbad2)
  clear ho2 hbad2
  have z := HC.out we2 HKe2.out 23 _ HV.out.2.1
  have hxz : ob < we2.heap.size := Nat.lt_of_lt_of_le hol HKe2.out.size
  go_wp2_with fail
  refine (wcount b _ o2 bad2 (K + 300 + 2000000) n4 512 HWe2.out (by omega) (by omega) (by omega)).mono ?_
  rintro e w3 ⟨rfl, hk, hw⟩
  have HKc3 := Lib.hid (HKe2.out.trans hk)
  have HWc3 := Lib.hid hw
  clear hk hw z hxz HWe2 HKe2
  have z := HC.out w3 HKc3.out 23 _ HV.out.2.1
  have hxz : ob < w3.heap.size := Nat.lt_of_lt_of_le hol HKc3.out.size
  go_wp2_with fail
  clear z hxz
  go_loopw [6, 7] (fun i _ wr => ∃ k : Nat, i = .int .i64 k ∧ k ≤ n4 ∧ Hid (k = 0 ∨ n4 ≤ 512) ∧ Hid (Wr b wr (o2 ++ vL n4 ++ (EN.take k).flatMap txE) (bad2 || lsB 512 okE EN k) ((K + 300 + 2000000 + 300) + 3000 * k)) ∧ Hid (KB b b w1 wr)) (fun i _ _ => n4 - (intOf i).toNat)
  case atStart => exact ⟨0, by first | rfl | go_num, by omega, Lib.hid (.inl rfl), Lib.hid (HWc3.out.to (by rw [lsB_zero, HR4.out.1]) (fun _ => by simp) (by omega)), HKc3⟩
  case round =>
  obtain ⟨k, rfl, hk, HKM, HWr, HKr⟩ := hrel
  obtain ⟨qb, hqb⟩ : ∃ q, q = (bad2 || lsB 512 okE EN k) := ⟨_, rfl⟩
  rw [← hqb] at HWr
  have HQB := Lib.hid hqb
  clear hqb
  obtain ⟨qc, hqc⟩ : ∃ q, q = (decide (k < n4) && !qb) := ⟨_, rfl⟩
  have HQC := Lib.hid hqc
  clear hqc
  obtain ⟨bz, hbl, hbf⟩ := HWr.out.bad?
  have m1 := HC.out wr HKr.out 23 _ HV.out.2.1
  have hxw : ob < wr.heap.size := Nat.lt_of_lt_of_le hol HKr.out.size
  go_upto_region 14 with fail
  go_cut [75] from 64 to 75 (fun v wx => v = .bool qc ∧ Hid (wx = wr))
  case first =>
    by_cases hlt : k < n4
    · have hki : (k : Int) < (n4 : Int) := by omega
      cases qb
      · have hq := HQC.out
        rw [decide_eq_true hlt] at hq
        obtain rfl : qc = true := hq
        go_wp2_with fail
        go_meet
        exact ⟨rfl, Lib.hid rfl⟩
      · have hq := HQC.out
        rw [decide_eq_true hlt] at hq
        obtain rfl : qc = false := hq
        go_wp2_with fail
        go_meet
        exact ⟨rfl, Lib.hid rfl⟩
    · have hki : ¬ (k : Int) < (n4 : Int) := by omega
      have hq := HQC.out
      rw [decide_eq_false hlt] at hq
      obtain rfl : qc = false := hq
      go_wp2_with fail
      go_meet
      exact ⟨rfl, Lib.hid rfl⟩
  case rest =>
  rename World => wx
  obtain ⟨rfl, HXE⟩ := hcut
  have hxe := HXE.out
  subst hxe
  clear HXE
  cases qc with
  | true =>
    have hlt : k < n4 ∧ qb = false := by
      have h := HQC.out
      simp only [Bool.true_eq, Bool.and_eq_true, decide_eq_true_eq, Bool.not_eq_true'] at h
      exact h
    obtain ⟨hlt, rfl⟩ := hlt
    have hki : (k : Int) < (n4 : Int) := by omega
    have hmost : n4 ≤ 512 := ls_most HQB.out HR4.out.1
    have hkl : k < EN.length := by rw [HR4.out.1]; exact hlt
    have HNX := Lib.hid (fun (w' : World) (q' : Bool) (d : List Fld) => @ls_next b n4 512 k w' o2 bad2 false (K + 300 + 2000000 + 300) EN okE hkl HQB.out q' d)
    obtain ⟨x, hx⟩ : ∃ x, x = EN[k] := ⟨_, rfl⟩
    rw [← hx] at HNX
    have hsx := HR4.out.2.1 x (by rw [hx]; exact List.getElem_mem hkl)
    rcases HR4.out.2.2 with e0 | ⟨rb, ro, q1, t1, u1⟩
    · rw [e0] at hkl; simp at hkl
    subst q1
    have hf0 : FAt w1 rb (ro + k * 4) x := by subst hx; exact u1 k hkl
    have hrl : rb < w1.heap.size := Nat.lt_trans t1 hb1
    have HF : Hid (∀ W, KB b b w1 W → FAt W rb (ro + k * 4) x) := Lib.hid (fun W hk i hi => (hk.l.cell (p := ⟨rb, _, none⟩) t1).trans (hf0 i hi))
    have HRB : Hid (∀ W, KB b b w1 W → rb < W.heap.size) := Lib.hid (fun W hk => Nat.lt_of_lt_of_le hrl hk.size)
    clear u1 hx hkl hf0 hrl
    obtain ⟨ky, va, g, sq, rfl⟩ := hsx
    obtain ⟨o9, ho9⟩ : ∃ y, y = o2 ++ vL n4 ++ (EN.take k).flatMap txE := ⟨_, rfl⟩
    rw [← ho9] at HWr HNX
    clear ho9
    obtain ⟨K2, hK2⟩ : ∃ y, y = (K + 300 + 2000000 + 300) + 3000 * k := ⟨_, rfl⟩
    rw [← hK2] at HWr HNX
    have hK2b : K2 ≤ 890000000 := by omega
    clear hK2
    have f0 := (HF.out wx HKr.out) 0 (by simp)
    have f1 := (HF.out wx HKr.out) 1 (by simp)
    have f2 := (HF.out wx HKr.out) 2 (by simp)
    have f3 := (HF.out wx HKr.out) 3 (by simp)
    simp only [List.getElem_cons_zero, List.getElem_cons_succ, Fld.cell, Nat.add_zero] at f0 f1 f2 f3
    have hrb := HRB.out wx HKr.out
    obtain ⟨xb, hxb⟩ : ∃ x, x = wx.heap.size := ⟨_, rfl⟩
    obtain ⟨w20, hW2⟩ : ∃ W, W = wx.alloc (.cells #[.string ky, .string va, .bool g, .int .i64 sq] 56) := ⟨_, rfl⟩
    have hs2 : w20.heap.size = wx.heap.size + 1 := by rw [hW2]; simp
    have hb2 : Below wx.heap.size wx w20 := by rw [hW2]; exact (Below.refl _ wx).alloc (Nat.le_refl _) _
    have hx2 : w20.heap[xb]? = some (.cells #[.string ky, .string va, .bool g, .int .i64 sq] 56 (0, 0)) := by rw [hW2, hxb]; exact heap_alloc_new wx _
    have HJ20 : Hid (KB b b w20 w20) := Lib.hid (KB.refl _ _ _)
    have HK2 : Hid (KB b b w1 w20) := Lib.hid (HKr.out.trans (KB.of hb2 (by omega)))
    have HXB : Hid (∀ W, KB b b w20 W → ∀ i v, (#[.string ky, .string va, .bool g, .int .i64 sq] : Array Value)[i]? = some v → W.cell? ⟨xb, i, none⟩ = some v) := Lib.hid fun W hk i v hv => hk.box hx2 (by decide) (by omega) i v hv
    have hxl : xb < w20.heap.size := by omega
    have HW20 : Hid (Wr b w20 (o9 ++ txE []) (false || !okE []) K2) := Lib.hid ((HWr.out.old hb2).to (by simp [okE]) (fun _ => by simp [txE]) (Nat.le_refl _))
    have HXX := Lib.hid hxb
    clear HWr hs2 hb2 hx2 hxb
    go_upto_region 17 with fail
    rw [← hW2, ← HXX.out]
    clear hW2 bz hbl hbf m1 hxw f0 f1 f2 f3 hrb
    have y0 := HXB.out w20 HJ20.out 0 _ rfl
    have hx20 : xb < w20.heap.size := Nat.lt_of_lt_of_le hxl HJ20.out.size
    go_wp2_with fail
    refine (wtxtF b _ o9 false (K2 + 300 * 0) ([] : List Fld) ky HW20.out (by omega)).mono ?_
    rintro e w21 ⟨rfl, hk2, hw2⟩
    have HJ21 := Lib.hid (HJ20.out.trans hk2)
    have HW21 : Hid (Wr b w21 (o9 ++ txE [.t ky]) (false || !okE [.t ky]) (K2 + 300 * 0 + 300)) := Lib.hid hw2
    clear hk2 hw2 HW20 HJ20 y0 hx20
    have y1 := HXB.out w21 HJ21.out 1 _ rfl
    have hx21 : xb < w21.heap.size := Nat.lt_of_lt_of_le hxl HJ21.out.size
    go_wp2_with fail
    refine (wtxtF b _ o9 false (K2 + 300 * 1) ([.t ky] : List Fld) va HW21.out (by omega)).mono ?_
    rintro e w22 ⟨rfl, hk2, hw2⟩
    have HJ22 := Lib.hid (HJ21.out.trans hk2)
    have HW22 : Hid (Wr b w22 (o9 ++ txE [.t ky, .t va]) (false || !okE [.t ky, .t va]) (K2 + 300 * 1 + 300)) := Lib.hid hw2
    clear hk2 hw2 HW21 HJ21 y1 hx21
    have y2 := HXB.out w22 HJ22.out 2 _ rfl
    have hx22 : xb < w22.heap.size := Nat.lt_of_lt_of_le hxl HJ22.out.size
    go_wp2_with fail
    refine (wflagF b _ o9 false (K2 + 300 * 2) ([.t ky, .t va] : List Fld) g HW22.out (by omega)).mono ?_
    rintro e w23 ⟨rfl, hk2, hw2⟩
    have HJ23 := Lib.hid (HJ22.out.trans hk2)
    have HW23 : Hid (Wr b w23 (o9 ++ txE [.t ky, .t va, .f g]) (false || !okE [.t ky, .t va, .f g]) (K2 + 300 * 2 + 300)) := Lib.hid hw2
    clear hk2 hw2 HW22 HJ22 y2 hx22
    have y3 := HXB.out w23 HJ23.out 3 _ rfl
    have hx23 : xb < w23.heap.size := Nat.lt_of_lt_of_le hxl HJ23.out.size
    go_wp2_with fail
    refine (wnumF b _ o9 false (K2 + 300 * 3) ([.t ky, .t va, .f g] : List Fld) sq HW23.out (by omega)).mono ?_
    rintro e w24 ⟨rfl, hk2, hw2⟩
    have HJ24 := Lib.hid (HJ23.out.trans hk2)
    have HW24 : Hid (Wr b w24 (o9 ++ txE [.t ky, .t va, .f g, .n 0 maxN sq]) (false || !okE [.t ky, .t va, .f g, .n 0 maxN sq]) (K2 + 300 * 3 + 300)) := Lib.hid hw2
    clear hk2 hw2 HW23 HJ23 y3 hx23
    have HWF := Lib.hid (HNX.out w24 _ _ (by rfl) rfl (HW24.out.to (by rfl) (fun _ => rfl) (by omega)))
    have HKF := Lib.hid (HK2.out.trans HJ24.out)
    go_wp2_with fail
    go_roundw
    case rel => exact ⟨k + 1, by go_num, by omega, Lib.hid (.inr hmost), HWF, HKF⟩
    case measure => simp [intOf]; omega
  | false =>
  have hne : ¬ (k < n4 ∧ qb = false) := by
    rintro ⟨h1, h2⟩
    have h := HQC.out
    rw [decide_eq_true h1, h2] at h
    cases h
  have HWe3 := Lib.hid (ls_end HWr.out HQB.out HR4.out.1 hk HKM.out (by omega) hne)
  have HKe3 := HKr
  clear HWr HKr HQB HQC HKM hne bz hbl hbf m1 hxw hk
  rename World => we3
  obtain ⟨o3, ho3⟩ : ∃ x, x = o2 ++ txLs EN := ⟨_, rfl⟩
  obtain ⟨bad3, hbad3⟩ : ∃ x, x = (bad2 || !(decide (EN.length ≤ 512) && EN.all okE)) := ⟨_, rfl⟩
  rw [← ho3, ← hbad3] at HWe3
  have HO3 := Lib.hid (And.intro ho3 hbad3)
  clear ho3 hbad3
  have z := HC.out we3 HKe3.out 24 _ HV.out.2.2
  have hxz : ob < we3.heap.size := Nat.lt_of_lt_of_le hol HKe3.out.size
  go_wp2_with fail
  refine (wcount b _ o3 bad3 (K + 300 + 2000000 + 300 + 2000000) n5 8 HWe3.out (by omega) (by omega) (by omega)).mono ?_
  rintro e w4 ⟨rfl, hk, hw⟩
  have HKc4 := Lib.hid (HKe3.out.trans hk)
  have HWc4 := Lib.hid hw
  clear hk hw z hxz HWe3 HKe3
  have z := HC.out w4 HKc4.out 24 _ HV.out.2.2
  have hxz : ob < w4.heap.size := Nat.lt_of_lt_of_le hol HKc4.out.size
  go_wp2_with fail
  clear z hxz
  go_loopw [8] (fun i wr => ∃ k : Nat, i = .int .i64 k ∧ k ≤ n5 ∧ Hid (k = 0 ∨ n5 ≤ 8) ∧ Hid (Wr b wr (o3 ++ vL n5 ++ (SE.take k).flatMap txE) (bad3 || lsB 8 okS SE k) ((K + 300 + 2000000 + 300 + 2000000 + 300) + 3000 * k)) ∧ Hid (KB b b w1 wr)) (fun i _ => n5 - (intOf i).toNat)
  case atStart => exact ⟨0, by first | rfl | go_num, by omega, Lib.hid (.inl rfl), Lib.hid (HWc4.out.to (by rw [lsB_zero, HR5.out.1]) (fun _ => by simp) (by omega)), HKc4⟩
  case round =>
  obtain ⟨k, rfl, hk, HKM, HWr, HKr⟩ := hrel
  obtain ⟨qb, hqb⟩ : ∃ q, q = (bad3 || lsB 8 okS SE k) := ⟨_, rfl⟩
  rw [← hqb] at HWr
  have HQB := Lib.hid hqb
  clear hqb
  obtain ⟨qc, hqc⟩ : ∃ q, q = (decide (k < n5) && !qb) := ⟨_, rfl⟩
  have HQC := Lib.hid hqc
  clear hqc
  obtain ⟨bz, hbl, hbf⟩ := HWr.out.bad?
  have m1 := HC.out wr HKr.out 24 _ HV.out.2.2
  have hxw : ob < wr.heap.size := Nat.lt_of_lt_of_le hol HKr.out.size
  go_upto_region 23 with fail
  go_cut [115] from 104 to 115 (fun v wx => v = .bool qc ∧ Hid (wx = wr))
  case first =>
    by_cases hlt : k < n5
    · have hki : (k : Int) < (n5 : Int) := by omega
      cases qb
      · have hq := HQC.out
        rw [decide_eq_true hlt] at hq
        obtain rfl : qc = true := hq
        go_wp2_with fail
        go_meet
        exact ⟨rfl, Lib.hid rfl⟩
      · have hq := HQC.out
        rw [decide_eq_true hlt] at hq
        obtain rfl : qc = false := hq
        go_wp2_with fail
        go_meet
        exact ⟨rfl, Lib.hid rfl⟩
    · have hki : ¬ (k : Int) < (n5 : Int) := by omega
      have hq := HQC.out
      rw [decide_eq_false hlt] at hq
      obtain rfl : qc = false := hq
      go_wp2_with fail
      go_meet
      exact ⟨rfl, Lib.hid rfl⟩
  case rest =>
  rename World => wx
  obtain ⟨rfl, HXE⟩ := hcut
  have hxe := HXE.out
  subst hxe
  clear HXE
  cases qc with
  | true =>
    have hlt : k < n5 ∧ qb = false := by
      have h := HQC.out
      simp only [Bool.true_eq, Bool.and_eq_true, decide_eq_true_eq, Bool.not_eq_true'] at h
      exact h
    obtain ⟨hlt, rfl⟩ := hlt
    have hki : (k : Int) < (n5 : Int) := by omega
    have hmost : n5 ≤ 8 := ls_most HQB.out HR5.out.1
    have hkl : k < SE.length := by rw [HR5.out.1]; exact hlt
    have HNX := Lib.hid (fun (w' : World) (q' : Bool) (d : List Fld) => @ls_next b n5 8 k w' o3 bad3 false (K + 300 + 2000000 + 300 + 2000000 + 300) SE okS hkl HQB.out q' d)
    obtain ⟨x, hx⟩ : ∃ x, x = SE[k] := ⟨_, rfl⟩
    rw [← hx] at HNX
    have hsx := HR5.out.2.1 x (by rw [hx]; exact List.getElem_mem hkl)
    rcases HR5.out.2.2 with e0 | ⟨rb, ro, q1, t1, u1⟩
    · rw [e0] at hkl; simp at hkl
    subst q1
    have hf0 : FAt w1 rb (ro + k * 7) x := by subst hx; exact u1 k hkl
    have hrl : rb < w1.heap.size := Nat.lt_trans t1 hb1
    have HF : Hid (∀ W, KB b b w1 W → FAt W rb (ro + k * 7) x) := Lib.hid (fun W hk i hi => (hk.l.cell (p := ⟨rb, _, none⟩) t1).trans (hf0 i hi))
    have HRB : Hid (∀ W, KB b b w1 W → rb < W.heap.size) := Lib.hid (fun W hk => Nat.lt_of_lt_of_le hrl hk.size)
    clear u1 hx hkl hf0 hrl
    obtain ⟨cc, sq, er, va, g, pa, pn, pc, pu, rfl⟩ := hsx
    obtain ⟨o9, ho9⟩ : ∃ y, y = o3 ++ vL n5 ++ (SE.take k).flatMap txE := ⟨_, rfl⟩
    rw [← ho9] at HWr HNX
    clear ho9
    obtain ⟨K2, hK2⟩ : ∃ y, y = (K + 300 + 2000000 + 300 + 2000000 + 300) + 3000 * k := ⟨_, rfl⟩
    rw [← hK2] at HWr HNX
    have hK2b : K2 ≤ 890000000 := by omega
    clear hK2
    have HW20 : Hid (Wr b wx (o9 ++ txE []) (false || !okE []) K2) := Lib.hid (HWr.out.to (by simp [okE]) (fun _ => by simp [txE]) (Nat.le_refl _))
    have HK20 := HKr
    clear HWr bz hbl hbf m1 hxw
    have f0 := (HF.out wx HK20.out) 0 (by simp)
    simp only [List.getElem_cons_zero, List.getElem_cons_succ, Fld.cell, Nat.add_zero] at f0
    have m20 := HC.out wx HK20.out 24 _ HV.out.2.2
    have hx20 : ob < wx.heap.size := Nat.lt_of_lt_of_le hol HK20.out.size
    have hrb20 := HRB.out wx HK20.out
    go_wp2_with fail
    refine (wnumF b _ o9 false (K2 + 300 * 0) ([] : List Fld) cc HW20.out (by omega)).mono ?_
    rintro e w21 ⟨rfl, hk2, hw2⟩
    have HK21 := Lib.hid (HK20.out.trans hk2)
    have HW21 : Hid (Wr b w21 (o9 ++ txE [.n 0 maxN cc]) (false || !okE [.n 0 maxN cc]) (K2 + 300 * 0 + 300)) := Lib.hid hw2
    clear hk2 hw2 HW20 HK20 f0 m20 hx20 hrb20
    have f1 := (HF.out w21 HK21.out) 1 (by simp)
    simp only [List.getElem_cons_zero, List.getElem_cons_succ, Fld.cell, Nat.add_zero] at f1
    have m21 := HC.out w21 HK21.out 24 _ HV.out.2.2
    have hx21 : ob < w21.heap.size := Nat.lt_of_lt_of_le hol HK21.out.size
    have hrb21 := HRB.out w21 HK21.out
    go_wp2_with fail
    refine (wnumF b _ o9 false (K2 + 300 * 1) ([.n 0 maxN cc] : List Fld) sq HW21.out (by omega)).mono ?_
    rintro e w22 ⟨rfl, hk2, hw2⟩
    have HK22 := Lib.hid (HK21.out.trans hk2)
    have HW22 : Hid (Wr b w22 (o9 ++ txE [.n 0 maxN cc, .n 0 maxN sq]) (false || !okE [.n 0 maxN cc, .n 0 maxN sq]) (K2 + 300 * 1 + 300)) := Lib.hid hw2
    clear hk2 hw2 HW21 HK21 f1 m21 hx21 hrb21
    have HT := Lib.hid (wrep0 b w22 _ _ _ er va g pu pa pn pc HW22.out (by omega))
    have f2 := (HF.out w22 HK22.out) 2 (by simp)
    have f3 := (HF.out w22 HK22.out) 3 (by simp)
    have f4 := (HF.out w22 HK22.out) 4 (by simp)
    have f5 := (HF.out w22 HK22.out) 5 (by simp)
    have f6 := (HF.out w22 HK22.out) 6 (by simp)
    simp only [List.getElem_cons_zero, List.getElem_cons_succ, Fld.cell, Nat.add_zero] at f2 f3 f4 f5 f6
    have m22 := HC.out w22 HK22.out 24 _ HV.out.2.2
    have hx22 : ob < w22.heap.size := Nat.lt_of_lt_of_le hol HK22.out.size
    have hrb22 := HRB.out w22 HK22.out
    go_wp2_with fail
    refine HT.out.mono ?_
    rintro e w23 ⟨rfl, hk2, hw2⟩
    have HWF := Lib.hid (HNX.out w23 _ [.n 0 maxN cc, .n 0 maxN sq, .n 0 maxN er, .t va, .f g, .r (.slice pa pn pc), .t pu] rfl rfl (hw2.to (by
      have e1 : okS [.n 0 maxN cc, .n 0 maxN sq, .n 0 maxN er, .t va, .f g, .r (.slice pa pn pc), .t pu] = ((okE [.n 0 maxN cc, .n 0 maxN sq] && okE [.n 0 maxN er, .t va, .f g, .r (.slice pa pn pc), .t pu]) && decide (pn = 0)) := by
        unfold okS
        rw [show ([.n 0 maxN cc, .n 0 maxN sq, .n 0 maxN er, .t va, .f g, .r (.slice pa pn pc), .t pu] : List Fld) = [.n 0 maxN cc, .n 0 maxN sq] ++ [.n 0 maxN er, .t va, .f g, .r (.slice pa pn pc), .t pu] from rfl, okE_app]
        rfl
      rw [e1]
      have e2 : decide (0 < pn) = !decide (pn = 0) := by by_cases h0 : pn = 0 <;> simp [h0]; omega
      rw [e2]
      generalize okE [.n 0 maxN cc, .n 0 maxN sq] = x1
      generalize okE [.n 0 maxN er, .t va, .f g, .r (.slice pa pn pc), .t pu] = x2
      cases x1 <;> cases x2 <;> cases decide (pn = 0) <;> rfl) (fun _ => by
      rw [show ([.n 0 maxN cc, .n 0 maxN sq, .n 0 maxN er, .t va, .f g, .r (.slice pa pn pc), .t pu] : List Fld) = [.n 0 maxN cc, .n 0 maxN sq] ++ [.n 0 maxN er, .t va, .f g, .r (.slice pa pn pc), .t pu] from rfl, txE_app, List.append_assoc]) (by omega)))
    have HKF := Lib.hid (HK22.out.trans hk2)
    clear hk2 hw2 f2 f3 f4 f5 f6 m22 hx22 hrb22 HT
    go_wp2_with fail
    go_roundw
    case rel => exact ⟨k + 1, by go_num, by omega, Lib.hid (.inr hmost), HWF, HKF⟩
    case measure => simp [intOf]; omega
  | false =>
  have hne : ¬ (k < n5 ∧ qb = false) := by
    rintro ⟨h1, h2⟩
    have h := HQC.out
    rw [decide_eq_true h1, h2] at h
    cases h
  have HWe4 := Lib.hid (ls_end HWr.out HQB.out HR5.out.1 hk HKM.out (by omega) hne)
  have HKe4 := HKr
  clear HWr HKr HQB HQC HKM hne bz hbl hbf m1 hxw hk
  rename World => we4
  go_wp2_with fail
  go_end0
  refine ⟨rfl, HK0.out.trans HKe4.out, HWe4.out.to ?_ (fun _ => ?_) (by omega)⟩
  · rw [HO3.out.2, HO2.out.2, okS_all]
    unfold okLs
    generalize decide (MP.length ≤ 64) = x1
    generalize MP.all okE = x2
    generalize decide (EN.length ≤ 512) = x3
    generalize EN.all okE = x4
    generalize decide (SE.length ≤ 8) = x5
    generalize SE.all okE = x6
    generalize bareL SE = x7
    cases bad <;> cases x1 <;> cases x2 <;> cases x3 <;> cases x4 <;> cases x5 <;> cases x6 <;> cases x7 <;> rfl
  · rw [HO3.out.1, HO2.out.1, List.append_assoc, List.append_assoc]
end Go.Proofs.Ytdnhmkfgcpdbkaa
