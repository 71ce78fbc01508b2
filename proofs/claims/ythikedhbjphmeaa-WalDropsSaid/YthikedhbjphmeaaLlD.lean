/-
  Layer 6 (wal): the walk of the law WalDrops. Conditions: texts within the form's reach.
-/
import Derived.Test.YthikedhbjphmeaaLlA
import Derived.Test.YthikedhbjphmeaaLk
import Derived.Lib.MinMax
namespace Go.Proofs.Ythikedhbjphmeaa
open Go.RowKit Go.Lib
set_option linter.unusedVariables false
set_option linter.unusedSimpArgs false

/-- Files of one text each. -/
def nf (ts : List (List UInt8)) : Nf := ts.mapIdx fun j t => (j, fl [t] 1)
theorem nf_snoc (ts : List (List UInt8)) (t : List UInt8) : nf (ts ++ [t]) = nf ts ++ [(ts.length, fl [t] 1)] := by
  unfold nf; rw [List.mapIdx_append]; simp
theorem nf_length (ts : List (List UInt8)) : (nf ts).length = ts.length := by simp [nf]
theorem txt_one {t : List UInt8} (h : t.length ≤ 262144) (n : Nat) : txt (n, fl [t] 1) = (n, [t]) := by
  unfold txt fl
  simp only
  have := fa_frs [t] [] (fun x hx => by simp at hx; subst hx; exact h)
  rw [List.append_nil] at this
  rw [this, fa_no (by decide +kernel)]
  simp
theorem nf_drop (ts : List (List UInt8)) (k : Nat) : (nf ts).filter (fun p => decide (k ≤ p.1)) = (nf ts).drop k := by
  have e : nf ts = (nf ts).take k ++ (nf ts).drop k := (List.take_append_drop k _).symm
  have hm : ∀ i (hi : i < (nf ts).length), (nf ts)[i].1 = i := fun i hi => by simp [nf]
  conv => lhs; rw [e]
  rw [List.filter_append]
  have h1 : ((nf ts).take k).filter (fun p => decide (k ≤ p.1)) = [] := by
    rw [List.filter_eq_nil_iff]
    intro p hp
    obtain ⟨i, hi, rfl⟩ := List.getElem_of_mem hp
    rw [List.length_take] at hi
    rw [List.getElem_take, hm i (by omega)]
    simp; omega
  have h2 : ((nf ts).drop k).filter (fun p => decide (k ≤ p.1)) = (nf ts).drop k := by
    rw [List.filter_eq_self]
    intro p hp
    obtain ⟨i, hi, rfl⟩ := List.getElem_of_mem hp
    rw [List.length_drop] at hi
    rw [List.getElem_drop, hm (k + i) (by omega)]
    simp
  rw [h1, h2, List.nil_append]
theorem nf_flat : ∀ (ts : List (List UInt8)) (k : Nat), (∀ t ∈ ts, t.length ≤ 262144) → flat (((nf ts).drop k).map txt) = ts.drop k := by
  intro ts k h
  have e : ((nf ts).map txt) = ts.mapIdx fun j t => (j, [t]) := by
    unfold nf
    refine List.ext_getElem (by simp) fun i h1 h2 => ?_
    simp only [List.getElem_map, List.getElem_mapIdx]
    exact txt_one (h _ (List.getElem_mem _)) _
  rw [List.map_drop, e]
  have h3 : ∀ (l : List (List UInt8)) (f : Nat → Nat), flat (l.mapIdx fun j t => (f j, [t])) = l := by
    intro l
    induction l with
    | nil => intro f; rfl
    | cons x l ih =>
      intro f
      rw [List.mapIdx_cons]
      show [x] ++ flat (l.mapIdx fun j t => (f (j + 1), [t])) = x :: l
      rw [ih fun j => f (j + 1)]
      rfl
  have h4 : (ts.mapIdx fun j t => ((j, [t]) : Nat × List (List UInt8))).drop k = (ts.drop k).mapIdx fun j t => (j + k, [t]) := by
    refine List.ext_getElem (by simp) fun i h1 h2 => ?_
    simp only [List.getElem_drop, List.getElem_mapIdx]
    exact Prod.ext (Nat.add_comm _ _) rfl
  rw [h4, h3]
section
variable {own : Nat → Prop} {w : World} {l d m n k : Nat} {N : Nf} {ts : List (List UInt8)}
theorem wp_drop (h : WP own w l d m N n ts k) (hm : m ≤ 200) (b : Nat) (hb : b ≤ n) :
    Calls Try.prog 19 #[.pointer (some ⟨l, 0, none⟩), .int .i64 (b : Int)] w fun e w' => e = .returned (.int .i64 0) ∧ WP own w' l d m (N.filter fun p => decide (b ≤ p.1)) n ts k ∧ Keeps own w w' := by
  have hbd := h.bound hm
  obtain ⟨F, h1, h2⟩ := h
  have hr : (calm F).rm (b : Int) = (calm (lf ((N.filter fun p => decide (b ≤ p.1)) ++ [(n, fl ts k)])), 0) := by
    unfold Ds.rm
    rw [h2.files]
    have e := rm_calm (b : Int) h2.rise
    have e2 : ((N ++ [(n, fl ts k)]).filter fun p => decide ((b : Int) ≤ (p.1 : Int))) = (N.filter fun p => decide (b ≤ p.1)) ++ [(n, fl ts k)] := by
      rw [List.filter_append]
      congr 1
      · congr 1
        funext p
        have : ((b : Int) ≤ (p.1 : Int)) ↔ b ≤ p.1 := by omega
        simp [this]
      · rw [List.filter_cons_of_pos (by simp; omega)]; rfl
    rw [e2] at e
    exact e
  have C := drop_any h1 (b : Int) (by omega) (by have := h2.nl; rw [List.length_map]; omega)
  rw [hr] at C
  refine C.mono fun e w' ⟨c1, c2, c3⟩ => ⟨c1, ⟨_, ?_, ⟨rfl, ?_, fun p hp => h2.full p (List.mem_filter.1 hp).1, h2.kle, h2.short, Nat.le_trans (List.length_filter_le _ _) h2.nl, h2.nn, h2.tl⟩⟩, c3⟩
  · rw [if_pos rfl] at c2
    have e3 : (N.map txt ++ [(n, ts)]).filter (fun p => !decide ((p.1 : Int) < (b : Int))) = lg (N.filter fun p => decide (b ≤ p.1)) n ts := by
      unfold lg
      rw [List.filter_append, List.filter_map]
      congr 1
      · congr 1
        congr 1
        funext p
        show (!decide ((p.1 : Int) < (b : Int))) = decide (b ≤ p.1)
        by_cases c : b ≤ p.1
        · rw [decide_eq_true c, decide_eq_false (by omega)]; rfl
        · rw [decide_eq_false c, decide_eq_true (by omega)]; rfl
      · rw [List.filter_cons_of_pos (by simp; omega)]; rfl
    rw [← e3]
    exact c2
  · have := h2.rise.filter fun p => decide (b ≤ p.1)
    rw [List.filter_append, List.filter_cons_of_pos (by simp; omega)] at this
    exact this
theorem wp_dropbig (h : WP own w l d m N n ts k) (b : Int) (hb : (n : Int) < b) :
    Calls Try.prog 19 #[.pointer (some ⟨l, 0, none⟩), .int .i64 b] w fun e w' => e = .returned (.int .i64 1) ∧ Below w.heap.size w w' := by
  obtain ⟨F, h1, h2⟩ := h
  exact drop_big h1 b hb
end

set_option maxRecDepth 100000 in
set_option maxHeartbeats 400000 in
theorem drops_e1 (a : Option Addr) (cap : Nat) (ts : List (List UInt8)) (x y : Int) (w : World) (hl : ts.length ≤ maxLen) (h : 20 < (ts.length : Int)) : Calls Try.prog 5 #[.slice a ts.length cap, .int .i64 x, .int .i64 y] w fun e w' => e = .returned (.bool true) ∧ Below w.heap.size w w' := by
  unfold maxLen at hl
  go_enter Try.func5, Try.ntmps5
  go_wp2_with fail
  refine (new_any _).mono ?_
  rintro e w1 ⟨rfl, hd, hb⟩
  have HB := Lib.hid hb
  have C := wp_new hd 0 (by omega)
  rw [show ((0 : Nat) : Int) = 0 from rfl] at C
  have HC := Lib.hid C
  clear hd hb C
  go_wp2_with fail
  refine HC.out.mono ?_
  rintro e w2 ⟨l, rfl, hw, hk⟩
  have HB2 := Lib.hid (HB.out.trans ((hk.below (B := w.heap.size) fun b hb => hb)))
  clear hw hk HC
  go_wp2_with (go_at_call 9; refine (awake_any _).mono ?_; rintro e w3 ⟨rfl, bb⟩)
  go_ret
  exact ⟨rfl, HB2.out.trans (bb.mono HB2.out.size)⟩
set_option maxRecDepth 100000 in
set_option maxHeartbeats 2000000 in
theorem drops_main (a : Option Addr) (cap : Nat) (ts : List (List UInt8)) (x y : Int) (w : World) (hr : Rd w a ts) (hcap : ts.length ≤ cap) (h : (ts.length : Int) ≤ 20) : Calls Try.prog 5 #[.slice a ts.length cap, .int .i64 x, .int .i64 y] w fun e w' => e = .returned (.bool true) ∧ Below w.heap.size w w' := by
  have HR := Lib.hid hr
  obtain ⟨f0, hf0, hf8⟩ := low8 x
  obtain ⟨g0, hg0, hg8⟩ := low8 y
  clear hr
  obtain ⟨own, hown⟩ : ∃ own : Nat → Prop, own = fun b => b < w.heap.size := ⟨_, rfl⟩
  have HO : Hid (∀ b, b < w.heap.size → own b) := Lib.hid fun b hb => by rw [hown]; exact hb
  have HON := Lib.hid hown
  clear hown
  go_enter Try.func5, Try.ntmps5
  go_wp2_with fail
  refine (new_any _).mono ?_
  rintro e w1 ⟨rfl, hd, hb⟩
  rw [← HON.out] at hd
  have HB1 := Lib.hid hb
  have C := wp_new hd 0 (by omega)
  rw [show ((0 : Nat) : Int) = 0 from rfl] at C
  have HC := Lib.hid C
  clear hd hb C
  go_wp2_with fail
  refine HC.out.mono ?_
  rintro e w2 ⟨l, rfl, hw, hk⟩
  have HB2 := Lib.hid (HB1.out.trans (hk.below HO.out))
  have HZ2 := Lib.hid hw
  clear hw hk HC HB1
  go_wp2
  have HL := Lib.hid h
  have HF0 := Lib.hid (And.intro hf0 hf8)
  have HG0 := Lib.hid (And.intro hg0 hg8)
  clear h hf0 hf8 hg0 hg8
  go_loopw [10] (fun i wr => ∃ q : Nat, i = .int .i64 q ∧ Hid (q ≤ ts.length) ∧ Hid (WP own wr l (w.heap.size + 1) (2 * q) (nf (ts.take q)) q [] 0) ∧ Hid (∀ t ∈ ts.take q, t.length ≤ 262144) ∧ Hid (Below w.heap.size w wr)) (fun i _ => ts.length - (intOf i).toNat)
  case atStart => exact ⟨0, rfl, Lib.hid (Nat.zero_le _), HZ2, Lib.hid (by simp), HB2⟩
  case round =>
    obtain ⟨q, rfl, hq, HZ, HS, HB⟩ := hrel
    clear HZ2 HB2
    have HQ : Hid (q ≤ 20) := Lib.hid (by have := hq.out; have := HL.out; omega)
    by_cases hlt : q < ts.length
    · have hlti : (q : Int) < (ts.length : Int) := by omega
      have hq20 : (q : Int) < 20 := by have := HL.out; omega
      have hrd := HR.out.old HB.out
      obtain ⟨b, ofs, rfl, hb, hcell⟩ : ∃ b ofs, a = some ⟨b, ofs, none⟩ ∧ b < wr.heap.size ∧ wr.cell? ⟨b, ofs + q, none⟩ = some (.string ⟨ts[q].toArray⟩) := by
        rcases hrd with rfl | ⟨b, ofs, h1, h2, h3⟩
        · simp at hlt
        · exact ⟨b, ofs, h1, h2, h3 q hlt⟩
      clear hrd
      obtain ⟨t, ht⟩ : ∃ t, ts[q] = t := ⟨_, rfl⟩
      rw [ht] at hcell
      by_cases h100 : 100 < (t.length : Int)
      · clear ht
        go_wp2_with (go_at_call 9; refine (awake_any _).mono ?_; rintro e w' ⟨rfl, bb⟩)
        go_ret
        exact ⟨rfl, HB.out.trans (bb.mono HB.out.size)⟩
      · have h100' : (t.length : Int) ≤ 100 := by omega
        have C := wp_add HZ.out (by have := HQ.out; omega) ⟨t.toArray⟩ (by rw [size_mkl t]; omega)
        rw [show (⟨t.toArray⟩ : ByteArray).data.toList = t from rfl] at C
        have HC := Lib.hid C
        have hst : ts.take (q + 1) = ts.take q ++ [t] := by rw [List.take_succ_eq_append_getElem hlt, ht]
        have hnf : nf (ts.take (q + 1)) = nf (ts.take q) ++ [(q, fl [t] 1)] := by
          rw [hst, nf_snoc, List.length_take, Nat.min_eq_left (by omega)]
        have hss : ∀ u ∈ ts.take (q + 1), u.length ≤ 262144 := fun u hu => by
          rw [hst] at hu
          rcases List.mem_append.1 hu with hu | hu
          · exact HS.out u hu
          · simp at hu; subst hu; omega
        have HNF := Lib.hid hnf
        have HSS := Lib.hid hss
        clear C ht h100 hst hnf hss
        go_wp2_with fail
        refine HC.out.mono ?_
        rintro e w4 ⟨rfl, hz4, hk4⟩
        have HB4 := Lib.hid (HB.out.trans (hk4.below HO.out))
        have HZ4 := Lib.hid hz4
        clear hk4 hz4 HC HZ HB
        go_wp2_with fail
        refine (wp_roll HZ4.out (by have := HQ.out; omega)).mono ?_
        rintro e w6 ⟨rfl, hz6, hk6⟩
        have HB6 := Lib.hid (HB4.out.trans (hk6.below HO.out))
        have hz6' : WP own w6 l (w.heap.size + 1) (2 * (q + 1)) (nf (ts.take (q + 1))) (q + 1) [] 0 := by rw [HNF.out]; exact hz6.up (by omega)
        have HZ6 := Lib.hid hz6'
        clear hk6 hz6 hz6' HZ4 HB4
        go_wp2_with fail
        refine (wp_last HZ6.out).mono ?_
        rintro e w7 ⟨rfl, hb7⟩
        have HB7 := Lib.hid (HB6.out.trans (hb7.mono HB6.out.size))
        have HZ7 := Lib.hid (HZ6.out.below hb7)
        clear hb7 HB6 HZ6
        go_wp2
        go_roundw
        case rel => exact ⟨q + 1, by go_num, Lib.hid (by omega), HZ7, HSS, HB7⟩
        case measure => simp [intOf]; omega
    · have hlti : ¬ (q : Int) < (ts.length : Int) := by omega
      have hqe : q = ts.length := by have := hq.out; omega
      subst hqe
      have hs0 := HS.out
      have hz0 := HZ.out
      rw [List.take_length] at hs0 hz0
      have HS0 := Lib.hid hs0
      have HZ0 := Lib.hid hz0
      clear hs0 hz0 HS HZ
      have e1 : bits BinOp.and IntKind.i64 x 255 = (f0 : Int) := HF0.out.1
      obtain ⟨k, hk⟩ : ∃ k, k = f0 % (ts.length + 1) := ⟨_, rfl⟩
      have hkl : k ≤ ts.length := by rw [hk]; have := Nat.mod_lt f0 (show ts.length + 1 > 0 by omega); omega
      have e2 : (f0 : Int) % ((ts.length : Int) + 1) = (k : Int) := by rw [hk]; exact (Int.natCast_emod _ _).symm
      have hl20 : (ts.length : Int) ≤ 20 := HL.out
      have hl0 : ¬ ((ts.length : Int) + 1 = 0) := by omega
      have e3 : bits BinOp.and IntKind.i64 y 255 = (g0 : Int) := HG0.out.1
      obtain ⟨fr, hfr⟩ : ∃ fr, fr = g0 % (ts.length + 1) := ⟨_, rfl⟩
      have hfrl : fr ≤ ts.length := by rw [hfr]; have := Nat.mod_lt g0 (show ts.length + 1 > 0 by omega); omega
      have e4 : (g0 : Int) % ((ts.length : Int) + 1) = (fr : Int) := by rw [hfr]; exact (Int.natCast_emod _ _).symm
      clear hk hfr
      obtain ⟨N1, hN1⟩ : ∃ N1, N1 = (nf ts).filter (fun p => decide (k ≤ p.1)) := ⟨_, rfl⟩
      have hT1 : flat (lg N1 ts.length []) = ts.drop k := by rw [lg_flat, List.append_nil, hN1, nf_drop, nf_flat ts k HS0.out]
      have D1 := wp_drop HZ0.out (by have := HQ.out; omega) k hkl
      rw [← hN1] at D1
      have HN1 := Lib.hid hN1
      have HT1 := Lib.hid hT1
      have hdl : (ts.drop k).length = ts.length - k := List.length_drop
      have HDL := Lib.hid hdl
      have D1' := Lib.hid fun w' (hb : Below wr.heap.size wr w') => wp_drop (HZ0.out.below hb) (by have := HQ.out; omega) k hkl
      rw [← hN1] at D1'
      have hRk : ∀ k w', Below w.heap.size w w' → ∀ b ofs, a = some ⟨b, ofs, none⟩ → Rd w' (some ⟨b, ofs + k, none⟩) (ts.drop k) := fun k w' hb b ofs ha => by
        rcases HR.out.old hb with h | ⟨b', ofs', h1, h2, h3⟩
        · left; rw [h]; simp
        · rw [ha] at h1; cases h1
          refine .inr ⟨b, ofs + k, rfl, h2, fun i hi => ?_⟩
          rw [List.length_drop] at hi
          rw [Nat.add_assoc, h3 (k + i) (by omega), List.getElem_drop]
      have HRk := Lib.hid hRk
      have hki : (k : Int) ≤ (ts.length : Int) := by omega
      have hci : (ts.length : Int) ≤ (cap : Int) := by omega
      have hkc : (k : Int) ≤ (cap : Int) := by omega
      have hdl2 : ts.length - k < 9223372036854775808 := by omega
      have hBw : Below w.heap.size w wr.drew := HB.out.drew
      have HQ' := HQ.out
      have hwl : IntKind.i64.wrap ((ts.length : Int) + 1) = (ts.length : Int) + 1 := by rw [IntKind.wrap_i64]; omega
      clear D1 hN1 hT1 hdl hRk HB hq
      go_wp2_with fail
      rcases (by omega : k < ts.length ∨ (k = ts.length ∧ ts.length < cap) ∨ (k = ts.length ∧ ts.length = cap)) with hc | hc | hc
      · obtain ⟨b, ofs, rfl⟩ : ∃ b ofs, a = some ⟨b, ofs, none⟩ := by
          rcases HR.out with h | ⟨b, ofs, h1, _⟩
          · rw [h] at hc; simp at hc
          · exact ⟨b, ofs, h1⟩
        have hc1 : (k : Int) < (ts.length : Int) := by omega
        have hc2 : (k : Int) < (cap : Int) := by omega
        go_region_held3 (fun _ => True)
          (first | exact trivial | assumption)
          (first
            | (go_at_call 19; (with_reducible refine (D1'.out _ ((Below.refl _ _).drew)).mono ?_); rintro e w' ⟨rfl, hw', hk'⟩; have hB' := Below.trans hBw (hk'.below HO.out))
            | (go_at_call 14; refine (wp_all (by assumption) (by omega) (ts.drop k) HT1.out).mono ?_; rw [HDL.out]; rintro e w' ⟨a', c', rfl, rr, bb⟩; have hw2 := WP.below (by assumption) bb; have hB2 : Below w.heap.size w _ := bt (by assumption) bb)
            | (go_at_call 15; refine (same_at _ _ _ _ _ _ (ts.drop k) (ts.drop k) true _ (by assumption) (HRk.out _ _ (by assumption) _ _ rfl) HDL.out HDL.out hdl2 (by simp)).mono ?_; rintro e w' ⟨rfl, bb⟩; have hw2 := WP.below (by assumption) bb; have hB2 : Below w.heap.size w _ := bt (by assumption) bb)
            | (go_at_call 19; refine (wp_dropbig (by assumption) _ (by omega)).mono ?_; rintro e w' ⟨rfl, bb⟩; have hw2 := WP.below (by assumption) bb; have hB2 : Below w.heap.size w _ := bt (by assumption) bb)
            | (go_at_call 13; refine (wp_crash0 (by assumption) _).mono ?_; rintro e w' ⟨rfl, hd, hf, htx, hk'⟩; have hB4 : Below w.heap.size w _ := Below.trans (by assumption) (hk'.below HO.out)))
        all_goals
          have HD4 := Lib.hid (show DiskAt own _ (w.heap.size + 1) (calm (lf (N1 ++ [(ts.length, fl ([].take 0) 0)]))) from by assumption)
          have HF4 := Lib.hid (show Full _ (N1 ++ [(ts.length, fl ([].take 0) 0)]) from by assumption)
          have HX4 := Lib.hid (show txt (ts.length, fl ([].take 0) 0) = (ts.length, [].take 0) from by assumption)
          have HB4 := Lib.hid (show Below w.heap.size w _ from by assumption)
          repeat (first | clear hw2 | clear hB2 | clear bb | clear rr | clear hw' | clear hB' | clear hk' | clear hd | clear hf | clear htx | clear hB4)
          go_wp2_with fail
          refine (wp_open HD4.out HF4.out (by omega) fr (by omega)).mono ?_
          rintro e w8 ⟨l2, M, x2, hM, hx, rfl, hw8, hk8⟩
          have HB8 := Lib.hid (HB4.out.trans (hk8.below HO.out))
          have hMe : M = (N1.filter fun p => decide (fr ≤ p.1)) ++ [(ts.length, fl ([].take 0) 0)] := by
            rw [hM, List.filter_append]
            congr 1
            rw [List.filter_cons_of_pos (by simp; omega)]
            rfl
          have hx2 : x2 = ts.length + 1 := by rw [hx, hMe, List.map_append, List.map_singleton, lastN_snoc]; rfl
          obtain ⟨mx, hmx⟩ : ∃ mx, mx = max k fr := ⟨_, rfl⟩
          have hT2 : flat (lg M x2 []) = ts.drop mx := by
            rw [lg_flat, List.append_nil, hMe, List.map_append, flat_append, List.map_singleton, HX4.out, flat_one, HN1.out, List.filter_filter]
            have e5 : ((nf ts).filter fun p => decide (fr ≤ p.1) && decide (k ≤ p.1)) = (nf ts).filter fun p => decide (mx ≤ p.1) := by
              congr 1
              funext p
              rw [← Bool.decide_and]
              congr 1
              rw [hmx]
              exact propext ⟨fun h => by omega, fun h => by omega⟩
            rw [e5, nf_drop, nf_flat ts mx HS0.out]
            simp
          have hml : mx ≤ ts.length := by omega
          have hmI : max (k : Int) (fr : Int) = (mx : Int) := by omega
          have hdm : (ts.drop mx).length = ts.length - mx := List.length_drop
          have hAl : ∀ w', Below w8.heap.size w8 w' → Calls Try.prog 14 #[.pointer (some ⟨l2, 0, none⟩)] w' fun e w'' => ∃ a cap, e = .returned (.slice a (ts.length - mx) cap) ∧ Rd w'' a (ts.drop mx) ∧ Below w'.heap.size w' w'' := fun w' hb => by
            have := wp_all (hw8.below hb) (by omega) (ts.drop mx) hT2
            rw [hdm] at this
            exact this
          have hLa : ∀ w', Below w8.heap.size w8 w' → Calls Try.prog 18 #[.pointer (some ⟨l2, 0, none⟩)] w' fun e w'' => e = .returned (.int .i64 ((ts.length : Int) + 1)) ∧ Below w'.heap.size w' w'' := fun w' hb => by
            have := wp_last (hw8.below hb)
            rw [hx2] at this
            exact this
          have HAl := Lib.hid hAl
          have HLa := Lib.hid hLa
          have HDM := Lib.hid hdm
          have HRm := Lib.hid fun w' (hb : Below w8.heap.size w8 w') => HRk.out mx w' (HB8.out.trans (hb.mono HB8.out.size))
          have hdl3 : ts.length - mx < 9223372036854775808 := by omega
          have hmi : (mx : Int) ≤ (ts.length : Int) := by omega
          have hmc : (mx : Int) ≤ (cap : Int) := by omega
          rcases (by omega : mx < ts.length ∨ (mx = ts.length ∧ ts.length < cap) ∨ (mx = ts.length ∧ ts.length = cap)) with hq3 | hq3 | hq3
          · have hc4 : (mx : Int) < (ts.length : Int) := by omega
            have hne : ¬ cap = mx := by omega
            have hc5 : (mx : Int) < (cap : Int) := by omega
            clear hM hx hw8 hk8 hMe hx2 hT2 hdm hAl hLa hmx
            try clear hc3
            clear hml
            go_wp2_with fail
            go_region_held3 (fun w' => Below w8.heap.size w8 w')
              (first | exact (Below.refl _ _).drew | assumption | exact bt (by assumption) (by assumption))
              (first
                | (go_at_call 14; (with_reducible refine (HAl.out _ ?_).mono ?_); (assumption); rintro e w' ⟨a', c', rfl, rr, bb⟩)
                | (go_at_call 15; refine (same_at _ _ _ _ _ _ (ts.drop mx) (ts.drop mx) true _ ?_ (HRm.out _ (by assumption) _ _ rfl) HDM.out HDM.out hdl3 (by simp)).mono ?_; (first | assumption | exact Rd.old (by assumption) (by assumption)); rintro e w' ⟨rfl, bb⟩)
                | (go_at_call 18; (with_reducible refine (HLa.out _ ?_).mono ?_); (assumption); rintro e w' ⟨rfl, bb⟩)
                | (go_at_call 9; refine (awake_any _).mono ?_; rintro e w' ⟨rfl, bb⟩))
            all_goals
              go_wp2
              go_ret
              exact ⟨rfl, HB8.out.trans ((by assumption : Below w8.heap.size w8 _).mono HB8.out.size)⟩
          · have hc5 : (mx : Int) < (cap : Int) := by omega
            have hc3 : ts.drop mx = [] := List.drop_of_length_le (by omega)
            have HD3 := Lib.hid hc3
            clear hq3
            clear hM hx hw8 hk8 hMe hx2 hT2 hdm hAl hLa hmx
            try clear hc3
            clear hml
            go_wp2_with fail
            go_region_held3 (fun w' => Below w8.heap.size w8 w')
              (first | exact (Below.refl _ _).drew | assumption | exact bt (by assumption) (by assumption))
              (first
                | (go_at_call 14; (with_reducible refine (HAl.out _ ?_).mono ?_); (assumption); rintro e w' ⟨a', c', rfl, rr, bb⟩)
                | (go_at_call 15; refine (same_at _ _ _ _ _ _ (ts.drop mx) (ts.drop mx) true _ ?_ (.inl HD3.out) HDM.out HDM.out hdl3 (by simp)).mono ?_; (first | assumption | exact Rd.old (by assumption) (by assumption)); rintro e w' ⟨rfl, bb⟩)
                | (go_at_call 18; (with_reducible refine (HLa.out _ ?_).mono ?_); (assumption); rintro e w' ⟨rfl, bb⟩)
                | (go_at_call 9; refine (awake_any _).mono ?_; rintro e w' ⟨rfl, bb⟩))
            all_goals
              go_wp2
              go_ret
              exact ⟨rfl, HB8.out.trans ((by assumption : Below w8.heap.size w8 _).mono HB8.out.size)⟩
          · have hc5 : ¬ (mx : Int) < (cap : Int) := by omega
            have hc3 : ts.drop mx = [] := List.drop_of_length_le (by omega)
            have HD3 := Lib.hid hc3
            clear hq3
            clear hM hx hw8 hk8 hMe hx2 hT2 hdm hAl hLa hmx
            try clear hc3
            clear hml
            go_wp2_with fail
            go_region_held3 (fun w' => Below w8.heap.size w8 w')
              (first | exact (Below.refl _ _).drew | assumption | exact bt (by assumption) (by assumption))
              (first
                | (go_at_call 14; (with_reducible refine (HAl.out _ ?_).mono ?_); (assumption); rintro e w' ⟨a', c', rfl, rr, bb⟩)
                | (go_at_call 15; refine (same_at _ _ _ _ _ _ (ts.drop mx) (ts.drop mx) true _ ?_ (.inl HD3.out) HDM.out HDM.out hdl3 (by simp)).mono ?_; (first | assumption | exact Rd.old (by assumption) (by assumption)); rintro e w' ⟨rfl, bb⟩)
                | (go_at_call 18; (with_reducible refine (HLa.out _ ?_).mono ?_); (assumption); rintro e w' ⟨rfl, bb⟩)
                | (go_at_call 9; refine (awake_any _).mono ?_; rintro e w' ⟨rfl, bb⟩))
            all_goals
              go_wp2
              go_ret
              exact ⟨rfl, HB8.out.trans ((by assumption : Below w8.heap.size w8 _).mono HB8.out.size)⟩
      · have hd0 : ts.drop k = [] := by rw [hc.1]; exact List.drop_length
        have HD0 := Lib.hid hd0
        have hc2 : (k : Int) < (cap : Int) := by omega
        have HCC := Lib.hid hc
        clear hd0 hc
        go_region_held3 (fun _ => True)
          (first | exact trivial | assumption)
          (first
            | (go_at_call 19; (with_reducible refine (D1'.out _ ((Below.refl _ _).drew)).mono ?_); rintro e w' ⟨rfl, hw', hk'⟩; have hB' := Below.trans hBw (hk'.below HO.out))
            | (go_at_call 14; refine (wp_all (by assumption) (by omega) (ts.drop k) HT1.out).mono ?_; rw [HDL.out]; rintro e w' ⟨a', c', rfl, rr, bb⟩; have hw2 := WP.below (by assumption) bb; have hB2 : Below w.heap.size w _ := bt (by assumption) bb)
            | (go_at_call 15; refine (same_at _ _ _ _ _ _ (ts.drop k) (ts.drop k) true _ (by assumption) (.inl HD0.out) HDL.out HDL.out hdl2 (by simp)).mono ?_; rintro e w' ⟨rfl, bb⟩; have hw2 := WP.below (by assumption) bb; have hB2 : Below w.heap.size w _ := bt (by assumption) bb)
            | (go_at_call 19; refine (wp_dropbig (by assumption) _ (by omega)).mono ?_; rintro e w' ⟨rfl, bb⟩; have hw2 := WP.below (by assumption) bb; have hB2 : Below w.heap.size w _ := bt (by assumption) bb)
            | (go_at_call 13; refine (wp_crash0 (by assumption) _).mono ?_; rintro e w' ⟨rfl, hd, hf, htx, hk'⟩; have hB4 : Below w.heap.size w _ := Below.trans (by assumption) (hk'.below HO.out)))
        all_goals
          have HD4 := Lib.hid (show DiskAt own _ (w.heap.size + 1) (calm (lf (N1 ++ [(ts.length, fl ([].take 0) 0)]))) from by assumption)
          have HF4 := Lib.hid (show Full _ (N1 ++ [(ts.length, fl ([].take 0) 0)]) from by assumption)
          have HX4 := Lib.hid (show txt (ts.length, fl ([].take 0) 0) = (ts.length, [].take 0) from by assumption)
          have HB4 := Lib.hid (show Below w.heap.size w _ from by assumption)
          repeat (first | clear hw2 | clear hB2 | clear bb | clear rr | clear hw' | clear hB' | clear hk' | clear hd | clear hf | clear htx | clear hB4)
          go_wp2_with fail
          refine (wp_open HD4.out HF4.out (by omega) fr (by omega)).mono ?_
          rintro e w8 ⟨l2, M, x2, hM, hx, rfl, hw8, hk8⟩
          have HB8 := Lib.hid (HB4.out.trans (hk8.below HO.out))
          have hMe : M = (N1.filter fun p => decide (fr ≤ p.1)) ++ [(ts.length, fl ([].take 0) 0)] := by
            rw [hM, List.filter_append]
            congr 1
            rw [List.filter_cons_of_pos (by simp; omega)]
            rfl
          have hx2 : x2 = ts.length + 1 := by rw [hx, hMe, List.map_append, List.map_singleton, lastN_snoc]; rfl
          obtain ⟨mx, hmx⟩ : ∃ mx, mx = max k fr := ⟨_, rfl⟩
          have hT2 : flat (lg M x2 []) = ts.drop mx := by
            rw [lg_flat, List.append_nil, hMe, List.map_append, flat_append, List.map_singleton, HX4.out, flat_one, HN1.out, List.filter_filter]
            have e5 : ((nf ts).filter fun p => decide (fr ≤ p.1) && decide (k ≤ p.1)) = (nf ts).filter fun p => decide (mx ≤ p.1) := by
              congr 1
              funext p
              rw [← Bool.decide_and]
              congr 1
              rw [hmx]
              exact propext ⟨fun h => by omega, fun h => by omega⟩
            rw [e5, nf_drop, nf_flat ts mx HS0.out]
            simp
          have hml : mx ≤ ts.length := by omega
          have hmI : max (k : Int) (fr : Int) = (mx : Int) := by omega
          have hdm : (ts.drop mx).length = ts.length - mx := List.length_drop
          have hAl : ∀ w', Below w8.heap.size w8 w' → Calls Try.prog 14 #[.pointer (some ⟨l2, 0, none⟩)] w' fun e w'' => ∃ a cap, e = .returned (.slice a (ts.length - mx) cap) ∧ Rd w'' a (ts.drop mx) ∧ Below w'.heap.size w' w'' := fun w' hb => by
            have := wp_all (hw8.below hb) (by omega) (ts.drop mx) hT2
            rw [hdm] at this
            exact this
          have hLa : ∀ w', Below w8.heap.size w8 w' → Calls Try.prog 18 #[.pointer (some ⟨l2, 0, none⟩)] w' fun e w'' => e = .returned (.int .i64 ((ts.length : Int) + 1)) ∧ Below w'.heap.size w' w'' := fun w' hb => by
            have := wp_last (hw8.below hb)
            rw [hx2] at this
            exact this
          have HAl := Lib.hid hAl
          have HLa := Lib.hid hLa
          have HDM := Lib.hid hdm
          have HRm := Lib.hid fun w' (hb : Below w8.heap.size w8 w') => HRk.out mx w' (HB8.out.trans (hb.mono HB8.out.size))
          have hdl3 : ts.length - mx < 9223372036854775808 := by omega
          have hmi : (mx : Int) ≤ (ts.length : Int) := by omega
          have hmc : (mx : Int) ≤ (cap : Int) := by omega
          have hc5 : (mx : Int) < (cap : Int) := by have := HCC.out; omega
          have hc3 : ts.drop mx = [] := List.drop_of_length_le (by have := HCC.out; omega)
          have HD3 := Lib.hid hc3
          clear hM hx hw8 hk8 hMe hx2 hT2 hdm hAl hLa hmx
          try clear hc3
          clear hml
          go_wp2_with fail
          go_region_held3 (fun w' => Below w8.heap.size w8 w')
            (first | exact (Below.refl _ _).drew | assumption | exact bt (by assumption) (by assumption))
            (first
              | (go_at_call 14; (with_reducible refine (HAl.out _ ?_).mono ?_); (assumption); rintro e w' ⟨a', c', rfl, rr, bb⟩)
              | (go_at_call 15; refine (same_at _ _ _ _ _ _ (ts.drop mx) (ts.drop mx) true _ ?_ (.inl HD3.out) HDM.out HDM.out hdl3 (by simp)).mono ?_; (first | assumption | exact Rd.old (by assumption) (by assumption)); rintro e w' ⟨rfl, bb⟩)
              | (go_at_call 18; (with_reducible refine (HLa.out _ ?_).mono ?_); (assumption); rintro e w' ⟨rfl, bb⟩)
              | (go_at_call 9; refine (awake_any _).mono ?_; rintro e w' ⟨rfl, bb⟩))
          all_goals
            go_wp2
            go_ret
            exact ⟨rfl, HB8.out.trans ((by assumption : Below w8.heap.size w8 _).mono HB8.out.size)⟩
      · have hd0 : ts.drop k = [] := by rw [hc.1]; exact List.drop_length
        have HD0 := Lib.hid hd0
        have HCC := Lib.hid hc
        have hc2 : ¬ (k : Int) < (cap : Int) := by omega
        clear hd0 hc
        go_region_held3 (fun _ => True)
          (first | exact trivial | assumption)
          (first
            | (go_at_call 19; (with_reducible refine (D1'.out _ ((Below.refl _ _).drew)).mono ?_); rintro e w' ⟨rfl, hw', hk'⟩; have hB' := Below.trans hBw (hk'.below HO.out))
            | (go_at_call 14; refine (wp_all (by assumption) (by omega) (ts.drop k) HT1.out).mono ?_; rw [HDL.out]; rintro e w' ⟨a', c', rfl, rr, bb⟩; have hw2 := WP.below (by assumption) bb; have hB2 : Below w.heap.size w _ := bt (by assumption) bb)
            | (go_at_call 15; refine (same_at _ _ _ _ _ _ (ts.drop k) (ts.drop k) true _ (by assumption) (.inl HD0.out) HDL.out HDL.out hdl2 (by simp)).mono ?_; rintro e w' ⟨rfl, bb⟩; have hw2 := WP.below (by assumption) bb; have hB2 : Below w.heap.size w _ := bt (by assumption) bb)
            | (go_at_call 19; refine (wp_dropbig (by assumption) _ (by omega)).mono ?_; rintro e w' ⟨rfl, bb⟩; have hw2 := WP.below (by assumption) bb; have hB2 : Below w.heap.size w _ := bt (by assumption) bb)
            | (go_at_call 13; refine (wp_crash0 (by assumption) _).mono ?_; rintro e w' ⟨rfl, hd, hf, htx, hk'⟩; have hB4 : Below w.heap.size w _ := Below.trans (by assumption) (hk'.below HO.out)))
        all_goals
          have HD4 := Lib.hid (show DiskAt own _ (w.heap.size + 1) (calm (lf (N1 ++ [(ts.length, fl ([].take 0) 0)]))) from by assumption)
          have HF4 := Lib.hid (show Full _ (N1 ++ [(ts.length, fl ([].take 0) 0)]) from by assumption)
          have HX4 := Lib.hid (show txt (ts.length, fl ([].take 0) 0) = (ts.length, [].take 0) from by assumption)
          have HB4 := Lib.hid (show Below w.heap.size w _ from by assumption)
          repeat (first | clear hw2 | clear hB2 | clear bb | clear rr | clear hw' | clear hB' | clear hk' | clear hd | clear hf | clear htx | clear hB4)
          go_wp2_with fail
          refine (wp_open HD4.out HF4.out (by omega) fr (by omega)).mono ?_
          rintro e w8 ⟨l2, M, x2, hM, hx, rfl, hw8, hk8⟩
          have HB8 := Lib.hid (HB4.out.trans (hk8.below HO.out))
          have hMe : M = (N1.filter fun p => decide (fr ≤ p.1)) ++ [(ts.length, fl ([].take 0) 0)] := by
            rw [hM, List.filter_append]
            congr 1
            rw [List.filter_cons_of_pos (by simp; omega)]
            rfl
          have hx2 : x2 = ts.length + 1 := by rw [hx, hMe, List.map_append, List.map_singleton, lastN_snoc]; rfl
          obtain ⟨mx, hmx⟩ : ∃ mx, mx = max k fr := ⟨_, rfl⟩
          have hT2 : flat (lg M x2 []) = ts.drop mx := by
            rw [lg_flat, List.append_nil, hMe, List.map_append, flat_append, List.map_singleton, HX4.out, flat_one, HN1.out, List.filter_filter]
            have e5 : ((nf ts).filter fun p => decide (fr ≤ p.1) && decide (k ≤ p.1)) = (nf ts).filter fun p => decide (mx ≤ p.1) := by
              congr 1
              funext p
              rw [← Bool.decide_and]
              congr 1
              rw [hmx]
              exact propext ⟨fun h => by omega, fun h => by omega⟩
            rw [e5, nf_drop, nf_flat ts mx HS0.out]
            simp
          have hml : mx ≤ ts.length := by omega
          have hmI : max (k : Int) (fr : Int) = (mx : Int) := by omega
          have hdm : (ts.drop mx).length = ts.length - mx := List.length_drop
          have hAl : ∀ w', Below w8.heap.size w8 w' → Calls Try.prog 14 #[.pointer (some ⟨l2, 0, none⟩)] w' fun e w'' => ∃ a cap, e = .returned (.slice a (ts.length - mx) cap) ∧ Rd w'' a (ts.drop mx) ∧ Below w'.heap.size w' w'' := fun w' hb => by
            have := wp_all (hw8.below hb) (by omega) (ts.drop mx) hT2
            rw [hdm] at this
            exact this
          have hLa : ∀ w', Below w8.heap.size w8 w' → Calls Try.prog 18 #[.pointer (some ⟨l2, 0, none⟩)] w' fun e w'' => e = .returned (.int .i64 ((ts.length : Int) + 1)) ∧ Below w'.heap.size w' w'' := fun w' hb => by
            have := wp_last (hw8.below hb)
            rw [hx2] at this
            exact this
          have HAl := Lib.hid hAl
          have HLa := Lib.hid hLa
          have HDM := Lib.hid hdm
          have HRm := Lib.hid fun w' (hb : Below w8.heap.size w8 w') => HRk.out mx w' (HB8.out.trans (hb.mono HB8.out.size))
          have hdl3 : ts.length - mx < 9223372036854775808 := by omega
          have hmi : (mx : Int) ≤ (ts.length : Int) := by omega
          have hmc : (mx : Int) ≤ (cap : Int) := by omega
          have hc5 : ¬ (mx : Int) < (cap : Int) := by have := HCC.out; omega
          have hc3 : ts.drop mx = [] := List.drop_of_length_le (by have := HCC.out; omega)
          have HD3 := Lib.hid hc3
          clear hM hx hw8 hk8 hMe hx2 hT2 hdm hAl hLa hmx
          try clear hc3
          clear hml
          go_wp2_with fail
          go_region_held3 (fun w' => Below w8.heap.size w8 w')
            (first | exact (Below.refl _ _).drew | assumption | exact bt (by assumption) (by assumption))
            (first
              | (go_at_call 14; (with_reducible refine (HAl.out _ ?_).mono ?_); (assumption); rintro e w' ⟨a', c', rfl, rr, bb⟩)
              | (go_at_call 15; refine (same_at _ _ _ _ _ _ (ts.drop mx) (ts.drop mx) true _ ?_ (.inl HD3.out) HDM.out HDM.out hdl3 (by simp)).mono ?_; (first | assumption | exact Rd.old (by assumption) (by assumption)); rintro e w' ⟨rfl, bb⟩)
              | (go_at_call 18; (with_reducible refine (HLa.out _ ?_).mono ?_); (assumption); rintro e w' ⟨rfl, bb⟩)
              | (go_at_call 9; refine (awake_any _).mono ?_; rintro e w' ⟨rfl, bb⟩))
          all_goals
            go_wp2
            go_ret
            exact ⟨rfl, HB8.out.trans ((by assumption : Below w8.heap.size w8 _).mono HB8.out.size)⟩
theorem walk_WalDrops (a : Option Addr) (cap : Nat) (ts : List (List UInt8)) (x : Int) (hx : (Lit.int .i64 x).wf = true) (y : Int) (hy : (Lit.int .i64 y).wf = true) (w : World) (hr : Rd w a ts) (hl : ts.length ≤ maxLen) (hcap : ts.length ≤ cap) : Calls Try.prog 5 #[.slice a ts.length cap, .int .i64 x, .int .i64 y] w fun e w' => e = .returned (.bool true) ∧ Below w.heap.size w w' := by
  by_cases h : 20 < (ts.length : Int)
  · exact drops_e1 a cap ts x y w hl h
  · exact drops_main a cap ts x y w hr hcap (by omega)
end Go.Proofs.Ythikedhbjphmeaa
