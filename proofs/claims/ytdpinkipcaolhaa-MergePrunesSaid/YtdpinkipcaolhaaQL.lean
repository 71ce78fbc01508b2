/-
  Texts of mine as one, in the order in which they build: Mt, Mp. Conditions: as each says.
-/
import Derived.Test.YtdpinkipcaolhaaQK
import Derived.Sort.OwnSortedInts
namespace Go.Proofs.Ytdpinkipcaolhaa
open Go.RowKit Go.Shelf Go.Sort
set_option linter.unusedVariables false
set_option linter.unusedSimpArgs false
attribute [local go_sem] Oper.semAt_some

def PinAt (w : World) (b off : Nat) (zs : List Int) : Prop := ∀ i (h : i < zs.length), w.cell? ⟨b, off + i, none⟩ = some (.int .i64 zs[i])
def RdPin (w : World) (a : Option Addr) (zs : List Int) : Prop := zs = [] ∨ ∃ b off, a = some ⟨b, off, none⟩ ∧ b < w.heap.size ∧ PinAt w b off zs
theorem PinAt.old {w w' : World} {b off : Nat} {zs : List Int} (h : PinAt w b off zs) (hb : b < w.heap.size) (hw : Below w.heap.size w w') : PinAt w' b off zs := fun i hi => (hw.cell (p := ⟨b, off + i, none⟩) hb).trans (h i hi)
theorem RdPin.old {w w' : World} {a : Option Addr} {zs : List Int} (h : RdPin w a zs) (hw : Below w.heap.size w w') : RdPin w' a zs := by
  rcases h with h | ⟨b, off, h1, h2, h3⟩
  · exact .inl h
  · exact .inr ⟨b, off, h1, Nat.lt_of_lt_of_le h2 hw.size, h3.old h2 hw⟩
theorem RdPin.at_ {w : World} {a : Option Addr} {zs : List Int} (h : RdPin w a zs) : ∃ b off, (0 < zs.length → a = some ⟨b, off, none⟩) ∧ (0 < zs.length → b < w.heap.size) ∧ PinAt w b off zs := by
  rcases h with rfl | ⟨b, off, rfl, hb, hc⟩
  · exact ⟨0, 0, fun h => by simp at h, fun h => by simp at h, fun i hi => by simp at hi⟩
  · exact ⟨b, off, fun _ => rfl, fun _ => hb, hc⟩
def ValR (J Jx : List Int → World → Prop) (all : List Int) (e : Ending) (W' : World) : Prop := (∃ v, e = .returned v) ∧ ((∃ xs, xs = all ∧ J xs W') ∨ (∃ pre, pre <+: all ∧ Jx pre W'))
set_option maxRecDepth 100000 in
set_option maxHeartbeats 4000000 in
theorem vals_in (n l B b off N cap : Nat) (a : Option Addr) (zs : List Int) (W0 : World) (hN : N ≤ 100000) (hl : zs.length = N) (ha : 0 < N → a = some ⟨b, off, none⟩) (hb : 0 < N → b < W0.heap.size) (hc : PinAt W0 b off zs)
    (J Jx : List Int → World → Prop)
    (hY : ∀ pre x W1, J pre W1 → pre.length < zs.length → YieldAt Fence.wide (n - 1) Try.prog l #[.int .i64 x] W1 fun e W' =>
      (e = .returned (.bool true) ∧ J (pre ++ [x]) W' ∧ Below W0.heap.size W1 W') ∨ (e = .returned (.bool false) ∧ Jx (pre ++ [x]) W'))
    (W : World) (hW : Below W0.heap.size W0 W) (h1 : W.cell? ⟨B, 0, none⟩ = some (.slice a N cap)) (h0 : J [] W) :
    CallsIn Fence.wide n Try.prog 50 #[.func (.yield l) #[] #[], .pointer (some ⟨B, 0, none⟩)] W (ValR J Jx zs) := by
  have hB := cell_lt h1
  dsimp only at hB
  have HC := Lib.hid hc
  have HL := Lib.hid hl
  have H0 := Lib.hid h0
  have HW := Lib.hid hW
  have HY := Lib.hid hY
  clear hc hl h0 hW hY
  refine callsIn_of_wp Try.func50 rfl trivial ?_ rfl
  simp only [Try.ntmps50, List.size_toArray, List.length_cons, List.length_nil, Nat.reduceAdd, Nat.reduceSub, Array.replicate_succ, Array.replicate_zero, List.push_toArray, List.append_toArray, List.nil_append, List.cons_append]
  gi_wp2
  gi_loopw [7] (fun i wr => ∃ k : Nat, k ≤ N ∧ i = .int .i64 k ∧ Hid (J (zs.take k) wr) ∧ Hid (Below W0.heap.size W0 wr)) (fun i _ => N - (intOf i).toNat)
  case atStart => exact ⟨0, Nat.zero_le _, rfl, H0, HW⟩
  case round =>
    obtain ⟨k, hk, rfl, HJ, HWr⟩ := hrel
    by_cases hlt : k < N
    · have hki : (k : Int) < (N : Int) := by omega
      obtain rfl := ha (by omega)
      have hbw := hb (by omega)
      have hkl : k < zs.length := by rw [HL.out]; exact hlt
      have c0 := (HWr.out.cell (p := ⟨b, off + k, none⟩) hbw).trans (HC.out k hkl)
      have hbr : b < wr.heap.size := Nat.lt_of_lt_of_le hbw HWr.out.size
      have hsn := List.take_succ_eq_append_getElem hkl
      obtain ⟨x, hx⟩ : ∃ x, x = zs[k] := ⟨_, rfl⟩
      rw [← hx] at c0 hsn
      have HSN := Lib.hid hsn
      obtain ⟨fn, tmps, assign, body, hy, hR⟩ := HY.out (zs.take k) x wr HJ.out (by rw [List.length_take]; omega)
      clear hx hsn hkl
      gi_wp2
      refine ⟨fun h => absurd h (by decide), hR.mono ?_⟩
      rintro e W3 (⟨rfl, hJ3, hk3⟩ | ⟨rfl, hJx3⟩)
      · have HJ3 := Lib.hid hJ3
        have HW3 := Lib.hid (HWr.out.trans hk3)
        clear hJ3 hk3 hR
        gi_wp2
        go_roundw
        case rel => exact ⟨k + 1, hlt, by go_num, Lib.hid (by rw [HSN.out]; exact HJ3.out), HW3⟩
        case measure => simp [intOf]; omega
      · gi_wp2
        refine bodyPost_ret (results_none rfl _ _ _) rfl ?_
        exact ⟨⟨_, rfl⟩, .inr ⟨zs.take k ++ [x], by rw [← HSN.out]; exact List.take_prefix _ _, hJx3⟩⟩
    · obtain rfl : k = N := by omega
      gi_wp2
      refine bodyPost_ret (results_none rfl _ _ _) rfl ?_
      exact ⟨⟨_, rfl⟩, .inl ⟨_, rfl, by have := HJ.out; rw [← HL.out, List.take_length] at this; exact this⟩⟩
theorem vals_stops (n B b off N cap : Nat) (a : Option Addr) (zs : List Int) (W0 w : World) (hN : N ≤ 100000) (hl : zs.length = N) (ha : 0 < N → a = some ⟨b, off, none⟩) (hb : 0 < N → b < W0.heap.size) (hc : PinAt W0 b off zs)
    (hw : Below W0.heap.size W0 w) (h1 : w.cell? ⟨B, 0, none⟩ = some (.slice a N cap)) :
    SeqStopsK Fence.wide n Try.prog 50 #[.pointer (some ⟨B, 0, none⟩)] (fun x : Int => #[.int .i64 x]) (Below W0.heap.size) (fun ys => ys = zs) (fun pre => pre <+: zs) zs.length w := by
  intro l J Jx W hW hJ hJx hY h0
  have lt1 := cell_lt h1
  exact vals_in n l B b off N cap a zs W0 hN hl ha hb hc J Jx hY W (hw.trans (hW.mono hw.size)) ((hW.cell (p := ⟨B, 0, none⟩) lt1).trans h1) h0
theorem vals_any (v : Value) (hv : ∃ a n c, v = .slice a n c) (w : World) :
    Calls Try.prog 37 #[v] w fun e w' => e = .returned (.func (.func 50) #[] #[.pointer (some ⟨w.heap.size, 0, none⟩)]) ∧ w' = w.alloc (.cells #[v] 44) := by
  obtain ⟨a, n, c, rfl⟩ := hv
  go_enter Try.func37, Try.ntmps37
  go_wp2
  go_ret
  exact ⟨rfl, rfl⟩
theorem infoInt11 : (Try.prog.info? 3).map (fun i => (i.zero, i.size, i.bytes)) = some (some (.int .i64 0), 1, 8) := by kernel_rfl
def ivs (zs : List Int) : List Value := zs.map (Value.int .i64)
def IR (zs : List Int) (w : World) (e : Ending) (w' : World) : Prop := ∃ v, e = .returned v ∧ w'.ownsRow w.heap.size 3 1 v zs.length (ivs zs) ∧ Below w.heap.size w w'
set_option maxRecDepth 100000 in
set_option maxHeartbeats 4000000 in
theorem apps11_any (B b off N cap : Nat) (a : Option Addr) (zs : List Int) (w : World) (hN : N ≤ 100000) (hl : zs.length = N) (ha : 0 < N → a = some ⟨b, off, none⟩) (hb : 0 < N → b < w.heap.size) (hc : PinAt w b off zs) (h1 : w.cell? ⟨B, 0, none⟩ = some (.slice a N cap)) :
    Calls Try.prog 60 #[.slice none 0 0, .func (.func 50) #[] #[.pointer (some ⟨B, 0, none⟩)]] w (IR zs w) := by
  obtain ⟨i0, hi, hz0, hz1, hz2⟩ := info_parts infoInt11
  have HC := Lib.hid hc
  have HL := Lib.hid hl
  have HB := Lib.hid hb
  have HA := Lib.hid ha
  have hBl := cell_lt h1
  dsimp only at hBl
  have H1 := Lib.hid h1
  clear hc hl hb ha h1
  refine (callsIn_wide (n := 9)).1 ?_
  refine callsIn_of_wp_marks Try.func60 rfl trivial ?_ rfl
  simp only [Try.ntmps60, List.size_toArray, List.length_cons, List.length_nil, Nat.reduceAdd, Nat.reduceSub, Array.replicate_succ, Array.replicate_zero, List.push_toArray, List.append_toArray, List.nil_append, List.cons_append]
  gi_wp2
  have b0 : Boxed (w.alloc (.cells #[.slice none 0 0] 44)) (w.heap.size) 44 (.slice none 0 0) := by
    have h := Boxed.new w 44 (.slice none 0 0)
    exact h
  have hB : Below w.heap.size w (w.alloc (.cells #[.slice none 0 0] 44)) := (Below.refl _ w).alloc (Nat.le_refl _) _
  generalize (w.alloc (.cells #[.slice none 0 0] 44)) = W4 at *
  have hsz : w.heap.size + 0 < W4.heap.size := b0.lt
  have hst := vals_stops 8 B b off N cap a zs w W4 hN HL.out HA.out HB.out HC.out hB ((hB.cell (p := ⟨B, 0, none⟩) hBl).trans H1.out)
  refine wpIn_rangeFunc_ownG rfl (by decide) (gf := 50) (lb := #[.pointer (some ⟨B, 0, none⟩)]) rfl trivial (enters_of Try.func50 (by kernel_rfl) rfl)
    hst belowK_t (belowK_b (by omega)) (Below.refl _ _) (fun _ => rfl)
    (fun pre W => (∃ v, Boxed W w.heap.size 44 v ∧ W.ownsRow w.heap.size 3 1 v pre.length (ivs pre) ∧ True) ∧ Below w.heap.size w W)
    (fun c pre W => False)
    (OwnFrom.and (Own.from (holdsRow_own w.heap.size w.heap.size 44 3 1 (fun pre : List Int => pre.length) (fun pre => ivs pre) (fun pre v => True)) _) (ownFrom_below (Nat.le_refl _) (by omega)))
    (fun c => ownFrom_pure _ _)
    ⟨⟨_, b0, World.ownsRow_nil _ _ _ _, trivial⟩, hB⟩
    ?a1 ?assign ?body ?done ?stop
  case assign =>
    intro l x W K hK
    gi_wp2
    exact hK
  case body =>
    rintro l' pre x W ⟨⟨v, hv, hrow, -⟩, hBW⟩ hpl
    have hc1 := hv.cell
    have hpl2 : pre.length < 100000 := by have := HL.out; omega
    have HLEN := Lib.hid (show ivs pre ++ [Value.int .i64 x] = ivs (pre ++ [x]) by simp [ivs])
    gi_wp2_with (gi_at_builtin; refine wpListIn_append_own _ rfl _ _ 44 rfl w.heap.size 3 i0 (.int .i64 0) 1 8 Try.underlying44 hi hz0 hz1 hz2 rfl (by decide) _ _ _ rfl (hrow.alloc _) ⟨W.heap.size, 0, none⟩ 1 1 [.int .i64 x] rfl rfl (cell_one_new _ _ _) (by simp [Value.oneCell']) (by unfold maxLen; omega) (by omega) (by have := hBW.size; simp; omega) ?_; intro v' w1 hown' hgrow _; obtain ⟨g', cap', rfl⟩ := ownsRow_succ hown'; obtain ⟨hv1, hv2, hr2, hk2, hb2⟩ := hv.appended (by decide) hrow hBW.size (Nat.le_refl _) hown' hgrow; have hc1 := hv1.cell; have hf1 := hv1.frozen)
    refine ⟨hk2.from _, hb2, ⟨_, hv2, ?_, trivial⟩, hBW.trans hb2⟩
    rw [List.length_append, ← HLEN.out]
    exact hr2
  case done =>
    rintro D ys W hD hys ⟨⟨v, hv, hrow, -⟩, hBW⟩ hK
    have hc := hv.cell
    rw [show ys = zs from hys] at hrow
    obtain ⟨ra, rc, rfl⟩ := own_form hrow (by decide)
    have hr2 := Lib.hid (ownsRow_putObj hrow (.deferred none) hK rfl)
    have HBW := Lib.hid (hBW.trans (belowK_b (w := w) (Nat.le_refl _) W D _ (.deferred none) (by omega) hK rfl rfl))
    have hKK := hK
    clear hys hst hrow hBW
    gi_wp2
    refine ⟨by simp, .inl ⟨_, _, rfl, run_takeDeferred hKK, ?_⟩⟩
    refine ⟨_, results_tmp rfl _ _ _, ?_⟩
    exact ⟨_, rfl, hr2.out, HBW.out⟩
  case stop =>
    rintro D c pre W hD hs h hK
    exact h.elim
theorem coll11_any (B b off N cap : Nat) (a : Option Addr) (zs : List Int) (w : World) (hN : N ≤ 100000) (hl : zs.length = N) (ha : 0 < N → a = some ⟨b, off, none⟩) (hb : 0 < N → b < w.heap.size) (hc : PinAt w b off zs) (h1 : w.cell? ⟨B, 0, none⟩ = some (.slice a N cap)) :
    Calls Try.prog 48 #[.func (.func 50) #[] #[.pointer (some ⟨B, 0, none⟩)]] w (IR zs w) := by
  have HCC := Lib.hid (apps11_any B b off N cap a zs w hN hl ha hb hc h1)
  clear hl ha hb hc h1
  go_enter Try.func48, Try.ntmps48
  go_wp2_with fail
  refine HCC.out.mono ?_
  rintro e w1 ⟨v, rfl, hrow, hb⟩
  obtain ⟨ra, rc, rfl⟩ := own_form hrow (by decide)
  have HR := Lib.hid (And.intro hrow hb)
  clear hrow hb
  go_wp2_with fail
  go_ret
  exact ⟨_, rfl, HR.out.1, HR.out.2⟩
def srtI (zs : List Int) : List Int := zs.mergeSort fun x y => decide (x ≤ y)
theorem sorted11_any (B b off N cap : Nat) (a : Option Addr) (zs : List Int) (w : World) (hN : N ≤ 100000) (hl : zs.length = N) (ha : 0 < N → a = some ⟨b, off, none⟩) (hb : 0 < N → b < w.heap.size) (hc : PinAt w b off zs) (h1 : w.cell? ⟨B, 0, none⟩ = some (.slice a N cap)) :
    Calls Try.prog 36 #[.func (.func 50) #[] #[.pointer (some ⟨B, 0, none⟩)]] w (IR (srtI zs) w) := by
  have HCC := Lib.hid (coll11_any B b off N cap a zs w hN hl ha hb hc h1)
  have HN := Lib.hid (And.intro hN hl)
  clear hl ha hb hc h1
  go_enter Try.func36, Try.ntmps36
  go_wp2_with fail
  refine HCC.out.mono ?_
  rintro e w1 ⟨v, rfl, hrow, hb⟩
  rcases hrow.2 with ⟨rfl, hz⟩ | ⟨gb, gc, cur, rfl, hbase, hgb, r1, r2, r3, r4⟩
  · have hzs : zs = [] := List.eq_nil_of_length_eq_zero hz
    have HR := Lib.hid hb
    subst hzs
    clear hrow hb hz
    have HS := Lib.hid (fun W => AnyM.slices_Sort_int_none srt none 0 W)
    go_wp2_with fail
    refine (HS.out _).mono ?_
    rintro e w2 ⟨rfl, rfl⟩
    go_wp2_with fail
    go_ret
    exact ⟨_, rfl, by have := World.ownsRow_nil w2 w.heap.size 3 1; simpa [srtI, ivs] using this, HR.out⟩
  · have hH : Holds (Value.int .i64) w1 gb 0 zs.toArray := holds_of_blockI hgb (by simpa [ivs] using r4)
    have hgl : gb < w1.heap.size := (Array.getElem?_eq_some_iff.1 hgb).1
    have HS := Lib.hid (AnyM.slices_Sort_int srt gb 0 gc zs w1 hH hgl (by have := HN.out; omega))
    have HR := Lib.hid (And.intro hb (And.intro hbase (And.intro hgb (And.intro r1 (And.intro r2 r3)))))
    obtain ⟨zl, hzl⟩ : ∃ zl, zl = zs.length := ⟨_, rfl⟩
    rw [← hzl] at HS
    have HZ := Lib.hid hzl
    rw [← hzl]
    clear hrow hb hbase hgb r1 r2 r3 r4 hH hgl hzl
    go_wp2_with fail
    refine HS.out.mono ?_
    rintro e w2 ⟨rfl, nn, os, rfl⟩
    go_wp2_with fail
    go_ret
    obtain ⟨hb, hbase, hgb, r1, r2, r3⟩ := HR.out
    have hsl : (srtI zs).length = zs.length := List.length_mergeSort zs
    refine ⟨_, rfl, ?_, hb.grown (grownBy_sortedI _) hb.size (fun j hj => by cases hj; exact hbase)⟩
    rw [HZ.out, hsl]
    exact ownsRow_sortedI hsl hbase hgb r1 r2 r3
/-- How many numbers one is above. -/
def belN (ps : List Int) (q : Int) : Nat := ps.countP (· < q)
theorem belN_srt (ps : List Int) (q : Int) : belN (srtI ps) q = belN ps q := (List.mergeSort_perm ps _).countP_eq _
theorem srt_pw (ps : List Int) : (srtI ps).Pairwise (· ≤ ·) := by
  have h := List.pairwise_mergeSort (le := fun x y : Int => decide (x ≤ y)) (fun a b c h1 h2 => by simp only [decide_eq_true_eq] at *; omega) (fun a b => by simp only [Bool.or_eq_true, decide_eq_true_eq]; omega) ps
  exact h.imp (fun h => by simpa using h)
/-- What BinarySearch leaves: a number, and whether it is there. -/
def BSR (c : Nat) (w : World) (e : Ending) (w' : World) : Prop := ∃ f, e = .returned (.tuple #[.int .i64 (c : Nat), .bool f]) ∧ Below w.heap.size w w'
set_option maxHeartbeats 1000000 in
theorem bsr_none (a : Option Addr) (c : Nat) (x : Int) (w : World) : Calls Try.prog 39 #[.slice a 0 c, .int .i64 x] w (BSR 0 w) := by
  go_enter Try.func39, Try.ntmps39
  go_wp2
  refine wp_loop_rounds 1 ?_
  rw [rounds_succ]
  go_wp2
  go_ret2
  exact ⟨false, rfl, Below.refl _ _⟩
theorem bsr_any (a : Option Addr) (n c : Nat) (zs : List Int) (x : Int) (w : World) (hl : zs.length = n) (hn : n ≤ 100000) (hs : zs.Pairwise (· ≤ ·)) (hr : RdPin w a zs) :
    Calls Try.prog 39 #[.slice a n c, .int .i64 x] w (BSR (belN zs x) w) := by
  rcases hr with rfl | ⟨b, off, rfl, hb, hc⟩
  · subst hl
    exact bsr_none a c x w
  · have ht : zs.take n = zs := by rw [← hl, List.take_length]
    have h := AnyG.slices_BinarySearch_int bsr b off n c zs x w (by omega) (by omega) (fun j hj => by rw [hc j hj]; simp [List.getD, hj]) (by rw [ht]; exact hs)
    rw [ht] at h
    refine (show Calls Try.prog 39 _ _ _ from h).mono ?_
    rintro e w' ⟨rfl, q, rfl⟩
    exact ⟨_, rfl, below_drewN (Below.refl _ _) _⟩
set_option maxHeartbeats 1000000 in
theorem below11_any (e : Ent) (R n c : Nat) (a : Option Addr) (zs : List Int) (w : World) (hl : zs.length = n) (hn : n ≤ 100000) (hs : zs.Pairwise (· ≤ ·)) (hr : RdPin w a zs) (hc : w.cell? ⟨R, 0, none⟩ = some (.slice a n c)) :
    Calls Try.prog 38 #[evA e, .pointer (some ⟨R, 0, none⟩)] w fun x w' => x = .returned (.int .i64 (belN zs e.2.2.2 : Nat)) ∧ Below w.heap.size w w' := by
  obtain ⟨k, v, g, q⟩ := e
  have hR := cell_lt hc
  dsimp only at hR
  have CB := Lib.hid (fun W (h : Below w.heap.size w W) => bsr_any a n c zs q W hl hn hs (hr.old h))
  obtain ⟨r, hrr⟩ : ∃ r, belN zs q = r := ⟨_, rfl⟩
  rw [hrr] at CB
  simp only [hrr]
  clear hl hs hr hrr
  have hne : R ≠ w.heap.size := by omega
  go_enter Try.func38, Try.ntmps38
  go_wp2_with fail
  refine (CB.out _ ((Below.refl _ _).alloc (Nat.le_refl _) _)).mono ?_
  rintro e w1 ⟨f, rfl, b1⟩
  have HB := Lib.hid (((Below.refl _ _).alloc (Nat.le_refl _) (.cells #[.string k, .string v, .bool g, .int .i64 q] 37)).trans (b1.mono (by simp)))
  clear b1
  go_wp2_with fail
  go_ret
  exact ⟨rfl, HB.out⟩
end Go.Proofs.Ytdpinkipcaolhaa
namespace Go.Proofs.Ytdpinkipcaolhaa
open Go.RowKit Go.Shelf
set_option linter.unusedVariables false
set_option linter.unusedSimpArgs false
attribute [local go_sem] Oper.semAt_some

def kepR (ps : List Int) : Ent → List Ent → List Ent
  | _, [] => []
  | p, e :: r => (if belN ps e.2.2.2 < belN ps p.2.2.2 then [e] else []) ++ kepR ps e r
/-- Of one key's entries those that are kept, ahead of what is said of the last one. -/
def kepG (ps : List Int) : List Ent → List Ent
  | [] => []
  | e :: r => e :: kepR ps e r
theorem kepR_snoc (ps : List Int) : ∀ (l : List Ent) (p e : Ent), kepR ps p (l ++ [e]) = kepR ps p l ++ (if belN ps e.2.2.2 < belN ps (lastE p l).2.2.2 then [e] else [])
  | [], p, e => by
    simp only [kepR, List.append_nil, List.nil_append]
    rfl
  | x :: l, p, e => by
    have := kepR_snoc ps l x e
    simp only [List.cons_append, kepR, this, List.append_assoc]
    rfl
theorem kepR_le (ps : List Int) : ∀ (l : List Ent) (p : Ent), (kepR ps p l).length ≤ l.length
  | [], p => Nat.le_refl _
  | x :: l, p => by
    have := kepR_le ps l x
    simp only [kepR, List.length_append, List.length_cons]
    split <;> simp <;> omega
theorem kepG_le (ps : List Int) (g : List Ent) : (kepG ps g).length ≤ g.length := by
  cases g with
  | nil => exact Nat.le_refl _
  | cons e r => have := kepR_le ps r e; simp only [kepG, List.length_cons]; omega
theorem kepG_pos (ps : List Int) {g : List Ent} (h : 0 < g.length) : 0 < (kepG ps g).length := by
  cases g with
  | nil => cases h
  | cons e r => simp [kepG]
theorem lastE_take : ∀ (r : List Ent) (e : Ent) (k : Nat) (h : k < (e :: r).length), lastE e (r.take k) = (e :: r)[k]
  | r, e, 0, h => by simp [lastE]
  | [], e, k + 1, h => by simp at h
  | x :: r, e, k + 1, h => by
    have := lastE_take r x k (by simpa using h)
    simp only [List.take_succ_cons, lastE, this, List.getElem_cons_succ]
theorem kepG_first (ps : List Int) {g : List Ent} (h : 0 < g.length) : kepG ps (g.take 1) = [g[0]] := by
  cases g with
  | nil => cases h
  | cons e r => rfl
theorem kepG_next (ps : List Int) {g : List Ent} {k : Nat} (h : k + 1 < g.length) : kepG ps (g.take (k + 1 + 1)) = kepG ps (g.take (k + 1)) ++ (if belN ps g[k + 1].2.2.2 < belN ps (g[k]'(by omega)).2.2.2 then [g[k + 1]] else []) := by
  cases g with
  | nil => cases h
  | cons e r =>
    have hr : k < r.length := by simpa using h
    rw [List.take_succ_cons, List.take_succ_cons, List.take_succ_eq_append_getElem hr]
    simp only [kepG]
    rw [kepR_snoc, lastE_take r e k (by simp; omega)]
    simp
def pruG (ps : List Int) (bottom : Bool) (g : List Ent) : List Ent := match (kepG ps g).getLast? with
  | some e => if (bottom && e.2.2.1 && (belN ps e.2.2.2 == 0)) = true then (kepG ps g).dropLast else kepG ps g
  | none => []
def pruA (ps : List Int) (bottom : Bool) (xs : List (Nat × List Ent)) : List Ent := xs.flatMap fun x => pruG ps bottom x.2
theorem pruA_snoc (ps : List Int) (bottom : Bool) (xs : List (Nat × List Ent)) (x : Nat × List Ent) : pruA ps bottom (xs ++ [x]) = pruA ps bottom xs ++ pruG ps bottom x.2 := by simp [pruA]
theorem pruG_le (ps : List Int) (bottom : Bool) (g : List Ent) : (pruG ps bottom g).length ≤ g.length := by
  have := kepG_le ps g
  unfold pruG
  split
  · split
    · rw [List.length_dropLast]; omega
    · exact this
  · exact Nat.zero_le _
theorem pruA_le (ps : List Int) (bottom : Bool) (M : Nat) : ∀ (xs : List (Nat × List Ent)), (∀ x ∈ xs, x.2.length ≤ M) → (pruA ps bottom xs).length ≤ xs.length * M
  | [], _ => by simp [pruA]
  | x :: xs, h => by
    have h1 := pruG_le ps bottom x.2
    have h2 := pruA_le ps bottom M xs (fun y hy => h y (by simp [hy]))
    have h3 := h x (by simp)
    have e : pruA ps bottom (x :: xs) = pruG ps bottom x.2 ++ pruA ps bottom xs := rfl
    rw [e, List.length_append, List.length_cons, Nat.add_mul, Nat.one_mul]
    omega
theorem pruG_last (ps : List Int) (bottom : Bool) {g : List Ent} {m : Nat} (hm : m + 1 = (kepG ps g).length) : pruG ps bottom g = if (bottom && ((kepG ps g)[m]'(by omega)).2.2.1 && (belN ps ((kepG ps g)[m]'(by omega)).2.2.2 == 0)) = true then (kepG ps g).take m else kepG ps g := by
  have h1 : (kepG ps g).getLast? = some ((kepG ps g)[m]'(by omega)) := by
    have hm' : (kepG ps g).length - 1 = m := by omega
    rw [List.getLast?_eq_getElem?, hm', List.getElem?_eq_getElem (by omega)]
  have h2 : (kepG ps g).dropLast = (kepG ps g).take m := by rw [List.dropLast_eq_take, ← hm, Nat.add_sub_cancel]
  unfold pruG
  rw [h1, h2]
theorem ev4_take (es : List Ent) (m : Nat) : (ev4 es).take (m * 4) = ev4 (es.take m) := by
  induction es generalizing m with
  | nil => simp [ev4]
  | cons e es ih =>
    cases m with
    | zero => simp [ev4]
    | succ m =>
      have h1 : ev4 (e :: es) = ev e ++ ev4 es := rfl
      have h2 : ev4 (e :: es.take m) = ev e ++ ev4 (es.take m) := rfl
      have hl : (ev e).length = 4 := rfl
      rw [List.take_succ_cons, h1, h2, ← ih m, show (m + 1) * 4 = (ev e).length + m * 4 by rw [hl]; omega, List.take_length_add_append]
/-- A row cut by its last element. -/
theorem own_cut {w : World} {base m cap : Nat} {a : Option Addr} {es : List Ent} (h : w.ownsRow base 37 4 (.slice a (m + 1) cap) (m + 1) (ev4 es)) : w.ownsRow base 37 4 (.slice a m cap) m (ev4 (es.take m)) := by
  have h0 := h
  rcases h.2 with ⟨hv, hnil⟩ | ⟨g, c, cur, hv, hb, hh, h1, h2, h3, h4⟩
  · cases hv
  · cases hv
    refine ⟨?_, .inr ⟨g, _, cur, rfl, hb, hh, by omega, h2, h3, ?_⟩⟩
    · rw [← ev4_take, List.length_take, h0.1]; omega
    · rw [← ev4_take, ← h4, List.take_take, Nat.min_eq_left (Nat.mul_le_mul_right _ (by omega))]
theorem own_pin {w : World} {base n cap : Nat} {t : TypeId} {a : Option Addr} {zs : List Int} (h : w.ownsRow base t 1 (.slice a n cap) n (ivs zs)) (hn : zs.length = n) : RdPin w a zs := by
  subst hn
  by_cases h0 : zs = []
  · exact .inl h0
  · obtain ⟨g, hA⟩ : ∃ g, a = some ⟨g, 0, none⟩ := by
      rcases h.2 with ⟨_, hn⟩ | ⟨g, c, cur, hv, _⟩
      · exact absurd (List.length_eq_zero_iff.1 hn) h0
      · injection hv with hA
        exact ⟨g, hA⟩
    subst hA
    have hlt := (h.lt g rfl).2
    refine .inr ⟨g, 0, rfl, hlt, fun i hi => ?_⟩
    have c0 := h.cells (g := g) rfl i (.int .i64 zs[i]) (by simp [ivs, hi])
    have e' : ∀ j, (⟨g, 0, none⟩ : Addr).add j = ⟨g, 0 + j, none⟩ := by intro j; unfold Addr.add; split <;> simp_all
    rw [e'] at c0
    exact c0
set_option maxRecDepth 100000 in
set_option maxHeartbeats 8000000 in
theorem pru11_some (a : Option Addr) (n cap : Nat) (es : List Ent) (pa : Option Addr) (pn pc : Nat) (ps : List Int) (bottom : Bool) (b off : Nat) (w : World) (hnn : n ≤ 9223372036854775807) (hl : es.length = n) (hcap : n ≤ cap) (hcm : cap ≤ maxLen) (ha : 0 < n → a = some ⟨b, off, none⟩) (hb : 0 < n → b < w.heap.size) (hc : EAt w b off es) (hrd : RdE w a es) (hok : okV es)
    (hpl : ps.length = pn) (hpn : pn ≤ 100000) (hpr : RdPin w pa ps) :
    Calls Try.prog 23 #[.slice a n cap, .slice pa pn pc, .bool bottom] w (P1 (pruA ps bottom (allG es)) w) := by
  obtain ⟨i0, hi0, hz0, hz1, hz2⟩ := info_parts Try.infoEnt
  have HC := Lib.hid hc
  have HL := Lib.hid hl
  have HB := Lib.hid hb
  have HA := Lib.hid ha
  have HRD := Lib.hid hrd
  have HOK := Lib.hid hok
  have HN := Lib.hid (And.intro hnn (And.intro hcap hcm))
  have HP := Lib.hid (And.intro hpl (And.intro hpn hpr))
  clear hc hl hb ha hrd hok hnn hcap hcm hpl hpn hpr
  have HSO : Hid (∀ (B : Nat) (W : World), Below w.heap.size w W → W.cell? ⟨B, 0, none⟩ = some (.slice pa pn pc) → Calls Try.prog 36 #[.func (.func 50) #[] #[.pointer (some ⟨B, 0, none⟩)]] W (IR (srtI ps) W)) := Lib.hid (fun B W hb h1 => by
    obtain ⟨pb, po, e1, e2, e3⟩ := (HP.out.2.2.old hb).at_
    rw [HP.out.1] at e1 e2
    exact sorted11_any B pb po pn pc pa ps W HP.out.2.1 HP.out.1 e1 e2 e3 h1)
  refine (callsIn_wide (n := 9)).1 ?_
  refine callsIn_of_wp_marks Try.func23 rfl trivial ?_ rfl
  simp only [Try.ntmps23, List.size_toArray, List.length_cons, List.length_nil, Nat.reduceAdd, Nat.reduceSub, Array.replicate_succ, Array.replicate_zero, List.push_toArray, List.append_toArray, List.nil_append, List.cons_append]
  refine wpIn_wide.2 ?_
  go_wp2_with fail
  refine (vals_any _ ⟨_, _, _, rfl⟩ _).mono ?_
  rintro e w' ⟨rfl, rfl⟩
  go_wp2_with fail
  have hB1 : Below w.heap.size w ((w.alloc (.cells #[.bool bottom] 4)).alloc (.cells #[.slice pa pn pc] 44)) := ((Below.refl _ w).alloc (Nat.le_refl _) _).alloc (by simp) _
  have hbb : Boxed ((w.alloc (.cells #[.bool bottom] 4)).alloc (.cells #[.slice pa pn pc] 44)) w.heap.size 4 (.bool bottom) := (Boxed.new w _ _).alloc _
  refine (HSO.out _ _ hB1 (by simp [go_sem])).mono ?_
  rintro e W1 ⟨vr, rfl, hrr, hb1⟩
  have HBB := Lib.hid (boxed_below hbb hb1)
  have HB1 := Lib.hid (hB1.trans (hb1.mono hB1.size))
  have hw1 : w.heap.size + 2 ≤ W1.heap.size := by have := hb1.size; simpa using this
  obtain ⟨ra, rn, rc, rfl, hrn, hrp⟩ : ∃ ra rn rc, vr = .slice ra rn rc ∧ (srtI ps).length = rn ∧ RdPin W1 ra (srtI ps) := by
    obtain ⟨ra, rc, e1⟩ := own_form hrr (by decide)
    subst e1
    exact ⟨ra, _, rc, rfl, rfl, own_pin hrr rfl⟩
  have HRP := Lib.hid (And.intro hrn hrp)
  clear hbb hb1 hrr hrn hrp hB1 HSO
  go_wp2_with fail
  refine (keys_any _ ⟨_, _, _, rfl⟩ _).mono ?_
  rintro e w' ⟨rfl, rfl⟩
  go_wp2_with fail
  have b0 : Boxed ((((W1.alloc (.cells #[.slice ra rn rc] 44)).alloc (.cells #[.func (.func 38) #[] #[.pointer (some ⟨W1.heap.size, 0, none⟩)]] 65)).alloc (.cells #[.slice none 0 0] 22)).alloc (.cells #[.slice a n cap] 22)) (W1.heap.size) 44 (.slice ra rn rc) := by
    have h := Boxed.new W1 44 (.slice ra rn rc)
    exact ((h.alloc _).alloc _).alloc _
  have b1 : Boxed ((((W1.alloc (.cells #[.slice ra rn rc] 44)).alloc (.cells #[.func (.func 38) #[] #[.pointer (some ⟨W1.heap.size, 0, none⟩)]] 65)).alloc (.cells #[.slice none 0 0] 22)).alloc (.cells #[.slice a n cap] 22)) (W1.heap.size + 1) 65 (.func (.func 38) #[] #[.pointer (some ⟨W1.heap.size, 0, none⟩)]) := by
    have h := Boxed.new (W1.alloc (.cells #[.slice ra rn rc] 44)) 65 (.func (.func 38) #[] #[.pointer (some ⟨W1.heap.size, 0, none⟩)])
    rw [World.size_alloc] at h
    exact (h.alloc _).alloc _
  have b2 : Boxed ((((W1.alloc (.cells #[.slice ra rn rc] 44)).alloc (.cells #[.func (.func 38) #[] #[.pointer (some ⟨W1.heap.size, 0, none⟩)]] 65)).alloc (.cells #[.slice none 0 0] 22)).alloc (.cells #[.slice a n cap] 22)) (W1.heap.size + 2) 22 (.slice none 0 0) := by
    have h := Boxed.new ((W1.alloc (.cells #[.slice ra rn rc] 44)).alloc (.cells #[.func (.func 38) #[] #[.pointer (some ⟨W1.heap.size, 0, none⟩)]] 65)) 22 (.slice none 0 0)
    rw [World.size_alloc, World.size_alloc] at h
    exact h.alloc _
  have b3 : Boxed ((((W1.alloc (.cells #[.slice ra rn rc] 44)).alloc (.cells #[.func (.func 38) #[] #[.pointer (some ⟨W1.heap.size, 0, none⟩)]] 65)).alloc (.cells #[.slice none 0 0] 22)).alloc (.cells #[.slice a n cap] 22)) (W1.heap.size + 3) 22 (.slice a n cap) := by
    have h := Boxed.new (((W1.alloc (.cells #[.slice ra rn rc] 44)).alloc (.cells #[.func (.func 38) #[] #[.pointer (some ⟨W1.heap.size, 0, none⟩)]] 65)).alloc (.cells #[.slice none 0 0] 22)) 22 (.slice a n cap)
    rw [World.size_alloc, World.size_alloc, World.size_alloc] at h
    exact h
  have hB : Below W1.heap.size W1 ((((W1.alloc (.cells #[.slice ra rn rc] 44)).alloc (.cells #[.func (.func 38) #[] #[.pointer (some ⟨W1.heap.size, 0, none⟩)]] 65)).alloc (.cells #[.slice none 0 0] 22)).alloc (.cells #[.slice a n cap] 22)) := ((((Below.refl _ W1).alloc (Nat.le_refl _) _).alloc (by simp) _).alloc (by simp; omega) _).alloc (by simp; omega) _
  generalize ((((W1.alloc (.cells #[.slice ra rn rc] 44)).alloc (.cells #[.func (.func 38) #[] #[.pointer (some ⟨W1.heap.size, 0, none⟩)]] 65)).alloc (.cells #[.slice none 0 0] 22)).alloc (.cells #[.slice a n cap] 22)) = W4 at *
  have hsz : W1.heap.size + 3 < W4.heap.size := b3.lt
  have HF0 := Lib.hid HRP.out.1
  have hrn2 : rn ≤ 100000 := by rw [← HRP.out.1]; unfold srtI; rw [List.length_mergeSort, HP.out.1]; exact HP.out.2.1
  have HBW4 := Lib.hid (HB1.out.trans (hB.mono (by omega)))
  have hst := keys_stops 8 (W1.heap.size + 1 + 1 + 1) b off n cap a es w W4 HN.out.1 HL.out HN.out.2.1 HN.out.2.2 HA.out HB.out HC.out HRD.out HOK.out HBW4.out b3.cell
  refine (wpIn_wide (n := 9)).1 ?_
  refine wpIn_rangeFunc_ownG rfl (by decide) (gf := 47) (lb := #[.pointer (some ⟨W1.heap.size + 1 + 1 + 1, 0, none⟩)]) rfl trivial (enters_of Try.func47 (by kernel_rfl) rfl)
    hst belowK_t (belowK_b (by omega)) (Below.refl _ _) (fun _ => rfl)
    (fun pre W => (∃ v, Boxed W (W1.heap.size + 1 + 1) 22 v ∧ W.ownsRow W1.heap.size 37 4 v (pruA ps bottom (pre.map (·.1))).length (ev4 (pruA ps bottom (pre.map (·.1)))) ∧ True) ∧ (Boxed W W1.heap.size 44 (.slice ra rn rc) ∧ (Boxed W (W1.heap.size + 1) 65 (.func (.func 38) #[] #[.pointer (some ⟨W1.heap.size, 0, none⟩)]) ∧ Below W1.heap.size W1 W)))
    (fun c pre W => False)
    (OwnFrom.and (Own.from (holdsRow_own W1.heap.size (W1.heap.size + 1 + 1) 22 37 4 (fun pre : List (GrpOf es) => (pruA ps bottom (pre.map (·.1))).length) (fun pre => ev4 (pruA ps bottom (pre.map (·.1)))) (fun pre v => True)) _) (OwnFrom.and (Own.from (boxed_own W1.heap.size 44 (fun _ : List (GrpOf es) => .slice ra rn rc)) _) (OwnFrom.and (Own.from (boxed_own (W1.heap.size + 1) 65 (fun _ : List (GrpOf es) => .func (.func 38) #[] #[.pointer (some ⟨W1.heap.size, 0, none⟩)])) _) (ownFrom_below (Nat.le_refl _) (by omega)))))
    (fun c => ownFrom_pure _ _)
    ⟨⟨_, b2, World.ownsRow_nil _ _ _ _, trivial⟩, b0, b1, hB⟩
    ?a1 ?assign ?body ?done ?stop
  case assign =>
    intro l x W K hK
    unfold encG
    gi_wp2
    exact hK
  case body =>
    rintro l' pre x W ⟨⟨v, hv, hrow, -⟩, hvR, hvF, hBW⟩ hpl
    have HX := Lib.hid (grp_at HC.out x)
    have hsn := pruA_snoc ps bottom (pre.map (·.1)) x.1
    have hmp : (pre ++ [x]).map (·.1) = pre.map (·.1) ++ [x.1] := by simp
    rw [← hmp] at hsn
    have hal := allG_len es
    have hbw : b < w.heap.size := HB.out (by have h := x.2; have := HL.out; have h1 := h.1; have h2 := h.2.2.1; omega)
    have hes4 : es.length ≤ 4096 := by
      unfold allG at hpl
      split at hpl
      · rename_i h; exact (okB_iff.1 h).1
      · simp at hpl
    have hpn := pruA_le ps bottom 4096 (pre.map (·.1)) (fun y hy => by
      obtain ⟨z, hz, rfl⟩ := List.mem_map.1 hy
      have := z.2.1
      omega)
    rw [List.length_map] at hpn
    have hp4 : pre.length ≤ 4096 := by omega
    obtain ⟨m0, hm⟩ : ∃ m, m = (pruA ps bottom (pre.map (·.1))).length := ⟨_, rfl⟩
    have hm4 : m0 ≤ 16777216 := by have := Nat.mul_le_mul_right 4096 hp4; omega
    have HM := Lib.hid hm
    rw [← hm] at hrow
    obtain ⟨i, hi⟩ : ∃ i, i = x.1.1 := ⟨_, rfl⟩
    obtain ⟨g, hg⟩ : ∃ g, g = x.1.2 := ⟨_, rfl⟩
    obtain ⟨c, hcc⟩ : ∃ c, c = cap - i := ⟨_, rfl⟩
    have hg0 : 0 < g.length := by rw [hg]; exact x.2.2.2.1
    have hgm : g.length ≤ 4096 := by have := x.2.1; rw [← hg] at this; omega
    rw [← hi, ← hg] at HX
    rw [← hg] at hsn
    rw [← hi, ← hg, ← hcc]
    obtain ⟨o, ho⟩ : ∃ o, o = off + i * 4 := ⟨_, rfl⟩
    rw [← ho] at HX ⊢
    obtain ⟨gl, hgl⟩ : ∃ gl, gl = g.length := ⟨_, rfl⟩
    have HGL := Lib.hid hgl
    rw [← hgl] at hgm hg0 ⊢
    have hBw : Below w.heap.size w W := HB1.out.trans (hBW.mono (by omega))
    have HEA := Lib.hid (HX.out.old hbw hBw)
    have HSN := Lib.hid hsn
    have hbW : b < W.heap.size := Nat.lt_of_lt_of_le hbw hBw.size
    have hsW : W1.heap.size ≤ W.heap.size := hBW.size
    have HRW := Lib.hid (HRP.out.2.old hBW)
    have HBOT := Lib.hid (boxed_below HBB.out hBW)
    have HBWW := Lib.hid (And.intro hBW hBw)
    obtain ⟨out0, hout⟩ : ∃ out0, out0 = pruA ps bottom (pre.map (·.1)) := ⟨_, rfl⟩
    rw [← hout] at HSN HM hrow
    have HINI := Lib.hid (And.intro hv (And.intro hrow (And.intro hvR hvF)))
    clear hsn hmp hm hi hg hcc ho hgl HX hst hpl hpn hal hout hes4 hp4 hBW hBw hv hrow hvR hvF
    gi_wp2
    have hbW1 : b < W1.heap.size := by omega
    gi_loopw [11, 23] (fun u i wr => ∃ (k m : Nat) (v' : Value), i = .int .i64 k ∧ k ≤ gl ∧ m ≤ m0 + k ∧ Hid (m = (out0 ++ kepG ps (g.take k)).length ∧ Boxed wr (W1.heap.size + 1 + 1) 22 v' ∧ wr.ownsRow W1.heap.size 37 4 v' m (ev4 (out0 ++ kepG ps (g.take k))) ∧ Boxed wr W1.heap.size 44 (.slice ra rn rc) ∧ Boxed wr (W1.heap.size + 1) 65 (.func (.func 38) #[] #[.pointer (some ⟨W1.heap.size, 0, none⟩)])) ∧ Hid (Below W1.heap.size W wr ∧ KeepsOthers W wr)) (fun _ i _ => gl - (intOf i).toNat)
    case atStart => exact ⟨0, m0, v, rfl, by omega, by omega, Lib.hid ⟨by simpa [kepG] using HM.out, HINI.out.1, by simpa [kepG] using HINI.out.2.1, HINI.out.2.2.1, HINI.out.2.2.2⟩, Lib.hid ⟨Below.refl _ _, KeepsOthers.refl _⟩⟩
    case round =>
      obtain ⟨k, m, v', rfl, hk, hm, HS, HBR⟩ := hrel
      obtain ⟨-, hv, -, hvR, hvF⟩ := HS.out
      have hwr : W1.heap.size ≤ wr.heap.size := Nat.le_trans hsW HBR.out.1.size
      have hbr : b < wr.heap.size := by omega
      have hcv := hv.cell
      have hcR := hvR.cell
      have hcF := hvF.cell
      have hRl := hvR.lt
      have hFl := hvF.lt
      have hVl := hv.lt
      clear hv hvR hvF
      by_cases hlt : k < gl
      · have hki : (k : Int) < (gl : Int) := by omega
        have hkl : k < g.length := by rw [← HGL.out]; exact hlt
        have HER : Hid (EAt wr b o g) := Lib.hid (fun i hi => by
          have h := HEA.out i hi
          have q := HBR.out.1
          exact ⟨(q.cell (p := ⟨b, o + i * 4, none⟩) hbW1).trans h.1, (q.cell (p := ⟨b, o + i * 4 + 1, none⟩) hbW1).trans h.2.1, (q.cell (p := ⟨b, o + i * 4 + 2, none⟩) hbW1).trans h.2.2.1, (q.cell (p := ⟨b, o + i * 4 + 3, none⟩) hbW1).trans h.2.2.2⟩)
        obtain ⟨c0, c1, c2, c3⟩ := HER.out k hkl
        obtain ⟨E, hE⟩ : ∃ E, E = g[k] := ⟨_, rfl⟩
        rw [← hE] at c0 c1 c2 c3
        have HEE := Lib.hid (show ∀ h : k < g.length, E = g[k] from fun _ => hE)
        obtain ⟨ek, evl, eg, eq⟩ := E
        clear hE hkl
        gi_wp2
        have hbx : Below wr.heap.size wr (wr.alloc (.cells #[.string ek, .string evl, .bool eg, .int .i64 eq] 37)) := (Below.refl _ _).alloc (Nat.le_refl _) _
        have hex := EBox.new wr 37 ek evl eg eq
        obtain ⟨y, hy⟩ : ∃ y, y = wr.heap.size := ⟨_, rfl⟩
        rw [← hy] at hex ⊢
        have hyl : y < (wr.alloc (.cells #[.string ek, .string evl, .bool eg, .int .i64 eq] 37)).heap.size := by rw [hy]; simp
        clear hy
        generalize wr.alloc (.cells #[.string ek, .string evl, .bool eg, .int .i64 eq] 37) = X at *
        have HX0 := Lib.hid (And.intro hbx hex)
        obtain ⟨x0, x1, x2, x3, -⟩ := hex
        have c0 := (hbx.cell (p := ⟨b, o + k * 4, none⟩) hbr).trans c0
        have c1 := (hbx.cell (p := ⟨b, o + k * 4 + 1, none⟩) hbr).trans c1
        have c2 := (hbx.cell (p := ⟨b, o + k * 4 + 2, none⟩) hbr).trans c2
        have c3 := (hbx.cell (p := ⟨b, o + k * 4 + 3, none⟩) hbr).trans c3
        have hcF := (hbx.cell (p := ⟨W1.heap.size + 1, 0, none⟩) hFl).trans hcF
        have hcR := (hbx.cell (p := ⟨W1.heap.size, 0, none⟩) hRl).trans hcR
        have hsz := hbx.size
        have hbX : b < X.heap.size := by omega
        have hFX : W1.heap.size + 1 < X.heap.size := by omega
        have HRX := Lib.hid (HRP.out.2.old ((HBWW.out.1.trans HBR.out.1).trans (hbx.mono hwr)))
        clear hbx hcv
        by_cases h0 : k = 0
        · have hkz : ((k : Int) == 0) = true := by subst h0; rfl
          have HN2 : Hid (out0 ++ kepG ps (g.take (k + 1)) = (out0 ++ kepG ps (g.take k)) ++ [(ek, evl, eg, eq)]) := Lib.hid (by
            subst h0
            rw [HEE.out (by rw [← HGL.out]; exact hlt), show (0 : Nat) + 1 = 1 from rfl, kepG_first ps (by rw [← HGL.out]; exact hlt)]
            simp [kepG])
          clear h0
          refine round_below (by kernel_rfl) (by kernel_rfl) (by rfl) ?_
          repeat (first
            | go_big_quiet_skip
            | (go_big_quiet_want
               first
               | (refine BigFrame.quiet_move _ rfl ?_)
               | (refine BigFrame.quiet_assign _ rfl ?_)
               | (unfold Oper.quiet
                  apply Exists.intro
                  refine ⟨fun w' hw' => ?_, ?_⟩
                  · (obtain ⟨hc', hf'⟩ := bcell hw'
                     go_simp
                     first
                     | done
                     | exact rfl))
               go_big_quiet_on
               simp only [Act.put, Act.eval, List.setIfInBounds_toArray, List.set_cons_zero, List.set_cons_succ, Array.getD_eq_getD_getElem?, List.getElem?_toArray, List.getElem?_cons_zero, List.getElem?_cons_succ, Option.getD_some]))
          refine wpQuiet_nil ?_
          intro w' hw'
          have HW' := Lib.hid hw'
          have hV2 := Lib.hid (boxed_below (boxed_below HS.out.2.1 HX0.out.1) hw')
          have hR2 := Lib.hid (boxed_below (boxed_below HS.out.2.2.2.1 HX0.out.1) hw')
          have hF2 := Lib.hid (boxed_below (boxed_below HS.out.2.2.2.2 HX0.out.1) hw')
          have HRW2 := Lib.hid (below_own (below_own HS.out.2.2.1 HX0.out.1) hw')
          obtain ⟨y0, y1, y2, y3, hyw⟩ := HX0.out.2.below hw'
          have hcv := hV2.out.cell
          have hVw := hV2.out.lt
          have hsW' : W1.heap.size ≤ w'.heap.size := Nat.le_trans (Nat.le_trans hwr hsz) hw'.size
          clear hw' hcF hcR
          gi_wp2_with (gi_at_builtin; refine wpListIn_append_own _ rfl (.tmp 43) (.tmp 45) 22 rfl W1.heap.size 37 i0 (.agg #[.string ⟨#[]⟩, .string ⟨#[]⟩, .bool false, .int .i64 0]) 4 48 Try.underlying22 hi0 hz0 hz1 hz2 rfl (by decide) _ _ _ rfl (HRW2.out.alloc _) ⟨w'.heap.size, 0, none⟩ 1 1 (ev (ek, evl, eg, eq)) rfl rfl (cell_new4 _ _ _ _ _ _) (by intro u hu; simp [ev] at hu; rcases hu with rfl | rfl | rfl | rfl <;> rfl) (by unfold maxLen; omega) (by omega) (by simp; omega) ?_; intro v2 w3 hown3 hgrow _; obtain ⟨g', cap', rfl⟩ := own_form hown3 (by decide); obtain ⟨hv1, hv2, hr2, hk2, hb3⟩ := hV2.out.appended (by decide) HRW2.out hsW' (by omega) hown3 hgrow; have hc1 := hv1.cell; have hf1 := hv1.frozen)
          go_roundw
          case rel =>
            have r0 := ((hR2.out.alloc (.cells #[.string ek, .string evl, .bool eg, .int .i64 eq] 37)).kept hgrow (hR2.out.not_row (by decide) HRW2.out)).other (show W1.heap.size ≠ W1.heap.size + 1 + 1 by omega) (.slice g' (m + 1) cap')
            have r1 := ((hF2.out.alloc (.cells #[.string ek, .string evl, .bool eg, .int .i64 eq] 37)).kept hgrow (hF2.out.not_row (by decide) HRW2.out)).other (show W1.heap.size + 1 ≠ W1.heap.size + 1 + 1 by omega) (.slice g' (m + 1) cap')
            have q1 : Below wr.heap.size wr w' := HX0.out.1.trans (HW'.out.mono HX0.out.1.size)
            rw [ev4_snoc, ← HN2.out] at hr2
            exact ⟨k + 1, m + 1, _, by go_num, by omega, by omega, Lib.hid ⟨by rw [HN2.out, List.length_append, ← HS.out.1]; rfl, hv2, hr2, r0, r1⟩, Lib.hid ⟨(HBR.out.1.trans (q1.mono hwr)).trans hb3, (HBR.out.2.trans (keepsO_below q1)).trans hk2⟩⟩
          case measure => simp [intOf]; omega
        · obtain ⟨j, hj⟩ : ∃ j, k - 1 = j := ⟨_, rfl⟩
          have hkj : (k : Int) - 1 = (j : Int) := by omega
          have hjw : IntKind.i64.wrap (j : Int) = (j : Int) := i64_wrap_nat j (by omega)
          have hkz : ((k : Int) == 0) = false := by rw [beq_eq_false_iff_ne]; omega
          have hjg : (j : Int) < (gl : Int) := by omega
          have hjl : j < g.length := by rw [← HGL.out]; omega
          obtain ⟨d0, d1, d2, d3⟩ := HER.out j hjl
          have hnx := kepG_next ps (g := g) (k := j) (by rw [← HGL.out]; omega)
          have hj1 : j + 1 = k := by omega
          simp only [hj1] at hnx
          rw [← HEE.out (by rw [← HGL.out]; exact hlt)] at hnx
          obtain ⟨F, hF⟩ : ∃ F, F = g[j] := ⟨_, rfl⟩
          rw [← hF] at d0 d1 d2 d3 hnx
          obtain ⟨fk, fv, fg, fq⟩ := F
          have d0 := (HX0.out.1.cell (p := ⟨b, o + j * 4, none⟩) hbr).trans d0
          have d1 := (HX0.out.1.cell (p := ⟨b, o + j * 4 + 1, none⟩) hbr).trans d1
          have d2 := (HX0.out.1.cell (p := ⟨b, o + j * 4 + 2, none⟩) hbr).trans d2
          have d3 := (HX0.out.1.cell (p := ⟨b, o + j * 4 + 3, none⟩) hbr).trans d3
          obtain ⟨n1, hn1⟩ : ∃ n1, belN ps eq = n1 := ⟨_, rfl⟩
          obtain ⟨n2, hn2⟩ : ∃ n2, belN ps fq = n2 := ⟨_, rfl⟩
          have HB1' := Lib.hid (fun W' (h : Below X.heap.size X W') => below11_any (ek, evl, eg, eq) W1.heap.size rn rc ra (srtI ps) W' HRP.out.1 hrn2 (srt_pw ps) (HRX.out.old h) ((h.cell (p := ⟨W1.heap.size, 0, none⟩) (by show W1.heap.size < X.heap.size; omega)).trans hcR))
          have HB2' := Lib.hid (fun W' (h : Below X.heap.size X W') => below11_any (fk, fv, fg, fq) W1.heap.size rn rc ra (srtI ps) W' HRP.out.1 hrn2 (srt_pw ps) (HRX.out.old h) ((h.cell (p := ⟨W1.heap.size, 0, none⟩) (by show W1.heap.size < X.heap.size; omega)).trans hcR))
          simp only [belN_srt, hn1] at HB1'
          simp only [belN_srt, hn2] at HB2'
          simp only [hn1, hn2] at hnx
          have HNX := Lib.hid hnx
          clear hnx hF hn1 hn2 hj hjl hj1 h0
          by_cases h12 : n1 < n2
          · have h12i : (n1 : Int) < (n2 : Int) := by omega
            have HN2 : Hid (out0 ++ kepG ps (g.take (k + 1)) = (out0 ++ kepG ps (g.take k)) ++ [(ek, evl, eg, eq)]) := Lib.hid (by rw [HNX.out, if_pos h12, List.append_assoc])
            clear h12
            refine round_below (by kernel_rfl) (by kernel_rfl) (by rfl) ?_
            repeat (first
              | go_big_quiet_skip
              | (go_big_quiet_want
                 first
                 | (refine BigFrame.quiet_move _ rfl ?_)
                 | (refine BigFrame.quiet_assign _ rfl ?_)
                 | (unfold Oper.quiet
                    apply Exists.intro
                    refine ⟨fun w' hw' => ?_, ?_⟩
                    · (obtain ⟨hc', hf'⟩ := bcell hw'
                       go_simp
                       first
                       | done
                       | exact rfl
                       | (go_at_call 38; (with_reducible refine (HB1'.out _ hw').mono ?_); rintro e w'' ⟨rfl, bb⟩; exact ⟨rfl, by first | exact bt hw' bb | simpa using bt hw' bb⟩)
                       | (go_at_call 38; (with_reducible refine (HB2'.out _ hw').mono ?_); rintro e w'' ⟨rfl, bb⟩; exact ⟨rfl, by first | exact bt hw' bb | simpa using bt hw' bb⟩)))
                 go_big_quiet_on
                 simp only [Act.put, Act.eval, List.setIfInBounds_toArray, List.set_cons_zero, List.set_cons_succ, Array.getD_eq_getD_getElem?, List.getElem?_toArray, List.getElem?_cons_zero, List.getElem?_cons_succ, Option.getD_some]))
            refine wpQuiet_nil ?_
            intro w' hw'
            have HW' := Lib.hid hw'
            have hV2 := Lib.hid (boxed_below (boxed_below HS.out.2.1 HX0.out.1) hw')
            have hR2 := Lib.hid (boxed_below (boxed_below HS.out.2.2.2.1 HX0.out.1) hw')
            have hF2 := Lib.hid (boxed_below (boxed_below HS.out.2.2.2.2 HX0.out.1) hw')
            have HRW2 := Lib.hid (below_own (below_own HS.out.2.2.1 HX0.out.1) hw')
            obtain ⟨y0, y1, y2, y3, hyw⟩ := HX0.out.2.below hw'
            have hcv := hV2.out.cell
            have hVw := hV2.out.lt
            have hsW' : W1.heap.size ≤ w'.heap.size := Nat.le_trans (Nat.le_trans hwr hsz) hw'.size
            clear hw' hcF hcR
            gi_wp2_with (gi_at_builtin; refine wpListIn_append_own _ rfl (.tmp 43) (.tmp 45) 22 rfl W1.heap.size 37 i0 (.agg #[.string ⟨#[]⟩, .string ⟨#[]⟩, .bool false, .int .i64 0]) 4 48 Try.underlying22 hi0 hz0 hz1 hz2 rfl (by decide) _ _ _ rfl (HRW2.out.alloc _) ⟨w'.heap.size, 0, none⟩ 1 1 (ev (ek, evl, eg, eq)) rfl rfl (cell_new4 _ _ _ _ _ _) (by intro u hu; simp [ev] at hu; rcases hu with rfl | rfl | rfl | rfl <;> rfl) (by unfold maxLen; omega) (by omega) (by simp; omega) ?_; intro v2 w3 hown3 hgrow _; obtain ⟨g', cap', rfl⟩ := own_form hown3 (by decide); obtain ⟨hv1, hv2, hr2, hk2, hb3⟩ := hV2.out.appended (by decide) HRW2.out hsW' (by omega) hown3 hgrow; have hc1 := hv1.cell; have hf1 := hv1.frozen)
            go_roundw
            case rel =>
              have r0 := ((hR2.out.alloc (.cells #[.string ek, .string evl, .bool eg, .int .i64 eq] 37)).kept hgrow (hR2.out.not_row (by decide) HRW2.out)).other (show W1.heap.size ≠ W1.heap.size + 1 + 1 by omega) (.slice g' (m + 1) cap')
              have r1 := ((hF2.out.alloc (.cells #[.string ek, .string evl, .bool eg, .int .i64 eq] 37)).kept hgrow (hF2.out.not_row (by decide) HRW2.out)).other (show W1.heap.size + 1 ≠ W1.heap.size + 1 + 1 by omega) (.slice g' (m + 1) cap')
              have q1 : Below wr.heap.size wr w' := HX0.out.1.trans (HW'.out.mono HX0.out.1.size)
              rw [ev4_snoc, ← HN2.out] at hr2
              exact ⟨k + 1, m + 1, _, by go_num, by omega, by omega, Lib.hid ⟨by rw [HN2.out, List.length_append, ← HS.out.1]; rfl, hv2, hr2, r0, r1⟩, Lib.hid ⟨(HBR.out.1.trans (q1.mono hwr)).trans hb3, (HBR.out.2.trans (keepsO_below q1)).trans hk2⟩⟩
            case measure => simp [intOf]; omega
          · have h12i : ¬ (n1 : Int) < (n2 : Int) := by omega
            have HN2 : Hid (out0 ++ kepG ps (g.take (k + 1)) = out0 ++ kepG ps (g.take k)) := Lib.hid (by rw [HNX.out, if_neg h12, List.append_nil])
            clear h12
            refine round_below (by kernel_rfl) (by kernel_rfl) (by rfl) ?_
            repeat (first
              | go_big_quiet_skip
              | (go_big_quiet_want
                 first
                 | (refine BigFrame.quiet_move _ rfl ?_)
                 | (refine BigFrame.quiet_assign _ rfl ?_)
                 | (unfold Oper.quiet
                    apply Exists.intro
                    refine ⟨fun w' hw' => ?_, ?_⟩
                    · (obtain ⟨hc', hf'⟩ := bcell hw'
                       go_simp
                       first
                       | done
                       | exact rfl
                       | (go_at_call 38; (with_reducible refine (HB1'.out _ hw').mono ?_); rintro e w'' ⟨rfl, bb⟩; exact ⟨rfl, by first | exact bt hw' bb | simpa using bt hw' bb⟩)
                       | (go_at_call 38; (with_reducible refine (HB2'.out _ hw').mono ?_); rintro e w'' ⟨rfl, bb⟩; exact ⟨rfl, by first | exact bt hw' bb | simpa using bt hw' bb⟩)))
                 go_big_quiet_on
                 simp only [Act.put, Act.eval, List.setIfInBounds_toArray, List.set_cons_zero, List.set_cons_succ, Array.getD_eq_getD_getElem?, List.getElem?_toArray, List.getElem?_cons_zero, List.getElem?_cons_succ, Option.getD_some]))
            refine wpQuiet_nil ?_
            intro w' hw'
            have HW' := Lib.hid hw'
            have q1 := Lib.hid (show Below wr.heap.size wr w' from HX0.out.1.trans (HW'.out.mono HX0.out.1.size))
            clear hw' hcF hcR
            gi_wp2
            go_roundw
            case rel =>
              exact ⟨k + 1, m, v', by go_num, by omega, by omega, Lib.hid ⟨by rw [HN2.out]; exact HS.out.1, boxed_below HS.out.2.1 q1.out, by rw [HN2.out]; exact below_own HS.out.2.2.1 q1.out, boxed_below HS.out.2.2.2.1 q1.out, boxed_below HS.out.2.2.2.2 q1.out⟩, Lib.hid ⟨HBR.out.1.trans (q1.out.mono hwr), HBR.out.2.trans (keepsO_below q1.out)⟩⟩
            case measure => simp [intOf]; omega
      · obtain rfl : k = gl := by omega
        have htk : g.take k = g := by rw [HGL.out, List.take_length]
        rw [htk] at HS
        have hkp := kepG_pos ps (g := g) (by rw [← HGL.out]; exact hg0)
        obtain ⟨kl, hkl⟩ : ∃ kl, kl + 1 = (kepG ps g).length := ⟨(kepG ps g).length - 1, by omega⟩
        have hml : m = out0.length + kl + 1 := by have := HS.out.1; rw [List.length_append, ← hkl] at this; omega
        obtain ⟨ra2, rc2, hv2⟩ := own_form HS.out.2.2.1 (by decide)
        obtain ⟨a9, c9, e9, hse⟩ := own_se HS.out.2.2.1 HS.out.1.symm
        rw [hv2] at e9
        obtain ⟨rfl, rfl⟩ : ra2 = a9 ∧ rc2 = c9 := by simpa using e9
        obtain ⟨bk, ok2, e1, e2, e3⟩ := hse.2.1.at_
        rw [hse.1] at e1 e2
        obtain rfl := e1 (by omega)
        have hbk := e2 (by omega)
        have hmc : m ≤ rc2 := hse.2.2.1
        have hcm9 : rc2 ≤ maxLen := hse.2.2.2
        obtain ⟨mm, hmm⟩ : ∃ mm, mm = out0.length + kl := ⟨_, rfl⟩
        obtain ⟨f0, f1, f2, f3⟩ := e3 mm (by rw [hse.1]; omega)
        have hel : (out0 ++ kepG ps g)[mm]'(by rw [hse.1]; omega) = (kepG ps g)[kl]'(by omega) := by
          subst hmm
          rw [List.getElem_append_right (by omega)]
          congr 1
          omega
        rw [hel] at f0 f1 f2 f3
        have HLG := Lib.hid (pruG_last ps bottom hkl)
        obtain ⟨E, hE⟩ : ∃ E, E = (kepG ps g)[kl]'(by omega) := ⟨_, rfl⟩
        rw [← hE] at f0 f1 f2 f3 HLG
        obtain ⟨ek, evl, eg, eq⟩ := E
        have hmi : (m : Int) - 1 = (mm : Int) := by omega
        have hmw : IntKind.i64.wrap (mm : Int) = (mm : Int) := i64_wrap_nat mm (by omega)
        have hmlt : (mm : Int) < (m : Int) := by omega
        have HMM := Lib.hid (And.intro hml hmm)
        have HKL := Lib.hid hkl
        have hbot := (HBOT.out.cell)
        have HBC := Lib.hid ((HBR.out.1.cell (p := ⟨w.heap.size, 0, none⟩) (by show w.heap.size < W1.heap.size; omega)).trans hbot)
        have hbC := HBC.out
        have hwlt : w.heap.size < wr.heap.size := by omega
        have HV' := Lib.hid hv2
        subst hv2
        obtain ⟨n3, hn3⟩ : ∃ n3, belN ps eq = n3 := ⟨_, rfl⟩
        have HB3' := Lib.hid (fun W' (h : Below wr.heap.size wr W') => below11_any (ek, evl, eg, eq) W1.heap.size rn rc ra (srtI ps) W' HRP.out.1 hrn2 (srt_pw ps) (HRP.out.2.old (HBWW.out.1.trans (HBR.out.1.trans (h.mono hwr)))) ((h.cell (p := ⟨W1.heap.size, 0, none⟩) hRl).trans hcR))
        simp only [belN_srt, hn3] at HB3'
        simp only [hn3] at HLG
        clear hE hkp hkl hml hmm hse e1 e2 e3 hel hn3 htk hbot hcR
        cases bottom with
        | false =>
          have HFIN : Hid (pruA ps false ((pre ++ [x]).map (·.1)) = out0 ++ kepG ps g) := Lib.hid (by rw [HSN.out, HLG.out]; simp)
          gi_wp2
          refine ⟨fun _ h => (by cases h), ?_⟩
          have BZ : Below wr.heap.size wr (wr.alloc (.cells #[.string ek, .string evl, .bool eg, .int .i64 eq] 37)) := (Below.refl _ _).alloc (Nat.le_refl _) _
          have HZ := Lib.hid BZ
          clear BZ
          gi_wp2
          exact ⟨(HBR.out.2.trans (keepsO_below HZ.out)).from _, (HBR.out.1.trans (HZ.out.mono hwr)).mono (by omega), ⟨_, boxed_below HS.out.2.1 HZ.out, by rw [HFIN.out, ← HS.out.1]; exact below_own HS.out.2.2.1 HZ.out, trivial⟩, boxed_below HS.out.2.2.2.1 HZ.out, boxed_below HS.out.2.2.2.2 HZ.out, HBWW.out.1.trans (HBR.out.1.trans (HZ.out.mono hwr))⟩
        | true =>
          cases eg with
          | false =>
            have HFIN : Hid (pruA ps true ((pre ++ [x]).map (·.1)) = out0 ++ kepG ps g) := Lib.hid (by rw [HSN.out, HLG.out]; simp)
            gi_wp2
            refine ⟨fun _ h => (by cases h), ?_⟩
            have BZ : Below wr.heap.size wr (wr.alloc (.cells #[.string ek, .string evl, .bool false, .int .i64 eq] 37)) := (Below.refl _ _).alloc (Nat.le_refl _) _
            have HZ := Lib.hid BZ
            clear BZ
            gi_wp2
            exact ⟨(HBR.out.2.trans (keepsO_below HZ.out)).from _, (HBR.out.1.trans (HZ.out.mono hwr)).mono (by omega), ⟨_, boxed_below HS.out.2.1 HZ.out, by rw [HFIN.out, ← HS.out.1]; exact below_own HS.out.2.2.1 HZ.out, trivial⟩, boxed_below HS.out.2.2.2.1 HZ.out, boxed_below HS.out.2.2.2.2 HZ.out, HBWW.out.1.trans (HBR.out.1.trans (HZ.out.mono hwr))⟩
          | true =>
            have BX : Below wr.heap.size wr (wr.alloc (.cells #[.string ek, .string evl, .bool true, .int .i64 eq] 37)) := (Below.refl _ _).alloc (Nat.le_refl _) _
            have hcF2 := (BX.cell (p := ⟨W1.heap.size + 1, 0, none⟩) hFl).trans hcF
            by_cases h3 : n3 = 0
            · have h3z : ((n3 : Int) == 0) = true := by subst h3; rfl
              have HFIN : Hid (pruA ps true ((pre ++ [x]).map (·.1)) = (out0 ++ kepG ps g).take mm) := Lib.hid (by
                subst h3
                rw [HSN.out, HLG.out, if_pos (by simp), HMM.out.2, List.take_length_add_append])
              clear h3
              gi_wp2_with ((refine ⟨trivial, ?_⟩); gi_at_call 38; refine (((callsIn_wide.2 (HB3'.out _ BX)).inRound l')).mono ?_; rintro e w2 ⟨rfl, b2⟩; have hcv2 := (b2.cell (p := ⟨W1.heap.size + 1 + 1, 0, none⟩) (Nat.lt_of_lt_of_le hVl BX.size)).trans ((BX.cell (p := ⟨W1.heap.size + 1 + 1, 0, none⟩) hVl).trans hcv); have hcf2 := (boxed_below HS.out.2.1 (BX.trans (b2.mono BX.size))).frozen; have hvl2 := Nat.lt_of_lt_of_le (Nat.lt_of_lt_of_le hVl BX.size) b2.size)
              have BZ : Below wr.heap.size wr w2 := BX.trans (b2.mono BX.size)
              have HBZ := Lib.hid BZ
              have h1 := boxed_below HS.out.2.1 BZ
              have h2 := below_own HS.out.2.2.1 BZ
              have hm1 : m = mm + 1 := by have := HMM.out; omega
              have h4 := own_cut (by rw [← hm1]; exact h2)
              have h5 := h4.kept (grownBy_setCell' w2 (W1.heap.size + 1 + 1) (.slice (some ⟨bk, ok2, none⟩) mm rc2)) (.inr (h1.not_row (by decide) h4).symm)
              have h6 := (boxed_below HS.out.2.2.2.1 BZ).other (show W1.heap.size ≠ W1.heap.size + 1 + 1 by omega) (.slice (some ⟨bk, ok2, none⟩) mm rc2)
              have h7 := (boxed_below HS.out.2.2.2.2 BZ).other (show W1.heap.size + 1 ≠ W1.heap.size + 1 + 1 by omega) (.slice (some ⟨bk, ok2, none⟩) mm rc2)
              have q2 := ((HBR.out.1.trans (BZ.mono hwr)).setCell (p := ⟨W1.heap.size + 1 + 1, 0, none⟩) (by show W1.heap.size ≤ W1.heap.size + 1 + 1; omega) (.slice (some ⟨bk, ok2, none⟩) mm rc2))
              refine ⟨((HBR.out.2.trans (keepsO_below BZ)).trans (KeepsOthers.setCell _ _ _)).from _, q2.mono (by omega), ⟨_, h1.set _, ?_, trivial⟩, h6, h7, HBWW.out.1.trans q2⟩
              rw [HFIN.out]
              have hlen : ((out0 ++ kepG ps g).take mm).length = mm := by rw [List.length_take, ← HS.out.1]; omega
              rw [hlen]
              exact h5
            · have h3i : ((n3 : Int) == 0) = false := by rw [beq_eq_false_iff_ne]; omega
              have HFIN : Hid (pruA ps true ((pre ++ [x]).map (·.1)) = out0 ++ kepG ps g) := Lib.hid (by rw [HSN.out, HLG.out]; simp [h3])
              clear h3
              gi_wp2_with ((refine ⟨trivial, ?_⟩); gi_at_call 38; refine (((callsIn_wide.2 (HB3'.out _ BX)).inRound l')).mono ?_; rintro e w2 ⟨rfl, b2⟩)
              have BZ : Below wr.heap.size wr w2 := BX.trans (b2.mono BX.size)
              have HZ := Lib.hid BZ
              clear BZ
              gi_wp2
              exact ⟨(HBR.out.2.trans (keepsO_below HZ.out)).from _, (HBR.out.1.trans (HZ.out.mono hwr)).mono (by omega), ⟨_, boxed_below HS.out.2.1 HZ.out, by rw [HFIN.out, ← HS.out.1]; exact below_own HS.out.2.2.1 HZ.out, trivial⟩, boxed_below HS.out.2.2.2.1 HZ.out, boxed_below HS.out.2.2.2.2 HZ.out, HBWW.out.1.trans (HBR.out.1.trans (HZ.out.mono hwr))⟩
  case done =>
    rintro D ys W hD hys ⟨⟨v, hv, hrow, -⟩, hvR, hvF, hBW⟩ hK
    have hc := hv.cell
    rw [show ys.map (·.1) = allG es from hys] at hrow
    obtain ⟨ra, rc, rfl⟩ := own_form hrow (by decide)
    have hr2 := Lib.hid (ownsRow_putObj hrow (.deferred none) hK rfl)
    have HBW := Lib.hid (HB1.out.trans ((hBW.trans (belowK_b (w := W1) (Nat.le_refl _) W D _ (.deferred none) (by omega) hK rfl rfl)).mono (by omega)))
    have hKK := hK
    clear hys hst hrow hBW
    go_wp2_with fail
    refine ⟨by simp, .inl ⟨_, _, rfl, run_takeDeferred hKK, ?_⟩⟩
    refine ⟨_, results_tmp rfl _ _ _, ?_⟩
    obtain ⟨a', c', e1, e2⟩ := own_se hr2.out rfl
    cases e1
    exact ⟨_, _, _, rfl, e2, HBW.out⟩
  case stop =>
    rintro D c pre W hD hs h hK
    exact h.elim
theorem pru11_any (a : Option Addr) (n cap : Nat) (es : List Ent) (pa : Option Addr) (pn pc : Nat) (ps : List Int) (bottom : Bool) (w : World) (hnn : n ≤ 9223372036854775807) (hs : SE w a n cap es) (hok : okV es)
    (hpl : ps.length = pn) (hpn : pn ≤ 100000) (hpr : RdPin w pa ps) :
    Calls Try.prog 23 #[.slice a n cap, .slice pa pn pc, .bool bottom] w (P1 (pruA ps bottom (allG es)) w) := by
  obtain ⟨hl, hrd, hcap, hcm⟩ := hs
  obtain ⟨b, off, ha, hb, hc⟩ := hrd.at_
  rw [hl] at ha hb
  exact pru11_some a n cap es pa pn pc ps bottom b off w hnn hl hcap hcm ha hb hc hrd hok hpl hpn hpr
end Go.Proofs.Ytdpinkipcaolhaa
