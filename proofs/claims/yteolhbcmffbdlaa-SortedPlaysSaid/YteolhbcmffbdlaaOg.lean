/-
  Layer 7 (sorted): the contracts of Keys and First. Conditions: none.
-/
import Derived.Test.YteolhbcmffbdlaaOf
import Derived.Maps.AppendAt
namespace Go.Proofs.Yteolhbcmffbdlaa.TI
open Go.RowKit Go.Shelf
set_option linter.unusedVariables false
set_option linter.unusedSimpArgs false
attribute [local go_sem] Oper.semAt_some

/-- What From of a map goes over. -/
def Over (w : World) (p : Option Addr) (k : Ky) (g : List (Ky × Int)) : Prop := g.length < 1073741824 ∧ ∀ (n : Nat) (W : World) (B1 B2 : Nat), Below w.heap.size w W → W.cell? ⟨B1, 0, none⟩ = some (.pointer p) → W.cell? ⟨B2, 0, none⟩ = some (.string ⟨k.toArray⟩) →
  SeqStopsK Fence.wide n Try.prog 36 #[.pointer (some ⟨B1, 0, none⟩), .pointer (some ⟨B2, 0, none⟩)] encs (Below w.heap.size) (fun ys => ys = g) (fun pre => pre <+: g) g.length W
theorem over_map_any {w : World} {m : Nat} {l : List (Ky × Int)} (h : MapAt w m l) (k : Ky) : Over w (some ⟨m, 0, none⟩) k (fromA k l) :=
  ⟨Nat.lt_of_le_of_lt (List.length_filter_le _ _) h.len, fun n W B1 B2 hb h1 h2 => from_stops n m l k w W h hb B1 B2 h1 h2⟩
theorem over_nobody {w : World} {p : Option Addr} (h : Nobody w p) (k : Ky) : Over w p k [] :=
  ⟨by decide, fun n W B1 B2 hb h1 h2 => from_stops_none n p W (h.below hb) B1 B2 w.heap.size h1⟩
theorem infoStr : (Try.prog.info? 9).map (fun i => (i.zero, i.size, i.bytes)) = some (some (.string ⟨#[]⟩), 1, 16) := by kernel_rfl
/-- Keys that are handed back. -/
def KeysR (w : World) (ts : List Ky) (e : Ending) (w' : World) : Prop := ∃ a cap, e = .returned (.slice a ts.length cap) ∧ Below w.heap.size w w' ∧ Rd w' a ts ∧ ts.length ≤ cap
theorem own_cap {w : World} {base n cap : Nat} {t : TypeId} {a : Option Addr} {xs : List Value} (h : w.ownsRow base t 1 (.slice a n cap) n xs) : n ≤ cap := by
  rcases h.2 with ⟨hv, hnil⟩ | ⟨g, c, cur, hv, hbg, hh, h3⟩
  · cases hv; omega
  · cases hv; omega
theorem keysR_own {w w' : World} {ts : List Ky} {a : Option Addr} {cap n : Nat} (hn : n = ts.length) (h : w'.ownsRow w.heap.size 9 1 (.slice a n cap) n (sv ts)) (hb : Below w.heap.size w w') : KeysR w ts (.returned (.slice a n cap)) w' := by
  subst hn
  exact ⟨a, cap, rfl, hb, own_rd h, own_cap h⟩
theorem keysR_of {w w' : World} {g : List (Ky × Int)} {n : Int} {a : Option Addr} {cap : Nat} (hlt : (g.length : Int) < n) (h : w'.ownsRow w.heap.size 9 1 (.slice a g.length cap) g.length (sv (g.map (·.1)))) (hb : Below w.heap.size w w') : KeysR w ((g.map (·.1)).take n.toNat) (.returned (.slice a g.length cap)) w' := by
  rw [List.take_of_length_le (by simp; omega)]
  exact keysR_own (by simp) h hb
theorem keysR_cut {w w' : World} {g pre : List (Ky × Int)} {n : Int} {a : Option Addr} {cap : Nat} (hpre : pre <+: g) (hn : (pre.length : Int) = n) (h : w'.ownsRow w.heap.size 9 1 (.slice a pre.length cap) pre.length (sv (pre.map (·.1)))) (hb : Below w.heap.size w w') : KeysR w ((g.map (·.1)).take n.toNat) (.returned (.slice a pre.length cap)) w' := by
  have e : (g.map (·.1)).take n.toNat = pre.map (·.1) := by
    rw [← List.map_take, List.prefix_iff_eq_take.1 hpre]
    congr 1
    congr 1
    omega
  rw [e]
  exact keysR_own (by simp) h hb
set_option maxRecDepth 100000 in
set_option maxHeartbeats 2000000 in
theorem keys_over {w : World} {p : Option Addr} {g : List (Ky × Int)} (k : Ky) (h : Over w p k g) (n : Int) (hn : 1 ≤ n) (hn2 : n ≤ 9223372036854775807) :
    Calls Try.prog 17 #[.pointer p, .string ⟨k.toArray⟩, .int .i64 n] w (KeysR w ((g.map (·.1)).take n.toNat)) := by
  obtain ⟨i0, hi, hz0, hz1, hz2⟩ := info_parts infoStr
  have hgl := h.1
  have HM := Lib.hid h
  clear h
  refine (callsIn_wide (n := 9)).1 ?_
  refine callsIn_of_wp_marks Try.func17 rfl trivial ?_ rfl
  simp only [Try.ntmps17, List.size_toArray, List.length_cons, List.length_nil, Nat.reduceAdd, Nat.reduceSub, Array.replicate_succ, Array.replicate_zero, List.push_toArray, List.append_toArray, List.nil_append, List.cons_append]
  gi_wp2_with ((refine ⟨trivial, ?_⟩); gi_at_call 22; refine (callsIn_wide.2 (from_any _ k _)).mono ?_; rintro e w' ⟨rfl, rfl⟩)
  have b0 : Boxed ((((w.alloc (.cells #[.int .i64 n] 3)).alloc (.cells #[.slice none 0 0] 25)).alloc (.cells #[.pointer p] 23)).alloc (.cells #[.string ⟨k.toArray⟩] 9)) w.heap.size 3 (.int .i64 n) := (((Boxed.new w _ _).alloc _).alloc _).alloc _
  have b1 : Boxed ((((w.alloc (.cells #[.int .i64 n] 3)).alloc (.cells #[.slice none 0 0] 25)).alloc (.cells #[.pointer p] 23)).alloc (.cells #[.string ⟨k.toArray⟩] 9)) (w.heap.size + 1) 25 (.slice none 0 0) := by
    have h := Boxed.new (w.alloc (.cells #[.int .i64 n] 3)) 25 (.slice none 0 0)
    rw [World.size_alloc] at h
    exact (h.alloc _).alloc _
  have b2 : Boxed ((((w.alloc (.cells #[.int .i64 n] 3)).alloc (.cells #[.slice none 0 0] 25)).alloc (.cells #[.pointer p] 23)).alloc (.cells #[.string ⟨k.toArray⟩] 9)) (w.heap.size + 2) 23 (.pointer p) := by
    have h := Boxed.new ((w.alloc (.cells #[.int .i64 n] 3)).alloc (.cells #[.slice none 0 0] 25)) 23 (.pointer p)
    rw [World.size_alloc, World.size_alloc] at h
    exact h.alloc _
  have b3 : Boxed ((((w.alloc (.cells #[.int .i64 n] 3)).alloc (.cells #[.slice none 0 0] 25)).alloc (.cells #[.pointer p] 23)).alloc (.cells #[.string ⟨k.toArray⟩] 9)) (w.heap.size + 3) 9 (.string ⟨k.toArray⟩) := by
    have h := Boxed.new (((w.alloc (.cells #[.int .i64 n] 3)).alloc (.cells #[.slice none 0 0] 25)).alloc (.cells #[.pointer p] 23)) 9 (.string ⟨k.toArray⟩)
    rw [World.size_alloc, World.size_alloc, World.size_alloc] at h
    exact h
  have hB : Below w.heap.size w ((((w.alloc (.cells #[.int .i64 n] 3)).alloc (.cells #[.slice none 0 0] 25)).alloc (.cells #[.pointer p] 23)).alloc (.cells #[.string ⟨k.toArray⟩] 9)) := ((((Below.refl _ w).alloc (Nat.le_refl _) _).alloc (by simp) _).alloc (by simp; omega) _).alloc (by simp; omega) _
  generalize ((((w.alloc (.cells #[.int .i64 n] 3)).alloc (.cells #[.slice none 0 0] 25)).alloc (.cells #[.pointer p] 23)).alloc (.cells #[.string ⟨k.toArray⟩] 9)) = W4 at *
  have hsz : w.heap.size + 3 < W4.heap.size := b3.lt
  have hst := HM.out.2 8 W4 (w.heap.size + 1 + 1) (w.heap.size + 1 + 1 + 1) hB b2.cell b3.cell
  refine wpIn_rangeFunc_ownG rfl (by decide) (gf := 36) (lb := #[.pointer (some ⟨w.heap.size + 1 + 1, 0, none⟩), .pointer (some ⟨w.heap.size + 1 + 1 + 1, 0, none⟩)]) rfl trivial (enters_of Try.func36 (by kernel_rfl) rfl)
    hst belowK_t (belowK_b (by omega)) (Below.refl _ _) (fun _ => rfl)
    (fun pre W => (∃ v, Boxed W (w.heap.size + 1) 25 v ∧ W.ownsRow w.heap.size 9 1 v pre.length (sv (pre.map (·.1))) ∧ (pre.length : Int) < n) ∧ (Boxed W w.heap.size 3 (.int .i64 n) ∧ Below w.heap.size w W))
    (fun c pre W => c = .exit 0 ∧ ((∃ v, Boxed W (w.heap.size + 1) 25 v ∧ W.ownsRow w.heap.size 9 1 v pre.length (sv (pre.map (·.1))) ∧ (pre.length : Int) = n) ∧ Below w.heap.size w W))
    (OwnFrom.and (Own.from (holdsRow_own w.heap.size (w.heap.size + 1) 25 9 1 (fun pre : List (Ky × Int) => pre.length) (fun pre => sv (pre.map (·.1))) (fun pre v => (pre.length : Int) < n)) _) (OwnFrom.and (Own.from (boxed_own w.heap.size 3 (fun _ : List (Ky × Int) => .int .i64 n)) _) (ownFrom_below (Nat.le_refl _) (by omega))))
    (fun c => OwnFrom.and (ownFrom_pure _ _) (OwnFrom.and (Own.from (holdsRow_own w.heap.size (w.heap.size + 1) 25 9 1 (fun pre : List (Ky × Int) => pre.length) (fun pre => sv (pre.map (·.1))) (fun pre v => (pre.length : Int) = n)) _) (ownFrom_below (Nat.le_refl _) (by omega))))
    ⟨⟨_, b1, World.ownsRow_nil _ _ _ _, by simp; omega⟩, b0, hB⟩
    (fun x => { tmps := #[.pointer p, .string ⟨k.toArray⟩, .int .i64 n, undef, undef, .pointer (some ⟨w.heap.size, 0, none⟩), .slice none 0 0, .pointer (some ⟨w.heap.size + 1, 0, none⟩), .string ⟨x.1.toArray⟩, .int .i64 n, .bool (decide (n < 1)), .pointer p, .string ⟨k.toArray⟩, .func (.func 36) #[] #[.pointer (some ⟨w.heap.size + 1 + 1, 0, none⟩), .pointer (some ⟨w.heap.size + 1 + 1 + 1, 0, none⟩)], .string ⟨x.1.toArray⟩, .int .i64 x.2, undef, undef, undef, undef, undef, undef, undef, undef, undef], defers := [] }) ?assign ?body ?done ?stop
  case assign =>
    intro l x W K hK
    unfold encs
    gi_wp2
    exact hK
  case body =>
    rintro l' pre x W ⟨⟨v, hv, hrow, hlt⟩, hv0, hBW⟩ hpl
    have hc := hv.cell
    have hc0 := hv0.cell
    have hlen : sv (pre.map (·.1)) ++ [Value.string ⟨x.1.toArray⟩] = sv ((pre ++ [x]).map (·.1)) := by rw [sv_snoc]; simp
    have HLEN := Lib.hid hlen
    clear hlen
    cases hq : ((pre.length : Int) + 1 == n) with
    | false =>
      have hlt2 : (pre.length : Int) + 1 < n := by
        have : ¬ (pre.length : Int) + 1 = n := by simpa using hq
        omega
      gi_wp2_with (gi_at_builtin; refine wpListIn_append_own _ rfl _ _ 25 rfl w.heap.size 9 i0 (.string ⟨#[]⟩) 1 16 Try.underlying25 hi hz0 hz1 hz2 rfl (by decide) _ _ _ rfl (hrow.alloc _) ⟨W.heap.size, 0, none⟩ 1 1 [.string ⟨x.1.toArray⟩] rfl rfl (cell_one_new _ _ _) (by simp [Value.oneCell']) (by unfold maxLen; omega) (by omega) (by have := hBW.size; simp; omega) ?_; intro v' w1 hown' hgrow _; obtain ⟨g', cap', rfl⟩ := ownsRow_succ hown'; obtain ⟨hv1, hv2, hr2, hk2, hb2⟩ := hv.appended (by decide) hrow hBW.size (by omega) hown' hgrow; have hi1 := (hv0.alloc _).kept hgrow (hv0.not_row (by decide) hrow); have hc1 := hv1.cell; have hf1 := hv1.frozen; have hc2 := hi1.cell)
      refine ⟨hk2.from _, hb2, ⟨_, hv2, ?_, by simpa using hlt2⟩, hi1.other (by omega) _, hBW.trans hb2⟩
      rw [List.length_append, ← HLEN.out]
      exact hr2
    | true =>
      have heq : (pre.length : Int) + 1 = n := by simpa using hq
      have HEQ := Lib.hid heq
      clear heq
      gi_wp2_with (gi_at_builtin; refine wpListIn_append_own _ rfl _ _ 25 rfl w.heap.size 9 i0 (.string ⟨#[]⟩) 1 16 Try.underlying25 hi hz0 hz1 hz2 rfl (by decide) _ _ _ rfl (hrow.alloc _) ⟨W.heap.size, 0, none⟩ 1 1 [.string ⟨x.1.toArray⟩] rfl rfl (cell_one_new _ _ _) (by simp [Value.oneCell']) (by unfold maxLen; omega) (by omega) (by have := hBW.size; simp; omega) ?_; intro v' w1 hown' hgrow _; obtain ⟨g', cap', rfl⟩ := ownsRow_succ hown'; obtain ⟨hv1, hv2, hr2, hk2, hb2⟩ := hv.appended (by decide) hrow hBW.size (by omega) hown' hgrow; have hi1 := (hv0.alloc _).kept hgrow (hv0.not_row (by decide) hrow); have hc1 := hv1.cell; have hf1 := hv1.frozen; have hc2 := hi1.cell)
      refine ⟨hk2.from _, rfl, ⟨_, hv2, ?_, by have := HEQ.out; simpa using this⟩, hBW.trans hb2⟩
      rw [List.length_append, ← HLEN.out]
      exact hr2
  case done =>
    rintro D ys W hD hys ⟨⟨v, hv, hrow, hlt⟩, hv0, hBW⟩ hK
    have hc := hv.cell
    have HYS := Lib.hid hys
    clear hys hst
    gi_wp2
    refine ⟨by simp, .inl ⟨_, _, rfl, run_takeDeferred hK, ?_⟩⟩
    obtain ⟨a, cap, rfl⟩ := own_slice hrow
    have hr2 := ownsRow_putObj hrow (.deferred none) hK rfl
    have hB2 := hBW.trans (belowK_b (w := w) (Nat.le_refl _) W D _ (.deferred none) (by omega) hK rfl rfl)
    obtain rfl := HYS.out
    refine ⟨_, results_tmp rfl _ _ _, ?_⟩
    exact keysR_of hlt hr2 hB2
  case stop =>
    rintro D c pre W hD hpre ⟨rfl, ⟨v, hv, hrow, hlt⟩, hBW⟩ hK
    have hc := hv.cell
    have HPRE := Lib.hid hpre
    have HLT := Lib.hid hlt
    clear hpre hst hlt
    gi_wp2
    refine ⟨by simp, .inl ⟨_, _, rfl, run_takeDeferred hK, ?_⟩⟩
    obtain ⟨a, cap, rfl⟩ := own_slice hrow
    have hr2 := ownsRow_putObj hrow (.deferred none) hK rfl
    have hB2 := hBW.trans (belowK_b (w := w) (Nat.le_refl _) W D _ (.deferred none) (by omega) hK rfl rfl)
    refine ⟨_, results_tmp rfl _ _ _, ?_⟩
    exact keysR_cut HPRE.out HLT.out hr2 hB2
theorem keys_few {w : World} (p : Value) (k : Ky) (n : Int) (hn : n < 1) (hn2 : -9223372036854775808 ≤ n) :
    Calls Try.prog 17 #[p, .string ⟨k.toArray⟩, .int .i64 n] w (KeysR w []) := by
  refine (callsIn_wide (n := 9)).1 ?_
  refine callsIn_of_wp_marks Try.func17 rfl trivial ?_ rfl
  simp only [Try.ntmps17, List.size_toArray, List.length_cons, List.length_nil, Nat.reduceAdd, Nat.reduceSub, Array.replicate_succ, Array.replicate_zero, List.push_toArray, List.append_toArray, List.nil_append, List.cons_append]
  gi_wp2
  refine ⟨_, results_tmp rfl _ _ _, ?_⟩
  exact ⟨none, 0, rfl, (Below.refl _ _).alloc (Nat.le_refl _) _, .inl rfl, Nat.le_refl _⟩
/-- A first key, if there is one. -/
def firstK (g : List (Ky × Int)) : Ky := match g with | [] => [] | x :: _ => x.1
theorem box_put {W : World} {B : Nat} {t : TypeId} {v : Value} (h : Boxed W B t v) {D : Nat} (hK : W.heap[D]? = some (.deferred (some []))) : Boxed (W.putObj D (.deferred none)) B t v :=
  h.kept (grownBy_putObj' W D (.deferred none)) (fun e => by cases e; rw [show W.heap[B]? = _ from h] at hK; cases hK)
theorem firstR_of {w W : World} {D : Nat} {k k2 : Ky} {b b2 : Bool} {p : Value} {tmps : Array Value} (h0 : Boxed W w.heap.size 9 (.string ⟨k.toArray⟩)) (h1 : Boxed W (w.heap.size + 1) 4 (.bool b)) (hK : W.heap[D]? = some (.deferred (some []))) (hD : w.heap.size + 1 < D) (hk : k2 = k) (hb : b2 = b) (hB : Below w.heap.size w (W.putObj D (.deferred none))) {t4 t5 t6 t7 t8 t9 : Value} (ht : tmps = #[p, undef, .pointer (some ⟨w.heap.size, 0, none⟩), .pointer (some ⟨w.heap.size + 1, 0, none⟩), t4, t5, t6, t7, t8, t9] := by rfl) :
    LeavesInM Fence.wide 9 Try.prog Try.f19 tmps (fun e w' => e = .returned (.tuple #[.string ⟨k2.toArray⟩, .bool b2]) ∧ Below w.heap.size w w') [] .returning (W.putObj D (.deferred none)) := by
  subst hk hb ht
  have c0 := (box_put h0 hK).cell
  have c1 := (box_put h1 hK).cell
  refine ⟨.tuple #[.string ⟨k2.toArray⟩, .bool b2], ?_, rfl, hB⟩
  simp [results, Try.f19, go_sem, c0, c1]
set_option maxRecDepth 100000 in
set_option maxHeartbeats 2000000 in
theorem first_over {w : World} {p : Option Addr} {g : List (Ky × Int)} (h : Over w p [] g) :
    Calls Try.prog 19 #[.pointer p] w fun e w' => e = .returned (.tuple #[.string ⟨(firstK g).toArray⟩, .bool (!g.isEmpty)]) ∧ Below w.heap.size w w' := by
  have HM := Lib.hid h
  clear h
  refine (callsIn_wide (n := 9)).1 ?_
  refine callsIn_of_wp_marks Try.func19 rfl trivial ?_ rfl
  simp only [Try.ntmps19, List.size_toArray, List.length_cons, List.length_nil, Nat.reduceAdd, Nat.reduceSub, Array.replicate_succ, Array.replicate_zero, List.push_toArray, List.append_toArray, List.nil_append, List.cons_append]
  gi_wp2_with ((refine ⟨trivial, ?_⟩); gi_at_call 22; refine (callsIn_wide.2 (from_any p [] _)).mono ?_; rintro e w' ⟨rfl, rfl⟩)
  have b0 : Boxed ((((w.alloc (.cells #[.string ⟨#[]⟩] 9)).alloc (.cells #[.bool false] 4)).alloc (.cells #[.pointer p] 23)).alloc (.cells #[.string ⟨#[]⟩] 9)) w.heap.size 9 (.string ⟨#[]⟩) := (((Boxed.new w _ _).alloc _).alloc _).alloc _
  have b1 : Boxed ((((w.alloc (.cells #[.string ⟨#[]⟩] 9)).alloc (.cells #[.bool false] 4)).alloc (.cells #[.pointer p] 23)).alloc (.cells #[.string ⟨#[]⟩] 9)) (w.heap.size + 1) 4 (.bool false) := by
    have h := Boxed.new (w.alloc (.cells #[.string ⟨#[]⟩] 9)) 4 (.bool false)
    rw [World.size_alloc] at h
    exact (h.alloc _).alloc _
  have b2 : Boxed ((((w.alloc (.cells #[.string ⟨#[]⟩] 9)).alloc (.cells #[.bool false] 4)).alloc (.cells #[.pointer p] 23)).alloc (.cells #[.string ⟨#[]⟩] 9)) (w.heap.size + 2) 23 (.pointer p) := by
    have h := Boxed.new ((w.alloc (.cells #[.string ⟨#[]⟩] 9)).alloc (.cells #[.bool false] 4)) 23 (.pointer p)
    rw [World.size_alloc, World.size_alloc] at h
    exact h.alloc _
  have b3 : Boxed ((((w.alloc (.cells #[.string ⟨#[]⟩] 9)).alloc (.cells #[.bool false] 4)).alloc (.cells #[.pointer p] 23)).alloc (.cells #[.string ⟨#[]⟩] 9)) (w.heap.size + 3) 9 (.string ⟨#[]⟩) := by
    have h := Boxed.new (((w.alloc (.cells #[.string ⟨#[]⟩] 9)).alloc (.cells #[.bool false] 4)).alloc (.cells #[.pointer p] 23)) 9 (.string ⟨#[]⟩)
    rw [World.size_alloc, World.size_alloc, World.size_alloc] at h
    exact h
  have hB : Below w.heap.size w ((((w.alloc (.cells #[.string ⟨#[]⟩] 9)).alloc (.cells #[.bool false] 4)).alloc (.cells #[.pointer p] 23)).alloc (.cells #[.string ⟨#[]⟩] 9)) := ((((Below.refl _ w).alloc (Nat.le_refl _) _).alloc (by simp) _).alloc (by simp; omega) _).alloc (by simp; omega) _
  generalize ((((w.alloc (.cells #[.string ⟨#[]⟩] 9)).alloc (.cells #[.bool false] 4)).alloc (.cells #[.pointer p] 23)).alloc (.cells #[.string ⟨#[]⟩] 9)) = W4 at *
  have hsz : w.heap.size + 3 < W4.heap.size := b3.lt
  have hst := HM.out.2 8 W4 (w.heap.size + 1 + 1) (w.heap.size + 1 + 1 + 1) hB b2.cell b3.cell
  refine wpIn_rangeFunc_ownG rfl (by decide) (gf := 36) (lb := #[.pointer (some ⟨w.heap.size + 1 + 1, 0, none⟩), .pointer (some ⟨w.heap.size + 1 + 1 + 1, 0, none⟩)]) rfl trivial (enters_of Try.func36 (by kernel_rfl) rfl)
    hst belowK_t (belowK_b (by omega)) (Below.refl _ _) (fun _ => rfl)
    (fun pre W => pre = [] ∧ Boxed W w.heap.size 9 (.string ⟨#[]⟩) ∧ Boxed W (w.heap.size + 1) 4 (.bool false) ∧ Below w.heap.size w W)
    (fun c pre W => (c = .ret ∧ pre ≠ []) ∧ Boxed W w.heap.size 9 (.string ⟨(firstK pre).toArray⟩) ∧ Boxed W (w.heap.size + 1) 4 (.bool true) ∧ Below w.heap.size w W)
    (OwnFrom.and (ownFrom_pure _ _) (OwnFrom.and (Own.from (boxed_own w.heap.size 9 (fun _ : List (Ky × Int) => .string ⟨#[]⟩)) _) (OwnFrom.and (Own.from (boxed_own (w.heap.size + 1) 4 (fun _ : List (Ky × Int) => .bool false)) _) (ownFrom_below (Nat.le_refl _) (by omega)))))
    (fun c => OwnFrom.and (ownFrom_pure _ _) (OwnFrom.and (Own.from (boxed_own w.heap.size 9 (fun pre : List (Ky × Int) => .string ⟨(firstK pre).toArray⟩)) _) (OwnFrom.and (Own.from (boxed_own (w.heap.size + 1) 4 (fun _ : List (Ky × Int) => .bool true)) _) (ownFrom_below (Nat.le_refl _) (by omega)))))
    ⟨rfl, b0, b1, hB⟩
    (fun x => { tmps := #[.pointer p, undef, .pointer (some ⟨w.heap.size, 0, none⟩), .pointer (some ⟨w.heap.size + 1, 0, none⟩), .string ⟨x.1.toArray⟩, .pointer p, .func (.func 36) #[] #[.pointer (some ⟨w.heap.size + 1 + 1, 0, none⟩), .pointer (some ⟨w.heap.size + 1 + 1 + 1, 0, none⟩)], .string ⟨x.1.toArray⟩, .int .i64 x.2, undef], defers := [] }) ?assign ?body ?done ?stop
  case assign =>
    intro l x W K hK
    unfold encs
    gi_wp2
    exact hK
  case body =>
    rintro l' pre x W ⟨rfl, hv0, hv1, hBW⟩ hpl
    have hc0 := hv0.cell
    have hf0 := hv0.frozen
    have hc1 := hv1.cell
    have hf1 := hv1.frozen
    have hv1' := (hv1.other (B' := w.heap.size) (by omega) (.string ⟨x.1.toArray⟩)).cell
    have hf1' := (hv1.other (B' := w.heap.size) (by omega) (.string ⟨x.1.toArray⟩)).frozen
    gi_wp2
    exact ⟨((KeepsOthers.setCell _ _ _).trans (KeepsOthers.setCell _ _ _)).from _, ⟨rfl, by simp⟩, (hv0.set _).other (by omega) _, ((hv1.other (by omega) _).set _), (hBW.setCell (p := ⟨w.heap.size, 0, none⟩) (Nat.le_refl _) _).setCell (p := ⟨w.heap.size + 1, 0, none⟩) (by show w.heap.size ≤ w.heap.size + 1; omega) _⟩
  case done =>
    rintro D ys W hD hys ⟨hy0, hv0, hv1, hBW⟩ hK
    have hg : g = [] := hys.symm.trans hy0
    have HGG := Lib.hid hg
    have hc0 := hv0.cell
    have hf0 := hv0.frozen
    have hc1 := hv1.cell
    have hf1 := hv1.frozen
    have hv1' := (hv1.other (B' := w.heap.size) (by omega) (.string ⟨#[]⟩)).cell
    have hf1' := (hv1.other (B' := w.heap.size) (by omega) (.string ⟨#[]⟩)).frozen
    have k0 := Lib.hid ((hv0.set (.string ⟨#[]⟩)).other (B' := w.heap.size + 1) (by omega) (.bool false))
    have k1 := Lib.hid ((hv1.other (B' := w.heap.size) (by omega) (.string ⟨#[]⟩)).set (.bool false))
    have hB2 := Lib.hid ((hBW.setCell (p := ⟨w.heap.size, 0, none⟩) (Nat.le_refl _) (.string ⟨#[]⟩)).setCell (p := ⟨w.heap.size + 1, 0, none⟩) (by show w.heap.size ≤ w.heap.size + 1; omega) (.bool false))
    have hK' := Lib.hid (((KeepsOthers.setCell W ⟨w.heap.size, 0, none⟩ (.string ⟨#[]⟩)).trans (KeepsOthers.setCell _ ⟨w.heap.size + 1, 0, none⟩ (.bool false))).same D _ hK rfl)
    clear hg hys hy0 hst
    gi_wp2
    refine ⟨by simp, .inl ⟨_, _, rfl, run_takeDeferred hK'.out, ?_⟩⟩
    exact firstR_of k0.out k1.out hK'.out (by omega) (by rw [HGG.out]; rfl) (by rw [HGG.out]; rfl) (hB2.out.trans (belowK_b (w := w) (Nat.le_refl _) _ D _ (.deferred none) (by omega) hK'.out rfl rfl))
  case stop =>
    rintro D c pre W hD hpre ⟨⟨rfl, hne⟩, hv0, hv1, hBW⟩ hK
    have HPRE := Lib.hid hpre
    have HNE := Lib.hid hne
    clear hpre hne hst
    gi_wp2
    refine ⟨by simp, .inl ⟨_, _, rfl, run_takeDeferred hK, ?_⟩⟩
    have hg : firstK g = firstK pre ∧ (!g.isEmpty) = true := by
      obtain ⟨r, rfl⟩ := HPRE.out
      cases pre with
      | nil => exact absurd rfl HNE.out
      | cons a b => exact ⟨rfl, rfl⟩
    exact firstR_of hv0 hv1 hK (by omega) hg.1 hg.2 (hBW.trans (belowK_b (w := w) (Nat.le_refl _) W D _ (.deferred none) (by omega) hK rfl rfl))
end Go.Proofs.Yteolhbcmffbdlaa.TI
