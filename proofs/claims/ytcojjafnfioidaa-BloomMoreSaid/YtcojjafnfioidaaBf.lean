/-
  Layer 8 (bloom): the walks of the laws' awake, few, BloomMakes, BloomHas, BloomSizes. Conditions: lengths within the reach.
-/
import Derived.Test.YtcojjafnfioidaaBe
namespace Go.Proofs.Ytcojjafnfioidaa
open Go.RowKit
set_option linter.unusedVariables false
set_option linter.unusedSimpArgs false

theorem has_at (M K : List UInt8) (c : Bool) (w : World) (h : hasL M K = c) (hM : M.length ≤ 140737488351232) (hK : K.length ≤ 140737488351232) :
    Calls Try.prog 13 #[.string ⟨M.toArray⟩, .string ⟨K.toArray⟩] w fun e w' => e = .returned (.bool c) ∧ Below w.heap.size w w' := by
  have h1 := has_code ⟨M.toArray⟩ ⟨K.toArray⟩ w (by rw [size_mkl]; exact hM) (by rw [size_mkl]; exact hK)
  rw [show (⟨M.toArray⟩ : ByteArray).data.toList = M from rfl, show (⟨K.toArray⟩ : ByteArray).data.toList = K from rfl, h] at h1
  exact h1
theorem lit_rd1 (w : World) (t : TypeId) (x : List UInt8) : Rd (w.alloc (.cells #[.string ⟨x.toArray⟩] t)) (some ⟨w.heap.size, 0, none⟩) [x] := by
  refine .inr ⟨w.heap.size, 0, rfl, by simp, fun i hi => ?_⟩
  have : i = 0 := by simpa using hi
  subst this
  simp
set_option maxRecDepth 100000 in
set_option maxHeartbeats 1000000 in
theorem awake_any (w : World) : Calls Try.prog 10 #[] w fun e w' => e = .returned (.bool true) ∧ Below w.heap.size w w' := by
  obtain ⟨M, hM⟩ : ∃ M, M = makeL [[97]] := ⟨_, rfl⟩
  have h1 : ∀ w : World, Rd w (some ⟨w.heap.size - 1, 0, none⟩) [[97]] → Calls Try.prog 11 #[.slice (some ⟨w.heap.size - 1, 0, none⟩) 1 1] w fun e w' => e = .returned (.tuple #[.string ⟨M.toArray⟩, .int .i64 0]) ∧ Below w.heap.size w w' :=
    fun w h => by rw [hM]; exact make_code _ 1 [[97]] w h (by simp) (by decide)
  have hl : M.length = 8 := by rw [hM]; decide +kernel
  have ha : hasL M [97] = true := by rw [hM]; decide +kernel
  have hb : hasL M [98] = false := by rw [hM]; decide +kernel
  have hsz : (⟨M.toArray⟩ : ByteArray).size = 8 := by rw [size_mkl]; exact hl
  have h2 := fun w => has_at M [97] true w ha (by omega) (by simp)
  have h3 := fun w => has_at M [98] false w hb (by omega) (by simp)
  have h4 := fun w => size_code 100 w
  rw [show (8 * nBytes (100 : Int).toNat : Nat) = 1000 by decide +kernel] at h4
  have H1 := Lib.hid h1
  have H2 := Lib.hid h2
  have H3 := Lib.hid h3
  have H4 := Lib.hid h4
  clear hM h1 hl ha hb h2 h3 h4
  go_enter Try.func10, Try.ntmps10
  go_wp2_with fail
  have hr := H1.out (w.alloc (.cells #[.string ⟨#[97]⟩] 9)) (by rw [World.size_alloc, Nat.add_sub_cancel]; exact lit_rd1 w 9 [97])
  simp only [World.size_alloc, Nat.add_sub_cancel] at hr
  refine hr.mono ?_
  rintro e w1 ⟨rfl, b1⟩
  have B1 := Lib.hid (((Below.refl w.heap.size w).alloc (Nat.le_refl _) _).trans (b1.mono (by simp)))
  clear b1 hr
  go_wp2_with fail
  refine (H2.out _).mono ?_
  rintro e w2 ⟨rfl, b2⟩
  go_wp2_with fail
  refine (H3.out _).mono ?_
  rintro e w3 ⟨rfl, b3⟩
  go_wp2_with fail
  refine (H4.out _).mono ?_
  rintro e w4 ⟨rfl, rfl⟩
  go_wp2
  go_ret
  exact ⟨rfl, bt (bt B1.out b2) b3⟩

/-! ### few -/
def fewB (ts : List (List UInt8)) : Bool := (ts.take 100).all (fun t => decide (t.length ≤ 256)) && decide (ts.length ≤ 100)
theorem few_of {ts : List (List UInt8)} (h : fewB ts = true) : ts.length ≤ 100 ∧ ∀ t ∈ ts, t.length ≤ 256 := by
  unfold fewB at h
  rw [Bool.and_eq_true, decide_eq_true_eq, List.all_eq_true] at h
  refine ⟨h.2, fun t ht => ?_⟩
  rw [List.take_of_length_le h.2] at h
  exact of_decide_eq_true (h.1 t ht)
set_option maxRecDepth 100000 in
set_option maxHeartbeats 1000000 in
theorem few_any (a : Option Addr) (cap : Nat) (ts : List (List UInt8)) (w : World) (hr : Rd w a ts) (hl : ts.length ≤ maxLen) :
    Calls Try.prog 9 #[.slice a ts.length cap] w fun e w' => e = .returned (.bool (fewB ts)) ∧ w = w' := by
  have hl2 : ts.length ≤ 9223372036854775807 := by simpa [maxLen] using hl
  obtain ⟨n, hn⟩ : ∃ n, n = ts.length := ⟨_, rfl⟩
  rw [← hn] at hl2 ⊢
  have HR := Lib.hid hr
  have HN := Lib.hid hn
  have HF := Lib.hid (show fewB ts = ((ts.take 100).all (fun t => decide (t.length ≤ 256)) && decide (ts.length ≤ 100)) from rfl)
  clear hr hn hl
  go_enter Try.func9, Try.ntmps9
  go_wp2
  go_loop [3] (fun i => ∃ k : Nat, k ≤ n ∧ k ≤ 100 ∧ i = .int .i64 (k : Int) ∧ Hid ((ts.take k).all (fun t => decide (t.length ≤ 256)) = true)) (fun i => 100 - (intOf i).toNat)
  case atStart => exact ⟨0, by omega, by omega, rfl, Lib.hid (by simp)⟩
  case round =>
    obtain ⟨k, hkn, hk100, rfl, hall⟩ := hrel
    by_cases hlt : k < n ∧ k < 100
    · obtain ⟨hlt, h100⟩ := hlt
      have hkt : k < ts.length := by rw [← HN.out]; exact hlt
      rcases HR.out with h0 | ⟨bb, off, rfl, hbb, hc⟩
      · rw [h0] at hkt; simp at hkt
      · have hck := hc k hkt
        obtain ⟨x, hx⟩ : ∃ x, x = ts[k] := ⟨_, rfl⟩
        rw [← hx] at hck
        have hsn : (ts.take (k + 1)).all (fun t => decide (t.length ≤ 256)) = decide (x.length ≤ 256) := by
          rw [List.take_succ_eq_append_getElem hkt, List.all_append, hall.out, Bool.true_and, ← hx]; simp
        have hsz : (⟨x.toArray⟩ : ByteArray).size = x.length := size_mkl x
        have HX := Lib.hid hx
        clear hx hc
        by_cases h256 : x.length ≤ 256
        · rw [decide_eq_true h256] at hsn
          have HS := Lib.hid hsn
          clear hsn
          go_wp2
          go_round
          case rel => exact ⟨k + 1, by omega, by omega, by go_num, HS⟩
          case measure => simp [intOf]; omega
        · have hf : fewB ts = false := by
            rw [HF.out, ← List.take_append_drop (k + 1) (ts.take 100), List.all_append, List.take_take, Nat.min_eq_left (by omega), hsn]
            simp [h256]
          have HFF := Lib.hid hf
          clear hsn hf
          go_wp2
          go_ret
          exact ⟨congrArg (fun b => Ending.returned (Value.bool b)) HFF.out.symm, rfl⟩
    · have hf : fewB ts = decide (n ≤ 100) := by
        rw [HF.out, ← HN.out]
        by_cases h : n ≤ 100
        · have e : k = n := by omega
          have h2 := hall.out
          rw [e, HN.out, List.take_length] at h2
          rw [List.take_of_length_le (by rw [← HN.out]; exact h), h2, Bool.true_and]
        · simp [h]
      have HFF := Lib.hid hf
      have hlt2 : (k = n ∧ n ≤ 100) ∨ (k < n ∧ k = 100) := by omega
      clear hf hlt
      rcases hlt2 with ⟨rfl, h⟩ | ⟨h1, rfl⟩
      · have hd : ((k : Int) ≤ 100) := by omega
        go_wp2
        go_ret
        exact ⟨congrArg (fun b => Ending.returned (Value.bool b)) (by rw [HFF.out]; simp [h]), rfl⟩
      · have hd : ¬ ((n : Int) ≤ 100) := by omega
        go_wp2
        go_ret
        exact ⟨congrArg (fun b => Ending.returned (Value.bool b)) (by rw [HFF.out]; simp; omega), rfl⟩

/-! ### BloomMakes -/
set_option maxRecDepth 100000 in
set_option maxHeartbeats 1000000 in
theorem walk_BloomMakes (a : Option Addr) (cap : Nat) (ts : List (List UInt8)) (w : World) (hr : Rd w a ts) (hl : ts.length ≤ maxLen) (hc : ts.length ≤ cap) :
    Calls Try.prog 3 #[.slice a ts.length cap] w fun e w' => e = .returned (.bool true) ∧ Below w.heap.size w w' := by
  have hf := few_any a cap ts w hr hl
  obtain ⟨f, hff⟩ : ∃ f, f = fewB ts := ⟨_, rfl⟩
  rw [← hff] at hf
  cases f with
  | false =>
    have HF := Lib.hid hf
    clear hf hff hr hl hc
    go_enter Try.func3, Try.ntmps3
    go_wp2_with fail
    refine HF.out.mono ?_
    rintro e w1 ⟨rfl, rfl⟩
    go_wp2_with fail
    refine (awake_any _).mono ?_
    rintro e w1 ⟨rfl, b1⟩
    go_wp2
    go_ret
    exact ⟨rfl, b1⟩
  | true =>
    obtain ⟨h100, h256⟩ := few_of hff.symm
    have hm := fun w h => make_code a cap ts w h (fun t ht => by have := h256 t ht; omega) (by omega)
    have hm2 := fun w h => make_ref a cap ts w h (fun t ht => by have := h256 t ht; omega) (by omega)
    have HF := Lib.hid hf
    have H1 := Lib.hid hm
    have H2 := Lib.hid hm2
    have HR := Lib.hid hr
    generalize makeL ts = M at *
    clear hf hff hr hl hc hm hm2 h256
    go_enter Try.func3, Try.ntmps3
    go_wp2_with fail
    refine HF.out.mono ?_
    rintro e w1 ⟨rfl, rfl⟩
    go_wp2_with fail
    refine (H1.out _ HR.out).mono ?_
    rintro e w1 ⟨rfl, b1⟩
    go_wp2_with fail
    refine (H2.out _ (HR.out.old b1)).mono ?_
    rintro e w2 ⟨rfl, b2⟩
    go_wp2_with fail
    refine (awake_any _).mono ?_
    rintro e w3 ⟨rfl, b3⟩
    go_wp2
    go_ret
    exact ⟨rfl, bt (bt b1 b2) b3⟩

/-! ### BloomHas -/
set_option maxRecDepth 100000 in
set_option maxHeartbeats 1000000 in
theorem walk_BloomHas (s : ByteArray) (hs : s.size ≤ 140737488351232) (key : ByteArray) (hk : key.size ≤ 140737488351232) (n : Int) (hn : (Lit.int .i64 n).wf = true) (w : World) :
    Calls Try.prog 4 #[.string s, .string key, .int .i64 n] w fun e w' => e = .returned (.bool true) ∧ Below w.heap.size w w' := by
  have h1 := fun w => has_code s key w hs hk
  have h2 := fun w => has_ref s key w hs hk
  have h3 := fun w => size_code n w
  have h4 := fun w => size_ref n w
  generalize hasL s.data.toList key.data.toList = c at h1 h2
  generalize 8 * nBytes n.toNat = z at h3 h4
  have H1 := Lib.hid h1
  have H2 := Lib.hid h2
  have H3 := Lib.hid h3
  have H4 := Lib.hid h4
  clear h1 h2 h3 h4 hn
  by_cases hb : s.size ≤ 1024
  · have hbi : (s.size : Int) ≤ 1024 := by omega
    by_cases hbk : key.size ≤ 256
    · have hki : (key.size : Int) ≤ 256 := by omega
      go_enter Try.func4, Try.ntmps4
      go_wp2_with fail
      refine (H1.out _).mono ?_
      rintro e w1 ⟨rfl, b1⟩
      go_wp2_with fail
      refine (H2.out _).mono ?_
      rintro e w2 ⟨rfl, rfl⟩
      go_wp2_with fail
      refine (H3.out _).mono ?_
      rintro e w2 ⟨rfl, rfl⟩
      go_wp2_with fail
      refine (H4.out _).mono ?_
      rintro e w2 ⟨rfl, rfl⟩
      go_wp2_with fail
      refine (awake_any _).mono ?_
      rintro e w3 ⟨rfl, b3⟩
      go_wp2
      go_ret
      exact ⟨rfl, bt b1 b3⟩
    · have hki : (256 : Int) < (key.size : Int) := by omega
      go_enter Try.func4, Try.ntmps4
      go_wp2_with fail
      refine (awake_any _).mono ?_
      rintro e w3 ⟨rfl, b3⟩
      go_wp2
      go_ret
      exact ⟨rfl, b3⟩
  · have hbi : (1024 : Int) < (s.size : Int) := by omega
    go_enter Try.func4, Try.ntmps4
    go_wp2_with fail
    refine (awake_any _).mono ?_
    rintro e w3 ⟨rfl, b3⟩
    go_wp2
    go_ret
    exact ⟨rfl, b3⟩

/-! ### BloomSizes -/
set_option maxRecDepth 100000 in
set_option maxHeartbeats 1000000 in
theorem walk_BloomSizes (a : Int) (ha : (Lit.int .i64 a).wf = true) (b : Int) (hb : (Lit.int .i64 b).wf = true) (w : World) :
    Calls Try.prog 8 #[.int .i64 a, .int .i64 b] w fun e w' => e = .returned (.bool true) ∧ Below w.heap.size w w' := by
  have h3 := fun w => size_code a w
  have h4 := fun w => size_code b w
  obtain ⟨x, hx⟩ : ∃ x, x = nBytes a.toNat := ⟨_, rfl⟩
  obtain ⟨y, hy⟩ : ∃ y, y = nBytes b.toNat := ⟨_, rfl⟩
  rw [← hx] at h3
  rw [← hy] at h4
  unfold nBytes at hx hy
  have x1 : 8 ≤ x := by omega
  have x2 : x ≤ 5120 := by omega
  have y2 : y ≤ 5120 := by omega
  have x3 : 0 ≤ a → a ≤ 4096 → 10 * a ≤ 8 * (x : Int) ∧ 8 * (x : Int) < 10 * a + 72 := by omega
  have x4 : a ≤ b → x ≤ y := by omega
  have hm : ((8 * x : Nat) : Int) % 8 = 0 := by omega
  have H3 := Lib.hid h3
  have H4 := Lib.hid h4
  clear h3 h4 ha hb hx hy
  obtain ⟨X, hX⟩ : ∃ X, X = 8 * x := ⟨_, rfl⟩
  obtain ⟨Y, hY⟩ : ∃ Y, Y = 8 * y := ⟨_, rfl⟩
  rw [← hX] at H3 hm
  rw [← hY] at H4
  have X1 : 64 ≤ X := by omega
  have X2 : X ≤ 40960 := by omega
  have Y2 : Y ≤ 40960 := by omega
  have X3 : 0 ≤ a → a ≤ 4096 → 10 * a ≤ (X : Int) ∧ (X : Int) < 10 * a + 72 := by omega
  have X4 : ¬ b < a → X ≤ Y := by omega
  have HX3 := Lib.hid X3
  have HX4 := Lib.hid X4
  clear X3 X4 x3 x4 hX hY x1 x2 y2
  by_cases hg : b < a
  · clear HX4
    by_cases h0 : 0 ≤ a
    · by_cases h1 : a ≤ 4096
      · obtain ⟨q1, q2⟩ := HX3.out h0 h1
        clear HX3
        go_enter Try.func8, Try.ntmps8
        go_wp2_with fail
        refine (H3.out _).mono ?_
        rintro e w1 ⟨rfl, rfl⟩
        go_wp2_with fail
        refine (H4.out _).mono ?_
        rintro e w1 ⟨rfl, rfl⟩
        go_wp2_with fail
        refine (awake_any _).mono ?_
        rintro e w3 ⟨rfl, b3⟩
        go_wp2
        go_ret
        exact ⟨rfl, b3⟩
      · clear HX3
        go_enter Try.func8, Try.ntmps8
        go_wp2_with fail
        refine (H3.out _).mono ?_
        rintro e w1 ⟨rfl, rfl⟩
        go_wp2_with fail
        refine (H4.out _).mono ?_
        rintro e w1 ⟨rfl, rfl⟩
        go_wp2_with fail
        refine (awake_any _).mono ?_
        rintro e w3 ⟨rfl, b3⟩
        go_wp2
        go_ret
        exact ⟨rfl, b3⟩
    · clear HX3
      go_enter Try.func8, Try.ntmps8
      go_wp2_with fail
      refine (H3.out _).mono ?_
      rintro e w1 ⟨rfl, rfl⟩
      go_wp2_with fail
      refine (H4.out _).mono ?_
      rintro e w1 ⟨rfl, rfl⟩
      go_wp2_with fail
      refine (awake_any _).mono ?_
      rintro e w3 ⟨rfl, b3⟩
      go_wp2
      go_ret
      exact ⟨rfl, b3⟩
  · have q3 := HX4.out hg
    have q4 : (X : Int) ≤ (Y : Int) := by omega
    clear HX4
    by_cases h0 : 0 ≤ a
    · by_cases h1 : a ≤ 4096
      · obtain ⟨q1, q2⟩ := HX3.out h0 h1
        clear HX3
        go_enter Try.func8, Try.ntmps8
        go_wp2_with fail
        refine (H3.out _).mono ?_
        rintro e w1 ⟨rfl, rfl⟩
        go_wp2_with fail
        refine (H4.out _).mono ?_
        rintro e w1 ⟨rfl, rfl⟩
        go_wp2_with fail
        refine (awake_any _).mono ?_
        rintro e w3 ⟨rfl, b3⟩
        go_wp2
        go_ret
        exact ⟨rfl, b3⟩
      · clear HX3
        go_enter Try.func8, Try.ntmps8
        go_wp2_with fail
        refine (H3.out _).mono ?_
        rintro e w1 ⟨rfl, rfl⟩
        go_wp2_with fail
        refine (H4.out _).mono ?_
        rintro e w1 ⟨rfl, rfl⟩
        go_wp2_with fail
        refine (awake_any _).mono ?_
        rintro e w3 ⟨rfl, b3⟩
        go_wp2
        go_ret
        exact ⟨rfl, b3⟩
    · clear HX3
      go_enter Try.func8, Try.ntmps8
      go_wp2_with fail
      refine (H3.out _).mono ?_
      rintro e w1 ⟨rfl, rfl⟩
      go_wp2_with fail
      refine (H4.out _).mono ?_
      rintro e w1 ⟨rfl, rfl⟩
      go_wp2_with fail
      refine (awake_any _).mono ?_
      rintro e w3 ⟨rfl, b3⟩
      go_wp2
      go_ret
      exact ⟨rfl, b3⟩
end Go.Proofs.Ytcojjafnfioidaa
