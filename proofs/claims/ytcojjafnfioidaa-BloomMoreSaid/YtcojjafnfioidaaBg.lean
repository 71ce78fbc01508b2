/-
  Layer 8 (bloom): the walks of the laws BloomAll, BloomFull. Conditions: lengths within the reach.
-/
import Derived.Test.YtcojjafnfioidaaBf
namespace Go.Proofs.Ytcojjafnfioidaa
open Go.RowKit
set_option linter.unusedVariables false
set_option linter.unusedSimpArgs false

/-! ### BloomAll -/
set_option maxRecDepth 100000 in
set_option maxHeartbeats 1000000 in
theorem walk_BloomAll (a : Option Addr) (cap : Nat) (ts : List (List UInt8)) (w : World) (hr : Rd w a ts) (hl : ts.length ≤ maxLen) (hc : ts.length ≤ cap) :
    Calls Try.prog 5 #[.slice a ts.length cap] w fun e w' => e = .returned (.bool true) ∧ Below w.heap.size w w' := by
  have hf := few_any a cap ts w hr hl
  obtain ⟨f, hff⟩ : ∃ f, f = fewB ts := ⟨_, rfl⟩
  rw [← hff] at hf
  cases f with
  | false =>
    have HF := Lib.hid hf
    clear hf hff hr hl hc
    go_enter Try.func5, Try.ntmps5
    go_wp2_with fail
    refine HF.out.mono ?_
    rintro e w1 ⟨rfl, rfl⟩
    go_wp2_with fail
    refine (awake_any _).mono ?_
    rintro e w1 ⟨rfl, b1⟩
    go_wp2
    go_ret
    exact ⟨rfl, b1⟩
  | true =>
    obtain ⟨h100, h256⟩ := few_of hff.symm
    have hm := make_code a cap ts w hr (fun t ht => by have := h256 t ht; omega) (by omega)
    obtain ⟨M, hM⟩ : ∃ M, M = makeL ts := ⟨_, rfl⟩
    rw [← hM] at hm
    obtain ⟨n, hn⟩ : ∃ n, n = ts.length := ⟨_, rfl⟩
    have hs := fun w => size_code (n : Int) w
    obtain ⟨z, hz⟩ : ∃ z, z = nBytes n := ⟨_, rfl⟩
    have hz5 := nBytes_le n
    rw [← hz] at hz5
    simp only [Int.toNat_natCast, ← hz] at hs
    have hMl : M.length = z := by rw [hM, makeL_length, ← hn, hz]
    have hall : ∀ t ∈ ts, ∀ w : World, Calls Try.prog 13 #[.string ⟨M.toArray⟩, .string ⟨t.toArray⟩] w fun e w' => e = .returned (.bool true) ∧ Below w.heap.size w w' :=
      fun t ht w => has_at M t true w (by rw [hM]; exact has_makeL ht) (by omega) (by have := h256 t ht; omega)
    have hsz : (⟨M.toArray⟩ : ByteArray).size = z := by rw [size_mkl]; exact hMl
    rw [← hn] at hm hf h100 ⊢
    obtain ⟨Z, hZ⟩ : ∃ Z, Z = 8 * z := ⟨_, rfl⟩
    rw [← hZ] at hs
    have h8 : 8 * (z : Int) = (Z : Int) := by omega
    clear hZ
    have HF := Lib.hid hf
    have H1 := Lib.hid hm
    have HS := Lib.hid hs
    have HA := Lib.hid hall
    have HR := Lib.hid hr
    have HN := Lib.hid hn
    clear hf hff hr hl hc hm h256 hM hn hs hz hMl hall
    go_enter Try.func5, Try.ntmps5
    go_wp2_with fail
    refine HF.out.mono ?_
    rintro e w1 ⟨rfl, rfl⟩
    go_wp2_with fail
    refine H1.out.mono ?_
    rintro e w1 ⟨rfl, b1⟩
    go_wp2_with fail
    refine (HS.out _).mono ?_
    rintro e w2 ⟨rfl, rfl⟩
    go_wp2
    go_loopw [5] (fun i wr => ∃ k : Nat, k ≤ n ∧ i = .int .i64 (k : Int) ∧ Below w.heap.size w wr) (fun i _ => n - (intOf i).toNat)
    case atStart => exact ⟨0, by omega, rfl, b1⟩
    case round =>
      obtain ⟨k, hkn, rfl, hbel⟩ := hrel
      by_cases hlt : k < n
      · have hkt : k < ts.length := by rw [← HN.out]; exact hlt
        rcases HR.out.old hbel with h0 | ⟨bb, off, rfl, hbb, hc⟩
        · rw [h0] at hkt; simp at hkt
        · have hck := hc k hkt
          have hx := HA.out ts[k] (List.getElem_mem _)
          obtain ⟨x, hxx⟩ : ∃ x, x = ts[k] := ⟨_, rfl⟩
          rw [← hxx] at hck hx
          have HX := Lib.hid hx
          clear hx hxx hc
          go_wp2_with fail
          refine (HX.out _).mono ?_
          rintro e w2 ⟨rfl, b2⟩
          have BB := Lib.hid (bt hbel b2)
          clear b2
          go_wp2
          go_roundw
          case rel => exact ⟨k + 1, by omega, by go_num, BB.out⟩
          case measure => simp [intOf]; omega
      · obtain rfl : k = n := by omega
        go_wp2_with fail
        refine (awake_any _).mono ?_
        rintro e w2 ⟨rfl, b2⟩
        go_wp2
        go_ret
        exact ⟨rfl, bt hbel b2⟩

/-! ### BloomFull -/
theorem and_3 (x : Int) : ∃ q : Nat, q < 4 ∧ bits .and .i64 x 3 = (q : Int) := by
  have h := i64_low 2 (by omega) 3 x (by decide)
  refine ⟨(x % 4).toNat, by omega, ?_⟩
  rw [h]
  omega
theorem Try.infoStr : (Try.prog.info? 9).map (fun i => (i.zero, i.size, i.bytes)) = some (some (.string ⟨#[]⟩), 1, 16) := by kernel_rfl
theorem made_strs (w : World) (t : TypeId) (n : Nat) : Rd (w.alloc (.cells (madeCells #[Value.string ⟨#[]⟩] n) t)) (some ⟨w.heap.size, 0, none⟩) (List.replicate n []) := by
  refine .inr ⟨w.heap.size, 0, rfl, by simp, fun i hi => ?_⟩
  rw [List.length_replicate] at hi
  simp [madeCells, hi, Nat.mod_one]
set_option maxRecDepth 100000 in
set_option maxHeartbeats 1000000 in
theorem walk_BloomFull (more : Int) (hw : (Lit.int .i64 more).wf = true) (w : World) :
    Calls Try.prog 7 #[.int .i64 more] w fun e w' => e = .returned (.bool true) ∧ Below w.heap.size w w' := by
  obtain ⟨q, hq4, hq⟩ := and_3 more
  obtain ⟨n, hn⟩ : ∃ n, n = 4095 + q := ⟨_, rfl⟩
  have hni : (4095 : Int) + (q : Int) = (n : Int) := by omega
  have hmk : ∀ W : World, (Instr.makeSlice 22 (.int .i64 (n : Int)) (.int .i64 (n : Int))).run Try.prog W = .ok (.slice (some ⟨W.heap.size, 0, none⟩) n n) (W.alloc (.cells (madeCells #[Value.string ⟨#[]⟩] n) 9)) :=
    fun W => run_make_row' 22 9 (.string ⟨#[]⟩) 16 Try.underlying22 Try.infoStr rfl _ _ n (by omega) (by omega) W
  have hrd := made_strs w 9 n
  clear hw
  by_cases hbig : 4096 < n
  · have hbi : (4096 : Int) < (n : Int) := by omega
    have HR := Lib.hid hrd
    clear hrd hn
    go_enter Try.func7, Try.ntmps7
    go_wp2_with fail
    refine (make_full _ n n _ hbig (by omega)).mono ?_
    rintro e w1 ⟨rfl, b1⟩
    have B1 := Lib.hid (((Below.refl w.heap.size w).alloc (Nat.le_refl _) _).trans (b1.mono (by simp)))
    have hem : ByteArray.toList ⟨#[]⟩ = ([] : List UInt8) := by kernel_rfl
    clear b1
    go_wp2_with fail
    refine (awake_any _).mono ?_
    rintro e w2 ⟨rfl, b2⟩
    go_wp2
    go_ret
    exact ⟨rfl, bt B1.out b2⟩
  · have hbi : (n : Int) ≤ 4096 := by omega
    have hm := make_code (some ⟨w.heap.size, 0, none⟩) n (List.replicate n []) _ hrd (by simp) (by simp; omega)
    obtain ⟨M, hM⟩ : ∃ M, M = makeL (List.replicate n []) := ⟨_, rfl⟩
    rw [← hM, List.length_replicate] at hm
    have hMl : M.length = (10 * n + 7) / 8 := by rw [hM, makeL_length, List.length_replicate]; unfold nBytes; omega
    obtain ⟨z, hz⟩ : ∃ z, z = (10 * n + 7) / 8 := ⟨_, rfl⟩
    have hsz : (⟨M.toArray⟩ : ByteArray).size = z := by rw [size_mkl, hMl, hz]
    have hzi : (10 * (n : Int) + 7) / 8 = (z : Int) := by omega
    have hh := fun w => has_at M [] true w (by rw [hM]; exact has_makeL (by rw [List.mem_replicate]; exact ⟨by omega, rfl⟩)) (by omega) (by simp)
    have H1 := Lib.hid hm
    have HH := Lib.hid hh
    clear hrd hn hm hM hMl hz hh
    go_enter Try.func7, Try.ntmps7
    go_wp2_with fail
    refine H1.out.mono ?_
    rintro e w1 ⟨rfl, b1⟩
    have B1 := Lib.hid (((Below.refl w.heap.size w).alloc (Nat.le_refl _) _).trans (b1.mono (by simp)))
    clear b1
    go_wp2_with fail
    refine (HH.out _).mono ?_
    rintro e w2 ⟨rfl, b2⟩
    go_wp2_with fail
    refine (awake_any _).mono ?_
    rintro e w3 ⟨rfl, b3⟩
    go_wp2
    go_ret
    exact ⟨rfl, bt (bt B1.out b2) b3⟩
end Go.Proofs.Ytcojjafnfioidaa
