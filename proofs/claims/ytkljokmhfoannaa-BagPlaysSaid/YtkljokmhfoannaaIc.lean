/-
  Layer 15 (bag): contracts of given, has, find, Waits. Conditions: none.
-/
import Derived.Test.YtkljokmhfoannaaIb
import Derived.LaidEqlPtr
import Derived.Lib.Hide
namespace Go.Proofs.Ytkljokmhfoannaa
open Go.RowKit Go.Maps
set_option linter.unusedVariables false
set_option linter.unusedSimpArgs false

theorem infoBag : (Try.prog.info? 60).map (·.size) = some 2 := by kernel_rfl
theorem bag_ptr_same (a : Addr) (w : World) : (binOp .eql 24 (.pointer (some a)) (.pointer (some a))).run Try.prog w = .ok (.bool true) w := by
  obtain ⟨j, hj, _⟩ := Option.map_eq_some_iff.1 infoBag
  exact run_eql_ptr_same w a Try.underlying24 hj
theorem bag_ptr_nil (a : Addr) (w : World) : (binOp .eql 24 (.pointer none) (.pointer (some a))).run Try.prog w = .ok (.bool false) w := by
  have h : ∀ d : Nat, (Op.equalIn (d + 1) 24 (.pointer none) (.pointer (some a))).run Try.prog w = .ok false w := fun d => by
    simp [Op.equalIn, run_underlying Try.underlying24]
  simp only [binOp]
  simp [Op.equal, Op.maxDepth, h 9999]
theorem given15_yes (b : Nat) (w : World) (h : w.cell? ⟨b, 0, none⟩ = some (.pointer (some ⟨b, 0, none⟩))) : Calls Try.prog 32 #[.pointer (some ⟨b, 0, none⟩)] w fun e w' => e = .returned (.bool true) ∧ w = w' := by
  have E := bag_ptr_same ⟨b, 0, none⟩
  go_enter Try.func32, Try.ntmps32
  go_wp2
  go_ret
  exact ⟨rfl, rfl⟩
/-- A bag that nobody made. -/
def NoBag (w : World) (p : Option Addr) : Prop := p = none ∨ ∃ b, p = some ⟨b, 0, none⟩ ∧ b < w.heap.size ∧ w.cell? ⟨b, 0, none⟩ = some (.pointer none)
theorem NoBag.below {w w' : World} {p : Option Addr} (h : NoBag w p) (hb : Below w.heap.size w w') : NoBag w' p := by
  rcases h with h | ⟨b, h, hlt, hc⟩
  · exact .inl h
  · exact .inr ⟨b, h, Nat.lt_of_lt_of_le hlt hb.size, (hb.cell (p := ⟨b, 0, none⟩) hlt).trans hc⟩
theorem given15_no {w : World} {p : Option Addr} (h : NoBag w p) : Calls Try.prog 32 #[.pointer p] w fun e w' => e = .returned (.bool false) ∧ w = w' := by
  rcases h with rfl | ⟨b, rfl, hlt, hc⟩
  · go_enter Try.func32, Try.ntmps32
    go_wp2
    go_ret
    exact ⟨rfl, rfl⟩
  · have E := bag_ptr_nil ⟨b, 0, none⟩
    go_enter Try.func32, Try.ntmps32
    go_wp2
    go_ret
    exact ⟨rfl, rfl⟩
theorem BagIn.cells {own : Nat → Prop} {w : World} {b n c mb : Nat} {q : Wq} {S : Int → Sv} {D : DataW Unit} (h : BagIn own w b n c q mb S D) :
    w.cell? ⟨b, 0, none⟩ = some (.pointer (some ⟨b, 0, none⟩)) ∧ w.cell? ⟨b, 1, none⟩ = some (.map (some mb)) ∧ b < w.heap.size := by
  have h1 := h.head
  exact ⟨by simp [World.cell?, h1], by simp [World.cell?, h1], heap_lt15 h1⟩
set_option maxRecDepth 100000 in
set_option maxHeartbeats 2000000 in
theorem has15_any {own : Nat → Prop} {w : World} {b n c : Nat} {q : Wq} (h : BagAt own w b n c q) (g cap : Nat) (ks : List Int) (hk : ∀ i (hi : i < ks.length), w.cell? ⟨g, i, none⟩ = some (.int .i64 ks[i])) (hw : ∀ k ∈ ks, (Lit.int .i64 k).wf = true) (hl : ks.length ≤ 1000) :
    Calls Try.prog 35 #[.pointer (some ⟨b, 0, none⟩), .slice (some ⟨g, 0, none⟩) ks.length cap] w fun e w' => e = .returned (.bool (ks.all (place n c))) ∧ w = w' := by
  obtain ⟨mb, S, D, hB⟩ := h
  obtain ⟨c0, c1, hlt⟩ := hB.cells
  have hG := Lib.hid (given15_yes b w c0)
  have HB := Lib.hid hB
  have HK := Lib.hid hk
  have HW := Lib.hid hw
  obtain ⟨m, hm⟩ : ∃ m, m = ks.length := ⟨_, rfl⟩
  have HM := Lib.hid hm
  rw [← hm] at hl ⊢
  obtain ⟨R, hR⟩ : ∃ R, R = ks.all (place n c) := ⟨_, rfl⟩
  have HRR := Lib.hid hR
  rw [← hR]
  clear hB hk hw hm hR
  go_enter Try.func35, Try.ntmps35
  go_wp2_with (go_at_call 32; refine hG.out.mono ?_; rintro e w' ⟨rfl, rfl⟩)
  go_loopw [14] (fun i wr => ∃ k : Nat, i = .int .i64 k ∧ k ≤ m ∧ Hid ((ks.take k).all (place n c) = true) ∧ wr = w) (fun i _ => m - (intOf i).toNat)
  case atStart => exact ⟨0, rfl, by omega, Lib.hid rfl, rfl⟩
  case round =>
    obtain ⟨k, rfl, hk, HA, rfl⟩ := hrel
    by_cases hlt2 : k < m
    · have hki : (k : Int) < (m : Int) := by omega
      have hkl : k < ks.length := by rw [← HM.out]; exact hlt2
      have ck := HK.out k hkl
      have hg : g < wr.heap.size := cell_lt ck
      have hs : ks.take (k + 1) = ks.take k ++ [ks[k]] := List.take_succ_eq_append_getElem hkl
      obtain ⟨v, hr, x, rfl⟩ := HB.out.look_ok ks[k] (HW.out _ (List.getElem_mem hkl))
      have hal : place n c ks[k] = false → ks.all (place n c) = false := fun hf => by
        rw [List.all_eq_false]
        exact ⟨ks[k], List.getElem_mem hkl, by rw [hf]; simp⟩
      have hsn : place n c ks[k] = true → (ks.take (k + 1)).all (place n c) = true := fun ht => by
        rw [hs, List.all_append, HA.out]; simp [ht]
      have HAL := Lib.hid hal
      have HSN := Lib.hid hsn
      clear hs hal hsn
      obtain ⟨K, hK⟩ : ∃ K, K = ks[k] := ⟨_, rfl⟩
      rw [← hK] at ck hr HAL HSN
      clear hK
      cases hp : place n c K with
      | true =>
        have HT := Lib.hid (HSN.out hp)
        rw [hp] at hr
        clear HAL HSN hp
        go_wp2
        go_roundw
        case rel => exact ⟨k + 1, by go_num, by omega, HT, trivial⟩
        case measure => simp [intOf]; omega
      | false =>
        obtain rfl : R = false := HRR.out.trans (HAL.out hp)
        rw [hp] at hr
        clear HAL HSN hp HRR
        go_wp2
        go_ret
        exact ⟨rfl, rfl⟩
    · have hki : ¬ (k : Int) < (m : Int) := by omega
      obtain rfl : R = true := by
        obtain rfl : k = m := by omega
        have := HA.out
        rw [HM.out, List.take_length] at this
        rw [HRR.out, this]
      clear HRR
      go_wp2
      go_ret
      exact ⟨rfl, rfl⟩
theorem has15_no {w : World} {p : Option Addr} (h : NoBag w p) (v : Value) : Calls Try.prog 35 #[.pointer p, v] w fun e w' => e = .returned (.bool false) ∧ w = w' := by
  have hG := Lib.hid (given15_no h)
  go_enter Try.func35, Try.ntmps35
  go_wp2_with (go_at_call 32; refine hG.out.mono ?_; rintro e w' ⟨rfl, rfl⟩)
  go_ret
  exact ⟨rfl, rfl⟩
end Go.Proofs.Ytkljokmhfoannaa
