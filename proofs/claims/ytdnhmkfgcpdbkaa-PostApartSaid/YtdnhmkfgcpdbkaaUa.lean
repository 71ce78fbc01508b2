/-
  Layer 16 (post): lists of shards, and of entries, that are the same. Conditions: as each says.
-/
import Derived.Test.YtdnhmkfgcpdbkaaTy
namespace Go.Proofs.Ytdnhmkfgcpdbkaa
open Go.RowKit
set_option linter.unusedVariables false
set_option linter.unusedSimpArgs false
set_option maxRecDepth 100000 in
set_option maxHeartbeats 2000000 in
theorem sameMap_any (w : World) (a1 : Option Addr) (n1 c1 : Nat) (a2 : Option Addr) (n2 c2 : Nat) (L : List (List Fld)) (h1 : LRv w 6 (.slice a1 n1 c1) L) (h2 : LRv w 6 (.slice a2 n2 c2) L) (hsh : ∀ x ∈ L, isShard x) (hm : L.length ≤ maxLen) :
    Calls Try.prog 25 #[.slice a1 n1 c1, .slice a2 n2 c2] w fun e w' => e = .returned (.bool true) ∧ Below w.heap.size w w' := by
  unfold maxLen at hm
  obtain ⟨_, _, _, e1, k1, r1⟩ := h1
  obtain ⟨_, _, _, e2, k2, r2⟩ := h2
  injection e1 with e1 e1' e1''
  injection e2 with e2 e2' e2''
  subst e1 e1' e1'' e2 e2' e2''
  obtain ⟨n, hn⟩ : ∃ n, n = L.length := ⟨_, rfl⟩
  rw [← hn] at k1 k2
  subst k1 k2
  rw [← hn] at hm
  have HN := Lib.hid hn
  have H1 := Lib.hid r1
  have H2 := Lib.hid r2
  have HSH := Lib.hid hsh
  clear r1 r2 hsh hn
  go_enter Try.func25, Try.ntmps25
  go_wp2_with fail
  go_loopw [5] (fun i wr => ∃ k : Nat, i = .int .i64 k ∧ k ≤ n ∧ Hid (Below w.heap.size w wr)) (fun i _ => n - (intOf i).toNat)
  case atStart => exact ⟨0, by first | rfl | go_num, by omega, Lib.hid (Below.refl _ _)⟩
  case round =>
    obtain ⟨k, rfl, hk, HW⟩ := hrel
    by_cases hlt : k < n
    · have hki : (k : Int) < (n : Int) := by omega
      have hkl : k < L.length := by rw [← HN.out]; exact hlt
      obtain ⟨x, hx⟩ : ∃ x, x = L[k] := ⟨_, rfl⟩
      have hsx := HSH.out x (by rw [hx]; exact List.getElem_mem hkl)
      rcases H1.out with e0 | ⟨b1, o1, q1, l1, g1⟩
      · rw [e0] at hkl; simp at hkl
      rcases H2.out with e0 | ⟨b2, o2, q2, l2, g2⟩
      · rw [e0] at hkl; simp at hkl
      subst q1 q2
      have hf1 : FAt wr b1 (o1 + k * 6) x := fun i hi => (HW.out.cell (p := ⟨b1, _, none⟩) l1).trans (by subst hx; exact g1 k hkl i hi)
      have hf2 : FAt wr b2 (o2 + k * 6) x := fun i hi => (HW.out.cell (p := ⟨b2, _, none⟩) l2).trans (by subst hx; exact g2 k hkl i hi)
      have hl1 : b1 < wr.heap.size := Nat.lt_of_lt_of_le l1 HW.out.size
      have hl2 : b2 < wr.heap.size := Nat.lt_of_lt_of_le l2 HW.out.size
      clear g1 g2 hx l1 l2 hkl
      obtain ⟨id, lo, hi, ep, nd, st, rfl⟩ := hsx
      have c0 := hf1 0 (by simp)
      have c1 := hf1 1 (by simp)
      have c2 := hf1 2 (by simp)
      have c3 := hf1 3 (by simp)
      have c4 := hf1 4 (by simp)
      have c5 := hf1 5 (by simp)
      have d0 := hf2 0 (by simp)
      have d1 := hf2 1 (by simp)
      have d2 := hf2 2 (by simp)
      have d3 := hf2 3 (by simp)
      have d4 := hf2 4 (by simp)
      have d5 := hf2 5 (by simp)
      simp only [List.getElem_cons_zero, List.getElem_cons_succ, Fld.cell, Nat.add_zero] at c0 c1 c2 c3 c4 c5 d0 d1 d2 d3 d4 d5
      clear hf1 hf2
      have HWD := Lib.hid (HW.out.drew)
      go_upto_region 6 with fail
      go_region
      go_wp2_with fail
      go_roundw
      case rel => exact ⟨k + 1, by go_num, by omega, by first | exact HWD | exact HW⟩
      case measure => simp [intOf]; omega
    · obtain rfl : k = n := by omega
      have hki : ¬ (k : Int) < (k : Int) := by omega
      clear hlt hk
      go_wp2_with fail
      go_ret
      exact ⟨rfl, HW.out⟩
set_option maxRecDepth 100000 in
set_option maxHeartbeats 2000000 in
theorem same04_any (w : World) (a1 : Option Addr) (n1 c1 : Nat) (a2 : Option Addr) (n2 c2 : Nat) (L : List (List Fld)) (h1 : LRv w 4 (.slice a1 n1 c1) L) (h2 : LRv w 4 (.slice a2 n2 c2) L) (hsh : ∀ x ∈ L, isEntry x) (hm : L.length ≤ maxLen) :
    Calls Try.prog 26 #[.slice a1 n1 c1, .slice a2 n2 c2] w fun e w' => e = .returned (.bool true) ∧ Below w.heap.size w w' := by
  unfold maxLen at hm
  obtain ⟨_, _, _, e1, k1, r1⟩ := h1
  obtain ⟨_, _, _, e2, k2, r2⟩ := h2
  injection e1 with e1 e1' e1''
  injection e2 with e2 e2' e2''
  subst e1 e1' e1'' e2 e2' e2''
  obtain ⟨n, hn⟩ : ∃ n, n = L.length := ⟨_, rfl⟩
  rw [← hn] at k1 k2
  subst k1 k2
  rw [← hn] at hm
  have HN := Lib.hid hn
  have H1 := Lib.hid r1
  have H2 := Lib.hid r2
  have HSH := Lib.hid hsh
  clear r1 r2 hsh hn
  go_enter Try.func26, Try.ntmps26
  go_wp2_with fail
  go_loopw [5] (fun i wr => ∃ k : Nat, i = .int .i64 k ∧ k ≤ n ∧ Hid (Below w.heap.size w wr)) (fun i _ => n - (intOf i).toNat)
  case atStart => exact ⟨0, by first | rfl | go_num, by omega, Lib.hid (Below.refl _ _)⟩
  case round =>
    obtain ⟨k, rfl, hk, HW⟩ := hrel
    by_cases hlt : k < n
    · have hki : (k : Int) < (n : Int) := by omega
      have hkl : k < L.length := by rw [← HN.out]; exact hlt
      obtain ⟨x, hx⟩ : ∃ x, x = L[k] := ⟨_, rfl⟩
      have hsx := HSH.out x (by rw [hx]; exact List.getElem_mem hkl)
      rcases H1.out with e0 | ⟨b1, o1, q1, l1, g1⟩
      · rw [e0] at hkl; simp at hkl
      rcases H2.out with e0 | ⟨b2, o2, q2, l2, g2⟩
      · rw [e0] at hkl; simp at hkl
      subst q1 q2
      have hf1 : FAt wr b1 (o1 + k * 4) x := fun i hi => (HW.out.cell (p := ⟨b1, _, none⟩) l1).trans (by subst hx; exact g1 k hkl i hi)
      have hf2 : FAt wr b2 (o2 + k * 4) x := fun i hi => (HW.out.cell (p := ⟨b2, _, none⟩) l2).trans (by subst hx; exact g2 k hkl i hi)
      have hl1 : b1 < wr.heap.size := Nat.lt_of_lt_of_le l1 HW.out.size
      have hl2 : b2 < wr.heap.size := Nat.lt_of_lt_of_le l2 HW.out.size
      clear g1 g2 hx l1 l2 hkl
      obtain ⟨ky, va, g, sq, rfl⟩ := hsx
      have c0 := hf1 0 (by simp)
      have c1 := hf1 1 (by simp)
      have c2 := hf1 2 (by simp)
      have c3 := hf1 3 (by simp)
      have d0 := hf2 0 (by simp)
      have d1 := hf2 1 (by simp)
      have d2 := hf2 2 (by simp)
      have d3 := hf2 3 (by simp)
      simp only [List.getElem_cons_zero, List.getElem_cons_succ, Fld.cell, Nat.add_zero] at c0 c1 c2 c3 d0 d1 d2 d3
      clear hf1 hf2
      have HWD := Lib.hid (HW.out.drew)
      go_upto_region 6 with fail
      go_region
      go_wp2_with fail
      go_roundw
      case rel => exact ⟨k + 1, by go_num, by omega, by first | exact HWD | exact HW⟩
      case measure => simp [intOf]; omega
    · obtain rfl : k = n := by omega
      have hki : ¬ (k : Int) < (k : Int) := by omega
      clear hlt hk
      go_wp2_with fail
      go_ret
      exact ⟨rfl, HW.out⟩
end Go.Proofs.Ytdnhmkfgcpdbkaa
