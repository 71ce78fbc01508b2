/-
  Layer 16 (post): Same of lists of shards, and of entries, exact. Conditions: as each says.
-/
import Derived.Test.YtdnhmkfgcpdbkaaUh
import Derived.Laws.StructEq
namespace Go.Proofs.Ytdnhmkfgcpdbkaa
open Go.RowKit
set_option linter.unusedVariables false
set_option linter.unusedSimpArgs false

/-- True just if the two are the same. -/
def SamB {α : Type} (a b : α) (e : Ending) : Prop := ∃ q : Bool, e = .returned (.bool q) ∧ (q = true ↔ a = b)
theorem bl_ne {a b : ByteArray} (h : a ≠ b) : ¬ a.toList = b.toList := fun e => h (by rw [ByteArray.toList_eq, ByteArray.toList_eq] at e; exact ByteArray.ext (Array.ext' e))
theorem SamB.no {α : Type} {a b : α} (h : a ≠ b) : SamB a b (.returned (.bool false)) := ⟨false, rfl, ⟨fun c => (by cases c), fun c => absurd c h⟩⟩
theorem SamB.yes {α : Type} {a b : α} (h : a = b) : SamB a b (.returned (.bool true)) := ⟨true, rfl, ⟨fun _ => h, fun _ => rfl⟩⟩
theorem getElem_eq {α : Type} {L M : List α} (h : L = M) {k : Nat} (hl : k < L.length) (hm : k < M.length) : L[k] = M[k] := by subst h; rfl
set_option maxRecDepth 100000 in
set_option maxHeartbeats 4000000 in
theorem sameMapx (w : World) (a1 : Option Addr) (n1 c1 : Nat) (a2 : Option Addr) (n2 c2 : Nat) (L M : List (List Fld)) (h1 : LRv w 6 (.slice a1 n1 c1) L) (h2 : LRv w 6 (.slice a2 n2 c2) M) (hsh : ∀ x ∈ L, isShard x) (hsh2 : ∀ x ∈ M, isShard x) (hm : L.length ≤ maxLen) (hm2 : M.length ≤ maxLen) :
    Calls Try.prog 25 #[.slice a1 n1 c1, .slice a2 n2 c2] w fun e w' => SamB L M e ∧ Below w.heap.size w w' := by
  unfold maxLen at hm hm2
  obtain ⟨_, _, _, e1, k1, r1⟩ := h1
  obtain ⟨_, _, _, e2, k2, r2⟩ := h2
  injection e1 with e1 e1' e1''
  injection e2 with e2 e2' e2''
  subst e1 e1' e1'' e2 e2' e2''
  by_cases hn : n1 = n2
  case neg =>
    have hni : ¬ (n1 : Int) = (n2 : Int) := by omega
    have HF : Hid (SamB L M (.returned (.bool false))) := Lib.hid (SamB.no (fun e => hn (by rw [← k1, ← k2, e])))
    clear r1 r2 k1 k2 hsh hsh2
    go_enter Try.func25, Try.ntmps25
    go_wp2_with fail
    go_ret
    exact ⟨HF.out, Below.refl _ _⟩
  subst hn
  obtain ⟨n, hn⟩ : ∃ n, n = L.length := ⟨_, rfl⟩
  rw [← hn] at k1
  subst k1
  rw [← hn] at hm
  have HN := Lib.hid (And.intro hn k2)
  have H1 := Lib.hid r1
  have H2 := Lib.hid r2
  have HSH := Lib.hid (And.intro hsh hsh2)
  clear r1 r2 hsh hsh2 hn k2
  go_enter Try.func25, Try.ntmps25
  go_wp2_with fail
  go_loopw [5] (fun i wr => ∃ k : Nat, i = .int .i64 k ∧ k ≤ n ∧ Hid (L.take k = M.take k) ∧ Hid (Below w.heap.size w wr)) (fun i _ => n - (intOf i).toNat)
  case atStart => exact ⟨0, by first | rfl | go_num, by omega, Lib.hid rfl, Lib.hid (Below.refl _ _)⟩
  case round =>
    obtain ⟨k, rfl, hk, HE, HW⟩ := hrel
    by_cases hlt : k < n
    · have hki : (k : Int) < (n : Int) := by omega
      have hkl : k < L.length := by rw [← HN.out.1]; exact hlt
      have hkm : k < M.length := by rw [HN.out.2]; exact hlt
      obtain ⟨x, hx⟩ : ∃ x, x = L[k] := ⟨_, rfl⟩
      obtain ⟨y, hy⟩ : ∃ y, y = M[k] := ⟨_, rfl⟩
      have hsx := HSH.out.1 x (by rw [hx]; exact List.getElem_mem hkl)
      have hsy := HSH.out.2 y (by rw [hy]; exact List.getElem_mem hkm)
      have HTE : Hid (x = y → L.take (k + 1) = M.take (k + 1)) := Lib.hid (fun e => by rw [List.take_succ_eq_append_getElem hkl, List.take_succ_eq_append_getElem hkm, HE.out, ← hx, ← hy, e])
      have HTN : Hid (x ≠ y → SamB L M (.returned (.bool false))) := Lib.hid (fun e => SamB.no (fun c => e (by rw [hx, hy]; exact getElem_eq c hkl hkm)))
      rcases H1.out with e0 | ⟨b1, o1, q1, l1, g1⟩
      · rw [e0] at hkl; simp at hkl
      rcases H2.out with e0 | ⟨b2, o2, q2, l2, g2⟩
      · rw [e0] at hkm; simp at hkm
      subst q1 q2
      have hf1 : FAt wr b1 (o1 + k * 6) x := fun i hi => (HW.out.cell (p := ⟨b1, _, none⟩) l1).trans (by subst hx; exact g1 k hkl i hi)
      have hf2 : FAt wr b2 (o2 + k * 6) y := fun i hi => (HW.out.cell (p := ⟨b2, _, none⟩) l2).trans (by subst hy; exact g2 k hkm i hi)
      have hl1 : b1 < wr.heap.size := Nat.lt_of_lt_of_le l1 HW.out.size
      have hl2 : b2 < wr.heap.size := Nat.lt_of_lt_of_le l2 HW.out.size
      clear g1 g2 hx hy l1 l2 hkl hkm
      obtain ⟨id, lo, hi, ep, nd, st, rfl⟩ := hsx
      obtain ⟨id2, lo2, hi2, ep2, nd2, st2, rfl⟩ := hsy
      have c0 := hf1 0 (by simp)
      have c1 := hf1 1 (by simp)
      have c2 := hf1 2 (by simp)
      have c3 := hf1 3 (by simp)
      have c4 := hf1 4 (by simp)
      have c5 := hf1 5 (by simp)
      have d0 := hf2 0 (by simp)
      have d1 := hf2 1 (by simp)
      have d2 := hf2 2 (by simp)
      have d3 := hf2 3 (by simp)
      have d4 := hf2 4 (by simp)
      have d5 := hf2 5 (by simp)
      simp only [List.getElem_cons_zero, List.getElem_cons_succ, Fld.cell, Nat.add_zero] at c0 c1 c2 c3 c4 c5 d0 d1 d2 d3 d4 d5
      clear hf1 hf2
      have HWD := Lib.hid (HW.out.drew)
      by_cases e0 : id = id2
      case neg =>
        have HF := Lib.hid (HTN.out (fun c => e0 (by have := congrArg (fun l => l[0]?) c; simpa using this)))
        skip
        go_upto_region 6 with fail
        go_region
        go_wp2_with fail
        go_ret
        exact ⟨HF.out, by first | exact HWD.out | exact HW.out⟩
      subst e0
      by_cases e1 : lo = lo2
      case neg =>
        have HF := Lib.hid (HTN.out (fun c => e1 (by have := congrArg (fun l => l[1]?) c; simpa using this)))
        have hne1 := bl_ne e1
        go_upto_region 6 with fail
        go_region
        go_wp2_with fail
        go_ret
        exact ⟨HF.out, by first | exact HWD.out | exact HW.out⟩
      subst e1
      by_cases e2 : hi = hi2
      case neg =>
        have HF := Lib.hid (HTN.out (fun c => e2 (by have := congrArg (fun l => l[2]?) c; simpa using this)))
        have hne2 := bl_ne e2
        go_upto_region 6 with fail
        go_region
        go_wp2_with fail
        go_ret
        exact ⟨HF.out, by first | exact HWD.out | exact HW.out⟩
      subst e2
      by_cases e3 : ep = ep2
      case neg =>
        have HF := Lib.hid (HTN.out (fun c => e3 (by have := congrArg (fun l => l[3]?) c; simpa using this)))
        skip
        go_upto_region 6 with fail
        go_region
        go_wp2_with fail
        go_ret
        exact ⟨HF.out, by first | exact HWD.out | exact HW.out⟩
      subst e3
      by_cases e4 : nd = nd2
      case neg =>
        have HF := Lib.hid (HTN.out (fun c => e4 (by have := congrArg (fun l => l[4]?) c; simpa using this)))
        skip
        go_upto_region 6 with fail
        go_region
        go_wp2_with fail
        go_ret
        exact ⟨HF.out, by first | exact HWD.out | exact HW.out⟩
      subst e4
      by_cases e5 : st = st2
      case neg =>
        have HF := Lib.hid (HTN.out (fun c => e5 (by have := congrArg (fun l => l[5]?) c; simpa using this)))
        skip
        go_upto_region 6 with fail
        go_region
        go_wp2_with fail
        go_ret
        exact ⟨HF.out, by first | exact HWD.out | exact HW.out⟩
      subst e5
      have HTK := Lib.hid (HTE.out rfl)
      clear HTE HTN
      go_upto_region 6 with fail
      go_region
      go_wp2_with fail
      go_roundw
      case rel => exact ⟨k + 1, by go_num, by omega, HTK, by first | exact HWD | exact HW⟩
      case measure => simp [intOf]; omega
    · obtain rfl : k = n := by omega
      have hki : ¬ (k : Int) < (k : Int) := by omega
      have HF : Hid (SamB L M (.returned (.bool true))) := Lib.hid (SamB.yes (by have := HE.out; rw [HN.out.1, List.take_length, ← HN.out.1, ← HN.out.2, List.take_length] at this; exact this))
      clear hlt hk
      go_wp2_with fail
      go_ret
      exact ⟨HF.out, HW.out⟩
set_option maxRecDepth 100000 in
set_option maxHeartbeats 4000000 in
theorem same04x (w : World) (a1 : Option Addr) (n1 c1 : Nat) (a2 : Option Addr) (n2 c2 : Nat) (L M : List (List Fld)) (h1 : LRv w 4 (.slice a1 n1 c1) L) (h2 : LRv w 4 (.slice a2 n2 c2) M) (hsh : ∀ x ∈ L, isEntry x) (hsh2 : ∀ x ∈ M, isEntry x) (hm : L.length ≤ maxLen) (hm2 : M.length ≤ maxLen) :
    Calls Try.prog 26 #[.slice a1 n1 c1, .slice a2 n2 c2] w fun e w' => SamB L M e ∧ Below w.heap.size w w' := by
  unfold maxLen at hm hm2
  obtain ⟨_, _, _, e1, k1, r1⟩ := h1
  obtain ⟨_, _, _, e2, k2, r2⟩ := h2
  injection e1 with e1 e1' e1''
  injection e2 with e2 e2' e2''
  subst e1 e1' e1'' e2 e2' e2''
  by_cases hn : n1 = n2
  case neg =>
    have hni : ¬ (n1 : Int) = (n2 : Int) := by omega
    have HF : Hid (SamB L M (.returned (.bool false))) := Lib.hid (SamB.no (fun e => hn (by rw [← k1, ← k2, e])))
    clear r1 r2 k1 k2 hsh hsh2
    go_enter Try.func26, Try.ntmps26
    go_wp2_with fail
    go_ret
    exact ⟨HF.out, Below.refl _ _⟩
  subst hn
  obtain ⟨n, hn⟩ : ∃ n, n = L.length := ⟨_, rfl⟩
  rw [← hn] at k1
  subst k1
  rw [← hn] at hm
  have HN := Lib.hid (And.intro hn k2)
  have H1 := Lib.hid r1
  have H2 := Lib.hid r2
  have HSH := Lib.hid (And.intro hsh hsh2)
  clear r1 r2 hsh hsh2 hn k2
  go_enter Try.func26, Try.ntmps26
  go_wp2_with fail
  go_loopw [5] (fun i wr => ∃ k : Nat, i = .int .i64 k ∧ k ≤ n ∧ Hid (L.take k = M.take k) ∧ Hid (Below w.heap.size w wr)) (fun i _ => n - (intOf i).toNat)
  case atStart => exact ⟨0, by first | rfl | go_num, by omega, Lib.hid rfl, Lib.hid (Below.refl _ _)⟩
  case round =>
    obtain ⟨k, rfl, hk, HE, HW⟩ := hrel
    by_cases hlt : k < n
    · have hki : (k : Int) < (n : Int) := by omega
      have hkl : k < L.length := by rw [← HN.out.1]; exact hlt
      have hkm : k < M.length := by rw [HN.out.2]; exact hlt
      obtain ⟨x, hx⟩ : ∃ x, x = L[k] := ⟨_, rfl⟩
      obtain ⟨y, hy⟩ : ∃ y, y = M[k] := ⟨_, rfl⟩
      have hsx := HSH.out.1 x (by rw [hx]; exact List.getElem_mem hkl)
      have hsy := HSH.out.2 y (by rw [hy]; exact List.getElem_mem hkm)
      have HTE : Hid (x = y → L.take (k + 1) = M.take (k + 1)) := Lib.hid (fun e => by rw [List.take_succ_eq_append_getElem hkl, List.take_succ_eq_append_getElem hkm, HE.out, ← hx, ← hy, e])
      have HTN : Hid (x ≠ y → SamB L M (.returned (.bool false))) := Lib.hid (fun e => SamB.no (fun c => e (by rw [hx, hy]; exact getElem_eq c hkl hkm)))
      rcases H1.out with e0 | ⟨b1, o1, q1, l1, g1⟩
      · rw [e0] at hkl; simp at hkl
      rcases H2.out with e0 | ⟨b2, o2, q2, l2, g2⟩
      · rw [e0] at hkm; simp at hkm
      subst q1 q2
      have hf1 : FAt wr b1 (o1 + k * 4) x := fun i hi => (HW.out.cell (p := ⟨b1, _, none⟩) l1).trans (by subst hx; exact g1 k hkl i hi)
      have hf2 : FAt wr b2 (o2 + k * 4) y := fun i hi => (HW.out.cell (p := ⟨b2, _, none⟩) l2).trans (by subst hy; exact g2 k hkm i hi)
      have hl1 : b1 < wr.heap.size := Nat.lt_of_lt_of_le l1 HW.out.size
      have hl2 : b2 < wr.heap.size := Nat.lt_of_lt_of_le l2 HW.out.size
      clear g1 g2 hx hy l1 l2 hkl hkm
      obtain ⟨ky, va, g, sq, rfl⟩ := hsx
      obtain ⟨ky2, va2, g2, sq2, rfl⟩ := hsy
      have c0 := hf1 0 (by simp)
      have c1 := hf1 1 (by simp)
      have c2 := hf1 2 (by simp)
      have c3 := hf1 3 (by simp)
      have d0 := hf2 0 (by simp)
      have d1 := hf2 1 (by simp)
      have d2 := hf2 2 (by simp)
      have d3 := hf2 3 (by simp)
      simp only [List.getElem_cons_zero, List.getElem_cons_succ, Fld.cell, Nat.add_zero] at c0 c1 c2 c3 d0 d1 d2 d3
      clear hf1 hf2
      have HWD := Lib.hid (HW.out.drew)
      by_cases e0 : ky = ky2
      case neg =>
        have HF := Lib.hid (HTN.out (fun c => e0 (by have := congrArg (fun l => l[0]?) c; simpa using this)))
        have hne0 := bl_ne e0
        go_upto_region 6 with fail
        go_region
        go_wp2_with fail
        go_ret
        exact ⟨HF.out, by first | exact HWD.out | exact HW.out⟩
      subst e0
      by_cases e1 : va = va2
      case neg =>
        have HF := Lib.hid (HTN.out (fun c => e1 (by have := congrArg (fun l => l[1]?) c; simpa using this)))
        have hne1 := bl_ne e1
        go_upto_region 6 with fail
        go_region
        go_wp2_with fail
        go_ret
        exact ⟨HF.out, by first | exact HWD.out | exact HW.out⟩
      subst e1
      by_cases e2 : g = g2
      case neg =>
        have HF := Lib.hid (HTN.out (fun c => e2 (by have := congrArg (fun l => l[2]?) c; simpa using this)))
        skip
        go_upto_region 6 with fail
        go_region
        go_wp2_with fail
        go_ret
        exact ⟨HF.out, by first | exact HWD.out | exact HW.out⟩
      subst e2
      by_cases e3 : sq = sq2
      case neg =>
        have HF := Lib.hid (HTN.out (fun c => e3 (by have := congrArg (fun l => l[3]?) c; simpa using this)))
        skip
        go_upto_region 6 with fail
        go_region
        go_wp2_with fail
        go_ret
        exact ⟨HF.out, by first | exact HWD.out | exact HW.out⟩
      subst e3
      have HTK := Lib.hid (HTE.out rfl)
      clear HTE HTN
      go_upto_region 6 with fail
      go_region
      go_wp2_with fail
      go_roundw
      case rel => exact ⟨k + 1, by go_num, by omega, HTK, by first | exact HWD | exact HW⟩
      case measure => simp [intOf]; omega
    · obtain rfl : k = n := by omega
      have hki : ¬ (k : Int) < (k : Int) := by omega
      have HF : Hid (SamB L M (.returned (.bool true))) := Lib.hid (SamB.yes (by have := HE.out; rw [HN.out.1, List.take_length, ← HN.out.1, ← HN.out.2, List.take_length] at this; exact this))
      clear hlt hk
      go_wp2_with fail
      go_ret
      exact ⟨HF.out, HW.out⟩
end Go.Proofs.Ytdnhmkfgcpdbkaa
