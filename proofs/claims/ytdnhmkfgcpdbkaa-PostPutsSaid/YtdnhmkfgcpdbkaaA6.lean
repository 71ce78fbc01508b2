/-
  Texts of mine as one, in the order in which they build: Aa, Ab, Ac, Ad. Conditions: as each says.
-/
import Derived.Test.YtdnhmkfgcpdbkaaA5
import Derived.Laws.StructEq
import Derived.Test.YtdnhmkfgcpdbkaaTz
import Derived.Test.YtdnhmkfgcpdbkaaRg
namespace Go.Proofs.Ytdnhmkfgcpdbkaa
open Go.RowKit
set_option linter.unusedVariables false
set_option linter.unusedSimpArgs false

/-- True just if the two are the same. -/
def SamB {α : Type} (a b : α) (e : Ending) : Prop := ∃ q : Bool, e = .returned (.bool q) ∧ (q = true ↔ a = b)
theorem bl_ne {a b : ByteArray} (h : a ≠ b) : ¬ a.toList = b.toList := fun e => h (by rw [ByteArray.toList_eq, ByteArray.toList_eq] at e; exact ByteArray.ext (Array.ext' e))
theorem SamB.no {α : Type} {a b : α} (h : a ≠ b) : SamB a b (.returned (.bool false)) := ⟨false, rfl, ⟨fun c => (by cases c), fun c => absurd c h⟩⟩
theorem SamB.yes {α : Type} {a b : α} (h : a = b) : SamB a b (.returned (.bool true)) := ⟨true, rfl, ⟨fun _ => h, fun _ => rfl⟩⟩
theorem getElem_eq {α : Type} {L M : List α} (h : L = M) {k : Nat} (hl : k < L.length) (hm : k < M.length) : L[k] = M[k] := by subst h; rfl
set_option maxRecDepth 100000 in
set_option maxHeartbeats 4000000 in
theorem sameMapx (w : World) (a1 : Option Addr) (n1 c1 : Nat) (a2 : Option Addr) (n2 c2 : Nat) (L M : List (List Fld)) (h1 : LRv w 6 (.slice a1 n1 c1) L) (h2 : LRv w 6 (.slice a2 n2 c2) M) (hsh : ∀ x ∈ L, isShard x) (hsh2 : ∀ x ∈ M, isShard x) (hm : L.length ≤ maxLen) (hm2 : M.length ≤ maxLen) :
    Calls Try.prog 25 #[.slice a1 n1 c1, .slice a2 n2 c2] w fun e w' => SamB L M e ∧ Below w.heap.size w w' := by
  unfold maxLen at hm hm2
  obtain ⟨_, _, _, e1, k1, r1⟩ := h1
  obtain ⟨_, _, _, e2, k2, r2⟩ := h2
  injection e1 with e1 e1' e1''
  injection e2 with e2 e2' e2''
  subst e1 e1' e1'' e2 e2' e2''
  by_cases hn : n1 = n2
  case neg =>
    have hni : ¬ (n1 : Int) = (n2 : Int) := by omega
    have HF : Hid (SamB L M (.returned (.bool false))) := Lib.hid (SamB.no (fun e => hn (by rw [← k1, ← k2, e])))
    clear r1 r2 k1 k2 hsh hsh2
    go_enter Try.func25, Try.ntmps25
    go_wp2_with fail
    go_ret
    exact ⟨HF.out, Below.refl _ _⟩
  subst hn
  obtain ⟨n, hn⟩ : ∃ n, n = L.length := ⟨_, rfl⟩
  rw [← hn] at k1
  subst k1
  rw [← hn] at hm
  have HN := Lib.hid (And.intro hn k2)
  have H1 := Lib.hid r1
  have H2 := Lib.hid r2
  have HSH := Lib.hid (And.intro hsh hsh2)
  clear r1 r2 hsh hsh2 hn k2
  go_enter Try.func25, Try.ntmps25
  go_wp2_with fail
  go_loopw [5] (fun i wr => ∃ k : Nat, i = .int .i64 k ∧ k ≤ n ∧ Hid (L.take k = M.take k) ∧ Hid (Below w.heap.size w wr)) (fun i _ => n - (intOf i).toNat)
  case atStart => exact ⟨0, by first | rfl | go_num, by omega, Lib.hid rfl, Lib.hid (Below.refl _ _)⟩
  case round =>
    obtain ⟨k, rfl, hk, HE, HW⟩ := hrel
    by_cases hlt : k < n
    · have hki : (k : Int) < (n : Int) := by omega
      have hkl : k < L.length := by rw [← HN.out.1]; exact hlt
      have hkm : k < M.length := by rw [HN.out.2]; exact hlt
      obtain ⟨x, hx⟩ : ∃ x, x = L[k] := ⟨_, rfl⟩
      obtain ⟨y, hy⟩ : ∃ y, y = M[k] := ⟨_, rfl⟩
      have hsx := HSH.out.1 x (by rw [hx]; exact List.getElem_mem hkl)
      have hsy := HSH.out.2 y (by rw [hy]; exact List.getElem_mem hkm)
      have HTE : Hid (x = y → L.take (k + 1) = M.take (k + 1)) := Lib.hid (fun e => by rw [List.take_succ_eq_append_getElem hkl, List.take_succ_eq_append_getElem hkm, HE.out, ← hx, ← hy, e])
      have HTN : Hid (x ≠ y → SamB L M (.returned (.bool false))) := Lib.hid (fun e => SamB.no (fun c => e (by rw [hx, hy]; exact getElem_eq c hkl hkm)))
      rcases H1.out with e0 | ⟨b1, o1, q1, l1, g1⟩
      · rw [e0] at hkl; simp at hkl
      rcases H2.out with e0 | ⟨b2, o2, q2, l2, g2⟩
      · rw [e0] at hkm; simp at hkm
      subst q1 q2
      have hf1 : FAt wr b1 (o1 + k * 6) x := fun i hi => (HW.out.cell (p := ⟨b1, _, none⟩) l1).trans (by subst hx; exact g1 k hkl i hi)
      have hf2 : FAt wr b2 (o2 + k * 6) y := fun i hi => (HW.out.cell (p := ⟨b2, _, none⟩) l2).trans (by subst hy; exact g2 k hkm i hi)
      have hl1 : b1 < wr.heap.size := Nat.lt_of_lt_of_le l1 HW.out.size
      have hl2 : b2 < wr.heap.size := Nat.lt_of_lt_of_le l2 HW.out.size
      clear g1 g2 hx hy l1 l2 hkl hkm
      obtain ⟨id, lo, hi, ep, nd, st, rfl⟩ := hsx
      obtain ⟨id2, lo2, hi2, ep2, nd2, st2, rfl⟩ := hsy
      have c0 := hf1 0 (by simp)
      have c1 := hf1 1 (by simp)
      have c2 := hf1 2 (by simp)
      have c3 := hf1 3 (by simp)
      have c4 := hf1 4 (by simp)
      have c5 := hf1 5 (by simp)
      have d0 := hf2 0 (by simp)
      have d1 := hf2 1 (by simp)
      have d2 := hf2 2 (by simp)
      have d3 := hf2 3 (by simp)
      have d4 := hf2 4 (by simp)
      have d5 := hf2 5 (by simp)
      simp only [List.getElem_cons_zero, List.getElem_cons_succ, Fld.cell, Nat.add_zero] at c0 c1 c2 c3 c4 c5 d0 d1 d2 d3 d4 d5
      clear hf1 hf2
      have HWD := Lib.hid (HW.out.drew)
      by_cases e0 : id = id2
      case neg =>
        have HF := Lib.hid (HTN.out (fun c => e0 (by have := congrArg (fun l => l[0]?) c; simpa using this)))
        skip
        go_upto_region 6 with fail
        go_region
        go_wp2_with fail
        go_ret
        exact ⟨HF.out, by first | exact HWD.out | exact HW.out⟩
      subst e0
      by_cases e1 : lo = lo2
      case neg =>
        have HF := Lib.hid (HTN.out (fun c => e1 (by have := congrArg (fun l => l[1]?) c; simpa using this)))
        have hne1 := bl_ne e1
        go_upto_region 6 with fail
        go_region
        go_wp2_with fail
        go_ret
        exact ⟨HF.out, by first | exact HWD.out | exact HW.out⟩
      subst e1
      by_cases e2 : hi = hi2
      case neg =>
        have HF := Lib.hid (HTN.out (fun c => e2 (by have := congrArg (fun l => l[2]?) c; simpa using this)))
        have hne2 := bl_ne e2
        go_upto_region 6 with fail
        go_region
        go_wp2_with fail
        go_ret
        exact ⟨HF.out, by first | exact HWD.out | exact HW.out⟩
      subst e2
      by_cases e3 : ep = ep2
      case neg =>
        have HF := Lib.hid (HTN.out (fun c => e3 (by have := congrArg (fun l => l[3]?) c; simpa using this)))
        skip
        go_upto_region 6 with fail
        go_region
        go_wp2_with fail
        go_ret
        exact ⟨HF.out, by first | exact HWD.out | exact HW.out⟩
      subst e3
      by_cases e4 : nd = nd2
      case neg =>
        have HF := Lib.hid (HTN.out (fun c => e4 (by have := congrArg (fun l => l[4]?) c; simpa using this)))
        skip
        go_upto_region 6 with fail
        go_region
        go_wp2_with fail
        go_ret
        exact ⟨HF.out, by first | exact HWD.out | exact HW.out⟩
      subst e4
      by_cases e5 : st = st2
      case neg =>
        have HF := Lib.hid (HTN.out (fun c => e5 (by have := congrArg (fun l => l[5]?) c; simpa using this)))
        skip
        go_upto_region 6 with fail
        go_region
        go_wp2_with fail
        go_ret
        exact ⟨HF.out, by first | exact HWD.out | exact HW.out⟩
      subst e5
      have HTK := Lib.hid (HTE.out rfl)
      clear HTE HTN
      go_upto_region 6 with fail
      go_region
      go_wp2_with fail
      go_roundw
      case rel => exact ⟨k + 1, by go_num, by omega, HTK, by first | exact HWD | exact HW⟩
      case measure => simp [intOf]; omega
    · obtain rfl : k = n := by omega
      have hki : ¬ (k : Int) < (k : Int) := by omega
      have HF : Hid (SamB L M (.returned (.bool true))) := Lib.hid (SamB.yes (by have := HE.out; rw [HN.out.1, List.take_length, ← HN.out.1, ← HN.out.2, List.take_length] at this; exact this))
      clear hlt hk
      go_wp2_with fail
      go_ret
      exact ⟨HF.out, HW.out⟩
set_option maxRecDepth 100000 in
set_option maxHeartbeats 4000000 in
theorem same04x (w : World) (a1 : Option Addr) (n1 c1 : Nat) (a2 : Option Addr) (n2 c2 : Nat) (L M : List (List Fld)) (h1 : LRv w 4 (.slice a1 n1 c1) L) (h2 : LRv w 4 (.slice a2 n2 c2) M) (hsh : ∀ x ∈ L, isEntry x) (hsh2 : ∀ x ∈ M, isEntry x) (hm : L.length ≤ maxLen) (hm2 : M.length ≤ maxLen) :
    Calls Try.prog 26 #[.slice a1 n1 c1, .slice a2 n2 c2] w fun e w' => SamB L M e ∧ Below w.heap.size w w' := by
  unfold maxLen at hm hm2
  obtain ⟨_, _, _, e1, k1, r1⟩ := h1
  obtain ⟨_, _, _, e2, k2, r2⟩ := h2
  injection e1 with e1 e1' e1''
  injection e2 with e2 e2' e2''
  subst e1 e1' e1'' e2 e2' e2''
  by_cases hn : n1 = n2
  case neg =>
    have hni : ¬ (n1 : Int) = (n2 : Int) := by omega
    have HF : Hid (SamB L M (.returned (.bool false))) := Lib.hid (SamB.no (fun e => hn (by rw [← k1, ← k2, e])))
    clear r1 r2 k1 k2 hsh hsh2
    go_enter Try.func26, Try.ntmps26
    go_wp2_with fail
    go_ret
    exact ⟨HF.out, Below.refl _ _⟩
  subst hn
  obtain ⟨n, hn⟩ : ∃ n, n = L.length := ⟨_, rfl⟩
  rw [← hn] at k1
  subst k1
  rw [← hn] at hm
  have HN := Lib.hid (And.intro hn k2)
  have H1 := Lib.hid r1
  have H2 := Lib.hid r2
  have HSH := Lib.hid (And.intro hsh hsh2)
  clear r1 r2 hsh hsh2 hn k2
  go_enter Try.func26, Try.ntmps26
  go_wp2_with fail
  go_loopw [5] (fun i wr => ∃ k : Nat, i = .int .i64 k ∧ k ≤ n ∧ Hid (L.take k = M.take k) ∧ Hid (Below w.heap.size w wr)) (fun i _ => n - (intOf i).toNat)
  case atStart => exact ⟨0, by first | rfl | go_num, by omega, Lib.hid rfl, Lib.hid (Below.refl _ _)⟩
  case round =>
    obtain ⟨k, rfl, hk, HE, HW⟩ := hrel
    by_cases hlt : k < n
    · have hki : (k : Int) < (n : Int) := by omega
      have hkl : k < L.length := by rw [← HN.out.1]; exact hlt
      have hkm : k < M.length := by rw [HN.out.2]; exact hlt
      obtain ⟨x, hx⟩ : ∃ x, x = L[k] := ⟨_, rfl⟩
      obtain ⟨y, hy⟩ : ∃ y, y = M[k] := ⟨_, rfl⟩
      have hsx := HSH.out.1 x (by rw [hx]; exact List.getElem_mem hkl)
      have hsy := HSH.out.2 y (by rw [hy]; exact List.getElem_mem hkm)
      have HTE : Hid (x = y → L.take (k + 1) = M.take (k + 1)) := Lib.hid (fun e => by rw [List.take_succ_eq_append_getElem hkl, List.take_succ_eq_append_getElem hkm, HE.out, ← hx, ← hy, e])
      have HTN : Hid (x ≠ y → SamB L M (.returned (.bool false))) := Lib.hid (fun e => SamB.no (fun c => e (by rw [hx, hy]; exact getElem_eq c hkl hkm)))
      rcases H1.out with e0 | ⟨b1, o1, q1, l1, g1⟩
      · rw [e0] at hkl; simp at hkl
      rcases H2.out with e0 | ⟨b2, o2, q2, l2, g2⟩
      · rw [e0] at hkm; simp at hkm
      subst q1 q2
      have hf1 : FAt wr b1 (o1 + k * 4) x := fun i hi => (HW.out.cell (p := ⟨b1, _, none⟩) l1).trans (by subst hx; exact g1 k hkl i hi)
      have hf2 : FAt wr b2 (o2 + k * 4) y := fun i hi => (HW.out.cell (p := ⟨b2, _, none⟩) l2).trans (by subst hy; exact g2 k hkm i hi)
      have hl1 : b1 < wr.heap.size := Nat.lt_of_lt_of_le l1 HW.out.size
      have hl2 : b2 < wr.heap.size := Nat.lt_of_lt_of_le l2 HW.out.size
      clear g1 g2 hx hy l1 l2 hkl hkm
      obtain ⟨ky, va, g, sq, rfl⟩ := hsx
      obtain ⟨ky2, va2, g2, sq2, rfl⟩ := hsy
      have c0 := hf1 0 (by simp)
      have c1 := hf1 1 (by simp)
      have c2 := hf1 2 (by simp)
      have c3 := hf1 3 (by simp)
      have d0 := hf2 0 (by simp)
      have d1 := hf2 1 (by simp)
      have d2 := hf2 2 (by simp)
      have d3 := hf2 3 (by simp)
      simp only [List.getElem_cons_zero, List.getElem_cons_succ, Fld.cell, Nat.add_zero] at c0 c1 c2 c3 d0 d1 d2 d3
      clear hf1 hf2
      have HWD := Lib.hid (HW.out.drew)
      by_cases e0 : ky = ky2
      case neg =>
        have HF := Lib.hid (HTN.out (fun c => e0 (by have := congrArg (fun l => l[0]?) c; simpa using this)))
        have hne0 := bl_ne e0
        go_upto_region 6 with fail
        go_region
        go_wp2_with fail
        go_ret
        exact ⟨HF.out, by first | exact HWD.out | exact HW.out⟩
      subst e0
      by_cases e1 : va = va2
      case neg =>
        have HF := Lib.hid (HTN.out (fun c => e1 (by have := congrArg (fun l => l[1]?) c; simpa using this)))
        have hne1 := bl_ne e1
        go_upto_region 6 with fail
        go_region
        go_wp2_with fail
        go_ret
        exact ⟨HF.out, by first | exact HWD.out | exact HW.out⟩
      subst e1
      by_cases e2 : g = g2
      case neg =>
        have HF := Lib.hid (HTN.out (fun c => e2 (by have := congrArg (fun l => l[2]?) c; simpa using this)))
        skip
        go_upto_region 6 with fail
        go_region
        go_wp2_with fail
        go_ret
        exact ⟨HF.out, by first | exact HWD.out | exact HW.out⟩
      subst e2
      by_cases e3 : sq = sq2
      case neg =>
        have HF := Lib.hid (HTN.out (fun c => e3 (by have := congrArg (fun l => l[3]?) c; simpa using this)))
        skip
        go_upto_region 6 with fail
        go_region
        go_wp2_with fail
        go_ret
        exact ⟨HF.out, by first | exact HWD.out | exact HW.out⟩
      subst e3
      have HTK := Lib.hid (HTE.out rfl)
      clear HTE HTN
      go_upto_region 6 with fail
      go_region
      go_wp2_with fail
      go_roundw
      case rel => exact ⟨k + 1, by go_num, by omega, HTK, by first | exact HWD | exact HW⟩
      case measure => simp [intOf]; omega
    · obtain rfl : k = n := by omega
      have hki : ¬ (k : Int) < (k : Int) := by omega
      have HF : Hid (SamB L M (.returned (.bool true))) := Lib.hid (SamB.yes (by have := HE.out; rw [HN.out.1, List.take_length, ← HN.out.1, ← HN.out.2, List.take_length] at this; exact this))
      clear hlt hk
      go_wp2_with fail
      go_ret
      exact ⟨HF.out, HW.out⟩
end Go.Proofs.Ytdnhmkfgcpdbkaa
namespace Go.Proofs.Ytdnhmkfgcpdbkaa
open Go.RowKit
set_option linter.unusedVariables false
set_option linter.unusedSimpArgs false

set_option maxRecDepth 100000 in
set_option maxHeartbeats 8000000 in
theorem sameRepx (w : World) (er : Int) (rv : ByteArray) (rg : Bool) (ru : ByteArray) (a1 : Option Addr) (n1 c1 : Nat) (er2 : Int) (rv2 : ByteArray) (rg2 : Bool) (ru2 : ByteArray) (a2 : Option Addr) (n2 c2 : Nat) (L M : List (List Fld)) (h1 : LRv w 2 (.slice a1 n1 c1) L) (h2 : LRv w 2 (.slice a2 n2 c2) M) (hsh : ∀ x ∈ L, isPair x) (hsh2 : ∀ x ∈ M, isPair x) (hm : L.length ≤ maxLen) (hm2 : M.length ≤ maxLen) :
    Calls Try.prog 24 #[.agg #[.int .i64 er, .string rv, .bool rg, .slice a1 n1 c1, .string ru], .agg #[.int .i64 er2, .string rv2, .bool rg2, .slice a2 n2 c2, .string ru2]] w fun e w' => SamB (er, rv, rg, ru, L) (er2, rv2, rg2, ru2, M) e ∧ Below w.heap.size w w' := by
  unfold maxLen at hm hm2
  obtain ⟨_, _, _, e1, k1, r1⟩ := h1
  obtain ⟨_, _, _, e2, k2, r2⟩ := h2
  injection e1 with e1 e1' e1''
  injection e2 with e2 e2' e2''
  subst e1 e1' e1'' e2 e2' e2''
  obtain ⟨rx, hrx⟩ : ∃ x, x = w.heap.size := ⟨_, rfl⟩
  obtain ⟨ry, hry⟩ : ∃ x, x = w.heap.size + 1 := ⟨_, rfl⟩
  obtain ⟨W1, hW1⟩ : ∃ W, W = (w.alloc (.cells #[.int .i64 er, .string rv, .bool rg, .slice a1 n1 c1, .string ru] 30)).alloc (.cells #[.int .i64 er2, .string rv2, .bool rg2, .slice a2 n2 c2, .string ru2] 30) := ⟨_, rfl⟩
  have s1 : (w.alloc (.cells #[.int .i64 er, .string rv, .bool rg, .slice a1 n1 c1, .string ru] 30)).heap.size = w.heap.size + 1 := by simp
  have s2 : W1.heap.size = w.heap.size + 2 := by rw [hW1]; simp
  have b1 : Below w.heap.size w W1 := by rw [hW1]; exact ((Below.refl _ w).alloc (Nat.le_refl _) _).alloc (by rw [s1]; omega) _
  have hx : W1.heap[rx]? = some (.cells #[.int .i64 er, .string rv, .bool rg, .slice a1 n1 c1, .string ru] 30 (0, 0)) := by
    rw [hW1, hrx, Below.heap_alloc _ _ _ (by rw [s1]; omega)]
    exact heap_alloc_new w _
  have hy : W1.heap[ry]? = some (.cells #[.int .i64 er2, .string rv2, .bool rg2, .slice a2 n2 c2, .string ru2] 30 (0, 0)) := by
    have := heap_alloc_new (w.alloc (.cells #[.int .i64 er, .string rv, .bool rg, .slice a1 n1 c1, .string ru] 30)) (.cells #[.int .i64 er2, .string rv2, .bool rg2, .slice a2 n2 c2, .string ru2] 30)
    rw [s1] at this
    rw [hW1, hry]
    exact this
  have z0 : W1.cell? ⟨rx, 0, none⟩ = some (.int .i64 er) := by unfold World.cell?; simp [hx]
  have y0 : W1.cell? ⟨ry, 0, none⟩ = some (.int .i64 er2) := by unfold World.cell?; simp [hy]
  have z1 : W1.cell? ⟨rx, 1, none⟩ = some (.string rv) := by unfold World.cell?; simp [hx]
  have y1 : W1.cell? ⟨ry, 1, none⟩ = some (.string rv2) := by unfold World.cell?; simp [hy]
  have z2 : W1.cell? ⟨rx, 2, none⟩ = some (.bool rg) := by unfold World.cell?; simp [hx]
  have y2 : W1.cell? ⟨ry, 2, none⟩ = some (.bool rg2) := by unfold World.cell?; simp [hy]
  have z3 : W1.cell? ⟨rx, 3, none⟩ = some (.slice a1 n1 c1) := by unfold World.cell?; simp [hx]
  have y3 : W1.cell? ⟨ry, 3, none⟩ = some (.slice a2 n2 c2) := by unfold World.cell?; simp [hy]
  have z4 : W1.cell? ⟨rx, 4, none⟩ = some (.string ru) := by unfold World.cell?; simp [hx]
  have y4 : W1.cell? ⟨ry, 4, none⟩ = some (.string ru2) := by unfold World.cell?; simp [hy]
  have hlx : rx < W1.heap.size := by omega
  have hly : ry < W1.heap.size := by omega
  have HL : Hid (∀ wr, Below W1.heap.size W1 wr → (wr.cell? ⟨rx, 3, none⟩ = some (.slice a1 n1 c1) ∧ wr.cell? ⟨ry, 3, none⟩ = some (.slice a2 n2 c2)) ∧ rx < wr.heap.size ∧ ry < wr.heap.size) := Lib.hid fun wr hb => ⟨⟨(hb.cell (p := ⟨rx, _, none⟩) hlx).trans z3, (hb.cell (p := ⟨ry, _, none⟩) hly).trans y3⟩, Nat.lt_of_lt_of_le hlx hb.size, Nat.lt_of_lt_of_le hly hb.size⟩
  have HX := Lib.hid (And.intro hrx hry)
  have HB := Lib.hid b1
  have H1 : Hid (L = [] ∨ ∃ rb ro, a1 = some ⟨rb, ro, none⟩ ∧ rb < W1.heap.size ∧ RowAt W1 rb ro 2 L) := Lib.hid (by
    rcases r1 with e | ⟨rb, ro, h3, h4, h5⟩
    · exact .inl e
    · exact .inr ⟨rb, ro, h3, Nat.lt_of_lt_of_le h4 b1.size, fun i hi j hj => (b1.cell (p := ⟨rb, _, none⟩) h4).trans (h5 i hi j hj)⟩)
  have H2 : Hid (M = [] ∨ ∃ rb ro, a2 = some ⟨rb, ro, none⟩ ∧ rb < W1.heap.size ∧ RowAt W1 rb ro 2 M) := Lib.hid (by
    rcases r2 with e | ⟨rb, ro, h3, h4, h5⟩
    · exact .inl e
    · exact .inr ⟨rb, ro, h3, Nat.lt_of_lt_of_le h4 b1.size, fun i hi j hj => (b1.cell (p := ⟨rb, _, none⟩) h4).trans (h5 i hi j hj)⟩)
  have HSH := Lib.hid (And.intro hsh hsh2)
  have HK := Lib.hid (And.intro k1 k2)
  clear r1 r2 hsh hsh2 s1 s2 b1 hx hy hrx hry k1 k2
  by_cases eer : er = er2
  case neg =>
    have HF : Hid (SamB (er, rv, rg, ru, L) (er2, rv2, rg2, ru2, M) (.returned (.bool false))) := Lib.hid (SamB.no (fun c => eer (by simp only [Prod.mk.injEq] at c; simp only [c])))
    skip
    go_enter Try.func24, Try.ntmps24
    go_upto_region 1 with fail
    rw [← hW1]
    rw [show w.heap.size + 1 = ry from HX.out.2.symm]
    rw [show (Value.pointer (some ⟨w.heap.size, 0, none⟩)) = .pointer (some ⟨rx, 0, none⟩) by rw [HX.out.1]]
    clear hW1
    go_wp2_with fail
    go_ret
    exact ⟨HF.out, HB.out⟩
  subst eer
  by_cases erv : rv = rv2
  case neg =>
    have HF : Hid (SamB (er, rv, rg, ru, L) (er, rv2, rg2, ru2, M) (.returned (.bool false))) := Lib.hid (SamB.no (fun c => erv (by simp only [Prod.mk.injEq] at c; simp only [c])))
    have hnerv := bl_ne erv
    go_enter Try.func24, Try.ntmps24
    go_upto_region 1 with fail
    rw [← hW1]
    rw [show w.heap.size + 1 = ry from HX.out.2.symm]
    rw [show (Value.pointer (some ⟨w.heap.size, 0, none⟩)) = .pointer (some ⟨rx, 0, none⟩) by rw [HX.out.1]]
    clear hW1
    go_wp2_with fail
    go_ret
    exact ⟨HF.out, HB.out⟩
  subst erv
  by_cases erg : rg = rg2
  case neg =>
    have HF : Hid (SamB (er, rv, rg, ru, L) (er, rv, rg2, ru2, M) (.returned (.bool false))) := Lib.hid (SamB.no (fun c => erg (by simp only [Prod.mk.injEq] at c; simp only [c])))
    skip
    cases rg <;> cases rg2
    · exact absurd rfl erg
    rotate_right
    · exact absurd rfl erg
    all_goals
      go_enter Try.func24, Try.ntmps24
      go_upto_region 1 with fail
      rw [← hW1]
      rw [show w.heap.size + 1 = ry from HX.out.2.symm]
      rw [show (Value.pointer (some ⟨w.heap.size, 0, none⟩)) = .pointer (some ⟨rx, 0, none⟩) by rw [HX.out.1]]
      clear hW1
      go_wp2_with fail
      go_ret
      exact ⟨HF.out, HB.out⟩
  subst erg
  by_cases eru : ru = ru2
  case neg =>
    have HF : Hid (SamB (er, rv, rg, ru, L) (er, rv, rg, ru2, M) (.returned (.bool false))) := Lib.hid (SamB.no (fun c => eru (by simp only [Prod.mk.injEq] at c; simp only [c])))
    have hneru := bl_ne eru
    go_enter Try.func24, Try.ntmps24
    go_upto_region 1 with fail
    rw [← hW1]
    rw [show w.heap.size + 1 = ry from HX.out.2.symm]
    rw [show (Value.pointer (some ⟨w.heap.size, 0, none⟩)) = .pointer (some ⟨rx, 0, none⟩) by rw [HX.out.1]]
    clear hW1
    go_wp2_with fail
    go_ret
    exact ⟨HF.out, HB.out⟩
  subst eru
  by_cases hn : n1 = n2
  case neg =>
    have hni : ¬ (n1 : Int) = (n2 : Int) := by omega
    have HF : Hid (SamB (er, rv, rg, ru, L) (er, rv, rg, ru, M) (.returned (.bool false))) := Lib.hid (SamB.no (fun c => hn (by simp only [Prod.mk.injEq, true_and] at c; rw [← HK.out.1, ← HK.out.2, c])))
    go_enter Try.func24, Try.ntmps24
    go_upto_region 1 with fail
    rw [← hW1]
    rw [show w.heap.size + 1 = ry from HX.out.2.symm]
    rw [show (Value.pointer (some ⟨w.heap.size, 0, none⟩)) = .pointer (some ⟨rx, 0, none⟩) by rw [HX.out.1]]
    clear hW1
    go_wp2_with fail
    go_ret
    exact ⟨HF.out, HB.out⟩
  subst hn
  obtain ⟨n, hn⟩ : ∃ n, n = n1 := ⟨_, rfl⟩
  subst hn
  have hm3 : n ≤ maxLen := by rw [← HK.out.1]; exact hm
  unfold maxLen at hm3
  go_enter Try.func24, Try.ntmps24
  go_upto_region 1 with fail
  rw [← hW1]
  rw [show w.heap.size + 1 = ry from HX.out.2.symm]
  rw [show (Value.pointer (some ⟨w.heap.size, 0, none⟩)) = .pointer (some ⟨rx, 0, none⟩) by rw [HX.out.1]]
  clear hW1
  go_wp2_with fail
  clear z0 y0 z1 y1 z2 y2 z3 y3 z4 y4
  go_loopw [5] (fun i wr => ∃ k : Nat, i = .int .i64 k ∧ k ≤ n ∧ Hid (L.take k = M.take k) ∧ Hid (Below W1.heap.size W1 wr)) (fun i _ => n - (intOf i).toNat)
  case atStart => exact ⟨0, by first | rfl | go_num, by omega, Lib.hid rfl, Lib.hid (Below.refl _ _)⟩
  case round =>
    obtain ⟨k, rfl, hk, HE, HW⟩ := hrel
    obtain ⟨⟨m1, m2⟩, m3, m4⟩ := HL.out wr HW.out
    by_cases hlt : k < n
    · have hki : (k : Int) < (n : Int) := by omega
      have hkl : k < L.length := by rw [HK.out.1]; exact hlt
      have hkm : k < M.length := by rw [HK.out.2]; exact hlt
      obtain ⟨x, hx⟩ : ∃ x, x = L[k] := ⟨_, rfl⟩
      obtain ⟨y, hy⟩ : ∃ y, y = M[k] := ⟨_, rfl⟩
      have hsx := HSH.out.1 x (by rw [hx]; exact List.getElem_mem hkl)
      have hsy := HSH.out.2 y (by rw [hy]; exact List.getElem_mem hkm)
      have HTE : Hid (x = y → L.take (k + 1) = M.take (k + 1)) := Lib.hid (fun e => by rw [List.take_succ_eq_append_getElem hkl, List.take_succ_eq_append_getElem hkm, HE.out, ← hx, ← hy, e])
      have HTN : Hid (x ≠ y → SamB (er, rv, rg, ru, L) (er, rv, rg, ru, M) (.returned (.bool false))) := Lib.hid (fun e => SamB.no (fun c => e (by simp only [Prod.mk.injEq, true_and] at c; rw [hx, hy]; exact getElem_eq c hkl hkm)))
      rcases H1.out with e0 | ⟨b1, o1, q1, l1, g1⟩
      · rw [e0] at hkl; simp at hkl
      rcases H2.out with e0 | ⟨b2, o2, q2, l2, g2⟩
      · rw [e0] at hkm; simp at hkm
      subst q1 q2
      have hf1 : FAt wr b1 (o1 + k * 2) x := fun i hi => (HW.out.cell (p := ⟨b1, _, none⟩) l1).trans (by subst hx; exact g1 k hkl i hi)
      have hf2 : FAt wr b2 (o2 + k * 2) y := fun i hi => (HW.out.cell (p := ⟨b2, _, none⟩) l2).trans (by subst hy; exact g2 k hkm i hi)
      have hl1 : b1 < wr.heap.size := Nat.lt_of_lt_of_le l1 HW.out.size
      have hl2 : b2 < wr.heap.size := Nat.lt_of_lt_of_le l2 HW.out.size
      clear g1 g2 hx hy l1 l2 hkl hkm
      obtain ⟨ky, va, rfl⟩ := hsx
      obtain ⟨ky2, va2, rfl⟩ := hsy
      have p0 := hf1 0 (by simp)
      have p1 := hf1 1 (by simp)
      have q0 := hf2 0 (by simp)
      have q1 := hf2 1 (by simp)
      simp only [List.getElem_cons_zero, List.getElem_cons_succ, Fld.cell, Nat.add_zero] at p0 p1 q0 q1
      clear hf1 hf2
      have HWD := Lib.hid (HW.out.drew)
      by_cases e0 : ky = ky2
      case neg =>
        have HF := Lib.hid (HTN.out (fun c => e0 (by have := congrArg (fun l => l[0]?) c; simpa using this)))
        have hne0 := bl_ne e0
        go_upto_region 6 with fail
        go_region
        go_wp2_with fail
        go_ret
        exact ⟨HF.out, by first | exact HB.out.trans (HWD.out.mono HB.out.size) | exact HB.out.trans (HW.out.mono HB.out.size)⟩
      subst e0
      by_cases e1 : va = va2
      case neg =>
        have HF := Lib.hid (HTN.out (fun c => e1 (by have := congrArg (fun l => l[1]?) c; simpa using this)))
        have hne1 := bl_ne e1
        go_upto_region 6 with fail
        go_region
        go_wp2_with fail
        go_ret
        exact ⟨HF.out, by first | exact HB.out.trans (HWD.out.mono HB.out.size) | exact HB.out.trans (HW.out.mono HB.out.size)⟩
      subst e1
      have HTK := Lib.hid (HTE.out rfl)
      clear HTE HTN
      go_upto_region 6 with fail
      go_region
      go_wp2_with fail
      go_roundw
      case rel => exact ⟨k + 1, by go_num, by omega, HTK, by first | exact HWD | exact HW⟩
      case measure => simp [intOf]; omega
    · obtain rfl : k = n := by omega
      have hki : ¬ (k : Int) < (k : Int) := by omega
      have HF : Hid (SamB (er, rv, rg, ru, L) (er, rv, rg, ru, M) (.returned (.bool true))) := Lib.hid (SamB.yes (by
        have h := HE.out
        have e1 : L.take k = L := by rw [← HK.out.1, List.take_length]
        have e2 : M.take k = M := by rw [← HK.out.2, List.take_length]
        rw [e1, e2] at h
        rw [h]))
      clear hlt hk
      go_wp2_with fail
      go_ret
      exact ⟨HF.out, HB.out.trans (HW.out.mono HB.out.size)⟩
set_option maxRecDepth 100000 in
set_option maxHeartbeats 8000000 in
theorem sameOpx (w : World) (ok : Int) (oy : ByteArray) (ov : ByteArray) (od : ByteArray) (og : Bool) (ol : ByteArray) (oh : ByteArray) (om : Int) (a1 : Option Addr) (n1 c1 : Nat) (ok2 : Int) (oy2 : ByteArray) (ov2 : ByteArray) (od2 : ByteArray) (og2 : Bool) (ol2 : ByteArray) (oh2 : ByteArray) (om2 : Int) (a2 : Option Addr) (n2 c2 : Nat) (L M : List (List Fld)) (h1 : LRv w 3 (.slice a1 n1 c1) L) (h2 : LRv w 3 (.slice a2 n2 c2) M) (hsh : ∀ x ∈ L, isWrite x) (hsh2 : ∀ x ∈ M, isWrite x) (hm : L.length ≤ maxLen) (hm2 : M.length ≤ maxLen) :
    Calls Try.prog 23 #[.agg #[.int .i64 ok, .string oy, .string ov, .string od, .bool og, .slice a1 n1 c1, .string ol, .string oh, .int .i64 om], .agg #[.int .i64 ok2, .string oy2, .string ov2, .string od2, .bool og2, .slice a2 n2 c2, .string ol2, .string oh2, .int .i64 om2]] w fun e w' => SamB (ok, oy, ov, od, og, ol, oh, om, L) (ok2, oy2, ov2, od2, og2, ol2, oh2, om2, M) e ∧ Below w.heap.size w w' := by
  unfold maxLen at hm hm2
  obtain ⟨_, _, _, e1, k1, r1⟩ := h1
  obtain ⟨_, _, _, e2, k2, r2⟩ := h2
  injection e1 with e1 e1' e1''
  injection e2 with e2 e2' e2''
  subst e1 e1' e1'' e2 e2' e2''
  obtain ⟨rx, hrx⟩ : ∃ x, x = w.heap.size := ⟨_, rfl⟩
  obtain ⟨ry, hry⟩ : ∃ x, x = w.heap.size + 1 := ⟨_, rfl⟩
  obtain ⟨W1, hW1⟩ : ∃ W, W = (w.alloc (.cells #[.int .i64 ok, .string oy, .string ov, .string od, .bool og, .slice a1 n1 c1, .string ol, .string oh, .int .i64 om] 26)).alloc (.cells #[.int .i64 ok2, .string oy2, .string ov2, .string od2, .bool og2, .slice a2 n2 c2, .string ol2, .string oh2, .int .i64 om2] 26) := ⟨_, rfl⟩
  have s1 : (w.alloc (.cells #[.int .i64 ok, .string oy, .string ov, .string od, .bool og, .slice a1 n1 c1, .string ol, .string oh, .int .i64 om] 26)).heap.size = w.heap.size + 1 := by simp
  have s2 : W1.heap.size = w.heap.size + 2 := by rw [hW1]; simp
  have b1 : Below w.heap.size w W1 := by rw [hW1]; exact ((Below.refl _ w).alloc (Nat.le_refl _) _).alloc (by rw [s1]; omega) _
  have hx : W1.heap[rx]? = some (.cells #[.int .i64 ok, .string oy, .string ov, .string od, .bool og, .slice a1 n1 c1, .string ol, .string oh, .int .i64 om] 26 (0, 0)) := by
    rw [hW1, hrx, Below.heap_alloc _ _ _ (by rw [s1]; omega)]
    exact heap_alloc_new w _
  have hy : W1.heap[ry]? = some (.cells #[.int .i64 ok2, .string oy2, .string ov2, .string od2, .bool og2, .slice a2 n2 c2, .string ol2, .string oh2, .int .i64 om2] 26 (0, 0)) := by
    have := heap_alloc_new (w.alloc (.cells #[.int .i64 ok, .string oy, .string ov, .string od, .bool og, .slice a1 n1 c1, .string ol, .string oh, .int .i64 om] 26)) (.cells #[.int .i64 ok2, .string oy2, .string ov2, .string od2, .bool og2, .slice a2 n2 c2, .string ol2, .string oh2, .int .i64 om2] 26)
    rw [s1] at this
    rw [hW1, hry]
    exact this
  have z0 : W1.cell? ⟨rx, 0, none⟩ = some (.int .i64 ok) := by unfold World.cell?; simp [hx]
  have y0 : W1.cell? ⟨ry, 0, none⟩ = some (.int .i64 ok2) := by unfold World.cell?; simp [hy]
  have z1 : W1.cell? ⟨rx, 1, none⟩ = some (.string oy) := by unfold World.cell?; simp [hx]
  have y1 : W1.cell? ⟨ry, 1, none⟩ = some (.string oy2) := by unfold World.cell?; simp [hy]
  have z2 : W1.cell? ⟨rx, 2, none⟩ = some (.string ov) := by unfold World.cell?; simp [hx]
  have y2 : W1.cell? ⟨ry, 2, none⟩ = some (.string ov2) := by unfold World.cell?; simp [hy]
  have z3 : W1.cell? ⟨rx, 3, none⟩ = some (.string od) := by unfold World.cell?; simp [hx]
  have y3 : W1.cell? ⟨ry, 3, none⟩ = some (.string od2) := by unfold World.cell?; simp [hy]
  have z4 : W1.cell? ⟨rx, 4, none⟩ = some (.bool og) := by unfold World.cell?; simp [hx]
  have y4 : W1.cell? ⟨ry, 4, none⟩ = some (.bool og2) := by unfold World.cell?; simp [hy]
  have z5 : W1.cell? ⟨rx, 5, none⟩ = some (.slice a1 n1 c1) := by unfold World.cell?; simp [hx]
  have y5 : W1.cell? ⟨ry, 5, none⟩ = some (.slice a2 n2 c2) := by unfold World.cell?; simp [hy]
  have z6 : W1.cell? ⟨rx, 6, none⟩ = some (.string ol) := by unfold World.cell?; simp [hx]
  have y6 : W1.cell? ⟨ry, 6, none⟩ = some (.string ol2) := by unfold World.cell?; simp [hy]
  have z7 : W1.cell? ⟨rx, 7, none⟩ = some (.string oh) := by unfold World.cell?; simp [hx]
  have y7 : W1.cell? ⟨ry, 7, none⟩ = some (.string oh2) := by unfold World.cell?; simp [hy]
  have z8 : W1.cell? ⟨rx, 8, none⟩ = some (.int .i64 om) := by unfold World.cell?; simp [hx]
  have y8 : W1.cell? ⟨ry, 8, none⟩ = some (.int .i64 om2) := by unfold World.cell?; simp [hy]
  have hlx : rx < W1.heap.size := by omega
  have hly : ry < W1.heap.size := by omega
  have HL : Hid (∀ wr, Below W1.heap.size W1 wr → (wr.cell? ⟨rx, 5, none⟩ = some (.slice a1 n1 c1) ∧ wr.cell? ⟨ry, 5, none⟩ = some (.slice a2 n2 c2)) ∧ rx < wr.heap.size ∧ ry < wr.heap.size) := Lib.hid fun wr hb => ⟨⟨(hb.cell (p := ⟨rx, _, none⟩) hlx).trans z5, (hb.cell (p := ⟨ry, _, none⟩) hly).trans y5⟩, Nat.lt_of_lt_of_le hlx hb.size, Nat.lt_of_lt_of_le hly hb.size⟩
  have HX := Lib.hid (And.intro hrx hry)
  have HB := Lib.hid b1
  have H1 : Hid (L = [] ∨ ∃ rb ro, a1 = some ⟨rb, ro, none⟩ ∧ rb < W1.heap.size ∧ RowAt W1 rb ro 3 L) := Lib.hid (by
    rcases r1 with e | ⟨rb, ro, h3, h4, h5⟩
    · exact .inl e
    · exact .inr ⟨rb, ro, h3, Nat.lt_of_lt_of_le h4 b1.size, fun i hi j hj => (b1.cell (p := ⟨rb, _, none⟩) h4).trans (h5 i hi j hj)⟩)
  have H2 : Hid (M = [] ∨ ∃ rb ro, a2 = some ⟨rb, ro, none⟩ ∧ rb < W1.heap.size ∧ RowAt W1 rb ro 3 M) := Lib.hid (by
    rcases r2 with e | ⟨rb, ro, h3, h4, h5⟩
    · exact .inl e
    · exact .inr ⟨rb, ro, h3, Nat.lt_of_lt_of_le h4 b1.size, fun i hi j hj => (b1.cell (p := ⟨rb, _, none⟩) h4).trans (h5 i hi j hj)⟩)
  have HSH := Lib.hid (And.intro hsh hsh2)
  have HK := Lib.hid (And.intro k1 k2)
  clear r1 r2 hsh hsh2 s1 s2 b1 hx hy hrx hry k1 k2
  by_cases eok : ok = ok2
  case neg =>
    have HF : Hid (SamB (ok, oy, ov, od, og, ol, oh, om, L) (ok2, oy2, ov2, od2, og2, ol2, oh2, om2, M) (.returned (.bool false))) := Lib.hid (SamB.no (fun c => eok (by simp only [Prod.mk.injEq] at c; simp only [c])))
    skip
    go_enter Try.func23, Try.ntmps23
    go_upto_region 1 with fail
    rw [← hW1]
    rw [show w.heap.size + 1 = ry from HX.out.2.symm]
    rw [show (Value.pointer (some ⟨w.heap.size, 0, none⟩)) = .pointer (some ⟨rx, 0, none⟩) by rw [HX.out.1]]
    clear hW1
    go_wp2_with fail
    go_ret
    exact ⟨HF.out, HB.out⟩
  subst eok
  by_cases eoy : oy = oy2
  case neg =>
    have HF : Hid (SamB (ok, oy, ov, od, og, ol, oh, om, L) (ok, oy2, ov2, od2, og2, ol2, oh2, om2, M) (.returned (.bool false))) := Lib.hid (SamB.no (fun c => eoy (by simp only [Prod.mk.injEq] at c; simp only [c])))
    have hneoy := bl_ne eoy
    go_enter Try.func23, Try.ntmps23
    go_upto_region 1 with fail
    rw [← hW1]
    rw [show w.heap.size + 1 = ry from HX.out.2.symm]
    rw [show (Value.pointer (some ⟨w.heap.size, 0, none⟩)) = .pointer (some ⟨rx, 0, none⟩) by rw [HX.out.1]]
    clear hW1
    go_wp2_with fail
    go_ret
    exact ⟨HF.out, HB.out⟩
  subst eoy
  by_cases eov : ov = ov2
  case neg =>
    have HF : Hid (SamB (ok, oy, ov, od, og, ol, oh, om, L) (ok, oy, ov2, od2, og2, ol2, oh2, om2, M) (.returned (.bool false))) := Lib.hid (SamB.no (fun c => eov (by simp only [Prod.mk.injEq] at c; simp only [c])))
    have hneov := bl_ne eov
    go_enter Try.func23, Try.ntmps23
    go_upto_region 1 with fail
    rw [← hW1]
    rw [show w.heap.size + 1 = ry from HX.out.2.symm]
    rw [show (Value.pointer (some ⟨w.heap.size, 0, none⟩)) = .pointer (some ⟨rx, 0, none⟩) by rw [HX.out.1]]
    clear hW1
    go_wp2_with fail
    go_ret
    exact ⟨HF.out, HB.out⟩
  subst eov
  by_cases eod : od = od2
  case neg =>
    have HF : Hid (SamB (ok, oy, ov, od, og, ol, oh, om, L) (ok, oy, ov, od2, og2, ol2, oh2, om2, M) (.returned (.bool false))) := Lib.hid (SamB.no (fun c => eod (by simp only [Prod.mk.injEq] at c; simp only [c])))
    have hneod := bl_ne eod
    go_enter Try.func23, Try.ntmps23
    go_upto_region 1 with fail
    rw [← hW1]
    rw [show w.heap.size + 1 = ry from HX.out.2.symm]
    rw [show (Value.pointer (some ⟨w.heap.size, 0, none⟩)) = .pointer (some ⟨rx, 0, none⟩) by rw [HX.out.1]]
    clear hW1
    go_wp2_with fail
    go_ret
    exact ⟨HF.out, HB.out⟩
  subst eod
  by_cases eog : og = og2
  case neg =>
    have HF : Hid (SamB (ok, oy, ov, od, og, ol, oh, om, L) (ok, oy, ov, od, og2, ol2, oh2, om2, M) (.returned (.bool false))) := Lib.hid (SamB.no (fun c => eog (by simp only [Prod.mk.injEq] at c; simp only [c])))
    skip
    cases og <;> cases og2
    · exact absurd rfl eog
    rotate_right
    · exact absurd rfl eog
    all_goals
      go_enter Try.func23, Try.ntmps23
      go_upto_region 1 with fail
      rw [← hW1]
      rw [show w.heap.size + 1 = ry from HX.out.2.symm]
      rw [show (Value.pointer (some ⟨w.heap.size, 0, none⟩)) = .pointer (some ⟨rx, 0, none⟩) by rw [HX.out.1]]
      clear hW1
      go_wp2_with fail
      go_ret
      exact ⟨HF.out, HB.out⟩
  subst eog
  by_cases eol : ol = ol2
  case neg =>
    have HF : Hid (SamB (ok, oy, ov, od, og, ol, oh, om, L) (ok, oy, ov, od, og, ol2, oh2, om2, M) (.returned (.bool false))) := Lib.hid (SamB.no (fun c => eol (by simp only [Prod.mk.injEq] at c; simp only [c])))
    have hneol := bl_ne eol
    go_enter Try.func23, Try.ntmps23
    go_upto_region 1 with fail
    rw [← hW1]
    rw [show w.heap.size + 1 = ry from HX.out.2.symm]
    rw [show (Value.pointer (some ⟨w.heap.size, 0, none⟩)) = .pointer (some ⟨rx, 0, none⟩) by rw [HX.out.1]]
    clear hW1
    go_wp2_with fail
    go_ret
    exact ⟨HF.out, HB.out⟩
  subst eol
  by_cases eoh : oh = oh2
  case neg =>
    have HF : Hid (SamB (ok, oy, ov, od, og, ol, oh, om, L) (ok, oy, ov, od, og, ol, oh2, om2, M) (.returned (.bool false))) := Lib.hid (SamB.no (fun c => eoh (by simp only [Prod.mk.injEq] at c; simp only [c])))
    have hneoh := bl_ne eoh
    go_enter Try.func23, Try.ntmps23
    go_upto_region 1 with fail
    rw [← hW1]
    rw [show w.heap.size + 1 = ry from HX.out.2.symm]
    rw [show (Value.pointer (some ⟨w.heap.size, 0, none⟩)) = .pointer (some ⟨rx, 0, none⟩) by rw [HX.out.1]]
    clear hW1
    go_wp2_with fail
    go_ret
    exact ⟨HF.out, HB.out⟩
  subst eoh
  by_cases eom : om = om2
  case neg =>
    have HF : Hid (SamB (ok, oy, ov, od, og, ol, oh, om, L) (ok, oy, ov, od, og, ol, oh, om2, M) (.returned (.bool false))) := Lib.hid (SamB.no (fun c => eom (by simp only [Prod.mk.injEq] at c; simp only [c])))
    skip
    go_enter Try.func23, Try.ntmps23
    go_upto_region 1 with fail
    rw [← hW1]
    rw [show w.heap.size + 1 = ry from HX.out.2.symm]
    rw [show (Value.pointer (some ⟨w.heap.size, 0, none⟩)) = .pointer (some ⟨rx, 0, none⟩) by rw [HX.out.1]]
    clear hW1
    go_wp2_with fail
    go_ret
    exact ⟨HF.out, HB.out⟩
  subst eom
  by_cases hn : n1 = n2
  case neg =>
    have hni : ¬ (n1 : Int) = (n2 : Int) := by omega
    have HF : Hid (SamB (ok, oy, ov, od, og, ol, oh, om, L) (ok, oy, ov, od, og, ol, oh, om, M) (.returned (.bool false))) := Lib.hid (SamB.no (fun c => hn (by simp only [Prod.mk.injEq, true_and] at c; rw [← HK.out.1, ← HK.out.2, c])))
    go_enter Try.func23, Try.ntmps23
    go_upto_region 1 with fail
    rw [← hW1]
    rw [show w.heap.size + 1 = ry from HX.out.2.symm]
    rw [show (Value.pointer (some ⟨w.heap.size, 0, none⟩)) = .pointer (some ⟨rx, 0, none⟩) by rw [HX.out.1]]
    clear hW1
    go_wp2_with fail
    go_ret
    exact ⟨HF.out, HB.out⟩
  subst hn
  obtain ⟨n, hn⟩ : ∃ n, n = n1 := ⟨_, rfl⟩
  subst hn
  have hm3 : n ≤ maxLen := by rw [← HK.out.1]; exact hm
  unfold maxLen at hm3
  go_enter Try.func23, Try.ntmps23
  go_upto_region 1 with fail
  rw [← hW1]
  rw [show w.heap.size + 1 = ry from HX.out.2.symm]
  rw [show (Value.pointer (some ⟨w.heap.size, 0, none⟩)) = .pointer (some ⟨rx, 0, none⟩) by rw [HX.out.1]]
  clear hW1
  go_wp2_with fail
  clear z0 y0 z1 y1 z2 y2 z3 y3 z4 y4 z5 y5 z6 y6 z7 y7 z8 y8
  go_loopw [5] (fun i wr => ∃ k : Nat, i = .int .i64 k ∧ k ≤ n ∧ Hid (L.take k = M.take k) ∧ Hid (Below W1.heap.size W1 wr)) (fun i _ => n - (intOf i).toNat)
  case atStart => exact ⟨0, by first | rfl | go_num, by omega, Lib.hid rfl, Lib.hid (Below.refl _ _)⟩
  case round =>
    obtain ⟨k, rfl, hk, HE, HW⟩ := hrel
    obtain ⟨⟨m1, m2⟩, m3, m4⟩ := HL.out wr HW.out
    by_cases hlt : k < n
    · have hki : (k : Int) < (n : Int) := by omega
      have hkl : k < L.length := by rw [HK.out.1]; exact hlt
      have hkm : k < M.length := by rw [HK.out.2]; exact hlt
      obtain ⟨x, hx⟩ : ∃ x, x = L[k] := ⟨_, rfl⟩
      obtain ⟨y, hy⟩ : ∃ y, y = M[k] := ⟨_, rfl⟩
      have hsx := HSH.out.1 x (by rw [hx]; exact List.getElem_mem hkl)
      have hsy := HSH.out.2 y (by rw [hy]; exact List.getElem_mem hkm)
      have HTE : Hid (x = y → L.take (k + 1) = M.take (k + 1)) := Lib.hid (fun e => by rw [List.take_succ_eq_append_getElem hkl, List.take_succ_eq_append_getElem hkm, HE.out, ← hx, ← hy, e])
      have HTN : Hid (x ≠ y → SamB (ok, oy, ov, od, og, ol, oh, om, L) (ok, oy, ov, od, og, ol, oh, om, M) (.returned (.bool false))) := Lib.hid (fun e => SamB.no (fun c => e (by simp only [Prod.mk.injEq, true_and] at c; rw [hx, hy]; exact getElem_eq c hkl hkm)))
      rcases H1.out with e0 | ⟨b1, o1, q1, l1, g1⟩
      · rw [e0] at hkl; simp at hkl
      rcases H2.out with e0 | ⟨b2, o2, q2, l2, g2⟩
      · rw [e0] at hkm; simp at hkm
      subst q1 q2
      have hf1 : FAt wr b1 (o1 + k * 3) x := fun i hi => (HW.out.cell (p := ⟨b1, _, none⟩) l1).trans (by subst hx; exact g1 k hkl i hi)
      have hf2 : FAt wr b2 (o2 + k * 3) y := fun i hi => (HW.out.cell (p := ⟨b2, _, none⟩) l2).trans (by subst hy; exact g2 k hkm i hi)
      have hl1 : b1 < wr.heap.size := Nat.lt_of_lt_of_le l1 HW.out.size
      have hl2 : b2 < wr.heap.size := Nat.lt_of_lt_of_le l2 HW.out.size
      clear g1 g2 hx hy l1 l2 hkl hkm
      obtain ⟨ky, va, g, rfl⟩ := hsx
      obtain ⟨ky2, va2, g2, rfl⟩ := hsy
      have p0 := hf1 0 (by simp)
      have p1 := hf1 1 (by simp)
      have p2 := hf1 2 (by simp)
      have q0 := hf2 0 (by simp)
      have q1 := hf2 1 (by simp)
      have q2 := hf2 2 (by simp)
      simp only [List.getElem_cons_zero, List.getElem_cons_succ, Fld.cell, Nat.add_zero] at p0 p1 p2 q0 q1 q2
      clear hf1 hf2
      have HWD := Lib.hid (HW.out.drew)
      by_cases e0 : ky = ky2
      case neg =>
        have HF := Lib.hid (HTN.out (fun c => e0 (by have := congrArg (fun l => l[0]?) c; simpa using this)))
        have hne0 := bl_ne e0
        go_upto_region 6 with fail
        go_region
        go_wp2_with fail
        go_ret
        exact ⟨HF.out, by first | exact HB.out.trans (HWD.out.mono HB.out.size) | exact HB.out.trans (HW.out.mono HB.out.size)⟩
      subst e0
      by_cases e1 : va = va2
      case neg =>
        have HF := Lib.hid (HTN.out (fun c => e1 (by have := congrArg (fun l => l[1]?) c; simpa using this)))
        have hne1 := bl_ne e1
        go_upto_region 6 with fail
        go_region
        go_wp2_with fail
        go_ret
        exact ⟨HF.out, by first | exact HB.out.trans (HWD.out.mono HB.out.size) | exact HB.out.trans (HW.out.mono HB.out.size)⟩
      subst e1
      by_cases e2 : g = g2
      case neg =>
        have HF := Lib.hid (HTN.out (fun c => e2 (by have := congrArg (fun l => l[2]?) c; simpa using this)))
        skip
        go_upto_region 6 with fail
        go_region
        go_wp2_with fail
        go_ret
        exact ⟨HF.out, by first | exact HB.out.trans (HWD.out.mono HB.out.size) | exact HB.out.trans (HW.out.mono HB.out.size)⟩
      subst e2
      have HTK := Lib.hid (HTE.out rfl)
      clear HTE HTN
      go_upto_region 6 with fail
      go_region
      go_wp2_with fail
      go_roundw
      case rel => exact ⟨k + 1, by go_num, by omega, HTK, by first | exact HWD | exact HW⟩
      case measure => simp [intOf]; omega
    · obtain rfl : k = n := by omega
      have hki : ¬ (k : Int) < (k : Int) := by omega
      have HF : Hid (SamB (ok, oy, ov, od, og, ol, oh, om, L) (ok, oy, ov, od, og, ol, oh, om, M) (.returned (.bool true))) := Lib.hid (SamB.yes (by
        have h := HE.out
        have e1 : L.take k = L := by rw [← HK.out.1, List.take_length]
        have e2 : M.take k = M := by rw [← HK.out.2, List.take_length]
        rw [e1, e2] at h
        rw [h]))
      clear hlt hk
      go_wp2_with fail
      go_ret
      exact ⟨HF.out, HB.out.trans (HW.out.mono HB.out.size)⟩
end Go.Proofs.Ytdnhmkfgcpdbkaa
namespace Go.Proofs.Ytdnhmkfgcpdbkaa
open Go.RowKit
set_option linter.unusedVariables false
set_option linter.unusedSimpArgs false

set_option maxRecDepth 100000 in
set_option maxHeartbeats 8000000 in
theorem same14x (w : World) (a1 : Option Addr) (n1 c1 : Nat) (a2 : Option Addr) (n2 c2 : Nat) (L M : List (List Fld)) (h1 : LRv w 7 (.slice a1 n1 c1) L) (h2 : LRv w 7 (.slice a2 n2 c2) M) (hsp : ∀ x ∈ L, slPr x) (hsp2 : ∀ x ∈ M, slPr x) (hb : bareL L = true) (hb2 : bareL M = true) (hm : L.length ≤ maxLen) (hm2 : M.length ≤ maxLen) :
    Calls Try.prog 27 #[.slice a1 n1 c1, .slice a2 n2 c2] w fun e w' => SamB (L.map (·.map nF)) (M.map (·.map nF)) e ∧ Below w.heap.size w w' := by
  unfold maxLen at hm hm2
  obtain ⟨_, _, _, e1, k1, r1⟩ := h1
  obtain ⟨_, _, _, e2, k2, r2⟩ := h2
  injection e1 with e1 e1' e1''
  injection e2 with e2 e2' e2''
  subst e1 e1' e1'' e2 e2' e2''
  by_cases hn : n1 = n2
  case neg =>
    have hni : ¬ (n1 : Int) = (n2 : Int) := by omega
    have HF : Hid (SamB (L.map (·.map nF)) (M.map (·.map nF)) (.returned (.bool false))) := Lib.hid (SamB.no (fun e => hn (by have := congrArg List.length e; rw [List.length_map, List.length_map] at this; omega)))
    clear r1 r2 k1 k2 hsp hsp2 hb hb2
    go_enter Try.func27, Try.ntmps27
    go_wp2_with fail
    go_ret
    exact ⟨HF.out, Below.refl _ _⟩
  subst hn
  obtain ⟨n, hn⟩ : ∃ n, n = L.length := ⟨_, rfl⟩
  rw [← hn] at k1
  subst k1
  rw [← hn] at hm
  have HN := Lib.hid (And.intro hn k2)
  have H1 := Lib.hid r1
  have H2 := Lib.hid r2
  have HSH := Lib.hid (And.intro hsp (And.intro hsp2 (And.intro hb hb2)))
  clear r1 r2 hsp hsp2 hb hb2 hn k2
  go_enter Try.func27, Try.ntmps27
  go_wp2_with fail
  go_loopw [5] (fun i wr => ∃ k : Nat, i = .int .i64 k ∧ k ≤ n ∧ Hid ((L.map (·.map nF)).take k = (M.map (·.map nF)).take k) ∧ Hid (Below w.heap.size w wr)) (fun i _ => n - (intOf i).toNat)
  case atStart => exact ⟨0, by first | rfl | go_num, by omega, Lib.hid rfl, Lib.hid (Below.refl _ _)⟩
  case round =>
    obtain ⟨k, rfl, hk, HE, HW⟩ := hrel
    have hws := HW.out.size
    by_cases hlt : k < n
    · have hki : (k : Int) < (n : Int) := by omega
      have hkl : k < L.length := by rw [← HN.out.1]; exact hlt
      have hkm : k < M.length := by rw [HN.out.2]; exact hlt
      have hkl' : k < (L.map (·.map nF)).length := by rw [List.length_map]; exact hkl
      have hkm' : k < (M.map (·.map nF)).length := by rw [List.length_map]; exact hkm
      obtain ⟨x, hx⟩ : ∃ x, x = L[k] := ⟨_, rfl⟩
      obtain ⟨y, hy⟩ : ∃ y, y = M[k] := ⟨_, rfl⟩
      have hmx : x ∈ L := by rw [hx]; exact List.getElem_mem hkl
      have hmy : y ∈ M := by rw [hy]; exact List.getElem_mem hkm
      have hsx := HSH.out.1 x hmx
      have hsy := HSH.out.2.1 y hmy
      have hbx : prN x = 0 := of_decide_eq_true (List.all_eq_true.1 HSH.out.2.2.1 x hmx)
      have hby : prN y = 0 := of_decide_eq_true (List.all_eq_true.1 HSH.out.2.2.2 y hmy)
      have hgx : (L.map (·.map nF))[k] = x.map nF := by rw [List.getElem_map, hx]
      have hgy : (M.map (·.map nF))[k] = y.map nF := by rw [List.getElem_map, hy]
      have HTE : Hid (x.map nF = y.map nF → (L.map (·.map nF)).take (k + 1) = (M.map (·.map nF)).take (k + 1)) := Lib.hid (fun e => by rw [List.take_succ_eq_append_getElem hkl', List.take_succ_eq_append_getElem hkm', HE.out, hgx, hgy, e])
      have HTN : Hid (x.map nF ≠ y.map nF → SamB (L.map (·.map nF)) (M.map (·.map nF)) (.returned (.bool false))) := Lib.hid (fun e => SamB.no (fun c => e (by rw [← hgx, ← hgy]; exact getElem_eq c hkl' hkm')))
      rcases H1.out with e0 | ⟨b1, o1, q1, l1, g1⟩
      · rw [e0] at hkl; simp at hkl
      rcases H2.out with e0 | ⟨b2, o2, q2, l2, g2⟩
      · rw [e0] at hkm; simp at hkm
      subst q1 q2
      have hf1 : FAt wr b1 (o1 + k * 7) x := fun i hi => (HW.out.cell (p := ⟨b1, _, none⟩) l1).trans (by subst hx; exact g1 k hkl i hi)
      have hf2 : FAt wr b2 (o2 + k * 7) y := fun i hi => (HW.out.cell (p := ⟨b2, _, none⟩) l2).trans (by subst hy; exact g2 k hkm i hi)
      have hl1 : b1 < wr.heap.size := Nat.lt_of_lt_of_le l1 hws
      have hl2 : b2 < wr.heap.size := Nat.lt_of_lt_of_le l2 hws
      clear g1 g2 hx hy l1 l2 hkl hkm hkl' hkm' hgx hgy hmx hmy
      obtain ⟨cc, sq, er, va, g, pa, pn, pc, pu, rfl⟩ := hsx
      obtain ⟨cc2, sq2, er2, va2, g2, pa2, pn2, pc2, pu2, rfl⟩ := hsy
      obtain rfl : pn = 0 := hbx
      obtain rfl : pn2 = 0 := hby
      have p0 := hf1 0 (by simp)
      have p1 := hf1 1 (by simp)
      have p2 := hf1 2 (by simp)
      have p3 := hf1 3 (by simp)
      have p4 := hf1 4 (by simp)
      have p5 := hf1 5 (by simp)
      have p6 := hf1 6 (by simp)
      have q0 := hf2 0 (by simp)
      have q1 := hf2 1 (by simp)
      have q2 := hf2 2 (by simp)
      have q3 := hf2 3 (by simp)
      have q4 := hf2 4 (by simp)
      have q5 := hf2 5 (by simp)
      have q6 := hf2 6 (by simp)
      simp only [List.getElem_cons_zero, List.getElem_cons_succ, Fld.cell, Nat.add_zero] at p0 p1 p2 p3 p4 p5 p6 q0 q1 q2 q3 q4 q5 q6
      clear hf1 hf2
      obtain ⟨qv, hqv⟩ : ∃ qv : Bool, qv = true ↔ (er, va, g, pu, ([] : List (List Fld))) = (er2, va2, g2, pu2, ([] : List (List Fld))) := by
        by_cases c : (er, va, g, pu, ([] : List (List Fld))) = (er2, va2, g2, pu2, ([] : List (List Fld)))
        · exact ⟨true, by simp [c]⟩
        · exact ⟨false, by simp [c]⟩
      have HSR : Hid (∀ W, Calls Try.prog 24 #[.agg #[.int .i64 er, .string va, .bool g, .slice pa 0 pc, .string pu], .agg #[.int .i64 er2, .string va2, .bool g2, .slice pa2 0 pc2, .string pu2]] W fun e w' => e = .returned (.bool qv) ∧ Below W.heap.size W w') := Lib.hid fun W =>
        (sameRepx W er va g pu pa 0 pc er2 va2 g2 pu2 pa2 0 pc2 [] [] ⟨_, _, _, rfl, rfl, .inl rfl⟩ ⟨_, _, _, rfl, rfl, .inl rfl⟩ (fun x hx => by simp at hx) (fun x hx => by simp at hx) (Nat.zero_le _) (Nat.zero_le _)).mono (by
          rintro e w' ⟨⟨q, rfl, hq⟩, hb⟩
          refine ⟨?_, hb⟩
          have : q = qv := by
            by_cases c : (er, va, g, pu, ([] : List (List Fld))) = (er2, va2, g2, pu2, ([] : List (List Fld)))
            · rw [hq.2 c, hqv.2 c]
            · have h1 : q = false := by cases q with | false => rfl | true => exact absurd (hq.1 rfl) c
              have h2 : qv = false := by cases qv with | false => rfl | true => exact absurd (hqv.1 rfl) c
              rw [h1, h2]
          rw [this])
      have HQ := Lib.hid hqv
      clear hqv
      by_cases ecc : cc = cc2
      case neg =>
        have hb0 : (cc != cc2) = true := by rw [bne_iff_ne]; exact ecc
        have hb1 : (cc == cc2) = false := by rw [beq_eq_false_iff_ne]; exact ecc
        have HF := Lib.hid (HTN.out (fun c => ecc (by have := congrArg (fun l => l[0]?) c; simpa [nF] using this)))
        clear HTE HTN
        go_wp2_with fail
        refine wp_region_below (by kernel_rfl) (by kernel_rfl) ?_
        repeat (first
          | go_big_quiet_skip
          | (go_big_quiet_want
             first
             | (refine BigFrame.quiet_move _ rfl ?_)
             | (refine BigFrame.quiet_assign _ rfl ?_)
             | (unfold Oper.quiet
                apply Exists.intro
                refine ⟨fun w' hw' => ?_, ?_⟩
                · (obtain ⟨hc', hf'⟩ := bcell hw'
                   go_simp
                   first
                   | done
                   | exact rfl
                   | (go_at_call 24; (with_reducible refine (HSR.out _).mono ?_); rintro e w'' ⟨rfl, bb⟩; exact ⟨rfl, by first | exact bt hw' bb | simpa using bt hw' bb⟩)))
             go_big_quiet_on
             simp only [Act.put, Act.eval, List.setIfInBounds_toArray, List.set_cons_zero, List.set_cons_succ, Array.getD_eq_getD_getElem?, List.getElem?_toArray, List.getElem?_cons_zero, List.getElem?_cons_succ, Option.getD_some]))
        refine wpQuiet_nil ?_
        intro w' hw'
        clear p0 p1 p2 p3 p4 p5 p6 q0 q1 q2 q3 q4 q5 q6
        go_wp2_with fail
        go_ret
        exact ⟨HF.out, HW.out.trans (hw'.mono hws)⟩
      subst ecc
      by_cases esq : sq = sq2
      case neg =>
        have hb0 : (sq != sq2) = true := by rw [bne_iff_ne]; exact esq
        have hb1 : (sq == sq2) = false := by rw [beq_eq_false_iff_ne]; exact esq
        have HF := Lib.hid (HTN.out (fun c => esq (by have := congrArg (fun l => l[1]?) c; simpa [nF] using this)))
        clear HTE HTN
        go_wp2_with fail
        refine wp_region_below (by kernel_rfl) (by kernel_rfl) ?_
        repeat (first
          | go_big_quiet_skip
          | (go_big_quiet_want
             first
             | (refine BigFrame.quiet_move _ rfl ?_)
             | (refine BigFrame.quiet_assign _ rfl ?_)
             | (unfold Oper.quiet
                apply Exists.intro
                refine ⟨fun w' hw' => ?_, ?_⟩
                · (obtain ⟨hc', hf'⟩ := bcell hw'
                   go_simp
                   first
                   | done
                   | exact rfl
                   | (go_at_call 24; (with_reducible refine (HSR.out _).mono ?_); rintro e w'' ⟨rfl, bb⟩; exact ⟨rfl, by first | exact bt hw' bb | simpa using bt hw' bb⟩)))
             go_big_quiet_on
             simp only [Act.put, Act.eval, List.setIfInBounds_toArray, List.set_cons_zero, List.set_cons_succ, Array.getD_eq_getD_getElem?, List.getElem?_toArray, List.getElem?_cons_zero, List.getElem?_cons_succ, Option.getD_some]))
        refine wpQuiet_nil ?_
        intro w' hw'
        clear p0 p1 p2 p3 p4 p5 p6 q0 q1 q2 q3 q4 q5 q6
        go_wp2_with fail
        go_ret
        exact ⟨HF.out, HW.out.trans (hw'.mono hws)⟩
      subst esq
      cases qv with
      | false =>
        have HF := Lib.hid (HTN.out (fun c => by
          have h2 := congrArg (fun l => l[2]?) c
          have h3 := congrArg (fun l => l[3]?) c
          have h4 := congrArg (fun l => l[4]?) c
          have h6 := congrArg (fun l => l[6]?) c
          simp [nF] at h2 h3 h4 h6
          have := HQ.out.2 (by rw [h2, h3, h4, h6])
          cases this))
        clear HTE HTN
        go_wp2_with fail
        refine wp_region_below (by kernel_rfl) (by kernel_rfl) ?_
        repeat (first
          | go_big_quiet_skip
          | (go_big_quiet_want
             first
             | (refine BigFrame.quiet_move _ rfl ?_)
             | (refine BigFrame.quiet_assign _ rfl ?_)
             | (unfold Oper.quiet
                apply Exists.intro
                refine ⟨fun w' hw' => ?_, ?_⟩
                · (obtain ⟨hc', hf'⟩ := bcell hw'
                   go_simp
                   first
                   | done
                   | exact rfl
                   | (go_at_call 24; (with_reducible refine (HSR.out _).mono ?_); rintro e w'' ⟨rfl, bb⟩; exact ⟨rfl, by first | exact bt hw' bb | simpa using bt hw' bb⟩)))
             go_big_quiet_on
             simp only [Act.put, Act.eval, List.setIfInBounds_toArray, List.set_cons_zero, List.set_cons_succ, Array.getD_eq_getD_getElem?, List.getElem?_toArray, List.getElem?_cons_zero, List.getElem?_cons_succ, Option.getD_some]))
        refine wpQuiet_nil ?_
        intro w' hw'
        clear p0 p1 p2 p3 p4 p5 p6 q0 q1 q2 q3 q4 q5 q6
        go_wp2_with fail
        go_ret
        exact ⟨HF.out, HW.out.trans (hw'.mono hws)⟩
      | true =>
        have HTK := Lib.hid (HTE.out (by
          have h := HQ.out.1 rfl
          simp only [Prod.mk.injEq] at h
          obtain ⟨e1, e2, e3, e4, _⟩ := h
          simp [nF, e1, e2, e3, e4]))
        clear HTE HTN
        go_wp2_with fail
        refine wp_region_below (by kernel_rfl) (by kernel_rfl) ?_
        repeat (first
          | go_big_quiet_skip
          | (go_big_quiet_want
             first
             | (refine BigFrame.quiet_move _ rfl ?_)
             | (refine BigFrame.quiet_assign _ rfl ?_)
             | (unfold Oper.quiet
                apply Exists.intro
                refine ⟨fun w' hw' => ?_, ?_⟩
                · (obtain ⟨hc', hf'⟩ := bcell hw'
                   go_simp
                   first
                   | done
                   | exact rfl
                   | (go_at_call 24; (with_reducible refine (HSR.out _).mono ?_); rintro e w'' ⟨rfl, bb⟩; exact ⟨rfl, by first | exact bt hw' bb | simpa using bt hw' bb⟩)))
             go_big_quiet_on
             simp only [Act.put, Act.eval, List.setIfInBounds_toArray, List.set_cons_zero, List.set_cons_succ, Array.getD_eq_getD_getElem?, List.getElem?_toArray, List.getElem?_cons_zero, List.getElem?_cons_succ, Option.getD_some]))
        refine wpQuiet_nil ?_
        intro w' hw'
        clear p0 p1 p2 p3 p4 p5 p6 q0 q1 q2 q3 q4 q5 q6
        go_wp2_with fail
        go_roundw
        case rel => exact ⟨k + 1, by go_num, by omega, HTK, Lib.hid (HW.out.trans (hw'.mono hws))⟩
        case measure => simp [intOf]; omega
    · obtain rfl : k = n := by omega
      have hki : ¬ (k : Int) < (k : Int) := by omega
      have HF : Hid (SamB (L.map (·.map nF)) (M.map (·.map nF)) (.returned (.bool true))) := Lib.hid (SamB.yes (by
        have h := HE.out
        have e1 : (L.map (·.map nF)).take k = L.map (·.map nF) := by rw [List.take_of_length_le (by rw [List.length_map, ← HN.out.1]; exact Nat.le_refl _)]
        have e2 : (M.map (·.map nF)).take k = M.map (·.map nF) := by rw [List.take_of_length_le (by rw [List.length_map, HN.out.2]; exact Nat.le_refl _)]
        rw [e1, e2] at h
        exact h))
      clear hlt hk
      go_wp2_with fail
      go_ret
      exact ⟨HF.out, HW.out⟩
end Go.Proofs.Ytdnhmkfgcpdbkaa
namespace Go.Proofs.Ytdnhmkfgcpdbkaa
open Go.RowKit
set_option linter.unusedVariables false
set_option linter.unusedSimpArgs false

theorem nM_iff (kd : Int) (a1 : Int) (a2 : Int) (a3 : Int) (a4 : Int) (a5 : Int) (a6 : Int) (wh : Bool) (ok : Int) (oy : ByteArray) (ov : ByteArray) (od : ByteArray) (og : Bool) (OW : List (List Fld)) (ol : ByteArray) (oh : ByteArray) (om : Int) (er : Int) (rv : ByteArray) (rg : Bool) (RP : List (List Fld)) (ru : ByteArray) (MP : List (List Fld)) (EN : List (List Fld)) (SE : List (List Fld)) (kd2 : Int) (a12 : Int) (a22 : Int) (a32 : Int) (a42 : Int) (a52 : Int) (a62 : Int) (wh2 : Bool) (ok2 : Int) (oy2 : ByteArray) (ov2 : ByteArray) (od2 : ByteArray) (og2 : Bool) (OW2 : List (List Fld)) (ol2 : ByteArray) (oh2 : ByteArray) (om2 : Int) (er2 : Int) (rv2 : ByteArray) (rg2 : Bool) (RP2 : List (List Fld)) (ru2 : ByteArray) (MP2 : List (List Fld)) (EN2 : List (List Fld)) (SE2 : List (List Fld)) (s1 : ∀ x ∈ OW, isWrite x) (t1 : ∀ x ∈ OW2, isWrite x) (s2 : ∀ x ∈ RP, isPair x) (t2 : ∀ x ∈ RP2, isPair x) (s3 : ∀ x ∈ MP, isShard x) (t3 : ∀ x ∈ MP2, isShard x) (s4 : ∀ x ∈ EN, isEntry x) (t4 : ∀ x ∈ EN2, isEntry x) (s5 : ∀ x ∈ SE, slPr x) (t5 : ∀ x ∈ SE2, slPr x) : nM (⟨[.n 1 15 kd, .n 0 maxN a1, .n 0 maxN a2, .n 0 maxN a3, .n 0 maxN a4, .n 0 maxN a5, .n 0 maxN a6, .f wh], [.n 0 maxN ok, .t oy, .t ov, .t od, .f og], OW, [.t ol, .t oh, .n 0 maxN om], [.n 0 maxN er, .t rv, .f rg], RP, [.t ru], MP, EN, SE⟩ : Mg) = nM (⟨[.n 1 15 kd2, .n 0 maxN a12, .n 0 maxN a22, .n 0 maxN a32, .n 0 maxN a42, .n 0 maxN a52, .n 0 maxN a62, .f wh2], [.n 0 maxN ok2, .t oy2, .t ov2, .t od2, .f og2], OW2, [.t ol2, .t oh2, .n 0 maxN om2], [.n 0 maxN er2, .t rv2, .f rg2], RP2, [.t ru2], MP2, EN2, SE2⟩ : Mg) ↔ (kd = kd2 ∧ a1 = a12 ∧ a2 = a22 ∧ a3 = a32 ∧ a4 = a42 ∧ a5 = a52 ∧ a6 = a62 ∧ wh = wh2) ∧ (ok, oy, ov, od, og, ol, oh, om, OW) = (ok2, oy2, ov2, od2, og2, ol2, oh2, om2, OW2) ∧ (er, rv, rg, ru, RP) = (er2, rv2, rg2, ru2, RP2) ∧ MP = MP2 ∧ EN = EN2 ∧ SE.map (·.map nF) = SE2.map (·.map nF) := by
  have e1 := nf_id (fun x hx => nWrite (s1 x hx))
  have e2 := nf_id (fun x hx => nPair (s2 x hx))
  have e3 := nf_id (fun x hx => nShard (s3 x hx))
  have e4 := nf_id (fun x hx => nEntry (s4 x hx))
  have d1 := nf_id (fun x hx => nWrite (t1 x hx))
  have d2 := nf_id (fun x hx => nPair (t2 x hx))
  have d3 := nf_id (fun x hx => nShard (t3 x hx))
  have d4 := nf_id (fun x hx => nEntry (t4 x hx))
  simp only [nM, e1, e2, e3, e4, d1, d2, d3, d4, Mg.mk.injEq, List.map_cons, List.map_nil, nF, List.cons.injEq, Fld.n.injEq, Fld.f.injEq, Fld.t.injEq, true_and, and_true, Prod.mk.injEq]
  constructor
  · rintro ⟨g1, g2, g3, g4, g5, g6, g7, g8, g9, g10⟩
    obtain ⟨b1, b2, b3, b4, b5⟩ := g2
    obtain ⟨c1, c2, c3⟩ := g4
    obtain ⟨f1, f2, f3⟩ := g5
    exact ⟨g1, ⟨b1, b2, b3, b4, b5, c1, c2, c3, g3⟩, ⟨f1, f2, f3, g7, g6⟩, g8, g9, g10⟩
  · rintro ⟨g1, ⟨b1, b2, b3, b4, b5, c1, c2, c3, g3⟩, ⟨f1, f2, f3, g7, g6⟩, g8, g9, g10⟩
    exact ⟨g1, ⟨b1, b2, b3, b4, b5⟩, g3, ⟨c1, c2, c3⟩, ⟨f1, f2, f3⟩, g6, g7, g8, g9, g10⟩
set_option maxRecDepth 100000 in
set_option maxHeartbeats 8000000 in
theorem same16x_any (w : World) (kd : Int) (a1 : Int) (a2 : Int) (a3 : Int) (a4 : Int) (a5 : Int) (a6 : Int) (wh : Bool) (ok : Int) (oy : ByteArray) (ov : ByteArray) (od : ByteArray) (og : Bool) (OW : List (List Fld)) (ol : ByteArray) (oh : ByteArray) (om : Int) (er : Int) (rv : ByteArray) (rg : Bool) (RP : List (List Fld)) (ru : ByteArray) (MP : List (List Fld)) (EN : List (List Fld)) (SE : List (List Fld)) (kd2 : Int) (a12 : Int) (a22 : Int) (a32 : Int) (a42 : Int) (a52 : Int) (a62 : Int) (wh2 : Bool) (ok2 : Int) (oy2 : ByteArray) (ov2 : ByteArray) (od2 : ByteArray) (og2 : Bool) (OW2 : List (List Fld)) (ol2 : ByteArray) (oh2 : ByteArray) (om2 : Int) (er2 : Int) (rv2 : ByteArray) (rg2 : Bool) (RP2 : List (List Fld)) (ru2 : ByteArray) (MP2 : List (List Fld)) (EN2 : List (List Fld)) (SE2 : List (List Fld)) (xa1 : Option Addr) (xn1 xc1 : Nat) (xa2 : Option Addr) (xn2 xc2 : Nat) (xa3 : Option Addr) (xn3 xc3 : Nat) (xa4 : Option Addr) (xn4 xc4 : Nat) (xa5 : Option Addr) (xn5 xc5 : Nat) (ya1 : Option Addr) (yn1 yc1 : Nat) (ya2 : Option Addr) (yn2 yc2 : Nat) (ya3 : Option Addr) (yn3 yc3 : Nat) (ya4 : Option Addr) (yn4 yc4 : Nat) (ya5 : Option Addr) (yn5 yc5 : Nat) (h1 : LRv w 3 (.slice xa1 xn1 xc1) OW) (k1 : LRv w 3 (.slice ya1 yn1 yc1) OW2) (m1 : OW.length ≤ maxLen) (l1 : OW2.length ≤ maxLen) (h2 : LRv w 2 (.slice xa2 xn2 xc2) RP) (k2 : LRv w 2 (.slice ya2 yn2 yc2) RP2) (m2 : RP.length ≤ maxLen) (l2 : RP2.length ≤ maxLen) (h3 : LRv w 6 (.slice xa3 xn3 xc3) MP) (k3 : LRv w 6 (.slice ya3 yn3 yc3) MP2) (m3 : MP.length ≤ maxLen) (l3 : MP2.length ≤ maxLen) (h4 : LRv w 4 (.slice xa4 xn4 xc4) EN) (k4 : LRv w 4 (.slice ya4 yn4 yc4) EN2) (m4 : EN.length ≤ maxLen) (l4 : EN2.length ≤ maxLen) (h5 : LRv w 7 (.slice xa5 xn5 xc5) SE) (k5 : LRv w 7 (.slice ya5 yn5 yc5) SE2) (m5 : SE.length ≤ maxLen) (l5 : SE2.length ≤ maxLen) (s1 : ∀ x ∈ OW, isWrite x) (t1 : ∀ x ∈ OW2, isWrite x) (s2 : ∀ x ∈ RP, isPair x) (t2 : ∀ x ∈ RP2, isPair x) (s3 : ∀ x ∈ MP, isShard x) (t3 : ∀ x ∈ MP2, isShard x) (s4 : ∀ x ∈ EN, isEntry x) (t4 : ∀ x ∈ EN2, isEntry x) (s5 : ∀ x ∈ SE, slPr x) (t5 : ∀ x ∈ SE2, slPr x) (hb : bareL SE = true) (hb2 : bareL SE2 = true) :
    Calls Try.prog 15 #[.agg #[.int .i64 kd, .int .i64 a1, .int .i64 a2, .int .i64 a3, .int .i64 a4, .int .i64 a5, .int .i64 a6, .bool wh, .int .i64 ok, .string oy, .string ov, .string od, .bool og, .slice xa1 xn1 xc1, .string ol, .string oh, .int .i64 om, .int .i64 er, .string rv, .bool rg, .slice xa2 xn2 xc2, .string ru, .slice xa3 xn3 xc3, .slice xa4 xn4 xc4, .slice xa5 xn5 xc5], .agg #[.int .i64 kd2, .int .i64 a12, .int .i64 a22, .int .i64 a32, .int .i64 a42, .int .i64 a52, .int .i64 a62, .bool wh2, .int .i64 ok2, .string oy2, .string ov2, .string od2, .bool og2, .slice ya1 yn1 yc1, .string ol2, .string oh2, .int .i64 om2, .int .i64 er2, .string rv2, .bool rg2, .slice ya2 yn2 yc2, .string ru2, .slice ya3 yn3 yc3, .slice ya4 yn4 yc4, .slice ya5 yn5 yc5]] w fun e w' => SamB (nM (⟨[.n 1 15 kd, .n 0 maxN a1, .n 0 maxN a2, .n 0 maxN a3, .n 0 maxN a4, .n 0 maxN a5, .n 0 maxN a6, .f wh], [.n 0 maxN ok, .t oy, .t ov, .t od, .f og], OW, [.t ol, .t oh, .n 0 maxN om], [.n 0 maxN er, .t rv, .f rg], RP, [.t ru], MP, EN, SE⟩ : Mg)) (nM (⟨[.n 1 15 kd2, .n 0 maxN a12, .n 0 maxN a22, .n 0 maxN a32, .n 0 maxN a42, .n 0 maxN a52, .n 0 maxN a62, .f wh2], [.n 0 maxN ok2, .t oy2, .t ov2, .t od2, .f og2], OW2, [.t ol2, .t oh2, .n 0 maxN om2], [.n 0 maxN er2, .t rv2, .f rg2], RP2, [.t ru2], MP2, EN2, SE2⟩ : Mg)) e ∧ Below w.heap.size w w' := by
  have HC0 : Hid (∀ W, Below w.heap.size w W → Calls Try.prog 23 #[.agg #[.int .i64 ok, .string oy, .string ov, .string od, .bool og, .slice xa1 xn1 xc1, .string ol, .string oh, .int .i64 om], .agg #[.int .i64 ok2, .string oy2, .string ov2, .string od2, .bool og2, .slice ya1 yn1 yc1, .string ol2, .string oh2, .int .i64 om2]] W fun e w' => SamB (ok, oy, ov, od, og, ol, oh, om, OW) (ok2, oy2, ov2, od2, og2, ol2, oh2, om2, OW2) e ∧ Below W.heap.size W w') := Lib.hid fun W hb => sameOpx W ok oy ov od og ol oh om xa1 xn1 xc1 ok2 oy2 ov2 od2 og2 ol2 oh2 om2 ya1 yn1 yc1 OW OW2 (h1.old hb) (k1.old hb) s1 t1 m1 l1
  have HC1 : Hid (∀ W, Below w.heap.size w W → Calls Try.prog 24 #[.agg #[.int .i64 er, .string rv, .bool rg, .slice xa2 xn2 xc2, .string ru], .agg #[.int .i64 er2, .string rv2, .bool rg2, .slice ya2 yn2 yc2, .string ru2]] W fun e w' => SamB (er, rv, rg, ru, RP) (er2, rv2, rg2, ru2, RP2) e ∧ Below W.heap.size W w') := Lib.hid fun W hb => sameRepx W er rv rg ru xa2 xn2 xc2 er2 rv2 rg2 ru2 ya2 yn2 yc2 RP RP2 (h2.old hb) (k2.old hb) s2 t2 m2 l2
  have HC2 : Hid (∀ W, Below w.heap.size w W → Calls Try.prog 25 #[.slice xa3 xn3 xc3, .slice ya3 yn3 yc3] W fun e w' => SamB MP MP2 e ∧ Below W.heap.size W w') := Lib.hid fun W hb => sameMapx W xa3 xn3 xc3 ya3 yn3 yc3 MP MP2 (h3.old hb) (k3.old hb) s3 t3 m3 l3
  have HC3 : Hid (∀ W, Below w.heap.size w W → Calls Try.prog 26 #[.slice xa4 xn4 xc4, .slice ya4 yn4 yc4] W fun e w' => SamB EN EN2 e ∧ Below W.heap.size W w') := Lib.hid fun W hb => same04x W xa4 xn4 xc4 ya4 yn4 yc4 EN EN2 (h4.old hb) (k4.old hb) s4 t4 m4 l4
  have HC4 : Hid (∀ W, Below w.heap.size w W → Calls Try.prog 27 #[.slice xa5 xn5 xc5, .slice ya5 yn5 yc5] W fun e w' => SamB (SE.map (·.map nF)) (SE2.map (·.map nF)) e ∧ Below W.heap.size W w') := Lib.hid fun W hb' => same14x W xa5 xn5 xc5 ya5 yn5 yc5 SE SE2 (h5.old hb') (k5.old hb') s5 t5 hb hb2 m5 l5
  have HIF := Lib.hid (nM_iff kd a1 a2 a3 a4 a5 a6 wh ok oy ov od og OW ol oh om er rv rg RP ru MP EN SE kd2 a12 a22 a32 a42 a52 a62 wh2 ok2 oy2 ov2 od2 og2 OW2 ol2 oh2 om2 er2 rv2 rg2 RP2 ru2 MP2 EN2 SE2 s1 t1 s2 t2 s3 t3 s4 t4 s5 t5)
  obtain ⟨P1, hP1⟩ : ∃ P : Mg, P = nM (⟨[.n 1 15 kd, .n 0 maxN a1, .n 0 maxN a2, .n 0 maxN a3, .n 0 maxN a4, .n 0 maxN a5, .n 0 maxN a6, .f wh], [.n 0 maxN ok, .t oy, .t ov, .t od, .f og], OW, [.t ol, .t oh, .n 0 maxN om], [.n 0 maxN er, .t rv, .f rg], RP, [.t ru], MP, EN, SE⟩ : Mg) := ⟨_, rfl⟩
  obtain ⟨P2, hP2⟩ : ∃ P : Mg, P = nM (⟨[.n 1 15 kd2, .n 0 maxN a12, .n 0 maxN a22, .n 0 maxN a32, .n 0 maxN a42, .n 0 maxN a52, .n 0 maxN a62, .f wh2], [.n 0 maxN ok2, .t oy2, .t ov2, .t od2, .f og2], OW2, [.t ol2, .t oh2, .n 0 maxN om2], [.n 0 maxN er2, .t rv2, .f rg2], RP2, [.t ru2], MP2, EN2, SE2⟩ : Mg) := ⟨_, rfl⟩
  rw [← hP1, ← hP2] at HIF ⊢
  clear hP1 hP2
  obtain ⟨rx, hrx⟩ : ∃ x, x = w.heap.size := ⟨_, rfl⟩
  obtain ⟨ry, hry⟩ : ∃ x, x = w.heap.size + 1 := ⟨_, rfl⟩
  obtain ⟨W1, hW1⟩ : ∃ W, W = (w.alloc (.cells #[.int .i64 kd, .int .i64 a1, .int .i64 a2, .int .i64 a3, .int .i64 a4, .int .i64 a5, .int .i64 a6, .bool wh, .int .i64 ok, .string oy, .string ov, .string od, .bool og, .slice xa1 xn1 xc1, .string ol, .string oh, .int .i64 om, .int .i64 er, .string rv, .bool rg, .slice xa2 xn2 xc2, .string ru, .slice xa3 xn3 xc3, .slice xa4 xn4 xc4, .slice xa5 xn5 xc5] 35)).alloc (.cells #[.int .i64 kd2, .int .i64 a12, .int .i64 a22, .int .i64 a32, .int .i64 a42, .int .i64 a52, .int .i64 a62, .bool wh2, .int .i64 ok2, .string oy2, .string ov2, .string od2, .bool og2, .slice ya1 yn1 yc1, .string ol2, .string oh2, .int .i64 om2, .int .i64 er2, .string rv2, .bool rg2, .slice ya2 yn2 yc2, .string ru2, .slice ya3 yn3 yc3, .slice ya4 yn4 yc4, .slice ya5 yn5 yc5] 35) := ⟨_, rfl⟩
  have e1 : (w.alloc (.cells #[.int .i64 kd, .int .i64 a1, .int .i64 a2, .int .i64 a3, .int .i64 a4, .int .i64 a5, .int .i64 a6, .bool wh, .int .i64 ok, .string oy, .string ov, .string od, .bool og, .slice xa1 xn1 xc1, .string ol, .string oh, .int .i64 om, .int .i64 er, .string rv, .bool rg, .slice xa2 xn2 xc2, .string ru, .slice xa3 xn3 xc3, .slice xa4 xn4 xc4, .slice xa5 xn5 xc5] 35)).heap.size = w.heap.size + 1 := by simp
  have e2 : W1.heap.size = w.heap.size + 2 := by rw [hW1]; simp
  have b1 : Below w.heap.size w W1 := by rw [hW1]; exact ((Below.refl _ w).alloc (Nat.le_refl _) _).alloc (by rw [e1]; omega) _
  have hx : W1.heap[rx]? = some (.cells #[.int .i64 kd, .int .i64 a1, .int .i64 a2, .int .i64 a3, .int .i64 a4, .int .i64 a5, .int .i64 a6, .bool wh, .int .i64 ok, .string oy, .string ov, .string od, .bool og, .slice xa1 xn1 xc1, .string ol, .string oh, .int .i64 om, .int .i64 er, .string rv, .bool rg, .slice xa2 xn2 xc2, .string ru, .slice xa3 xn3 xc3, .slice xa4 xn4 xc4, .slice xa5 xn5 xc5] 35 (0, 0)) := by
    rw [hW1, hrx, Below.heap_alloc _ _ _ (by rw [e1]; omega)]
    exact heap_alloc_new w _
  have hy : W1.heap[ry]? = some (.cells #[.int .i64 kd2, .int .i64 a12, .int .i64 a22, .int .i64 a32, .int .i64 a42, .int .i64 a52, .int .i64 a62, .bool wh2, .int .i64 ok2, .string oy2, .string ov2, .string od2, .bool og2, .slice ya1 yn1 yc1, .string ol2, .string oh2, .int .i64 om2, .int .i64 er2, .string rv2, .bool rg2, .slice ya2 yn2 yc2, .string ru2, .slice ya3 yn3 yc3, .slice ya4 yn4 yc4, .slice ya5 yn5 yc5] 35 (0, 0)) := by
    have := heap_alloc_new (w.alloc (.cells #[.int .i64 kd, .int .i64 a1, .int .i64 a2, .int .i64 a3, .int .i64 a4, .int .i64 a5, .int .i64 a6, .bool wh, .int .i64 ok, .string oy, .string ov, .string od, .bool og, .slice xa1 xn1 xc1, .string ol, .string oh, .int .i64 om, .int .i64 er, .string rv, .bool rg, .slice xa2 xn2 xc2, .string ru, .slice xa3 xn3 xc3, .slice xa4 xn4 xc4, .slice xa5 xn5 xc5] 35)) (.cells #[.int .i64 kd2, .int .i64 a12, .int .i64 a22, .int .i64 a32, .int .i64 a42, .int .i64 a52, .int .i64 a62, .bool wh2, .int .i64 ok2, .string oy2, .string ov2, .string od2, .bool og2, .slice ya1 yn1 yc1, .string ol2, .string oh2, .int .i64 om2, .int .i64 er2, .string rv2, .bool rg2, .slice ya2 yn2 yc2, .string ru2, .slice ya3 yn3 yc3, .slice ya4 yn4 yc4, .slice ya5 yn5 yc5] 35)
    rw [e1] at this
    rw [hW1, hry]
    exact this
  have hlx : rx < W1.heap.size := by omega
  have hly : ry < W1.heap.size := by omega
  have HXC : Hid (∀ W, Below W1.heap.size W1 W → ∀ i v, (#[.int .i64 kd, .int .i64 a1, .int .i64 a2, .int .i64 a3, .int .i64 a4, .int .i64 a5, .int .i64 a6, .bool wh, .int .i64 ok, .string oy, .string ov, .string od, .bool og, .slice xa1 xn1 xc1, .string ol, .string oh, .int .i64 om, .int .i64 er, .string rv, .bool rg, .slice xa2 xn2 xc2, .string ru, .slice xa3 xn3 xc3, .slice xa4 xn4 xc4, .slice xa5 xn5 xc5] : Array Value)[i]? = some v → W.cell? ⟨rx, i, none⟩ = some v) := Lib.hid fun W hb i v hv => (hb.cell (p := ⟨rx, i, none⟩) hlx).trans (by unfold World.cell?; simp only [hx]; exact hv)
  have HYC : Hid (∀ W, Below W1.heap.size W1 W → ∀ i v, (#[.int .i64 kd2, .int .i64 a12, .int .i64 a22, .int .i64 a32, .int .i64 a42, .int .i64 a52, .int .i64 a62, .bool wh2, .int .i64 ok2, .string oy2, .string ov2, .string od2, .bool og2, .slice ya1 yn1 yc1, .string ol2, .string oh2, .int .i64 om2, .int .i64 er2, .string rv2, .bool rg2, .slice ya2 yn2 yc2, .string ru2, .slice ya3 yn3 yc3, .slice ya4 yn4 yc4, .slice ya5 yn5 yc5] : Array Value)[i]? = some v → W.cell? ⟨ry, i, none⟩ = some v) := Lib.hid fun W hb i v hv => (hb.cell (p := ⟨ry, i, none⟩) hly).trans (by unfold World.cell?; simp only [hy]; exact hv)
  have HX := Lib.hid (And.intro hrx hry)
  have HB := Lib.hid b1
  clear e1 e2 b1 hx hy hrx hry h1 k1 m1 l1 h2 k2 m2 l2 h3 k3 m3 l3 h4 k4 m4 l4 h5 k5 m5 l5 s1 s2 s3 s4 s5 t1 t2 t3 t4 t5 hb hb2
  by_cases ekd : kd = kd2
  case neg =>
    have HF : Hid (SamB P1 P2 (.returned (.bool false))) := Lib.hid (SamB.no (fun c => ekd (by have c := HIF.out.1 c; exact c.1.1)))
    clear HIF HC0 HC1 HC2 HC3 HC4
    go_enter Try.func15, Try.ntmps15
    go_upto_region 1 with fail
    rw [← hW1]
    rw [show w.heap.size + 1 = ry from HX.out.2.symm]
    rw [show (Value.pointer (some ⟨w.heap.size, 0, none⟩)) = .pointer (some ⟨rx, 0, none⟩) by rw [HX.out.1]]
    clear hW1
    have z0 := HXC.out W1 (Below.refl _ _) 0 _ rfl
    have y0 := HYC.out W1 (Below.refl _ _) 0 _ rfl
    go_wp2_with fail
    go_ret
    exact ⟨HF.out, HB.out⟩
  subst ekd
  by_cases ea1 : a1 = a12
  case neg =>
    have HF : Hid (SamB P1 P2 (.returned (.bool false))) := Lib.hid (SamB.no (fun c => ea1 (by have c := HIF.out.1 c; exact c.1.2.1)))
    clear HIF HC0 HC1 HC2 HC3 HC4
    go_enter Try.func15, Try.ntmps15
    go_upto_region 1 with fail
    rw [← hW1]
    rw [show w.heap.size + 1 = ry from HX.out.2.symm]
    rw [show (Value.pointer (some ⟨w.heap.size, 0, none⟩)) = .pointer (some ⟨rx, 0, none⟩) by rw [HX.out.1]]
    clear hW1
    have z0 := HXC.out W1 (Below.refl _ _) 0 _ rfl
    have y0 := HYC.out W1 (Below.refl _ _) 0 _ rfl
    have z1 := HXC.out W1 (Below.refl _ _) 1 _ rfl
    have y1 := HYC.out W1 (Below.refl _ _) 1 _ rfl
    go_wp2_with fail
    go_ret
    exact ⟨HF.out, HB.out⟩
  subst ea1
  by_cases ea2 : a2 = a22
  case neg =>
    have HF : Hid (SamB P1 P2 (.returned (.bool false))) := Lib.hid (SamB.no (fun c => ea2 (by have c := HIF.out.1 c; exact c.1.2.2.1)))
    clear HIF HC0 HC1 HC2 HC3 HC4
    go_enter Try.func15, Try.ntmps15
    go_upto_region 1 with fail
    rw [← hW1]
    rw [show w.heap.size + 1 = ry from HX.out.2.symm]
    rw [show (Value.pointer (some ⟨w.heap.size, 0, none⟩)) = .pointer (some ⟨rx, 0, none⟩) by rw [HX.out.1]]
    clear hW1
    have z0 := HXC.out W1 (Below.refl _ _) 0 _ rfl
    have y0 := HYC.out W1 (Below.refl _ _) 0 _ rfl
    have z1 := HXC.out W1 (Below.refl _ _) 1 _ rfl
    have y1 := HYC.out W1 (Below.refl _ _) 1 _ rfl
    have z2 := HXC.out W1 (Below.refl _ _) 2 _ rfl
    have y2 := HYC.out W1 (Below.refl _ _) 2 _ rfl
    go_wp2_with fail
    go_ret
    exact ⟨HF.out, HB.out⟩
  subst ea2
  by_cases ea3 : a3 = a32
  case neg =>
    have HF : Hid (SamB P1 P2 (.returned (.bool false))) := Lib.hid (SamB.no (fun c => ea3 (by have c := HIF.out.1 c; exact c.1.2.2.2.1)))
    clear HIF HC0 HC1 HC2 HC3 HC4
    go_enter Try.func15, Try.ntmps15
    go_upto_region 1 with fail
    rw [← hW1]
    rw [show w.heap.size + 1 = ry from HX.out.2.symm]
    rw [show (Value.pointer (some ⟨w.heap.size, 0, none⟩)) = .pointer (some ⟨rx, 0, none⟩) by rw [HX.out.1]]
    clear hW1
    have z0 := HXC.out W1 (Below.refl _ _) 0 _ rfl
    have y0 := HYC.out W1 (Below.refl _ _) 0 _ rfl
    have z1 := HXC.out W1 (Below.refl _ _) 1 _ rfl
    have y1 := HYC.out W1 (Below.refl _ _) 1 _ rfl
    have z2 := HXC.out W1 (Below.refl _ _) 2 _ rfl
    have y2 := HYC.out W1 (Below.refl _ _) 2 _ rfl
    have z3 := HXC.out W1 (Below.refl _ _) 3 _ rfl
    have y3 := HYC.out W1 (Below.refl _ _) 3 _ rfl
    go_wp2_with fail
    go_ret
    exact ⟨HF.out, HB.out⟩
  subst ea3
  by_cases ea4 : a4 = a42
  case neg =>
    have HF : Hid (SamB P1 P2 (.returned (.bool false))) := Lib.hid (SamB.no (fun c => ea4 (by have c := HIF.out.1 c; exact c.1.2.2.2.2.1)))
    clear HIF HC0 HC1 HC2 HC3 HC4
    go_enter Try.func15, Try.ntmps15
    go_upto_region 1 with fail
    rw [← hW1]
    rw [show w.heap.size + 1 = ry from HX.out.2.symm]
    rw [show (Value.pointer (some ⟨w.heap.size, 0, none⟩)) = .pointer (some ⟨rx, 0, none⟩) by rw [HX.out.1]]
    clear hW1
    have z0 := HXC.out W1 (Below.refl _ _) 0 _ rfl
    have y0 := HYC.out W1 (Below.refl _ _) 0 _ rfl
    have z1 := HXC.out W1 (Below.refl _ _) 1 _ rfl
    have y1 := HYC.out W1 (Below.refl _ _) 1 _ rfl
    have z2 := HXC.out W1 (Below.refl _ _) 2 _ rfl
    have y2 := HYC.out W1 (Below.refl _ _) 2 _ rfl
    have z3 := HXC.out W1 (Below.refl _ _) 3 _ rfl
    have y3 := HYC.out W1 (Below.refl _ _) 3 _ rfl
    have z4 := HXC.out W1 (Below.refl _ _) 4 _ rfl
    have y4 := HYC.out W1 (Below.refl _ _) 4 _ rfl
    go_wp2_with fail
    go_ret
    exact ⟨HF.out, HB.out⟩
  subst ea4
  by_cases ea5 : a5 = a52
  case neg =>
    have HF : Hid (SamB P1 P2 (.returned (.bool false))) := Lib.hid (SamB.no (fun c => ea5 (by have c := HIF.out.1 c; exact c.1.2.2.2.2.2.1)))
    clear HIF HC0 HC1 HC2 HC3 HC4
    go_enter Try.func15, Try.ntmps15
    go_upto_region 1 with fail
    rw [← hW1]
    rw [show w.heap.size + 1 = ry from HX.out.2.symm]
    rw [show (Value.pointer (some ⟨w.heap.size, 0, none⟩)) = .pointer (some ⟨rx, 0, none⟩) by rw [HX.out.1]]
    clear hW1
    have z0 := HXC.out W1 (Below.refl _ _) 0 _ rfl
    have y0 := HYC.out W1 (Below.refl _ _) 0 _ rfl
    have z1 := HXC.out W1 (Below.refl _ _) 1 _ rfl
    have y1 := HYC.out W1 (Below.refl _ _) 1 _ rfl
    have z2 := HXC.out W1 (Below.refl _ _) 2 _ rfl
    have y2 := HYC.out W1 (Below.refl _ _) 2 _ rfl
    have z3 := HXC.out W1 (Below.refl _ _) 3 _ rfl
    have y3 := HYC.out W1 (Below.refl _ _) 3 _ rfl
    have z4 := HXC.out W1 (Below.refl _ _) 4 _ rfl
    have y4 := HYC.out W1 (Below.refl _ _) 4 _ rfl
    have z5 := HXC.out W1 (Below.refl _ _) 5 _ rfl
    have y5 := HYC.out W1 (Below.refl _ _) 5 _ rfl
    go_wp2_with fail
    go_ret
    exact ⟨HF.out, HB.out⟩
  subst ea5
  by_cases ea6 : a6 = a62
  case neg =>
    have HF : Hid (SamB P1 P2 (.returned (.bool false))) := Lib.hid (SamB.no (fun c => ea6 (by have c := HIF.out.1 c; exact c.1.2.2.2.2.2.2.1)))
    clear HIF HC0 HC1 HC2 HC3 HC4
    go_enter Try.func15, Try.ntmps15
    go_upto_region 1 with fail
    rw [← hW1]
    rw [show w.heap.size + 1 = ry from HX.out.2.symm]
    rw [show (Value.pointer (some ⟨w.heap.size, 0, none⟩)) = .pointer (some ⟨rx, 0, none⟩) by rw [HX.out.1]]
    clear hW1
    have z0 := HXC.out W1 (Below.refl _ _) 0 _ rfl
    have y0 := HYC.out W1 (Below.refl _ _) 0 _ rfl
    have z1 := HXC.out W1 (Below.refl _ _) 1 _ rfl
    have y1 := HYC.out W1 (Below.refl _ _) 1 _ rfl
    have z2 := HXC.out W1 (Below.refl _ _) 2 _ rfl
    have y2 := HYC.out W1 (Below.refl _ _) 2 _ rfl
    have z3 := HXC.out W1 (Below.refl _ _) 3 _ rfl
    have y3 := HYC.out W1 (Below.refl _ _) 3 _ rfl
    have z4 := HXC.out W1 (Below.refl _ _) 4 _ rfl
    have y4 := HYC.out W1 (Below.refl _ _) 4 _ rfl
    have z5 := HXC.out W1 (Below.refl _ _) 5 _ rfl
    have y5 := HYC.out W1 (Below.refl _ _) 5 _ rfl
    have z6 := HXC.out W1 (Below.refl _ _) 6 _ rfl
    have y6 := HYC.out W1 (Below.refl _ _) 6 _ rfl
    go_wp2_with fail
    go_ret
    exact ⟨HF.out, HB.out⟩
  subst ea6
  by_cases ewh : wh = wh2
  case neg =>
    have HF : Hid (SamB P1 P2 (.returned (.bool false))) := Lib.hid (SamB.no (fun c => ewh (by have c := HIF.out.1 c; exact c.1.2.2.2.2.2.2.2)))
    clear HIF HC0 HC1 HC2 HC3 HC4
    cases wh <;> cases wh2
    · exact absurd rfl ewh
    rotate_right
    · exact absurd rfl ewh
    all_goals
      go_enter Try.func15, Try.ntmps15
      go_upto_region 1 with fail
      rw [← hW1]
      rw [show w.heap.size + 1 = ry from HX.out.2.symm]
      rw [show (Value.pointer (some ⟨w.heap.size, 0, none⟩)) = .pointer (some ⟨rx, 0, none⟩) by rw [HX.out.1]]
      clear hW1
      have z0 := HXC.out W1 (Below.refl _ _) 0 _ rfl
      have y0 := HYC.out W1 (Below.refl _ _) 0 _ rfl
      have z1 := HXC.out W1 (Below.refl _ _) 1 _ rfl
      have y1 := HYC.out W1 (Below.refl _ _) 1 _ rfl
      have z2 := HXC.out W1 (Below.refl _ _) 2 _ rfl
      have y2 := HYC.out W1 (Below.refl _ _) 2 _ rfl
      have z3 := HXC.out W1 (Below.refl _ _) 3 _ rfl
      have y3 := HYC.out W1 (Below.refl _ _) 3 _ rfl
      have z4 := HXC.out W1 (Below.refl _ _) 4 _ rfl
      have y4 := HYC.out W1 (Below.refl _ _) 4 _ rfl
      have z5 := HXC.out W1 (Below.refl _ _) 5 _ rfl
      have y5 := HYC.out W1 (Below.refl _ _) 5 _ rfl
      have z6 := HXC.out W1 (Below.refl _ _) 6 _ rfl
      have y6 := HYC.out W1 (Below.refl _ _) 6 _ rfl
      have z7 := HXC.out W1 (Below.refl _ _) 7 _ rfl
      have y7 := HYC.out W1 (Below.refl _ _) 7 _ rfl
      go_wp2_with fail
      go_ret
      exact ⟨HF.out, HB.out⟩
  subst ewh
  cases wh
  all_goals
    go_enter Try.func15, Try.ntmps15
    go_upto_region 1 with fail
    rw [← hW1]
    rw [show w.heap.size + 1 = ry from HX.out.2.symm]
    rw [show (Value.pointer (some ⟨w.heap.size, 0, none⟩)) = .pointer (some ⟨rx, 0, none⟩) by rw [HX.out.1]]
    clear hW1
    have z0 := HXC.out W1 (Below.refl _ _) 0 _ rfl
    have y0 := HYC.out W1 (Below.refl _ _) 0 _ rfl
    have z1 := HXC.out W1 (Below.refl _ _) 1 _ rfl
    have y1 := HYC.out W1 (Below.refl _ _) 1 _ rfl
    have z2 := HXC.out W1 (Below.refl _ _) 2 _ rfl
    have y2 := HYC.out W1 (Below.refl _ _) 2 _ rfl
    have z3 := HXC.out W1 (Below.refl _ _) 3 _ rfl
    have y3 := HYC.out W1 (Below.refl _ _) 3 _ rfl
    have z4 := HXC.out W1 (Below.refl _ _) 4 _ rfl
    have y4 := HYC.out W1 (Below.refl _ _) 4 _ rfl
    have z5 := HXC.out W1 (Below.refl _ _) 5 _ rfl
    have y5 := HYC.out W1 (Below.refl _ _) 5 _ rfl
    have z6 := HXC.out W1 (Below.refl _ _) 6 _ rfl
    have y6 := HYC.out W1 (Below.refl _ _) 6 _ rfl
    have z7 := HXC.out W1 (Below.refl _ _) 7 _ rfl
    have y7 := HYC.out W1 (Below.refl _ _) 7 _ rfl
    have z8 := HXC.out W1 (Below.refl _ _) 8 _ rfl
    have y8 := HYC.out W1 (Below.refl _ _) 8 _ rfl
    have z9 := HXC.out W1 (Below.refl _ _) 9 _ rfl
    have y9 := HYC.out W1 (Below.refl _ _) 9 _ rfl
    have z10 := HXC.out W1 (Below.refl _ _) 10 _ rfl
    have y10 := HYC.out W1 (Below.refl _ _) 10 _ rfl
    have z11 := HXC.out W1 (Below.refl _ _) 11 _ rfl
    have y11 := HYC.out W1 (Below.refl _ _) 11 _ rfl
    have z12 := HXC.out W1 (Below.refl _ _) 12 _ rfl
    have y12 := HYC.out W1 (Below.refl _ _) 12 _ rfl
    have z13 := HXC.out W1 (Below.refl _ _) 13 _ rfl
    have y13 := HYC.out W1 (Below.refl _ _) 13 _ rfl
    have z14 := HXC.out W1 (Below.refl _ _) 14 _ rfl
    have y14 := HYC.out W1 (Below.refl _ _) 14 _ rfl
    have z15 := HXC.out W1 (Below.refl _ _) 15 _ rfl
    have y15 := HYC.out W1 (Below.refl _ _) 15 _ rfl
    have z16 := HXC.out W1 (Below.refl _ _) 16 _ rfl
    have y16 := HYC.out W1 (Below.refl _ _) 16 _ rfl
    go_wp2_with fail
    refine (HC0.out W1 HB.out).mono ?_
    rintro e w2 ⟨⟨q0, rfl, hq0⟩, hb⟩
    have HB2 := Lib.hid hb
    have HQ0 := Lib.hid hq0
    clear hb hq0 z0 y0 z1 y1 z2 y2 z3 y3 z4 y4 z5 y5 z6 y6 z7 y7 z8 y8 z9 y9 z10 y10 z11 y11 z12 y12 z13 y13 z14 y14 z15 y15 z16 y16
    cases q0 with
    | false =>
      have HF : Hid (SamB P1 P2 (.returned (.bool false))) := Lib.hid (SamB.no (fun c => by have := HQ0.out.2 ((HIF.out.1 c).2.1); cases this))
      go_wp2_with fail
      go_ret
      exact ⟨HF.out, HB.out.trans (HB2.out.mono HB.out.size)⟩
    | true =>
    have z17 := HXC.out w2 HB2.out 17 _ rfl
    have y17 := HYC.out w2 HB2.out 17 _ rfl
    have z18 := HXC.out w2 HB2.out 18 _ rfl
    have y18 := HYC.out w2 HB2.out 18 _ rfl
    have z19 := HXC.out w2 HB2.out 19 _ rfl
    have y19 := HYC.out w2 HB2.out 19 _ rfl
    have z20 := HXC.out w2 HB2.out 20 _ rfl
    have y20 := HYC.out w2 HB2.out 20 _ rfl
    have z21 := HXC.out w2 HB2.out 21 _ rfl
    have y21 := HYC.out w2 HB2.out 21 _ rfl
    go_wp2_with fail
    refine (HC1.out w2 (HB.out.trans (HB2.out.mono HB.out.size))).mono ?_
    rintro e w3 ⟨⟨q1, rfl, hq1⟩, hb⟩
    have HB3 := Lib.hid (HB2.out.trans (hb.mono HB2.out.size))
    have HQ1 := Lib.hid hq1
    clear hb hq1 z17 y17 z18 y18 z19 y19 z20 y20 z21 y21
    cases q1 with
    | false =>
      have HF : Hid (SamB P1 P2 (.returned (.bool false))) := Lib.hid (SamB.no (fun c => by have := HQ1.out.2 ((HIF.out.1 c).2.2.1); cases this))
      go_wp2_with fail
      go_ret
      exact ⟨HF.out, HB.out.trans (HB3.out.mono HB.out.size)⟩
    | true =>
    have z22 := HXC.out w3 HB3.out 22 _ rfl
    have y22 := HYC.out w3 HB3.out 22 _ rfl
    go_wp2_with fail
    refine (HC2.out w3 (HB.out.trans (HB3.out.mono HB.out.size))).mono ?_
    rintro e w4 ⟨⟨q2, rfl, hq2⟩, hb⟩
    have HB4 := Lib.hid (HB3.out.trans (hb.mono HB3.out.size))
    have HQ2 := Lib.hid hq2
    clear hb hq2 z22 y22
    cases q2 with
    | false =>
      have HF : Hid (SamB P1 P2 (.returned (.bool false))) := Lib.hid (SamB.no (fun c => by have := HQ2.out.2 ((HIF.out.1 c).2.2.2.1); cases this))
      go_wp2_with fail
      go_ret
      exact ⟨HF.out, HB.out.trans (HB4.out.mono HB.out.size)⟩
    | true =>
    have z23 := HXC.out w4 HB4.out 23 _ rfl
    have y23 := HYC.out w4 HB4.out 23 _ rfl
    go_wp2_with fail
    refine (HC3.out w4 (HB.out.trans (HB4.out.mono HB.out.size))).mono ?_
    rintro e w5 ⟨⟨q3, rfl, hq3⟩, hb⟩
    have HB5 := Lib.hid (HB4.out.trans (hb.mono HB4.out.size))
    have HQ3 := Lib.hid hq3
    clear hb hq3 z23 y23
    cases q3 with
    | false =>
      have HF : Hid (SamB P1 P2 (.returned (.bool false))) := Lib.hid (SamB.no (fun c => by have := HQ3.out.2 ((HIF.out.1 c).2.2.2.2.1); cases this))
      go_wp2_with fail
      go_ret
      exact ⟨HF.out, HB.out.trans (HB5.out.mono HB.out.size)⟩
    | true =>
    have z24 := HXC.out w5 HB5.out 24 _ rfl
    have y24 := HYC.out w5 HB5.out 24 _ rfl
    go_wp2_with fail
    refine (HC4.out w5 (HB.out.trans (HB5.out.mono HB.out.size))).mono ?_
    rintro e w6 ⟨⟨q4, rfl, hq4⟩, hb⟩
    have HB6 := Lib.hid (HB5.out.trans (hb.mono HB5.out.size))
    have HQ4 := Lib.hid hq4
    clear hb hq4 z24 y24
    cases q4 with
    | false =>
      have HF : Hid (SamB P1 P2 (.returned (.bool false))) := Lib.hid (SamB.no (fun c => by have := HQ4.out.2 ((HIF.out.1 c).2.2.2.2.2); cases this))
      go_wp2_with fail
      go_ret
      exact ⟨HF.out, HB.out.trans (HB6.out.mono HB.out.size)⟩
    | true =>
    have HF : Hid (SamB P1 P2 (.returned (.bool true))) := Lib.hid (SamB.yes (HIF.out.2 ⟨by simp, HQ0.out.1 (by simp), HQ1.out.1 (by simp), HQ2.out.1 (by simp), HQ3.out.1 (by simp), HQ4.out.1 (by simp)⟩))
    go_wp2_with fail
    go_ret
    exact ⟨HF.out, HB.out.trans (HB6.out.mono HB.out.size)⟩
/-- Same, over cells as lists. -/
theorem same16x (VL UL : List Value) (a b : Mg) (w : World) (h : MV (LRv w) VL a) (k : MV (LRv w) UL b) (ha : bareL a.SE = true) (hb : bareL b.SE = true) (hla : okM a = true) (hlb : okM b = true) :
    Calls Try.prog 15 #[.agg VL.toArray, .agg UL.toArray] w fun e w' => SamB (nM a) (nM b) e ∧ Below w.heap.size w w' := by
  have hl1 := okM_len hla
  have hl2 := okM_len hlb
  clear hla hlb
  obtain ⟨kd, a1, a2, a3, a4, a5, a6, wh, ok, oy, ov, od, og, OW, ol, oh, om, er, rv, rg, RP, ru, MP, EN, SE, v1, v2, v3, v4, v5, e1, e2, r1, r2, r3, r4, r5, s1, s2, s3, s4, s5⟩ := h
  obtain ⟨kd2, a12, a22, a32, a42, a52, a62, wh2, ok2, oy2, ov2, od2, og2, OW2, ol2, oh2, om2, er2, rv2, rg2, RP2, ru2, MP2, EN2, SE2, u1, u2, u3, u4, u5, e1', e2', r1', r2', r3', r4', r5', t1, t2, t3, t4, t5⟩ := k
  subst e1 e2 e1' e2'
  simp only at hl1 hl2 ha hb
  obtain ⟨l1, l2, l3, l4, l5⟩ := hl1
  obtain ⟨j1, j2, j3, j4, j5⟩ := hl2
  obtain ⟨xa1, xn1, xc1, rfl, p1⟩ := r1
  obtain ⟨xa2, xn2, xc2, rfl, p2⟩ := r2
  obtain ⟨xa3, xn3, xc3, rfl, p3⟩ := r3
  obtain ⟨xa4, xn4, xc4, rfl, p4⟩ := r4
  obtain ⟨xa5, xn5, xc5, rfl, p5⟩ := r5
  obtain ⟨ya1, yn1, yc1, rfl, q1⟩ := r1'
  obtain ⟨ya2, yn2, yc2, rfl, q2⟩ := r2'
  obtain ⟨ya3, yn3, yc3, rfl, q3⟩ := r3'
  obtain ⟨ya4, yn4, yc4, rfl, q4⟩ := r4'
  obtain ⟨ya5, yn5, yc5, rfl, q5⟩ := r5'
  have hm : (512 : Nat) ≤ maxLen := by decide
  exact same16x_any w kd a1 a2 a3 a4 a5 a6 wh ok oy ov od og OW ol oh om er rv rg RP ru MP EN SE kd2 a12 a22 a32 a42 a52 a62 wh2 ok2 oy2 ov2 od2 og2 OW2 ol2 oh2 om2 er2 rv2 rg2 RP2 ru2 MP2 EN2 SE2 xa1 xn1 xc1 xa2 xn2 xc2 xa3 xn3 xc3 xa4 xn4 xc4 xa5 xn5 xc5 ya1 yn1 yc1 ya2 yn2 yc2 ya3 yn3 yc3 ya4 yn4 yc4 ya5 yn5 yc5 ⟨_, _, _, rfl, p1⟩ ⟨_, _, _, rfl, q1⟩ (by omega) (by omega) ⟨_, _, _, rfl, p2⟩ ⟨_, _, _, rfl, q2⟩ (by omega) (by omega) ⟨_, _, _, rfl, p3⟩ ⟨_, _, _, rfl, q3⟩ (by omega) (by omega) ⟨_, _, _, rfl, p4⟩ ⟨_, _, _, rfl, q4⟩ (by omega) (by omega) ⟨_, _, _, rfl, p5⟩ ⟨_, _, _, rfl, q5⟩ (by omega) (by omega) s1 t1 s2 t2 s3 t3 s4 t4 s5 t5 ha hb
end Go.Proofs.Ytdnhmkfgcpdbkaa
