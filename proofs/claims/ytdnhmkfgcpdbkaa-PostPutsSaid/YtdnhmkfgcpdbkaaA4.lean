/-
  Texts of mine as one, in the order in which they build: Ua, Ub, Uc, Ud. Conditions: as each says.
-/
import Derived.Test.YtdnhmkfgcpdbkaaTy
import Derived.Test.YtdnhmkfgcpdbkaaTz
import Derived.Test.YtdnhmkfgcpdbkaaRg
namespace Go.Proofs.Ytdnhmkfgcpdbkaa
open Go.RowKit
set_option linter.unusedVariables false
set_option linter.unusedSimpArgs false
set_option maxRecDepth 100000 in
set_option maxHeartbeats 2000000 in
theorem sameMap_any (w : World) (a1 : Option Addr) (n1 c1 : Nat) (a2 : Option Addr) (n2 c2 : Nat) (L : List (List Fld)) (h1 : LRv w 6 (.slice a1 n1 c1) L) (h2 : LRv w 6 (.slice a2 n2 c2) L) (hsh : ∀ x ∈ L, isShard x) (hm : L.length ≤ maxLen) :
    Calls Try.prog 25 #[.slice a1 n1 c1, .slice a2 n2 c2] w fun e w' => e = .returned (.bool true) ∧ Below w.heap.size w w' := by
  unfold maxLen at hm
  obtain ⟨_, _, _, e1, k1, r1⟩ := h1
  obtain ⟨_, _, _, e2, k2, r2⟩ := h2
  injection e1 with e1 e1' e1''
  injection e2 with e2 e2' e2''
  subst e1 e1' e1'' e2 e2' e2''
  obtain ⟨n, hn⟩ : ∃ n, n = L.length := ⟨_, rfl⟩
  rw [← hn] at k1 k2
  subst k1 k2
  rw [← hn] at hm
  have HN := Lib.hid hn
  have H1 := Lib.hid r1
  have H2 := Lib.hid r2
  have HSH := Lib.hid hsh
  clear r1 r2 hsh hn
  go_enter Try.func25, Try.ntmps25
  go_wp2_with fail
  go_loopw [5] (fun i wr => ∃ k : Nat, i = .int .i64 k ∧ k ≤ n ∧ Hid (Below w.heap.size w wr)) (fun i _ => n - (intOf i).toNat)
  case atStart => exact ⟨0, by first | rfl | go_num, by omega, Lib.hid (Below.refl _ _)⟩
  case round =>
    obtain ⟨k, rfl, hk, HW⟩ := hrel
    by_cases hlt : k < n
    · have hki : (k : Int) < (n : Int) := by omega
      have hkl : k < L.length := by rw [← HN.out]; exact hlt
      obtain ⟨x, hx⟩ : ∃ x, x = L[k] := ⟨_, rfl⟩
      have hsx := HSH.out x (by rw [hx]; exact List.getElem_mem hkl)
      rcases H1.out with e0 | ⟨b1, o1, q1, l1, g1⟩
      · rw [e0] at hkl; simp at hkl
      rcases H2.out with e0 | ⟨b2, o2, q2, l2, g2⟩
      · rw [e0] at hkl; simp at hkl
      subst q1 q2
      have hf1 : FAt wr b1 (o1 + k * 6) x := fun i hi => (HW.out.cell (p := ⟨b1, _, none⟩) l1).trans (by subst hx; exact g1 k hkl i hi)
      have hf2 : FAt wr b2 (o2 + k * 6) x := fun i hi => (HW.out.cell (p := ⟨b2, _, none⟩) l2).trans (by subst hx; exact g2 k hkl i hi)
      have hl1 : b1 < wr.heap.size := Nat.lt_of_lt_of_le l1 HW.out.size
      have hl2 : b2 < wr.heap.size := Nat.lt_of_lt_of_le l2 HW.out.size
      clear g1 g2 hx l1 l2 hkl
      obtain ⟨id, lo, hi, ep, nd, st, rfl⟩ := hsx
      have c0 := hf1 0 (by simp)
      have c1 := hf1 1 (by simp)
      have c2 := hf1 2 (by simp)
      have c3 := hf1 3 (by simp)
      have c4 := hf1 4 (by simp)
      have c5 := hf1 5 (by simp)
      have d0 := hf2 0 (by simp)
      have d1 := hf2 1 (by simp)
      have d2 := hf2 2 (by simp)
      have d3 := hf2 3 (by simp)
      have d4 := hf2 4 (by simp)
      have d5 := hf2 5 (by simp)
      simp only [List.getElem_cons_zero, List.getElem_cons_succ, Fld.cell, Nat.add_zero] at c0 c1 c2 c3 c4 c5 d0 d1 d2 d3 d4 d5
      clear hf1 hf2
      have HWD := Lib.hid (HW.out.drew)
      go_upto_region 6 with fail
      go_region
      go_wp2_with fail
      go_roundw
      case rel => exact ⟨k + 1, by go_num, by omega, by first | exact HWD | exact HW⟩
      case measure => simp [intOf]; omega
    · obtain rfl : k = n := by omega
      have hki : ¬ (k : Int) < (k : Int) := by omega
      clear hlt hk
      go_wp2_with fail
      go_ret
      exact ⟨rfl, HW.out⟩
set_option maxRecDepth 100000 in
set_option maxHeartbeats 2000000 in
theorem same04_any (w : World) (a1 : Option Addr) (n1 c1 : Nat) (a2 : Option Addr) (n2 c2 : Nat) (L : List (List Fld)) (h1 : LRv w 4 (.slice a1 n1 c1) L) (h2 : LRv w 4 (.slice a2 n2 c2) L) (hsh : ∀ x ∈ L, isEntry x) (hm : L.length ≤ maxLen) :
    Calls Try.prog 26 #[.slice a1 n1 c1, .slice a2 n2 c2] w fun e w' => e = .returned (.bool true) ∧ Below w.heap.size w w' := by
  unfold maxLen at hm
  obtain ⟨_, _, _, e1, k1, r1⟩ := h1
  obtain ⟨_, _, _, e2, k2, r2⟩ := h2
  injection e1 with e1 e1' e1''
  injection e2 with e2 e2' e2''
  subst e1 e1' e1'' e2 e2' e2''
  obtain ⟨n, hn⟩ : ∃ n, n = L.length := ⟨_, rfl⟩
  rw [← hn] at k1 k2
  subst k1 k2
  rw [← hn] at hm
  have HN := Lib.hid hn
  have H1 := Lib.hid r1
  have H2 := Lib.hid r2
  have HSH := Lib.hid hsh
  clear r1 r2 hsh hn
  go_enter Try.func26, Try.ntmps26
  go_wp2_with fail
  go_loopw [5] (fun i wr => ∃ k : Nat, i = .int .i64 k ∧ k ≤ n ∧ Hid (Below w.heap.size w wr)) (fun i _ => n - (intOf i).toNat)
  case atStart => exact ⟨0, by first | rfl | go_num, by omega, Lib.hid (Below.refl _ _)⟩
  case round =>
    obtain ⟨k, rfl, hk, HW⟩ := hrel
    by_cases hlt : k < n
    · have hki : (k : Int) < (n : Int) := by omega
      have hkl : k < L.length := by rw [← HN.out]; exact hlt
      obtain ⟨x, hx⟩ : ∃ x, x = L[k] := ⟨_, rfl⟩
      have hsx := HSH.out x (by rw [hx]; exact List.getElem_mem hkl)
      rcases H1.out with e0 | ⟨b1, o1, q1, l1, g1⟩
      · rw [e0] at hkl; simp at hkl
      rcases H2.out with e0 | ⟨b2, o2, q2, l2, g2⟩
      · rw [e0] at hkl; simp at hkl
      subst q1 q2
      have hf1 : FAt wr b1 (o1 + k * 4) x := fun i hi => (HW.out.cell (p := ⟨b1, _, none⟩) l1).trans (by subst hx; exact g1 k hkl i hi)
      have hf2 : FAt wr b2 (o2 + k * 4) x := fun i hi => (HW.out.cell (p := ⟨b2, _, none⟩) l2).trans (by subst hx; exact g2 k hkl i hi)
      have hl1 : b1 < wr.heap.size := Nat.lt_of_lt_of_le l1 HW.out.size
      have hl2 : b2 < wr.heap.size := Nat.lt_of_lt_of_le l2 HW.out.size
      clear g1 g2 hx l1 l2 hkl
      obtain ⟨ky, va, g, sq, rfl⟩ := hsx
      have c0 := hf1 0 (by simp)
      have c1 := hf1 1 (by simp)
      have c2 := hf1 2 (by simp)
      have c3 := hf1 3 (by simp)
      have d0 := hf2 0 (by simp)
      have d1 := hf2 1 (by simp)
      have d2 := hf2 2 (by simp)
      have d3 := hf2 3 (by simp)
      simp only [List.getElem_cons_zero, List.getElem_cons_succ, Fld.cell, Nat.add_zero] at c0 c1 c2 c3 d0 d1 d2 d3
      clear hf1 hf2
      have HWD := Lib.hid (HW.out.drew)
      go_upto_region 6 with fail
      go_region
      go_wp2_with fail
      go_roundw
      case rel => exact ⟨k + 1, by go_num, by omega, by first | exact HWD | exact HW⟩
      case measure => simp [intOf]; omega
    · obtain rfl : k = n := by omega
      have hki : ¬ (k : Int) < (k : Int) := by omega
      clear hlt hk
      go_wp2_with fail
      go_ret
      exact ⟨rfl, HW.out⟩
end Go.Proofs.Ytdnhmkfgcpdbkaa
namespace Go.Proofs.Ytdnhmkfgcpdbkaa
open Go.RowKit
set_option linter.unusedVariables false
set_option linter.unusedSimpArgs false
set_option maxRecDepth 100000 in
set_option maxHeartbeats 4000000 in
theorem sameRep_any (w : World) (er : Int) (rv : ByteArray) (rg : Bool) (ru : ByteArray) (a1 : Option Addr) (n1 c1 : Nat) (a2 : Option Addr) (n2 c2 : Nat) (L : List (List Fld)) (h1 : LRv w 2 (.slice a1 n1 c1) L) (h2 : LRv w 2 (.slice a2 n2 c2) L) (hsh : ∀ x ∈ L, isPair x) (hm : L.length ≤ maxLen) :
    Calls Try.prog 24 #[.agg #[.int .i64 er, .string rv, .bool rg, .slice a1 n1 c1, .string ru], .agg #[.int .i64 er, .string rv, .bool rg, .slice a2 n2 c2, .string ru]] w fun e w' => e = .returned (.bool true) ∧ Below w.heap.size w w' := by
  unfold maxLen at hm
  obtain ⟨_, _, _, e1, k1, r1⟩ := h1
  obtain ⟨_, _, _, e2, k2, r2⟩ := h2
  injection e1 with e1 e1' e1''
  injection e2 with e2 e2' e2''
  subst e1 e1' e1'' e2 e2' e2''
  obtain ⟨n, hn⟩ : ∃ n, n = L.length := ⟨_, rfl⟩
  rw [← hn] at k1 k2
  subst k1 k2
  rw [← hn] at hm
  obtain ⟨rx, hrx⟩ : ∃ x, x = w.heap.size := ⟨_, rfl⟩
  obtain ⟨ry, hry⟩ : ∃ x, x = w.heap.size + 1 := ⟨_, rfl⟩
  obtain ⟨W1, hW1⟩ : ∃ W, W = (w.alloc (.cells #[.int .i64 er, .string rv, .bool rg, .slice a1 n c1, .string ru] 30)).alloc (.cells #[.int .i64 er, .string rv, .bool rg, .slice a2 n c2, .string ru] 30) := ⟨_, rfl⟩
  have s1 : (w.alloc (.cells #[.int .i64 er, .string rv, .bool rg, .slice a1 n c1, .string ru] 30)).heap.size = w.heap.size + 1 := by simp
  have s2 : W1.heap.size = w.heap.size + 2 := by rw [hW1]; simp
  have b1 : Below w.heap.size w W1 := by rw [hW1]; exact ((Below.refl _ w).alloc (Nat.le_refl _) _).alloc (by rw [s1]; omega) _
  have hx : W1.heap[rx]? = some (.cells #[.int .i64 er, .string rv, .bool rg, .slice a1 n c1, .string ru] 30 (0, 0)) := by
    rw [hW1, hrx, Below.heap_alloc _ _ _ (by rw [s1]; omega)]
    exact heap_alloc_new w _
  have hy : W1.heap[ry]? = some (.cells #[.int .i64 er, .string rv, .bool rg, .slice a2 n c2, .string ru] 30 (0, 0)) := by
    have := heap_alloc_new (w.alloc (.cells #[.int .i64 er, .string rv, .bool rg, .slice a1 n c1, .string ru] 30)) (.cells #[.int .i64 er, .string rv, .bool rg, .slice a2 n c2, .string ru] 30)
    rw [s1] at this
    rw [hW1, hry]
    exact this
  have z0 : W1.cell? ⟨rx, 0, none⟩ = some (.int .i64 er) := by unfold World.cell?; simp [hx]
  have y0 : W1.cell? ⟨ry, 0, none⟩ = some (.int .i64 er) := by unfold World.cell?; simp [hy]
  have z1 : W1.cell? ⟨rx, 1, none⟩ = some (.string rv) := by unfold World.cell?; simp [hx]
  have y1 : W1.cell? ⟨ry, 1, none⟩ = some (.string rv) := by unfold World.cell?; simp [hy]
  have z2 : W1.cell? ⟨rx, 2, none⟩ = some (.bool rg) := by unfold World.cell?; simp [hx]
  have y2 : W1.cell? ⟨ry, 2, none⟩ = some (.bool rg) := by unfold World.cell?; simp [hy]
  have z3 : W1.cell? ⟨rx, 3, none⟩ = some (.slice a1 n c1) := by unfold World.cell?; simp [hx]
  have y3 : W1.cell? ⟨ry, 3, none⟩ = some (.slice a2 n c2) := by unfold World.cell?; simp [hy]
  have z4 : W1.cell? ⟨rx, 4, none⟩ = some (.string ru) := by unfold World.cell?; simp [hx]
  have y4 : W1.cell? ⟨ry, 4, none⟩ = some (.string ru) := by unfold World.cell?; simp [hy]
  have hlx : rx < W1.heap.size := by omega
  have hly : ry < W1.heap.size := by omega
  have HL : Hid (∀ wr, Below W1.heap.size W1 wr → (wr.cell? ⟨rx, 3, none⟩ = some (.slice a1 n c1) ∧ wr.cell? ⟨ry, 3, none⟩ = some (.slice a2 n c2)) ∧ rx < wr.heap.size ∧ ry < wr.heap.size) := Lib.hid fun wr hb => ⟨⟨(hb.cell (p := ⟨rx, _, none⟩) hlx).trans z3, (hb.cell (p := ⟨ry, _, none⟩) hly).trans y3⟩, Nat.lt_of_lt_of_le hlx hb.size, Nat.lt_of_lt_of_le hly hb.size⟩
  have HX := Lib.hid (And.intro hrx hry)
  have HN := Lib.hid hn
  have HB := Lib.hid b1
  have H1 : Hid (L = [] ∨ ∃ rb ro, a1 = some ⟨rb, ro, none⟩ ∧ rb < W1.heap.size ∧ RowAt W1 rb ro 2 L) := Lib.hid (by
    rcases r1 with e | ⟨rb, ro, h3, h4, h5⟩
    · exact .inl e
    · exact .inr ⟨rb, ro, h3, Nat.lt_of_lt_of_le h4 b1.size, fun i hi j hj => (b1.cell (p := ⟨rb, _, none⟩) h4).trans (h5 i hi j hj)⟩)
  have H2 : Hid (L = [] ∨ ∃ rb ro, a2 = some ⟨rb, ro, none⟩ ∧ rb < W1.heap.size ∧ RowAt W1 rb ro 2 L) := Lib.hid (by
    rcases r2 with e | ⟨rb, ro, h3, h4, h5⟩
    · exact .inl e
    · exact .inr ⟨rb, ro, h3, Nat.lt_of_lt_of_le h4 b1.size, fun i hi j hj => (b1.cell (p := ⟨rb, _, none⟩) h4).trans (h5 i hi j hj)⟩)
  have HSH := Lib.hid hsh
  clear r1 r2 hsh hn s1 s2 b1 hx hy hrx hry
  cases rg
  all_goals
    go_enter Try.func24, Try.ntmps24
    go_upto_region 1 with fail
    rw [← hW1]
    rw [show w.heap.size + 1 = ry from HX.out.2.symm]
    rw [show (Value.pointer (some ⟨w.heap.size, 0, none⟩)) = .pointer (some ⟨rx, 0, none⟩) by rw [HX.out.1]]
    clear hW1
    go_wp2_with fail
    clear z0 y0 z1 y1 z2 y2 z3 y3 z4 y4
    go_loopw [5] (fun i wr => ∃ k : Nat, i = .int .i64 k ∧ k ≤ n ∧ Hid (Below W1.heap.size W1 wr)) (fun i _ => n - (intOf i).toNat)
    case atStart => exact ⟨0, by first | rfl | go_num, by omega, Lib.hid (Below.refl _ _)⟩
    case round =>
      obtain ⟨k, rfl, hk, HW⟩ := hrel
      obtain ⟨⟨m1, m2⟩, m3, m4⟩ := HL.out wr HW.out
      by_cases hlt : k < n
      · have hki : (k : Int) < (n : Int) := by omega
        have hkl : k < L.length := by rw [← HN.out]; exact hlt
        obtain ⟨x, hx⟩ : ∃ x, x = L[k] := ⟨_, rfl⟩
        have hsx := HSH.out x (by rw [hx]; exact List.getElem_mem hkl)
        rcases H1.out with e0 | ⟨b1, o1, q1, l1, g1⟩
        · rw [e0] at hkl; simp at hkl
        rcases H2.out with e0 | ⟨b2, o2, q2, l2, g2⟩
        · rw [e0] at hkl; simp at hkl
        subst q1 q2
        have hf1 : FAt wr b1 (o1 + k * 2) x := fun i hi => (HW.out.cell (p := ⟨b1, _, none⟩) l1).trans (by subst hx; exact g1 k hkl i hi)
        have hf2 : FAt wr b2 (o2 + k * 2) x := fun i hi => (HW.out.cell (p := ⟨b2, _, none⟩) l2).trans (by subst hx; exact g2 k hkl i hi)
        have hl1 : b1 < wr.heap.size := Nat.lt_of_lt_of_le l1 HW.out.size
        have hl2 : b2 < wr.heap.size := Nat.lt_of_lt_of_le l2 HW.out.size
        clear g1 g2 hx l1 l2 hkl
        obtain ⟨ky, va, rfl⟩ := hsx
        have p0 := hf1 0 (by simp)
        have p1 := hf1 1 (by simp)
        have q0 := hf2 0 (by simp)
        have q1 := hf2 1 (by simp)
        simp only [List.getElem_cons_zero, List.getElem_cons_succ, Fld.cell, Nat.add_zero] at p0 p1 q0 q1
        clear hf1 hf2
        have HWD := Lib.hid (HW.out.drew)
        go_upto_region 6 with fail
        go_region
        go_wp2_with fail
        go_roundw
        case rel => exact ⟨k + 1, by go_num, by omega, by first | exact HWD | exact HW⟩
        case measure => simp [intOf]; omega
      · obtain rfl : k = n := by omega
        have hki : ¬ (k : Int) < (k : Int) := by omega
        clear hlt hk
        go_wp2_with fail
        go_ret
        exact ⟨rfl, HB.out.trans (HW.out.mono HB.out.size)⟩
set_option maxRecDepth 100000 in
set_option maxHeartbeats 4000000 in
theorem sameOp_any (w : World) (ok : Int) (oy ov od : ByteArray) (og : Bool) (ol oh : ByteArray) (om : Int) (a1 : Option Addr) (n1 c1 : Nat) (a2 : Option Addr) (n2 c2 : Nat) (L : List (List Fld)) (h1 : LRv w 3 (.slice a1 n1 c1) L) (h2 : LRv w 3 (.slice a2 n2 c2) L) (hsh : ∀ x ∈ L, isWrite x) (hm : L.length ≤ maxLen) :
    Calls Try.prog 23 #[.agg #[.int .i64 ok, .string oy, .string ov, .string od, .bool og, .slice a1 n1 c1, .string ol, .string oh, .int .i64 om], .agg #[.int .i64 ok, .string oy, .string ov, .string od, .bool og, .slice a2 n2 c2, .string ol, .string oh, .int .i64 om]] w fun e w' => e = .returned (.bool true) ∧ Below w.heap.size w w' := by
  unfold maxLen at hm
  obtain ⟨_, _, _, e1, k1, r1⟩ := h1
  obtain ⟨_, _, _, e2, k2, r2⟩ := h2
  injection e1 with e1 e1' e1''
  injection e2 with e2 e2' e2''
  subst e1 e1' e1'' e2 e2' e2''
  obtain ⟨n, hn⟩ : ∃ n, n = L.length := ⟨_, rfl⟩
  rw [← hn] at k1 k2
  subst k1 k2
  rw [← hn] at hm
  obtain ⟨rx, hrx⟩ : ∃ x, x = w.heap.size := ⟨_, rfl⟩
  obtain ⟨ry, hry⟩ : ∃ x, x = w.heap.size + 1 := ⟨_, rfl⟩
  obtain ⟨W1, hW1⟩ : ∃ W, W = (w.alloc (.cells #[.int .i64 ok, .string oy, .string ov, .string od, .bool og, .slice a1 n c1, .string ol, .string oh, .int .i64 om] 26)).alloc (.cells #[.int .i64 ok, .string oy, .string ov, .string od, .bool og, .slice a2 n c2, .string ol, .string oh, .int .i64 om] 26) := ⟨_, rfl⟩
  have s1 : (w.alloc (.cells #[.int .i64 ok, .string oy, .string ov, .string od, .bool og, .slice a1 n c1, .string ol, .string oh, .int .i64 om] 26)).heap.size = w.heap.size + 1 := by simp
  have s2 : W1.heap.size = w.heap.size + 2 := by rw [hW1]; simp
  have b1 : Below w.heap.size w W1 := by rw [hW1]; exact ((Below.refl _ w).alloc (Nat.le_refl _) _).alloc (by rw [s1]; omega) _
  have hx : W1.heap[rx]? = some (.cells #[.int .i64 ok, .string oy, .string ov, .string od, .bool og, .slice a1 n c1, .string ol, .string oh, .int .i64 om] 26 (0, 0)) := by
    rw [hW1, hrx, Below.heap_alloc _ _ _ (by rw [s1]; omega)]
    exact heap_alloc_new w _
  have hy : W1.heap[ry]? = some (.cells #[.int .i64 ok, .string oy, .string ov, .string od, .bool og, .slice a2 n c2, .string ol, .string oh, .int .i64 om] 26 (0, 0)) := by
    have := heap_alloc_new (w.alloc (.cells #[.int .i64 ok, .string oy, .string ov, .string od, .bool og, .slice a1 n c1, .string ol, .string oh, .int .i64 om] 26)) (.cells #[.int .i64 ok, .string oy, .string ov, .string od, .bool og, .slice a2 n c2, .string ol, .string oh, .int .i64 om] 26)
    rw [s1] at this
    rw [hW1, hry]
    exact this
  have z0 : W1.cell? ⟨rx, 0, none⟩ = some (.int .i64 ok) := by unfold World.cell?; simp [hx]
  have y0 : W1.cell? ⟨ry, 0, none⟩ = some (.int .i64 ok) := by unfold World.cell?; simp [hy]
  have z1 : W1.cell? ⟨rx, 1, none⟩ = some (.string oy) := by unfold World.cell?; simp [hx]
  have y1 : W1.cell? ⟨ry, 1, none⟩ = some (.string oy) := by unfold World.cell?; simp [hy]
  have z2 : W1.cell? ⟨rx, 2, none⟩ = some (.string ov) := by unfold World.cell?; simp [hx]
  have y2 : W1.cell? ⟨ry, 2, none⟩ = some (.string ov) := by unfold World.cell?; simp [hy]
  have z3 : W1.cell? ⟨rx, 3, none⟩ = some (.string od) := by unfold World.cell?; simp [hx]
  have y3 : W1.cell? ⟨ry, 3, none⟩ = some (.string od) := by unfold World.cell?; simp [hy]
  have z4 : W1.cell? ⟨rx, 4, none⟩ = some (.bool og) := by unfold World.cell?; simp [hx]
  have y4 : W1.cell? ⟨ry, 4, none⟩ = some (.bool og) := by unfold World.cell?; simp [hy]
  have z5 : W1.cell? ⟨rx, 5, none⟩ = some (.slice a1 n c1) := by unfold World.cell?; simp [hx]
  have y5 : W1.cell? ⟨ry, 5, none⟩ = some (.slice a2 n c2) := by unfold World.cell?; simp [hy]
  have z6 : W1.cell? ⟨rx, 6, none⟩ = some (.string ol) := by unfold World.cell?; simp [hx]
  have y6 : W1.cell? ⟨ry, 6, none⟩ = some (.string ol) := by unfold World.cell?; simp [hy]
  have z7 : W1.cell? ⟨rx, 7, none⟩ = some (.string oh) := by unfold World.cell?; simp [hx]
  have y7 : W1.cell? ⟨ry, 7, none⟩ = some (.string oh) := by unfold World.cell?; simp [hy]
  have z8 : W1.cell? ⟨rx, 8, none⟩ = some (.int .i64 om) := by unfold World.cell?; simp [hx]
  have y8 : W1.cell? ⟨ry, 8, none⟩ = some (.int .i64 om) := by unfold World.cell?; simp [hy]
  have hlx : rx < W1.heap.size := by omega
  have hly : ry < W1.heap.size := by omega
  have HL : Hid (∀ wr, Below W1.heap.size W1 wr → (wr.cell? ⟨rx, 5, none⟩ = some (.slice a1 n c1) ∧ wr.cell? ⟨ry, 5, none⟩ = some (.slice a2 n c2)) ∧ rx < wr.heap.size ∧ ry < wr.heap.size) := Lib.hid fun wr hb => ⟨⟨(hb.cell (p := ⟨rx, _, none⟩) hlx).trans z5, (hb.cell (p := ⟨ry, _, none⟩) hly).trans y5⟩, Nat.lt_of_lt_of_le hlx hb.size, Nat.lt_of_lt_of_le hly hb.size⟩
  have HX := Lib.hid (And.intro hrx hry)
  have HN := Lib.hid hn
  have HB := Lib.hid b1
  have H1 : Hid (L = [] ∨ ∃ rb ro, a1 = some ⟨rb, ro, none⟩ ∧ rb < W1.heap.size ∧ RowAt W1 rb ro 3 L) := Lib.hid (by
    rcases r1 with e | ⟨rb, ro, h3, h4, h5⟩
    · exact .inl e
    · exact .inr ⟨rb, ro, h3, Nat.lt_of_lt_of_le h4 b1.size, fun i hi j hj => (b1.cell (p := ⟨rb, _, none⟩) h4).trans (h5 i hi j hj)⟩)
  have H2 : Hid (L = [] ∨ ∃ rb ro, a2 = some ⟨rb, ro, none⟩ ∧ rb < W1.heap.size ∧ RowAt W1 rb ro 3 L) := Lib.hid (by
    rcases r2 with e | ⟨rb, ro, h3, h4, h5⟩
    · exact .inl e
    · exact .inr ⟨rb, ro, h3, Nat.lt_of_lt_of_le h4 b1.size, fun i hi j hj => (b1.cell (p := ⟨rb, _, none⟩) h4).trans (h5 i hi j hj)⟩)
  have HSH := Lib.hid hsh
  clear r1 r2 hsh hn s1 s2 b1 hx hy hrx hry
  cases og
  all_goals
    go_enter Try.func23, Try.ntmps23
    go_upto_region 1 with fail
    rw [← hW1]
    rw [show w.heap.size + 1 = ry from HX.out.2.symm]
    rw [show (Value.pointer (some ⟨w.heap.size, 0, none⟩)) = .pointer (some ⟨rx, 0, none⟩) by rw [HX.out.1]]
    clear hW1
    go_wp2_with fail
    clear z0 y0 z1 y1 z2 y2 z3 y3 z4 y4 z5 y5 z6 y6 z7 y7 z8 y8
    go_loopw [5] (fun i wr => ∃ k : Nat, i = .int .i64 k ∧ k ≤ n ∧ Hid (Below W1.heap.size W1 wr)) (fun i _ => n - (intOf i).toNat)
    case atStart => exact ⟨0, by first | rfl | go_num, by omega, Lib.hid (Below.refl _ _)⟩
    case round =>
      obtain ⟨k, rfl, hk, HW⟩ := hrel
      obtain ⟨⟨m1, m2⟩, m3, m4⟩ := HL.out wr HW.out
      by_cases hlt : k < n
      · have hki : (k : Int) < (n : Int) := by omega
        have hkl : k < L.length := by rw [← HN.out]; exact hlt
        obtain ⟨x, hx⟩ : ∃ x, x = L[k] := ⟨_, rfl⟩
        have hsx := HSH.out x (by rw [hx]; exact List.getElem_mem hkl)
        rcases H1.out with e0 | ⟨b1, o1, q1, l1, g1⟩
        · rw [e0] at hkl; simp at hkl
        rcases H2.out with e0 | ⟨b2, o2, q2, l2, g2⟩
        · rw [e0] at hkl; simp at hkl
        subst q1 q2
        have hf1 : FAt wr b1 (o1 + k * 3) x := fun i hi => (HW.out.cell (p := ⟨b1, _, none⟩) l1).trans (by subst hx; exact g1 k hkl i hi)
        have hf2 : FAt wr b2 (o2 + k * 3) x := fun i hi => (HW.out.cell (p := ⟨b2, _, none⟩) l2).trans (by subst hx; exact g2 k hkl i hi)
        have hl1 : b1 < wr.heap.size := Nat.lt_of_lt_of_le l1 HW.out.size
        have hl2 : b2 < wr.heap.size := Nat.lt_of_lt_of_le l2 HW.out.size
        clear g1 g2 hx l1 l2 hkl
        obtain ⟨ky, va, g, rfl⟩ := hsx
        have p0 := hf1 0 (by simp)
        have p1 := hf1 1 (by simp)
        have p2 := hf1 2 (by simp)
        have q0 := hf2 0 (by simp)
        have q1 := hf2 1 (by simp)
        have q2 := hf2 2 (by simp)
        simp only [List.getElem_cons_zero, List.getElem_cons_succ, Fld.cell, Nat.add_zero] at p0 p1 p2 q0 q1 q2
        clear hf1 hf2
        have HWD := Lib.hid (HW.out.drew)
        go_upto_region 6 with fail
        go_region
        go_wp2_with fail
        go_roundw
        case rel => exact ⟨k + 1, by go_num, by omega, by first | exact HWD | exact HW⟩
        case measure => simp [intOf]; omega
      · obtain rfl : k = n := by omega
        have hki : ¬ (k : Int) < (k : Int) := by omega
        clear hlt hk
        go_wp2_with fail
        go_ret
        exact ⟨rfl, HB.out.trans (HW.out.mono HB.out.size)⟩
end Go.Proofs.Ytdnhmkfgcpdbkaa
namespace Go.Proofs.Ytdnhmkfgcpdbkaa
open Go.RowKit
set_option linter.unusedVariables false
set_option linter.unusedSimpArgs false

set_option maxRecDepth 100000 in
set_option maxHeartbeats 8000000 in
theorem same14p_any (w : World) (a1 : Option Addr) (n1 c1 : Nat) (a2 : Option Addr) (n2 c2 : Nat) (L : List (List Fld)) (h1 : LRv w 7 (.slice a1 n1 c1) L) (h2 : LRv w 7 (.slice a2 n2 c2) (L.map (·.map nF))) (hsp : ∀ x ∈ L, slPr x) (hb : bareL L = true) (hm : L.length ≤ maxLen) :
    Calls Try.prog 27 #[.slice a1 n1 c1, .slice a2 n2 c2] w fun e w' => e = .returned (.bool true) ∧ Below w.heap.size w w' := by
  unfold maxLen at hm
  obtain ⟨_, _, _, e1, k1, r1⟩ := h1
  obtain ⟨_, _, _, e2, k2, r2⟩ := h2
  injection e1 with e1 e1' e1''
  injection e2 with e2 e2' e2''
  subst e1 e1' e1'' e2 e2' e2''
  rw [List.length_map] at k2
  obtain ⟨n, hn⟩ : ∃ n, n = L.length := ⟨_, rfl⟩
  rw [← hn] at k1 k2
  subst k1 k2
  rw [← hn] at hm
  have HN := Lib.hid hn
  have H1 := Lib.hid r1
  have H2 := Lib.hid r2
  have HSH := Lib.hid (And.intro hsp hb)
  clear r1 r2 hsp hb hn
  go_enter Try.func27, Try.ntmps27
  go_wp2_with fail
  go_loopw [5] (fun i wr => ∃ k : Nat, i = .int .i64 k ∧ k ≤ n ∧ Hid (Below w.heap.size w wr)) (fun i _ => n - (intOf i).toNat)
  case atStart => exact ⟨0, by first | rfl | go_num, by omega, Lib.hid (Below.refl _ _)⟩
  case round =>
    obtain ⟨k, rfl, hk, HW⟩ := hrel
    have hws := HW.out.size
    by_cases hlt : k < n
    · have hki : (k : Int) < (n : Int) := by omega
      have hkl : k < L.length := by rw [← HN.out]; exact hlt
      obtain ⟨x, hx⟩ : ∃ x, x = L[k] := ⟨_, rfl⟩
      have hmem : x ∈ L := by rw [hx]; exact List.getElem_mem hkl
      have hsx := HSH.out.1 x hmem
      have hbx : prN x = 0 := of_decide_eq_true (List.all_eq_true.1 HSH.out.2 x hmem)
      rcases H1.out with e0 | ⟨b1, o1, q1, l1, g1⟩
      · rw [e0] at hkl; simp at hkl
      rcases H2.out with e0 | ⟨b2, o2, q2, l2, g2⟩
      · have : (L.map (·.map nF)).length = 0 := by rw [e0]; rfl
        rw [List.length_map] at this; omega
      subst q1 q2
      have hkl2 : k < (L.map (·.map nF)).length := by rw [List.length_map]; exact hkl
      have hf1 : FAt wr b1 (o1 + k * 7) x := fun i hi => (HW.out.cell (p := ⟨b1, _, none⟩) l1).trans (by subst hx; exact g1 k hkl i hi)
      have hgx : (L.map (·.map nF))[k] = x.map nF := by rw [List.getElem_map, hx]
      have hf2 : FAt wr b2 (o2 + k * 7) (x.map nF) := fun i hi => (HW.out.cell (p := ⟨b2, _, none⟩) l2).trans (by
        have := g2 k hkl2
        rw [hgx] at this
        exact this i hi)
      have hl1 : b1 < wr.heap.size := Nat.lt_of_lt_of_le l1 hws
      have hl2 : b2 < wr.heap.size := Nat.lt_of_lt_of_le l2 hws
      obtain ⟨cc, sq, er, va, g, pa, pn, pc, pu, rfl⟩ := hsx
      obtain rfl : pn = 0 := hbx
      have p0 := hf1 0 (by simp)
      have p1 := hf1 1 (by simp)
      have p2 := hf1 2 (by simp)
      have p3 := hf1 3 (by simp)
      have p4 := hf1 4 (by simp)
      have p5 := hf1 5 (by simp)
      have p6 := hf1 6 (by simp)
      have q0 := hf2 0 (by simp)
      have q1 := hf2 1 (by simp)
      have q2 := hf2 2 (by simp)
      have q3 := hf2 3 (by simp)
      have q4 := hf2 4 (by simp)
      have q5 := hf2 5 (by simp)
      have q6 := hf2 6 (by simp)
      simp only [List.map_cons, List.map_nil, nF, List.getElem_cons_zero, List.getElem_cons_succ, Fld.cell, Nat.add_zero] at p0 p1 p2 p3 p4 p5 p6 q0 q1 q2 q3 q4 q5 q6
      have HSR : Hid (∀ W, Calls Try.prog 24 #[.agg #[.int .i64 er, .string va, .bool g, .slice pa 0 pc, .string pu], .agg #[.int .i64 er, .string va, .bool g, .slice none 0 0, .string pu]] W fun e w' => e = .returned (.bool true) ∧ Below W.heap.size W w') := Lib.hid fun W =>
        sameRep_any W er va g pu pa 0 pc none 0 0 [] ⟨_, _, _, rfl, rfl, .inl rfl⟩ ⟨_, _, _, rfl, rfl, .inl rfl⟩ (fun x hx => by simp at hx) (Nat.zero_le _)
      clear hf1 hf2 g1 g2 hgx hkl2 hmem hx l1 l2 hkl
      go_wp2_with fail
      refine wp_region_below (by kernel_rfl) (by kernel_rfl) ?_
      repeat (first
        | go_big_quiet_skip
        | (go_big_quiet_want
           first
           | (refine BigFrame.quiet_move _ rfl ?_)
           | (refine BigFrame.quiet_assign _ rfl ?_)
           | (unfold Oper.quiet
              apply Exists.intro
              refine ⟨fun w' hw' => ?_, ?_⟩
              · (obtain ⟨hc', hf'⟩ := bcell hw'
                 go_simp
                 first
                 | done
                 | exact rfl
                 | (go_at_call 24; (with_reducible refine (HSR.out _).mono ?_); rintro e w'' ⟨rfl, bb⟩; exact ⟨rfl, by first | exact bt hw' bb | simpa using bt hw' bb⟩)))
           go_big_quiet_on
           simp only [Act.put, Act.eval, List.setIfInBounds_toArray, List.set_cons_zero, List.set_cons_succ, Array.getD_eq_getD_getElem?, List.getElem?_toArray, List.getElem?_cons_zero, List.getElem?_cons_succ, Option.getD_some]))
      refine wpQuiet_nil ?_
      intro w' hw'
      clear p0 p1 p2 p3 p4 p5 p6 q0 q1 q2 q3 q4 q5 q6
      go_wp2_with fail
      go_roundw
      case rel => exact ⟨k + 1, by go_num, by omega, Lib.hid (HW.out.trans (hw'.mono hws))⟩
      case measure => simp [intOf]; omega
    · obtain rfl : k = n := by omega
      have hki : ¬ (k : Int) < (k : Int) := by omega
      clear hlt hk
      go_wp2_with fail
      go_ret
      exact ⟨rfl, HW.out⟩
end Go.Proofs.Ytdnhmkfgcpdbkaa
namespace Go.Proofs.Ytdnhmkfgcpdbkaa
open Go.RowKit
set_option linter.unusedVariables false
set_option linter.unusedSimpArgs false

set_option maxRecDepth 100000 in
set_option maxHeartbeats 8000000 in
theorem same16_any (w : World) (kd a1 a2 a3 a4 a5 a6 : Int) (wh : Bool) (ok : Int) (oy ov od : ByteArray) (og : Bool) (OW : List (List Fld)) (ol oh : ByteArray) (om : Int) (er : Int) (rv : ByteArray) (rg : Bool) (RP : List (List Fld)) (ru : ByteArray) (MP EN SE : List (List Fld)) (xa1 : Option Addr) (xn1 xc1 : Nat) (xa2 : Option Addr) (xn2 xc2 : Nat) (xa3 : Option Addr) (xn3 xc3 : Nat) (xa4 : Option Addr) (xn4 xc4 : Nat) (xa5 : Option Addr) (xn5 xc5 : Nat) (ya1 : Option Addr) (yn1 yc1 : Nat) (ya2 : Option Addr) (yn2 yc2 : Nat) (ya3 : Option Addr) (yn3 yc3 : Nat) (ya4 : Option Addr) (yn4 yc4 : Nat) (ya5 : Option Addr) (yn5 yc5 : Nat) (h1 : LRv w 3 (.slice xa1 xn1 xc1) OW) (k1 : LRv w 3 (.slice ya1 yn1 yc1) OW) (s1 : ∀ x ∈ OW, isWrite x) (m1 : OW.length ≤ maxLen) (h2 : LRv w 2 (.slice xa2 xn2 xc2) RP) (k2 : LRv w 2 (.slice ya2 yn2 yc2) RP) (s2 : ∀ x ∈ RP, isPair x) (m2 : RP.length ≤ maxLen) (h3 : LRv w 6 (.slice xa3 xn3 xc3) MP) (k3 : LRv w 6 (.slice ya3 yn3 yc3) MP) (s3 : ∀ x ∈ MP, isShard x) (m3 : MP.length ≤ maxLen) (h4 : LRv w 4 (.slice xa4 xn4 xc4) EN) (k4 : LRv w 4 (.slice ya4 yn4 yc4) EN) (s4 : ∀ x ∈ EN, isEntry x) (m4 : EN.length ≤ maxLen) (h5 : LRv w 7 (.slice xa5 xn5 xc5) SE) (k5 : LRv w 7 (.slice ya5 yn5 yc5) (SE.map (·.map nF))) (m5 : SE.length ≤ maxLen) (hsp : ∀ x ∈ SE, slPr x) (hbr : bareL SE = true) :
    Calls Try.prog 15 #[.agg #[.int .i64 kd, .int .i64 a1, .int .i64 a2, .int .i64 a3, .int .i64 a4, .int .i64 a5, .int .i64 a6, .bool wh, .int .i64 ok, .string oy, .string ov, .string od, .bool og, .slice xa1 xn1 xc1, .string ol, .string oh, .int .i64 om, .int .i64 er, .string rv, .bool rg, .slice xa2 xn2 xc2, .string ru, .slice xa3 xn3 xc3, .slice xa4 xn4 xc4, .slice xa5 xn5 xc5], .agg #[.int .i64 kd, .int .i64 a1, .int .i64 a2, .int .i64 a3, .int .i64 a4, .int .i64 a5, .int .i64 a6, .bool wh, .int .i64 ok, .string oy, .string ov, .string od, .bool og, .slice ya1 yn1 yc1, .string ol, .string oh, .int .i64 om, .int .i64 er, .string rv, .bool rg, .slice ya2 yn2 yc2, .string ru, .slice ya3 yn3 yc3, .slice ya4 yn4 yc4, .slice ya5 yn5 yc5]] w fun e w' => e = .returned (.bool true) ∧ Below w.heap.size w w' := by
  have HC0 : Hid (∀ W, Below w.heap.size w W → Calls Try.prog 23 #[.agg #[.int .i64 ok, .string oy, .string ov, .string od, .bool og, .slice xa1 xn1 xc1, .string ol, .string oh, .int .i64 om], .agg #[.int .i64 ok, .string oy, .string ov, .string od, .bool og, .slice ya1 yn1 yc1, .string ol, .string oh, .int .i64 om]] W fun e w' => e = .returned (.bool true) ∧ Below W.heap.size W w') := Lib.hid fun W hb => sameOp_any W ok oy ov od og ol oh om xa1 xn1 xc1 ya1 yn1 yc1 OW (h1.old hb) (k1.old hb) s1 m1
  have HC1 : Hid (∀ W, Below w.heap.size w W → Calls Try.prog 24 #[.agg #[.int .i64 er, .string rv, .bool rg, .slice xa2 xn2 xc2, .string ru], .agg #[.int .i64 er, .string rv, .bool rg, .slice ya2 yn2 yc2, .string ru]] W fun e w' => e = .returned (.bool true) ∧ Below W.heap.size W w') := Lib.hid fun W hb => sameRep_any W er rv rg ru xa2 xn2 xc2 ya2 yn2 yc2 RP (h2.old hb) (k2.old hb) s2 m2
  have HC2 : Hid (∀ W, Below w.heap.size w W → Calls Try.prog 25 #[.slice xa3 xn3 xc3, .slice ya3 yn3 yc3] W fun e w' => e = .returned (.bool true) ∧ Below W.heap.size W w') := Lib.hid fun W hb => sameMap_any W xa3 xn3 xc3 ya3 yn3 yc3 MP (h3.old hb) (k3.old hb) s3 m3
  have HC3 : Hid (∀ W, Below w.heap.size w W → Calls Try.prog 26 #[.slice xa4 xn4 xc4, .slice ya4 yn4 yc4] W fun e w' => e = .returned (.bool true) ∧ Below W.heap.size W w') := Lib.hid fun W hb => same04_any W xa4 xn4 xc4 ya4 yn4 yc4 EN (h4.old hb) (k4.old hb) s4 m4
  have HC4 : Hid (∀ W, Below w.heap.size w W → Calls Try.prog 27 #[.slice xa5 xn5 xc5, .slice ya5 yn5 yc5] W fun e w' => e = .returned (.bool true) ∧ Below W.heap.size W w') := Lib.hid fun W hb => same14p_any W xa5 xn5 xc5 ya5 yn5 yc5 SE (h5.old hb) (k5.old hb) hsp hbr m5
  obtain ⟨rx, hrx⟩ : ∃ x, x = w.heap.size := ⟨_, rfl⟩
  obtain ⟨ry, hry⟩ : ∃ x, x = w.heap.size + 1 := ⟨_, rfl⟩
  obtain ⟨W1, hW1⟩ : ∃ W, W = (w.alloc (.cells #[.int .i64 kd, .int .i64 a1, .int .i64 a2, .int .i64 a3, .int .i64 a4, .int .i64 a5, .int .i64 a6, .bool wh, .int .i64 ok, .string oy, .string ov, .string od, .bool og, .slice xa1 xn1 xc1, .string ol, .string oh, .int .i64 om, .int .i64 er, .string rv, .bool rg, .slice xa2 xn2 xc2, .string ru, .slice xa3 xn3 xc3, .slice xa4 xn4 xc4, .slice xa5 xn5 xc5] 35)).alloc (.cells #[.int .i64 kd, .int .i64 a1, .int .i64 a2, .int .i64 a3, .int .i64 a4, .int .i64 a5, .int .i64 a6, .bool wh, .int .i64 ok, .string oy, .string ov, .string od, .bool og, .slice ya1 yn1 yc1, .string ol, .string oh, .int .i64 om, .int .i64 er, .string rv, .bool rg, .slice ya2 yn2 yc2, .string ru, .slice ya3 yn3 yc3, .slice ya4 yn4 yc4, .slice ya5 yn5 yc5] 35) := ⟨_, rfl⟩
  have e1 : (w.alloc (.cells #[.int .i64 kd, .int .i64 a1, .int .i64 a2, .int .i64 a3, .int .i64 a4, .int .i64 a5, .int .i64 a6, .bool wh, .int .i64 ok, .string oy, .string ov, .string od, .bool og, .slice xa1 xn1 xc1, .string ol, .string oh, .int .i64 om, .int .i64 er, .string rv, .bool rg, .slice xa2 xn2 xc2, .string ru, .slice xa3 xn3 xc3, .slice xa4 xn4 xc4, .slice xa5 xn5 xc5] 35)).heap.size = w.heap.size + 1 := by simp
  have e2 : W1.heap.size = w.heap.size + 2 := by rw [hW1]; simp
  have b1 : Below w.heap.size w W1 := by rw [hW1]; exact ((Below.refl _ w).alloc (Nat.le_refl _) _).alloc (by rw [e1]; omega) _
  have hx : W1.heap[rx]? = some (.cells #[.int .i64 kd, .int .i64 a1, .int .i64 a2, .int .i64 a3, .int .i64 a4, .int .i64 a5, .int .i64 a6, .bool wh, .int .i64 ok, .string oy, .string ov, .string od, .bool og, .slice xa1 xn1 xc1, .string ol, .string oh, .int .i64 om, .int .i64 er, .string rv, .bool rg, .slice xa2 xn2 xc2, .string ru, .slice xa3 xn3 xc3, .slice xa4 xn4 xc4, .slice xa5 xn5 xc5] 35 (0, 0)) := by
    rw [hW1, hrx, Below.heap_alloc _ _ _ (by rw [e1]; omega)]
    exact heap_alloc_new w _
  have hy : W1.heap[ry]? = some (.cells #[.int .i64 kd, .int .i64 a1, .int .i64 a2, .int .i64 a3, .int .i64 a4, .int .i64 a5, .int .i64 a6, .bool wh, .int .i64 ok, .string oy, .string ov, .string od, .bool og, .slice ya1 yn1 yc1, .string ol, .string oh, .int .i64 om, .int .i64 er, .string rv, .bool rg, .slice ya2 yn2 yc2, .string ru, .slice ya3 yn3 yc3, .slice ya4 yn4 yc4, .slice ya5 yn5 yc5] 35 (0, 0)) := by
    have := heap_alloc_new (w.alloc (.cells #[.int .i64 kd, .int .i64 a1, .int .i64 a2, .int .i64 a3, .int .i64 a4, .int .i64 a5, .int .i64 a6, .bool wh, .int .i64 ok, .string oy, .string ov, .string od, .bool og, .slice xa1 xn1 xc1, .string ol, .string oh, .int .i64 om, .int .i64 er, .string rv, .bool rg, .slice xa2 xn2 xc2, .string ru, .slice xa3 xn3 xc3, .slice xa4 xn4 xc4, .slice xa5 xn5 xc5] 35)) (.cells #[.int .i64 kd, .int .i64 a1, .int .i64 a2, .int .i64 a3, .int .i64 a4, .int .i64 a5, .int .i64 a6, .bool wh, .int .i64 ok, .string oy, .string ov, .string od, .bool og, .slice ya1 yn1 yc1, .string ol, .string oh, .int .i64 om, .int .i64 er, .string rv, .bool rg, .slice ya2 yn2 yc2, .string ru, .slice ya3 yn3 yc3, .slice ya4 yn4 yc4, .slice ya5 yn5 yc5] 35)
    rw [e1] at this
    rw [hW1, hry]
    exact this
  have hlx : rx < W1.heap.size := by omega
  have hly : ry < W1.heap.size := by omega
  have HXC : Hid (∀ W, Below W1.heap.size W1 W → ∀ i v, (#[.int .i64 kd, .int .i64 a1, .int .i64 a2, .int .i64 a3, .int .i64 a4, .int .i64 a5, .int .i64 a6, .bool wh, .int .i64 ok, .string oy, .string ov, .string od, .bool og, .slice xa1 xn1 xc1, .string ol, .string oh, .int .i64 om, .int .i64 er, .string rv, .bool rg, .slice xa2 xn2 xc2, .string ru, .slice xa3 xn3 xc3, .slice xa4 xn4 xc4, .slice xa5 xn5 xc5] : Array Value)[i]? = some v → W.cell? ⟨rx, i, none⟩ = some v) := Lib.hid fun W hb i v hv => (hb.cell (p := ⟨rx, i, none⟩) hlx).trans (by unfold World.cell?; simp only [hx]; exact hv)
  have HYC : Hid (∀ W, Below W1.heap.size W1 W → ∀ i v, (#[.int .i64 kd, .int .i64 a1, .int .i64 a2, .int .i64 a3, .int .i64 a4, .int .i64 a5, .int .i64 a6, .bool wh, .int .i64 ok, .string oy, .string ov, .string od, .bool og, .slice ya1 yn1 yc1, .string ol, .string oh, .int .i64 om, .int .i64 er, .string rv, .bool rg, .slice ya2 yn2 yc2, .string ru, .slice ya3 yn3 yc3, .slice ya4 yn4 yc4, .slice ya5 yn5 yc5] : Array Value)[i]? = some v → W.cell? ⟨ry, i, none⟩ = some v) := Lib.hid fun W hb i v hv => (hb.cell (p := ⟨ry, i, none⟩) hly).trans (by unfold World.cell?; simp only [hy]; exact hv)
  have HX := Lib.hid (And.intro hrx hry)
  have HB := Lib.hid b1
  clear e1 e2 b1 hx hy hrx hry h1 k1 m1 h2 k2 m2 h3 k3 m3 h4 k4 m4 h5 k5 m5 s1 s2 s3 s4 hsp hbr
  cases wh
  all_goals
    go_enter Try.func15, Try.ntmps15
    go_upto_region 1 with fail
    rw [← hW1]
    rw [show w.heap.size + 1 = ry from HX.out.2.symm]
    rw [show (Value.pointer (some ⟨w.heap.size, 0, none⟩)) = .pointer (some ⟨rx, 0, none⟩) by rw [HX.out.1]]
    clear hW1
    have z0 := HXC.out W1 (Below.refl _ _) 0 _ rfl
    have t0 := HYC.out W1 (Below.refl _ _) 0 _ rfl
    have z1 := HXC.out W1 (Below.refl _ _) 1 _ rfl
    have t1 := HYC.out W1 (Below.refl _ _) 1 _ rfl
    have z2 := HXC.out W1 (Below.refl _ _) 2 _ rfl
    have t2 := HYC.out W1 (Below.refl _ _) 2 _ rfl
    have z3 := HXC.out W1 (Below.refl _ _) 3 _ rfl
    have t3 := HYC.out W1 (Below.refl _ _) 3 _ rfl
    have z4 := HXC.out W1 (Below.refl _ _) 4 _ rfl
    have t4 := HYC.out W1 (Below.refl _ _) 4 _ rfl
    have z5 := HXC.out W1 (Below.refl _ _) 5 _ rfl
    have t5 := HYC.out W1 (Below.refl _ _) 5 _ rfl
    have z6 := HXC.out W1 (Below.refl _ _) 6 _ rfl
    have t6 := HYC.out W1 (Below.refl _ _) 6 _ rfl
    have z7 := HXC.out W1 (Below.refl _ _) 7 _ rfl
    have t7 := HYC.out W1 (Below.refl _ _) 7 _ rfl
    have z8 := HXC.out W1 (Below.refl _ _) 8 _ rfl
    have t8 := HYC.out W1 (Below.refl _ _) 8 _ rfl
    have z9 := HXC.out W1 (Below.refl _ _) 9 _ rfl
    have t9 := HYC.out W1 (Below.refl _ _) 9 _ rfl
    have z10 := HXC.out W1 (Below.refl _ _) 10 _ rfl
    have t10 := HYC.out W1 (Below.refl _ _) 10 _ rfl
    have z11 := HXC.out W1 (Below.refl _ _) 11 _ rfl
    have t11 := HYC.out W1 (Below.refl _ _) 11 _ rfl
    have z12 := HXC.out W1 (Below.refl _ _) 12 _ rfl
    have t12 := HYC.out W1 (Below.refl _ _) 12 _ rfl
    have z13 := HXC.out W1 (Below.refl _ _) 13 _ rfl
    have t13 := HYC.out W1 (Below.refl _ _) 13 _ rfl
    have z14 := HXC.out W1 (Below.refl _ _) 14 _ rfl
    have t14 := HYC.out W1 (Below.refl _ _) 14 _ rfl
    have z15 := HXC.out W1 (Below.refl _ _) 15 _ rfl
    have t15 := HYC.out W1 (Below.refl _ _) 15 _ rfl
    have z16 := HXC.out W1 (Below.refl _ _) 16 _ rfl
    have t16 := HYC.out W1 (Below.refl _ _) 16 _ rfl
    go_wp2_with fail
    refine (HC0.out W1 HB.out).mono ?_
    rintro e w2 ⟨rfl, hb⟩
    have HB2 := Lib.hid hb
    clear hb z0 t0 z1 t1 z2 t2 z3 t3 z4 t4 z5 t5 z6 t6 z7 t7 z8 t8 z9 t9 z10 t10 z11 t11 z12 t12 z13 t13 z14 t14 z15 t15 z16 t16
    have z17 := HXC.out w2 HB2.out 17 _ rfl
    have t17 := HYC.out w2 HB2.out 17 _ rfl
    have z18 := HXC.out w2 HB2.out 18 _ rfl
    have t18 := HYC.out w2 HB2.out 18 _ rfl
    have z19 := HXC.out w2 HB2.out 19 _ rfl
    have t19 := HYC.out w2 HB2.out 19 _ rfl
    have z20 := HXC.out w2 HB2.out 20 _ rfl
    have t20 := HYC.out w2 HB2.out 20 _ rfl
    have z21 := HXC.out w2 HB2.out 21 _ rfl
    have t21 := HYC.out w2 HB2.out 21 _ rfl
    go_wp2_with fail
    refine (HC1.out w2 (HB.out.trans (HB2.out.mono HB.out.size))).mono ?_
    rintro e w3 ⟨rfl, hb⟩
    have HB3 := Lib.hid (HB2.out.trans (hb.mono HB2.out.size))
    clear hb z17 t17 z18 t18 z19 t19 z20 t20 z21 t21
    have z22 := HXC.out w3 HB3.out 22 _ rfl
    have t22 := HYC.out w3 HB3.out 22 _ rfl
    go_wp2_with fail
    refine (HC2.out w3 (HB.out.trans (HB3.out.mono HB.out.size))).mono ?_
    rintro e w4 ⟨rfl, hb⟩
    have HB4 := Lib.hid (HB3.out.trans (hb.mono HB3.out.size))
    clear hb z22 t22
    have z23 := HXC.out w4 HB4.out 23 _ rfl
    have t23 := HYC.out w4 HB4.out 23 _ rfl
    go_wp2_with fail
    refine (HC3.out w4 (HB.out.trans (HB4.out.mono HB.out.size))).mono ?_
    rintro e w5 ⟨rfl, hb⟩
    have HB5 := Lib.hid (HB4.out.trans (hb.mono HB4.out.size))
    clear hb z23 t23
    have z24 := HXC.out w5 HB5.out 24 _ rfl
    have t24 := HYC.out w5 HB5.out 24 _ rfl
    go_wp2_with fail
    refine (HC4.out w5 (HB.out.trans (HB5.out.mono HB.out.size))).mono ?_
    rintro e w6 ⟨rfl, hb⟩
    have HB6 := Lib.hid (HB5.out.trans (hb.mono HB5.out.size))
    clear hb z24 t24
    go_wp2_with fail
    go_ret
    exact ⟨rfl, HB.out.trans (HB6.out.mono HB.out.size)⟩
end Go.Proofs.Ytdnhmkfgcpdbkaa
