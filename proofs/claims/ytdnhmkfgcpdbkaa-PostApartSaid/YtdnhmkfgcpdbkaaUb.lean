/-
  Layer 16 (post): replies, and operations, that are the same. Conditions: as each says.
-/
import Derived.Test.YtdnhmkfgcpdbkaaTy
namespace Go.Proofs.Ytdnhmkfgcpdbkaa
open Go.RowKit
set_option linter.unusedVariables false
set_option linter.unusedSimpArgs false
set_option maxRecDepth 100000 in
set_option maxHeartbeats 4000000 in
theorem sameRep_any (w : World) (er : Int) (rv : ByteArray) (rg : Bool) (ru : ByteArray) (a1 : Option Addr) (n1 c1 : Nat) (a2 : Option Addr) (n2 c2 : Nat) (L : List (List Fld)) (h1 : LRv w 2 (.slice a1 n1 c1) L) (h2 : LRv w 2 (.slice a2 n2 c2) L) (hsh : ∀ x ∈ L, isPair x) (hm : L.length ≤ maxLen) :
    Calls Try.prog 24 #[.agg #[.int .i64 er, .string rv, .bool rg, .slice a1 n1 c1, .string ru], .agg #[.int .i64 er, .string rv, .bool rg, .slice a2 n2 c2, .string ru]] w fun e w' => e = .returned (.bool true) ∧ Below w.heap.size w w' := by
  unfold maxLen at hm
  obtain ⟨_, _, _, e1, k1, r1⟩ := h1
  obtain ⟨_, _, _, e2, k2, r2⟩ := h2
  injection e1 with e1 e1' e1''
  injection e2 with e2 e2' e2''
  subst e1 e1' e1'' e2 e2' e2''
  obtain ⟨n, hn⟩ : ∃ n, n = L.length := ⟨_, rfl⟩
  rw [← hn] at k1 k2
  subst k1 k2
  rw [← hn] at hm
  obtain ⟨rx, hrx⟩ : ∃ x, x = w.heap.size := ⟨_, rfl⟩
  obtain ⟨ry, hry⟩ : ∃ x, x = w.heap.size + 1 := ⟨_, rfl⟩
  obtain ⟨W1, hW1⟩ : ∃ W, W = (w.alloc (.cells #[.int .i64 er, .string rv, .bool rg, .slice a1 n c1, .string ru] 30)).alloc (.cells #[.int .i64 er, .string rv, .bool rg, .slice a2 n c2, .string ru] 30) := ⟨_, rfl⟩
  have s1 : (w.alloc (.cells #[.int .i64 er, .string rv, .bool rg, .slice a1 n c1, .string ru] 30)).heap.size = w.heap.size + 1 := by simp
  have s2 : W1.heap.size = w.heap.size + 2 := by rw [hW1]; simp
  have b1 : Below w.heap.size w W1 := by rw [hW1]; exact ((Below.refl _ w).alloc (Nat.le_refl _) _).alloc (by rw [s1]; omega) _
  have hx : W1.heap[rx]? = some (.cells #[.int .i64 er, .string rv, .bool rg, .slice a1 n c1, .string ru] 30 (0, 0)) := by
    rw [hW1, hrx, Below.heap_alloc _ _ _ (by rw [s1]; omega)]
    exact heap_alloc_new w _
  have hy : W1.heap[ry]? = some (.cells #[.int .i64 er, .string rv, .bool rg, .slice a2 n c2, .string ru] 30 (0, 0)) := by
    have := heap_alloc_new (w.alloc (.cells #[.int .i64 er, .string rv, .bool rg, .slice a1 n c1, .string ru] 30)) (.cells #[.int .i64 er, .string rv, .bool rg, .slice a2 n c2, .string ru] 30)
    rw [s1] at this
    rw [hW1, hry]
    exact this
  have z0 : W1.cell? ⟨rx, 0, none⟩ = some (.int .i64 er) := by unfold World.cell?; simp [hx]
  have y0 : W1.cell? ⟨ry, 0, none⟩ = some (.int .i64 er) := by unfold World.cell?; simp [hy]
  have z1 : W1.cell? ⟨rx, 1, none⟩ = some (.string rv) := by unfold World.cell?; simp [hx]
  have y1 : W1.cell? ⟨ry, 1, none⟩ = some (.string rv) := by unfold World.cell?; simp [hy]
  have z2 : W1.cell? ⟨rx, 2, none⟩ = some (.bool rg) := by unfold World.cell?; simp [hx]
  have y2 : W1.cell? ⟨ry, 2, none⟩ = some (.bool rg) := by unfold World.cell?; simp [hy]
  have z3 : W1.cell? ⟨rx, 3, none⟩ = some (.slice a1 n c1) := by unfold World.cell?; simp [hx]
  have y3 : W1.cell? ⟨ry, 3, none⟩ = some (.slice a2 n c2) := by unfold World.cell?; simp [hy]
  have z4 : W1.cell? ⟨rx, 4, none⟩ = some (.string ru) := by unfold World.cell?; simp [hx]
  have y4 : W1.cell? ⟨ry, 4, none⟩ = some (.string ru) := by unfold World.cell?; simp [hy]
  have hlx : rx < W1.heap.size := by omega
  have hly : ry < W1.heap.size := by omega
  have HL : Hid (∀ wr, Below W1.heap.size W1 wr → (wr.cell? ⟨rx, 3, none⟩ = some (.slice a1 n c1) ∧ wr.cell? ⟨ry, 3, none⟩ = some (.slice a2 n c2)) ∧ rx < wr.heap.size ∧ ry < wr.heap.size) := Lib.hid fun wr hb => ⟨⟨(hb.cell (p := ⟨rx, _, none⟩) hlx).trans z3, (hb.cell (p := ⟨ry, _, none⟩) hly).trans y3⟩, Nat.lt_of_lt_of_le hlx hb.size, Nat.lt_of_lt_of_le hly hb.size⟩
  have HX := Lib.hid (And.intro hrx hry)
  have HN := Lib.hid hn
  have HB := Lib.hid b1
  have H1 : Hid (L = [] ∨ ∃ rb ro, a1 = some ⟨rb, ro, none⟩ ∧ rb < W1.heap.size ∧ RowAt W1 rb ro 2 L) := Lib.hid (by
    rcases r1 with e | ⟨rb, ro, h3, h4, h5⟩
    · exact .inl e
    · exact .inr ⟨rb, ro, h3, Nat.lt_of_lt_of_le h4 b1.size, fun i hi j hj => (b1.cell (p := ⟨rb, _, none⟩) h4).trans (h5 i hi j hj)⟩)
  have H2 : Hid (L = [] ∨ ∃ rb ro, a2 = some ⟨rb, ro, none⟩ ∧ rb < W1.heap.size ∧ RowAt W1 rb ro 2 L) := Lib.hid (by
    rcases r2 with e | ⟨rb, ro, h3, h4, h5⟩
    · exact .inl e
    · exact .inr ⟨rb, ro, h3, Nat.lt_of_lt_of_le h4 b1.size, fun i hi j hj => (b1.cell (p := ⟨rb, _, none⟩) h4).trans (h5 i hi j hj)⟩)
  have HSH := Lib.hid hsh
  clear r1 r2 hsh hn s1 s2 b1 hx hy hrx hry
  cases rg
  all_goals
    go_enter Try.func24, Try.ntmps24
    go_upto_region 1 with fail
    rw [← hW1]
    rw [show w.heap.size + 1 = ry from HX.out.2.symm]
    rw [show (Value.pointer (some ⟨w.heap.size, 0, none⟩)) = .pointer (some ⟨rx, 0, none⟩) by rw [HX.out.1]]
    clear hW1
    go_wp2_with fail
    clear z0 y0 z1 y1 z2 y2 z3 y3 z4 y4
    go_loopw [5] (fun i wr => ∃ k : Nat, i = .int .i64 k ∧ k ≤ n ∧ Hid (Below W1.heap.size W1 wr)) (fun i _ => n - (intOf i).toNat)
    case atStart => exact ⟨0, by first | rfl | go_num, by omega, Lib.hid (Below.refl _ _)⟩
    case round =>
      obtain ⟨k, rfl, hk, HW⟩ := hrel
      obtain ⟨⟨m1, m2⟩, m3, m4⟩ := HL.out wr HW.out
      by_cases hlt : k < n
      · have hki : (k : Int) < (n : Int) := by omega
        have hkl : k < L.length := by rw [← HN.out]; exact hlt
        obtain ⟨x, hx⟩ : ∃ x, x = L[k] := ⟨_, rfl⟩
        have hsx := HSH.out x (by rw [hx]; exact List.getElem_mem hkl)
        rcases H1.out with e0 | ⟨b1, o1, q1, l1, g1⟩
        · rw [e0] at hkl; simp at hkl
        rcases H2.out with e0 | ⟨b2, o2, q2, l2, g2⟩
        · rw [e0] at hkl; simp at hkl
        subst q1 q2
        have hf1 : FAt wr b1 (o1 + k * 2) x := fun i hi => (HW.out.cell (p := ⟨b1, _, none⟩) l1).trans (by subst hx; exact g1 k hkl i hi)
        have hf2 : FAt wr b2 (o2 + k * 2) x := fun i hi => (HW.out.cell (p := ⟨b2, _, none⟩) l2).trans (by subst hx; exact g2 k hkl i hi)
        have hl1 : b1 < wr.heap.size := Nat.lt_of_lt_of_le l1 HW.out.size
        have hl2 : b2 < wr.heap.size := Nat.lt_of_lt_of_le l2 HW.out.size
        clear g1 g2 hx l1 l2 hkl
        obtain ⟨ky, va, rfl⟩ := hsx
        have p0 := hf1 0 (by simp)
        have p1 := hf1 1 (by simp)
        have q0 := hf2 0 (by simp)
        have q1 := hf2 1 (by simp)
        simp only [List.getElem_cons_zero, List.getElem_cons_succ, Fld.cell, Nat.add_zero] at p0 p1 q0 q1
        clear hf1 hf2
        have HWD := Lib.hid (HW.out.drew)
        go_upto_region 6 with fail
        go_region
        go_wp2_with fail
        go_roundw
        case rel => exact ⟨k + 1, by go_num, by omega, by first | exact HWD | exact HW⟩
        case measure => simp [intOf]; omega
      · obtain rfl : k = n := by omega
        have hki : ¬ (k : Int) < (k : Int) := by omega
        clear hlt hk
        go_wp2_with fail
        go_ret
        exact ⟨rfl, HB.out.trans (HW.out.mono HB.out.size)⟩
set_option maxRecDepth 100000 in
set_option maxHeartbeats 4000000 in
theorem sameOp_any (w : World) (ok : Int) (oy ov od : ByteArray) (og : Bool) (ol oh : ByteArray) (om : Int) (a1 : Option Addr) (n1 c1 : Nat) (a2 : Option Addr) (n2 c2 : Nat) (L : List (List Fld)) (h1 : LRv w 3 (.slice a1 n1 c1) L) (h2 : LRv w 3 (.slice a2 n2 c2) L) (hsh : ∀ x ∈ L, isWrite x) (hm : L.length ≤ maxLen) :
    Calls Try.prog 23 #[.agg #[.int .i64 ok, .string oy, .string ov, .string od, .bool og, .slice a1 n1 c1, .string ol, .string oh, .int .i64 om], .agg #[.int .i64 ok, .string oy, .string ov, .string od, .bool og, .slice a2 n2 c2, .string ol, .string oh, .int .i64 om]] w fun e w' => e = .returned (.bool true) ∧ Below w.heap.size w w' := by
  unfold maxLen at hm
  obtain ⟨_, _, _, e1, k1, r1⟩ := h1
  obtain ⟨_, _, _, e2, k2, r2⟩ := h2
  injection e1 with e1 e1' e1''
  injection e2 with e2 e2' e2''
  subst e1 e1' e1'' e2 e2' e2''
  obtain ⟨n, hn⟩ : ∃ n, n = L.length := ⟨_, rfl⟩
  rw [← hn] at k1 k2
  subst k1 k2
  rw [← hn] at hm
  obtain ⟨rx, hrx⟩ : ∃ x, x = w.heap.size := ⟨_, rfl⟩
  obtain ⟨ry, hry⟩ : ∃ x, x = w.heap.size + 1 := ⟨_, rfl⟩
  obtain ⟨W1, hW1⟩ : ∃ W, W = (w.alloc (.cells #[.int .i64 ok, .string oy, .string ov, .string od, .bool og, .slice a1 n c1, .string ol, .string oh, .int .i64 om] 26)).alloc (.cells #[.int .i64 ok, .string oy, .string ov, .string od, .bool og, .slice a2 n c2, .string ol, .string oh, .int .i64 om] 26) := ⟨_, rfl⟩
  have s1 : (w.alloc (.cells #[.int .i64 ok, .string oy, .string ov, .string od, .bool og, .slice a1 n c1, .string ol, .string oh, .int .i64 om] 26)).heap.size = w.heap.size + 1 := by simp
  have s2 : W1.heap.size = w.heap.size + 2 := by rw [hW1]; simp
  have b1 : Below w.heap.size w W1 := by rw [hW1]; exact ((Below.refl _ w).alloc (Nat.le_refl _) _).alloc (by rw [s1]; omega) _
  have hx : W1.heap[rx]? = some (.cells #[.int .i64 ok, .string oy, .string ov, .string od, .bool og, .slice a1 n c1, .string ol, .string oh, .int .i64 om] 26 (0, 0)) := by
    rw [hW1, hrx, Below.heap_alloc _ _ _ (by rw [s1]; omega)]
    exact heap_alloc_new w _
  have hy : W1.heap[ry]? = some (.cells #[.int .i64 ok, .string oy, .string ov, .string od, .bool og, .slice a2 n c2, .string ol, .string oh, .int .i64 om] 26 (0, 0)) := by
    have := heap_alloc_new (w.alloc (.cells #[.int .i64 ok, .string oy, .string ov, .string od, .bool og, .slice a1 n c1, .string ol, .string oh, .int .i64 om] 26)) (.cells #[.int .i64 ok, .string oy, .string ov, .string od, .bool og, .slice a2 n c2, .string ol, .string oh, .int .i64 om] 26)
    rw [s1] at this
    rw [hW1, hry]
    exact this
  have z0 : W1.cell? ⟨rx, 0, none⟩ = some (.int .i64 ok) := by unfold World.cell?; simp [hx]
  have y0 : W1.cell? ⟨ry, 0, none⟩ = some (.int .i64 ok) := by unfold World.cell?; simp [hy]
  have z1 : W1.cell? ⟨rx, 1, none⟩ = some (.string oy) := by unfold World.cell?; simp [hx]
  have y1 : W1.cell? ⟨ry, 1, none⟩ = some (.string oy) := by unfold World.cell?; simp [hy]
  have z2 : W1.cell? ⟨rx, 2, none⟩ = some (.string ov) := by unfold World.cell?; simp [hx]
  have y2 : W1.cell? ⟨ry, 2, none⟩ = some (.string ov) := by unfold World.cell?; simp [hy]
  have z3 : W1.cell? ⟨rx, 3, none⟩ = some (.string od) := by unfold World.cell?; simp [hx]
  have y3 : W1.cell? ⟨ry, 3, none⟩ = some (.string od) := by unfold World.cell?; simp [hy]
  have z4 : W1.cell? ⟨rx, 4, none⟩ = some (.bool og) := by unfold World.cell?; simp [hx]
  have y4 : W1.cell? ⟨ry, 4, none⟩ = some (.bool og) := by unfold World.cell?; simp [hy]
  have z5 : W1.cell? ⟨rx, 5, none⟩ = some (.slice a1 n c1) := by unfold World.cell?; simp [hx]
  have y5 : W1.cell? ⟨ry, 5, none⟩ = some (.slice a2 n c2) := by unfold World.cell?; simp [hy]
  have z6 : W1.cell? ⟨rx, 6, none⟩ = some (.string ol) := by unfold World.cell?; simp [hx]
  have y6 : W1.cell? ⟨ry, 6, none⟩ = some (.string ol) := by unfold World.cell?; simp [hy]
  have z7 : W1.cell? ⟨rx, 7, none⟩ = some (.string oh) := by unfold World.cell?; simp [hx]
  have y7 : W1.cell? ⟨ry, 7, none⟩ = some (.string oh) := by unfold World.cell?; simp [hy]
  have z8 : W1.cell? ⟨rx, 8, none⟩ = some (.int .i64 om) := by unfold World.cell?; simp [hx]
  have y8 : W1.cell? ⟨ry, 8, none⟩ = some (.int .i64 om) := by unfold World.cell?; simp [hy]
  have hlx : rx < W1.heap.size := by omega
  have hly : ry < W1.heap.size := by omega
  have HL : Hid (∀ wr, Below W1.heap.size W1 wr → (wr.cell? ⟨rx, 5, none⟩ = some (.slice a1 n c1) ∧ wr.cell? ⟨ry, 5, none⟩ = some (.slice a2 n c2)) ∧ rx < wr.heap.size ∧ ry < wr.heap.size) := Lib.hid fun wr hb => ⟨⟨(hb.cell (p := ⟨rx, _, none⟩) hlx).trans z5, (hb.cell (p := ⟨ry, _, none⟩) hly).trans y5⟩, Nat.lt_of_lt_of_le hlx hb.size, Nat.lt_of_lt_of_le hly hb.size⟩
  have HX := Lib.hid (And.intro hrx hry)
  have HN := Lib.hid hn
  have HB := Lib.hid b1
  have H1 : Hid (L = [] ∨ ∃ rb ro, a1 = some ⟨rb, ro, none⟩ ∧ rb < W1.heap.size ∧ RowAt W1 rb ro 3 L) := Lib.hid (by
    rcases r1 with e | ⟨rb, ro, h3, h4, h5⟩
    · exact .inl e
    · exact .inr ⟨rb, ro, h3, Nat.lt_of_lt_of_le h4 b1.size, fun i hi j hj => (b1.cell (p := ⟨rb, _, none⟩) h4).trans (h5 i hi j hj)⟩)
  have H2 : Hid (L = [] ∨ ∃ rb ro, a2 = some ⟨rb, ro, none⟩ ∧ rb < W1.heap.size ∧ RowAt W1 rb ro 3 L) := Lib.hid (by
    rcases r2 with e | ⟨rb, ro, h3, h4, h5⟩
    · exact .inl e
    · exact .inr ⟨rb, ro, h3, Nat.lt_of_lt_of_le h4 b1.size, fun i hi j hj => (b1.cell (p := ⟨rb, _, none⟩) h4).trans (h5 i hi j hj)⟩)
  have HSH := Lib.hid hsh
  clear r1 r2 hsh hn s1 s2 b1 hx hy hrx hry
  cases og
  all_goals
    go_enter Try.func23, Try.ntmps23
    go_upto_region 1 with fail
    rw [← hW1]
    rw [show w.heap.size + 1 = ry from HX.out.2.symm]
    rw [show (Value.pointer (some ⟨w.heap.size, 0, none⟩)) = .pointer (some ⟨rx, 0, none⟩) by rw [HX.out.1]]
    clear hW1
    go_wp2_with fail
    clear z0 y0 z1 y1 z2 y2 z3 y3 z4 y4 z5 y5 z6 y6 z7 y7 z8 y8
    go_loopw [5] (fun i wr => ∃ k : Nat, i = .int .i64 k ∧ k ≤ n ∧ Hid (Below W1.heap.size W1 wr)) (fun i _ => n - (intOf i).toNat)
    case atStart => exact ⟨0, by first | rfl | go_num, by omega, Lib.hid (Below.refl _ _)⟩
    case round =>
      obtain ⟨k, rfl, hk, HW⟩ := hrel
      obtain ⟨⟨m1, m2⟩, m3, m4⟩ := HL.out wr HW.out
      by_cases hlt : k < n
      · have hki : (k : Int) < (n : Int) := by omega
        have hkl : k < L.length := by rw [← HN.out]; exact hlt
        obtain ⟨x, hx⟩ : ∃ x, x = L[k] := ⟨_, rfl⟩
        have hsx := HSH.out x (by rw [hx]; exact List.getElem_mem hkl)
        rcases H1.out with e0 | ⟨b1, o1, q1, l1, g1⟩
        · rw [e0] at hkl; simp at hkl
        rcases H2.out with e0 | ⟨b2, o2, q2, l2, g2⟩
        · rw [e0] at hkl; simp at hkl
        subst q1 q2
        have hf1 : FAt wr b1 (o1 + k * 3) x := fun i hi => (HW.out.cell (p := ⟨b1, _, none⟩) l1).trans (by subst hx; exact g1 k hkl i hi)
        have hf2 : FAt wr b2 (o2 + k * 3) x := fun i hi => (HW.out.cell (p := ⟨b2, _, none⟩) l2).trans (by subst hx; exact g2 k hkl i hi)
        have hl1 : b1 < wr.heap.size := Nat.lt_of_lt_of_le l1 HW.out.size
        have hl2 : b2 < wr.heap.size := Nat.lt_of_lt_of_le l2 HW.out.size
        clear g1 g2 hx l1 l2 hkl
        obtain ⟨ky, va, g, rfl⟩ := hsx
        have p0 := hf1 0 (by simp)
        have p1 := hf1 1 (by simp)
        have p2 := hf1 2 (by simp)
        have q0 := hf2 0 (by simp)
        have q1 := hf2 1 (by simp)
        have q2 := hf2 2 (by simp)
        simp only [List.getElem_cons_zero, List.getElem_cons_succ, Fld.cell, Nat.add_zero] at p0 p1 p2 q0 q1 q2
        clear hf1 hf2
        have HWD := Lib.hid (HW.out.drew)
        go_upto_region 6 with fail
        go_region
        go_wp2_with fail
        go_roundw
        case rel => exact ⟨k + 1, by go_num, by omega, by first | exact HWD | exact HW⟩
        case measure => simp [intOf]; omega
      · obtain rfl : k = n := by omega
        have hki : ¬ (k : Int) < (k : Int) := by omega
        clear hlt hk
        go_wp2_with fail
        go_ret
        exact ⟨rfl, HB.out.trans (HW.out.mono HB.out.size)⟩
end Go.Proofs.Ytdnhmkfgcpdbkaa
