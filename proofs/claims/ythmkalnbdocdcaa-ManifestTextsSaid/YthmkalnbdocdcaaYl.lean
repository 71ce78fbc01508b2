/-
  Layer 12 (manifest): the contract of read. Conditions: at most 2^24 bytes.
-/
import Derived.Test.YthmkalnbdocdcaaYk
import Derived.Laws.EntriesVeiled
import Derived.Deep.RegionHeld3
namespace Go.Proofs.Ythmkalnbdocdcaa
set_option maxRecDepth 100000
open Go.RowKit
set_option linter.unusedVariables false
set_option linter.unusedSimpArgs false

theorem rdE_eq (l : List UInt8) : rdE l = (rdEachT l).bind fun ts => (rdEachZ ts.2).bind fun zs => (rdN zs.2).bind fun a => (rdN a.2).bind fun b => if b.2 = [] then some (ts.1, zs.1, ((a.1 : Nat) : Int), ((b.1 : Nat) : Int)) else none := by
  unfold rdE rdEachT
  cases rdN l with
  | none => rfl
  | some n =>
    simp only [Option.bind_some]
    by_cases h : n.1 ≤ 128
    · rw [if_pos h, if_pos h]
      cases rdTs n.1 n.2 with
      | none => rfl
      | some ts =>
        simp only [Option.bind_some]
        unfold rdEachZ
        cases rdN ts.2 with
        | none => rfl
        | some m =>
          simp only [Option.bind_some]
          by_cases h2 : m.1 ≤ 128
          · rw [if_pos h2, if_pos h2]
          · rw [if_neg h2, if_neg h2]; rfl
    · rw [if_neg h, if_neg h]; rfl
theorem rdE_all {l : List UInt8} {ts : List Tb} {zs : List Int} {n1 n2 : Nat} (h1 : ∀ p, (some l).bind rdEachT = some p → ts = p.1) (h2 : ∀ p, ((((some l).bind rdEachT).map (·.2)).bind rdEachZ) = some p → zs = p.1)
    (h3 : ∀ p, ((((((some l).bind rdEachT).map (·.2)).bind rdEachZ).map (·.2)).bind rdN) = some p → n1 = p.1) (h4 : ∀ p, ((((((((some l).bind rdEachT).map (·.2)).bind rdEachZ).map (·.2)).bind rdN).map (·.2)).bind rdN) = some p → n2 = p.1) :
    (∀ r, ((((((((some l).bind rdEachT).map (·.2)).bind rdEachZ).map (·.2)).bind rdN).map (·.2)).bind rdN).map (·.2) = some r → rdE l = if r = [] then some (ts, zs, (n1 : Int), (n2 : Int)) else none) ∧
    (((((((((some l).bind rdEachT).map (·.2)).bind rdEachZ).map (·.2)).bind rdN).map (·.2)).bind rdN).map (·.2) = none → rdE l = none) := by
  rw [rdE_eq]
  simp only [Option.bind_some] at h1 h2 h3 h4 ⊢
  cases e1 : rdEachT l with
  | none => exact ⟨fun r hr => (by cases hr), fun _ => rfl⟩
  | some p =>
    rw [e1] at h2 h3 h4
    rw [h1 p e1]
    simp only [Option.map_some, Option.bind_some] at h2 h3 h4 ⊢
    cases e2 : rdEachZ p.2 with
    | none => exact ⟨fun r hr => (by cases hr), fun _ => rfl⟩
    | some q =>
      rw [e2] at h3 h4
      rw [h2 q e2]
      simp only [Option.map_some, Option.bind_some] at h3 h4 ⊢
      cases e3 : rdN q.2 with
      | none => exact ⟨fun r hr => (by cases hr), fun _ => rfl⟩
      | some a =>
        rw [e3] at h4
        rw [h3 a e3]
        simp only [Option.map_some, Option.bind_some] at h4 ⊢
        cases e4 : rdN a.2 with
        | none => exact ⟨fun r hr => (by cases hr), fun _ => rfl⟩
        | some b =>
          rw [h4 b e4]
          refine ⟨fun r hr => ?_, fun hr => (by cases hr)⟩
          simp only [Option.map_some, Option.some.injEq] at hr
          rw [← hr]
          rfl
theorem RW.setL {B0 B S R F1 F2 E E0 : Nat} {wb w : World} {o : Option (List UInt8)} {A D : Value} {ts : List Tb} {zs : List Int} {lg nx : Int} (hy : LY B0 B S R F1 F2 E E0) (h : RW B0 B S R F1 F2 E E0 wb o A D ts zs lg nx w) (z : Int) :
    RW B0 B S R F1 F2 E E0 wb o A D ts zs z nx (w.setCell ⟨E, 2, none⟩ (.int .i64 z)) := by
  obtain ⟨y0, y1, y2, y3, y4⟩ := hy
  obtain ⟨h1, h2, h3, h4, h5, h6, h7, h8, h9, h10⟩ := h
  have k2 : KeepX (fun y => y = E) w (w.setCell ⟨E, 2, none⟩ (.int .i64 z)) := (KeepX.refl (fun y => y = E) w).set (p := ⟨E, 2, none⟩) rfl _
  have n5 : ∀ g, B ≤ g → g < w.heap.size → (w.setCell ⟨E, 2, none⟩ (.int .i64 z)).heap[g]? = w.heap[g]? := fun g hg hl => k2.1 g hl (by omega)
  exact ⟨h1.keep k2 (by omega) (by omega), h2.keep k2 (by omega) (by omega), h3.set2 z, h4.keep k2 (by omega), own_keep h5 n5, own_keep h6 n5, h7, h8.setCell (p := ⟨E, 2, none⟩) (by show B0 ≤ E; omega) _, by simpa using h9, h10⟩
theorem RW.setN {B0 B S R F1 F2 E E0 : Nat} {wb w : World} {o : Option (List UInt8)} {A D : Value} {ts : List Tb} {zs : List Int} {lg nx : Int} (hy : LY B0 B S R F1 F2 E E0) (h : RW B0 B S R F1 F2 E E0 wb o A D ts zs lg nx w) (z : Int) :
    RW B0 B S R F1 F2 E E0 wb o A D ts zs lg z (w.setCell ⟨E, 3, none⟩ (.int .i64 z)) := by
  obtain ⟨y0, y1, y2, y3, y4⟩ := hy
  obtain ⟨h1, h2, h3, h4, h5, h6, h7, h8, h9, h10⟩ := h
  have k2 : KeepX (fun y => y = E) w (w.setCell ⟨E, 3, none⟩ (.int .i64 z)) := (KeepX.refl (fun y => y = E) w).set (p := ⟨E, 3, none⟩) rfl _
  have n5 : ∀ g, B ≤ g → g < w.heap.size → (w.setCell ⟨E, 3, none⟩ (.int .i64 z)).heap[g]? = w.heap[g]? := fun g hg hl => k2.1 g hl (by omega)
  exact ⟨h1.keep k2 (by omega) (by omega), h2.keep k2 (by omega) (by omega), h3.set3 z, h4.keep k2 (by omega), own_keep h5 n5, own_keep h6 n5, h7, h8.setCell (p := ⟨E, 3, none⟩) (by show B0 ≤ E; omega) _, by simpa using h9, h10⟩
/-- A box of one cell. -/
def BoxC (w : World) (x : Nat) (v : Value) : Prop := w.cell? ⟨x, 0, none⟩ = some v ∧ w.frozen? ⟨x, 0, none⟩ = false ∧ x < w.heap.size
theorem BoxC.new (w : World) (v : Value) (T : TypeId) : BoxC (w.alloc (.cells #[v] T)) w.heap.size v := ⟨by simp, by simp, by simp⟩
theorem BoxC.al {w : World} {x : Nat} {v : Value} (h : BoxC w x v) (o : Obj) : BoxC (w.alloc o) x v := by
  have hk := KeepX.of (X := fun _ => False) (box_bel w o)
  exact ⟨(hk.cell h.2.2 id 0).1.trans h.1, (hk.cell h.2.2 id 0).2.trans h.2.1, Nat.lt_of_lt_of_le h.2.2 hk.2⟩
/-- What read leaves. -/
def RDE (s : ByteArray) (w : World) (e : Ending) (w' : World) : Prop := ∃ V r d, e = .returned (.tuple #[V, .bool r]) ∧ (∀ wf, KeepX (fun y => y < w.heap.size) w' wf → EV wf V d) ∧ (r = true → rdE s.data.toList = some d) ∧ (r = false → rdE s.data.toList = none) ∧ Below w.heap.size w w'
theorem own_sz {w : World} {base n : Nat} {v : Value} {zs : List Int} (h : w.ownsRow base 3 1 v n (iv zs)) (hn : zs.length = n) : ∃ a cap, v = .slice a n cap ∧ SZ w a n cap zs := by
  rcases h.2 with ⟨rfl, hnil⟩ | ⟨g, cap, cur, rfl, hbg, hh, hnc, hcm, _⟩
  · have h0 : zs = [] := List.length_eq_zero_iff.1 (hn.trans hnil)
    subst h0
    have : n = 0 := by simpa using hn.symm
    subst this
    exact ⟨none, 0, rfl, rfl, .inl rfl, Nat.le_refl _, Nat.zero_le _⟩
  · refine ⟨_, cap, rfl, hn, .inr ⟨g, 0, rfl, heap_lt hh, fun i hi => ?_⟩, hnc, hcm⟩
    have e' : ∀ j, (⟨g, 0, none⟩ : Addr).add j = ⟨g, 0 + j, none⟩ := by intro j; unfold Addr.add; split <;> simp_all
    have c := h.cells (g := g) rfl i (.int .i64 zs[i]) (by unfold iv; rw [List.getElem?_map, List.getElem?_eq_getElem hi]; rfl)
    rw [e'] at c
    exact c
set_option maxHeartbeats 16000000 in
theorem read_w (s : ByteArray) (hs : s.size ≤ 16777216) (w : World) : Calls Try.prog 35 #[.string s] w (RDE s w) := by
  have H0 : Hid (RW w.heap.size (w.heap.size + 1 + 1 + 1 + 1 + 1 + 1) w.heap.size (w.heap.size + 1 + 1) (w.heap.size + 1 + 1 + 1) (w.heap.size + 1 + 1 + 1 + 1) (w.heap.size + 1 + 1 + 1 + 1 + 1) (w.heap.size + 1) w (some s.data.toList) (.slice none 0 0) (.slice none 0 0) [] [] 0 0
      ((((((w.alloc (.cells #[.string s] 9)).alloc (.cells #[.slice none 0 0, .slice none 0 0, .int .i64 0, .int .i64 0] 25)).alloc (.cells #[.bool true] 4)).alloc (.cells #[.func (.func 55) #[] #[.pointer (some ⟨w.heap.size, 0, none⟩), .pointer (some ⟨w.heap.size + 1 + 1, 0, none⟩)]] 74)).alloc (.cells #[.func (.func 57) #[] #[.pointer (some ⟨w.heap.size, 0, none⟩), .pointer (some ⟨w.heap.size + 1 + 1, 0, none⟩)]] 66)).alloc (.cells #[.slice none 0 0, .slice none 0 0, .int .i64 0, .int .i64 0] 25))) := Lib.hid (by
    generalize hW1 : w.alloc (.cells #[.string s] 9) = W1
    have z1 : W1.heap.size = w.heap.size + 1 := by rw [← hW1]; simp
    have q1 : BoxC W1 w.heap.size (.string s) := by rw [← hW1]; exact BoxC.new _ _ _
    have t1 : Below w.heap.size w W1 := by rw [← hW1]; exact box_bel _ _
    clear hW1
    generalize hW2 : W1.alloc (.cells #[.slice none 0 0, .slice none 0 0, .int .i64 0, .int .i64 0] 25) = W2
    have z2 : W2.heap.size = w.heap.size + 1 + 1 := by rw [← hW2, ← z1]; simp
    have q2 := (q1.al (.cells #[.slice none 0 0, .slice none 0 0, .int .i64 0, .int .i64 0] 25))
    have g2 := EdW.new W1 25 (.slice none 0 0) (.slice none 0 0) 0 0
    have k2 := box_bel W1 (.cells #[.slice none 0 0, .slice none 0 0, .int .i64 0, .int .i64 0] 25)
    rw [hW2] at q2 g2 k2
    rw [z1] at g2 k2
    have t2 := t1.trans (k2.mono (by omega))
    clear hW2 q1 k2 t1
    generalize hW3 : W2.alloc (.cells #[.bool true] 4) = W3
    have z3 : W3.heap.size = w.heap.size + 1 + 1 + 1 := by rw [← hW3, ← z2]; simp
    have q3 := q2.al (.cells #[.bool true] 4)
    have g3 := g2.keep (X := fun _ => False) (KeepX.of (box_bel W2 (.cells #[.bool true] 4))) id
    have r3 := BoxC.new W2 (.bool true) 4
    have k3 := box_bel W2 (.cells #[.bool true] 4)
    rw [hW3] at q3 g3 r3 k3
    rw [z2] at r3 k3
    have t3 := t2.trans (k3.mono (by omega))
    clear hW3 q2 g2 k3 t2
    generalize hW4 : W3.alloc (.cells #[.func (.func 55) #[] #[.pointer (some ⟨w.heap.size, 0, none⟩), .pointer (some ⟨w.heap.size + 1 + 1, 0, none⟩)]] 74) = W4
    have z4 : W4.heap.size = w.heap.size + 1 + 1 + 1 + 1 := by rw [← hW4, ← z3]; simp
    have q4 := q3.al (.cells #[.func (.func 55) #[] #[.pointer (some ⟨w.heap.size, 0, none⟩), .pointer (some ⟨w.heap.size + 1 + 1, 0, none⟩)]] 74)
    have r4 := r3.al (.cells #[.func (.func 55) #[] #[.pointer (some ⟨w.heap.size, 0, none⟩), .pointer (some ⟨w.heap.size + 1 + 1, 0, none⟩)]] 74)
    have g4 := g3.keep (X := fun _ => False) (KeepX.of (box_bel W3 (.cells #[.func (.func 55) #[] #[.pointer (some ⟨w.heap.size, 0, none⟩), .pointer (some ⟨w.heap.size + 1 + 1, 0, none⟩)]] 74))) id
    have m4 := BoxC.new W3 (.func (.func 55) #[] #[.pointer (some ⟨w.heap.size, 0, none⟩), .pointer (some ⟨w.heap.size + 1 + 1, 0, none⟩)]) 74
    have k4 := box_bel W3 (.cells #[.func (.func 55) #[] #[.pointer (some ⟨w.heap.size, 0, none⟩), .pointer (some ⟨w.heap.size + 1 + 1, 0, none⟩)]] 74)
    rw [hW4] at q4 r4 g4 m4 k4
    rw [z3] at m4 k4
    have t4 := t3.trans (k4.mono (by omega))
    clear hW4 q3 g3 r3 k4 t3
    generalize hW5 : W4.alloc (.cells #[.func (.func 57) #[] #[.pointer (some ⟨w.heap.size, 0, none⟩), .pointer (some ⟨w.heap.size + 1 + 1, 0, none⟩)]] 66) = W5
    have z5 : W5.heap.size = w.heap.size + 1 + 1 + 1 + 1 + 1 := by rw [← hW5, ← z4]; simp
    have q5 := q4.al (.cells #[.func (.func 57) #[] #[.pointer (some ⟨w.heap.size, 0, none⟩), .pointer (some ⟨w.heap.size + 1 + 1, 0, none⟩)]] 66)
    have r5 := r4.al (.cells #[.func (.func 57) #[] #[.pointer (some ⟨w.heap.size, 0, none⟩), .pointer (some ⟨w.heap.size + 1 + 1, 0, none⟩)]] 66)
    have m5 := m4.al (.cells #[.func (.func 57) #[] #[.pointer (some ⟨w.heap.size, 0, none⟩), .pointer (some ⟨w.heap.size + 1 + 1, 0, none⟩)]] 66)
    have g5 := g4.keep (X := fun _ => False) (KeepX.of (box_bel W4 (.cells #[.func (.func 57) #[] #[.pointer (some ⟨w.heap.size, 0, none⟩), .pointer (some ⟨w.heap.size + 1 + 1, 0, none⟩)]] 66))) id
    have n5 := BoxC.new W4 (.func (.func 57) #[] #[.pointer (some ⟨w.heap.size, 0, none⟩), .pointer (some ⟨w.heap.size + 1 + 1, 0, none⟩)]) 66
    have k5 := box_bel W4 (.cells #[.func (.func 57) #[] #[.pointer (some ⟨w.heap.size, 0, none⟩), .pointer (some ⟨w.heap.size + 1 + 1, 0, none⟩)]] 66)
    rw [hW5] at q5 r5 m5 g5 n5 k5
    rw [z4] at n5 k5
    have t5 := t4.trans (k5.mono (by omega))
    clear hW5 q4 g4 r4 m4 k5 t4
    generalize hW6 : W5.alloc (.cells #[.slice none 0 0, .slice none 0 0, .int .i64 0, .int .i64 0] 25) = W6
    have z6 : W6.heap.size = w.heap.size + 1 + 1 + 1 + 1 + 1 + 1 := by rw [← hW6, ← z5]; simp
    have q6 := q5.al (.cells #[.slice none 0 0, .slice none 0 0, .int .i64 0, .int .i64 0] 25)
    have r6 := r5.al (.cells #[.slice none 0 0, .slice none 0 0, .int .i64 0, .int .i64 0] 25)
    have m6 := m5.al (.cells #[.slice none 0 0, .slice none 0 0, .int .i64 0, .int .i64 0] 25)
    have n6 := n5.al (.cells #[.slice none 0 0, .slice none 0 0, .int .i64 0, .int .i64 0] 25)
    have g6 := g5.keep (X := fun _ => False) (KeepX.of (box_bel W5 (.cells #[.slice none 0 0, .slice none 0 0, .int .i64 0, .int .i64 0] 25))) id
    have h6 := EdW.new W5 25 (.slice none 0 0) (.slice none 0 0) 0 0
    have k6 := box_bel W5 (.cells #[.slice none 0 0, .slice none 0 0, .int .i64 0, .int .i64 0] 25)
    rw [hW6] at q6 r6 m6 n6 g6 h6 k6
    rw [z5] at h6 k6
    have t6 := t5.trans (k6.mono (by omega))
    exact ⟨⟨s, true, ⟨q6, r6⟩, hs, fun l hl => ⟨rfl, by simpa using hl⟩, fun hl => by cases hl⟩, ⟨m6.1, n6.1, m6.2.2, n6.2.2⟩, h6, g6, World.ownsRow_nil _ _ _ _, World.ownsRow_nil _ _ _ _, fun t ht => by simp at ht, t6, by omega, by omega⟩)
  have hy : LY w.heap.size (w.heap.size + 1 + 1 + 1 + 1 + 1 + 1) w.heap.size (w.heap.size + 1 + 1) (w.heap.size + 1 + 1 + 1) (w.heap.size + 1 + 1 + 1 + 1) (w.heap.size + 1 + 1 + 1 + 1 + 1) (w.heap.size + 1) := by unfold LY; omega
  go_enter Try.func35, Try.ntmps35
  go_wp2_with fail
  generalize ((((((w.alloc (.cells #[.string s] 9)).alloc (.cells #[.slice none 0 0, .slice none 0 0, .int .i64 0, .int .i64 0] 25)).alloc (.cells #[.bool true] 4)).alloc (.cells #[.func (.func 55) #[] #[.pointer (some ⟨w.heap.size, 0, none⟩), .pointer (some ⟨w.heap.size + 1 + 1, 0, none⟩)]] 74)).alloc (.cells #[.func (.func 57) #[] #[.pointer (some ⟨w.heap.size, 0, none⟩), .pointer (some ⟨w.heap.size + 1 + 1, 0, none⟩)]] 66)).alloc (.cells #[.slice none 0 0, .slice none 0 0, .int .i64 0, .int .i64 0] 25)) = w0 at *
  obtain ⟨B0, hB0⟩ : ∃ B0, B0 = w.heap.size := ⟨_, rfl⟩
  rw [← hB0] at H0 hy ⊢
  obtain ⟨E0, hE0⟩ : ∃ E0, E0 = B0 + 1 := ⟨_, rfl⟩
  rw [← hE0] at H0 hy ⊢
  obtain ⟨R, hR⟩ : ∃ R, R = E0 + 1 := ⟨_, rfl⟩
  rw [← hR] at H0 hy ⊢
  obtain ⟨F1, hF1⟩ : ∃ F1, F1 = R + 1 := ⟨_, rfl⟩
  rw [← hF1] at H0 hy ⊢
  obtain ⟨F2, hF2⟩ : ∃ F2, F2 = F1 + 1 := ⟨_, rfl⟩
  rw [← hF2] at H0 hy ⊢
  obtain ⟨E, hE⟩ : ∃ E, E = F2 + 1 := ⟨_, rfl⟩
  rw [← hE] at H0 hy ⊢
  obtain ⟨B, hB⟩ : ∃ B, B = E + 1 := ⟨_, rfl⟩
  rw [← hB] at H0 hy
  have HY := Lib.hid hy
  have HB0 := Lib.hid hB0
  clear hy hB0 hE0 hR hF1 hF2 hE hB
  refine (eachT_w HY.out H0.out).mono ?_
  rintro e w1 ⟨rfl, A1, ts, r1, p1, l1⟩
  have HR1 := Lib.hid r1
  have HP1 := Lib.hid p1
  clear r1 p1 H0
  go_wp2_with fail
  refine (eachZ_w HY.out HR1.out).mono ?_
  rintro e w2 ⟨rfl, D1, zs, r2, p2, l2⟩
  have HR2 := Lib.hid r2
  have HP2 := Lib.hid p2
  obtain ⟨f1, f2, f3, f4⟩ := r2.2.1
  clear r2 p2 HR1
  go_wp2_with fail
  refine (num_w HY.out HR2.out).mono ?_
  rintro e w3 ⟨n1, rfl, hn1, r3, p3⟩
  have HR3 := Lib.hid (r3.setL HY.out (n1 : Int))
  have HP3 := Lib.hid p3
  obtain ⟨⟨⟨y0, y1, y2, y3, y4⟩, x0, x1, x2, x3⟩, -⟩ := r3.2.2
  clear f1 f2 f3 f4 r3 p3 HR2
  obtain ⟨f1, f2, f3, f4⟩ := HR3.out.2.1
  go_wp2_with fail
  refine (num_w HY.out HR3.out).mono ?_
  rintro e w4 ⟨n2, rfl, hn2, r4, p4⟩
  have HR4 := Lib.hid (r4.setN HY.out (n2 : Int))
  obtain ⟨q1, q2⟩ := rdE_all HP1.out HP2.out HP3.out p4
  have HQ := Lib.hid (And.intro q1 q2)
  clear q1 q2 HP1 HP2 HP3
  generalize Option.map (fun (x : Nat × List UInt8) => x.2) (Option.bind (Option.map (fun (x : Nat × List UInt8) => x.2) (Option.bind (Option.map (fun (x : List Int × List UInt8) => x.2) (Option.bind (Option.map (fun (x : List Tb × List UInt8) => x.2) ((some s.data.toList).bind rdEachT)) rdEachZ)) rdN)) rdN) = o4 at HR4 HQ
  clear y0 y1 y2 y3 y4 x0 x1 x2 x3 f1 f2 f3 f4
  obtain ⟨⟨⟨y0, y1, y2, y3, y4⟩, x0, x1, x2, x3⟩, -⟩ := r4.2.2
  clear r4 p4 HR3
  go_wp2_with fail
  clear y0 y1 y2 y3 y4 x0 x1 x2 x3
  generalize w4.setCell ⟨E, 3, none⟩ (.int .i64 (n2 : Int)) = wz at *
  obtain ⟨s', r', hns, hsz, ho1, ho2⟩ := HR4.out.1
  obtain ⟨⟨c1, c2, c3⟩, d1, d2, d3⟩ := hns
  obtain ⟨⟨y0, y1, y2, y3, y4⟩, -⟩ := HR4.out.2.2.1
  obtain ⟨⟨z0, z1, z2, z3, z4⟩, x0, x1, x2, x3⟩ := HR4.out.2.2.2.1
  obtain ⟨aa, ac, rfl, hst⟩ := own_st HR4.out.2.2.2.2.1 rfl
  obtain ⟨da, dc, rfl, hsz2⟩ := own_sz HR4.out.2.2.2.2.2.1 rfl
  have hyo := HY.out
  have ne1 : ¬ B0 = E0 := by have := hyo.2.2; omega
  have ne2 : ¬ R = E0 := by have := hyo.2.2; omega
  have ne3 : ¬ E = E0 := by have := hyo.2.2; omega
  have ne4 : ¬ E0 = B0 := by have := hyo.2.2; omega
  have ne5 : ¬ E0 = R := by have := hyo.2.2; omega
  have ne6 : ¬ E0 = E := by have := hyo.2.2; omega
  have HE : Hid (∀ wf, KeepX (fun y => y < B) wz wf → EV wf (.agg #[.slice aa ts.length ac, .slice da zs.length dc, .int .i64 (n1 : Int), .int .i64 (n2 : Int)]) (ts, zs, (n1 : Int), (n2 : Int))) := Lib.hid (fun wf hk => by
    have nb : ∀ g, B ≤ g → g < wz.heap.size → wf.heap[g]? = wz.heap[g]? := fun g hg hl => hk.1 g hl (by omega)
    obtain ⟨a', c', e1, st⟩ := own_st (own_keep HR4.out.2.2.2.2.1 nb) rfl
    obtain ⟨a2', c2', e2, sz⟩ := own_sz (own_keep HR4.out.2.2.2.2.2.1 nb) rfl
    cases e1
    cases e2
    exact ⟨_, _, _, _, _, _, rfl, st, sz, HR4.out.2.2.2.2.2.2.1⟩)
  have HBW := Lib.hid HR4.out.2.2.2.2.2.2.2.1
  have HOO := Lib.hid (And.intro ho1 ho2)
  obtain ⟨tn, htn⟩ : ∃ tn, tn = ts.length := ⟨_, rfl⟩
  obtain ⟨zn, hzn⟩ : ∃ zn, zn = zs.length := ⟨_, rfl⟩
  rw [← htn] at y0 HE
  rw [← hzn] at y1 HE
  have hB0E : B0 ≤ E0 := by have := hyo.1; omega
  have hE0B : E0 < B := hyo.2.1.2.2.2.2.2
  have hB0B : w.heap.size ≤ B := by have := hyo.1; have := HB0.out; omega
  clear hyo ho1 ho2 hst hsz2 HR4 htn hzn
  have HKF : Hid (∀ (u0 u1 u2 u3 : Value), KeepX (fun y => y < B) wz ((((wz.drew.setCell ⟨E0, 0, none⟩ u0).setCell ⟨E0, 1, none⟩ u1).setCell ⟨E0, 2, none⟩ u2).setCell ⟨E0, 3, none⟩ u3) ∧ Below B0 w ((((wz.drew.setCell ⟨E0, 0, none⟩ u0).setCell ⟨E0, 1, none⟩ u1).setCell ⟨E0, 2, none⟩ u2).setCell ⟨E0, 3, none⟩ u3)) := Lib.hid (fun u0 u1 u2 u3 =>
    ⟨((((KeepX.refl (fun y => y < B) wz).drew.set (p := ⟨E0, 0, none⟩) hE0B u0).set (p := ⟨E0, 1, none⟩) hE0B u1).set (p := ⟨E0, 2, none⟩) hE0B u2).set (p := ⟨E0, 3, none⟩) hE0B u3,
     (((HBW.out.drew.setCell (p := ⟨E0, 0, none⟩) hB0E u0).setCell (p := ⟨E0, 1, none⟩) hB0E u1).setCell (p := ⟨E0, 2, none⟩) hB0E u2).setCell (p := ⟨E0, 3, none⟩) hB0E u3⟩)
  cases r' with
  | false =>
    have HN : Hid (rdE s.data.toList = none) := Lib.hid (HQ.out.2 (by
      cases o4 with
      | none => rfl
      | some l => have := (HOO.out.1 l rfl).1; cases this))
    go_region
    go_wp2
    refine bodyPost_ret (v := .tuple #[.agg #[.slice aa tn ac, .slice da zn dc, .int .i64 (n1 : Int), .int .i64 (n2 : Int)], .bool false]) (by simp [results, Try.results35, go_sem, z0, z1, z2, z3, z4]) rfl ?_
    exact ⟨_, false, _, rfl, fun wf hk => HE.out wf ((HKF.out _ _ _ _).1.trans (hk.weaken fun y _ hy => by omega)), fun h => (by cases h), fun _ => HN.out, by have := (HKF.out (.slice aa tn ac) (.slice da zn dc) (.int .i64 (n1 : Int)) (.int .i64 (n2 : Int))).2; rw [HB0.out] at this; exact this⟩
  | true =>
    obtain ⟨l4, hl4⟩ : ∃ l4, o4 = some l4 := by
      cases o4 with
      | none => have := HOO.out.2 rfl; cases this
      | some l => exact ⟨l, rfl⟩
    have hsl := (HOO.out.1 l4 hl4).2
    have hq := HQ.out.1 l4 hl4
    by_cases h0 : l4 = []
    · rw [if_pos h0] at hq
      have HN := Lib.hid hq
      have hs0 : s' = ⟨#[]⟩ := by
        apply ByteArray.ext
        apply Array.toList_inj.1
        first | (rw [hsl, h0]; done) | (rw [hsl, h0]; rfl)
      subst hs0
      clear hq hsl h0 hl4
      go_region
      go_wp2
      refine bodyPost_ret (v := .tuple #[.agg #[.slice aa tn ac, .slice da zn dc, .int .i64 (n1 : Int), .int .i64 (n2 : Int)], .bool true]) (by simp [results, Try.results35, go_sem, z0, z1, z2, z3, z4]) rfl ?_
      exact ⟨_, true, _, rfl, fun wf hk => HE.out wf ((HKF.out _ _ _ _).1.trans (hk.weaken fun y _ hy => by omega)), fun _ => HN.out, fun h => (by cases h), by have := (HKF.out (.slice aa tn ac) (.slice da zn dc) (.int .i64 (n1 : Int)) (.int .i64 (n2 : Int))).2; rw [HB0.out] at this; exact this⟩
    · rw [if_neg h0] at hq
      have HN := Lib.hid hq
      have hne : ¬ s' = ⟨#[]⟩ := fun e => h0 (by rw [← hsl, e])
      have hsn := str_ne hne
      have hsi : s'.toList.isEmpty = false := by
        cases e : s'.toList.isEmpty with
        | false => rfl
        | true => exact absurd (emB_iff.1 e) hne
      clear hq hsl h0 hl4 hne
      go_region
      go_wp2
      refine bodyPost_ret (v := .tuple #[.agg #[.slice aa tn ac, .slice da zn dc, .int .i64 (n1 : Int), .int .i64 (n2 : Int)], .bool false]) (by simp [results, Try.results35, go_sem, z0, z1, z2, z3, z4]) rfl ?_
      exact ⟨_, false, _, rfl, fun wf hk => HE.out wf ((HKF.out _ _ _ _).1.trans (hk.weaken fun y _ hy => by omega)), fun h => (by cases h), fun _ => HN.out, by have := (HKF.out (.slice aa tn ac) (.slice da zn dc) (.int .i64 (n1 : Int)) (.int .i64 (n2 : Int))).2; rw [HB0.out] at this; exact this⟩
end Go.Proofs.Ythmkalnbdocdcaa
