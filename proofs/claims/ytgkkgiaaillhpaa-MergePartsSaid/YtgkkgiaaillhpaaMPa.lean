/-
  Layer 11 (merge): the walk of the law MergeParts. Conditions: lists that came in.
-/
import Derived.Test.YtgkkgiaaillhpaaMe
import Derived.Deep.QuietTactic
namespace Go.Proofs.Ytgkkgiaaillhpaa
set_option maxRecDepth 100000
open Go.RowKit
set_option linter.unusedVariables false
set_option linter.unusedSimpArgs false

theorem okn (ls : List Lst) {w : World} (h : ∀ x ∈ ls, okV x.2.2 ∧ okB x.2.2 = true ∧ x.2.2.length ≤ x.2.1 ∧ x.2.1 ≤ maxLen) : okLs ls ∧ mayL ls = true :=
  ⟨fun x hx => ⟨(h x hx).1, (okB_iff.1 (h x hx).2.1).1, (h x hx).2.2⟩, List.all_eq_true.2 fun x hx => (h x hx).2.1⟩
theorem merge_se (b off n cap : Nat) (ls : List Lst) (V : List Ent) (m : Nat) (w : World) (hV : allM (wrL ls) = V) (hm : V.length = m) (hn : n ≤ 9) (hl : ls.length = n) (hb : b < w.heap.size) (h : LLc w b off ls) (hok : okLs ls) (hmay : mayL ls = true) (h4 : (wrL ls).length ≤ 4096) :
    Calls Try.prog 12 #[.slice (some ⟨b, off, none⟩) n cap] w fun e w' => ∃ a c, e = .returned (.tuple #[.slice a m c, .int .i64 0]) ∧ SE w' a m c V ∧ Below w.heap.size w w' := by
  refine (merge11_any b off n cap ls w hn hl hb h hok okM_of (by rw [wrL_rev]; exact h4)).mono ?_
  rintro e w' ⟨a, k, c, vs, rfl, hse, -, hA, hF, hb⟩
  obtain rfl : vs = V := ((hA hmay).uniq (all_lists hmay)).trans hV
  obtain rfl : m = k := hm.symm.trans hse.1
  exact ⟨a, c, by rw [if_pos hmay], hse, hb⟩
/-- Merge of two lists laid in a new block. -/
theorem merge_two (a1 a2 : Option Addr) (n1 n2 c1 c2 : Nat) (e1 e2 V : List Ent) (m : Nat) (w : World) (h1 : SE w a1 n1 c1 e1) (h2 : SE w a2 n2 c2 e2) (o1 : okV e1) (o2 : okV e2) (b1 : okB e1 = true) (b2 : okB e2 = true) (k : n1 + n2 ≤ 4096) (hV : allM (e1 ++ e2) = V) (hm : V.length = m) :
    Calls Try.prog 12 #[.slice (some ⟨w.heap.size, 0, none⟩) 2 2] (w.alloc (objL2 a1 a2 n1 n2 c1 c2)) fun e w' => ∃ a c, e = .returned (.tuple #[.slice a m c, .int .i64 0]) ∧ SE w' a m c V ∧ Below w.heap.size w w' := by
  have q1 := h1.1
  have q2 := h2.1
  have hw : wrL [(a1, c1, e1), (a2, c2, e2)] = e1 ++ e2 := by simp [wrL]
  obtain ⟨hok, hmay⟩ := okn [(a1, c1, e1), (a2, c2, e2)] (w := w) (by
    intro x hx
    simp only [List.mem_cons, List.not_mem_nil, or_false] at hx
    rcases hx with rfl | rfl
    · exact ⟨o1, b1, show e1.length ≤ c1 by rw [q1]; exact h1.2.2.1, h1.2.2.2⟩
    · exact ⟨o2, b2, show e2.length ≤ c2 by rw [q2]; exact h2.2.2.1, h2.2.2.2⟩)
  refine (merge_se w.heap.size 0 2 2 [(a1, c1, e1), (a2, c2, e2)] V m _ (by rw [hw]; exact hV) hm (by decide) rfl (by simp) (ll2 w _ _ _ _ _ _ _ _ h1 h2) hok hmay (by rw [hw, List.length_append]; omega)).mono ?_
  rintro e w' ⟨a, c, rfl, hs, hb⟩
  exact ⟨a, c, rfl, hs, ((Below.refl _ _).alloc (Nat.le_refl _) _).trans (hb.mono (by simp))⟩
theorem merge_three (a1 a2 a3 : Option Addr) (n1 n2 n3 c1 c2 c3 : Nat) (e1 e2 e3 V : List Ent) (m : Nat) (w : World) (h1 : SE w a1 n1 c1 e1) (h2 : SE w a2 n2 c2 e2) (h3 : SE w a3 n3 c3 e3) (o1 : okV e1) (o2 : okV e2) (o3 : okV e3) (b1 : okB e1 = true) (b2 : okB e2 = true) (b3 : okB e3 = true) (k : n1 + n2 + n3 ≤ 4096) (hV : allM (e1 ++ (e2 ++ e3)) = V) (hm : V.length = m) :
    Calls Try.prog 12 #[.slice (some ⟨w.heap.size, 0, none⟩) 3 3] (w.alloc (objL3 a1 a2 a3 n1 n2 n3 c1 c2 c3)) fun e w' => ∃ a c, e = .returned (.tuple #[.slice a m c, .int .i64 0]) ∧ SE w' a m c V ∧ Below w.heap.size w w' := by
  have q1 := h1.1
  have q2 := h2.1
  have q3 := h3.1
  have hw : wrL [(a1, c1, e1), (a2, c2, e2), (a3, c3, e3)] = e1 ++ (e2 ++ e3) := by simp [wrL]
  obtain ⟨hok, hmay⟩ := okn [(a1, c1, e1), (a2, c2, e2), (a3, c3, e3)] (w := w) (by
    intro x hx
    simp only [List.mem_cons, List.not_mem_nil, or_false] at hx
    rcases hx with rfl | rfl | rfl
    · exact ⟨o1, b1, show e1.length ≤ c1 by rw [q1]; exact h1.2.2.1, h1.2.2.2⟩
    · exact ⟨o2, b2, show e2.length ≤ c2 by rw [q2]; exact h2.2.2.1, h2.2.2.2⟩
    · exact ⟨o3, b3, show e3.length ≤ c3 by rw [q3]; exact h3.2.2.1, h3.2.2.2⟩)
  refine (merge_se w.heap.size 0 3 3 [(a1, c1, e1), (a2, c2, e2), (a3, c3, e3)] V m _ (by rw [hw]; exact hV) hm (by decide) rfl (by simp) (ll3 w _ _ _ _ _ _ _ _ _ _ _ _ h1 h2 h3) hok hmay (by rw [hw, List.length_append, List.length_append]; omega)).mono ?_
  rintro e w' ⟨a, c, rfl, hs, hb⟩
  exact ⟨a, c, rfl, hs, ((Below.refl _ _).alloc (Nat.le_refl _) _).trans (hb.mono (by simp))⟩
theorem restY_snoc (x z : List Ent) (e : Ent) : restY x (z ++ [e]) = restY x z ++ (if hasM x e.1 e.2.2.2 = true then [] else [e]) := by
  unfold restY
  rw [List.filter_append]
  congr 1
  cases h : hasM x e.1 e.2.2.2 with
  | true => simp [h]
  | false => simp [h]
theorem hasM_snoc (x : List Ent) (e : Ent) (k : ByteArray) (q : Int) : hasM (x ++ [e]) k q = (hasM x k q || ((e.1.toList == k.toList) && (e.2.2.2 == q))) := by
  unfold hasM atM
  rw [List.any_append]
  simp
  rfl
set_option maxHeartbeats 64000000 in
theorem walk_MergeParts (a1 : Option Addr) (c1 : Nat) (e1 : List Ent) (a2 : Option Addr) (c2 : Nat) (e2 : List Ent) (w : World) (h1 : SE w a1 e1.length c1 e1) (o1 : okV e1) (h2 : SE w a2 e2.length c2 e2) (o2 : okV e2) :
    Calls Try.prog 8 #[.slice a1 e1.length c1, .slice a2 e2.length c2] w fun e w' => e = .returned (.bool true) ∧ Below w.heap.size w w' := by
  obtain ⟨i0, hi0, hz0, hz1, hz2⟩ := info_parts Try.infoEnt
  obtain ⟨n1, hn1⟩ : ∃ n, n = e1.length := ⟨_, rfl⟩
  rw [← hn1] at h1 ⊢
  have hm1 : n1 ≤ 9223372036854775807 := by have := h1.2.2.1; have := h1.2.2.2; unfold maxLen at this; omega
  have HL1 := Lib.hid fun r hr (wx : World) (hx : Below w.heap.size w wx) => light_any a1 n1 c1 e1 wx hm1 hn1.symm (h1.2.1.old hx) o1 r hr
  have HS1 := Lib.hid h1
  have HO1 := Lib.hid o1
  obtain ⟨r1, hr1⟩ : ∃ r, liteB e1 = r := ⟨_, rfl⟩
  have HR1 := Lib.hid hr1
  have HN1 := Lib.hid hn1
  clear h1 o1 hr1 hn1 hm1
  obtain ⟨n2, hn2⟩ : ∃ n, n = e2.length := ⟨_, rfl⟩
  rw [← hn2] at h2 ⊢
  have hm2 : n2 ≤ 9223372036854775807 := by have := h2.2.2.1; have := h2.2.2.2; unfold maxLen at this; omega
  have HL2 := Lib.hid fun r hr (wx : World) (hx : Below w.heap.size w wx) => light_any a2 n2 c2 e2 wx hm2 hn2.symm (h2.2.1.old hx) o2 r hr
  have HS2 := Lib.hid h2
  have HO2 := Lib.hid o2
  obtain ⟨r2, hr2⟩ : ∃ r, liteB e2 = r := ⟨_, rfl⟩
  have HR2 := Lib.hid hr2
  have HN2 := Lib.hid hn2
  clear h2 o2 hr2 hn2 hm2
  have HA := Lib.hid fun w => awake11_any w
  have HW0 : Hid (Below w.heap.size w w) := Lib.hid (Below.refl _ _)
  go_enter Try.func8, Try.ntmps8
  go_wp2_with fail
  refine (HL1.out _ HR1.out _ HW0.out).mono ?_
  rintro e w1 ⟨rfl, b1⟩
  have HW1 := Lib.hid (HW0.out.trans (b1.mono HW0.out.size))
  clear b1
  cases r1 with
  | false =>
    go_wp2_with fail
    refine (HA.out _).mono ?_
    rintro e w9 ⟨rfl, b9⟩
    have HW9 := Lib.hid (HW1.out.trans (b9.mono HW1.out.size))
    clear b9
    go_wp2
    go_ret
    exact ⟨rfl, HW9.out⟩
  | true =>
    go_wp2_with fail
    refine (HL2.out _ HR2.out _ HW1.out).mono ?_
    rintro e w2 ⟨rfl, b2⟩
    have HW2 := Lib.hid (HW1.out.trans (b2.mono HW1.out.size))
    clear b2
    cases r2 with
    | false =>
      go_wp2_with fail
      refine (HA.out _).mono ?_
      rintro e w9 ⟨rfl, b9⟩
      have HW9 := Lib.hid (HW2.out.trans (b9.mono HW2.out.size))
      clear b9
      go_wp2
      go_ret
      exact ⟨rfl, HW9.out⟩
    | true =>
      have k1 : n1 ≤ 60 := by rw [HN1.out]; exact (lite_yes HR1.out).1
      have k2 : n2 ≤ 60 := by rw [HN2.out]; exact (lite_yes HR2.out).1
      have HM1 := Lib.hid fun (wx : World) (hx : Below w.heap.size w wx) => madeT_any a1 n1 c1 e1 wx k1 HN1.out.symm (HS1.out.2.1.old hx) HO1.out
      have HM2 := Lib.hid fun (wx : World) (hx : Below w.heap.size w wx) => madeT_any a2 n2 c2 e2 wx k2 HN2.out.symm (HS2.out.2.1.old hx) HO2.out
      have HQ1 := Lib.hid (And.intro (madeT_ok e1 (lite_yes HR1.out).1) (madeT_okV HO1.out))
      have HQ2 := Lib.hid (And.intro (madeT_ok e2 (lite_yes HR2.out).1) (madeT_okV HO2.out))
      obtain ⟨x, hx⟩ : ∃ x, x = madeT e1 := ⟨_, rfl⟩
      obtain ⟨z, hz⟩ : ∃ z, z = madeT e2 := ⟨_, rfl⟩
      rw [← hx] at HM1 HQ1
      rw [← hz] at HM2 HQ2
      clear k1 k2 HL1 HL2 hx hz
      go_wp2_with fail
      refine (HM1.out _ HW2.out).mono ?_
      rintro e w3 ⟨p1, q1, d1, rfl, s3, b3⟩
      have HW3 := Lib.hid (HW2.out.trans (b3.mono HW2.out.size))
      have HS3 := Lib.hid s3
      clear b3 s3
      go_wp2_with fail
      refine (HM2.out _ HW3.out).mono ?_
      rintro e w4 ⟨p2, q2, d2, rfl, s4, b4⟩
      have HW4 := Lib.hid (HW3.out.trans (b4.mono HW3.out.size))
      have hs4 := HS3.out.old b4
      have HX4 := Lib.hid hs4
      have k1 : q1 ≤ 60 := by rw [← hs4.1]; exact HQ1.out.1.2
      have k2 : q2 ≤ 60 := by rw [← s4.1]; exact HQ2.out.1.2
      obtain ⟨xb, xo, hxa, hxb, hxc⟩ := hs4.2.1.at_
      obtain ⟨zb, zo, hza, hzb, hzc⟩ := s4.2.1.at_
      rw [hs4.1] at hxa hxb
      rw [s4.1] at hza hzb
      have HXC := Lib.hid (And.intro hs4.1 hxc)
      have HZC := Lib.hid (And.intro s4.1 hzc)
      clear hs4 s4 HS3 b4 HM1 HM2 hxc hzc
      go_wp2_with fail
      go_loopw [6, 8] (fun v i wr => ∃ (k m : Nat), i = .int .i64 k ∧ k ≤ q2 ∧ m ≤ k ∧ Hid (m = (restY x (z.take k)).length ∧ wr.ownsRow w4.heap.size 37 4 v m (ev4 (restY x (z.take k)))) ∧ Hid (Below w4.heap.size w4 wr)) (fun _ i _ => q2 - (intOf i).toNat)
      case atStart => exact ⟨0, 0, rfl, by omega, by omega, Lib.hid ⟨rfl, World.ownsRow_nil _ _ _ _⟩, Lib.hid (Below.refl _ _)⟩
      case round =>
        obtain ⟨k, m, rfl, hk, hm, HD, HW⟩ := hrel
        have hws : w4.heap.size ≤ wr.heap.size := HW.out.size
        by_cases hlt : k < q2
        · have hki : (k : Int) < (q2 : Int) := by omega
          have hkl : k < z.length := by rw [HZC.out.1]; exact hlt
          obtain rfl := hza (by omega)
          have hzb4 := hzb (by omega)
          obtain ⟨s0, s1, s2, s3⟩ := HZC.out.2 k hkl
          have s0 := (HW.out.cell (p := ⟨zb, zo + k * 4, none⟩) hzb4).trans s0
          have s1 := (HW.out.cell (p := ⟨zb, zo + k * 4 + 1, none⟩) hzb4).trans s1
          have s2 := (HW.out.cell (p := ⟨zb, zo + k * 4 + 2, none⟩) hzb4).trans s2
          have s3 := (HW.out.cell (p := ⟨zb, zo + k * 4 + 3, none⟩) hzb4).trans s3
          have hsr : zb < wr.heap.size := Nat.lt_of_lt_of_le hzb4 hws
          have hsn := restY_snoc x (z.take k) z[k]
          rw [← List.take_succ_eq_append_getElem hkl] at hsn
          obtain ⟨S, hS⟩ : ∃ S, S = z[k] := ⟨_, rfl⟩
          rw [← hS] at s0 s1 s2 s3 hsn
          obtain ⟨sk, sv, sg, sq⟩ := S
          have HSN := Lib.hid hsn
          have HZ := Lib.hid (And.intro s0 (And.intro s1 (And.intro s2 s3)))
          clear hS hsn s0 s1 s2 s3
          go_wp2_with fail
          rename World => wo
          go_loopw [9, 10] (fun bb jj wx => ∃ (j : Nat) (q : Bool), jj = .int .i64 j ∧ j ≤ q1 ∧ bb = .bool q ∧ Hid (hasM (x.take j) sk sq = q) ∧ Hid (Below wo.heap.size wo wx)) (fun _ jj _ => q1 - (intOf jj).toNat)
          case atStart => exact ⟨0, false, rfl, by omega, rfl, Lib.hid rfl, Lib.hid (Below.refl _ _)⟩
          case round =>
            obtain ⟨j, q, rfl, hj, rfl, HB, HX⟩ := hrel
            obtain ⟨z0, z1, z2, z3⟩ := HZ.out
            have z0 := (HX.out.cell (p := ⟨zb, zo + k * 4, none⟩) hsr).trans z0
            have z1 := (HX.out.cell (p := ⟨zb, zo + k * 4 + 1, none⟩) hsr).trans z1
            have z2 := (HX.out.cell (p := ⟨zb, zo + k * 4 + 2, none⟩) hsr).trans z2
            have z3 := (HX.out.cell (p := ⟨zb, zo + k * 4 + 3, none⟩) hsr).trans z3
            have hzr : zb < wr.heap.size := Nat.lt_of_lt_of_le hsr HX.out.size
            by_cases hjl : j < q1
            · have hji : (j : Int) < (q1 : Int) := by omega
              have hje : j < x.length := by rw [HXC.out.1]; exact hjl
              obtain rfl := hxa (by omega)
              have hxb4 := hxb (by omega)
              obtain ⟨x0, x1, x2, x3⟩ := HXC.out.2 j hje
              have hbe : Below w4.heap.size w4 wr := HW.out.trans (HX.out.mono hws)
              have x0 := (hbe.cell (p := ⟨xb, xo + j * 4, none⟩) hxb4).trans x0
              have x3 := (hbe.cell (p := ⟨xb, xo + j * 4 + 3, none⟩) hxb4).trans x3
              have hxr : xb < wr.heap.size := Nat.lt_of_lt_of_le hxb4 hbe.size
              have hsn := hasM_snoc (x.take j) x[j] sk sq
              rw [← List.take_succ_eq_append_getElem hje, HB.out] at hsn
              obtain ⟨X, hX⟩ : ∃ X, X = x[j] := ⟨_, rfl⟩
              rw [← hX] at x0 x3 hsn
              obtain ⟨xk, xv, xg, xq⟩ := X
              have HN := Lib.hid hsn
              clear hX hsn x1 x2 hbe z1 z2
              cases q with
              | true =>
                have HN2 : Hid (hasM (x.take (j + 1)) sk sq = true) := Lib.hid (by rw [HN.out]; rfl)
                go_wp2_with fail
                go_quiet (fail)
                go_wp2_with fail
                go_roundw
                case rel => exact ⟨j + 1, true, by go_num, by omega, rfl, HN2, Lib.hid (HX.out.trans ((below_drewN (Below.refl _ _) _).mono HX.out.size))⟩
                case measure => simp [intOf]; omega
              | false =>
                cases hk1 : (xk.toList == sk.toList) with
                | false =>
                  have HN2 : Hid (hasM (x.take (j + 1)) sk sq = false) := Lib.hid (by rw [HN.out]; simp [hk1])
                  go_wp2_with fail
                  go_quiet (fail)
                  go_wp2_with fail
                  go_roundw
                  case rel => exact ⟨j + 1, false, by go_num, by omega, rfl, HN2, Lib.hid (HX.out.trans ((below_drewN (Below.refl _ _) _).mono HX.out.size))⟩
                  case measure => simp [intOf]; omega
                | true =>
                  obtain ⟨b9, hb9⟩ : ∃ b9, (xq == sq) = b9 := ⟨_, rfl⟩
                  have HN2 : Hid (hasM (x.take (j + 1)) sk sq = b9) := Lib.hid (by rw [HN.out, ← hb9]; simp [hk1])
                  go_wp2_with fail
                  go_quiet (fail)
                  go_wp2_with fail
                  go_roundw
                  case rel => exact ⟨j + 1, b9, by go_num, by omega, rfl, HN2, Lib.hid (HX.out.trans ((below_drewN (Below.refl _ _) _).mono HX.out.size))⟩
                  case measure => simp [intOf]; omega
            · obtain rfl : j = q1 := by omega
              have HH : Hid (hasM x sk sq = q) := Lib.hid (by have := HB.out; rw [← HXC.out.1, List.take_length] at this; exact this)
              have HB9 := Lib.hid (HW.out.trans (HX.out.mono hws))
              have HDW := Lib.hid (below_own HD.out.2 HX.out)
              have hwr : w4.heap.size ≤ wr.heap.size := HB9.out.size
              cases q with
              | true =>
                have HN := Lib.hid (show restY x (z.take (k + 1)) = restY x (z.take k) by rw [HSN.out, if_pos HH.out, List.append_nil])
                go_wp2_with fail
                go_roundw
                case rel => exact ⟨k + 1, m, by go_num, by omega, by omega, Lib.hid ⟨by rw [HN.out]; exact HD.out.1, by rw [HN.out]; exact HDW.out⟩, HB9⟩
                case measure => simp [intOf]; omega
              | false =>
                have HN := Lib.hid (show restY x (z.take (k + 1)) = restY x (z.take k) ++ [(sk, sv, sg, sq)] by rw [HSN.out, if_neg (by rw [HH.out]; simp)])
                have hal : Below wr.heap.size wr (wr.alloc (.cells #[.string sk, .string sv, .bool sg, .int .i64 sq] 37)) := (Below.refl _ _).alloc (Nat.le_refl _) _
                go_wp2_with (at_builtin; refine wpList_append_own _ rfl _ _ 22 rfl w4.heap.size 37 i0 (.agg #[.string ⟨#[]⟩, .string ⟨#[]⟩, .bool false, .int .i64 0]) 4 48 Try.underlying22 hi0 hz0 hz1 hz2 rfl (by decide) _ _ _ rfl (below_own HDW.out hal) ⟨wr.heap.size, 0, none⟩ 1 1 (ev (sk, sv, sg, sq)) rfl rfl (cell_new4 _ _ _ _ _ _) (by intro u hu; simp [ev] at hu; rcases hu with rfl | rfl | rfl | rfl <;> rfl) (by unfold maxLen; omega) (by omega) (by simp [go_sem]; omega) ?_; intro v' wz hown3 hgrow _)
                have hb3 : Below w4.heap.size wr wz := (hal.mono hwr).grown hgrow (by have := hal.size; omega) (fun k hk => (HDW.out.lt k hk).1)
                rw [ev4_snoc, ← HN.out] at hown3
                have HR3 := Lib.hid (And.intro (show m + 1 = (restY x (z.take (k + 1))).length by rw [HN.out, List.length_append, ← HD.out.1]; rfl) hown3)
                have HB3 := Lib.hid (HB9.out.trans hb3)
                clear hown3 hgrow hb3 hal
                go_wp2_with fail
                go_roundw
                case rel => exact ⟨k + 1, m + 1, by go_num, by omega, by omega, HR3, HB3⟩
                case measure => simp [intOf]; omega
        · obtain rfl : k = q2 := by omega
          have hD := HD.out
          rw [← HZC.out.1, List.take_length] at hD
          obtain ⟨ya, yc, hv9, hse⟩ := own_se hD.2 hD.1.symm
          subst hv9
          have HY := Lib.hid hse
          have HXw := Lib.hid (HX4.out.old HW.out)
          have HBW := Lib.hid (HW4.out.trans (HW.out.mono HW4.out.size))
          obtain ⟨f1, f2, f3, f4⟩ := parts_all HQ1.out.1.1 HQ2.out.1.1
          have byo := restY_ok (x := x) HQ2.out.1.1
          have oy : okV (restY x z) := fun e he => HQ2.out.2 e (List.mem_filter.1 he).1
          obtain ⟨y, hy⟩ : ∃ y, y = restY x z := ⟨_, rfl⟩
          have hmem := allM_mem (may_app (okB_may HQ1.out.1.1) (okB_may byo)) (one_xy HQ1.out.1.1 HQ2.out.1.1)
          have hpw := (allM_all (may_app (okB_may HQ1.out.1.1) (okB_may byo))).2
          rw [← hy] at f1 f2 f4 byo oy hmem hpw HY hD
          obtain ⟨V, hV⟩ : ∃ V, V = allM (x ++ y) := ⟨_, rfl⟩
          rw [← hV] at f1 f2 f4 hmem hpw
          have oV : okV V := fun e he => (List.mem_append.1 ((hmem e).1 he)).elim (HQ1.out.2 e) (oy e)
          have hxl := HXC.out.1
          have hvm : V.length = q1 + m := by rw [f4, hxl, ← hD.1]
          have bV : okB V = true := okB_iff.2 ⟨by omega, hpw⟩
          have C1 := Lib.hid fun (wx : World) (hx : Below wr.heap.size wr wx) => merge_two p1 ya q1 m d1 yc x y V (q1 + m) wx (HXw.out.old hx) (HY.out.old hx) HQ1.out.2 oy HQ1.out.1.1 byo (by omega) hV.symm hvm
          have C2 := Lib.hid fun (wx : World) (hx : Below wr.heap.size wr wx) => merge_two ya p1 m q1 yc d1 y x V (q1 + m) wx (HY.out.old hx) (HXw.out.old hx) oy HQ1.out.2 byo HQ1.out.1.1 (by omega) f1 hvm
          have C3 := Lib.hid fun (a : Option Addr) (c : Nat) (wx : World) (hx : Below wr.heap.size wr wx) (hl : SE wx a (q1 + m) c V) => merge_three a p1 ya (q1 + m) q1 m c d1 yc V x y V (q1 + m) wx hl (HXw.out.old hx) (HY.out.old hx) oV HQ1.out.2 oy bV HQ1.out.1.1 byo (by omega) f2 hvm
          have C4 := Lib.hid fun (wx : World) (hx : Below wr.heap.size wr wx) => merge_two p1 p1 q1 q1 d1 d1 x x x q1 wx (HXw.out.old hx) (HXw.out.old hx) HQ1.out.2 HQ1.out.2 HQ1.out.1.1 HQ1.out.1.1 (by omega) f3 hxl
          have HVM := Lib.hid hvm
          have HXL := Lib.hid hxl
          clear hD hse f1 f2 f3 f4 byo oy hy hmem hpw hV oV hxl hvm bV HD HY HXC HZC HX4 HQ1 HQ2
          go_wp2_with fail
          refine (C1.out _ (Below.refl _ _)).mono ?_
          rintro e w5 ⟨la, lc, rfl, sl, b5⟩
          have HL5 := Lib.hid sl
          have HB5 := Lib.hid b5
          clear b5 sl
          go_wp2_with fail
          refine (C2.out _ HB5.out).mono ?_
          rintro e w6 ⟨ma, mc, rfl, sm, b6⟩
          have HB6 := Lib.hid (HB5.out.trans (b6.mono HB5.out.size))
          have HL6 := Lib.hid (And.intro (HL5.out.old b6) sm)
          clear b6 sm HL5
          go_wp2_with fail
          refine (C3.out _ _ _ HB6.out HL6.out.1).mono ?_
          rintro e w7 ⟨na, nc, rfl, sn, b7⟩
          have HB7 := Lib.hid (HB6.out.trans (b7.mono HB6.out.size))
          have HL7 := Lib.hid (And.intro (HL6.out.1.old b7) (And.intro (HL6.out.2.old b7) sn))
          clear b7 sn HL6
          go_wp2_with fail
          refine (C4.out _ HB7.out).mono ?_
          rintro e w8 ⟨sa, sc, rfl, ss, b8⟩
          have HB8 := Lib.hid (HB7.out.trans (b8.mono HB7.out.size))
          have HL8 := Lib.hid (And.intro (HL7.out.1.old b8) (And.intro (HL7.out.2.1.old b8) (And.intro (HL7.out.2.2.old b8) ss)))
          clear b8 ss HL7
          go_wp2_with fail
          refine (samee_any _ _ (q1 + m) _ _ V _ HL8.out.1.2.1 HL8.out.2.1.2.1 (by omega) HVM.out).mono ?_
          rintro e w9 ⟨rfl, b9⟩
          have HB9 := Lib.hid (HB8.out.trans (b9.mono HB8.out.size))
          have HL9 := Lib.hid (And.intro (HL8.out.1.old b9) (And.intro (HL8.out.2.2.1.old b9) (HL8.out.2.2.2.old b9)))
          clear b9 HL8
          go_wp2_with fail
          refine (samee_any _ _ (q1 + m) _ _ V _ HL9.out.1.2.1 HL9.out.2.1.2.1 (by omega) HVM.out).mono ?_
          rintro e w10 ⟨rfl, b10⟩
          have HB10 := Lib.hid (HB9.out.trans (b10.mono HB9.out.size))
          have HL10 := Lib.hid (HL9.out.2.2.old b10)
          clear b10 HL9
          go_wp2_with fail
          refine (samee_any _ _ q1 _ _ x _ HL10.out.2.1 (HXw.out.old HB10.out).2.1 (by omega) HXL.out).mono ?_
          rintro e w11 ⟨rfl, b11⟩
          have HB11 := Lib.hid (HB10.out.trans (b11.mono HB10.out.size))
          have hsum : ((q1 + m : Nat) : Int) = (q1 : Int) + (m : Int) := by omega
          have hsw : IntKind.i64.wrap ((q1 : Int) + (m : Int)) = (q1 : Int) + (m : Int) := by rw [IntKind.wrap_i64]; omega
          clear b11 HL10
          go_wp2_with fail
          refine (HA.out _).mono ?_
          rintro e w12 ⟨rfl, b12⟩
          have HB12 := Lib.hid (HB11.out.trans (b12.mono HB11.out.size))
          clear b12
          go_wp2
          go_ret
          exact ⟨rfl, HBW.out.trans (HB12.out.mono HBW.out.size)⟩
end Go.Proofs.Ytgkkgiaaillhpaa
