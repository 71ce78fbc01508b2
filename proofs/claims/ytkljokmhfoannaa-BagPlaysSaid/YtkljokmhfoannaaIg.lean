/-
  Layer 15 (bag): contract of slices.Delete of one letter. Conditions: none.
-/
import Derived.Test.YtkljokmhfoannaaIf
namespace Go.Proofs.Ytkljokmhfoannaa
open Go.RowKit Go.Maps
set_option linter.unusedVariables false
set_option linter.unusedSimpArgs false

theorem run_clear_three {P : Program} (w : World) (t e ty : TypeId) (z : Value) (z0 z1 z2 : Value) (ht : P.underlying t = some (.slice e)) (hv : ∀ w, (zeroValue e).run P w = .ok z w) (hz : z.cells = #[z0, z1, z2]) (h0 : z0.oneCell' = true) (h1 : z1.oneCell' = true) (h2 : z2.oneCell' = true) (b o n c : Nat) (hn : 0 < n) (cur : Array Value) (te : TypeId)
    (hg : w.heap[b]? = some (.cells cur te (0, 0))) (hl : o + n * 3 ≤ cur.size) :
    ∃ vs : List Value, vs.length = n * 3 ∧ (Builtin.clear_ #[t] ty #[.slice (some ⟨b, o, none⟩) n c]).run P w = .ok (.tuple #[]) (w.setRow b (cur.toList.take o ++ vs ++ cur.toList.drop (o + n * 3)).toArray) := by
  obtain ⟨vs, hvs⟩ : ∃ vs, vs = (Builtin.zeroCells z.cells n).toList := ⟨_, rfl⟩
  have hlen : vs.length = n * 3 := by rw [hvs, hz]; simp [Builtin.zeroCells]
  have hone : ∀ v ∈ vs, v.oneCell' = true := by
    intro v hv'
    rw [hvs, hz] at hv'
    simp [Builtin.zeroCells] at hv'
    obtain ⟨i, _, rfl⟩ := hv'
    rcases (by omega : i % 3 = 0 ∨ i % 3 = 1 ∨ i % 3 = 2) with e | e | e <;> rw [e] <;> simp [h0, h1, h2]
  have hst := run_storeCells_at (P := P) b o te vs 0 cur w hg (by simp; omega) hone
  simp only [Nat.add_zero] at hst
  rw [hlen] at hst
  refine ⟨vs, hlen, ?_⟩
  obtain ⟨m, rfl⟩ : ∃ m, n = m + 1 := ⟨n - 1, by omega⟩
  simp [Builtin.clear_, run_underlying ht, hv, ← hvs, hst]
/-- A row cut shorter. -/
theorem own_cut15 {w : World} {base t size n cap : Nat} {a : Option Addr} {xs : List Value} (h : w.ownsRow base t size (.slice a n cap) n xs) (j : Nat) (hj : j ≤ n) : w.ownsRow base t size (.slice a j cap) j (xs.take (j * size)) := by
  have h1 : xs.length = n * size := h.1
  have hm : j * size ≤ n * size := Nat.mul_le_mul_right _ hj
  refine ⟨by rw [List.length_take]; omega, ?_⟩
  rcases h.2 with ⟨hv, hn⟩ | ⟨g, cap', cur, hv, hbg, hh, h2, h3, h4, h5⟩
  · cases hv
    obtain rfl : j = 0 := by omega
    exact .inl ⟨rfl, rfl⟩
  · cases hv
    refine .inr ⟨g, cap, cur, rfl, hbg, hh, by omega, h3, h4, ?_⟩
    rw [← h5, List.take_take]
    congr 1
    omega
theorem app_room {P : Program} (w : World) (t ty e : TypeId) (i : TypeInfo) (size : Nat) (ht : P.underlying t = some (.slice e)) (hi : P.info? e = some i) (hsize : i.size = size)
    (g n cap : Nat) (xs : List Value) (hown : w.ownsRow 0 e size (.slice (some ⟨g, 0, none⟩) n cap) n xs)
    (a : Addr) (m c : Nat) (news : List Value) (hl : news.length = m * size) (hnews : ∀ j u, news[j]? = some u → w.cell? (a.add j) = some u) (h1 : ∀ u ∈ news, u.oneCell' = true) (hroom : n + m ≤ cap) :
    ∃ w', (Builtin.append_ #[t, t] ty #[.slice (some ⟨g, 0, none⟩) n cap, .slice (some a) m c]).run P w = .ok (.slice (some ⟨g, 0, none⟩) (n + m) cap) w' ∧ w'.ownsRow 0 e size (.slice (some ⟨g, 0, none⟩) (n + m) cap) (n + m) (xs ++ news) ∧ w.grownBy w' (some g) := by
  rcases hown.2 with ⟨e0, _⟩ | ⟨g', cap', cur, hv, hbg, hg, hnc, hcm, hcs, htake⟩
  · cases e0
  · cases hv
    have hlen : (xs ++ news).length = (n + m) * size := by rw [List.length_append, hown.1, hl, Nat.add_mul]
    have hfit : n * i.size + news.length ≤ cur.size := by rw [hl, hcs, hsize, ← Nat.add_mul]; exact Nat.mul_le_mul_right _ hroom
    have hr := run_append_room (P := P) w t ty e i ht hi g n cap cur hg a m c news (by rw [hsize]; exact hl) hnews h1 hroom hfit
    rw [hsize] at hr hfit
    refine ⟨_, hr, ⟨hlen, .inr ⟨g, cap, _, rfl, hbg, setRow_heap w g cur _ e _ hg, hroom, hcm, ?_, ?_⟩⟩, ⟨rfl, rfl, rfl, by simp, fun k _ hk => setRow_other w g k _ (fun e => hk (by simp [e]))⟩⟩
    · simp only [List.size_toArray, List.length_append, List.length_take, List.length_drop, Array.length_toList]
      omega
    · rw [htake, ← hlen]
      exact List.take_left
theorem wpList_app_room {P : Program} {w : World} {ops : Array Oper} {rest : List Oper} {o : Oper} {a : Act} {Q : Exit → Act → World → Prop} (hgd : o.guard = none) (s x : Operand) (t : TypeId)
    (ho : o.op = .call { callee := .builtin .append, args := #[s, x], argTypes := #[t, t] })
    (e : TypeId) (i : TypeInfo) (size : Nat) (ht : P.underlying t = some (.slice e)) (hi : P.info? e = some i) (hsize : i.size = size)
    (g n cap : Nat) (xs : List Value) (hs : a.eval s = .slice (some ⟨g, 0, none⟩) n cap) (hown : w.ownsRow 0 e size (.slice (some ⟨g, 0, none⟩) n cap) n xs)
    (ad : Addr) (m c : Nat) (news : List Value) (hx : a.eval x = .slice (some ad) m c) (hl : news.length = m * size) (hnews : ∀ j u, news[j]? = some u → w.cell? (ad.add j) = some u) (h1 : ∀ u ∈ news, u.oneCell' = true) (hroom : n + m ≤ cap)
    (h : ∀ w', w'.ownsRow 0 e size (.slice (some ⟨g, 0, none⟩) (n + m) cap) (n + m) (xs ++ news) → w.grownBy w' (some g) → wpList P ops Q rest (a.put o.dst (.slice (some ⟨g, 0, none⟩) (n + m) cap)) w') : wpList P ops Q (o :: rest) a w := by
  refine wpList_plain hgd fun K hK => ?_
  obtain ⟨w', hr, h2, h3⟩ := app_room (P := P) w t o.type e i size ht hi hsize g n cap xs hown ad m c news hl hnews h1 hroom
  unfold Oper.wp execOp
  simp only [ho, resolve, invoke, builtin, Sem.run_bind, Sem.run_pure, Result.andThen_ok, List.map_toArray, List.map_cons, List.map_nil, hs, hx, hr]
  exact hK _ _ (h w' h2 h3)
theorem zeroLt (w : World) : (zeroValue 39).run Try.prog w = .ok (.agg #[.int .i64 0, .int .i64 0, .string ⟨#[]⟩]) w := by kernel_rfl
/-- What Delete leaves. -/
def DLR (w : World) (g cap : Nat) (L : List Lt) (i : Nat) (e : Ending) (w' : World) : Prop :=
  e = .returned (.slice (some ⟨g, 0, none⟩) (L.length - 1) cap) ∧ w'.ownsRow 0 39 3 (.slice (some ⟨g, 0, none⟩) (L.eraseIdx i).length cap) (L.eraseIdx i).length (lcs (L.eraseIdx i)) ∧ w.grownBy w' (some g)
set_option maxRecDepth 100000 in
set_option maxHeartbeats 4000000 in
theorem delete15_any {w : World} {g cap : Nat} {L : List Lt} (hrow : w.ownsRow 0 39 3 (.slice (some ⟨g, 0, none⟩) L.length cap) L.length (lcs L)) (i : Nat) (hi : i < L.length) (hl : L.length ≤ 1024) :
    Calls Try.prog 40 #[.slice (some ⟨g, 0, none⟩) L.length cap, .int .i64 (i : Int), .int .i64 ((i + 1 : Nat) : Int)] w (DLR w g cap L i) := by
  obtain ⟨i0, hi0, hz0, hz1, hz2⟩ := infoLt_parts
  have HR := Lib.hid hrow
  have hcm : L.length ≤ cap := by
    rcases hrow.2 with ⟨h, _⟩ | ⟨g, cap', cur, hv, _, _, h1, _⟩
    · cases h
    · cases hv; exact h1
  have hcx : cap ≤ 9223372036854775807 := by
    rcases hrow.2 with ⟨h, _⟩ | ⟨g, cap', cur, hv, _, _, _, h1, _⟩
    · cases h
    · cases hv; unfold maxLen at h1; exact h1
  obtain ⟨m, hm⟩ : ∃ m, m = L.length := ⟨_, rfl⟩
  have HM := Lib.hid hm
  rw [← hm] at hi hl hcm ⊢
  obtain ⟨i1, hi1⟩ : ∃ i1, i1 = i + 1 := ⟨_, rfl⟩
  rw [← hi1]
  have HI1 := Lib.hid hi1
  have h1 : (i : Int) ≤ (i1 : Int) := by omega
  have h2 : i1 ≤ m := by omega
  have h3 : (i1 : Int) ≤ (m : Int) := by omega
  have h4 : (m : Int) ≤ (cap : Int) := by omega
  have h5 : ¬ (i : Int) = (i1 : Int) := by omega
  have h5b : ((i : Int) == (i1 : Int)) = false := beq_eq_false_iff_ne.2 h5
  have h6 : (0 : Int) ≤ (i : Int) := by omega
  have h7 : i ≤ cap := by omega
  have h8 : (i : Int) ≤ (cap : Int) := by omega
  have h9 : (0 : Int) ≤ (i1 : Int) := by omega
  have h10 : (i1 : Int) ≤ (cap : Int) := by omega
  have h11 : i1 ≤ cap := by omega
  clear hrow hm hi1
  go_enter Try.func40, Try.ntmps40
  have HI1' := Lib.hid (show i1 = i + 1 from HI1.out)
  obtain ⟨k0, hk0⟩ : ∃ k0, k0 = m - 1 := ⟨_, rfl⟩
  have HK0 : Hid (i + (m - i1) = k0) := Lib.hid (by have := HI1.out; omega)
  have HK1 : Hid (m - 1 = k0) := Lib.hid hk0.symm
  have HEI : Hid (L.take i ++ L.drop i1 = L.eraseIdx i) := Lib.hid (by rw [HI1.out, List.eraseIdx_eq_take_drop_succ])
  have HEL : Hid ((L.eraseIdx i).length = k0) := Lib.hid (by rw [List.length_eraseIdx, if_pos (by rw [← HM.out]; omega), ← HM.out, hk0])
  have k1 : (k0 : Int) ≤ (m : Int) := by omega
  have k2 : k0 + 1 = m := by omega
  have k3 : (0 : Int) ≤ (k0 : Int) := by omega
  have k4 : (k0 : Int) ≤ (cap : Int) := by omega
  have k5 : k0 < cap := by omega
  have k6 : m - k0 = 1 := by omega
  have k7 : ((m : Int) - (k0 : Int)).toNat = 1 := by omega
  clear hk0
  go_upto_region 5 with fail
  by_cases hc : cap = i1
  · subst hc
    have hkj : i = k0 := by have := HI1.out; omega
    have HKJ := Lib.hid hkj
    have HEJ : Hid (lcs (L.take k0) = lcs (L.eraseIdx i)) := Lib.hid (by
      rw [← HEI.out, List.drop_eq_nil_of_le (by rw [← HM.out]; omega), List.append_nil, hkj])
    have HKI : Hid (i = k0) := HKJ
    clear hkj
    refine mixed_region (D := (fun v => True)) [0, 1, 2, 3, 4, 5] [6, 7] 7 (by kernel_rfl) (by kernel_rfl) (by decide) (trivial) ?_
    simp only [List.filterMap_cons, List.filterMap_nil, List.getElem?_cons_zero, List.getElem?_cons_succ]
    repeat (
      (first
       | (refine calm_move _ rfl ?_)
       | (apply calm_cons
          · (intro w' hw'
             first | (obtain ⟨hwa', hwb', hwc'⟩ := hw') | (obtain ⟨hwa', hwb'⟩ := hw') | skip
             go_simp
             first
             | done
             | exact rfl)))
      simp only [Act.put, Act.eval, List.setIfInBounds_toArray, List.set_cons_zero, List.set_cons_succ, Array.getD_eq_getD_getElem?, List.getElem?_toArray, List.getElem?_cons_zero, List.getElem?_cons_succ, Option.getD_some])
    refine calm_nil ?_
    refine loud_cons fun K hK => ?_
    refine wpList_app_room rfl (.tmp 22) (.tmp 25) 28 rfl 39 i0 3 Try.underlying28 hi0 hz1 g i cap (lcs (L.take i)) rfl ?c0 ⟨g, 0, none⟩ 0 0 [] rfl ?c1 ?c2 ?c3 ?c4 ?_
    case c0 => rw [← lcs_take]; exact own_cut15 (n := m) (by rw [HM.out]; exact HR.out) i (by omega)
    case c1 => rfl
    case c2 => exact fun j u hj => by simp at hj
    case c3 => exact fun u hu => by simp at hu
    case c4 => omega
    intro W3 hown3 hgrow3
    rw [List.append_nil, Nat.add_zero, HKI.out, HEJ.out] at hown3
    have hin : g < W3.heap.size ∧ ∃ cur, W3.heap[g]? = some (.cells cur 39 (0, 0)) ∧ cur.size = cap * 3 ∧ cur.toList.take (k0 * 3) = lcs (L.eraseIdx i) ∧ cap ≤ maxLen := by
      rcases hown3.2 with ⟨h, _⟩ | ⟨g', cap', cur, hv, _, hh, _, h2, h3, h4⟩
      · cases h
      · cases hv; exact ⟨heap_lt15 hh, cur, hh, h3, h4, h2⟩
    obtain ⟨hgl, cur, hh, hcs, htk, hmx⟩ := hin
    obtain ⟨vs, hvl, hclr⟩ := run_clear_three (P := Try.prog) W3 28 39 0 (.agg #[.int .i64 0, .int .i64 0, .string ⟨#[]⟩]) _ _ _ Try.underlying28 zeroLt rfl rfl rfl rfl g (k0 * 3) 1 (cap - k0) (by decide) cur 39 hh (by rw [hcs]; omega)
    have HG3 := Lib.hid hgrow3
    obtain ⟨W4, hW4⟩ : ∃ W4, W4 = W3.setRow g (cur.toList.take (k0 * 3) ++ vs ++ cur.toList.drop (k0 * 3 + 1 * 3)).toArray := ⟨_, rfl⟩
    rw [← hW4] at hclr
    have hend : W4.ownsRow 0 39 3 (.slice (some ⟨g, 0, none⟩) (L.eraseIdx i).length cap) (L.eraseIdx i).length (lcs (L.eraseIdx i)) ∧ w.grownBy W4 (some g) := by
      rw [HEL.out, hW4]
      refine ⟨⟨by rw [lcs_len, HEL.out], .inr ⟨g, cap, _, rfl, Nat.zero_le _, setRow_heap W3 g cur _ _ _ hh, by omega, hmx, ?_, ?_⟩⟩, ⟨HG3.out.os, HG3.out.tape, HG3.out.output, by have := HG3.out.size; simpa using this, fun b hb hne => (setRow_other W3 g b _ (fun e => hne (by rw [e]))).trans (HG3.out.block b hb hne)⟩⟩
      · simp only [List.size_toArray, List.length_append, List.length_take, List.length_drop, Array.length_toList]
        omega
      · simp only [List.append_assoc]
        rw [← htk, List.take_append_of_le_length (by simp; omega)]
        rw [List.take_of_length_le (by simp; omega)]
    have HEND := Lib.hid hend
    clear hend hown3 hgrow3 hh htk hcs hW4 hvl
    have hfin := hK
    rw [Nat.add_zero, HKJ.out]
    refine hK _ _ (fun _ => trivial) ?_
    clear hK K hfin
    refine loud_cons fun K hK => ?_
    go_wp2_with fail
    refine hK _ _ (fun h => absurd rfl h) ?_
    clear hK K
    refine loud_nil ?_
    go_wp2_with fail
    go_ret
    unfold DLR
    rw [← HM.out]
    refine ⟨?_, HEND.out⟩
    rw [HK1.out]
    rfl
  · have hlt : i1 < cap := by omega
    have hlti : (i1 : Int) < (cap : Int) := by omega
    refine mixed_region (D := (fun v => True)) [0, 1, 2, 3, 4, 5] [6, 7] 7 (by kernel_rfl) (by kernel_rfl) (by decide) (trivial) ?_
    simp only [List.filterMap_cons, List.filterMap_nil, List.getElem?_cons_zero, List.getElem?_cons_succ]
    repeat (
      (first
       | (refine calm_move _ rfl ?_)
       | (apply calm_cons
          · (intro w' hw'
             first | (obtain ⟨hwa', hwb', hwc'⟩ := hw') | (obtain ⟨hwa', hwb'⟩ := hw') | skip
             go_simp
             first
             | done
             | exact rfl)))
      simp only [Act.put, Act.eval, List.setIfInBounds_toArray, List.set_cons_zero, List.set_cons_succ, Array.getD_eq_getD_getElem?, List.getElem?_toArray, List.getElem?_cons_zero, List.getElem?_cons_succ, Option.getD_some])
    refine calm_nil ?_
    refine loud_cons fun K hK => ?_
    refine wpList_app_room rfl (.tmp 22) (.tmp 25) 28 rfl 39 i0 3 Try.underlying28 hi0 hz1 g i cap (lcs (L.take i)) rfl ?d0 ⟨g, i1 * 3, none⟩ (m - i1) (cap - i1) (lcs (L.drop i1)) rfl ?d1 ?d2 ?d3 ?d4 ?_
    case d0 => rw [← lcs_take]; exact own_cut15 (n := m) (by rw [HM.out]; exact HR.out) i (by omega)
    case d1 => rw [lcs_len, List.length_drop, HM.out]
    case d2 =>
      intro j u hj
      have hd : (lcs L)[i1 * 3 + j]? = some u := by
        rw [← lcs_drop, List.getElem?_drop] at hj
        exact hj
      have hjl := (List.getElem?_eq_some_iff.1 hd).1
      rw [lcs_len] at hjl
      have := (HR.out.cellAt (i1 * 3 + j) hjl).trans hd
      by_cases hj0 : j = 0
      · subst hj0; simpa [Addr.add] using this
      · simpa [Addr.add, hj0] using this
    case d3 => exact lcs_one _
    case d4 => omega
    intro W3 hown3 hgrow3
    rw [HK0.out, ← lcs_app, HEI.out] at hown3
    have hin : g < W3.heap.size ∧ ∃ cur, W3.heap[g]? = some (.cells cur 39 (0, 0)) ∧ cur.size = cap * 3 ∧ cur.toList.take (k0 * 3) = lcs (L.eraseIdx i) ∧ cap ≤ maxLen := by
      rcases hown3.2 with ⟨h, _⟩ | ⟨g', cap', cur, hv, _, hh, _, h2, h3, h4⟩
      · cases h
      · cases hv; exact ⟨heap_lt15 hh, cur, hh, h3, h4, h2⟩
    obtain ⟨hgl, cur, hh, hcs, htk, hmx⟩ := hin
    obtain ⟨vs, hvl, hclr⟩ := run_clear_three (P := Try.prog) W3 28 39 0 (.agg #[.int .i64 0, .int .i64 0, .string ⟨#[]⟩]) _ _ _ Try.underlying28 zeroLt rfl rfl rfl rfl g (k0 * 3) 1 (cap - k0) (by decide) cur 39 hh (by rw [hcs]; omega)
    have HG3 := Lib.hid hgrow3
    obtain ⟨W4, hW4⟩ : ∃ W4, W4 = W3.setRow g (cur.toList.take (k0 * 3) ++ vs ++ cur.toList.drop (k0 * 3 + 1 * 3)).toArray := ⟨_, rfl⟩
    rw [← hW4] at hclr
    have hend : W4.ownsRow 0 39 3 (.slice (some ⟨g, 0, none⟩) (L.eraseIdx i).length cap) (L.eraseIdx i).length (lcs (L.eraseIdx i)) ∧ w.grownBy W4 (some g) := by
      rw [HEL.out, hW4]
      refine ⟨⟨by rw [lcs_len, HEL.out], .inr ⟨g, cap, _, rfl, Nat.zero_le _, setRow_heap W3 g cur _ _ _ hh, by omega, hmx, ?_, ?_⟩⟩, ⟨HG3.out.os, HG3.out.tape, HG3.out.output, by have := HG3.out.size; simpa using this, fun b hb hne => (setRow_other W3 g b _ (fun e => hne (by rw [e]))).trans (HG3.out.block b hb hne)⟩⟩
      · simp only [List.size_toArray, List.length_append, List.length_take, List.length_drop, Array.length_toList]
        omega
      · simp only [List.append_assoc]
        rw [← htk, List.take_append_of_le_length (by simp; omega)]
        rw [List.take_of_length_le (by simp; omega)]
    have HEND := Lib.hid hend
    clear hend hown3 hgrow3 hh htk hcs hW4 hvl
    have hfin := hK
    rw [HK0.out]
    refine hK _ _ (fun _ => trivial) ?_
    clear hK K hfin
    refine loud_cons fun K hK => ?_
    go_wp2_with fail
    refine hK _ _ (fun h => absurd rfl h) ?_
    clear hK K
    refine loud_nil ?_
    go_wp2_with fail
    go_ret
    unfold DLR
    rw [← HM.out]
    refine ⟨?_, HEND.out⟩
    rw [HK1.out]
    rfl
end Go.Proofs.Ytkljokmhfoannaa
