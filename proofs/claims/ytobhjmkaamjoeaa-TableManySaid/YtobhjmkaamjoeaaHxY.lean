/-
  Layer 10 (table), the walk of the law TableMany. Conditions: none.
-/
import Derived.Test.YtobhjmkaamjoeaaQ6
import Derived.Test.YtobhjmkaamjoeaaCq
import Derived.Laws.OwnMore
namespace Go.Proofs.Ytobhjmkaamjoeaa
set_option maxRecDepth 100000
open Go.RowKit
set_option linter.unusedVariables false
set_option linter.unusedSimpArgs false

/-! ### plain -/
def keyM (i : Nat) : ByteArray := ⟨#[UInt8.ofNat (97 + i / 20), UInt8.ofNat (97 + i % 20)]⟩
def entM (i : Nat) : Ent := (keyM i, ⟨#[118]⟩, false, 1 + (i : Int))
def manyE (n : Nat) : List Ent := (List.range n).map entM
theorem manyE_length (n : Nat) : (manyE n).length = n := by simp [manyE]
theorem manyE_snoc (n : Nat) : manyE (n + 1) = manyE n ++ [entM n] := by simp [manyE, List.range_succ]
theorem manyE_get (n k : Nat) (h : k < (manyE n).length) : (manyE n)[k] = entM k := by simp [manyE]
theorem entM_may : ∀ i : Fin 400, mayE (entM i.val) = true := by decide +kernel
theorem entM_less : ∀ i : Fin 399, lessE (entM i.val) (entM (i.val + 1)) = true := by decide +kernel
theorem manyE_chain : ∀ n, n ≤ 400 → chainE zE (manyE n) = true
  | 0, _ => rfl
  | n + 1, h => by
    have ih := manyE_chain n (by omega)
    rw [manyE_snoc, chain_app _ ih]
    have hm := entM_may ⟨n, by omega⟩
    have hl : lessE (lastE zE (manyE n)) (entM n) = true := by
      cases n with
      | zero => exact zE_less hm
      | succ m =>
        rw [manyE_snoc, lastE_snoc]
        exact entM_less ⟨m, by omega⟩
    show (mayE (entM n) && lessE (lastE zE (manyE n)) (entM n) && true) = true
    rw [hl]
    simp only [Bool.and_true]
    exact hm
theorem manyE_ok {n : Nat} (h : n ≤ 400) : okB (manyE n) = true := okB_iff.2 ⟨by rw [manyE_length]; omega, manyE_chain n h⟩
theorem chain_lt {es : List Ent} (hc : chainE zE es = true) (j k : Nat) (hk : k < es.length) (hjk : j < k) : lessE (es[j]'(by omega)) es[k] = true := by
  have h3 := chain_drop j (by omega) hc
  refine chain_ahead h3 es[k] ?_
  rw [List.mem_iff_getElem]
  refine ⟨k - (j + 1), by rw [List.length_drop]; omega, ?_⟩
  rw [List.getElem_drop]
  congr 1
  omega
theorem manyE_lt {n j k : Nat} (h : n ≤ 400) (hk : k < n) (hjk : j < k) : ltB (entM j).1 (entM k).1 = true := by
  have h1 := chain_lt (manyE_chain n h) j k (by rw [manyE_length]; exact hk) hjk
  rw [manyE_get, manyE_get] at h1
  by_cases he : (entM j).1 = (entM k).1
  · rw [less_same he] at h1
    have h2 := of_decide_eq_true h1
    simp only [entM] at h2
    omega
  · rwa [less_key he] at h1
theorem manyE_find {n k : Nat} (h : n ≤ 400) (hk : k < n) : findB (manyE n) (entM k).1 (1 + (k : Int)) = some (entM k) := by
  have h1 := find_own (manyE_chain n h) k (by rw [manyE_length]; exact hk)
  rw [manyE_get] at h1
  exact h1
theorem manyE_none {n k : Nat} (h : n ≤ 400) (hk : k < n) : findB (manyE n) (entM k).1 (k : Int) = none := by
  unfold findB
  rw [List.find?_eq_none]
  intro e he hi
  obtain ⟨j, hj, rfl⟩ := List.mem_iff_getElem.1 he
  rw [manyE_get] at hi
  obtain ⟨h1, h2⟩ := isE_iff.1 hi
  simp only [entM] at h2
  have h3 := manyE_lt h hk (j := j) (by omega)
  rw [h1, ltB_irr] at h3
  cases h3
theorem manyE_clip {n k : Nat} (h : n ≤ 400) (hk : k < n) : clipL (entM k).1 ⟨#[]⟩ (manyE n) = (manyE n).drop k := by
  have hb := manyE_ok h
  have hem : emB (⟨#[]⟩ : ByteArray) = true := emB_iff.2 rfl
  have hmay : mayB (entM k).1 ⟨#[]⟩ = true := by
    have hs := okB_key64 hb ((manyE n)[k]'(by rw [manyE_length]; exact hk)) (List.getElem_mem _)
    rw [manyE_get] at hs
    unfold mayB
    rw [aheadB_iff.2 (.inl hem), decide_eq_true hs]
    decide
  have hkey : ∀ e ∈ manyE n, keyB e.1 = true := fun e he => by
    have hm := chain_may (manyE_chain n h) e he
    obtain ⟨a, b, c, d⟩ := e
    exact (may_iff.1 hm).1
  unfold clipL
  conv => lhs; rw [← List.take_append_drop k (manyE n), List.filter_append]
  have h1 : List.filter (fun e : Ent => hasB (entM k).1 ⟨#[]⟩ e.1) ((manyE n).take k) = [] := by
    rw [List.filter_eq_nil_iff]
    intro e he
    obtain ⟨j, hj, rfl⟩ := List.mem_iff_getElem.1 he
    rw [List.length_take] at hj
    rw [List.getElem_take, manyE_get]
    intro hh
    have h2 := (hasB_iff.1 hh).2.2.1
    rw [manyE_lt h hk (by omega)] at h2
    cases h2
  have h2 : List.filter (fun e : Ent => hasB (entM k).1 ⟨#[]⟩ e.1) ((manyE n).drop k) = (manyE n).drop k := by
    rw [List.filter_eq_self]
    intro e he
    have hke := hkey e (List.mem_of_mem_drop he)
    obtain ⟨j, hj, rfl⟩ := List.mem_iff_getElem.1 he
    rw [List.length_drop, manyE_length] at hj
    have hup := keys_up (manyE_chain n h) k (k + j) (by rw [manyE_length]; omega) (by omega)
    rw [List.getElem_drop] at hke ⊢
    rw [manyE_get, manyE_get] at hup
    rw [manyE_get] at hke ⊢
    exact hasB_iff.2 ⟨hmay, hke, hup, aheadB_iff.2 (.inl hem)⟩
  rw [h1, h2, List.nil_append]
/-! ### the walk -/
theorem u8_natM (n : Nat) (h : n < 256) : (UInt8.ofNat n).toNat = n := by rw [UInt8.toNat_ofNat']; omega
theorem keyM_own (w : World) (k : Nat) (hk : k < 400) (V1 V2 : Int) (h1 : V1 = 97 + (k : Int) / 20) (h2 : V2 = 97 + (k : Int) % 20) :
    (w.alloc (.cells #[.int .u8 V1, .int .u8 V2] 5)).ownsRow w.heap.size 5 1 (.slice (some ⟨w.heap.size, 0, none⟩) 2 2) 2 (bv [UInt8.ofNat (97 + k / 20), UInt8.ofNat (97 + k % 20)]) := by
  have h := World.ownsRow_lit (e := 5) (size := 1) w #[.int .u8 V1, .int .u8 V2] 2 (Nat.le_refl _) (by decide) rfl
  have e : bv [UInt8.ofNat (97 + k / 20), UInt8.ofNat (97 + k % 20)] = [.int .u8 V1, .int .u8 V2] := by
    unfold bv
    simp only [List.map_cons, List.map_nil]
    rw [u8_natM _ (by omega), u8_natM _ (by omega), show V1 = ((97 + k / 20 : Nat) : Int) by omega, show V2 = ((97 + k % 20 : Nat) : Int) by omega]
  rw [e]
  exact h
set_option maxHeartbeats 16000000 in
theorem walk_TableMany (y : Int) (hy : (Lit.int .i64 y).wf = true) (z : Int) (hz : (Lit.int .i64 z).wf = true) (w : World) :
    Calls Try.prog 6 #[.int .i64 y, .int .i64 z] w fun e w' => e = .returned (.bool true) ∧ Below w.heap.size w w' := by
  obtain ⟨i0, hi0, hz0, hz1, hz2⟩ := info_parts Try.infoEnt9
  have HA := Lib.hid fun w => awakeT_any w
  obtain ⟨r, hr4, hr⟩ := place_of y 400 (by omega)
  rw [show ((400 : Nat) : Int) = 400 from rfl] at hr
  obtain ⟨n, hn⟩ : ∃ n, n = r + 1 := ⟨_, rfl⟩
  have hn1 : 1 + (r : Int) = (n : Int) := by omega
  have hn4 : n ≤ 400 := by omega
  have hn0 : 0 < n := by omega
  clear hn
  obtain ⟨q, hqn, hq⟩ := place_of z n hn0
  go_enter Try.func6, Try.ntmps6
  go_wp2
  go_loopw [6, 7] (fun v i wr => ∃ k : Nat, i = .int .i64 k ∧ k ≤ n ∧ Hid (wr.ownsRow w.heap.size 32 4 v k (ev4 (manyE k))) ∧ Hid (Below w.heap.size w wr)) (fun _ i _ => n - (intOf i).toNat)
  case atStart => exact ⟨0, rfl, by omega, Lib.hid (World.ownsRow_nil _ _ _ _), Lib.hid (Below.refl _ _)⟩
  case round =>
    obtain ⟨k, rfl, hk, HO, HW⟩ := hrel
    have hws := HW.out.size
    by_cases hlt : k < n
    · have hki : (k : Int) < (n : Int) := by omega
      have HR := Lib.hid (keyM_own wr k (by omega) _ _ rfl rfl)
      have HSN : Hid (ev4 (manyE k) ++ ev (keyM k, ⟨#[118]⟩, false, 1 + (k : Int)) = ev4 (manyE (k + 1))) := Lib.hid (by rw [manyE_snoc, ← ev4_snoc]; rfl)
      have HKY : Hid ((⟨[UInt8.ofNat (97 + k / 20), UInt8.ofNat (97 + k % 20)].toArray⟩ : ByteArray) = keyM k) := Lib.hid rfl
      go_wp2
      rw [run_str_own _ 54 9 5 Try.underlying54 Try.underlying5 Try.underlying9 wr.heap.size 5 2 _ [UInt8.ofNat (97 + k / 20), UInt8.ofNat (97 + k % 20)] rfl HR.out]
      rw [HKY.out]
      obtain ⟨ky, hky⟩ : ∃ ky, ky = keyM k := ⟨_, rfl⟩
      rw [← hky] at HSN ⊢
      clear hky HKY HR
      obtain ⟨W, hW⟩ : ∃ W, W = wr.alloc (.cells #[.int .u8 (97 + (k : Int) / 20), .int .u8 (97 + (k : Int) % 20)] 5) := ⟨_, rfl⟩
      have HW1 : Hid (Below w.heap.size w W) := Lib.hid (by rw [hW]; exact HW.out.alloc hws _)
      have HO1 : Hid (W.ownsRow w.heap.size 32 4 u6 k (ev4 (manyE k))) := Lib.hid (by rw [hW]; exact HO.out.alloc _)
      rw [← hW]
      have hw1 := HW1.out.size
      clear hW HO HW
      go_wp2_with (at_builtin; refine wpList_append_own _ rfl _ _ 22 rfl w.heap.size 32 i0 (.agg #[.string ⟨#[]⟩, .string ⟨#[]⟩, .bool false, .int .i64 0]) 4 48 Try.underlying22 hi0 hz0 hz1 hz2 rfl (by decide) _ _ _ rfl (HO1.out.alloc _) ⟨W.heap.size, 0, none⟩ 1 1 (ev (ky, ⟨#[118]⟩, false, 1 + (k : Int))) rfl rfl ?c1 ?c2 ?c3 ?c4 ?c5 ?_)
      case c1 => exact cell_new4 _ _ _ _ _ _
      case c2 => intro u hu; simp [ev] at hu; rcases hu with rfl | rfl | rfl | rfl <;> rfl
      case c3 => unfold maxLen; omega
      case c4 => omega
      case c5 => simp; omega
      intro v' w2 hown2 hgrow _
      have HW2 := Lib.hid ((HW1.out.alloc hw1 (.cells #[.string ky, .string ⟨#[118]⟩, .bool false, .int .i64 (1 + (k : Int))] 32)).grown hgrow (by simp; omega) (fun k hk => (HO1.out.lt k hk).1))
      rw [HSN.out] at hown2
      have HO2 := Lib.hid hown2
      clear hown2 hgrow HW1 HO1
      go_wp2
      go_roundw
      case rel => exact ⟨k + 1, by go_num, by omega, HO2, HW2⟩
      case measure => simp [intOf]; omega
    · obtain rfl : k = n := by omega
      obtain ⟨a, c, rfl, hse⟩ := own_se HO.out (manyE_length k)
      have HS := Lib.hid hse
      have hokM := manyE_ok hn4
      have hT : okT (manyE k) = true := okT_iff.2 ⟨fun h => by have := manyE_length k; rw [h] at this; simp at this; omega, hokM⟩
      obtain ⟨es, hes⟩ : ∃ es, es = manyE k := ⟨_, rfl⟩
      have hfy := manyE_find hn4 hqn
      have hfn := manyE_none hn4 hqn
      have hcl := manyE_clip hn4 hqn
      have hlen := manyE_length k
      have hgq := manyE_get k q (by rw [manyE_length]; exact hqn)
      have hql : q < es.length := by rw [hes, manyE_length]; exact hqn
      have hgq' : es[q] = entM q := by subst hes; exact hgq
      clear hgq
      rw [← hes] at HS hokM hT hfy hfn hcl hlen
      clear hes
      have HT := Lib.hid hT
      have hbl := buildT_len hokM
      have HOK := Lib.hid hokM
      obtain ⟨s, hs⟩ : ∃ s : ByteArray, s = ⟨(buildT es).toArray⟩ := ⟨_, rfl⟩
      have hss : s.size ≤ 16777216 := by rw [hs, size_mkl]; omega
      have hop := fun w => topen_any s w hss
      have hsl : s.data.toList = buildT es := by rw [hs]
      rw [hsl, openT_put hT] at hop
      have HOP := Lib.hid hop
      have HSL := Lib.hid hs
      have HLN := Lib.hid hlen
      have HFY := Lib.hid hfy
      have HFN := Lib.hid hfn
      have HCL := Lib.hid (show (clipL (entM q).1 ⟨#[]⟩ es).length = k - q by rw [hcl, List.length_drop, hlen])
      have HCE := Lib.hid (show (entM q) = ((entM q).1, (⟨#[118]⟩ : ByteArray), false, 1 + (q : Int)) from rfl)
      obtain ⟨kq, hkq⟩ : ∃ kq, kq = (entM q).1 := ⟨_, rfl⟩
      have hks : kq.size ≤ 64 := by rw [hkq, ← hgq']; exact okB_key64 hokM es[q] (List.getElem_mem hql)
      rw [HCE.out, ← hkq] at HFY
      rw [← hkq] at HFN HCL
      have HGQ : Hid (es[q] = (kq, (⟨#[118]⟩ : ByteArray), false, 1 + (q : Int))) := Lib.hid (by rw [hgq', hkq]; rfl)
      clear hT hbl hokM hs hss hop hsl hlen hfy hfn hcl HCE hkq hgq' HO
      go_wp2_with fail
      refine (tbuild_any a k c es _ (by omega) HLN.out HS.out.2.2.1 HS.out.2.1 (okB_okW HOK.out)).mono ?_
      rintro e w2 ⟨rfl, b2⟩
      rw [if_pos HT.out, ← HSL.out]
      have HW2 := Lib.hid (HW.out.trans (b2.mono hws))
      have HS2 := Lib.hid (HS.out.old b2)
      clear b2 HW hws
      go_wp2_with fail
      refine (HOP.out _).mono ?_
      rintro e w3 ⟨h1, _, b3⟩
      obtain ⟨T, rfl, ht, hTw⟩ := h1 es rfl
      have HW3 := Lib.hid (HW2.out.trans (b3.mono HW2.out.size))
      have HS3 := Lib.hid (HS2.out.old b3)
      have HT3 : Hid (TP w3 (.pointer (some ⟨T, 0, none⟩)) es true) := Lib.hid (.inl ⟨rfl, T, rfl, ht⟩)
      have HL3 := Lib.hid (tlen_any _ es true w3 HT3.out)
      rw [HLN.out] at HL3
      clear h1 b3 ht hTw HOP HW2 HS2
      go_wp2_with fail
      refine HL3.out.mono ?_
      rintro e w4 ⟨rfl, b4⟩
      have HW4 := Lib.hid (HW3.out.trans (b4.mono HW3.out.size))
      have HS4 := Lib.hid (HS3.out.old b4)
      have HT4 := Lib.hid (HT3.out.old b4)
      clear b4 HW3 HS3 HT3 HL3
      have hqi : (q : Int) < (k : Int) := by omega
      have hq0 : (0 : Int) ≤ (q : Int) := by omega
      obtain ⟨b, off, ha, hb, hat⟩ := HS4.out.2.1.at_
      obtain rfl := ha (by omega)
      have hbw := hb (by omega)
      have hcc : ∀ wx, Below w4.heap.size w4 wx → wx.cell? ⟨b, off + q * 4, none⟩ = some (.string kq) ∧ wx.cell? ⟨b, off + q * 4 + 1, none⟩ = some (.string ⟨#[118]⟩) ∧ wx.cell? ⟨b, off + q * 4 + 2, none⟩ = some (.bool false) ∧ wx.cell? ⟨b, off + q * 4 + 3, none⟩ = some (.int .i64 (1 + (q : Int))) ∧ b < wx.heap.size := fun wx hx => by
        obtain ⟨g0, g1, g2, g3⟩ := hat.old hbw hx q hql
        rw [HGQ.out] at g0 g1 g2 g3
        exact ⟨g0, g1, g2, g3, Nat.lt_of_lt_of_le hbw hx.size⟩
      have HCC := Lib.hid hcc
      clear ha hb hat hcc
      obtain ⟨g0, g1, g2, g3, g4⟩ := HCC.out w4 (Below.refl _ _)
      have HG := Lib.hid (tget_any _ es true kq (1 + (q : Int)) _ HT4.out)
      rw [HFY.out, show fnd (some (kq, (⟨#[118]⟩ : ByteArray), false, 1 + (q : Int))) = .tuple #[.agg #[.string kq, .string ⟨#[118]⟩, .bool false, .int .i64 (1 + (q : Int))], .bool true] from rfl] at HG
      go_wp2_with fail
      refine HG.out.mono ?_
      rintro e w5 ⟨rfl, b5⟩
      have hb5 : Below w4.heap.size w4 (w5.alloc (.cells #[.string kq, .string ⟨#[118]⟩, .bool false, .int .i64 (1 + (q : Int))] 32)) := b5.alloc b5.size _
      have HB5 := Lib.hid hb5
      have HX5 := Lib.hid (EBox.new w5 32 kq ⟨#[118]⟩ false (1 + (q : Int)))
      have hk5 := (HCC.out _ hb5)
      have HT5 := Lib.hid (HT4.out.old hb5)
      clear g0 g1 g2 g3 g4 b5 hb5 HG
      obtain ⟨g0, g1, g2, g3, g4⟩ := hk5
      obtain ⟨W5, hW5⟩ : ∃ W5, W5 = w5.alloc (.cells #[.string kq, .string ⟨#[118]⟩, .bool false, .int .i64 (1 + (q : Int))] 32) := ⟨_, rfl⟩
      rw [← hW5] at HB5 HX5 HT5 g0 g1 g2 g3 g4
      have HG := Lib.hid (tget_any _ es true kq (q : Int) _ HT5.out)
      rw [HFN.out, show fnd none = .tuple #[.agg #[.string ⟨#[]⟩, .string ⟨#[]⟩, .bool false, .int .i64 0], .bool false] from rfl] at HG
      have HW5e := Lib.hid hW5
      have g0' := g0
      rw [hW5] at g0 g4
      clear hW5
      go_wp2_with fail
      rw [← HW5e.out]
      refine HG.out.mono ?_
      rintro e w6 ⟨rfl, b6⟩
      obtain ⟨W6, hW6⟩ : ∃ W6, W6 = w6.alloc (.cells #[.string ⟨#[]⟩, .string ⟨#[]⟩, .bool false, .int .i64 0] 32) := ⟨_, rfl⟩
      have hb6 : Below W5.heap.size W5 W6 := by rw [hW6]; exact b6.alloc b6.size _
      have HB6 := Lib.hid (HB5.out.trans (hb6.mono HB5.out.size))
      have HX6 := Lib.hid (HX5.out.below hb6)
      have HT6 := Lib.hid (HT5.out.old hb6)
      clear g0 g1 g2 g3 g4 g0' b6 hb6 HG HX5 HT5 HW5e
      obtain ⟨g0, g1, g2, g3, g4⟩ := HCC.out _ HB6.out
      have HR := Lib.hid (trange_at _ es true kq ⟨#[]⟩ (by unfold okS; omega) (by unfold okS; decide) (k - q) _ rfl HCL.out W6 HT6.out)
      have HW6e := Lib.hid hW6
      rw [hW6] at g0 g4
      clear hW6
      go_wp2_with fail
      rw [← HW6e.out]
      refine HR.out.mono ?_
      rintro e w7 ⟨a7, c7, rfl, _, b7⟩
      have HB7 := Lib.hid (HB6.out.trans (b7.mono HB6.out.size))
      have HW7 := Lib.hid (HW4.out.trans (HB7.out.mono HW4.out.size))
      obtain ⟨x0, x1, x2, x3, x4⟩ := HX6.out.below b7
      clear g0 g1 g2 g3 g4 b7 HR HW6e HX6 HB6 HT6
      obtain ⟨g0, g1, g2, g3, g4⟩ := HCC.out _ HB7.out
      have hsub : (k : Int) - (q : Int) = ((k - q : Nat) : Int) := by omega
      obtain ⟨dd, hdd⟩ : ∃ dd, dd = k - q := ⟨_, rfl⟩
      rw [← hdd] at hsub ⊢
      have hwr : IntKind.i64.wrap (dd : Int) = (dd : Int) := IntWalk.i64_in _ (by omega)
      have hs7 := HW7.out.size
      clear hdd
      go_wp2
      refine wp_region_below (by kernel_rfl) (by kernel_rfl) ?_
      repeat (first
        | go_big_quiet_skip
        | (go_big_quiet_want
           first
           | (refine BigFrame.quiet_move _ rfl ?_)
           | (refine BigFrame.quiet_assign _ rfl ?_)
           | (unfold Oper.quiet
              apply Exists.intro
              refine ⟨fun w' hw' => ?_, ?_⟩
              · (obtain ⟨hc', hf'⟩ := bcell hw'
                 go_simp
                 first
                 | done
                 | exact rfl
                 | (go_at_call 10; (with_reducible refine (HA.out _).mono ?_); rintro e w'' ⟨rfl, bb⟩; exact ⟨rfl, by first | exact bt hw' bb | simpa using bt hw' bb⟩)))
           go_big_quiet_on
           simp only [Act.put, Act.eval, List.setIfInBounds_toArray, List.set_cons_zero, List.set_cons_succ, Array.getD_eq_getD_getElem?, List.getElem?_toArray, List.getElem?_cons_zero, List.getElem?_cons_succ, Option.getD_some]))
      refine wpQuiet_nil ?_
      intro w' hw'
      go_wp2
      go_ret
      exact ⟨rfl, HW7.out.trans (hw'.mono hs7)⟩
end Go.Proofs.Ytobhjmkaamjoeaa
