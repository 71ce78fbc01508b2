/-
  Layer 12 (manifest): the document's put. Conditions: at most 100000 tables.
-/
import Derived.Test.YtkpemlgolpihiaaZo
import Derived.Test.YtkpemlgolpihiaaRH
import Derived.Test.YtkpemlgolpihiaaAp
namespace Go.Proofs.Ytkpemlgolpihiaa
set_option maxRecDepth 100000
open Go.RowKit
set_option linter.unusedVariables false
set_option linter.unusedSimpArgs false

theorem putT_at {ts : List Tb} {t : Tb} : ∀ (k : Nat) (hk : k ≤ ts.length), (∀ j (h : j < ts.length), j < k → lessT ts[j] t = true) → (∀ h : k < ts.length, lessT ts[k] t = false) → putT ts t = ts.take k ++ [t] ++ ts.drop k := by
  induction ts with
  | nil => intro k hk h1 h2; simp [putT]
  | cons a ts ih =>
    intro k hk h1 h2
    cases k with
    | zero =>
      have := h2 (by simp)
      simp only [List.getElem_cons_zero] at this
      simp [putT, this]
    | succ k =>
      have ha := h1 0 (by simp) (by omega)
      simp only [List.getElem_cons_zero] at ha
      have := ih k (by simpa using hk) (fun j h hj => by have := h1 (j + 1) (by simpa using h) (by omega); simpa using this) (fun h => by have := h2 (by simpa using h); simpa using this)
      unfold putT at this ⊢
      rw [List.takeWhile_cons, List.dropWhile_cons, ha]
      simp only [if_true, List.cons_append, List.take_succ_cons, List.drop_succ_cons]
      rw [this]
theorem TbAt.take {w : World} {b off : Nat} {ts : List Tb} (h : TbAt w b off ts) (k : Nat) : TbAt w b off (ts.take k) := by
  intro i hi
  rw [List.length_take] at hi
  simp only [List.getElem_take]
  exact h i (by omega)
theorem TbAt.drop {w : World} {b off : Nat} {ts : List Tb} (h : TbAt w b off ts) (k : Nat) : TbAt w b (off + k * 4) (ts.drop k) := by
  intro i hi
  rw [List.length_drop] at hi
  simp only [List.getElem_drop]
  have := h (k + i) (by omega)
  rw [show off + (k + i) * 4 = off + k * 4 + i * 4 by omega] at this
  exact this
theorem tb_news' {w : World} {b off : Nat} {ts : List Tb} (h : TbAt w b off ts) : ∀ y, some (⟨b, off, none⟩ : Addr) = some y → ∀ j u, (tv4 ts)[j]? = some u → w.cell? (y.add j) = some u := by
  intro y hy j u hj
  injection hy with hy
  subst hy
  rw [show (⟨b, off, none⟩ : Addr).add j = ⟨b, off + j, none⟩ from by unfold Addr.add; split <;> simp_all]
  exact tb_news h hj
set_option maxRecDepth 1000000 in
set_option maxHeartbeats 16000000 in
theorem rputt_any (a : Option Addr) (n cap : Nat) (ts : List Tb) (t : Tb) (w : World) (hst : ST w a n cap ts) (hn : n ≤ 100000) :
    Calls Try.prog 47 #[.slice a n cap, .agg #[.int .i64 t.1, .int .i64 t.2.1, .string t.2.2.1, .string t.2.2.2]] w (PT (putT ts t) w) := by
  obtain ⟨i0, hi0, hz0, hz1, hz2⟩ := info_parts Try.infoTab
  obtain ⟨hl, hrd, hnc, hcm⟩ := hst
  obtain ⟨b, off, ha, hb, hat⟩ := hrd.at_
  rw [hl] at ha hb
  have HNT : Hid (∀ wx, Below w.heap.size w wx → ∀ k, k ≤ n → ∀ y, a = some y → ∀ j u, (tv4 (ts.take k))[j]? = some u → wx.cell? (y.add j) = some u) := Lib.hid (by
    intro wx hx k hk y hy j u hj
    by_cases h0 : 0 < n
    · rw [ha h0] at hy
      exact tb_news' ((hat.old (hb h0) hx).take k) y hy j u hj
    · have : ts = [] := List.length_eq_zero_iff.1 (by omega)
      subst this
      simp [tv4] at hj)
  have HNL : Hid (∀ k, k ≤ n → (tv4 (ts.take k)).length = k * 4) := Lib.hid fun k hk => by rw [tv4_length, List.length_take]; omega
  have HL := Lib.hid hl
  have HAT := Lib.hid hat
  have hcm' : cap ≤ maxLen := hcm
  have HB := Lib.hid (box_bel w (.cells #[.int .i64 t.1, .int .i64 t.2.1, .string t.2.2.1, .string t.2.2.2] 49))
  have HX := Lib.hid (TBox.new w 49 t)
  clear hl hat hrd
  go_enter Try.func47, Try.ntmps47
  go_upto_region 1 with fail
  obtain ⟨xb, hxb⟩ : ∃ xb, xb = w.heap.size := ⟨_, rfl⟩
  rw [← hxb] at HX ⊢
  clear hxb
  generalize w.alloc (.cells #[.int .i64 t.1, .int .i64 t.2.1, .string t.2.2.1, .string t.2.2.2] 49) = w1 at *
  go_wp2_with fail
  go_loopw [5] (fun i wr => ∃ k : Nat, i = .int .i64 k ∧ k ≤ n ∧ Hid (∀ j (h : j < ts.length), j < k → lessT ts[j] t = true) ∧ Hid (Below w1.heap.size w1 wr)) (fun i _ => n - (intOf i).toNat)
  case atStart => exact ⟨0, by first | rfl | go_num, by omega, Lib.hid (fun j h hj => by omega), Lib.hid (Below.refl _ _)⟩
  case round =>
    obtain ⟨k, rfl, hkn, HLE, HW⟩ := hrel
    obtain ⟨x0, x1, x2, x3, x4⟩ := HX.out.below HW.out
    by_cases hlt : k < n
    · have hki : (k : Int) < (n : Int) := by omega
      obtain rfl := ha (by omega)
      have hbw := hb (by omega)
      have hkl : k < ts.length := by rw [HL.out]; exact hlt
      have hw01 := HB.out.size
      obtain ⟨g0, g1, g2, g3⟩ := HAT.out.old hbw (HB.out.trans (HW.out.mono HB.out.size)) k hkl
      have hbr : b < wr.heap.size := Nat.lt_of_lt_of_le hbw (by have := HW.out.size; omega)
      obtain ⟨E, hE⟩ : ∃ E, E = ts[k] := ⟨_, rfl⟩
      obtain ⟨r, hr⟩ : ∃ r, lessT E t = r := ⟨_, rfl⟩
      rw [← hE] at g0 g1 g2 g3
      have HA := Lib.hid fun wx : World => rahead_any E t wx
      rw [hr] at HA
      have HR := Lib.hid (show lessT ts[k] t = r by rw [← hE]; exact hr)
      clear hE hr
      cases r with
      | true =>
        have HN : Hid (∀ j (h : j < ts.length), j < k + 1 → lessT ts[j] t = true) := Lib.hid fun j h hj => by
          by_cases e : j = k
          · subst e; exact HR.out
          · exact HLE.out j h (by omega)
        go_wp2_with fail
        refine wp_region_below (by kernel_rfl) (by kernel_rfl) ?_
        repeat (first
          | go_big_quiet_skip
          | (go_big_quiet_want
             first
             | (refine BigFrame.quiet_move _ rfl ?_)
             | (refine BigFrame.quiet_assign _ rfl ?_)
             | (unfold Oper.quiet
                apply Exists.intro
                refine ⟨fun w' hw' => ?_, ?_⟩
                · (obtain ⟨hc', hf'⟩ := bcell hw'
                   go_simp
                   first
                   | done
                   | exact rfl
                   | (go_at_call 69; (with_reducible refine (HA.out _).mono ?_); rintro e w'' ⟨rfl, bb⟩; exact ⟨rfl, by first | exact bt hw' bb | simpa using bt hw' bb⟩)))
             go_big_quiet_on
             simp only [Act.put, Act.eval, List.setIfInBounds_toArray, List.set_cons_zero, List.set_cons_succ, Array.getD_eq_getD_getElem?, List.getElem?_toArray, List.getElem?_cons_zero, List.getElem?_cons_succ, Option.getD_some]))
        refine wpQuiet_nil ?_
        intro w' hw'
        have HW2 := Lib.hid (HW.out.trans (hw'.mono HW.out.size))
        clear hw' g0 g1 g2 g3 x0 x1 x2 x3 x4 hbr
        go_wp2_with fail
        go_roundw
        case rel => exact ⟨k + 1, by go_num, by omega, HN, HW2⟩
        case measure => simp [intOf]; omega
      | false =>
        have HPUT := Lib.hid (putT_at k (by omega) HLE.out (fun _ => HR.out))
        go_wp2_with fail
        refine wp_region_below (by kernel_rfl) (by kernel_rfl) ?_
        repeat (first
          | go_big_quiet_skip
          | (go_big_quiet_want
             first
             | (refine BigFrame.quiet_move _ rfl ?_)
             | (refine BigFrame.quiet_assign _ rfl ?_)
             | (unfold Oper.quiet
                apply Exists.intro
                refine ⟨fun w' hw' => ?_, ?_⟩
                · (obtain ⟨hc', hf'⟩ := bcell hw'
                   go_simp
                   first
                   | done
                   | exact rfl
                   | (go_at_call 69; (with_reducible refine (HA.out _).mono ?_); rintro e w'' ⟨rfl, bb⟩; exact ⟨rfl, by first | exact bt hw' bb | simpa using bt hw' bb⟩)))
             go_big_quiet_on
             simp only [Act.put, Act.eval, List.setIfInBounds_toArray, List.set_cons_zero, List.set_cons_succ, Array.getD_eq_getD_getElem?, List.getElem?_toArray, List.getElem?_cons_zero, List.getElem?_cons_succ, Option.getD_some]))
        refine wpQuiet_nil ?_
        intro w' hw'
        have HW2 := Lib.hid (HW.out.trans (hw'.mono HW.out.size))
        clear hw' g0 g1 g2 g3 x0 x1 x2 x3 x4 hbr
        have hkc : k < cap := by omega
        have hkci : (k : Int) < (cap : Int) := by omega
        have hkc2 : (k : Int) ≤ (cap : Int) := by omega
        go_wp2_with (at_builtin; refine wpList_append_any rfl (.tmp 21) (.tmp 24) 22 rfl w1.heap.size 49 i0 (.agg #[.int .i64 0, .int .i64 0, .string ⟨#[]⟩, .string ⟨#[]⟩]) 4 48 Try.underlying22 hi0 hz0 hz1 hz2 rfl (by decide) (.slice none 0 0) 0 (tv4 []) rfl (World.ownsRow_nil _ _ _ _) (some ⟨b, off, none⟩) k cap (tv4 (ts.take k)) rfl (by intro h; cases h) (HNL.out k hkn) (fun y hy => HNT.out _ (HB.out.trans (HW2.out.mono HB.out.size)) k hkn y hy) (tv4_one _) (by unfold maxLen; omega) (by omega) HW2.out.size ?_)
        intro v3 w3 own3 b3
        rw [tv4_app, List.nil_append] at own3
        have HO3 := Lib.hid own3
        have HW3 := Lib.hid (HW2.out.trans b3)
        have hw3 := HW3.out.size
        have HX3 := Lib.hid (HX.out.below HW3.out)
        clear own3 b3
        obtain ⟨x0, x1, x2, x3, x4⟩ := HX3.out
        go_wp2_with (at_builtin; refine wpList_append_own _ rfl (.tmp 26) (.tmp 28) 22 rfl w1.heap.size 49 i0 (.agg #[.int .i64 0, .int .i64 0, .string ⟨#[]⟩, .string ⟨#[]⟩]) 4 48 Try.underlying22 hi0 hz0 hz1 hz2 rfl (by decide) v3 k (tv4 (ts.take k)) rfl (HO3.out.alloc _) ⟨w3.heap.size, 0, none⟩ 1 1 (tv t) rfl rfl (cell_new4 _ _ _ _ _ _) (by intro u hu; simp [tv] at hu; rcases hu with rfl | rfl | rfl | rfl <;> rfl) (by unfold maxLen; omega) (by omega) (by simp; omega) ?_)
        intro v4 w4 own4 gr4 _
        have HW4 := Lib.hid ((HW3.out.alloc hw3 (.cells #[.int .i64 t.1, .int .i64 t.2.1, .string t.2.2.1, .string t.2.2.2] 49)).grown gr4 (by simp; omega) (fun kk hk => (HO3.out.lt kk hk).1))
        rw [tv4_snoc] at own4
        have HO4 := Lib.hid own4
        have hw4 := HW4.out.size
        clear own4 gr4 HX3 HO3 HW3 hw3 x0 x1 x2 x3 x4
        go_wp2_with (at_builtin; refine wpList_append_any rfl (.tmp 30) (.tmp 33) 22 rfl w1.heap.size 49 i0 (.agg #[.int .i64 0, .int .i64 0, .string ⟨#[]⟩, .string ⟨#[]⟩]) 4 48 Try.underlying22 hi0 hz0 hz1 hz2 rfl (by decide) v4 (k + 1) (tv4 (ts.take k ++ [t])) rfl HO4.out (some ⟨b, off + k * 4, none⟩) (n - k) _ (tv4 (ts.drop k)) rfl (by intro h; cases h) (by rw [tv4_length, List.length_drop, HL.out]) (tb_news' ((HAT.out.old hbw (HB.out.trans (HW4.out.mono HB.out.size))).drop k)) (tv4_one _) (by unfold maxLen; omega) (by omega) hw4 ?_)
        intro v6 w6 own6 b6
        rw [tv4_app] at own6
        have HW6 := Lib.hid (HB.out.trans ((HW4.out.trans b6).mono HB.out.size))
        obtain ⟨a6, c6, rfl, hse⟩ := own_st own6 (by rw [List.length_append, List.length_append, List.length_take, List.length_singleton, List.length_drop]; have := HL.out; omega)
        have HSE := Lib.hid hse
        clear own6 b6 hse
        go_wp2
        go_ret
        exact ⟨a6, _, c6, rfl, by rw [HPUT.out]; skip; exact HSE.out, HW6.out⟩
    · obtain rfl : n = k := by omega
      have HPUT := Lib.hid (putT_at n (by have := HL.out; omega) HLE.out (fun h => by have := HL.out; omega))
      have HDR : Hid (ts.drop n = []) := Lib.hid (List.drop_eq_nil_of_le (by have := HL.out; omega))
      go_wp2_with fail
      refine wp_region_below (by kernel_rfl) (by kernel_rfl) ?_
      repeat (first
        | go_big_quiet_skip
        | (go_big_quiet_want
           first
           | (refine BigFrame.quiet_move _ rfl ?_)
           | (refine BigFrame.quiet_assign _ rfl ?_)
           | (unfold Oper.quiet
              apply Exists.intro
              refine ⟨fun w' hw' => ?_, ?_⟩
              · (obtain ⟨hc', hf'⟩ := bcell hw'
                 go_simp
                 first
                 | done
                 | exact rfl))
           go_big_quiet_on
           simp only [Act.put, Act.eval, List.setIfInBounds_toArray, List.set_cons_zero, List.set_cons_succ, Array.getD_eq_getD_getElem?, List.getElem?_toArray, List.getElem?_cons_zero, List.getElem?_cons_succ, Option.getD_some]))
      refine wpQuiet_nil ?_
      intro w' hw'
      have HW2 := Lib.hid (HW.out.trans (hw'.mono HW.out.size))
      clear hw' x0 x1 x2 x3 x4
      have hkc2 : (n : Int) ≤ (cap : Int) := by omega
      cases a with
      | none =>
        obtain rfl : n = 0 := by
          rcases Nat.eq_zero_or_pos n with h | h
          · exact h
          · have := ha h; cases this
        have hkn : 0 ≤ 0 := Nat.le_refl _
        by_cases hc : cap = 0
        · obtain rfl : 0 = cap := by omega
          go_wp2_with (at_builtin; refine wpList_append_any rfl (.tmp 21) (.tmp 24) 22 rfl w1.heap.size 49 i0 (.agg #[.int .i64 0, .int .i64 0, .string ⟨#[]⟩, .string ⟨#[]⟩]) 4 48 Try.underlying22 hi0 hz0 hz1 hz2 rfl (by decide) (.slice none 0 0) 0 (tv4 []) rfl (World.ownsRow_nil _ _ _ _) none 0 0 (tv4 (ts.take 0)) rfl (fun _ => rfl) (HNL.out 0 hkn) (fun y hy => HNT.out _ (HB.out.trans (HW2.out.mono HB.out.size)) 0 hkn y hy) (tv4_one _) (by unfold maxLen; omega) (by omega) HW2.out.size ?_)
          intro v3 w3 own3 b3
          rw [tv4_app, List.nil_append] at own3
          have HO3 := Lib.hid own3
          have HW3 := Lib.hid (HW2.out.trans b3)
          have hw3 := HW3.out.size
          have HX3 := Lib.hid (HX.out.below HW3.out)
          clear own3 b3
          obtain ⟨x0, x1, x2, x3, x4⟩ := HX3.out
          go_wp2_with (at_builtin; refine wpList_append_own _ rfl (.tmp 26) (.tmp 28) 22 rfl w1.heap.size 49 i0 (.agg #[.int .i64 0, .int .i64 0, .string ⟨#[]⟩, .string ⟨#[]⟩]) 4 48 Try.underlying22 hi0 hz0 hz1 hz2 rfl (by decide) v3 0 (tv4 (ts.take 0)) rfl (HO3.out.alloc _) ⟨w3.heap.size, 0, none⟩ 1 1 (tv t) rfl rfl (cell_new4 _ _ _ _ _ _) (by intro u hu; simp [tv] at hu; rcases hu with rfl | rfl | rfl | rfl <;> rfl) (by unfold maxLen; omega) (by omega) (by simp; omega) ?_)
          intro v4 w4 own4 gr4 _
          have HW4 := Lib.hid ((HW3.out.alloc hw3 (.cells #[.int .i64 t.1, .int .i64 t.2.1, .string t.2.2.1, .string t.2.2.2] 49)).grown gr4 (by simp; omega) (fun kk hk => (HO3.out.lt kk hk).1))
          rw [tv4_snoc] at own4
          have HO4 := Lib.hid own4
          have hw4 := HW4.out.size
          clear own4 gr4 HX3 HO3 HW3 hw3 x0 x1 x2 x3 x4
          go_wp2_with (at_builtin; generalize hG : wpList _ _ _ _ _ _ = G)
          rw [← hG]
          clear hG
          refine wpList_append_any rfl (.tmp 30) (.tmp 33) 22 rfl w1.heap.size 49 i0 (.agg #[.int .i64 0, .int .i64 0, .string ⟨#[]⟩, .string ⟨#[]⟩]) 4 48 Try.underlying22 hi0 hz0 hz1 hz2 rfl (by decide) v4 (0 + 1) (tv4 (ts.take 0 ++ [t])) rfl HO4.out none _ _ (tv4 []) rfl (by first | exact (fun _ => rfl) | (intro h; cases h) | (intro _; omega)) (by simp [tv4]) (by intro y _ j u hj; simp [tv4] at hj) (tv4_one _) (by unfold maxLen; omega) (by omega) hw4 ?_
          intro v6 w6 own6 b6
          rw [tv4_app] at own6
          have HW6 := Lib.hid (HB.out.trans ((HW4.out.trans b6).mono HB.out.size))
          obtain ⟨a6, c6, rfl, hse⟩ := own_st own6 (by rw [List.length_append, List.length_append, List.length_take, List.length_singleton, List.length_nil]; have := HL.out; omega)
          have HSE := Lib.hid hse
          clear own6 b6 hse
          go_wp2
          go_ret
          exact ⟨a6, _, c6, rfl, by rw [HPUT.out]; rw [HDR.out]; exact HSE.out, HW6.out⟩
        · have hc1 : 0 < cap := by omega
          have hc2 : (0 : Int) < (cap : Int) := by omega
          go_wp2_with (at_builtin; refine wpList_append_any rfl (.tmp 21) (.tmp 24) 22 rfl w1.heap.size 49 i0 (.agg #[.int .i64 0, .int .i64 0, .string ⟨#[]⟩, .string ⟨#[]⟩]) 4 48 Try.underlying22 hi0 hz0 hz1 hz2 rfl (by decide) (.slice none 0 0) 0 (tv4 []) rfl (World.ownsRow_nil _ _ _ _) none 0 cap (tv4 (ts.take 0)) rfl (fun _ => rfl) (HNL.out 0 hkn) (fun y hy => HNT.out _ (HB.out.trans (HW2.out.mono HB.out.size)) 0 hkn y hy) (tv4_one _) (by unfold maxLen; omega) (by omega) HW2.out.size ?_)
          intro v3 w3 own3 b3
          rw [tv4_app, List.nil_append] at own3
          have HO3 := Lib.hid own3
          have HW3 := Lib.hid (HW2.out.trans b3)
          have hw3 := HW3.out.size
          have HX3 := Lib.hid (HX.out.below HW3.out)
          clear own3 b3
          obtain ⟨x0, x1, x2, x3, x4⟩ := HX3.out
          go_wp2_with (at_builtin; refine wpList_append_own _ rfl (.tmp 26) (.tmp 28) 22 rfl w1.heap.size 49 i0 (.agg #[.int .i64 0, .int .i64 0, .string ⟨#[]⟩, .string ⟨#[]⟩]) 4 48 Try.underlying22 hi0 hz0 hz1 hz2 rfl (by decide) v3 0 (tv4 (ts.take 0)) rfl (HO3.out.alloc _) ⟨w3.heap.size, 0, none⟩ 1 1 (tv t) rfl rfl (cell_new4 _ _ _ _ _ _) (by intro u hu; simp [tv] at hu; rcases hu with rfl | rfl | rfl | rfl <;> rfl) (by unfold maxLen; omega) (by omega) (by simp; omega) ?_)
          intro v4 w4 own4 gr4 _
          have HW4 := Lib.hid ((HW3.out.alloc hw3 (.cells #[.int .i64 t.1, .int .i64 t.2.1, .string t.2.2.1, .string t.2.2.2] 49)).grown gr4 (by simp; omega) (fun kk hk => (HO3.out.lt kk hk).1))
          rw [tv4_snoc] at own4
          have HO4 := Lib.hid own4
          have hw4 := HW4.out.size
          clear own4 gr4 HX3 HO3 HW3 hw3 x0 x1 x2 x3 x4
          go_wp2_with (at_builtin; generalize hG : wpList _ _ _ _ _ _ = G)
          rw [← hG]
          clear hG
          refine wpList_append_any rfl (.tmp 30) (.tmp 33) 22 rfl w1.heap.size 49 i0 (.agg #[.int .i64 0, .int .i64 0, .string ⟨#[]⟩, .string ⟨#[]⟩]) 4 48 Try.underlying22 hi0 hz0 hz1 hz2 rfl (by decide) v4 (0 + 1) (tv4 (ts.take 0 ++ [t])) rfl HO4.out none _ _ (tv4 []) rfl (by first | exact (fun _ => rfl) | (intro h; cases h) | (intro _; omega)) (by simp [tv4]) (by intro y _ j u hj; simp [tv4] at hj) (tv4_one _) (by unfold maxLen; omega) (by omega) hw4 ?_
          intro v6 w6 own6 b6
          rw [tv4_app] at own6
          have HW6 := Lib.hid (HB.out.trans ((HW4.out.trans b6).mono HB.out.size))
          obtain ⟨a6, c6, rfl, hse⟩ := own_st own6 (by rw [List.length_append, List.length_append, List.length_take, List.length_singleton, List.length_nil]; have := HL.out; omega)
          have HSE := Lib.hid hse
          clear own6 b6 hse
          go_wp2
          go_ret
          exact ⟨a6, _, c6, rfl, by rw [HPUT.out]; rw [HDR.out]; exact HSE.out, HW6.out⟩
      | some y =>
      have hkn : n ≤ n := Nat.le_refl _
      by_cases hc : cap = n
      · obtain rfl : n = cap := by omega
        go_wp2_with (at_builtin; refine wpList_append_any rfl (.tmp 21) (.tmp 24) 22 rfl w1.heap.size 49 i0 (.agg #[.int .i64 0, .int .i64 0, .string ⟨#[]⟩, .string ⟨#[]⟩]) 4 48 Try.underlying22 hi0 hz0 hz1 hz2 rfl (by decide) (.slice none 0 0) 0 (tv4 []) rfl (World.ownsRow_nil _ _ _ _) (some y) n n (tv4 (ts.take n)) rfl (by intro h; cases h) (HNL.out n hkn) (fun y hy => HNT.out _ (HB.out.trans (HW2.out.mono HB.out.size)) n hkn y hy) (tv4_one _) (by unfold maxLen; omega) (by omega) HW2.out.size ?_)
        intro v3 w3 own3 b3
        rw [tv4_app, List.nil_append] at own3
        have HO3 := Lib.hid own3
        have HW3 := Lib.hid (HW2.out.trans b3)
        have hw3 := HW3.out.size
        have HX3 := Lib.hid (HX.out.below HW3.out)
        clear own3 b3
        obtain ⟨x0, x1, x2, x3, x4⟩ := HX3.out
        go_wp2_with (at_builtin; refine wpList_append_own _ rfl (.tmp 26) (.tmp 28) 22 rfl w1.heap.size 49 i0 (.agg #[.int .i64 0, .int .i64 0, .string ⟨#[]⟩, .string ⟨#[]⟩]) 4 48 Try.underlying22 hi0 hz0 hz1 hz2 rfl (by decide) v3 n (tv4 (ts.take n)) rfl (HO3.out.alloc _) ⟨w3.heap.size, 0, none⟩ 1 1 (tv t) rfl rfl (cell_new4 _ _ _ _ _ _) (by intro u hu; simp [tv] at hu; rcases hu with rfl | rfl | rfl | rfl <;> rfl) (by unfold maxLen; omega) (by omega) (by simp; omega) ?_)
        intro v4 w4 own4 gr4 _
        have HW4 := Lib.hid ((HW3.out.alloc hw3 (.cells #[.int .i64 t.1, .int .i64 t.2.1, .string t.2.2.1, .string t.2.2.2] 49)).grown gr4 (by simp; omega) (fun kk hk => (HO3.out.lt kk hk).1))
        rw [tv4_snoc] at own4
        have HO4 := Lib.hid own4
        have hw4 := HW4.out.size
        clear own4 gr4 HX3 HO3 HW3 hw3 x0 x1 x2 x3 x4
        go_wp2_with (at_builtin; generalize hG : wpList _ _ _ _ _ _ = G)
        rw [← hG]
        clear hG
        refine wpList_append_any rfl (.tmp 30) (.tmp 33) 22 rfl w1.heap.size 49 i0 (.agg #[.int .i64 0, .int .i64 0, .string ⟨#[]⟩, .string ⟨#[]⟩]) 4 48 Try.underlying22 hi0 hz0 hz1 hz2 rfl (by decide) v4 (n + 1) (tv4 (ts.take n ++ [t])) rfl HO4.out (some y) _ _ (tv4 []) rfl (by first | exact (fun _ => rfl) | (intro h; cases h) | (intro _; omega)) (by simp [tv4]) (by intro y _ j u hj; simp [tv4] at hj) (tv4_one _) (by unfold maxLen; omega) (by omega) hw4 ?_
        intro v6 w6 own6 b6
        rw [tv4_app] at own6
        have HW6 := Lib.hid (HB.out.trans ((HW4.out.trans b6).mono HB.out.size))
        obtain ⟨a6, c6, rfl, hse⟩ := own_st own6 (by rw [List.length_append, List.length_append, List.length_take, List.length_singleton, List.length_nil]; have := HL.out; omega)
        have HSE := Lib.hid hse
        clear own6 b6 hse
        go_wp2
        go_ret
        exact ⟨a6, _, c6, rfl, by rw [HPUT.out]; rw [HDR.out]; exact HSE.out, HW6.out⟩
      · have hc1 : n < cap := by omega
        have hc2 : (n : Int) < (cap : Int) := by omega
        go_wp2_with (at_builtin; refine wpList_append_any rfl (.tmp 21) (.tmp 24) 22 rfl w1.heap.size 49 i0 (.agg #[.int .i64 0, .int .i64 0, .string ⟨#[]⟩, .string ⟨#[]⟩]) 4 48 Try.underlying22 hi0 hz0 hz1 hz2 rfl (by decide) (.slice none 0 0) 0 (tv4 []) rfl (World.ownsRow_nil _ _ _ _) (some y) n cap (tv4 (ts.take n)) rfl (by intro h; cases h) (HNL.out n hkn) (fun y hy => HNT.out _ (HB.out.trans (HW2.out.mono HB.out.size)) n hkn y hy) (tv4_one _) (by unfold maxLen; omega) (by omega) HW2.out.size ?_)
        intro v3 w3 own3 b3
        rw [tv4_app, List.nil_append] at own3
        have HO3 := Lib.hid own3
        have HW3 := Lib.hid (HW2.out.trans b3)
        have hw3 := HW3.out.size
        have HX3 := Lib.hid (HX.out.below HW3.out)
        clear own3 b3
        obtain ⟨x0, x1, x2, x3, x4⟩ := HX3.out
        go_wp2_with (at_builtin; refine wpList_append_own _ rfl (.tmp 26) (.tmp 28) 22 rfl w1.heap.size 49 i0 (.agg #[.int .i64 0, .int .i64 0, .string ⟨#[]⟩, .string ⟨#[]⟩]) 4 48 Try.underlying22 hi0 hz0 hz1 hz2 rfl (by decide) v3 n (tv4 (ts.take n)) rfl (HO3.out.alloc _) ⟨w3.heap.size, 0, none⟩ 1 1 (tv t) rfl rfl (cell_new4 _ _ _ _ _ _) (by intro u hu; simp [tv] at hu; rcases hu with rfl | rfl | rfl | rfl <;> rfl) (by unfold maxLen; omega) (by omega) (by simp; omega) ?_)
        intro v4 w4 own4 gr4 _
        have HW4 := Lib.hid ((HW3.out.alloc hw3 (.cells #[.int .i64 t.1, .int .i64 t.2.1, .string t.2.2.1, .string t.2.2.2] 49)).grown gr4 (by simp; omega) (fun kk hk => (HO3.out.lt kk hk).1))
        rw [tv4_snoc] at own4
        have HO4 := Lib.hid own4
        have hw4 := HW4.out.size
        clear own4 gr4 HX3 HO3 HW3 hw3 x0 x1 x2 x3 x4
        go_wp2_with (at_builtin; generalize hG : wpList _ _ _ _ _ _ = G)
        rw [← hG]
        clear hG
        refine wpList_append_any rfl (.tmp 30) (.tmp 33) 22 rfl w1.heap.size 49 i0 (.agg #[.int .i64 0, .int .i64 0, .string ⟨#[]⟩, .string ⟨#[]⟩]) 4 48 Try.underlying22 hi0 hz0 hz1 hz2 rfl (by decide) v4 (n + 1) (tv4 (ts.take n ++ [t])) rfl HO4.out _ _ _ (tv4 []) rfl (by first | exact (fun _ => rfl) | (intro h; cases h) | (intro _; omega)) (by simp [tv4]) (by intro y _ j u hj; simp [tv4] at hj) (tv4_one _) (by unfold maxLen; omega) (by omega) hw4 ?_
        intro v6 w6 own6 b6
        rw [tv4_app] at own6
        have HW6 := Lib.hid (HB.out.trans ((HW4.out.trans b6).mono HB.out.size))
        obtain ⟨a6, c6, rfl, hse⟩ := own_st own6 (by rw [List.length_append, List.length_append, List.length_take, List.length_singleton, List.length_nil]; have := HL.out; omega)
        have HSE := Lib.hid hse
        clear own6 b6 hse
        go_wp2
        go_ret
        exact ⟨a6, _, c6, rfl, by rw [HPUT.out]; rw [HDR.out]; exact HSE.out, HW6.out⟩
end Go.Proofs.Ytkpemlgolpihiaa
