/-
  Layer 10 (table), the walk of the law TableParts. Conditions: texts within the reach.
-/
import Derived.Test.YtobhjmkaamjoeaaQ6
import Derived.Laws.Cover1
namespace Go.Proofs.Ytobhjmkaamjoeaa
set_option maxRecDepth 100000
open Go.RowKit
set_option linter.unusedVariables false
set_option linter.unusedSimpArgs false

theorem has_left {lo hi key k : ByteArray} (h1 : lo.size ≤ 64) (h2 : hi.size ≤ 64) (hk : keyB key = true) (h3 : ltB lo key = true) (h4 : aheadB key hi = true) (h : ltB k key = true) : hasB lo key k = hasB lo hi k ∧ hasB key hi k = false := by
  have hks : key.size ≤ 64 := by unfold keyB at hk; simp only [Bool.and_eq_true, decide_eq_true_eq] at hk; exact hk.2
  have e1 : aheadB lo key = true := aheadB_iff.2 (.inr h3)
  have e2 : aheadB k key = true := aheadB_iff.2 (.inr h)
  have e3 : aheadB k hi = true := (aheadB_iff.1 h4).elim (fun h5 => aheadB_iff.2 (.inl h5)) (fun h5 => aheadB_iff.2 (.inr (ltB_trans h h5)))
  have e4 : aheadB lo hi = true := (aheadB_iff.1 h4).elim (fun h5 => aheadB_iff.2 (.inl h5)) (fun h5 => aheadB_iff.2 (.inr (ltB_trans h3 h5)))
  unfold hasB mayB
  simp [h1, h2, hks, e1, e2, e3, e4, h]
theorem has_right {lo hi key k : ByteArray} (h1 : lo.size ≤ 64) (h2 : hi.size ≤ 64) (hk : keyB key = true) (h3 : ltB lo key = true) (h4 : aheadB key hi = true) (h : ltB k key = false) : hasB lo key k = false ∧ hasB key hi k = hasB lo hi k := by
  have hks : key.size ≤ 64 := by unfold keyB at hk; simp only [Bool.and_eq_true, decide_eq_true_eq] at hk; exact hk.2
  have hke : emB key = false := by
    cases he : emB key with
    | false => rfl
    | true => rw [emB_iff.1 he] at hk; revert hk; decide
  have e1 : aheadB lo key = true := aheadB_iff.2 (.inr h3)
  have e2 : aheadB k key = false := by unfold aheadB; rw [hke, h]; rfl
  have e3 : ltB k lo = false := by
    cases hb : ltB k lo with
    | false => rfl
    | true => rw [ltB_trans hb h3] at h; cases h
  have e4 : aheadB lo hi = true := (aheadB_iff.1 h4).elim (fun h5 => aheadB_iff.2 (.inl h5)) (fun h5 => aheadB_iff.2 (.inr (ltB_trans h3 h5)))
  unfold hasB mayB
  simp [h1, h2, hks, e1, e2, e3, e4, h, h4]
theorem clip_parts {lo hi key : ByteArray} (h1 : lo.size ≤ 64) (h2 : hi.size ≤ 64) (hk : keyB key = true) (h3 : ltB lo key = true) (h4 : aheadB key hi = true) : ∀ {ms : List Ent} {p : Ent}, chainE p ms = true → clipL lo key ms ++ clipL key hi ms = clipL lo hi ms
  | [], _, _ => rfl
  | x :: l, p, hc => by
    have hl : chainE x l = true := by
      have := chain_drop 0 (by simp) hc
      simpa using this
    have ih := clip_parts h1 h2 hk h3 h4 hl
    unfold clipL at ih ⊢
    cases hx : ltB x.1 key with
    | true =>
      obtain ⟨a1, a2⟩ := has_left h1 h2 hk h3 h4 hx
      rw [List.filter_cons, List.filter_cons, List.filter_cons, a1, a2]
      cases hasB lo hi x.1 with
      | true => simpa using ih
      | false => simpa using ih
    | false =>
      obtain ⟨a1, a2⟩ := has_right h1 h2 hk h3 h4 hx
      have hnil : List.filter (fun e : Ent => hasB lo key e.1) l = [] := by
        rw [List.filter_eq_nil_iff]
        intro e he
        have := less_le (chain_ahead hl e he)
        rw [(has_right h1 h2 hk h3 h4 (le_le hx this)).1]
        simp
      rw [List.filter_cons, List.filter_cons, List.filter_cons, a1, a2]
      rw [hnil] at ih ⊢
      cases hasB lo hi x.1 with
      | true => simpa using ih
      | false => simpa using ih
theorem clip_all {ms : List Ent} (h : okB ms = true) : clipL ⟨#[]⟩ ⟨#[]⟩ ms = ms := by
  unfold clipL
  rw [List.filter_eq_self]
  intro e he
  have hm := chain_may (okB_iff.1 h).2 e he
  obtain ⟨k, v, g, q⟩ := e
  have hk := (may_iff.1 hm).1
  refine hasB_iff.2 ⟨?_, hk, not_lt_em (emB_iff.2 rfl), aheadB_iff.2 (.inl (emB_iff.2 rfl))⟩
  unfold mayB
  rw [aheadB_iff.2 (.inl (emB_iff.2 rfl))]
  decide
/-- The span's box. -/
def SpB (w : World) (x : Nat) (lo hi : ByteArray) : Prop := w.cell? ⟨x, 0, none⟩ = some (.string lo) ∧ w.cell? ⟨x, 1, none⟩ = some (.string hi) ∧ x < w.heap.size
theorem SpB.old {w w' : World} {x : Nat} {lo hi : ByteArray} (h : SpB w x lo hi) (hb : Below w.heap.size w w') : SpB w' x lo hi :=
  ⟨(hb.cell (p := ⟨x, 0, none⟩) h.2.2).trans h.1, (hb.cell (p := ⟨x, 1, none⟩) h.2.2).trans h.2.1, Nat.lt_of_lt_of_le h.2.2 hb.size⟩
set_option maxHeartbeats 16000000 in
theorem walk_TableParts (a : Option Addr) (cap : Nat) (es : List Ent) (lo hi : ByteArray) (ho1 : okS lo) (ho2 : okS hi) (key : ByteArray) (hkey : key.size ≤ 140737488351232) (w : World) (h : RdE w a es) (hok : okV es) (hl : es.length ≤ maxLen) :
    Calls Try.prog 8 #[.slice a es.length cap, .agg #[.string lo, .string hi], .string key] w fun e w' => e = .returned (.bool true) ∧ Below w.heap.size w w' := by
  obtain ⟨i0, hi0, hz0, hz1, hz2⟩ := info_parts Try.infoEnt9
  unfold maxLen at hl
  obtain ⟨n, hn⟩ : ∃ n, es.length = n := ⟨_, rfl⟩
  rw [hn] at hl ⊢
  have hW0 : Below w.heap.size w (w.alloc (.cells #[.string lo, .string hi] 24)) := (Below.refl _ w).alloc (Nat.le_refl _) _
  have HX : Hid (SpB (w.alloc (.cells #[.string lo, .string hi] 24)) w.heap.size lo hi) := Lib.hid ⟨by rw [Lib.cell_of_heap (al_new w _ _ rfl)]; rfl, by rw [Lib.cell_of_heap (al_new w _ _ rfl)]; rfl, by simp⟩
  have HLi := Lib.hid fun r hr => light_any a n cap es _ (by omega) hn (h.old hW0) hok r hr
  have HA := Lib.hid fun w => awakeT_any w
  have HW0 := Lib.hid hW0
  have hok2 : okS key := by unfold okS; omega
  clear hW0
  have ho1' := ho1
  have ho2' := ho2
  unfold okS at ho1' ho2'
  have ho1i : (lo.size : Int) ≤ 9223372036854775807 := by omega
  have ho2i : (hi.size : Int) ≤ 9223372036854775807 := by omega
  have hkyi : (key.size : Int) ≤ 140737488351232 := by omega
  cases hb : liteB es with
  | false =>
    have HL0 := Lib.hid (HLi.out false hb)
    clear HLi h hok hb hn
    go_enter Try.func8, Try.ntmps8
    go_wp2_with fail
    refine HL0.out.mono ?_
    rintro e w1 ⟨rfl, b1⟩
    have HW1 := Lib.hid (HW0.out.trans (b1.mono HW0.out.size))
    obtain ⟨c0, c1, c2⟩ := HX.out.old b1
    clear b1
    go_wp2_with fail
    refine (HA.out _).mono ?_
    rintro e w2 ⟨rfl, b2⟩
    have HW2 := Lib.hid (HW1.out.trans (b2.mono HW1.out.size))
    clear b2 c0 c1 c2
    go_wp2
    go_ret
    exact ⟨rfl, HW2.out⟩
  | true =>
    by_cases hs1 : lo.size ≤ 64
    case neg =>
      have hs1i : (64 : Int) < (lo.size : Int) := by omega
      have HL0 := Lib.hid (HLi.out true hb)
      clear HLi h hok hb hn
      go_enter Try.func8, Try.ntmps8
      go_wp2_with fail
      refine HL0.out.mono ?_
      rintro e w1 ⟨rfl, b1⟩
      have HW1 := Lib.hid (HW0.out.trans (b1.mono HW0.out.size))
      obtain ⟨c0, c1, c2⟩ := HX.out.old b1
      clear b1
      go_wp2_with fail
      refine (HA.out _).mono ?_
      rintro e w2 ⟨rfl, b2⟩
      have HW2 := Lib.hid (HW1.out.trans (b2.mono HW1.out.size))
      clear b2 c0 c1 c2
      go_wp2
      go_ret
      exact ⟨rfl, HW2.out⟩
    have hs1i : (lo.size : Int) ≤ 64 := by omega
    by_cases hs2 : hi.size ≤ 64
    case neg =>
      have hs2i : (64 : Int) < (hi.size : Int) := by omega
      have HL0 := Lib.hid (HLi.out true hb)
      clear HLi h hok hb hn
      go_enter Try.func8, Try.ntmps8
      go_wp2_with fail
      refine HL0.out.mono ?_
      rintro e w1 ⟨rfl, b1⟩
      have HW1 := Lib.hid (HW0.out.trans (b1.mono HW0.out.size))
      obtain ⟨c0, c1, c2⟩ := HX.out.old b1
      clear b1
      go_wp2_with fail
      refine (HA.out _).mono ?_
      rintro e w2 ⟨rfl, b2⟩
      have HW2 := Lib.hid (HW1.out.trans (b2.mono HW1.out.size))
      clear b2 c0 c1 c2
      go_wp2
      go_ret
      exact ⟨rfl, HW2.out⟩
    have hs2i : (hi.size : Int) ≤ 64 := by omega
    by_cases hk1 : 1 ≤ key.size
    case neg =>
      have hk1i : (key.size : Int) < 1 := by omega
      have HL0 := Lib.hid (HLi.out true hb)
      clear HLi h hok hb hn
      go_enter Try.func8, Try.ntmps8
      go_wp2_with fail
      refine HL0.out.mono ?_
      rintro e w1 ⟨rfl, b1⟩
      have HW1 := Lib.hid (HW0.out.trans (b1.mono HW0.out.size))
      obtain ⟨c0, c1, c2⟩ := HX.out.old b1
      clear b1
      go_wp2_with fail
      refine (HA.out _).mono ?_
      rintro e w2 ⟨rfl, b2⟩
      have HW2 := Lib.hid (HW1.out.trans (b2.mono HW1.out.size))
      clear b2 c0 c1 c2
      go_wp2
      go_ret
      exact ⟨rfl, HW2.out⟩
    have hk1i : (1 : Int) ≤ (key.size : Int) := by omega
    by_cases hk2 : key.size ≤ 64
    case neg =>
      have hk2i : (64 : Int) < (key.size : Int) := by omega
      have HL0 := Lib.hid (HLi.out true hb)
      clear HLi h hok hb hn
      go_enter Try.func8, Try.ntmps8
      go_wp2_with fail
      refine HL0.out.mono ?_
      rintro e w1 ⟨rfl, b1⟩
      have HW1 := Lib.hid (HW0.out.trans (b1.mono HW0.out.size))
      obtain ⟨c0, c1, c2⟩ := HX.out.old b1
      clear b1
      go_wp2_with fail
      refine (HA.out _).mono ?_
      rintro e w2 ⟨rfl, b2⟩
      have HW2 := Lib.hid (HW1.out.trans (b2.mono HW1.out.size))
      clear b2 c0 c1 c2
      go_wp2
      go_ret
      exact ⟨rfl, HW2.out⟩
    have hk2i : (key.size : Int) ≤ 64 := by omega
    have hkb : keyB key = true := by unfold keyB; simp; omega
    have HL0 := Lib.hid (HLi.out true hb)
    have hn80 : n ≤ 80 := by have := (lite_yes hb).1; omega
    have HO := Lib.hid fun w h => opened_any a n cap es w hn80 hn h hok
    have HR := Lib.hid h
    obtain ⟨ms, hms⟩ : ∃ ms, ms = madeT es := ⟨_, rfl⟩
    have hmk := madeT_ok es (by omega)
    rw [← hms] at HO hmk
    have HMK := Lib.hid hmk
    clear HLi h hok hb hn hms hmk
    go_enter Try.func8, Try.ntmps8
    go_wp2_with fail
    refine HL0.out.mono ?_
    rintro e w1 ⟨rfl, b1⟩
    have HW1 := Lib.hid (HW0.out.trans (b1.mono HW0.out.size))
    have HX1 := Lib.hid (HX.out.old b1)
    obtain ⟨x0, x1, x2⟩ := HX1.out
    clear b1 HW0 HX
    go_wp2_with fail
    refine (HO.out _ (HR.out.old HW1.out)).mono ?_
    rintro e w2 ⟨b2, d, m, c, s2, h2⟩
    have HW2 := Lib.hid (HW1.out.trans (b2.mono HW1.out.size))
    have HX2 := Lib.hid (HX1.out.old b2)
    have HS2 := Lib.hid s2
    clear b2 HW1 HO HR HL0 x0 x1 x2 HX1
    rcases h2 with ⟨h2, rfl⟩ | ⟨hm0, T, rfl, ht⟩
    · go_wp2_with fail
      refine (HA.out _).mono ?_
      rintro e w3 ⟨rfl, b3⟩
      have HW3 := Lib.hid (HW2.out.trans (b3.mono HW2.out.size))
      go_wp2
      go_ret
      exact ⟨rfl, HW3.out⟩
    · have HT2 : Hid (TP w2 (.pointer (some ⟨T, 0, none⟩)) ms true) := Lib.hid (.inl ⟨rfl, T, rfl, ht⟩)
      have hml : ms.length = m := s2.1
      have hm80 : m ≤ 80 := by have := HMK.out.2; omega
      have HML := Lib.hid hml
      obtain ⟨x0, x1, x2⟩ := HX2.out
      clear s2 ht hml
      by_cases hie : hi = ⟨#[]⟩
      · have hah : aheadB key hi = true := aheadB_iff.2 (.inl (emB_iff.2 hie))
        have hie2 : hi.toList = [] := by have h := emB_iff.2 hie; unfold emB at h; exact List.isEmpty_iff.1 h
        have hie1 : (hi.toList == []) = true := by rw [hie2]; rfl
        clear hie
        cases hlt : ltB key lo with
        | true =>
          have hkl : Op.bytesLess key.toList lo.toList = true := hlt
          go_wp2_with fail
          refine (trange_at _ ms true _ _ (by unfold okS; decide) (by unfold okS; decide) m ms (clip_all HMK.out.1) HML.out _ HT2.out).mono ?_
          rintro e w3 ⟨a3, c3, rfl, hr3, b3⟩
          have HW3 := Lib.hid (HW2.out.trans (b3.mono HW2.out.size))
          have HR3 := Lib.hid hr3
          have HS3 := Lib.hid (HS2.out.old b3)
          clear b3 hr3 x0 x1 x2
          go_wp2_with fail
          refine (samee_any a3 d m c3 c ms _ HR3.out HS3.out.2.1 (by omega) HML.out).mono ?_
          rintro e w4 ⟨rfl, b4⟩
          have HW4 := Lib.hid (HW3.out.trans (b4.mono HW3.out.size))
          clear b4
          go_wp2_with fail
          refine (HA.out _).mono ?_
          rintro e w5 ⟨rfl, b5⟩
          have HW5 := Lib.hid (HW4.out.trans (b5.mono HW4.out.size))
          go_wp2
          go_ret
          exact ⟨rfl, HW5.out⟩
        | false =>
          have hkl : Op.bytesLess key.toList lo.toList = false := hlt
          by_cases hkq : key = lo
          · have hkq2 : (key.toList == lo.toList) = true := by rw [hkq]; simp
            clear hkq
            go_wp2_with fail
            refine (trange_at _ ms true _ _ (by unfold okS; decide) (by unfold okS; decide) m ms (clip_all HMK.out.1) HML.out _ HT2.out).mono ?_
            rintro e w3 ⟨a3, c3, rfl, hr3, b3⟩
            have HW3 := Lib.hid (HW2.out.trans (b3.mono HW2.out.size))
            have HR3 := Lib.hid hr3
            have HS3 := Lib.hid (HS2.out.old b3)
            clear b3 hr3 x0 x1 x2
            go_wp2_with fail
            refine (samee_any a3 d m c3 c ms _ HR3.out HS3.out.2.1 (by omega) HML.out).mono ?_
            rintro e w4 ⟨rfl, b4⟩
            have HW4 := Lib.hid (HW3.out.trans (b4.mono HW3.out.size))
            clear b4
            go_wp2_with fail
            refine (HA.out _).mono ?_
            rintro e w5 ⟨rfl, b5⟩
            have HW5 := Lib.hid (HW4.out.trans (b5.mono HW4.out.size))
            go_wp2
            go_ret
            exact ⟨rfl, HW5.out⟩
          · have hkq2 : (key.toList == lo.toList) = false := by rw [beq_eq_false_iff_ne]; exact fun h => hkq (ba_ext h)
            have hlk : ltB lo key = true := by
              cases h : ltB lo key with
              | true => rfl
              | false => exact absurd (ltB_total hlt h) hkq
            have HCP : Hid (clipL lo key ms ++ clipL key hi ms = clipL lo hi ms) := Lib.hid (clip_parts hs1 hs2 hkb hlk hah (okB_iff.1 HMK.out.1).2)
            obtain ⟨n1, hn1⟩ : ∃ n1, n1 = (clipL lo key ms).length := ⟨_, rfl⟩
            obtain ⟨n2, hn2⟩ : ∃ n2, n2 = (clipL key hi ms).length := ⟨_, rfl⟩
            have hn3 : (clipL lo hi ms).length = n1 + n2 := by rw [hn1, hn2, ← List.length_append, HCP.out]
            have hl1 := clip_le lo key ms
            have hl2 := clip_le key hi ms
            rw [← hn1, HML.out] at hl1
            rw [← hn2, HML.out] at hl2
            have HNN := Lib.hid (And.intro hn1 (And.intro hn2 hn3))
            clear hn1 hn2 hn3 hlk hah
            go_wp2_with fail
            refine (trange_at _ ms true lo key ho1 hok2 n1 _ rfl HNN.out.1.symm _ HT2.out).mono ?_
            rintro e w3 ⟨a3, c3, rfl, hr3, b3⟩
            have HW3 := Lib.hid (HW2.out.trans (b3.mono HW2.out.size))
            have HR3 := Lib.hid hr3
            have HT3 := Lib.hid (HT2.out.old b3)
            have HX3 := Lib.hid (HX2.out.old b3)
            clear b3 hr3 x0 x1 x2
            obtain ⟨x0, x1, x2⟩ := HX3.out
            go_wp2_with fail
            refine (trange_at _ ms true key hi hok2 ho2 n2 _ rfl HNN.out.2.1.symm _ HT3.out).mono ?_
            rintro e w4 ⟨a4, c4, rfl, hr4, b4⟩
            have HW4 := Lib.hid (HW3.out.trans (b4.mono HW3.out.size))
            have HR4 := Lib.hid (HR3.out.old b4)
            have HQ4 := Lib.hid hr4
            have HT4 := Lib.hid (HT3.out.old b4)
            have HX4 := Lib.hid (HX3.out.old b4)
            clear b4 hr4 x0 x1 x2 HR3
            have HE1 : Hid ((ev4 (clipL lo key ms)).length = n1 * 4) := Lib.hid (by rw [ev4_length, ← HNN.out.1])
            have HE2 : Hid ((ev4 (clipL key hi ms)).length = n2 * 4) := Lib.hid (by rw [ev4_length, ← HNN.out.2.1])
            obtain ⟨x0, x1, x2⟩ := HX4.out
            go_wp2_with (at_builtin; refine wpList_append_any rfl (.tmp 98) (.tmp 99) 22 rfl w4.heap.size 32 i0 (.agg #[.string ⟨#[]⟩, .string ⟨#[]⟩, .bool false, .int .i64 0]) 4 48 Try.underlying22 hi0 hz0 hz1 hz2 rfl (by decide) (.slice none 0 0) 0 [] rfl (World.ownsRow_nil _ _ _ _) a3 n1 c3 (ev4 (clipL lo key ms)) rfl (fun h => by have h1 := HR4.out; rw [h] at h1; rw [HNN.out.1, h1.none]; rfl) HE1.out (fun y hy => HR4.out.news y hy) (ev4_one _) (by unfold maxLen; omega) (by omega) (Nat.le_refl _) ?_)
            intro v5 w5 own5 b5
            have HO5 := Lib.hid own5
            have HQ5 := Lib.hid (HQ4.out.old b5)
            have HB5 := Lib.hid b5
            have hs5 := b5.size
            clear own5 b5 HR4 HQ4 x0 x1 x2
            obtain ⟨x0, x1, x2⟩ := (HX4.out.old HB5.out)
            go_wp2_with (at_builtin; refine wpList_append_any rfl (.tmp 101) (.tmp 102) 22 rfl w4.heap.size 32 i0 (.agg #[.string ⟨#[]⟩, .string ⟨#[]⟩, .bool false, .int .i64 0]) 4 48 Try.underlying22 hi0 hz0 hz1 hz2 rfl (by decide) v5 _ _ rfl HO5.out a4 n2 c4 (ev4 (clipL key hi ms)) rfl (fun h => by have h1 := HQ5.out; rw [h] at h1; rw [HNN.out.2.1, h1.none]; rfl) HE2.out (fun y hy => HQ5.out.news y hy) (ev4_one _) (by unfold maxLen; omega) (by omega) hs5 ?_)
            intro v6 w6 own6 b6
            obtain ⟨n3, hn3⟩ : ∃ n3, n3 = n1 + n2 := ⟨_, rfl⟩
            have hown6 : w6.ownsRow w4.heap.size 32 4 v6 n3 (ev4 (clipL lo hi ms)) := by
              rw [← HCP.out, ← ev4_app, hn3]
              simpa using own6
            have hl3 : (clipL lo hi ms).length = n3 := by rw [HNN.out.2.2, hn3]
            obtain ⟨a6, c6, rfl, hse⟩ := own_se hown6 hl3
            have B46 := Lib.hid (HB5.out.trans b6)
            have HSE := Lib.hid hse
            have HT6 := Lib.hid (HT4.out.old B46.out)
            have HX6 := Lib.hid (HX4.out.old B46.out)
            have HW6 := Lib.hid (HW4.out.trans (B46.out.mono HW4.out.size))
            have HL3 := Lib.hid hl3
            have hn3m : n3 ≤ 10000 := by omega
            clear x0 x1 x2 own6 b6 hown6 hse hl3 hn3 HT4 HX4 HO5 HQ5 hs5
            obtain ⟨x0, x1, x2⟩ := HX6.out
            go_wp2_with fail
            refine (trange_at _ ms true lo hi ho1 ho2 n3 _ rfl HL3.out _ HT6.out).mono ?_
            rintro e w7 ⟨a7, c7, rfl, hr7, b7⟩
            have HW7 := Lib.hid (HW6.out.trans (b7.mono HW6.out.size))
            have HR7 := Lib.hid hr7
            have HS7 := Lib.hid (HSE.out.old b7)
            clear b7 hr7 x0 x1 x2
            go_wp2_with fail
            refine (samee_any a6 a7 n3 c6 c7 (clipL lo hi ms) _ HS7.out.2.1 HR7.out (by omega) HL3.out).mono ?_
            rintro e w8 ⟨rfl, b8⟩
            have HW8 := Lib.hid (HW7.out.trans (b8.mono HW7.out.size))
            clear b8
            go_wp2_with fail
            refine (HA.out _).mono ?_
            rintro e w9 ⟨rfl, b9⟩
            have HW9 := Lib.hid (HW8.out.trans (b9.mono HW8.out.size))
            go_wp2
            go_ret
            exact ⟨rfl, HW9.out⟩
      · have hie1 : (hi.toList == []) = false := by
          rw [beq_eq_false_iff_ne]
          intro h
          exact hie (emB_iff.1 (by unfold emB; rw [h]; rfl))
        have hie2 : ¬ hi.toList = [] := fun h => hie (emB_iff.1 (by unfold emB; rw [h]; rfl))
        cases hlh : ltB lo hi with
        | false =>
          have hlh2 : Op.bytesLess lo.toList hi.toList = false := hlh
          go_wp2_with fail
          refine (trange_at _ ms true _ _ (by unfold okS; decide) (by unfold okS; decide) m ms (clip_all HMK.out.1) HML.out _ HT2.out).mono ?_
          rintro e w3 ⟨a3, c3, rfl, hr3, b3⟩
          have HW3 := Lib.hid (HW2.out.trans (b3.mono HW2.out.size))
          have HR3 := Lib.hid hr3
          have HS3 := Lib.hid (HS2.out.old b3)
          clear b3 hr3 x0 x1 x2
          go_wp2_with fail
          refine (samee_any a3 d m c3 c ms _ HR3.out HS3.out.2.1 (by omega) HML.out).mono ?_
          rintro e w4 ⟨rfl, b4⟩
          have HW4 := Lib.hid (HW3.out.trans (b4.mono HW3.out.size))
          clear b4
          go_wp2_with fail
          refine (HA.out _).mono ?_
          rintro e w5 ⟨rfl, b5⟩
          have HW5 := Lib.hid (HW4.out.trans (b5.mono HW4.out.size))
          go_wp2
          go_ret
          exact ⟨rfl, HW5.out⟩
        | true =>
          have hlh2 : Op.bytesLess lo.toList hi.toList = true := hlh
          cases hlt : ltB key lo with
          | true =>
            have hkl : Op.bytesLess key.toList lo.toList = true := hlt
            go_wp2_with fail
            refine (trange_at _ ms true _ _ (by unfold okS; decide) (by unfold okS; decide) m ms (clip_all HMK.out.1) HML.out _ HT2.out).mono ?_
            rintro e w3 ⟨a3, c3, rfl, hr3, b3⟩
            have HW3 := Lib.hid (HW2.out.trans (b3.mono HW2.out.size))
            have HR3 := Lib.hid hr3
            have HS3 := Lib.hid (HS2.out.old b3)
            clear b3 hr3 x0 x1 x2
            go_wp2_with fail
            refine (samee_any a3 d m c3 c ms _ HR3.out HS3.out.2.1 (by omega) HML.out).mono ?_
            rintro e w4 ⟨rfl, b4⟩
            have HW4 := Lib.hid (HW3.out.trans (b4.mono HW3.out.size))
            clear b4
            go_wp2_with fail
            refine (HA.out _).mono ?_
            rintro e w5 ⟨rfl, b5⟩
            have HW5 := Lib.hid (HW4.out.trans (b5.mono HW4.out.size))
            go_wp2
            go_ret
            exact ⟨rfl, HW5.out⟩
          | false =>
            have hkl : Op.bytesLess key.toList lo.toList = false := hlt
            by_cases hkq : key = lo
            · have hkq2 : (key.toList == lo.toList) = true := by rw [hkq]; simp
              clear hkq
              go_wp2_with fail
              refine (trange_at _ ms true _ _ (by unfold okS; decide) (by unfold okS; decide) m ms (clip_all HMK.out.1) HML.out _ HT2.out).mono ?_
              rintro e w3 ⟨a3, c3, rfl, hr3, b3⟩
              have HW3 := Lib.hid (HW2.out.trans (b3.mono HW2.out.size))
              have HR3 := Lib.hid hr3
              have HS3 := Lib.hid (HS2.out.old b3)
              clear b3 hr3 x0 x1 x2
              go_wp2_with fail
              refine (samee_any a3 d m c3 c ms _ HR3.out HS3.out.2.1 (by omega) HML.out).mono ?_
              rintro e w4 ⟨rfl, b4⟩
              have HW4 := Lib.hid (HW3.out.trans (b4.mono HW3.out.size))
              clear b4
              go_wp2_with fail
              refine (HA.out _).mono ?_
              rintro e w5 ⟨rfl, b5⟩
              have HW5 := Lib.hid (HW4.out.trans (b5.mono HW4.out.size))
              go_wp2
              go_ret
              exact ⟨rfl, HW5.out⟩
            · have hkq2 : (key.toList == lo.toList) = false := by rw [beq_eq_false_iff_ne]; exact fun h => hkq (ba_ext h)
              have hlk : ltB lo key = true := by
                cases h : ltB lo key with
                | true => rfl
                | false => exact absurd (ltB_total hlt h) hkq
              cases hkh : ltB key hi with
              | false =>
                have hkh2 : Op.bytesLess key.toList hi.toList = false := hkh
                go_wp2_with fail
                refine (trange_at _ ms true _ _ (by unfold okS; decide) (by unfold okS; decide) m ms (clip_all HMK.out.1) HML.out _ HT2.out).mono ?_
                rintro e w3 ⟨a3, c3, rfl, hr3, b3⟩
                have HW3 := Lib.hid (HW2.out.trans (b3.mono HW2.out.size))
                have HR3 := Lib.hid hr3
                have HS3 := Lib.hid (HS2.out.old b3)
                clear b3 hr3 x0 x1 x2
                go_wp2_with fail
                refine (samee_any a3 d m c3 c ms _ HR3.out HS3.out.2.1 (by omega) HML.out).mono ?_
                rintro e w4 ⟨rfl, b4⟩
                have HW4 := Lib.hid (HW3.out.trans (b4.mono HW3.out.size))
                clear b4
                go_wp2_with fail
                refine (HA.out _).mono ?_
                rintro e w5 ⟨rfl, b5⟩
                have HW5 := Lib.hid (HW4.out.trans (b5.mono HW4.out.size))
                go_wp2
                go_ret
                exact ⟨rfl, HW5.out⟩
              | true =>
                have hkh2 : Op.bytesLess key.toList hi.toList = true := hkh
                have hah : aheadB key hi = true := aheadB_iff.2 (.inr hkh)
                have HCP : Hid (clipL lo key ms ++ clipL key hi ms = clipL lo hi ms) := Lib.hid (clip_parts hs1 hs2 hkb hlk hah (okB_iff.1 HMK.out.1).2)
                obtain ⟨n1, hn1⟩ : ∃ n1, n1 = (clipL lo key ms).length := ⟨_, rfl⟩
                obtain ⟨n2, hn2⟩ : ∃ n2, n2 = (clipL key hi ms).length := ⟨_, rfl⟩
                have hn3 : (clipL lo hi ms).length = n1 + n2 := by rw [hn1, hn2, ← List.length_append, HCP.out]
                have hl1 := clip_le lo key ms
                have hl2 := clip_le key hi ms
                rw [← hn1, HML.out] at hl1
                rw [← hn2, HML.out] at hl2
                have HNN := Lib.hid (And.intro hn1 (And.intro hn2 hn3))
                clear hn1 hn2 hn3 hlk hah
                go_wp2_with fail
                refine (trange_at _ ms true lo key ho1 hok2 n1 _ rfl HNN.out.1.symm _ HT2.out).mono ?_
                rintro e w3 ⟨a3, c3, rfl, hr3, b3⟩
                have HW3 := Lib.hid (HW2.out.trans (b3.mono HW2.out.size))
                have HR3 := Lib.hid hr3
                have HT3 := Lib.hid (HT2.out.old b3)
                have HX3 := Lib.hid (HX2.out.old b3)
                clear b3 hr3 x0 x1 x2
                obtain ⟨x0, x1, x2⟩ := HX3.out
                go_wp2_with fail
                refine (trange_at _ ms true key hi hok2 ho2 n2 _ rfl HNN.out.2.1.symm _ HT3.out).mono ?_
                rintro e w4 ⟨a4, c4, rfl, hr4, b4⟩
                have HW4 := Lib.hid (HW3.out.trans (b4.mono HW3.out.size))
                have HR4 := Lib.hid (HR3.out.old b4)
                have HQ4 := Lib.hid hr4
                have HT4 := Lib.hid (HT3.out.old b4)
                have HX4 := Lib.hid (HX3.out.old b4)
                clear b4 hr4 x0 x1 x2 HR3
                have HE1 : Hid ((ev4 (clipL lo key ms)).length = n1 * 4) := Lib.hid (by rw [ev4_length, ← HNN.out.1])
                have HE2 : Hid ((ev4 (clipL key hi ms)).length = n2 * 4) := Lib.hid (by rw [ev4_length, ← HNN.out.2.1])
                obtain ⟨x0, x1, x2⟩ := HX4.out
                go_wp2_with (at_builtin; refine wpList_append_any rfl (.tmp 98) (.tmp 99) 22 rfl w4.heap.size 32 i0 (.agg #[.string ⟨#[]⟩, .string ⟨#[]⟩, .bool false, .int .i64 0]) 4 48 Try.underlying22 hi0 hz0 hz1 hz2 rfl (by decide) (.slice none 0 0) 0 [] rfl (World.ownsRow_nil _ _ _ _) a3 n1 c3 (ev4 (clipL lo key ms)) rfl (fun h => by have h1 := HR4.out; rw [h] at h1; rw [HNN.out.1, h1.none]; rfl) HE1.out (fun y hy => HR4.out.news y hy) (ev4_one _) (by unfold maxLen; omega) (by omega) (Nat.le_refl _) ?_)
                intro v5 w5 own5 b5
                have HO5 := Lib.hid own5
                have HQ5 := Lib.hid (HQ4.out.old b5)
                have HB5 := Lib.hid b5
                have hs5 := b5.size
                clear own5 b5 HR4 HQ4 x0 x1 x2
                obtain ⟨x0, x1, x2⟩ := (HX4.out.old HB5.out)
                go_wp2_with (at_builtin; refine wpList_append_any rfl (.tmp 101) (.tmp 102) 22 rfl w4.heap.size 32 i0 (.agg #[.string ⟨#[]⟩, .string ⟨#[]⟩, .bool false, .int .i64 0]) 4 48 Try.underlying22 hi0 hz0 hz1 hz2 rfl (by decide) v5 _ _ rfl HO5.out a4 n2 c4 (ev4 (clipL key hi ms)) rfl (fun h => by have h1 := HQ5.out; rw [h] at h1; rw [HNN.out.2.1, h1.none]; rfl) HE2.out (fun y hy => HQ5.out.news y hy) (ev4_one _) (by unfold maxLen; omega) (by omega) hs5 ?_)
                intro v6 w6 own6 b6
                obtain ⟨n3, hn3⟩ : ∃ n3, n3 = n1 + n2 := ⟨_, rfl⟩
                have hown6 : w6.ownsRow w4.heap.size 32 4 v6 n3 (ev4 (clipL lo hi ms)) := by
                  rw [← HCP.out, ← ev4_app, hn3]
                  simpa using own6
                have hl3 : (clipL lo hi ms).length = n3 := by rw [HNN.out.2.2, hn3]
                obtain ⟨a6, c6, rfl, hse⟩ := own_se hown6 hl3
                have B46 := Lib.hid (HB5.out.trans b6)
                have HSE := Lib.hid hse
                have HT6 := Lib.hid (HT4.out.old B46.out)
                have HX6 := Lib.hid (HX4.out.old B46.out)
                have HW6 := Lib.hid (HW4.out.trans (B46.out.mono HW4.out.size))
                have HL3 := Lib.hid hl3
                have hn3m : n3 ≤ 10000 := by omega
                clear x0 x1 x2 own6 b6 hown6 hse hl3 hn3 HT4 HX4 HO5 HQ5 hs5
                obtain ⟨x0, x1, x2⟩ := HX6.out
                go_wp2_with fail
                refine (trange_at _ ms true lo hi ho1 ho2 n3 _ rfl HL3.out _ HT6.out).mono ?_
                rintro e w7 ⟨a7, c7, rfl, hr7, b7⟩
                have HW7 := Lib.hid (HW6.out.trans (b7.mono HW6.out.size))
                have HR7 := Lib.hid hr7
                have HS7 := Lib.hid (HSE.out.old b7)
                clear b7 hr7 x0 x1 x2
                go_wp2_with fail
                refine (samee_any a6 a7 n3 c6 c7 (clipL lo hi ms) _ HS7.out.2.1 HR7.out (by omega) HL3.out).mono ?_
                rintro e w8 ⟨rfl, b8⟩
                have HW8 := Lib.hid (HW7.out.trans (b8.mono HW7.out.size))
                clear b8
                go_wp2_with fail
                refine (HA.out _).mono ?_
                rintro e w9 ⟨rfl, b9⟩
                have HW9 := Lib.hid (HW8.out.trans (b9.mono HW8.out.size))
                go_wp2
                go_ret
                exact ⟨rfl, HW9.out⟩
end Go.Proofs.Ytobhjmkaamjoeaa
