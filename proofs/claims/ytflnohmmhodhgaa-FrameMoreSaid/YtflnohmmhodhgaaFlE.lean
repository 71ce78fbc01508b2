/-
  Layer 3 (frame): the walk of the law FrameMore. Conditions: the slices and the text within the form's reach.
-/
import Derived.Test.YtflnohmmhodhgaaFlB
import Derived.Test.YtflnohmmhodhgaaAp
namespace Go.Proofs.Ytflnohmmhodhgaa
open Go.RowKit

set_option maxRecDepth 100000 in
set_option maxHeartbeats 1000000 in
theorem more_bad (a b : Option Addr) (ca cb n m : Nat) (ts us : List (List UInt8)) (s : ByteArray) (w : World) (ha : Rd w a ts) (hb : Rd w b us) (hn : ts.length < 9223372036854775808) (hm : us.length < 9223372036854775808)
    (hl : ts.length = n) (hk : us.length = m) (h : ¬ (good ts ∧ good us) ∨ 300 < s.size) :
    Calls Try.prog 8 #[.slice a n ca, .slice b m cb, .string s] w fun e w' => e = .returned (.bool true) ∧ Below w.heap.size w w' := by
  have h1 := alls_any a ca ts w ha hn
  have h2 := fun w h => alls_any b cb us w h hm
  rw [hl] at h1
  rw [hk] at h2
  have H1 := Lib.hid h1
  have H2 := Lib.hid h2
  have HB := Lib.hid hb
  have HH := Lib.hid h
  clear h1 h2 ha hb hn hm hl hk h
  go_enter Try.func8, Try.ntmps8
  go_wp2_with fail
  refine H1.out.mono ?_
  rintro e w1 ⟨b1, ⟨g1, rfl⟩ | ⟨g1, a1, c1, rfl, _⟩⟩
  · go_wp2_with fail
    refine (H2.out _ (HB.out.old b1)).mono ?_
    rintro e w2 ⟨b2, ⟨_, rfl⟩ | ⟨_, a2, c2, rfl, _⟩⟩
    all_goals
      go_wp2_with fail
      refine (awake_any _).mono ?_
      rintro e w3 ⟨rfl, b3⟩
      go_wp2
      go_ret
      exact ⟨rfl, bt (bt b1 b2) b3⟩
  · go_wp2_with fail
    refine (H2.out _ (HB.out.old b1)).mono ?_
    rintro e w2 ⟨b2, ⟨g2, rfl⟩ | ⟨g2, a2, c2, rfl, _⟩⟩
    · go_wp2_with fail
      refine (awake_any _).mono ?_
      rintro e w3 ⟨rfl, b3⟩
      go_wp2
      go_ret
      exact ⟨rfl, bt (bt b1 b2) b3⟩
    · have h300 : 300 < s.size := by
        rcases HH.out with h | h
        · exact absurd ⟨g1, g2⟩ h
        · exact h
      have h300' : (300 : Int) < (s.size : Int) := by omega
      go_wp2_with fail
      refine (awake_any _).mono ?_
      rintro e w3 ⟨rfl, b3⟩
      go_wp2
      go_ret
      exact ⟨rfl, bt (bt b1 b2) b3⟩

set_option maxRecDepth 100000 in
set_option maxHeartbeats 2000000 in
theorem more_good (a b : Option Addr) (ca cb n m : Nat) (ts us : List (List UInt8)) (s : ByteArray) (w : World) (ha : Rd w a ts) (hb : Rd w b us)
    (hl : ts.length = n) (hk : us.length = m) (g1 : good ts) (g2 : good us) (hs : s.size ≤ 300) :
    Calls Try.prog 8 #[.slice a n ca, .slice b m cb, .string s] w fun e w' => e = .returned (.bool true) ∧ Below w.heap.size w w' := by
  obtain ⟨i0, hi, hz0, hz1, hz2⟩ := info_parts Try.infoStr
  have hn12 : n ≤ 12 := by have := g1.1; omega
  have hm12 : m ≤ 12 := by have := g2.1; omega
  have h1 := alls_any a ca ts w ha (by omega)
  have h2 := fun w h => alls_any b cb us w h (by omega)
  rw [hl] at h1
  rw [hk] at h2
  have hsm1 := frs_small g1
  have hsm2 := frs_small g2
  have hfa1 := fa_frs ts (frs us) (good_le g1)
  have hfa2 := fa_frs us [] (good_le g2)
  have hfa0 : fa [] = ([], 0) := fa_no (by decide +kernel)
  rw [List.append_nil, hfa0] at hfa2
  rw [hfa2] at hfa1
  have hfa3 := fa_frs ts s.data.toList (good_le g1)
  have hfl := fa_len s.data.toList.length s.data.toList (Nat.le_refl _)
  rw [size_list] at hfl
  obtain ⟨S, hS⟩ : ∃ S, S = frs ts := ⟨_, rfl⟩
  obtain ⟨U, hU⟩ : ∃ U, U = frs us := ⟨_, rfl⟩
  obtain ⟨M, hM⟩ : ∃ M, M = (fa s.data.toList).1 := ⟨_, rfl⟩
  obtain ⟨V, hV⟩ : ∃ V, V = (fa s.data.toList).2 := ⟨_, rfl⟩
  rw [← hS] at hsm1 hfa1 hfa3
  rw [← hU] at hsm2 hfa1
  rw [← hM, ← hV] at hfl hfa3
  have hM60 : M.length ≤ 60 := by omega
  have hV300 : V ≤ 300 := by omega
  have hzS := mk_size S
  have hzU := mk_size U
  have hcat1 : ∀ w : World, (Op.stringOp .add ⟨S.toArray⟩ ⟨U.toArray⟩).run Try.prog w = .ok (.string (⟨S.toArray⟩ ++ ⟨U.toArray⟩)) w := fun w => run_string_add_sum w _ _ (by omega)
  have hcat2 : ∀ w : World, (Op.stringOp .add ⟨S.toArray⟩ s).run Try.prog w = .ok (.string (⟨S.toArray⟩ ++ s)) w := fun w => run_string_add_sum w _ _ (by omega)
  have e1 : (⟨S.toArray⟩ ++ ⟨U.toArray⟩ : ByteArray).data.toList = S ++ U := by simp
  have e2 : (⟨S.toArray⟩ ++ s : ByteArray).data.toList = S ++ s.data.toList := by simp
  have A1 := fun w => all_at (⟨S.toArray⟩ ++ ⟨U.toArray⟩) (S ++ U) (ts ++ us, S.length + U.length) w e1 (by rw [ByteArray.size_append', hzS, hzU]; omega) (by rw [hfa1]; simp)
  have A2 := fun w => all_at s s.data.toList (M, V) w rfl (by omega) (by rw [hM, hV])
  have A3 := fun w => all_at (⟨S.toArray⟩ ++ s) (S ++ s.data.toList) (ts ++ M, S.length + V) w e2 (by rw [ByteArray.size_append', hzS]; omega) hfa3
  have HA1 := Lib.hid A1
  have HA2 := Lib.hid A2
  have HA3 := Lib.hid A3
  have H1 := Lib.hid h1
  have H2 := Lib.hid h2
  have HB := Lib.hid hb
  have HA := Lib.hid ha
  have HG := Lib.hid (And.intro g1 g2)
  have HS := Lib.hid hS
  have HU := Lib.hid hU
  have HL := Lib.hid hl
  have HK := Lib.hid hk
  clear h1 h2 ha hb hl hk g1 g2 hfa1 hfa2 hfa0 hfa3 hfl hS hU hM hV e1 e2 A1 A2 A3
  go_enter Try.func8, Try.ntmps8
  go_wp2_with fail
  refine H1.out.mono ?_
  rintro e w1 ⟨b1, ⟨g1, _⟩ | ⟨_, a1, c1, rfl, _⟩⟩
  · exact absurd HG.out.1 g1
  go_wp2_with fail
  refine (H2.out _ (HB.out.old b1)).mono ?_
  rintro e w2 ⟨b2, ⟨g2, _⟩ | ⟨_, a2, c2, rfl, _⟩⟩
  · exact absurd HG.out.2 g2
  rw [← HS.out, ← HU.out]
  go_wp2_with fail
  refine (HA1.out _).mono ?_
  rintro e w3 ⟨a3, c3, rfl, r3, b3⟩
  have bb3 := bt (bt b1 b2) b3
  have ra3 := Lib.hid (HA.out.old bb3)
  have rb3 := Lib.hid (HB.out.old bb3)
  have R3 := Lib.hid r3
  clear r3
  go_wp2_with (at_builtin; refine wpList_append_any rfl (.tmp 52) (.tmp 53) 29 rfl w3.heap.size 9 i0 (.string ⟨#[]⟩) 1 16 Try.underlying29 hi hz0 hz1 hz2 rfl (by decide) _ 0 [] rfl (World.ownsRow_nil _ _ _ _) a n ca (sv ts) rfl (fun h => HL.out.symm.trans (ra3.out.isNone h)) (by rw [sv_length]; exact HL.out.trans (Nat.mul_one n).symm) ra3.out.news (sv_one _) (by unfold maxLen; omega) (by omega) (Nat.le_refl _) ?_)
  intro v1 w4 own1 bl4
  have rb4 := Lib.hid (rb3.out.old bl4)
  have s4 := bl4.size
  go_wp2_with (at_builtin; refine wpList_append_any rfl (.tmp 55) (.tmp 56) 29 rfl w3.heap.size 9 i0 (.string ⟨#[]⟩) 1 16 Try.underlying29 hi hz0 hz1 hz2 rfl (by decide) v1 n (sv ts) rfl own1 b m cb (sv us) rfl (fun h => HK.out.symm.trans (rb4.out.isNone h)) (by rw [sv_length]; exact HK.out.trans (Nat.mul_one m).symm) rb4.out.news (sv_one _) (by unfold maxLen; omega) (by omega) s4 ?_)
  intro v2 w5 own2 bl5
  have bl35 := bl4.trans bl5
  rw [sv_append] at own2
  obtain ⟨x2, cx2, rfl⟩ := own_slice own2
  have hlu : (ts ++ us).length = n + m := by rw [List.length_append, HL.out, HK.out]
  have rw5 := Lib.hid (own_rd (a := x2) (cap := cx2) (ts := ts ++ us) (by rw [hlu]; exact own2))
  have R5 := Lib.hid (R3.out.old bl35)
  have bb5 := bb3.trans (bl35.mono bb3.size)
  have HLU := Lib.hid hlu
  clear own1 own2 bl4 bl5 rb4 s4 rb3 ra3 R3 bl35 hlu
  go_wp2_with fail
  refine (HA2.out _).mono ?_
  rintro e w6 ⟨a6, c6, rfl, r6, b6⟩
  have R6 := Lib.hid r6
  clear r6
  go_wp2_with fail
  refine (HA3.out _).mono ?_
  rintro e w7 ⟨a7, c7, rfl, r7, b7⟩
  have bb7 := bt (bt bb5 b6) b7
  have R7 := Lib.hid r7
  have rm7 := Lib.hid (R6.out.old b7)
  have rw7 := Lib.hid ((rw5.out.old b6).old b7)
  have rt7 := Lib.hid ((R5.out.old b6).old b7)
  have ra7 := Lib.hid (HA.out.old bb7)
  clear r7 R6 R5 rw5
  go_wp2_with (at_builtin; refine wpList_append_any rfl (.tmp 70) (.tmp 71) 29 rfl w7.heap.size 9 i0 (.string ⟨#[]⟩) 1 16 Try.underlying29 hi hz0 hz1 hz2 rfl (by decide) _ 0 [] rfl (World.ownsRow_nil _ _ _ _) a n ca (sv ts) rfl (fun h => HL.out.symm.trans (ra7.out.isNone h)) (by rw [sv_length]; exact HL.out.trans (Nat.mul_one n).symm) ra7.out.news (sv_one _) (by unfold maxLen; omega) (by omega) (Nat.le_refl _) ?_)
  intro v8 w8 own8 bl8
  have rm8 := Lib.hid (rm7.out.old bl8)
  have s8 := bl8.size
  go_wp2_with (at_builtin; refine wpList_append_any rfl (.tmp 73) (.tmp 74) 29 rfl w7.heap.size 9 i0 (.string ⟨#[]⟩) 1 16 Try.underlying29 hi hz0 hz1 hz2 rfl (by decide) v8 n (sv ts) rfl own8 a6 M.length c6 (sv M) rfl rm8.out.isNone (by rw [sv_length]; exact (Nat.mul_one _).symm) rm8.out.news (sv_one _) (by unfold maxLen; omega) (by omega) s8 ?_)
  intro v9 w9 own9 bl9
  have bl79 := bl8.trans bl9
  rw [sv_append] at own9
  obtain ⟨x9, cx9, rfl⟩ := own_slice own9
  have hlm : (ts ++ M).length = n + M.length := by rw [List.length_append, HL.out]
  have rw9 := Lib.hid (own_rd (a := x9) (cap := cx9) (ts := ts ++ M) (by rw [hlm]; exact own9))
  have bb9 := bb7.trans (bl79.mono bb7.size)
  have t9 := Lib.hid (rt7.out.old bl79)
  have m9 := Lib.hid (rw7.out.old bl79)
  have k9 := Lib.hid (R7.out.old bl79)
  have HLM := Lib.hid hlm
  clear own8 own9 bl8 bl9 rm8 s8 bl79 hlm
  have f1 : ts.length + us.length < 9223372036854775808 := by rw [HL.out, HK.out]; omega
  have f2 : ts.length + M.length < 9223372036854775808 := by rw [HL.out]; omega
  go_wp2_with fail
  refine (same_at a3 x2 _ _ c3 cx2 (ts ++ us) (ts ++ us) true _ t9.out m9.out (by simp) HLU.out f1 (by simp)).mono ?_
  rintro e w10 ⟨rfl, b10⟩
  go_wp2_with fail
  refine (same_at a7 x9 _ _ c7 cx9 (ts ++ M) (ts ++ M) true _ (k9.out.old b10) (rw9.out.old b10) (by simp) HLM.out f2 (by simp)).mono ?_
  rintro e w11 ⟨rfl, b11⟩
  go_wp2_with fail
  refine (awake_any _).mono ?_
  rintro e w12 ⟨rfl, b12⟩
  go_wp2
  go_ret
  exact ⟨rfl, bt (bt (bt bb9 b10) b11) b12⟩
theorem walk_FrameMore (a : Option Addr) (ca : Nat) (ts : List (List UInt8)) (b : Option Addr) (cb : Nat) (us : List (List UInt8)) (s : ByteArray) (_ : s.size ≤ 140737488351232) (w : World) (ha : Rd w a ts) (hl : ts.length ≤ maxLen) (_ : ts.length ≤ ca) (hb : Rd w b us) (hk : us.length ≤ maxLen) (_ : us.length ≤ cb) :
    Calls Try.prog 8 #[.slice a ts.length ca, .slice b us.length cb, .string s] w fun e w' => e = .returned (.bool true) ∧ Below w.heap.size w w' := by
  unfold maxLen at hl hk
  by_cases h : (ts.length ≤ 12 ∧ ∀ t ∈ ts, t.length ≤ 300) ∧ (us.length ≤ 12 ∧ ∀ t ∈ us, t.length ≤ 300)
  · by_cases hs : s.size ≤ 300
    · exact more_good a b ca cb _ _ ts us s w ha hb rfl rfl h.1 h.2 hs
    · exact more_bad a b ca cb _ _ ts us s w ha hb (by omega) (by omega) rfl rfl (.inr (by omega))
  · exact more_bad a b ca cb _ _ ts us s w ha hb (by omega) (by omega) rfl rfl (.inl h)
end Go.Proofs.Ytflnohmmhodhgaa
