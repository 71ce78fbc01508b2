/-
  Layer 10 (table), the walk of the law TableOpens. Conditions: texts within the reach.
-/
import Derived.Test.YtobhjmkaamjoeaaGreatHe
namespace Go.Proofs.YtobhjmkaamjoeaaGreat
set_option maxRecDepth 100000
open Go.RowKit
set_option linter.unusedVariables false
set_option linter.unusedSimpArgs false

theorem okB_clip {ms : List Ent} (h : okB ms = true) : clipL ⟨#[]⟩ ⟨#[]⟩ ms = ms := by
  unfold clipL
  rw [List.filter_eq_self]
  intro e he
  have hm := chain_may (okB_iff.1 h).2 e he
  obtain ⟨k, v, g, q⟩ := e
  have hk := (may_iff.1 hm).1
  refine hasB_iff.2 ⟨?_, hk, not_lt_em (emB_iff.2 rfl), aheadB_iff.2 (.inl (emB_iff.2 rfl))⟩
  unfold mayB
  rw [aheadB_iff.2 (.inl (emB_iff.2 rfl))]
  decide
set_option maxHeartbeats 8000000 in
theorem walk_TableOpens (s : ByteArray) (hs : s.size ≤ 140737488351232) (w : World) :
    Calls Tryz.prog 4 #[.string s] w fun e w' => e = .returned (.bool true) ∧ Below w.heap.size w w' := by
  have HA := Lib.hid fun w => awakeT_any w
  by_cases h4 : s.size ≤ 4096
  case neg =>
    have h4i : (4096 : Int) < (s.size : Int) := by omega
    go_enter Tryz.func4, Tryz.ntmps4
    go_wp2_with fail
    refine (HA.out _).mono ?_
    rintro e w1 ⟨rfl, b1⟩
    go_wp2
    go_ret
    exact ⟨rfl, b1⟩
  have h4i : (s.size : Int) ≤ 4096 := by omega
  have H1 := Lib.hid fun w => topen_any s w (by omega)
  have H2 := Lib.hid fun w => ropen_any s w (by omega)
  have HSO := Lib.hid fun es (h : openT s.data.toList = some es) => (openT_some.1 h).1
  cases ho : openT s.data.toList with
  | none =>
    rw [ho] at H1 H2
    clear ho
    go_enter Tryz.func4, Tryz.ntmps4
    go_wp2_with fail
    refine (H1.out _).mono ?_
    rintro e w1 ⟨_, h1, b1⟩
    obtain rfl := h1 rfl
    have HW1 := Lib.hid b1
    clear h1 b1
    go_wp2_with fail
    refine (H2.out _).mono ?_
    rintro e w2 ⟨a2, m2, c2, es, rfl, hm2, hr2, _, hn2, b2⟩
    obtain rfl := hn2 rfl
    obtain rfl : 0 = m2 := hm2
    have HW2 := Lib.hid (HW1.out.trans (b2.mono HW1.out.size))
    have HT2 : Hid (TP w2 (.pointer none) [] false) := Lib.hid (.inr ⟨rfl, rfl, .inl rfl⟩)
    have HL := Lib.hid (tlen_any _ [] false w2 HT2.out)
    rw [show ((([] : List Ent).length : Nat) : Int) = 0 from rfl] at HL
    clear b2 hr2 hn2
    rw [if_pos rfl]
    go_wp2_with fail
    refine HL.out.mono ?_
    rintro e w3 ⟨rfl, b3⟩
    have HW3 := Lib.hid (HW2.out.trans (b3.mono HW2.out.size))
    have HT3 := Lib.hid (HT2.out.old b3)
    clear b3 HL
    go_wp2_with fail
    refine (trange_at _ [] false _ _ (by unfold okS; decide) (by unfold okS; decide) 0 [] rfl rfl _ HT3.out).mono ?_
    rintro e w4 ⟨a4, c4, rfl, hr4, b4⟩
    have HW4 := Lib.hid (HW3.out.trans (b4.mono HW3.out.size))
    clear b4 hr4
    go_wp2_with fail
    refine (samee_any a4 a2 0 c4 c2 [] _ (.inl rfl) (.inl rfl) (by omega) rfl).mono ?_
    rintro e w5 ⟨rfl, b5⟩
    have HW5 := Lib.hid (HW4.out.trans (b5.mono HW4.out.size))
    clear b5
    go_wp2_with fail
    refine (HA.out _).mono ?_
    rintro e w6 ⟨rfl, b6⟩
    have HW6 := Lib.hid (HW5.out.trans (b6.mono HW5.out.size))
    go_wp2
    go_ret
    exact ⟨rfl, HW6.out⟩
  | some es =>
    rw [ho] at H1 H2
    have hT := HSO.out es ho
    have HOK := Lib.hid (okT_iff.1 hT).2
    have hne := (okT_iff.1 hT).1
    obtain ⟨n, hn⟩ : ∃ n, es.length = n := ⟨_, rfl⟩
    have hn4 : n ≤ 4096 := by rw [← hn]; exact okB_len4 HOK.out
    have HN := Lib.hid hn
    clear ho hT hn HSO hne
    go_enter Tryz.func4, Tryz.ntmps4
    go_wp2_with fail
    refine (H1.out _).mono ?_
    rintro e w1 ⟨h1, _, b1⟩
    obtain ⟨T, rfl, ht, hTw⟩ := h1 es rfl
    have HW1 := Lib.hid b1
    have HT1 : Hid (TP w1 (.pointer (some ⟨T, 0, none⟩)) es true) := Lib.hid (.inl ⟨rfl, T, rfl, ht⟩)
    clear h1 b1 ht hTw
    go_wp2_with fail
    refine (H2.out _).mono ?_
    rintro e w2 ⟨a2, m2, c2, es', rfl, hm2, hr2, hf2, _, b2⟩
    obtain rfl := hf2 es rfl
    obtain rfl : m2 = n := by rw [← hm2]; exact HN.out
    have HW2 := Lib.hid (HW1.out.trans (b2.mono HW1.out.size))
    have HT2 := Lib.hid (HT1.out.old b2)
    have HR2 := Lib.hid hr2
    have HL := Lib.hid (tlen_any _ es' true w2 HT2.out)
    rw [HN.out] at HL
    clear b2 hr2 hf2 hm2 HT1
    rw [if_neg (by simp)]
    go_wp2_with fail
    refine HL.out.mono ?_
    rintro e w3 ⟨rfl, b3⟩
    have HW3 := Lib.hid (HW2.out.trans (b3.mono HW2.out.size))
    have HT3 := Lib.hid (HT2.out.old b3)
    have HR3 := Lib.hid (HR2.out.old b3)
    clear b3 HL
    go_wp2_with fail
    refine (trange_at _ es' true _ _ (by unfold okS; decide) (by unfold okS; decide) m2 es' (okB_clip HOK.out) HN.out _ HT3.out).mono ?_
    rintro e w4 ⟨a4, c4, rfl, hr4, b4⟩
    have HW4 := Lib.hid (HW3.out.trans (b4.mono HW3.out.size))
    have HR4 := Lib.hid (HR3.out.old b4)
    have HQ4 := Lib.hid hr4
    clear b4 hr4
    go_wp2_with fail
    refine (samee_any a4 a2 m2 c4 c2 es' _ HQ4.out HR4.out (by omega) HN.out).mono ?_
    rintro e w5 ⟨rfl, b5⟩
    have HW5 := Lib.hid (HW4.out.trans (b5.mono HW4.out.size))
    clear b5
    go_wp2_with fail
    refine (HA.out _).mono ?_
    rintro e w6 ⟨rfl, b6⟩
    have HW6 := Lib.hid (HW5.out.trans (b6.mono HW5.out.size))
    go_wp2
    go_ret
    exact ⟨rfl, HW6.out⟩
end Go.Proofs.YtobhjmkaamjoeaaGreat
