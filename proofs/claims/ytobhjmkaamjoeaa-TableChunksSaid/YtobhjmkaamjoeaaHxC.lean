/-
  Layer 10 (table), the walk of the law TableChunks. Conditions: texts within the reach.
-/
import Derived.Test.YtobhjmkaamjoeaaQ6
import Derived.Laws.Cover1
namespace Go.Proofs.Ytobhjmkaamjoeaa
set_option maxRecDepth 100000
open Go.RowKit
set_option linter.unusedVariables false
set_option linter.unusedSimpArgs false

theorem okB_key1 {es : List Ent} (h : okB es = true) : ∀ e ∈ es, ¬ e.1 = ⟨#[]⟩ := by
  intro e he h0
  have hm := chain_may (okB_iff.1 h).2 e he
  obtain ⟨k, v, g, q⟩ := e
  obtain ⟨h1, h2, _⟩ := may_iff.1 hm
  simp only at h0
  subst h0
  revert h1
  decide
/-- What one chunk is, where the table is sorted: from the p-th entry on, n of them. -/
theorem chunk_step {ms : List Ent} {key : ByteArray} {M p : Nat} {c : List Ent} {next : ByteArray} (hok : okB ms = true) (hM : 1 ≤ M) (hp : FN ms key p) (hpl : p < ms.length) (h : CK ms key M c next) :
    ∃ n, 0 < n ∧ p + n ≤ ms.length ∧ c = (ms.drop p).take n ∧ c.length = n ∧ ms.take p ++ c = ms.take (p + n) ∧ ((p + n = ms.length ∧ next = ⟨#[]⟩) ∨
      (∃ hq : p + n < ms.length, next = ms[p + n].1 ∧ ¬ next = ⟨#[]⟩ ∧ FN ms next (p + n) ∧ ltB (ms[p + n - 1]'(by omega)).1 next = true)) := by
  obtain ⟨k, n, h1, ⟨w1, w2, w3, w4⟩, h3, h4⟩ := h
  obtain rfl := h1.same hp
  rw [List.length_drop] at w1 w2
  have hn : 0 < n := by omega
  have hcl : c.length = n := by rw [h3, List.length_take, List.length_drop]; omega
  refine ⟨n, hn, by omega, h3, hcl, ?_, ?_⟩
  · rw [h3, List.take_add]
  · by_cases hq : k + n < ms.length
    · right
      rw [dif_pos hq] at h4
      have hne : ¬ ms[k + n].1 = (ms[k + n - 1]'(by omega)).1 := by
        have h5 := w4 (by rw [List.length_drop]; omega)
        rw [List.getElem_drop, List.getElem_drop] at h5
        have : ∀ (x y : Nat) (hx : x < ms.length) (hy : y < ms.length), x = y → ms[x].1 = ms[y].1 := fun x y hx hy e => by subst e; rfl
        rw [this (k + (n - 1)) (k + n - 1) (by omega) (by omega) (by omega)] at h5
        exact h5
      have hup := keys_up (okB_iff.1 hok).2 (k + n - 1) (k + n) hq (by omega)
      have hlt : ltB (ms[k + n - 1]'(by omega)).1 ms[k + n].1 = true := by
        cases hb : ltB (ms[k + n - 1]'(by omega)).1 ms[k + n].1 with
        | true => rfl
        | false => exact absurd (ltB_total hup hb) hne
      refine ⟨hq, h4, ?_, ⟨by omega, fun j hj hjk => ?_, fun h => ?_⟩, by rw [h4]; exact hlt⟩
      · rw [h4]; exact okB_key1 hok _ (List.getElem_mem hq)
      · rw [h4]
        exact le_ltB (keys_up (okB_iff.1 hok).2 j (k + n - 1) (by omega) (by omega)) hlt
      · rw [h4]; exact ltB_irr _
    · left
      rw [dif_neg hq] at h4
      exact ⟨by omega, h4⟩
set_option maxHeartbeats 8000000 in
theorem walk_TableChunks (a : Option Addr) (cap : Nat) (es : List Ent) (z : Int) (hz : (Lit.int .i64 z).wf = true) (w : World) (h : RdE w a es) (hok : okV es) (hl : es.length ≤ maxLen) :
    Calls Try.prog 4 #[.slice a es.length cap, .int .i64 z] w fun e w' => e = .returned (.bool true) ∧ Below w.heap.size w w' := by
  obtain ⟨i0, hi, hz0, hz1, hz2⟩ := info_parts Try.infoEnt9
  unfold maxLen at hl
  obtain ⟨n, hn⟩ : ∃ n, es.length = n := ⟨_, rfl⟩
  rw [hn] at hl ⊢
  have HLi := Lib.hid fun r hr => light_any a n cap es w (by omega) hn h hok r hr
  have HA := Lib.hid fun w => awakeT_any w
  cases hb : liteB es with
  | false =>
    have HL0 := Lib.hid (HLi.out false hb)
    clear HLi h hok hb hn
    go_enter Try.func4, Try.ntmps4
    go_wp2_with fail
    refine HL0.out.mono ?_
    rintro e w1 ⟨rfl, b1⟩
    go_wp2_with fail
    refine (HA.out _).mono ?_
    rintro e w2 ⟨rfl, b2⟩
    go_wp2
    go_ret
    exact ⟨rfl, b1.trans (b2.mono b1.size)⟩
  | true =>
    have HL0 := Lib.hid (HLi.out true hb)
    have hn80 : n ≤ 80 := by have := (lite_yes hb).1; omega
    have HO := Lib.hid fun w h => opened_any a n cap es w hn80 hn h hok
    have HR := Lib.hid h
    obtain ⟨ms, hms⟩ : ∃ ms, ms = madeT es := ⟨_, rfl⟩
    have hmk := madeT_ok es (by omega)
    rw [← hms] at HO hmk
    have HMK := Lib.hid hmk
    clear HLi h hok hb hn hms hmk
    go_enter Try.func4, Try.ntmps4
    go_wp2_with fail
    refine HL0.out.mono ?_
    rintro e w1 ⟨rfl, b1⟩
    have HW1 := Lib.hid b1
    clear b1
    go_wp2_with fail
    refine (HO.out _ (HR.out.old HW1.out)).mono ?_
    rintro e w2 ⟨b2, d, m, c, s2, h2⟩
    have HW2 := Lib.hid (HW1.out.trans (b2.mono HW1.out.size))
    have HS2 := Lib.hid s2
    clear b2 HW1 HO HR HL0
    rcases h2 with ⟨h2, rfl⟩ | ⟨hm0, T, rfl, ht⟩
    · go_wp2_with fail
      refine (HA.out _).mono ?_
      rintro e w3 ⟨rfl, b3⟩
      have HW3 := Lib.hid (HW2.out.trans (b3.mono HW2.out.size))
      go_wp2
      go_ret
      exact ⟨rfl, HW3.out⟩
    · have HT2 : Hid (TP w2 (.pointer (some ⟨T, 0, none⟩)) ms true) := Lib.hid (.inl ⟨rfl, T, rfl, ht⟩)
      have hml : ms.length = m := s2.1
      have hm80 : m ≤ 80 := by have := HMK.out.2; omega
      have HML := Lib.hid hml
      have hW2s := HW2.out.size
      have HF0 : Hid (FN ms ⟨#[]⟩ 0) := Lib.hid ⟨Nat.zero_le _, fun j h h0 => absurd h0 (Nat.not_lt_zero _), fun h => not_lt_em (emB_iff.2 rfl)⟩
      clear s2 ht hml
      go_wp2
      go_loopw [8, 9, 10, 11, 12] (fun vall vfrom i _ _ wr => ∃ (k p : Nat) (key : ByteArray), i = .int .i64 k ∧ vfrom = .string key ∧ k ≤ p ∧ p < m ∧ Hid (FN ms key p) ∧ Hid (wr.ownsRow w2.heap.size 32 4 vall p (ev4 (ms.take p))) ∧ Hid (Below w2.heap.size w2 wr)) (fun _ _ i _ _ _ => 100 - (intOf i).toNat)
      case atStart => exact ⟨0, 0, ⟨#[]⟩, rfl, rfl, by omega, by omega, HF0, Lib.hid (World.ownsRow_nil _ _ _ _), Lib.hid (Below.refl _ _)⟩
      case round =>
        obtain ⟨k, p, key, rfl, rfl, hkp, hpm, HF, HOW, HW⟩ := hrel
        have hws := HW.out.size
        have hki : (k : Int) < 100 := by omega
        have hpl : p < ms.length := by rw [HML.out]; exact hpm
        have HCH := Lib.hid fun z => tchunk_any _ ms true key z _ (HT2.out.old HW.out)
        obtain ⟨aa, cc, rfl⟩ := own_form HOW.out (by decide)
        go_wp2_with fail
        refine (HCH.out _).mono ?_
        rintro e w3 ⟨a3, c3, ch, next, rfl, hck, hr3, _, b3⟩
        obtain ⟨q, hq0, hqm, hce, hcl, hta, hcase⟩ := chunk_step HMK.out.1 (mostN_pos _) HF.out hpl hck
        rw [hcl]
        have HW3 := Lib.hid (HW.out.trans (b3.mono hws))
        have HO3 := Lib.hid (below_own HOW.out b3)
        have hs3 := HW3.out.size
        have HR3 := Lib.hid hr3
        have hqb : ((q : Int) == 0) = false := by simp; omega
        have HEL : Hid ((ev4 ch).length = q * 4) := Lib.hid (by rw [ev4_length, hcl])
        have hqm' : p + q ≤ m := by rw [← HML.out]; exact hqm
        have HTA : Hid (ev4 (ms.take p) ++ ev4 ch = ev4 (ms.take (p + q))) := Lib.hid (by rw [ev4_app, hta])
        obtain ⟨b, off, ha, hb, hat⟩ := hr3.at_
        obtain rfl := ha (by omega)
        have hbw := hb (by omega)
        obtain ⟨j, HJ⟩ : ∃ j, Hid (q = j + 1) := ⟨q - 1, Lib.hid (by omega)⟩
        have hjqn : j < q := by have := HJ.out; omega
        have hjc : j < ch.length := by rw [hcl]; exact hjqn
        have g0 := (hat j hjc).1
        have hji : (q : Int) - 1 = (j : Int) := by have := HJ.out; omega
        have hwr : IntKind.i64.wrap (j : Int) = (j : Int) := IntWalk.i64_in _ (by omega)
        have hj0 : (0 : Int) ≤ (j : Int) := by omega
        have hjq : (j : Int) < (q : Int) := by omega
        have hlast : ch[j].1 = (ms[p + q - 1]'(by omega)).1 := by
          have h5 : ch[j] = (ms[p + q - 1]'(by omega)) := by
            have : ∀ (x y : Nat) (hx : x < ms.length) (hy : y < ms.length), x = y → ms[x] = ms[y] := fun x y hx hy e => by subst e; rfl
            have h6 : ch[j] = (ms[p + j]'(by omega)) := by
              subst hce
              rw [List.getElem_take, List.getElem_drop]
            rw [h6]
            exact this _ _ _ _ (by have := HJ.out; omega)
          rw [h5]
        obtain ⟨lk, hlk⟩ : ∃ lk, lk = ch[j].1 := ⟨_, rfl⟩
        rw [← hlk] at g0 hlast
        rw [hlast.symm.symm] at hlk
        clear b3 hr3 hck hta HOW HCH ha hb hat hlk HF
        rcases hcase with ⟨hpq, rfl⟩ | ⟨hq, hnx, hne, hfn, hlt⟩
        · have hpq' : p + q = m := by rw [← HML.out]; exact hpq
          have HPQ := Lib.hid (And.intro hpq hpq')
          clear hlast hce hpq hpq'
          go_wp2_with (at_builtin; refine wpList_append_any rfl (.tmp 59) (.tmp 60) 22 rfl w2.heap.size 32 i0 (.agg #[.string ⟨#[]⟩, .string ⟨#[]⟩, .bool false, .int .i64 0]) 4 48 Try.underlying22 hi hz0 hz1 hz2 rfl (by decide) _ p (ev4 (ms.take p)) rfl HO3.out (some ⟨b, off, none⟩) q c3 (ev4 ch) rfl (fun h => by cases h) HEL.out (fun y hy => HR3.out.news y hy) (ev4_one _) (by unfold maxLen; omega) (by omega) hs3 ?_)
          intro v' w4 own4 b4
          rw [HTA.out] at own4
          have HW4 := Lib.hid (HW3.out.trans b4)
          have htk : ms.take (p + q) = ms := by rw [HPQ.out.1, List.take_length]
          rw [htk, HPQ.out.2] at own4
          obtain ⟨a6, c6, rfl, hse⟩ := own_se own4 HML.out
          have HSE := Lib.hid hse
          have HS4 := Lib.hid (HS2.out.old HW4.out)
          clear own4 b4 hse htk HO3 HR3 HTA HEL g0
          go_wp2_with fail
          refine (samee_any a6 d m c6 c ms _ HSE.out.2.1 HS4.out.2.1 (by omega) HML.out).mono ?_
          rintro e w5 ⟨rfl, b5⟩
          have HW5 := Lib.hid (HW2.out.trans ((HW4.out.mono hW2s).trans (b5.mono (Nat.le_trans hW2s HW4.out.size))))
          clear b5
          go_wp2_with fail
          refine (HA.out _).mono ?_
          rintro e w6 ⟨rfl, b6⟩
          have HW6 := Lib.hid (HW5.out.trans (b6.mono HW5.out.size))
          go_wp2
          go_ret
          exact ⟨rfl, HW6.out⟩
        · have hpq' : p + q < m := by rw [← HML.out]; exact hq
          have hne1 : (next.toList == []) = false := by
            rw [beq_eq_false_iff_ne]
            intro h
            exact hne (emB_iff.1 (by unfold emB; rw [h]; rfl))
          have hne2 : ¬ next.toList = [] := fun h => hne (emB_iff.1 (by unfold emB; rw [h]; rfl))
          rw [← hlast] at hlt
          have hltb : Op.bytesLess lk.toList next.toList = true := hlt
          have hltc : Op.bytesLess next.toList lk.toList = false := ltB_asymm hlt
          have hltd : (next.toList == lk.toList) = false := by
            rw [beq_eq_false_iff_ne]
            intro h
            rw [h] at hltb
            have h2 := ltB_irr lk
            unfold ltB at h2
            rw [h2] at hltb
            cases hltb
          have HFN := Lib.hid hfn
          clear hlast hce hfn hnx hlt
          go_wp2_with (at_builtin; refine wpList_append_any rfl (.tmp 59) (.tmp 60) 22 rfl w2.heap.size 32 i0 (.agg #[.string ⟨#[]⟩, .string ⟨#[]⟩, .bool false, .int .i64 0]) 4 48 Try.underlying22 hi hz0 hz1 hz2 rfl (by decide) _ p (ev4 (ms.take p)) rfl HO3.out (some ⟨b, off, none⟩) q c3 (ev4 ch) rfl (fun h => by cases h) HEL.out (fun y hy => HR3.out.news y hy) (ev4_one _) (by unfold maxLen; omega) (by omega) hs3 ?_)
          intro v' w4 own4 b4
          rw [HTA.out] at own4
          have HW4 := Lib.hid (HW3.out.trans b4)
          have HO4 := Lib.hid own4
          clear own4 b4 HO3 HR3 HTA HEL g0
          go_wp2
          go_roundw
          case rel => exact ⟨k + 1, p + q, next, by go_num, rfl, by omega, hpq', HFN, HO4, HW4⟩
          case measure => simp [intOf]; omega
end Go.Proofs.Ytobhjmkaamjoeaa
