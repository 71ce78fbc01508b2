/-
  Layer 9 (block): the walk of the law BlockBack. Conditions: texts within the reach.
-/
import Derived.Test.YtjneigejcaahiaaKx
namespace Go.Proofs.Ytjneigejcaahiaa
open Go.RowKit
set_option linter.unusedVariables false
set_option linter.unusedSimpArgs false

/-- What Put answers to entries that may be a block's. -/
theorem put9_ok (a : Option Addr) (n cap : Nat) (es : List Ent) (w : World) (hn : n ≤ 9223372036854775807) (hl : es.length = n) (h : RdE w a es) (hok : okV es) (ho : okB es = true) :
    Calls Try.prog 11 #[.slice a n cap] w fun e w' => e = .returned (.tuple #[.string ⟨(putB es).toArray⟩, .int .i64 0]) ∧ Below w.heap.size w w' :=
  (put9_any a n cap es w hn hl h hok).mono fun e w' hp => ⟨by rw [hp.1, if_pos ho], hp.2⟩
theorem take9_ok (s : ByteArray) (es : List Ent) (w : World) (hs : s.size ≤ 16777216) (h : takeB s.data.toList = some es) : Calls Try.prog 15 #[.string s] w fun e w' =>
    ∃ a cap, e = .returned (.tuple #[.slice a es.length cap, .int .i64 0]) ∧ RdE w' a es ∧ Below w.heap.size w w' := by
  refine (take9_any s w hs).mono ?_
  rintro e w' ⟨a, m, c, fs, rfl, hm, hr, hf, _, hb⟩
  obtain rfl := hf es h
  exact ⟨a, c, by rw [if_neg (by rw [h]; simp), hm], hr, hb⟩
theorem take9_bad (s : ByteArray) (w : World) (hs : s.size ≤ 16777216) (h : takeB s.data.toList = none) : Calls Try.prog 15 #[.string s] w fun e w' =>
    e = .returned (.tuple #[.slice none 0 0, .int .i64 90]) ∧ Below w.heap.size w w' := by
  refine (take9_any s w hs).mono ?_
  rintro e w' ⟨a, m, c, fs, rfl, hm, hr, _, hf, hb⟩
  obtain ⟨rfl, rfl, rfl⟩ := hf h
  exact ⟨by rw [if_pos h], hb⟩
theorem okB_len {es : List Ent} (h : okB es = true) : es.length ≤ 4096 := by
  unfold okB at h
  simp only [Bool.and_eq_true, decide_eq_true_eq] at h
  exact h.1
theorem okB_okV {es : List Ent} (h : okB es = true) : okV es := by
  intro e he
  unfold okB at h
  simp only [Bool.and_eq_true, decide_eq_true_eq] at h
  have hm := chain_may h.2 e he
  obtain ⟨k, v, g, q⟩ := e
  obtain ⟨h1, h2, _⟩ := may_iff.1 hm
  unfold keyB at h1
  simp only [Bool.and_eq_true, decide_eq_true_eq] at h1
  exact ⟨by unfold okS; show k.size ≤ _; omega, by unfold okS; show v.size ≤ _; omega⟩
theorem putB_len {es : List Ent} (h : okB es = true) (h60 : es.length ≤ 60) : (putB es).length ≤ 24100 ∧ 5 ≤ (putB es).length := by
  have h1 := headB_len h
  unfold putB
  rw [List.length_append, tailL_length]
  omega
set_option maxRecDepth 100000 in
set_option maxHeartbeats 8000000 in
theorem walk_BlockBack (a : Option Addr) (cap : Nat) (es : List Ent) (s : ByteArray) (hs : s.size ≤ 140737488351232) (w : World) (h : RdE w a es) (hok : okV es) (hl : es.length ≤ maxLen) :
    Calls Try.prog 5 #[.slice a es.length cap, .string s] w fun e w' => e = .returned (.bool true) ∧ Below w.heap.size w w' := by
  unfold maxLen at hl
  obtain ⟨n, hn⟩ : ∃ n, es.length = n := ⟨_, rfl⟩
  rw [hn] at hl ⊢
  obtain ⟨r, hr⟩ : ∃ r, liteB es = r := ⟨_, rfl⟩
  have HLi := Lib.hid (light_any a n cap es w (by omega) hn h hok r hr)
  have HAw := Lib.hid fun w => awake9_any w
  have HRd := Lib.hid h
  cases r with
  | false =>
    clear hr hn h hok
    go_enter Try.func5, Try.ntmps5
    go_wp2_with fail
    refine HLi.out.mono ?_
    rintro e w1 ⟨rfl, b1⟩
    go_wp2_with fail
    refine (HAw.out _).mono ?_
    rintro e w2 ⟨rfl, b2⟩
    go_wp2
    go_ret
    exact ⟨rfl, bt b1 b2⟩
  | true =>
    by_cases h4 : 4096 < s.size
    · have h4i : (4096 : Int) < (s.size : Int) := by omega
      clear hr hn h hok
      go_enter Try.func5, Try.ntmps5
      go_wp2_with fail
      refine HLi.out.mono ?_
      rintro e w1 ⟨rfl, b1⟩
      go_wp2_with fail
      refine (HAw.out _).mono ?_
      rintro e w2 ⟨rfl, b2⟩
      go_wp2
      go_ret
      exact ⟨rfl, bt b1 b2⟩
    · have h4i : (s.size : Int) ≤ 4096 := by omega
      have hmk := made_ok es
      obtain ⟨M, hM⟩ : ∃ M, M = madeE es := ⟨_, rfl⟩
      have HMa := Lib.hid fun w h => made_any a n cap es w (by omega) hn h hok
      rw [← hM] at hmk HMa
      have HOK := Lib.hid hmk.1
      have HM60 := Lib.hid hmk.2
      obtain ⟨T, hT⟩ : ∃ T : ByteArray, T = ⟨(putB M).toArray⟩ := ⟨_, rfl⟩
      have hTs : T.size ≤ 24100 := by rw [hT, size_mkl]; exact (putB_len hmk.1 hmk.2).1
      have HTt := Lib.hid (show takeB T.data.toList = some M by rw [hT]; exact takeB_put hmk.1)
      have HP := Lib.hid fun (b : Option Addr) (k c : Nat) (w : World) (hk : M.length = k) (h : RdE w b M) => put9_ok b k c M w (by have := HM60.out; omega) hk h (okB_okV hmk.1) hmk.1
      rw [← hT] at HP
      clear hr hn h hok hmk hM hT
      go_enter Try.func5, Try.ntmps5
      go_wp2_with fail
      refine HLi.out.mono ?_
      rintro e w1 ⟨rfl, b1⟩
      have HR1 := Lib.hid (HRd.out.old b1)
      have HW1 := Lib.hid b1
      clear b1
      go_wp2_with fail
      refine (HMa.out _ HR1.out).mono ?_
      rintro e w2 ⟨a2, m2, c2, rfl, ⟨sl2, sr2, _, _⟩, b2⟩
      have HM2 := Lib.hid sl2
      have HRM2 := Lib.hid sr2
      have HW2 := Lib.hid (bt HW1.out b2)
      have hm2 : m2 < 9223372036854775808 := by have := HM60.out; rw [sl2] at this; omega
      clear b2 sl2 sr2
      go_wp2_with fail
      refine (HP.out _ _ _ _ HM2.out HRM2.out).mono ?_
      rintro e w3 ⟨rfl, b3⟩
      have HRM3 := Lib.hid (HRM2.out.old b3)
      have HW3 := Lib.hid (bt HW2.out b3)
      clear b3 HRM2
      go_wp2_with fail
      refine (take9_ok T M _ (by omega) HTt.out).mono ?_
      rintro e w4 ⟨a4, c4, rfl, r4, b4⟩
      rw [HM2.out]
      have HRM4 := Lib.hid (HRM3.out.old b4)
      have HRT4 := Lib.hid r4
      have HW4 := Lib.hid (bt HW3.out b4)
      clear b4 r4 HRM3
      go_wp2_with fail
      refine (samee_any _ _ m2 _ _ M _ HRM4.out HRT4.out hm2 HM2.out).mono ?_
      rintro e w5 ⟨rfl, b5⟩
      have HW5 := Lib.hid (bt HW4.out b5)
      clear b5 HRM4 HRT4
      cases ho : takeB s.data.toList with
      | none =>
        have HN := Lib.hid ho
        clear ho
        go_wp2_with fail
        refine (take9_bad s _ (by omega) HN.out).mono ?_
        rintro e w6 ⟨rfl, b6⟩
        have HW6 := Lib.hid (bt HW5.out b6)
        clear b6
        go_wp2_with fail
        refine (HAw.out _).mono ?_
        rintro e w7 ⟨rfl, b7⟩
        have HW7 := Lib.hid (bt HW6.out b7)
        go_wp2
        go_ret
        exact ⟨rfl, HW7.out⟩
      | some fs =>
        have HN := Lib.hid ho
        obtain ⟨hp, hkf⟩ := takeB_back ho
        have hps : (⟨(putB fs).toArray⟩ : ByteArray) = s := by apply ByteArray.ext; rw [hp]
        have HPS := Lib.hid hps
        have HKF := Lib.hid hkf
        clear ho hp hps hkf
        go_wp2_with fail
        refine (take9_ok s fs _ (by omega) HN.out).mono ?_
        rintro e w6 ⟨a6, c6, rfl, r6, b6⟩
        have HR6 := Lib.hid r6
        have HW6 := Lib.hid (bt HW5.out b6)
        clear b6 r6
        go_wp2_with fail
        refine (put9_ok a6 _ c6 fs _ (by have := okB_len HKF.out; omega) rfl HR6.out (okB_okV HKF.out) HKF.out).mono ?_
        rintro e w7 ⟨rfl, b7⟩
        rw [HPS.out]
        have HW7 := Lib.hid (bt HW6.out b7)
        clear b7
        go_wp2_with fail
        refine (HAw.out _).mono ?_
        rintro e w8 ⟨rfl, b8⟩
        have HW8 := Lib.hid (bt HW7.out b8)
        go_wp2
        go_ret
        exact ⟨rfl, HW8.out⟩
end Go.Proofs.Ytjneigejcaahiaa
