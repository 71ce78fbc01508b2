/-
  Layer 9 (block): the walks of the laws BlockPuts, BlockTakes, BlockBack. Conditions: texts within the reach.
-/
import Derived.Test.YtjneigejcaahiaaKw
import Derived.Test.YtjneigejcaahiaaKz
import Derived.Test.YtjneigejcaahiaaKs
namespace Go.Proofs.Ytjneigejcaahiaa
open Go.RowKit
set_option linter.unusedVariables false
set_option linter.unusedSimpArgs false

/-- What Put answers. -/
def puV (es : List Ent) : ByteArray := if okB es = true then ⟨(putB es).toArray⟩ else ⟨#[]⟩
def puE (es : List Ent) : Int := if okB es = true then 0 else 1
theorem pu_eq {es : List Ent} {w : World} {e : Ending} {w' : World} (h : PU es w e w') : e = .returned (.tuple #[.string (puV es), .int .i64 (puE es)]) ∧ Below w.heap.size w w' := by
  obtain ⟨h1, h2⟩ := h
  refine ⟨?_, h2⟩
  rw [h1]
  unfold puV puE
  cases okB es <;> rfl
set_option maxRecDepth 100000 in
set_option maxHeartbeats 4000000 in
theorem walk_BlockPuts (a : Option Addr) (cap : Nat) (es : List Ent) (w : World) (h : RdE w a es) (hok : okV es) (hl : es.length ≤ maxLen) :
    Calls Try.prog 3 #[.slice a es.length cap] w fun e w' => e = .returned (.bool true) ∧ Below w.heap.size w w' := by
  unfold maxLen at hl
  obtain ⟨n, hn⟩ : ∃ n, es.length = n := ⟨_, rfl⟩
  rw [hn] at hl ⊢
  obtain ⟨r, hr⟩ : ∃ r, liteB es = r := ⟨_, rfl⟩
  have HLi := Lib.hid (light_any a n cap es w (by omega) hn h hok r hr)
  have HAw := Lib.hid fun w => awake9_any w
  have HRd := Lib.hid h
  cases r with
  | false =>
    clear hr hn h hok
    go_enter Try.func3, Try.ntmps3
    go_wp2_with fail
    refine HLi.out.mono ?_
    rintro e w1 ⟨rfl, b1⟩
    go_wp2_with fail
    refine (HAw.out _).mono ?_
    rintro e w2 ⟨rfl, b2⟩
    go_wp2
    go_ret
    exact ⟨rfl, bt b1 b2⟩
  | true =>
    obtain ⟨c, hc⟩ : ∃ c, okB es = c := ⟨_, rfl⟩
    have HP := Lib.hid fun w h => put9_any a n cap es w (by omega) hn h hok
    have HRP := Lib.hid fun w h => rput9_any a n cap es w (by omega) hn h hok
    have HC := Lib.hid fun w h => chk9_any a n cap es w (by omega) hn h hok c hc
    have HRC := Lib.hid fun w h => rchk9_any a n cap es w (by omega) hn h hok c hc
    obtain ⟨V, hV⟩ : ∃ V, V = puV es := ⟨_, rfl⟩
    obtain ⟨E, hE⟩ : ∃ E, E = puE es := ⟨_, rfl⟩
    have HV := Lib.hid (And.intro hV hE)
    obtain ⟨C, hC⟩ : ∃ C, C = chkV c := ⟨_, rfl⟩
    rw [← hC] at HC HRC
    clear hr hn h hok hc hV hE hC
    go_enter Try.func3, Try.ntmps3
    go_wp2_with fail
    refine HLi.out.mono ?_
    rintro e w1 ⟨rfl, b1⟩
    have HR1 := Lib.hid (HRd.out.old b1)
    have HW1 := Lib.hid b1
    clear b1
    go_wp2_with fail
    refine (HP.out _ HR1.out).mono ?_
    rintro e w2 hp2
    obtain ⟨rfl, b2⟩ := pu_eq hp2
    rw [← HV.out.1, ← HV.out.2]
    have HR2 := Lib.hid (HR1.out.old b2)
    have HW2 := Lib.hid (bt HW1.out b2)
    clear b2 hp2
    go_wp2_with fail
    refine (HRP.out _ HR2.out).mono ?_
    rintro e w3 hp3
    obtain ⟨rfl, b3⟩ := pu_eq hp3
    rw [← HV.out.1, ← HV.out.2]
    have HR3 := Lib.hid (HR2.out.old b3)
    have HW3 := Lib.hid (bt HW2.out b3)
    clear b3 hp3
    go_wp2_with fail
    refine (HC.out _ HR3.out).mono ?_
    rintro e w4 ⟨rfl, b4⟩
    have HR4 := Lib.hid (HR3.out.old b4)
    have HW4 := Lib.hid (bt HW3.out b4)
    clear b4
    go_wp2_with fail
    refine (HRC.out _ HR4.out).mono ?_
    rintro e w5 ⟨rfl, b5⟩
    have HW5 := Lib.hid (bt HW4.out b5)
    clear b5
    go_wp2_with fail
    refine (HAw.out _).mono ?_
    rintro e w6 ⟨rfl, b6⟩
    have HW6 := Lib.hid (bt HW5.out b6)
    go_wp2
    go_ret
    exact ⟨rfl, HW6.out⟩
set_option maxRecDepth 100000 in
set_option maxHeartbeats 4000000 in
theorem walk_BlockTakes (s : ByteArray) (hs : s.size ≤ 140737488351232) (w : World) :
    Calls Try.prog 4 #[.string s] w fun e w' => e = .returned (.bool true) ∧ Below w.heap.size w w' := by
  have HAw := Lib.hid fun w => awake9_any w
  by_cases h4 : 4096 < s.size
  · have h4i : (4096 : Int) < (s.size : Int) := by omega
    go_enter Try.func4, Try.ntmps4
    go_wp2_with fail
    refine (HAw.out _).mono ?_
    rintro e w2 ⟨rfl, b2⟩
    go_wp2
    go_ret
    exact ⟨rfl, b2⟩
  · have h4i : (s.size : Int) ≤ 4096 := by omega
    have HT := Lib.hid fun w => take9_any s w (by omega)
    have HRT := Lib.hid fun w => rtake9_any s w (by omega)
    obtain ⟨E, hE⟩ : ∃ E : Int, E = if takeB s.data.toList = none then 90 else 0 := ⟨_, rfl⟩
    have HE := Lib.hid hE
    clear hE
    go_enter Try.func4, Try.ntmps4
    go_wp2_with fail
    refine (HT.out _).mono ?_
    rintro e w1 ⟨a1, m1, c1, es1, rfl, hm1, hr1, hf1, hn1, b1⟩
    rw [← HE.out]
    have HR1 := Lib.hid hr1
    have HI1 := Lib.hid (And.intro hm1 (And.intro hf1 hn1))
    have HW1 := Lib.hid b1
    clear b1 hr1 hm1 hf1 hn1
    go_wp2_with fail
    refine (HRT.out _).mono ?_
    rintro e w2 ⟨a2, m2, c2, es2, rfl, hm2, hr2, hf2, hn2, b2⟩
    rw [← HE.out]
    have hsame : es1 = es2 := by
      cases ho : takeB s.data.toList with
      | some es => rw [HI1.out.2.1 es ho, hf2 es ho]
      | none =>
        have h1 := (HI1.out.2.2 ho).2.1
        have h2 := (hn2 ho).2.1
        rw [← HI1.out.1] at h1
        rw [← hm2] at h2
        rw [List.length_eq_zero_iff.1 h1, List.length_eq_zero_iff.1 h2]
    have hmm : m1 = m2 := by rw [← HI1.out.1, ← hm2, hsame]
    have hm1s : m1 < 9223372036854775808 := by
      rw [← HI1.out.1]
      cases ho : takeB s.data.toList with
      | some es =>
        rw [HI1.out.2.1 es ho]
        have := (takeB_back ho).2
        unfold okB at this
        simp only [Bool.and_eq_true, decide_eq_true_eq] at this
        omega
      | none => have h1 := (HI1.out.2.2 ho).2.1; rw [HI1.out.1, h1]; decide
    subst hsame hmm
    have HL1 := Lib.hid HI1.out.1
    have HR2 := Lib.hid hr2
    have HR12 := Lib.hid (HR1.out.old b2)
    have HW2 := Lib.hid (bt HW1.out b2)
    clear b2 hr2 hm2 hf2 hn2 HI1
    go_wp2_with fail
    refine (samee_any _ _ m1 _ _ es1 _ HR12.out HR2.out hm1s HL1.out).mono ?_
    rintro e w3 ⟨rfl, b3⟩
    have HW3 := Lib.hid (bt HW2.out b3)
    clear b3
    go_wp2_with fail
    refine (HAw.out _).mono ?_
    rintro e w4 ⟨rfl, b4⟩
    have HW4 := Lib.hid (bt HW3.out b4)
    go_wp2
    go_ret
    exact ⟨rfl, HW4.out⟩
end Go.Proofs.Ytjneigejcaahiaa
