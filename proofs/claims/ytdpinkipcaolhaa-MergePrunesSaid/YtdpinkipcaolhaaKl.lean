/-
  Layer 9 (block), contracts of Less, mayBe, follows, common, of the code and of the document's answer. Conditions: texts within the reach.
-/
import Derived.Test.YtdpinkipcaolhaaKp
import Derived.Test.YtdpinkipcaolhaaRg
import Derived.Deep.RegionHeld3
namespace Go.Proofs.Ytdpinkipcaolhaa
open Go.RowKit
set_option linter.unusedVariables false
set_option linter.unusedSimpArgs false

theorem str_ne {a b : ByteArray} (h : ¬ a = b) : (a.toList == b.toList) = false := by
  rw [beq_eq_false_iff_ne]
  exact fun e => h (ba_ext e)
set_option maxHeartbeats 1000000 in
theorem less_any (k1 v1 : ByteArray) (g1 : Bool) (q1 : Int) (k2 v2 : ByteArray) (g2 : Bool) (q2 : Int) (b : Bool) (h : lessE (k1, v1, g1, q1) (k2, v2, g2, q2) = b) (w : World) :
    Calls Try.prog 59 #[.agg #[.string k1, .string v1, .bool g1, .int .i64 q1], .agg #[.string k2, .string v2, .bool g2, .int .i64 q2]] w fun x w' => x = .returned (.bool b) ∧ Below w.heap.size w w' := by
  by_cases hk : k1 = k2
  · subst hk
    rw [less_same (a := (k1, v1, g1, q1)) (b := (k1, v2, g2, q2)) rfl] at h
    simp only at h
    by_cases hq : q2 < q1
    · obtain rfl : b = true := by rw [← h]; simpa using hq
      clear h
      go_enter Try.func59, Try.ntmps59
      go_wp2
      go_ret
      exact ⟨rfl, ((Below.refl _ _).alloc (Nat.le_refl _) _).alloc (by simp) _⟩
    · obtain rfl : b = false := by rw [← h]; simpa using hq
      clear h
      go_enter Try.func59, Try.ntmps59
      go_wp2
      go_ret
      exact ⟨rfl, ((Below.refl _ _).alloc (Nat.le_refl _) _).alloc (by simp) _⟩
  · rw [less_key hk] at h
    have hn := str_ne hk
    have hb : Op.bytesLess k1.toList k2.toList = b := h
    clear h hk
    go_enter Try.func59, Try.ntmps59
    go_wp2
    go_ret
    exact ⟨by first | rfl | rw [hb], ((Below.refl _ _).alloc (Nat.le_refl _) _).alloc (by simp) _⟩
set_option maxHeartbeats 1000000 in
theorem rless_any (k1 v1 : ByteArray) (g1 : Bool) (q1 : Int) (k2 v2 : ByteArray) (g2 : Bool) (q2 : Int) (b : Bool) (h : lessE (k1, v1, g1, q1) (k2, v2, g2, q2) = b) (w : World) :
    Calls Try.prog 41 #[.agg #[.string k1, .string v1, .bool g1, .int .i64 q1], .agg #[.string k2, .string v2, .bool g2, .int .i64 q2]] w fun x w' => x = .returned (.bool b) ∧ Below w.heap.size w w' := by
  by_cases hk : k1 = k2
  · subst hk
    rw [less_same (a := (k1, v1, g1, q1)) (b := (k1, v2, g2, q2)) rfl] at h
    simp only at h
    have h0 : Op.bytesLess k1.toList k1.toList = false := ltB_irr k1
    by_cases hq : q2 < q1
    · obtain rfl : b = true := by rw [← h]; simpa using hq
      clear h
      go_enter Try.func41, Try.ntmps41
      go_wp2
      go_ret
      exact ⟨rfl, ((Below.refl _ _).alloc (Nat.le_refl _) _).alloc (by simp) _⟩
    · obtain rfl : b = false := by rw [← h]; simpa using hq
      clear h
      go_enter Try.func41, Try.ntmps41
      go_wp2
      go_ret
      exact ⟨rfl, ((Below.refl _ _).alloc (Nat.le_refl _) _).alloc (by simp) _⟩
  · rw [less_key hk] at h
    have hn := str_ne hk
    have hb : Op.bytesLess k1.toList k2.toList = b := h
    clear h hk
    cases b
    all_goals
      go_enter Try.func41, Try.ntmps41
      go_wp2
      go_ret
      exact ⟨rfl, ((Below.refl _ _).alloc (Nat.le_refl _) _).alloc (by simp) _⟩
/-- In which ways an entry may be, or not. -/
theorem may_ways (k v : ByteArray) (g : Bool) (q : Int) :
    (g = true ∧ ¬ v.toList = [] ∧ mayE (k, v, g, q) = false) ∨
    (((g = false) ∨ (g = true ∧ v = ⟨#[]⟩)) ∧
      ((keyB k = false ∧ mayE (k, v, g, q) = false) ∨
       (keyB k = true ∧ ((256 < (v.size : Int) ∧ mayE (k, v, g, q) = false) ∨
         ((v.size : Int) ≤ 256 ∧ ((q < 1 ∧ mayE (k, v, g, q) = false) ∨ (1 ≤ q ∧ ((1099511627775 < q ∧ mayE (k, v, g, q) = false) ∨ (q ≤ 1099511627775 ∧ mayE (k, v, g, q) = true))))))))) := by
  by_cases h0 : g = true ∧ ¬ v.toList = []
  · refine .inl ⟨h0.1, h0.2, ?_⟩
    cases hm : mayE (k, v, g, q) with
    | false => rfl
    | true =>
      have := (may_iff.1 hm).2.2.1 h0.1
      subst this
      exact absurd (by rw [Lib.toList_data]) h0.2
  · refine .inr ⟨?_, ?_⟩
    · cases g with
      | false => exact .inl rfl
      | true =>
        refine .inr ⟨rfl, emB_iff.1 ?_⟩
        unfold emB
        rw [List.isEmpty_iff]
        exact Classical.byContradiction fun h => h0 ⟨rfl, h⟩
    · have hv : g = true → v = ⟨#[]⟩ := fun h => emB_iff.1 (by unfold emB; rw [List.isEmpty_iff]; exact Classical.byContradiction fun h' => h0 ⟨h, h'⟩)
      have no : ∀ {p : Prop}, (mayE (k, v, g, q) = true → ¬ p) → p → mayE (k, v, g, q) = false := fun f hp => by
        cases hm : mayE (k, v, g, q) with
        | false => rfl
        | true => exact absurd hp (f hm)
      cases hk : keyB k with
      | false => exact .inl ⟨rfl, no (p := keyB k = false) (fun hm => by rw [(may_iff.1 hm).1]; decide) hk⟩
      | true =>
        refine .inr ⟨rfl, ?_⟩
        by_cases h1 : 256 < (v.size : Int)
        · exact .inl ⟨h1, no (fun hm => by have := (may_iff.1 hm).2.1; omega) h1⟩
        · refine .inr ⟨by omega, ?_⟩
          by_cases h2 : q < 1
          · exact .inl ⟨h2, no (fun hm => by have := (may_iff.1 hm).2.2.2.1; omega) h2⟩
          · refine .inr ⟨by omega, ?_⟩
            by_cases h3 : 1099511627775 < q
            · exact .inl ⟨h3, no (fun hm => by have := (may_iff.1 hm).2.2.2.2; omega) h3⟩
            · exact .inr ⟨by omega, may_iff.2 ⟨hk, by omega, hv, by omega, by omega⟩⟩
set_option maxHeartbeats 4000000 in
theorem mayBe_any (k v : ByteArray) (g : Bool) (q : Int) (b : Bool) (h : mayE (k, v, g, q) = b) (h1 : okS k) (h2 : okS v) (w : World) :
    Calls Try.prog 64 #[.agg #[.string k, .string v, .bool g, .int .i64 q]] w fun x w' => x = .returned (.bool b) ∧ Below w.heap.size w w' := by
  unfold okS at h2
  rcases may_ways k v g q with ⟨rfl, hv, hm⟩ | ⟨hg, hw⟩
  · have hvi : v.toList.isEmpty = false := by simpa using hv
    obtain rfl : b = false := by rw [← h]; exact hm
    clear h hm
    go_enter Try.func64, Try.ntmps64
    go_wp2
    go_ret
    exact ⟨by first | rfl | exact ret_bool (decide_eq_true (by assumption)) | exact ret_bool (decide_eq_false (by omega)), (Below.refl _ _).alloc (Nat.le_refl _) _⟩
  · rcases hw with ⟨hk, hm⟩ | ⟨hk, hw⟩
    · obtain rfl : b = false := by rw [← h]; exact hm
      have HK := Lib.hid fun w => key_eq k _ hk h1 w
      clear h hm hk
      rcases hg with rfl | ⟨rfl, rfl⟩
      all_goals
        go_enter Try.func64, Try.ntmps64
        go_wp2_with fail
        refine (HK.out _).mono ?_
        rintro e w1 ⟨rfl, rfl⟩
        go_wp2
        go_ret
        exact ⟨by first | rfl | exact ret_bool (decide_eq_true (by assumption)) | exact ret_bool (decide_eq_false (by omega)), (Below.refl _ _).alloc (Nat.le_refl _) _⟩
    · have HK := Lib.hid fun w => key_eq k _ hk h1 w
      rcases hw with ⟨hv, hm⟩ | ⟨hv, hw⟩
      · obtain rfl : b = false := by rw [← h]; exact hm
        clear h hm hk
        rcases hg with rfl | ⟨rfl, rfl⟩
        · go_enter Try.func64, Try.ntmps64
          go_wp2_with fail
          refine (HK.out _).mono ?_
          rintro e w1 ⟨rfl, rfl⟩
          go_wp2
          go_ret
          exact ⟨by first | rfl | exact ret_bool (decide_eq_true (by assumption)) | exact ret_bool (decide_eq_false (by omega)), (Below.refl _ _).alloc (Nat.le_refl _) _⟩
        · exact absurd hv (by decide)
      · rcases hw with ⟨hq, hm⟩ | ⟨hq, ⟨hq2, hm⟩ | ⟨hq2, hm⟩⟩
        all_goals
          obtain rfl : b = _ := h.symm.trans hm
          clear h hm hk
          rcases hg with rfl | ⟨rfl, rfl⟩
          all_goals
            go_enter Try.func64, Try.ntmps64
            go_wp2_with fail
            refine (HK.out _).mono ?_
            rintro e w1 ⟨rfl, rfl⟩
            go_wp2
            go_ret
            exact ⟨by first | rfl | exact ret_bool (decide_eq_true (by assumption)) | exact ret_bool (decide_eq_false (by omega)), (Below.refl _ _).alloc (Nat.le_refl _) _⟩
set_option maxHeartbeats 4000000 in
theorem rmay09_any (k v : ByteArray) (g : Bool) (q : Int) (b : Bool) (h : mayE (k, v, g, q) = b) (h1 : okS k) (h2 : okS v) (w : World) :
    Calls Try.prog 40 #[.agg #[.string k, .string v, .bool g, .int .i64 q]] w fun x w' => x = .returned (.bool b) ∧ Below w.heap.size w w' := by
  unfold okS at h2
  by_cases hk : keyB k = true
  · have HK := Lib.hid fun w => rkey_eq k _ hk h1 w
    by_cases hv : 256 < (v.size : Int)
    · obtain rfl : b = false := by
        rw [← h]
        cases hm : mayE (k, v, g, q) with
        | false => rfl
        | true => have := (may_iff.1 hm).2.1; omega
      clear h hk
      go_enter Try.func40, Try.ntmps40
      go_wp2_with fail
      refine (HK.out _).mono ?_
      rintro e w1 ⟨rfl, rfl⟩
      go_wp2
      go_ret
      exact ⟨by first | rfl | exact ret_bool (decide_eq_true (by assumption)) | exact ret_bool (decide_eq_false (by omega)), (Below.refl _ _).alloc (Nat.le_refl _) _⟩
    · have hv' : (v.size : Int) ≤ 256 := by omega
      clear hv
      rcases may_ways k v g q with ⟨rfl, hv, hm⟩ | ⟨hg, hw⟩
      · have hvi : v.toList.isEmpty = false := by simpa using hv
        obtain rfl : b = false := by rw [← h]; exact hm
        clear h hm hk
        go_enter Try.func40, Try.ntmps40
        go_wp2_with fail
        refine (HK.out _).mono ?_
        rintro e w1 ⟨rfl, rfl⟩
        go_wp2
        go_ret
        exact ⟨by first | rfl | exact ret_bool (decide_eq_true (by assumption)) | exact ret_bool (decide_eq_false (by omega)), (Below.refl _ _).alloc (Nat.le_refl _) _⟩
      · rcases hw with ⟨hk', hm⟩ | ⟨_, hw⟩
        · rw [hk] at hk'; cases hk'
        · rcases hw with ⟨hv, hm⟩ | ⟨_, hw⟩
          · omega
          · rcases hw with ⟨hq, hm⟩ | ⟨hq, ⟨hq2, hm⟩ | ⟨hq2, hm⟩⟩
            all_goals
              obtain rfl : b = _ := h.symm.trans hm
              clear h hm hk
              rcases hg with rfl | ⟨rfl, rfl⟩
              all_goals
                go_enter Try.func40, Try.ntmps40
                go_wp2_with fail
                refine (HK.out _).mono ?_
                rintro e w1 ⟨rfl, rfl⟩
                go_wp2
                go_ret
                exact ⟨by first | rfl | exact ret_bool (decide_eq_true (by assumption)) | exact ret_bool (decide_eq_false (by omega)), (Below.refl _ _).alloc (Nat.le_refl _) _⟩
  · have hk' : keyB k = false := by simpa using hk
    have HK := Lib.hid fun w => rkey_eq k _ hk' h1 w
    obtain rfl : b = false := by
      rw [← h]
      cases hm : mayE (k, v, g, q) with
      | false => rfl
      | true => exact absurd (may_iff.1 hm).1 hk
    clear h hk hk'
    go_enter Try.func40, Try.ntmps40
    go_wp2_with fail
    refine (HK.out _).mono ?_
    rintro e w1 ⟨rfl, rfl⟩
    go_wp2
    go_ret
    exact ⟨by first | rfl | exact ret_bool (decide_eq_true (by assumption)) | exact ret_bool (decide_eq_false (by omega)), (Below.refl _ _).alloc (Nat.le_refl _) _⟩
end Go.Proofs.Ytdpinkipcaolhaa
