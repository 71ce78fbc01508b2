/-
  Layer 11 (merge), plain: what must be seen is in what is kept. Conditions: as each says.
-/
import Derived.Test.YtgkkgiaaillhpaaMpb
namespace Go.Proofs.Ytgkkgiaaillhpaa
open Go.RowKit
set_option linter.unusedVariables false
set_option linter.unusedSimpArgs false

theorem max_seq : ∀ (L : List Ent), L ≠ [] → ∃ m ∈ L, ∀ x ∈ L, x.2.2.2 ≤ m.2.2.2
  | [], h => absurd rfl h
  | [a], _ => ⟨a, by simp, fun x hx => by rw [List.mem_singleton.1 hx]; omega⟩
  | a :: b :: L, _ => by
    obtain ⟨m, hm, hx⟩ := max_seq (b :: L) (by simp)
    by_cases h : m.2.2.2 ≤ a.2.2.2
    · refine ⟨a, by simp, fun x hxm => ?_⟩
      rcases List.mem_cons.1 hxm with rfl | hxm
      · omega
      · have := hx x hxm; omega
    · refine ⟨m, List.mem_cons_of_mem _ hm, fun x hxm => ?_⟩
      rcases List.mem_cons.1 hxm with rfl | hxm
      · omega
      · exact hx x hxm
theorem has_top {l : List Ent} {at_ : Int} {x : Ent} (hx : x ∈ l) (hs : x.2.2.2 ≤ at_) : ∃ t ∈ l, t.1 = x.1 ∧ x.2.2.2 ≤ t.2.2.2 ∧ topM l at_ t = true := by
  obtain ⟨m, hm, hmx⟩ := max_seq (l.filter fun e => (e.1.toList == x.1.toList) && decide (e.2.2.2 ≤ at_)) (by
    intro e
    have : x ∈ l.filter fun e => (e.1.toList == x.1.toList) && decide (e.2.2.2 ≤ at_) := List.mem_filter.2 ⟨hx, by simp [hs]⟩
    rw [e] at this
    simp at this)
  obtain ⟨h1, h2⟩ := List.mem_filter.1 hm
  rw [Bool.and_eq_true, likeK_iff, decide_eq_true_eq] at h2
  refine ⟨m, h1, h2.1, hmx x (List.mem_filter.2 ⟨hx, by simp [hs]⟩), topM_iff.2 ⟨h2.2, fun y hy hk hlt => ?_⟩⟩
  by_cases hya : y.2.2.2 ≤ at_
  · have := hmx y (List.mem_filter.2 ⟨hy, by rw [Bool.and_eq_true, likeK_iff, decide_eq_true_eq]; exact ⟨hk.trans h2.1, hya⟩⟩)
    omega
  · omega
/-- Is a number one of some, or above all entries? -/
def SeeAt (l : List Ent) (ps : List Int) (at_ : Int) : Prop := at_ ∈ ps ∨ ∀ e ∈ l, e.2.2.2 ≤ at_
theorem top_kept {l : List Ent} {ps : List Int} {at_ : Int} (h : SeeAt l ps at_) {e : Ent} (he : e ∈ l) (ht : topM l at_ e = true) : kepP l ps e = true := by
  unfold kepP
  rcases h with h | h
  · rw [Bool.or_eq_true]
    exact .inr (List.any_eq_true.2 ⟨at_, h, ht⟩)
  · rw [Bool.or_eq_true]
    refine .inl (maxM_iff.2 fun x hx hk => ?_)
    by_cases hlt : e.2.2.2 < x.2.2.2
    · have := (topM_iff.1 ht).2 x hx hk hlt
      have := h x hx
      omega
    · omega
theorem top_kep {l : List Ent} {ps : List Int} {at_ : Int} (h : SeeAt l ps at_) {e : Ent} (he : e ∈ l) : (kepP l ps e && topM (kepM l ps) at_ e) = topM l at_ e := by
  rw [Bool.eq_iff_iff, Bool.and_eq_true]
  constructor
  · rintro ⟨-, h2⟩
    obtain ⟨h3, h4⟩ := topM_iff.1 h2
    refine topM_iff.2 ⟨h3, fun x hx hk hlt => ?_⟩
    by_cases hxa : x.2.2.2 ≤ at_
    · obtain ⟨t, ht, hk2, hle, htop⟩ := has_top hx hxa
      have := h4 t (List.mem_filter.2 ⟨ht, top_kept h ht htop⟩) (hk2.trans hk) (by omega)
      have := (topM_iff.1 htop).1
      omega
    · omega
  · intro ht
    refine ⟨top_kept h he ht, topM_iff.2 ⟨(topM_iff.1 ht).1, fun x hx => (topM_iff.1 ht).2 x (List.mem_filter.1 hx).1⟩⟩
theorem vis_kep {l : List Ent} {ps : List Int} {at_ : Int} (h : SeeAt l ps at_) : visM (kepM l ps) at_ = visM l at_ := by
  have e : ((kepM l ps).filter fun e => topM (kepM l ps) at_ e && !e.2.2.1) = l.filter fun e => topM l at_ e && !e.2.2.1 := by
    show (l.filter (kepP l ps)).filter (fun e => topM (kepM l ps) at_ e && !e.2.2.1) = _
    rw [List.filter_filter]
    refine List.filter_congr fun e he => ?_
    rw [← top_kep h he]
    cases kepP l ps e <;> cases topM (kepM l ps) at_ e <;> cases e.2.2.1 <;> rfl
  unfold visM
  rw [e]
theorem out_low {K : List Ent} {ps : List Int} {bottom : Bool} {x : Ent} (h : outP K ps bottom x = true) : x.2.2.1 = true ∧ (∀ y ∈ K, y.1 = x.1 → x.2.2.2 ≤ y.2.2.2) ∧ ∀ p ∈ ps, x.2.2.2 ≤ p := by
  unfold outP at h
  simp only [Bool.and_eq_true, List.all_eq_true, decide_eq_true_eq] at h
  exact ⟨h.1.1.2, lstM_iff.1 h.1.2, h.2⟩
theorem vis_out (K : List Ent) (ps : List Int) (bottom : Bool) (at_ : Int) : visM (outM K ps bottom) at_ = visM K at_ := by
  have e : ((outM K ps bottom).filter fun e => topM (outM K ps bottom) at_ e && !e.2.2.1) = K.filter fun e => topM K at_ e && !e.2.2.1 := by
    obtain ⟨O, hO⟩ : ∃ O, O = outM K ps bottom := ⟨_, rfl⟩
    have hm : ∀ x, x ∈ O ↔ x ∈ K ∧ outP K ps bottom x = false := fun x => by rw [hO]; unfold outM; rw [List.mem_filter]; simp
    show (K.filter fun e => !outP K ps bottom e).filter (fun e => topM (outM K ps bottom) at_ e && !e.2.2.1) = _
    rw [List.filter_filter, ← hO]
    refine List.filter_congr fun e he => ?_
    cases hg : e.2.2.1 with
    | true => simp
    | false =>
      have ho : outP K ps bottom e = false := by
        cases hq : outP K ps bottom e with
        | false => rfl
        | true => have := (out_low hq).1; rw [hg] at this; cases this
      have ht : topM O at_ e = topM K at_ e := by
        rw [Bool.eq_iff_iff, topM_iff, topM_iff]
        refine and_congr Iff.rfl ⟨fun q x hx hk hlt => ?_, fun q x hx => q x ((hm x).1 hx).1⟩
        cases hq : outP K ps bottom x with
        | false => exact q x ((hm x).2 ⟨hx, hq⟩) hk hlt
        | true => have := (out_low hq).2.1 e he hk.symm; omega
      rw [ho, ht]
      simp
  unfold visM
  rw [e]
theorem vis_pru {l : List Ent} {ps : List Int} {at_ : Int} (h : SeeAt l ps at_) (bottom : Bool) : visM (pruM l ps bottom) at_ = visM l at_ := by
  unfold pruM
  rw [vis_out, vis_kep h]
theorem pru_ok {l : List Ent} (h : okB l = true) (ps : List Int) (bottom : Bool) : okB (pruM l ps bottom) = true ∧ (pruM l ps bottom).length ≤ l.length := by
  have hs : (pruM l ps bottom).Sublist l := (List.filter_sublist).trans List.filter_sublist
  exact ⟨pw_ok ((okB_pw h).sublist hs) (fun e he => okB_may h e (hs.subset he)) (Nat.le_trans hs.length_le (okB_iff.1 h).1), hs.length_le⟩
theorem has_max {l : List Ent} {x : Ent} (hx : x ∈ l) : ∃ t ∈ l, t.1 = x.1 ∧ x.2.2.2 ≤ t.2.2.2 ∧ maxM l t = true := by
  obtain ⟨m, hm, hmx⟩ := max_seq (l.filter fun e => e.1.toList == x.1.toList) (by
    intro e
    have : x ∈ l.filter fun e => e.1.toList == x.1.toList := List.mem_filter.2 ⟨hx, by simp⟩
    rw [e] at this
    simp at this)
  obtain ⟨h1, h2⟩ := List.mem_filter.1 hm
  rw [likeK_iff] at h2
  exact ⟨m, h1, h2, hmx x (List.mem_filter.2 ⟨hx, by simp⟩), maxM_iff.2 fun y hy hk => hmx y (List.mem_filter.2 ⟨hy, by rw [likeK_iff]; exact hk.trans h2⟩)⟩
theorem max_kep {l : List Ent} {ps : List Int} {e : Ent} (he : e ∈ l) : (kepP l ps e && maxM (kepM l ps) e) = maxM l e := by
  have hk : ∀ t, maxM l t = true → kepP l ps t = true := fun t ht => by unfold kepP; rw [ht]; rfl
  rw [Bool.eq_iff_iff, Bool.and_eq_true]
  constructor
  · rintro ⟨-, h2⟩
    refine maxM_iff.2 fun x hx hkx => ?_
    obtain ⟨t, ht, hk2, hle, hmax⟩ := has_max hx
    have := maxM_iff.1 h2 t (List.mem_filter.2 ⟨ht, hk t hmax⟩) (hk2.trans hkx)
    omega
  · intro hm
    exact ⟨hk e hm, maxM_iff.2 fun x hx => maxM_iff.1 hm x (List.mem_filter.1 hx).1⟩
theorem sin_kep (l : List Ent) (ps : List Int) (at_ : Int) : sinM (kepM l ps) at_ = sinM l at_ := by
  unfold sinM
  show (l.filter (kepP l ps)).filter (fun e => maxM (kepM l ps) e && decide (at_ < e.2.2.2)) = _
  rw [List.filter_filter]
  refine List.filter_congr fun e he => ?_
  rw [← max_kep (ps := ps) he]
  cases kepP l ps e <;> cases maxM (kepM l ps) e <;> cases decide (at_ < e.2.2.2) <;> rfl
theorem sin_out {K : List Ent} {ps : List Int} {at_ : Int} (h : SeeAt K ps at_) (bottom : Bool) : sinM (outM K ps bottom) at_ = sinM K at_ := by
  unfold sinM
  obtain ⟨O, hO⟩ : ∃ O, O = outM K ps bottom := ⟨_, rfl⟩
  have hm : ∀ x, x ∈ O ↔ x ∈ K ∧ outP K ps bottom x = false := fun x => by rw [hO]; unfold outM; rw [List.mem_filter]; simp
  show (K.filter fun e => !outP K ps bottom e).filter (fun e => maxM (outM K ps bottom) e && decide (at_ < e.2.2.2)) = _
  rw [List.filter_filter, ← hO]
  refine List.filter_congr fun e he => ?_
  cases ho : outP K ps bottom e with
  | true =>
    have hle : ¬ at_ < e.2.2.2 := by
      rcases h with h | h
      · have := (out_low ho).2.2 at_ h; omega
      · have := h e he; omega
    simp [hle]
  | false =>
    have ht : maxM O e = maxM K e := by
      rw [Bool.eq_iff_iff, maxM_iff, maxM_iff]
      refine ⟨fun q x hx hk => ?_, fun q x hx => q x ((hm x).1 hx).1⟩
      cases hq : outP K ps bottom x with
      | false => exact q x ((hm x).2 ⟨hx, hq⟩) hk
      | true => exact (out_low hq).2.1 e he hk.symm
    rw [ht]
    simp
theorem sin_pru {l : List Ent} {ps : List Int} {at_ : Int} (h : SeeAt l ps at_) (bottom : Bool) : sinM (pruM l ps bottom) at_ = sinM l at_ := by
  have hk : SeeAt (kepM l ps) ps at_ := h.imp id fun q e he => q e (List.mem_filter.1 he).1
  unfold pruM
  rw [sin_out hk, sin_kep]
end Go.Proofs.Ytgkkgiaaillhpaa
