/-
  Layer 11 (merge), plain: what must be kept, key by key. Conditions: entries of one key, falling in number.
-/
import Derived.Test.YtdpinkipcaolhaaMw
namespace Go.Proofs.Ytdpinkipcaolhaa
open Go.RowKit
set_option linter.unusedVariables false
set_option linter.unusedSimpArgs false

/-- Fewer numbers lie below the lesser one just where one lies between. -/
theorem bel_lt {ps : List Int} {x p : Int} (h : x < p) : belN ps x < belN ps p ↔ ∃ q ∈ ps, x ≤ q ∧ q < p := by
  unfold belN
  induction ps with
  | nil => simp
  | cons q ps ih =>
    have hle : ps.countP (· < x) ≤ ps.countP (· < p) := List.countP_mono_left fun a _ ha => by
      have : a < x := by simpa using ha
      simp
      omega
    rw [List.countP_cons, List.countP_cons]
    by_cases h1 : q < x
    · have h2 : q < p := by omega
      simp only [h1, h2, decide_true, if_true, List.mem_cons, exists_eq_or_imp]
      rw [Nat.add_lt_add_iff_right, ih]
      constructor
      · exact .inr
      · rintro (⟨h3, _⟩ | h3)
        · omega
        · exact h3
    · by_cases h2 : q < p
      · simp only [h1, h2, decide_true, decide_false, if_true, List.mem_cons, exists_eq_or_imp]
        constructor
        · intro _; exact .inl ⟨by omega, trivial⟩
        · intro _; simp; omega
      · simp only [h1, h2, decide_false, List.mem_cons, exists_eq_or_imp]
        simp only [Bool.false_eq_true, if_false, Nat.add_zero]
        rw [ih]
        constructor
        · exact .inr
        · rintro (⟨_, h3⟩ | h3)
          · exact h3.elim
          · exact h3
theorem top_next {A l : List Ent} {p x : Ent} {q : Int} (h : Fall (A ++ p :: x :: l)) : topM (A ++ p :: x :: l) q x = true ↔ x.2.2.2 ≤ q ∧ q < p.2.2.2 := by
  obtain ⟨hA, hr, hAr⟩ := List.pairwise_append.1 h
  obtain ⟨hp, hxl⟩ := List.pairwise_cons.1 hr
  obtain ⟨hx, -⟩ := List.pairwise_cons.1 hxl
  have hpx := hp x (by simp)
  rw [topM_iff]
  refine and_congr Iff.rfl ⟨fun k => k p (by simp) hpx.1 hpx.2, fun k y hy hk hlt => ?_⟩
  rcases List.mem_append.1 hy with hy | hy
  · have := (hAr y hy p (by simp)).2; omega
  · rcases List.mem_cons.1 hy with rfl | hy
    · exact k
    · rcases List.mem_cons.1 hy with rfl | hy
      · omega
      · have := (hx y hy).2; omega
theorem kepR_fall (ps : List Int) : ∀ (r A : List Ent) (p : Ent), Fall (A ++ p :: r) → kepR ps p r = r.filter (fun x => ps.any fun q => topM (A ++ p :: r) q x)
  | [], _, _, _ => rfl
  | x :: l, A, p, h => by
    have e1 : (A ++ [p]) ++ x :: l = A ++ p :: x :: l := by simp
    have ih := kepR_fall ps l (A ++ [p]) x (by rw [e1]; exact h)
    rw [e1] at ih
    have hpx : x.2.2.2 < p.2.2.2 := ((List.pairwise_cons.1 (List.pairwise_append.1 h).2.1).1 x (by simp)).2
    have hb : (ps.any fun q => topM (A ++ p :: x :: l) q x) = true ↔ belN ps x.2.2.2 < belN ps p.2.2.2 := by
      rw [bel_lt hpx, List.any_eq_true]
      exact ⟨fun ⟨q, h1, h2⟩ => ⟨q, h1, (top_next h).1 h2⟩, fun ⟨q, h1, h2⟩ => ⟨q, h1, (top_next h).2 h2⟩⟩
    rw [kepR, ih]
    by_cases hc : belN ps x.2.2.2 < belN ps p.2.2.2
    · rw [if_pos hc, List.filter_cons_of_pos (p := fun x' => ps.any fun q => topM (A ++ p :: x :: l) q x') (hb.2 hc)]
      rfl
    · rw [if_neg hc, List.filter_cons_of_neg (p := fun x' => ps.any fun q => topM (A ++ p :: x :: l) q x') (fun q => hc (hb.1 q))]
      rfl
theorem kep_grp {ps : List Int} {g : List Ent} (h : Fall g) : kepG ps g = kepM g ps := by
  cases g with
  | nil => rfl
  | cons e r =>
    obtain ⟨h1, h2⟩ := List.pairwise_cons.1 h
    have he : maxM (e :: r) e = true := maxM_iff.2 fun x hx _ => by
      rcases List.mem_cons.1 hx with rfl | hx
      · omega
      · have := (h1 x hx).2; omega
    have hr : r.filter (kepP (e :: r) ps) = r.filter (fun x => ps.any fun q => topM (e :: r) q x) := List.filter_congr fun x hx => by
      have hm : maxM (e :: r) x = false := by
        cases hq : maxM (e :: r) x with
        | false => rfl
        | true =>
          have := maxM_iff.1 hq e (by simp) (h1 x hx).1
          have := (h1 x hx).2
          omega
      unfold kepP
      rw [hm, Bool.false_or]
    unfold kepM
    rw [List.filter_cons_of_pos (by unfold kepP; rw [he]; rfl), hr]
    show e :: kepR ps e r = _
    rw [kepR_fall ps r [] e h]
    rfl
theorem lstM_left {A B : List Ent} {e : Ent} (h : ∀ b ∈ B, ¬ b.1 = e.1) : lstM (A ++ B) e = lstM A e := by
  rw [Bool.eq_iff_iff, lstM_iff, lstM_iff]
  refine ⟨fun q x hx => q x (by simp [hx]), fun q x hx hk => ?_⟩
  rcases List.mem_append.1 hx with hx | hx
  · exact q x hx hk
  · exact absurd hk (h x hx)
theorem lstM_right {A B : List Ent} {e : Ent} (h : ∀ a ∈ A, ¬ a.1 = e.1) : lstM (A ++ B) e = lstM B e := by
  rw [Bool.eq_iff_iff, lstM_iff, lstM_iff]
  refine ⟨fun q x hx => q x (by simp [hx]), fun q x hx hk => ?_⟩
  rcases List.mem_append.1 hx with hx | hx
  · exact absurd hk (h x hx)
  · exact q x hx hk
theorem kepM_app {A B : List Ent} (h : Apart2 A B) (ps : List Int) : kepM (A ++ B) ps = kepM A ps ++ kepM B ps := by
  unfold kepM
  rw [List.filter_append]
  congr 1
  · refine List.filter_congr fun e he => ?_
    unfold kepP
    rw [maxM_left (fun b hb q => h e he b hb q.symm)]
    congr 1
    exact List.any_congr rfl fun q => topM_left (fun b hb q => h e he b hb q.symm)
  · refine List.filter_congr fun e he => ?_
    unfold kepP
    rw [maxM_right (fun a ha q => h a ha e he q)]
    congr 1
    exact List.any_congr rfl fun q => topM_right (fun a ha q => h a ha e he q)
theorem outM_app {A B : List Ent} (h : Apart2 A B) (ps : List Int) (bottom : Bool) : outM (A ++ B) ps bottom = outM A ps bottom ++ outM B ps bottom := by
  unfold outM
  rw [List.filter_append]
  congr 1
  · refine List.filter_congr fun e he => ?_
    unfold outP
    rw [lstM_left (fun b hb q => h e he b hb q.symm)]
  · refine List.filter_congr fun e he => ?_
    unfold outP
    rw [lstM_right (fun a ha q => h a ha e he q)]
theorem pruM_app {A B : List Ent} (h : Apart2 A B) (ps : List Int) (bottom : Bool) : pruM (A ++ B) ps bottom = pruM A ps bottom ++ pruM B ps bottom := by
  unfold pruM
  rw [kepM_app h]
  exact outM_app (fun a ha b hb => h a (List.mem_filter.1 ha).1 b (List.mem_filter.1 hb).1) ps bottom
theorem out_last {K : List Ent} {e : Ent} {ps : List Int} {bottom : Bool} (h : Fall (K ++ [e])) : outM (K ++ [e]) ps bottom = K ++ (if (bottom && e.2.2.1 && (belN ps e.2.2.2 == 0)) = true then [] else [e]) := by
  obtain ⟨h1, -, h3⟩ := List.pairwise_append.1 h
  unfold outM
  rw [List.filter_append]
  congr 1
  · refine List.filter_eq_self.2 fun x hx => ?_
    have hl : lstM (K ++ [e]) x = false := by
      cases hq : lstM (K ++ [e]) x with
      | false => rfl
      | true =>
        have := lstM_iff.1 hq e (by simp) (h3 x hx e (by simp)).1.symm
        have := (h3 x hx e (by simp)).2
        omega
    unfold outP
    rw [hl]
    simp
  · have hl : lstM (K ++ [e]) e = true := lstM_iff.2 fun x hx _ => by
      rcases List.mem_append.1 hx with hx | hx
      · have := (h3 x hx e (by simp)).2; omega
      · rw [List.mem_singleton.1 hx]; omega
    have hb : (belN ps e.2.2.2 == 0) = ps.all fun p => decide (e.2.2.2 ≤ p) := by
      rw [Bool.eq_iff_iff, beq_iff_eq]
      unfold belN
      rw [List.countP_eq_zero, List.all_eq_true]
      exact ⟨fun q p hp => by have := q p hp; simp at this ⊢; omega, fun q p hp => by have := q p hp; simp at this ⊢; omega⟩
    have ho : outP (K ++ [e]) ps bottom e = (bottom && e.2.2.1 && (belN ps e.2.2.2 == 0)) := by
      unfold outP
      rw [hl, hb, Bool.and_true]
    cases hc : (bottom && e.2.2.1 && (belN ps e.2.2.2 == 0)) with
    | true => rw [hc] at ho; simp [ho]
    | false => rw [hc] at ho; simp [ho]
theorem pru_grp {ps : List Int} {bottom : Bool} {g : List Ent} (h : Fall g) (hg : 0 < g.length) : pruG ps bottom g = pruM g ps bottom := by
  have hk := kep_grp (ps := ps) h
  have hf : Fall (kepG ps g) := by
    rw [hk]
    exact List.Pairwise.sublist List.filter_sublist h
  have hne : kepG ps g ≠ [] := by
    cases g with
    | nil => simp at hg
    | cons e r => simp [kepG]
  unfold pruM
  rw [← hk]
  obtain ⟨K, hK⟩ : ∃ K, K = kepG ps g := ⟨_, rfl⟩
  unfold pruG
  rw [← hK] at hf hne ⊢
  rcases List.eq_nil_or_concat K with e | ⟨L, b, e⟩
  · exact absurd e hne
  · rw [List.concat_eq_append] at e
    rw [e] at hf ⊢
    rw [out_last hf, List.getLast?_concat]
    dsimp only
    rw [List.dropLast_concat]
    split
    · rw [List.append_nil]
    · rfl
theorem pru_groups (ps : List Int) (bottom : Bool) : ∀ (n i : Nat) (l : List Ent), l.length ≤ n → PW l → pruA ps bottom (groupsE i l) = pruM l ps bottom
  | 0, i, l, hn, _ => by
    obtain rfl : l = [] := List.eq_nil_of_length_eq_zero (by omega)
    rw [groups_nil]; rfl
  | n + 1, i, l, hn, h => by
    by_cases h0 : 0 < l.length
    · have hp := runN_pos h0
      rw [groups_cons h0]
      show pruG ps bottom (l.take (runN l)) ++ pruA ps bottom (groupsE (i + runN l) (l.drop (runN l))) = _
      rw [pru_groups ps bottom n _ _ (by rw [List.length_drop]; omega) (h.sublist (List.drop_sublist _ _)), pru_grp (run_fall h) (by rw [List.length_take]; omega), ← pruM_app (run_apart h), List.take_append_drop]
    · obtain rfl : l = [] := List.eq_nil_of_length_eq_zero (by omega)
      rw [groups_nil]; rfl
theorem pruA_eq (ps : List Int) (bottom : Bool) (es : List Ent) : pruA ps bottom (allG es) = (if okB es = true then pruM es ps bottom else []) := by
  unfold allG
  split
  · rename_i h; exact pru_groups ps bottom _ 0 es (Nat.le_refl _) (okB_pw h)
  · rfl
end Go.Proofs.Ytdpinkipcaolhaa
