/-
  Layer 11 (merge), plain: lists merged one by one, or all at once. Conditions: as each says.
-/
import Derived.Test.YtgkkgiaaillhpaaMGo
namespace Go.Proofs.Ytgkkgiaaillhpaa
open Go.RowKit
set_option linter.unusedVariables false
set_option linter.unusedSimpArgs false

/-- No two entries of one place. -/
def OneP (P : List Ent) : Prop := ∀ a ∈ P, ∀ b ∈ P, a.1 = b.1 → a.2.2.2 = b.2.2.2 → a = b
theorem allM_mem {P : List Ent} (hm : ∀ e ∈ P, mayE e = true) (hu : OneP P) (e : Ent) : e ∈ allM P ↔ e ∈ P := by
  rw [(allM_all hm).1 e]
  constructor
  · exact List.mem_of_find?_eq_some
  · intro he
    have h1 : (P.find? (atM e.1 e.2.2.2)).isSome = true := List.find?_isSome.2 ⟨e, he, atM_iff.2 ⟨rfl, rfl⟩⟩
    obtain ⟨f, hf⟩ := Option.isSome_iff_exists.1 h1
    obtain ⟨f1, f2⟩ := atM_iff.1 (List.find?_some hf)
    rw [hf, hu f (List.mem_of_find?_eq_some hf) e he f1 f2]
theorem allM_pw {P : List Ent} (hm : ∀ e ∈ P, mayE e = true) : PW (allM P) := chain_pw (allM_all hm).2
theorem pw_nodup {l : List Ent} (h : PW l) : l.Nodup := by
  refine List.Pairwise.imp ?_ h
  intro a b hab e
  subst e
  rw [lessE_irr] at hab
  cases hab
/-- Those of a list of which another has none of the place. -/
def restY (x z : List Ent) : List Ent := z.filter fun e => !hasM x e.1 e.2.2.2
theorem restY_ok {x z : List Ent} (h : okB z = true) : okB (restY x z) = true :=
  pw_ok ((okB_pw h).sublist List.filter_sublist) (fun e he => okB_may h e (List.mem_filter.1 he).1) (Nat.le_trans (List.length_filter_le _ _) (okB_iff.1 h).1)
theorem one_xy {x z : List Ent} (hx : okB x = true) (hz : okB z = true) : OneP (x ++ restY x z) := by
  have hy : ∀ a ∈ x, ∀ b ∈ restY x z, a.1 = b.1 → a.2.2.2 = b.2.2.2 → False := by
    intro a ha b hb h1 h2
    have h3 := (List.mem_filter.1 hb).2
    rw [hasM_iff.2 ⟨a, ha, h1, h2⟩] at h3
    simp at h3
  intro a ha b hb h1 h2
  rcases List.mem_append.1 ha with ha | ha <;> rcases List.mem_append.1 hb with hb | hb
  · exact pw_place (okB_pw hx) ha hb h1 h2
  · exact (hy a ha b hb h1 h2).elim
  · exact (hy b hb a ha h1.symm h2.symm).elim
  · exact pw_place (okB_pw (restY_ok hz)) ha hb h1 h2
theorem may_app {x y : List Ent} (hx : ∀ e ∈ x, mayE e = true) (hy : ∀ e ∈ y, mayE e = true) : ∀ e ∈ x ++ y, mayE e = true := fun e he => (List.mem_append.1 he).elim (hx e) (hy e)
theorem parts_all {x z : List Ent} (hx : okB x = true) (hz : okB z = true) :
    allM (restY x z ++ x) = allM (x ++ restY x z) ∧ allM (allM (x ++ restY x z) ++ (x ++ restY x z)) = allM (x ++ restY x z) ∧ allM (x ++ x) = x ∧ (allM (x ++ restY x z)).length = x.length + (restY x z).length := by
  have hyo := restY_ok (x := x) hz
  have m1 := okB_may hx
  have m2 := okB_may hyo
  have mP := may_app m1 m2
  have u := one_xy hx hz
  have hV := allM_mem mP u
  refine ⟨?_, ?_, ?_, ?_⟩
  · refine pw_uniq (allM_pw (may_app m2 m1)) (allM_pw mP) fun e => ?_
    rw [hV, allM_mem (may_app m2 m1) (fun a ha b hb => u a (by simpa [or_comm] using ha) b (by simpa [or_comm] using hb))]
    simp [or_comm]
  · have mV : ∀ e ∈ allM (x ++ restY x z), mayE e = true := fun e he => mP e ((hV e).1 he)
    have hin : ∀ a ∈ allM (x ++ restY x z) ++ (x ++ restY x z), a ∈ x ++ restY x z := fun a ha => (List.mem_append.1 ha).elim (fun h => (hV a).1 h) id
    refine pw_uniq (allM_pw (may_app mV mP)) (allM_pw mP) fun e => ?_
    rw [hV, allM_mem (may_app mV mP) (fun a ha b hb => u a (hin a ha) b (hin b hb))]
    exact ⟨hin e, fun h => List.mem_append.2 (.inr h)⟩
  · have hin : ∀ a ∈ x ++ x, a ∈ x := fun a ha => (List.mem_append.1 ha).elim id id
    refine pw_uniq (allM_pw (may_app m1 m1)) (okB_pw hx) fun e => ?_
    rw [allM_mem (may_app m1 m1) (fun a ha b hb => pw_place (okB_pw hx) (hin a ha) (hin b hb))]
    exact ⟨hin e, fun h => List.mem_append.2 (.inr h)⟩
  · have hn : (x ++ restY x z).Nodup := by
      refine List.nodup_append.2 ⟨pw_nodup (okB_pw hx), pw_nodup (okB_pw hyo), fun a ha b hb e => ?_⟩
      subst e
      have h3 := (List.mem_filter.1 hb).2
      rw [hasM_iff.2 ⟨a, ha, rfl, rfl⟩] at h3
      simp at h3
    have hp := (List.perm_ext_iff_of_nodup (pw_nodup (allM_pw mP)) hn).2 hV
    rw [hp.length_eq, List.length_append]
end Go.Proofs.Ytgkkgiaaillhpaa
