/-
  Layer 11 (merge), plain: what was changed, put upon what was visible. Conditions: entries in strict order.
-/
import Derived.Test.YtgkkgiaaillhpaaMx
namespace Go.Proofs.Ytgkkgiaaillhpaa
open Go.RowKit
set_option linter.unusedVariables false
set_option linter.unusedSimpArgs false

def outE (s : Ent) : List Par := if s.2.2.1 = true then [] else [parE s]
/-- Pairs that were visible, and entries that came later, key by key. -/
def mrgW : List Par → List Ent → List Par
  | [], [] => []
  | a :: was, [] => a :: mrgW was []
  | [], s :: since => outE s ++ mrgW [] since
  | a :: was, s :: since => if ltB a.1 s.1 = true then a :: mrgW was (s :: since) else outE s ++ mrgW (if a.1 = s.1 then was else a :: was) since
termination_by was since => was.length + since.length
decreasing_by
  all_goals try simp only [List.length_cons]
  all_goals first | omega | (split <;> (try simp only [List.length_cons]) <;> omega)
theorem ltB_self (k : ByteArray) : ltB k k = false := by
  cases h : ltB k k with
  | false => rfl
  | true => have := ltB_asymm h; rw [h] at this; cases this
theorem mrg_since {was : List Par} {s : Ent} {since : List Ent} (h : ∀ a ∈ was, ltB s.1 a.1 = true) : mrgW was (s :: since) = outE s ++ mrgW was since := by
  cases was with
  | nil => rw [mrgW]
  | cons a was =>
    have ha := h a (by simp)
    rw [mrgW, if_neg (by rw [ltB_asymm ha]; simp), if_neg (fun e => by rw [e, ltB_self] at ha; cases ha)]
theorem mrg_both {a : Par} {was : List Par} {s : Ent} {since : List Ent} (h : a.1 = s.1) : mrgW (a :: was) (s :: since) = outE s ++ mrgW was since := by
  rw [mrgW, if_neg (by rw [h, ltB_self]; simp), if_pos h]
theorem mrg_was {a : Par} {was : List Par} {since : List Ent} (h : ∀ s ∈ since, ltB a.1 s.1 = true) : mrgW (a :: was) since = a :: mrgW was since := by
  cases since with
  | nil => rw [mrgW]
  | cons s since => rw [mrgW, if_pos (h s (by simp))]
theorem vis_top {at_ : Int} {e : Ent} {r : List Ent} (h : e.2.2.2 ≤ at_) : visG at_ (e :: r) = outE e := by
  unfold visG outE
  rw [List.find?_cons_of_pos (by simpa [seenP] using h)]
theorem visG_key {at_ : Int} {g : List Ent} {k : ByteArray} (h : ∀ x ∈ g, x.1 = k) : ∀ p ∈ visG at_ g, p.1 = k := by
  intro p hp
  unfold visG at hp
  cases hq : g.find? (seenP at_) with
  | none => rw [hq] at hp; simp at hp
  | some e =>
    rw [hq] at hp
    dsimp only at hp
    split at hp
    · simp at hp
    · rw [List.mem_singleton] at hp
      rw [hp]
      exact h e (List.mem_of_find?_eq_some hq)
theorem mrg_group {at_ big : Int} {e : Ent} {r : List Ent} {was : List Par} {since : List Ent} (hb : e.2.2.2 ≤ big) (hk : ∀ x ∈ e :: r, x.1 = e.1) (h1 : ∀ a ∈ was, ltB e.1 a.1 = true) (h2 : ∀ s ∈ since, ltB e.1 s.1 = true) :
    mrgW (visG at_ (e :: r) ++ was) (sinG at_ (e :: r) ++ since) = visG big (e :: r) ++ mrgW was since := by
  have hkey := visG_key (at_ := at_) hk
  rw [vis_top hb]
  by_cases hs : at_ < e.2.2.2
  · have hsin : sinG at_ (e :: r) = [e] := by show (if at_ < e.2.2.2 then [e] else []) = _; rw [if_pos hs]
    rw [hsin, List.singleton_append]
    obtain ⟨A, hA⟩ : ∃ A, A = visG at_ (e :: r) := ⟨_, rfl⟩
    have hle : A.length ≤ 1 := by
      rw [hA]
      unfold visG
      split
      · split <;> simp
      · simp
    rw [← hA] at hkey ⊢
    match A, hle with
    | [], _ => exact mrg_since h1
    | [p], _ => exact mrg_both (hkey p (by simp))
  · have hsin : sinG at_ (e :: r) = [] := by show (if at_ < e.2.2.2 then [e] else []) = _; rw [if_neg hs]
    rw [hsin, List.nil_append, vis_top (by omega)]
    unfold outE
    split
    · rfl
    · exact mrg_was (by intro s hs2; exact h2 s hs2)
theorem visM_key {l : List Ent} {at_ : Int} : ∀ p ∈ visM l at_, ∃ x ∈ l, p.1 = x.1 := by
  intro p hp
  unfold visM at hp
  obtain ⟨x, hx, rfl⟩ := List.mem_map.1 hp
  exact ⟨x, (List.mem_filter.1 hx).1, rfl⟩
theorem sinM_key {l : List Ent} {at_ : Int} : ∀ s ∈ sinM l at_, s ∈ l := fun s hs => (List.mem_filter.1 hs).1
theorem mrg_all (at_ big : Int) : ∀ (n : Nat) (l : List Ent), l.length ≤ n → PW l → (∀ e ∈ l, e.2.2.2 ≤ big) → mrgW (visM l at_) (sinM l at_) = visM l big
  | 0, l, hn, _, _ => by
    obtain rfl : l = [] := List.eq_nil_of_length_eq_zero (by omega)
    show mrgW [] [] = []
    rw [mrgW]
  | n + 1, l, hn, h, hb => by
    cases l with
    | nil =>
      show mrgW [] [] = []
      rw [mrgW]
    | cons e r =>
      have hp := runN_pos (l := e :: r) (by simp)
      have ha := run_apart h
      have hf := run_fall h
      have hr := h.sublist (List.drop_sublist (runN (e :: r)) (e :: r))
      have ih := mrg_all at_ big n ((e :: r).drop (runN (e :: r))) (by rw [List.length_drop]; omega) hr (fun x hx => hb x (List.mem_of_mem_drop hx))
      have hsp : e :: r = (e :: r).take (runN (e :: r)) ++ (e :: r).drop (runN (e :: r)) := (List.take_append_drop _ _).symm
      have hlt : ∀ x ∈ (e :: r).drop (runN (e :: r)), ltB e.1 x.1 = true := by
        intro x hx
        have hne : ¬ e.1 = x.1 := ha e (by rw [run_split.1]; simp) x hx
        have hmem : x ∈ r := by
          rw [run_split.2] at hx
          exact (List.dropWhile_sublist _).subset hx
        have := (List.pairwise_cons.1 h).1 x hmem
        rw [less_key hne] at this
        exact this
      obtain ⟨R, hR⟩ : ∃ R, R = (e :: r).drop (runN (e :: r)) := ⟨_, rfl⟩
      have hG := run_split (e := e) (r := r)
      obtain ⟨t, ht⟩ : ∃ t, t = r.takeWhile (fun x => x.1.toList == e.1.toList) := ⟨_, rfl⟩
      have hkk := run_key (e := e) (r := r)
      rw [← ht] at hG
      rw [hG.1, ← hR] at hsp ha
      rw [hG.1] at hf hkk
      rw [← hR] at ih hlt
      rw [hsp, visM_app ha, sinM_app ha, visM_app ha, ← vis_grp hf, ← vis_grp hf, ← sin_grp hf,
        mrg_group (hb e (by simp)) hkk (fun a hx => by obtain ⟨x, h1, h2⟩ := visM_key a hx; rw [h2]; exact hlt x h1) (fun s hs => hlt s (sinM_key s hs)), ih]
end Go.Proofs.Ytgkkgiaaillhpaa
