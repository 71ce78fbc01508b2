/-
  Layer 12 (manifest), plain: what the laws without the document's states ask, of states that edits made. Conditions: none.
-/
import Derived.Test.YtkpemlgolpihiaaRF
namespace Go.Proofs.Ytkpemlgolpihiaa
set_option linter.unusedVariables false
set_option linter.unusedSimpArgs false

theorem ap_zero {s : St} {e : Ed} (h : apN s e = 0) : ∃ L, mayEd e = true ∧ appT s.1 s.2.1 s.2.2 e = some L ∧ apS s e = (L, e.2.2.1, e.2.2.2) := by
  cases hm : mayEd e with
  | false => rw [(ap_may (by rw [hm]; decide)).1] at h; cases h
  | true =>
    cases ha : appT s.1 s.2.1 s.2.2 e with
    | none => rw [(ap_no hm ha).1] at h; cases h
    | some L => exact ⟨L, rfl, rfl, (ap_yes hm ha).2⟩
theorem ap_cases (s : St) (e : Ed) : apN s e = 0 ∨ apN s e = 1 ∨ apN s e = 120 := by
  cases hm : mayEd e with
  | false => exact .inr (.inl (ap_may (by rw [hm]; decide)).1)
  | true =>
    cases ha : appT s.1 s.2.1 s.2.2 e with
    | none => exact .inr (.inr (ap_no hm ha).1)
    | some L => exact .inl (ap_yes hm ha).1
theorem step_ok {s : St} {e : Ed} (h : OkT s.1 s.2.2) (h0 : apN s e = 0) :
    OkT (apS s e).1 (apS s e).2.2 ∧ s.2.1 ≤ (apS s e).2.1 ∧ s.2.2 ≤ (apS s e).2.2 ∧ (apS s e).1.length ≤ s.1.length + 128 ∧ (0 ≤ (apS s e).2.1 ∧ (apS s e).2.1 ≤ 1073741824) := by
  obtain ⟨L, hm, ha, he⟩ := ap_zero h0
  obtain ⟨k1, k2, k3, k4, k5, k6⟩ := next_ok h hm ha
  rw [he]
  exact ⟨k1, k2, k3, k6, (mayEd_iff.1 hm).2.2.2.2.1⟩
theorem ok_pair {s : List Tb} {nx : Int} (h : OkT s nx) {j k : Nat} (hj : j < k) (hk : k < s.length) :
    ¬ s[j].1 = s[k].1 ∧ s[j].2.1 ≤ s[k].2.1 ∧ (0 < s[k].2.1 → s[j].2.1 = s[k].2.1 → ltB s[j].2.2.2 s[k].2.2.1 = true) := by
  have h1 : s.Pairwise fun a b => a.1 ≠ b.1 := List.pairwise_map.1 h.ids
  have h2 := sr_wk h.sr
  have h3 := apt_far h2 h.may h.apt
  refine ⟨List.pairwise_iff_getElem.1 h1 j k (by omega) hk hj, wk_lv (List.pairwise_iff_getElem.1 h2 j k (by omega) hk hj), fun p q => List.pairwise_iff_getElem.1 h3 j k (by omega) hk hj p q.symm⟩
theorem ok_one {s : List Tb} {nx : Int} (h : OkT s nx) {k : Nat} (hk : k < s.length) : s[k].1 < nx ∧ ltB s[k].2.2.2 s[k].2.2.1 = false ∧ mayT s[k] = true :=
  ⟨h.lt _ (List.getElem_mem hk), hi_lo (h.may _ (List.getElem_mem hk)), h.may _ (List.getElem_mem hk)⟩
/-- The edit by which a table moves to another level. -/
def movE (t : Tb) (lg nx v : Int) : Ed := ([(nx, v, t.2.2.1, t.2.2.2)], [t.1], lg, nx + 1)
theorem mov_may {s : List Tb} {lg nx v : Int} {t : Tb} (h : OkT s nx) (ht : t ∈ s) (hl : 0 ≤ lg ∧ lg ≤ 1073741824) (hn : 1 ≤ nx ∧ nx ≤ 536870912) (hv : 0 ≤ v ∧ v ≤ 2) : mayEd (movE t lg nx v) = true := by
  obtain ⟨m1, m2, m3, m4, m5⟩ := mayT_iff.1 (h.may t ht)
  refine mayEd_iff.2 ⟨by simp [movE], by simp [movE], fun u hu => ?_, fun x hx => ?_, hl, by simp only [movE]; omega⟩
  · obtain rfl := List.mem_singleton.1 hu
    exact mayT_iff.2 ⟨by simp only; omega, hv, m3, m4, m5⟩
  · obtain rfl := List.mem_singleton.1 hx
    exact m1
theorem mov_fit {s : List Tb} {lg nx v : Int} {t : Tb} (h : OkT s nx) (ht : t ∈ s) : fitT s (movE t lg nx v) = true := by
  refine fitT_iff.2 ⟨fun x hx => ?_, by simp [movE], fun u hu => ?_, by simp [movE]⟩
  · obtain rfl := List.mem_singleton.1 hx
    exact ⟨t, ht, rfl⟩
  · obtain rfl := List.mem_singleton.1 hu
    refine ⟨fun y hy e => ?_, by simp only [movE]; omega⟩
    have := h.lt y hy
    simp only at e
    omega
theorem kept_len : ∀ {s : List Tb} {t : Tb}, (s.map (·.1)).Nodup → t ∈ s → (keptT s [t.1]).length + 1 = s.length
  | [], t, _, h => by simp at h
  | a :: s, t, hn, h => by
    rw [List.map_cons, List.nodup_cons] at hn
    by_cases e : a.1 = t.1
    · have h0 : keptT (a :: s) [t.1] = keptT s [t.1] := by simp [keptT, e]
      have h1 : keptT s [t.1] = s := List.filter_eq_self.2 fun u hu => by
        simp
        intro q
        exact hn.1 (by rw [e, ← q]; exact List.mem_map_of_mem hu)
      rw [h0, h1, List.length_cons]
    · have h0 : keptT (a :: s) [t.1] = a :: keptT s [t.1] := by simp [keptT, e]
      have ht : t ∈ s := by
        rcases List.mem_cons.1 h with rfl | h
        · exact absurd rfl e
        · exact h
      rw [h0, List.length_cons, List.length_cons, kept_len hn.2 ht]
theorem kept_mem {s : List Tb} {k : Nat} (hk : k < s.length) {x : Tb} (hx : x ∈ keptT s [s[k].1]) : ∃ j, ∃ (h : j < s.length), j ≠ k ∧ s[j] = x := by
  obtain ⟨h1, h2⟩ := List.mem_filter.1 hx
  obtain ⟨j, hj, rfl⟩ := List.getElem_of_mem h1
  refine ⟨j, hj, fun e => ?_, rfl⟩
  subst e
  simp at h2
theorem ov_mem {ts : List Tb} {v : Int} {lo hi : ByteArray} {t : Tb} : t ∈ ovT ts v lo hi ↔ t ∈ ts ∧ t.2.1 = v ∧ ltB t.2.2.2 lo = false ∧ ltB hi t.2.2.1 = false := by
  unfold ovT ovP
  simp [and_assoc]
/-- A table moves, or one is in the way. -/
theorem mov_ap {s : List Tb} {lg nx v : Int} {k : Nat} (h : OkT s nx) (hk : k < s.length) (hl : 0 ≤ lg ∧ lg ≤ 1073741824) (hn : 1 ≤ nx ∧ nx ≤ 536870912) (hv : 0 ≤ v ∧ v ≤ 2) :
    (apN (s, lg, nx) (movE s[k] lg nx v) = 0 ∧ (apS (s, lg, nx) (movE s[k] lg nx v)).1.length = s.length ∧
      ∀ x ∈ (apS (s, lg, nx) (movE s[k] lg nx v)).1, x = (nx, v, s[k].2.2.1, s[k].2.2.2) ∨ ∃ j, ∃ (h : j < s.length), j ≠ k ∧ s[j] = x) ∨
    (apN (s, lg, nx) (movE s[k] lg nx v) = 120 ∧ 0 < v ∧ 0 < (ovT s v s[k].2.2.1 s[k].2.2.2).length) := by
  have ht : s[k] ∈ s := List.getElem_mem hk
  have hm := mov_may h ht hl hn hv
  have hf := mov_fit (lg := lg) (v := v) h ht
  have hp := next_perm s (movE s[k] lg nx v)
  by_cases ha : Apt (nextT s (movE s[k] lg nx v))
  · have hy := ap_yes (s := (s, lg, nx)) hm (app_all (s := (s, lg, nx)) (by show ¬ lg < lg; omega) (by show ¬ nx + 1 < nx; omega) hf ha)
    refine .inl ⟨hy.1, ?_, fun x hx => ?_⟩
    · rw [hy.2]
      show (nextT s (movE s[k] lg nx v)).length = _
      rw [hp.length_eq, List.length_append]
      have := kept_len h.ids ht
      simpa [movE] using this
    · rw [hy.2] at hx
      rcases List.mem_append.1 (hp.mem_iff.1 hx) with h1 | h1
      · exact .inr (kept_mem hk h1)
      · exact .inl (List.mem_singleton.1 h1)
  · refine .inr ⟨(ap_no (s := (s, lg, nx)) hm (app_apt (s := (s, lg, nx)) ha)).1, ?_⟩
    have hna : ¬ Apt (keptT s [s[k].1] ++ [(nx, v, s[k].2.2.1, s[k].2.2.2)]) := fun q => ha ((Apt.perm hp).2 q)
    have hka : Apt (keptT s [s[k].1]) := h.apt.sublist (kept_sub s _)
    have : ∃ u ∈ keptT s [s[k].1], touchT u (nx, v, s[k].2.2.1, s[k].2.2.2) = true := by
      refine Classical.byContradiction fun q => hna ?_
      refine List.pairwise_append.2 ⟨hka, List.pairwise_singleton _ _, fun a ha b hb => ?_⟩
      obtain rfl := List.mem_singleton.1 hb
      cases e : touchT a (nx, v, s[k].2.2.1, s[k].2.2.2) with
      | false => rfl
      | true => exact absurd ⟨a, ha, e⟩ q
    obtain ⟨u, hu, ht'⟩ := this
    obtain ⟨t1, t2, t3, t4⟩ := touchT_iff.1 ht'
    simp only at t2 t3 t4
    refine ⟨by omega, List.length_pos_of_mem (ov_mem.2 ⟨(kept_sub s _).subset hu, t2, t3, t4⟩)⟩
theorem filter_le {p q : Tb → Bool} {l : List Tb} (h : ∀ x ∈ l, p x = true → q x = true) : (l.filter p).length ≤ (l.filter q).length := by
  rw [← List.countP_eq_length_filter, ← List.countP_eq_length_filter]
  exact List.countP_mono_left h
theorem filter_sum {p q r : Tb → Bool} : ∀ {l : List Tb} (_ : ∀ x ∈ l, r x = true → p x = true ∨ q x = true), (l.filter r).length ≤ (l.filter p).length + (l.filter q).length
  | [], _ => by simp
  | a :: l, h => by
    have ih := filter_sum (p := p) (q := q) (r := r) (l := l) fun x hx => h x (List.mem_cons_of_mem _ hx)
    have ha := h a (by simp)
    rw [List.filter_cons, List.filter_cons, List.filter_cons]
    cases hr : r a with
    | false =>
      rw [if_neg (by simp)]
      split <;> split <;> (try simp only [List.length_cons]) <;> omega
    | true =>
      rw [if_pos rfl]
      rcases ha hr with e | e
      · rw [if_pos e]
        split <;> (try simp only [List.length_cons]) <;> omega
      · rw [if_pos e]
        split <;> (try simp only [List.length_cons]) <;> omega
/-- Of keys from one to another one come the tables of both halves. -/
theorem ov_parts {s : List Tb} {nx : Int} (h : OkT s nx) {v : Int} {a b c : ByteArray} (hab : ltB b a = false) (hbc : ltB c b = false) :
    (∀ z ∈ ovT s v a c, (z ∈ ovT s v a b ∨ z ∈ ovT s v b c) ∧ z.2.1 = v ∧ ltB z.2.2.2 a = false ∧ ltB c z.2.2.1 = false) ∧
    (ovT s v a b).length ≤ (ovT s v a c).length ∧ (ovT s v b c).length ≤ (ovT s v a c).length ∧ (ovT s v a c).length ≤ (ovT s v a b).length + (ovT s v b c).length := by
  have key : ∀ z ∈ s, ovP v a c z = true → ovP v a b z = true ∨ ovP v b c z = true := fun z hz hp => by
    unfold ovP at hp ⊢
    simp at hp ⊢
    obtain ⟨⟨p1, p2⟩, p3⟩ := hp
    cases e : ltB b z.2.2.1 with
    | false => exact .inl ⟨⟨p1, p2⟩, rfl⟩
    | true =>
      refine .inr ⟨⟨p1, ?_⟩, p3⟩
      have hl := hi_lo (h.may z hz)
      exact ltB_asymm (ltB_le e hl)
  refine ⟨fun z hz => ?_, filter_le fun x hx hp => ?_, filter_le fun x hx hp => ?_, filter_sum key⟩
  · obtain ⟨m1, m2, m3, m4⟩ := ov_mem.1 hz
    refine ⟨?_, m2, m3, m4⟩
    rcases key z m1 (by unfold ovP; simp [m2, m3, m4]) with q | q
    · exact .inl (List.mem_filter.2 ⟨m1, q⟩)
    · exact .inr (List.mem_filter.2 ⟨m1, q⟩)
  · unfold ovP at hp ⊢
    simp at hp ⊢
    exact ⟨hp.1, le_le hp.2 hbc⟩
  · unfold ovP at hp ⊢
    simp at hp ⊢
    exact ⟨⟨hp.1.1, le_le hab hp.1.2⟩, hp.2⟩
end Go.Proofs.Ytkpemlgolpihiaa
