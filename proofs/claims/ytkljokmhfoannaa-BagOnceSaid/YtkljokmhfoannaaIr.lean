/-
  Layer 15 (bag), plain: letters with texts of their own, how often each waits. Conditions: none.
-/
import Derived.Test.YtkljokmhfoannaaIo
import Derived.Test.YtkljokmhfoannaaBt
namespace Go.Proofs.Ytkljokmhfoannaa
open Go.RowKit Go.Maps
set_option linter.unusedVariables false
set_option linter.unusedSimpArgs false

/-- The letter of a number. -/
def mkL (j : Nat) : Lt := ⟨100, ((j % 3 : Nat) : Int), ⟨#[UInt8.ofNat (97 + j)]⟩⟩
structure On (n i : Nat) (r : Nat → List Nat) (q : Wq) (W : List Int) : Prop where
  qs : ∀ t : Nat, t < 3 → q (t : Int) = (r t).map mkL
  hm : ∀ t : Nat, t < 3 → ∀ j ∈ r t, j < i ∧ j % 3 = t
  wl : W.length = n
  ws : ∀ j (h : j < W.length), W[j] = (((r (j % 3)).count j : Nat) : Int)
  le : ∀ t : Nat, t < 3 → (r t).length ≤ 2 * i
def updN (r : Nat → List Nat) (t : Nat) (v : List Nat) : Nat → List Nat := fun s => if s = t then v else r s
theorem On.start (n : Nat) : On n 0 (fun _ => []) (fun _ => []) (List.replicate n 0) :=
  ⟨fun _ _ => rfl, fun _ _ j hj => by simp at hj, by simp, fun j hj => by simp, fun _ _ => by simp⟩
theorem place31 {t : Nat} (h : t < 3) : place 3 1 (t : Int) = true := place_iff.2 (.inr (.inl (by omega)))
theorem mk_to (j : Nat) : (mkL j).to = ((j % 3 : Nat) : Int) := rfl
theorem mk_put {n i : Nat} {r : Nat → List Nat} {q : Wq} {W : List Int} (h : On n i r q W) (j : Nat) (hi : i ≤ 30) (hl : (r (j % 3)).length ≤ 100) : putE 3 1 q (mkL j) = 0 ∧ putQ 3 1 q (mkL j) = upd q ((j % 3 : Nat) : Int) ((r (j % 3) ++ [j]).map mkL) := by
  have hj : j % 3 < 3 := Nat.mod_lt _ (by decide)
  have hc : place 3 1 (mkL j).fr = true ∧ place 3 1 (mkL j).to = true ∧ (mkL j).tx.size ≤ 262144 := ⟨by show place 3 1 100 = true; decide, place31 hj, by show 1 ≤ 262144; decide⟩
  have hq : q (mkL j).to = (r (j % 3)).map mkL := h.qs _ hj
  unfold putE putQ layE layQ
  rw [if_pos hc, if_pos hc, hq, if_pos (by rw [List.length_map]; omega), if_pos (by rw [List.length_map]; omega)]
  refine ⟨rfl, ?_⟩
  rw [List.map_append]
  rfl
/-- A new letter waits. -/
theorem On.put {n i : Nat} {r : Nat → List Nat} {q : Wq} {W : List Int} (h : On n i r q W) (hi : i < n) : On n (i + 1) (updN r (i % 3) (r (i % 3) ++ [i])) (upd q ((i % 3 : Nat) : Int) ((r (i % 3) ++ [i]).map mkL)) (W.set i 1) := by
  have hni : ¬ i ∈ r (i % 3) := fun hm => by
    have := (h.hm (i % 3) (Nat.mod_lt _ (by decide)) i hm).1
    omega
  refine ⟨fun t ht => ?_, fun t ht j hj => ?_, by rw [List.length_set]; exact h.wl, fun j hj => ?_, fun t ht => ?_⟩
  · unfold updN
    by_cases e : t = i % 3
    · subst e; rw [upd_same, if_pos rfl]
    · rw [upd_other _ _ (by omega), if_neg e]; exact h.qs t ht
  · unfold updN at hj
    by_cases e : t = i % 3
    · rw [if_pos e] at hj
      rcases List.mem_append.1 hj with hj | hj
      · rw [← e] at hj
        have := h.hm t ht j hj; omega
      · simp at hj; omega
    · rw [if_neg e] at hj
      have := h.hm t ht j hj; omega
  · rw [List.length_set] at hj
    rw [List.getElem_set]
    unfold updN
    by_cases e : i = j
    · subst e
      rw [if_pos rfl, if_pos rfl, List.count_append, List.count_eq_zero.2 hni]
      simp
    · rw [if_neg e]
      by_cases e2 : j % 3 = i % 3
      · rw [if_pos e2, ← e2, List.count_append, h.ws j hj]
        have : List.count j [i] = 0 := List.count_eq_zero.2 (by simp; exact fun q => e q.symm)
        omega
      · rw [if_neg e2]; exact h.ws j hj
  · unfold updN
    split
    · rename_i e
      rw [List.length_append, ← e]
      have := h.le t ht
      simp; omega
    · have := h.le t ht; omega
/-- It waits twice. -/
theorem On.twice {n i : Nat} {r : Nat → List Nat} {q : Wq} {W : List Int} (h : On n (i + 1) r q W) (hi : i < n) (hc : (r (i % 3)).count i = 1) (hlen : (r (i % 3)).length ≤ 2 * i + 1) : On n (i + 1) (updN r (i % 3) (r (i % 3) ++ [i])) (upd q ((i % 3 : Nat) : Int) ((r (i % 3) ++ [i]).map mkL)) (W.set i 2) := by
  refine ⟨fun t ht => ?_, fun t ht j hj => ?_, by rw [List.length_set]; exact h.wl, fun j hj => ?_, fun t ht => ?_⟩
  · unfold updN
    by_cases e : t = i % 3
    · subst e; rw [upd_same, if_pos rfl]
    · rw [upd_other _ _ (by omega), if_neg e]; exact h.qs t ht
  · unfold updN at hj
    by_cases e : t = i % 3
    · rw [if_pos e] at hj
      rcases List.mem_append.1 hj with hj | hj
      · rw [← e] at hj
        exact h.hm t ht j hj
      · simp at hj; omega
    · rw [if_neg e] at hj
      exact h.hm t ht j hj
  · rw [List.length_set] at hj
    rw [List.getElem_set]
    unfold updN
    by_cases e : i = j
    · subst e
      rw [if_pos rfl, if_pos rfl, List.count_append, hc]
      simp
    · rw [if_neg e]
      by_cases e2 : j % 3 = i % 3
      · rw [if_pos e2, ← e2, List.count_append, h.ws j hj]
        have : List.count j [i] = 0 := List.count_eq_zero.2 (by simp; exact fun q => e q.symm)
        omega
      · rw [if_neg e2]; exact h.ws j hj
  · unfold updN
    split
    · rename_i e
      rw [List.length_append]
      simp; omega
    · exact h.le t ht
theorem On.mono {n i : Nat} {r : Nat → List Nat} {q : Wq} {W : List Int} (h : On n i r q W) {k : Nat} (hk : i ≤ k) : On n k r q W :=
  ⟨h.qs, fun t ht j hj => ⟨Nat.lt_of_lt_of_le (h.hm t ht j hj).1 hk, (h.hm t ht j hj).2⟩, h.wl, h.ws, fun t ht => by have := h.le t ht; omega⟩
theorem On.find {n i : Nat} {r : Nat → List Nat} {q : Wq} {W : List Int} (h : On n i r q W) {t a : Nat} (ht : t < 3) (ha : a < (r t).length) : fndE 3 1 q (t : Int) (a : Int) = 0 ∧ fndL 3 1 q (t : Int) (a : Int) = mkL (r t)[a] ∧ takeQ 3 1 q (t : Int) (a : Int) = upd q (t : Int) (((r t).eraseIdx a).map mkL) := by
  have h0 : fndE 3 1 q (t : Int) (a : Int) = 0 := fndE_zero.2 ⟨place31 ht, by omega, by rw [h.qs t ht, List.length_map]; omega⟩
  refine ⟨h0, ?_, ?_⟩
  · unfold fndL
    rw [if_pos h0, h.qs t ht, List.getD_eq_getElem?_getD]
    simp [ha]
  · unfold takeQ
    rw [if_pos h0, h.qs t ht]
    congr 1
    rw [Int.toNat_natCast]
    simp [List.eraseIdx_eq_take_drop_succ, List.map_append, List.map_take, List.map_drop]
theorem mk_twice {n i : Nat} {r : Nat → List Nat} {q : Wq} {W : List Int} (h : On n i r q W) {t j : Nat} {s : List Nat} (ht : t < 3) (hs : r t = s ++ [j]) (hj : j % 3 = t) (hl : s.length ≤ 100) : twE 3 1 q (t : Int) ((s.length : Nat) : Int) = 0 ∧ twQ 3 1 q (t : Int) ((s.length : Nat) : Int) = upd q (t : Int) ((r t ++ [j]).map mkL) := by
  have ha : s.length < (r t).length := by rw [hs]; simp
  obtain ⟨h0, h1, -⟩ := h.find ht ha
  have hg : (r t)[s.length] = j := by simp [hs]
  rw [hg] at h1
  have hto : (mkL j).to = (t : Int) := by rw [mk_to, hj]
  have hq := h.qs t ht
  unfold twE twQ layE layQ
  rw [if_pos h0, if_pos h0, h1, hto, hq, if_pos (by rw [List.length_map, hs]; simp; omega), if_pos (by rw [List.length_map, hs]; simp; omega)]
  refine ⟨rfl, ?_⟩
  rw [List.map_append]
  rfl
theorem On.fresh {n i : Nat} {r : Nat → List Nat} {q : Wq} {W : List Int} (h : On n i r q W) (hi : i < W.length) : W[i] = 0 := by
  rw [h.ws i hi, List.count_eq_zero.2 fun hm => by have := (h.hm (i % 3) (Nat.mod_lt _ (by decide)) i hm).1; omega]
  rfl
theorem On.once {n i : Nat} {r : Nat → List Nat} {q : Wq} {W : List Int} (h : On n i r q W) : (r (i % 3) ++ [i]).count i = 1 := by
  rw [List.count_append, List.count_eq_zero.2 fun hm => by have := (h.hm (i % 3) (Nat.mod_lt _ (by decide)) i hm).1; omega]
  simp
/-- One is taken. -/
theorem On.take {n : Nat} {r : Nat → List Nat} {q : Wq} {W : List Int} (h : On n n r q W) {t a : Nat} (ht : t < 3) (ha : a < (r t).length) : ∃ hj : (r t)[a] < W.length, 0 < W[(r t)[a]] ∧ (r t)[a] % 3 = t ∧
    On n n (updN r t ((r t).eraseIdx a)) (upd q (t : Int) (((r t).eraseIdx a).map mkL)) (W.set (r t)[a] (W[(r t)[a]] - 1)) := by
  obtain ⟨j, hj⟩ : ∃ j, j = (r t)[a] := ⟨_, rfl⟩
  have hmem : j ∈ r t := by rw [hj]; exact List.getElem_mem ha
  obtain ⟨hjn, hj3⟩ := h.hm t ht j hmem
  rw [← hj]
  have hjl : j < W.length := by rw [h.wl]; exact hjn
  have hw : W[j] = (((r t).count j : Nat) : Int) := by rw [h.ws j hjl, hj3]
  have hcp : 0 < (r t).count j := List.count_pos_iff.2 hmem
  have hce : ∀ x, ((r t).eraseIdx a).count x = (r t).count x - if x = j then 1 else 0 := fun x => by
    have hs : r t = (r t).take a ++ j :: (r t).drop (a + 1) := by rw [hj, List.getElem_cons_drop ha, List.take_append_drop]
    have e1 : ((r t).eraseIdx a) = (r t).take a ++ (r t).drop (a + 1) := List.eraseIdx_eq_take_drop_succ _ _
    have e2 : (r t).count x = ((r t).take a).count x + ((if x = j then 1 else 0) + ((r t).drop (a + 1)).count x) := by
      conv => lhs; rw [hs]
      rw [List.count_append, List.count_cons]
      by_cases e : x = j
      · subst e; simp; omega
      · rw [if_neg e, if_neg (by simpa using fun q => e q.symm)]; omega
    rw [e1, List.count_append, e2]
    split <;> omega
  refine ⟨hjl, by rw [hw]; omega, hj3, fun s hs => ?_, fun s hs x hx => ?_, by rw [List.length_set]; exact h.wl, fun x hx => ?_, fun s hs => ?_⟩
  · unfold updN
    by_cases e : s = t
    · subst e; rw [upd_same, if_pos rfl]
    · rw [upd_other _ _ (by omega), if_neg e]; exact h.qs s hs
  · unfold updN at hx
    by_cases e : s = t
    · rw [if_pos e] at hx
      rw [e]
      exact h.hm t ht x ((List.eraseIdx_sublist _ _).subset hx)
    · rw [if_neg e] at hx; exact h.hm s hs x hx
  · rw [List.length_set] at hx
    rw [List.getElem_set]
    unfold updN
    by_cases e : j = x
    · subst e
      rw [if_pos rfl, if_pos hj3, hce, if_pos rfl, hw]
      omega
    · rw [if_neg e]
      by_cases e2 : x % 3 = t
      · rw [if_pos e2, hce, if_neg (fun q => e q.symm), h.ws x hx, e2]
        rfl
      · rw [if_neg e2]; exact h.ws x hx
  · unfold updN
    split
    · exact Nat.le_trans (List.eraseIdx_sublist _ _).length_le (h.le t ht)
    · exact h.le s hs
theorem On.took {n : Nat} {r : Nat → List Nat} {q : Wq} {W : List Int} (h : On n n r q W) {t a : Nat} (ht : t < 3) (ha : a < (r t).length) : ∃ j, ∃ hj : j < W.length, (j < n ∧ j % 3 = t) ∧ 0 < W[j] ∧ fndE 3 1 q (t : Int) (a : Int) = 0 ∧ fndL 3 1 q (t : Int) (a : Int) = mkL j ∧
    On n n (updN r t ((r t).eraseIdx a)) (takeQ 3 1 q (t : Int) (a : Int)) (W.set j (W[j] - 1)) := by
  obtain ⟨h1, h2, h3⟩ := h.find ht ha
  obtain ⟨k1, k2, k3, k4⟩ := h.take ht ha
  refine ⟨(r t)[a], k1, h.hm t ht _ (List.getElem_mem ha), k2, h1, h2, ?_⟩
  rw [h3]
  exact k4
theorem On.done {n : Nat} {r : Nat → List Nat} {q : Wq} {W : List Int} (h : On n n r q W) (he : ∀ t, t < 3 → r t = []) : ∀ j (hj : j < W.length), W[j] = 0 := fun j hj => by
  rw [h.ws j hj, he _ (Nat.mod_lt _ (by decide))]
  rfl
end Go.Proofs.Ytkljokmhfoannaa
