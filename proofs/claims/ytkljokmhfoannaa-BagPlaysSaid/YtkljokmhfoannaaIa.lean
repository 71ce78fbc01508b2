/-
  Layer 15 (bag), plain: letters that wait, at places and all in one list. Conditions: none.
-/
import Derived.Test.YtkljokmhfoannaaWl
namespace Go.Proofs.Ytkljokmhfoannaa
set_option linter.unusedVariables false
set_option linter.unusedSimpArgs false

/-- A letter: from, to, text. -/
structure Lt where
  fr : Int
  to : Int
  tx : ByteArray
def zL : Lt := ⟨0, 0, ⟨#[]⟩⟩
def place (n c : Nat) (k : Int) : Bool := k == -1 || (decide (0 ≤ k) && decide (k < n)) || (decide (100 ≤ k) && decide (k - 100 < c))
theorem place_iff {n c : Nat} {k : Int} : place n c k = true ↔ k = -1 ∨ (0 ≤ k ∧ k < n) ∨ (100 ≤ k ∧ k - 100 < c) := by
  unfold place; simp [or_assoc]
/-- What waits at each place. -/
abbrev Wq := Int → List Lt
def upd (q : Wq) (k : Int) (v : List Lt) : Wq := fun j => if j = k then v else q j
theorem upd_same (q : Wq) (k : Int) (v : List Lt) : upd q k v k = v := by unfold upd; simp
theorem upd_other (q : Wq) {k j : Int} (v : List Lt) (h : j ≠ k) : upd q k v j = q j := by unfold upd; rw [if_neg h]
theorem upd_self (q : Wq) (k : Int) : upd q k (q k) = q := by funext j; unfold upd; split <;> simp [*]
def layE (q : Wq) (l : Lt) : Int := if (q l.to).length < 1024 then 0 else 2
def layQ (q : Wq) (l : Lt) : Wq := if (q l.to).length < 1024 then upd q l.to (q l.to ++ [l]) else q
def putE (n c : Nat) (q : Wq) (l : Lt) : Int := if place n c l.fr = true ∧ place n c l.to = true ∧ l.tx.size ≤ 262144 then layE q l else 1
def putQ (n c : Nat) (q : Wq) (l : Lt) : Wq := if place n c l.fr = true ∧ place n c l.to = true ∧ l.tx.size ≤ 262144 then layQ q l else q
def fndE (n c : Nat) (q : Wq) (to at_ : Int) : Int := if place n c to = true then (if 0 ≤ at_ ∧ at_ < (q to).length then 0 else 3) else 1
def fndL (n c : Nat) (q : Wq) (to at_ : Int) : Lt := if fndE n c q to at_ = 0 then (q to).getD at_.toNat zL else zL
def takeQ (n c : Nat) (q : Wq) (to at_ : Int) : Wq := if fndE n c q to at_ = 0 then upd q to ((q to).eraseIdx at_.toNat) else q
def twE (n c : Nat) (q : Wq) (to at_ : Int) : Int := if fndE n c q to at_ = 0 then layE q (fndL n c q to at_) else fndE n c q to at_
def twQ (n c : Nat) (q : Wq) (to at_ : Int) : Wq := if fndE n c q to at_ = 0 then layQ q (fndL n c q to at_) else q
def clE (n c : Nat) (to : Int) : Int := if place n c to = true then 0 else 1
def clQ (n c : Nat) (q : Wq) (to : Int) : Wq := if place n c to = true then upd q to [] else q
/-- Letters stand at their places. -/
def Home (n c : Nat) (q : Wq) : Prop := ∀ k, (∀ l ∈ q k, l.to = k) ∧ (place n c k = false → q k = []) ∧ (q k).length ≤ 1024
theorem fndE_zero {n c : Nat} {q : Wq} {to at_ : Int} : fndE n c q to at_ = 0 ↔ place n c to = true ∧ 0 ≤ at_ ∧ at_ < (q to).length := by
  unfold fndE; split <;> (try split) <;> simp_all
theorem fndE_pos {n c : Nat} {q : Wq} {to at_ : Int} (h : ¬ fndE n c q to at_ = 0) : fndE n c q to at_ = 1 ∨ fndE n c q to at_ = 3 := by
  unfold fndE at *; split at h <;> (try split at h) <;> simp_all
theorem fnd_get {n c : Nat} {q : Wq} {to at_ : Int} (h : fndE n c q to at_ = 0) : ∃ hk : at_.toNat < (q to).length, fndL n c q to at_ = (q to)[at_.toNat] := by
  obtain ⟨_, h1, h2⟩ := fndE_zero.1 h
  have hk : at_.toNat < (q to).length := by omega
  refine ⟨hk, ?_⟩
  unfold fndL
  rw [if_pos h, List.getD_eq_getElem?_getD, List.getElem?_eq_getElem hk]
  rfl
theorem Home.upd_ {n c : Nat} {q : Wq} (h : Home n c q) {k : Int} {v : List Lt} (h1 : ∀ l ∈ v, l.to = k) (h2 : place n c k = true) (h3 : v.length ≤ 1024) : Home n c (upd q k v) := by
  intro j
  by_cases e : j = k
  · subst e
    rw [upd_same]
    exact ⟨h1, fun h => (by rw [h2] at h; cases h), h3⟩
  · rw [upd_other _ _ e]; exact h j
theorem Home.lay {n c : Nat} {q : Wq} (h : Home n c q) {l : Lt} (hp : place n c l.to = true) : Home n c (layQ q l) := by
  unfold layQ
  split
  · rename_i hl
    refine h.upd_ (fun x hx => ?_) hp (by rw [List.length_append]; simp; omega)
    rcases List.mem_append.1 hx with hx | hx
    · exact (h _).1 x hx
    · simp at hx; rw [hx]
  · exact h
theorem Home.put {n c : Nat} {q : Wq} (h : Home n c q) (l : Lt) : Home n c (putQ n c q l) := by
  unfold putQ
  split
  · rename_i hc; exact h.lay hc.2.1
  · exact h
theorem Home.take {n c : Nat} {q : Wq} (h : Home n c q) (to at_ : Int) : Home n c (takeQ n c q to at_) := by
  unfold takeQ
  split
  · rename_i hc
    have hs := List.eraseIdx_sublist (q to) at_.toNat
    exact h.upd_ (fun x hx => (h to).1 x (hs.subset hx)) (fndE_zero.1 hc).1 (Nat.le_trans hs.length_le (h to).2.2)
  · exact h
theorem fndL_to {n c : Nat} {q : Wq} (h : Home n c q) {to at_ : Int} (hc : fndE n c q to at_ = 0) : (fndL n c q to at_).to = to := by
  obtain ⟨hk, e⟩ := fnd_get hc
  rw [e]
  exact (h to).1 _ (List.getElem_mem hk)
theorem Home.twice {n c : Nat} {q : Wq} (h : Home n c q) (to at_ : Int) : Home n c (twQ n c q to at_) := by
  unfold twQ
  split
  · rename_i hc
    exact h.lay (by rw [fndL_to h hc]; exact (fndE_zero.1 hc).1)
  · exact h
theorem Home.clear {n c : Nat} {q : Wq} (h : Home n c q) (to : Int) : Home n c (clQ n c q to) := by
  unfold clQ
  split
  · rename_i hc; exact h.upd_ (fun x hx => by simp at hx) hc (by simp)
  · exact h
theorem Home.empty (n c : Nat) : Home n c (fun _ => []) := fun k => ⟨fun l hl => by simp at hl, fun _ => rfl, by simp⟩

/-! ### all in one list -/
def atP (k : Int) (l : Lt) : Bool := l.to == k
/-- The list has what waits at each place. -/
def Has15 (q : Wq) (L : List Lt) : Prop := ∀ k, q k = L.filter (atP k)
theorem Has15.empty : Has15 (fun _ => []) [] := fun _ => rfl
theorem Has15.lay {q : Wq} {L : List Lt} (h : Has15 q L) (l : Lt) (hl : (q l.to).length < 1024) : Has15 (layQ q l) (L ++ [l]) := by
  intro k
  unfold layQ
  rw [if_pos hl, List.filter_append]
  by_cases e : k = l.to
  · subst e
    rw [upd_same, h]
    simp [atP]
  · rw [upd_other _ _ e, h]
    have : atP k l = false := by unfold atP; simp; exact fun q => e q.symm
    simp [this]
/-- Where the letter at a place among those that wait stands. -/
def idx (to : Int) : List Lt → Nat → Option Nat
  | [], _ => none
  | l :: r, a => if atP to l = true then (match a with | 0 => some 0 | a + 1 => (idx to r a).map (· + 1)) else (idx to r a).map (· + 1)
theorem idx_none {to : Int} : ∀ {L : List Lt} {a : Nat}, idx to L a = none ↔ (L.filter (atP to)).length ≤ a
  | [], a => by simp [idx]
  | l :: r, a => by
    unfold idx
    by_cases h : atP to l = true
    · rw [if_pos h, List.filter_cons_of_pos h]
      match a with
      | 0 => simp
      | a + 1 => simp [idx_none (L := r) (a := a)]
    · rw [if_neg h, List.filter_cons_of_neg h]
      simp [idx_none (L := r) (a := a)]
theorem idx_some {to : Int} : ∀ {L : List Lt} {a k : Nat}, idx to L a = some k → ∃ hk : k < L.length, ∃ ha : a < (L.filter (atP to)).length, (L.filter (atP to))[a] = L[k] ∧ atP to L[k] = true ∧ (L.take k ++ L.drop (k + 1)).filter (atP to) = (L.filter (atP to)).eraseIdx a
  | [], a, k, h => by simp [idx] at h
  | l :: r, a, k, h => by
    unfold idx at h
    by_cases hl : atP to l = true
    · rw [if_pos hl] at h
      match a, h with
      | 0, h =>
        simp only [Option.some.injEq] at h
        subst h
        have hf : (l :: r).filter (atP to) = l :: r.filter (atP to) := List.filter_cons_of_pos hl
        refine ⟨by simp, by rw [hf]; simp, ?_, hl, ?_⟩
        · simp only [hf, List.getElem_cons_zero]
        · rw [hf]; simp
      | a + 1, h =>
        simp only [Option.map_eq_some_iff] at h
        obtain ⟨j, hj, rfl⟩ := h
        obtain ⟨hk, ha, h1, h2, h3⟩ := idx_some hj
        have hf : (l :: r).filter (atP to) = l :: r.filter (atP to) := List.filter_cons_of_pos hl
        refine ⟨by simp; omega, by rw [hf]; simp; omega, ?_, by simpa using h2, ?_⟩
        · simp only [hf, List.getElem_cons_succ]; exact h1
        · rw [hf]
          simp only [List.take_succ_cons, List.drop_succ_cons, List.cons_append, List.eraseIdx_cons_succ]
          rw [List.filter_cons_of_pos hl, h3]
    · rw [if_neg hl] at h
      simp only [Option.map_eq_some_iff] at h
      obtain ⟨j, hj, rfl⟩ := h
      obtain ⟨hk, ha, h1, h2, h3⟩ := idx_some hj
      have hf : (l :: r).filter (atP to) = r.filter (atP to) := List.filter_cons_of_neg hl
      refine ⟨by simp; omega, by rw [hf]; exact ha, ?_, by simpa using h2, ?_⟩
      · simp only [hf, List.getElem_cons_succ]; exact h1
      · rw [hf]
        simp only [List.take_succ_cons, List.drop_succ_cons, List.cons_append]
        rw [List.filter_cons_of_neg hl, h3]
theorem Has15.take {q : Wq} {L : List Lt} (h : Has15 q L) {to : Int} {a k : Nat} (hk : idx to L a = some k) : Has15 (upd q to ((q to).eraseIdx a)) (L.take k ++ L.drop (k + 1)) := by
  obtain ⟨hk, ha, h1, h2, h3⟩ := idx_some hk
  intro j
  by_cases e : j = to
  · subst e
    rw [upd_same, h, h3]
  · rw [upd_other _ _ e, h]
    have hL : L = L.take k ++ L[k] :: L.drop (k + 1) := by rw [List.getElem_cons_drop hk, List.take_append_drop]
    have hn : ¬ atP j L[k] = true := by
      unfold atP at *
      simp only [beq_iff_eq] at *
      intro q; exact e (q.symm.trans h2)
    conv => lhs; rw [hL]
    rw [List.filter_append, List.filter_append, List.filter_cons_of_neg hn]
theorem Has15.clear {q : Wq} {L : List Lt} (h : Has15 q L) (to : Int) : Has15 (upd q to []) (L.filter fun l => !atP to l) := by
  intro j
  rw [List.filter_filter]
  by_cases e : j = to
  · subst e
    rw [upd_same]
    symm
    rw [List.filter_eq_nil_iff]
    intro l _
    cases atP j l <;> simp
  · rw [upd_other _ _ e, h]
    refine List.filter_congr fun l _ => ?_
    have : atP j l = true → atP to l = false := by
      unfold atP; simp; intro q1 q2; exact e (q1.symm.trans q2)
    cases hj : atP j l with
    | false => simp
    | true => simp [this hj]
end Go.Proofs.Ytkljokmhfoannaa
