/-
  Layer 7 (sorted), plain: lists that rise by their keys (put, taken away, looked up, from a key on), as the document's own list says them and as a tree says them. No function of the program is spoken of. Conditions: none.
-/
import Derived.Test.YteolhbcmffbdlaaOp
namespace Go.Proofs.Yteolhbcmffbdlaa

abbrev Ky := List UInt8
section
variable {α : Type}
/-- Keys rise. -/
def Rise (l : List (Ky × α)) : Prop := l.Pairwise fun p q => Op.bytesLess p.1 q.1 = true
/-- All stand ahead of a key; behind it. -/
def Ah (l : List (Ky × α)) (k : Ky) : Prop := ∀ p ∈ l, Op.bytesLess p.1 k = true
def Bh (l : List (Ky × α)) (k : Ky) : Prop := ∀ p ∈ l, Op.bytesLess k p.1 = true
def putA (k : Ky) (v : α) (l : List (Ky × α)) : List (Ky × α) := (l.filter fun p => Op.bytesLess p.1 k) ++ (k, v) :: (l.filter fun p => Op.bytesLess k p.1)
def delA (k : Ky) (l : List (Ky × α)) : List (Ky × α) := (l.filter fun p => Op.bytesLess p.1 k) ++ (l.filter fun p => Op.bytesLess k p.1)
def getA (k : Ky) (l : List (Ky × α)) : Option α := (l.find? fun p => p.1 == k).map (·.2)
def fromA (k : Ky) (l : List (Ky × α)) : List (Ky × α) := l.filter fun p => !Op.bytesLess p.1 k

theorem rise_parts {l r : List (Ky × α)} {k : Ky} {v : α} : Rise (l ++ (k, v) :: r) ↔ Rise l ∧ Rise r ∧ Ah l k ∧ Bh r k := by
  unfold Rise Ah Bh
  rw [List.pairwise_append, List.pairwise_cons]
  constructor
  · rintro ⟨h1, ⟨h2, h3⟩, h4⟩
    exact ⟨h1, h3, fun p hp => h4 p hp (k, v) (List.mem_cons_self ..), h2⟩
  · rintro ⟨h1, h2, h3, h4⟩
    refine ⟨h1, ⟨h4, h2⟩, fun p hp q hq => ?_⟩
    rcases List.mem_cons.1 hq with rfl | hq
    · exact h3 p hp
    · exact less_trans _ _ _ (h3 p hp) (h4 q hq)
theorem Ah.lt {l : List (Ky × α)} {a k : Ky} (h : Ah l a) (hk : Op.bytesLess a k = true) : Ah l k := fun p hp => less_trans _ _ _ (h p hp) hk
theorem Bh.lt {l : List (Ky × α)} {a k : Ky} (h : Bh l a) (hk : Op.bytesLess k a = true) : Bh l k := fun p hp => less_trans _ _ _ hk (h p hp)
theorem ah_lt {l : List (Ky × α)} {k : Ky} (h : Ah l k) : (l.filter fun p => Op.bytesLess p.1 k) = l := List.filter_eq_self.2 h
theorem ah_gt {l : List (Ky × α)} {k : Ky} (h : Ah l k) : (l.filter fun p => Op.bytesLess k p.1) = [] := List.filter_eq_nil_iff.2 fun p hp => by rw [less_asymm _ _ (h p hp)]; decide
theorem bh_gt {l : List (Ky × α)} {k : Ky} (h : Bh l k) : (l.filter fun p => Op.bytesLess k p.1) = l := List.filter_eq_self.2 h
theorem bh_lt {l : List (Ky × α)} {k : Ky} (h : Bh l k) : (l.filter fun p => Op.bytesLess p.1 k) = [] := List.filter_eq_nil_iff.2 fun p hp => by rw [less_asymm _ _ (h p hp)]; decide
theorem cut_lt {l r : List (Ky × α)} {k : Ky} {v : α} (hl : Ah l k) (hr : Bh r k) : ((l ++ (k, v) :: r).filter fun p => Op.bytesLess p.1 k) = l := by
  rw [List.filter_append, ah_lt hl, List.filter_cons, bh_lt hr]; simp [less_irr]
theorem cut_gt {l r : List (Ky × α)} {k : Ky} {v : α} (hl : Ah l k) (hr : Bh r k) : ((l ++ (k, v) :: r).filter fun p => Op.bytesLess k p.1) = r := by
  rw [List.filter_append, ah_gt hl, List.filter_cons, bh_gt hr]; simp [less_irr]
/-- The tree's way: at a node with the key; on the side ahead; on the side behind. -/
theorem putA_at {l r : List (Ky × α)} {k : Ky} {x v : α} (h : Rise (l ++ (k, x) :: r)) : putA k v (l ++ (k, x) :: r) = l ++ (k, v) :: r := by
  obtain ⟨_, _, hl, hr⟩ := rise_parts.1 h
  unfold putA
  rw [cut_lt hl hr, cut_gt hl hr]
theorem bh_cons {r : List (Ky × α)} {a k : Ky} {x : α} (hr : Bh r a) (hk : Op.bytesLess k a = true) : Bh ((a, x) :: r) k := fun p hp => by
  rcases List.mem_cons.1 hp with rfl | hp
  · exact hk
  · exact hr.lt hk p hp
theorem ah_snoc {l : List (Ky × α)} {a k : Ky} {x : α} (hl : Ah l a) (hk : Op.bytesLess a k = true) : Ah (l ++ [(a, x)]) k := fun p hp => by
  rcases List.mem_append.1 hp with hp | hp
  · exact hl.lt hk p hp
  · obtain rfl := List.mem_singleton.1 hp; exact hk
theorem putA_bh {l m : List (Ky × α)} {k : Ky} {v : α} (h : Bh m k) : putA k v (l ++ m) = putA k v l ++ m := by
  unfold putA
  rw [List.filter_append, List.filter_append, bh_lt h, bh_gt h]; simp
theorem putA_ah {m r : List (Ky × α)} {k : Ky} {v : α} (h : Ah m k) : putA k v (m ++ r) = m ++ putA k v r := by
  unfold putA
  rw [List.filter_append, List.filter_append, ah_lt h, ah_gt h]; simp
theorem delA_bh {l m : List (Ky × α)} {k : Ky} (h : Bh m k) : delA k (l ++ m) = delA k l ++ m := by
  unfold delA
  rw [List.filter_append, List.filter_append, bh_lt h, bh_gt h]; simp
theorem delA_ah {m r : List (Ky × α)} {k : Ky} (h : Ah m k) : delA k (m ++ r) = m ++ delA k r := by
  unfold delA
  rw [List.filter_append, List.filter_append, ah_lt h, ah_gt h]; simp
theorem putA_less {l r : List (Ky × α)} {a k : Ky} {x v : α} (h : Rise (l ++ (a, x) :: r)) (hk : Op.bytesLess k a = true) : putA k v (l ++ (a, x) :: r) = putA k v l ++ (a, x) :: r :=
  putA_bh (bh_cons (rise_parts.1 h).2.2.2 hk)
theorem putA_more {l r : List (Ky × α)} {a k : Ky} {x v : α} (h : Rise (l ++ (a, x) :: r)) (hk : Op.bytesLess a k = true) : putA k v (l ++ (a, x) :: r) = l ++ (a, x) :: putA k v r := by
  have e : l ++ (a, x) :: r = (l ++ [(a, x)]) ++ r := by simp
  rw [e, putA_ah (ah_snoc (rise_parts.1 h).2.2.1 hk)]; simp
theorem delA_at {l r : List (Ky × α)} {k : Ky} {x : α} (h : Rise (l ++ (k, x) :: r)) : delA k (l ++ (k, x) :: r) = l ++ r := by
  obtain ⟨_, _, hl, hr⟩ := rise_parts.1 h
  unfold delA
  rw [cut_lt hl hr, cut_gt hl hr]
theorem delA_less {l r : List (Ky × α)} {a k : Ky} {x : α} (h : Rise (l ++ (a, x) :: r)) (hk : Op.bytesLess k a = true) : delA k (l ++ (a, x) :: r) = delA k l ++ (a, x) :: r :=
  delA_bh (bh_cons (rise_parts.1 h).2.2.2 hk)
theorem delA_more {l r : List (Ky × α)} {a k : Ky} {x : α} (h : Rise (l ++ (a, x) :: r)) (hk : Op.bytesLess a k = true) : delA k (l ++ (a, x) :: r) = l ++ (a, x) :: delA k r := by
  have e : l ++ (a, x) :: r = (l ++ [(a, x)]) ++ r := by simp
  rw [e, delA_ah (ah_snoc (rise_parts.1 h).2.2.1 hk)]; simp
theorem less_ne {a k : Ky} (h : Op.bytesLess a k = true) : (a == k) = false := by
  rw [beq_eq_false_iff_ne]; rintro rfl; rw [less_irr] at h; cases h
theorem less_ne' {a k : Ky} (h : Op.bytesLess k a = true) : (a == k) = false := by
  rw [beq_eq_false_iff_ne]; rintro rfl; rw [less_irr] at h; cases h
theorem find_ah {l : List (Ky × α)} {k : Ky} (h : Ah l k) : (l.find? fun p => p.1 == k) = none := by
  rw [List.find?_eq_none]; intro p hp; rw [less_ne (h p hp)]; decide
theorem find_bh {l : List (Ky × α)} {k : Ky} (h : Bh l k) : (l.find? fun p => p.1 == k) = none := by
  rw [List.find?_eq_none]; intro p hp; rw [less_ne' (h p hp)]; decide
theorem getA_at {l r : List (Ky × α)} {k : Ky} {x : α} (h : Rise (l ++ (k, x) :: r)) : getA k (l ++ (k, x) :: r) = some x := by
  obtain ⟨_, _, hl, _⟩ := rise_parts.1 h
  unfold getA
  rw [List.find?_append, find_ah hl]; simp
theorem getA_less {l r : List (Ky × α)} {a k : Ky} {x : α} (h : Rise (l ++ (a, x) :: r)) (hk : Op.bytesLess k a = true) : getA k (l ++ (a, x) :: r) = getA k l := by
  unfold getA
  rw [List.find?_append, find_bh (bh_cons (rise_parts.1 h).2.2.2 hk)]; simp
theorem getA_more {l r : List (Ky × α)} {a k : Ky} {x : α} (h : Rise (l ++ (a, x) :: r)) (hk : Op.bytesLess a k = true) : getA k (l ++ (a, x) :: r) = getA k r := by
  unfold getA
  rw [List.find?_append, find_ah ((rise_parts.1 h).2.2.1.lt hk), List.find?_cons, less_ne hk]; simp
theorem fromA_less {l r : List (Ky × α)} {a k : Ky} {x : α} (h : Rise (l ++ (a, x) :: r)) (hk : Op.bytesLess a k = true) : fromA k (l ++ (a, x) :: r) = fromA k r := by
  obtain ⟨_, _, hl, _⟩ := rise_parts.1 h
  unfold fromA
  rw [List.filter_append, List.filter_eq_nil_iff.2 (fun p hp => by rw [hl.lt hk p hp]; decide), List.filter_cons, hk]; simp
theorem fromA_more {l r : List (Ky × α)} {a k : Ky} {x : α} (hk : Op.bytesLess a k = false) : fromA k (l ++ (a, x) :: r) = fromA k l ++ (a, x) :: fromA k r := by
  unfold fromA
  rw [List.filter_append, List.filter_cons, hk]; simp
theorem Rise.left {l r : List (Ky × α)} (h : Rise (l ++ r)) : Rise l := (List.pairwise_append.1 h).1
theorem Rise.right {l r : List (Ky × α)} (h : Rise (l ++ r)) : Rise r := (List.pairwise_append.1 h).2.1
theorem rise_filter {l : List (Ky × α)} (h : Rise l) (f : Ky × α → Bool) : Rise (l.filter f) := List.Pairwise.sublist List.filter_sublist h
theorem ah_filter (l : List (Ky × α)) (k : Ky) : Ah (l.filter fun p => Op.bytesLess p.1 k) k := fun _ hp => (List.mem_filter.1 hp).2
theorem bh_filter (l : List (Ky × α)) (k : Ky) : Bh (l.filter fun p => Op.bytesLess k p.1) k := fun _ hp => (List.mem_filter.1 hp).2
theorem rise_putA {l : List (Ky × α)} (h : Rise l) (k : Ky) (v : α) : Rise (putA k v l) := rise_parts.2 ⟨rise_filter h _, rise_filter h _, ah_filter _ _, bh_filter _ _⟩
theorem rise_delA {l : List (Ky × α)} (h : Rise l) (k : Ky) : Rise (delA k l) :=
  List.pairwise_append.2 ⟨rise_filter h _, rise_filter h _, fun p hp q hq => less_trans _ _ _ (ah_filter l k p hp) (bh_filter l k q hq)⟩
/-- Where keys rise a list falls into what stands ahead of a key, the key, and what stands behind it. -/
theorem split_get {l : List (Ky × α)} {k : Ky} {v : α} (h : getA k l = some v) : ∃ a r, l = a ++ (k, v) :: r := by
  unfold getA at h
  rw [Option.map_eq_some_iff] at h
  obtain ⟨⟨k', v'⟩, h1, rfl⟩ := h
  rw [List.find?_eq_some_iff_append] at h1
  obtain ⟨hk, a, r, rfl, _⟩ := h1
  have : k' = k := by simpa using hk
  subst this
  exact ⟨a, r, rfl⟩
theorem get_none {l : List (Ky × α)} {k : Ky} (h : getA k l = none) {p : Ky × α} (hp : p ∈ l) : p.1 ≠ k := by
  unfold getA at h
  rw [Option.map_eq_none_iff, List.find?_eq_none] at h
  simpa using h p hp
theorem split_none : ∀ {l : List (Ky × α)}, Rise l → ∀ {k : Ky}, getA k l = none → ∃ a r, l = a ++ r ∧ Ah a k ∧ Bh r k
  | [], _, k, _ => ⟨[], [], rfl, fun _ h => (by cases h), fun _ h => (by cases h)⟩
  | p :: l, h, k, hg => by
    obtain ⟨h1, h2⟩ := List.pairwise_cons.1 h
    have hne := get_none hg (List.mem_cons_self ..)
    cases hb : Op.bytesLess p.1 k with
    | true =>
      obtain ⟨a, r, e, ha, hr⟩ := split_none h2 (k := k) (by
        unfold getA at hg ⊢
        rw [List.find?_cons, less_ne hb] at hg
        exact hg)
      refine ⟨p :: a, r, by rw [e]; rfl, fun q hq => ?_, hr⟩
      rcases List.mem_cons.1 hq with rfl | hq
      · exact hb
      · exact ha q hq
    | false =>
      have hk : Op.bytesLess k p.1 = true := by
        cases hx : Op.bytesLess k p.1 with
        | true => rfl
        | false => exact absurd (less_total _ _ hb hx) hne
      refine ⟨[], p :: l, rfl, fun _ h => (by cases h), fun q hq => ?_⟩
      rcases List.mem_cons.1 hq with rfl | hq
      · exact hk
      · exact less_trans _ _ _ hk (h1 q hq)
theorem putA_len {l : List (Ky × α)} (h : Rise l) (k : Ky) (v : α) : (putA k v l).length = l.length + (if (getA k l).isSome then 0 else 1) := by
  cases hg : getA k l with
  | some x =>
    obtain ⟨a, r, rfl⟩ := split_get hg
    rw [putA_at h]; simp
  | none =>
    obtain ⟨a, r, rfl, ha, hr⟩ := split_none h hg
    unfold putA
    rw [List.filter_append, List.filter_append, ah_lt ha, ah_gt ha, bh_lt hr, bh_gt hr]; simp
    omega
theorem delA_none {l : List (Ky × α)} (h : Rise l) {k : Ky} (hg : getA k l = none) : delA k l = l := by
  obtain ⟨a, r, rfl, ha, hr⟩ := split_none h hg
  unfold delA
  rw [List.filter_append, List.filter_append, ah_lt ha, ah_gt ha, bh_lt hr, bh_gt hr]; simp
end
/-! ### trees -/
inductive BT (α : Type) where
  | nil
  | node (l : BT α) (k : Ky) (v : α) (r : BT α)
namespace BT
variable {α : Type}
def all : BT α → List (Ky × α)
  | nil => []
  | node l k v r => l.all ++ (k, v) :: r.all
def cnt (t : BT α) : Nat := t.all.length
theorem cnt_nil : (nil : BT α).cnt = 0 := rfl
theorem cnt_node (l : BT α) (k : Ky) (v : α) (r : BT α) : (node l k v r).cnt = l.cnt + 1 + r.cnt := by
  unfold cnt
  simp only [all, List.length_append, List.length_cons]
  omega
theorem of_cnt {t : BT α} (h : 0 < t.cnt) : ∃ l k v r, t = node l k v r := by
  cases t with
  | nil => cases h
  | node l k v r => exact ⟨l, k, v, r, rfl⟩
end BT
end Go.Proofs.Yteolhbcmffbdlaa
