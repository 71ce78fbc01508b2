/-
  Layer 4 (span): ranges as cells; a list of ranges in a block, cut at one of them. No function of the program is spoken of. Conditions: none.
-/
import Derived.Test.YtmglgmljlaplcaaSs
namespace Go.Proofs.Ytmglgmljlaplcaa
open Go.RowKit

def rv (xs : List Rng) : List Value := xs.flatMap fun x => [.string x.1, .string x.2]
theorem rv_nil : rv [] = [] := rfl
theorem rv_cons (x : Rng) (xs : List Rng) : rv (x :: xs) = [.string x.1, .string x.2] ++ rv xs := rfl
theorem rv_append (xs ys : List Rng) : rv (xs ++ ys) = rv xs ++ rv ys := by simp [rv]
theorem rv_mid (p q : List Rng) (a b c d : ByteArray) : rv (p ++ [(a, b)] ++ [(c, d)] ++ q) = rv p ++ [.string a, .string b] ++ [.string c, .string d] ++ rv q := by simp [rv]
theorem rv_length (xs : List Rng) : (rv xs).length = xs.length * 2 := by
  induction xs with
  | nil => rfl
  | cons x xs ih => rw [rv_cons, List.length_append, ih, List.length_cons]; simp; omega
theorem rv_one (xs : List Rng) : ∀ u ∈ rv xs, u.oneCell' = true := by
  intro u hu
  simp only [rv, List.mem_flatMap, List.mem_cons, List.not_mem_nil, or_false] at hu
  obtain ⟨x, _, rfl | rfl⟩ := hu <;> rfl
theorem rv_get (xs : List Rng) : ∀ (i : Nat) (h : i < xs.length), (rv xs)[i * 2]? = some (.string xs[i].1) ∧ (rv xs)[i * 2 + 1]? = some (.string xs[i].2) := by
  induction xs with
  | nil => intro i h; simp at h
  | cons x xs ih =>
    intro i h
    rw [rv_cons]
    cases i with
    | zero => simp
    | succ i =>
      have hi := ih i (by simpa using h)
      rw [List.getElem?_append_right (by simp; omega), List.getElem?_append_right (by simp; omega)]
      rw [show (i + 1) * 2 - [Value.string x.1, Value.string x.2].length = i * 2 by simp; omega, show (i + 1) * 2 + 1 - [Value.string x.1, Value.string x.2].length = i * 2 + 1 by simp; omega]
      simpa using hi
theorem rv_take (xs : List Rng) (k : Nat) (j : Nat) (u : Value) (h : (rv (xs.take k))[j]? = some u) : (rv xs)[j]? = some u := by
  have e : rv xs = rv (xs.take k) ++ rv (xs.drop k) := by rw [← rv_append, List.take_append_drop]
  rw [e, List.getElem?_append_left (List.getElem?_eq_some_iff.1 h).1]
  exact h
theorem rv_drop (xs : List Rng) (k : Nat) (hk : k ≤ xs.length) (j : Nat) (u : Value) (h : (rv (xs.drop k))[j]? = some u) : (rv xs)[k * 2 + j]? = some u := by
  have e : rv xs = rv (xs.take k) ++ rv (xs.drop k) := by rw [← rv_append, List.take_append_drop]
  have hl : (rv (xs.take k)).length = k * 2 := by rw [rv_length, List.length_take, Nat.min_eq_left hk]
  rw [e, List.getElem?_append_right (by omega), hl, show k * 2 + j - k * 2 = j by omega]
  exact h
/-- A block's first cells are ranges. -/
def RvAt (w : World) (g : Nat) (xs : List Rng) : Prop := g < w.heap.size ∧ ∀ j u, (rv xs)[j]? = some u → w.cell? ⟨g, j, none⟩ = some u
theorem RvAt.old {w w' : World} {g : Nat} {xs : List Rng} (h : RvAt w g xs) {B : Nat} (hb : Below B w w') (hg : g < B) : RvAt w' g xs :=
  ⟨Nat.lt_of_lt_of_le h.1 hb.size, fun j u hu => (hb.cell (p := ⟨g, j, none⟩) hg).trans (h.2 j u hu)⟩
theorem RvAt.rd {w : World} {g : Nat} {xs : List Rng} (h : RvAt w g xs) : RdS w (some ⟨g, 0, none⟩) xs := by
  refine .inr ⟨g, 0, rfl, h.1, fun i hi => ?_⟩
  obtain ⟨h0, h1⟩ := rv_get xs i hi
  rw [Nat.zero_add]
  exact ⟨h.2 _ _ h0, h.2 _ _ h1⟩
theorem RvAt.at_ {w : World} {g : Nat} {xs : List Rng} (h : RvAt w g xs) {i : Nat} (hi : i < xs.length) : w.cell? ⟨g, i * 2, none⟩ = some (.string xs[i].1) ∧ w.cell? ⟨g, i * 2 + 1, none⟩ = some (.string xs[i].2) := by
  obtain ⟨h0, h1⟩ := rv_get xs i hi
  exact ⟨h.2 _ _ h0, h.2 _ _ h1⟩
theorem add_plain (g off j : Nat) : (⟨g, off, none⟩ : Addr).add j = ⟨g, off + j, none⟩ := by unfold Addr.add; split <;> simp_all
theorem RvAt.take {w : World} {g : Nat} {xs : List Rng} (h : RvAt w g xs) (k : Nat) : ∀ j u, (rv (xs.take k))[j]? = some u → w.cell? ((⟨g, 0, none⟩ : Addr).add j) = some u := by
  intro j u hu
  rw [add_plain, Nat.zero_add]
  exact h.2 _ _ (rv_take xs k j u hu)
theorem RvAt.drop {w : World} {g : Nat} {xs : List Rng} (h : RvAt w g xs) {k : Nat} (hk : k ≤ xs.length) : ∀ j u, (rv (xs.drop k))[j]? = some u → w.cell? ((⟨g, k * 2, none⟩ : Addr).add j) = some u := by
  intro j u hu
  rw [add_plain]
  exact h.2 _ _ (rv_drop xs k hk j u hu)
/-- What the call owns, as a block of ranges. -/
theorem own_rv {w : World} {base n : Nat} {t : TypeId} {v : Value} {xs : List Rng} (h : w.ownsRow base t 2 v n (rv xs)) (hn : 0 < n) : ∃ g cap, v = .slice (some ⟨g, 0, none⟩) n cap ∧ n ≤ cap ∧ cap ≤ maxLen ∧ base ≤ g ∧ RvAt w g xs := by
  have hl := h.lt
  have hc := @World.ownsRow.cells _ _ _ _ _ _ _ h
  rcases h.2 with ⟨_, h0⟩ | ⟨g, cap, cur, rfl, hb, hg, hnc, hcm, _⟩
  · have h1 := h.1
    rw [h0] at h1
    simp at h1
    omega
  · refine ⟨g, cap, rfl, hnc, hcm, hb, (hl g rfl).2, fun j u hu => ?_⟩
    have := hc (g := g) rfl j u hu
    rw [add_plain, Nat.zero_add] at this
    exact this
theorem cell_new2 (w : World) (A B : Value) (t : TypeId) : ∀ j u, [A, B][j]? = some u → (w.alloc (.cells #[A, B] t)).cell? ((⟨w.heap.size, 0, none⟩ : Addr).add j) = some u := by
  intro j u hj
  rw [add_plain]
  match j, hj with
  | 0, hj => simp at hj; subst hj; simp
  | 1, hj => simp at hj; subst hj; simp
theorem two_one (a b : ByteArray) : ∀ u ∈ [Value.string a, Value.string b], u.oneCell' = true := by
  intro u hu
  simp at hu
  rcases hu with rfl | rfl <;> rfl
/-- What the ranges of the law keep. -/
def Good (L : List Rng) : Prop := coversB L = true ∧ ∀ x ∈ L, mayB x.1 x.2 = true
theorem Good.ok {L : List Rng} (h : Good L) : okL L := fun x hx => ⟨okS_key (mayB_iff.1 (h.2 x hx)).1, okS_key (mayB_iff.1 (h.2 x hx)).2.1⟩
theorem Good.cut {L : List Rng} (h : Good L) {k : Nat} (hk : k < L.length) {lo hi key : ByteArray} (hlo : lo = L[k].1) (hhi : hi = L[k].2) (hc : cutB lo hi key = true) :
    Good (L.take k ++ [(lo, key)] ++ [(key, hi)] ++ L.drop (k + 1)) := by
  subst hlo hhi
  have e : L = L.take k ++ [(L[k].1, L[k].2)] ++ L.drop (k + 1) := by
    rw [List.append_assoc]
    show L = L.take k ++ (L[k] :: L.drop (k + 1))
    rw [List.getElem_cons_drop, List.take_append_drop]
  refine ⟨covers_cut hc (by rw [← e]; exact h.1), fun x hx => ?_⟩
  simp only [List.mem_append, List.mem_singleton] at hx
  rcases hx with ((hx | rfl) | rfl) | hx
  · exact h.2 x (List.mem_of_mem_take hx)
  · exact cut_may1 hc
  · exact cut_may2 hc
  · exact h.2 x (List.mem_of_mem_drop hx)
theorem cut_length (L : List Rng) {k : Nat} (hk : k < L.length) (a b : Rng) : (L.take k ++ [a] ++ [b] ++ L.drop (k + 1)).length = L.length + 1 := by
  simp only [List.length_append, List.length_take, List.length_drop, List.length_singleton]
  omega
theorem Good.one : Good [((⟨#[]⟩ : ByteArray), (⟨#[]⟩ : ByteArray))] := ⟨covers_whole, fun x hx => by
  rw [List.mem_singleton] at hx
  subst hx
  decide +kernel⟩
theorem Try.infoSpan : (Try.prog.info? 23).map (fun i => (i.zero, i.size, i.bytes)) = some (some (.agg #[.string ⟨#[]⟩, .string ⟨#[]⟩]), 2, 32) := by kernel_rfl
end Go.Proofs.Ytmglgmljlaplcaa
