/-
  Layer 14 (once): rows of pairs, that the call owns, and that came in. No function of the program is spoken of. Conditions: none.
-/
import Derived.Test.YtemaonfgledcmaaNy
import Derived.Deep.SlicePairs
import Derived.OneCell
namespace Go.Proofs.Ytemaonfgledcmaa
open Go.RowKit

def pv (xs : List Pr) : List Value := xs.flatMap fun x => [.string x.1, .string x.2]
theorem pv_cons (x : Pr) (xs : List Pr) : pv (x :: xs) = [.string x.1, .string x.2] ++ pv xs := rfl
theorem pv_snoc (xs : List Pr) (x : Pr) : pv xs ++ [.string x.1, .string x.2] = pv (xs ++ [x]) := by simp [pv]
theorem pv_get (xs : List Pr) : ∀ (i : Nat) (h : i < xs.length), (pv xs)[i * 2]? = some (.string xs[i].1) ∧ (pv xs)[i * 2 + 1]? = some (.string xs[i].2) := by
  induction xs with
  | nil => intro i h; simp at h
  | cons x xs ih =>
    intro i h
    rw [pv_cons]
    cases i with
    | zero => simp
    | succ i =>
      have hi := ih i (by simpa using h)
      rw [List.getElem?_append_right (by simp; omega), List.getElem?_append_right (by simp; omega)]
      rw [show (i + 1) * 2 - [Value.string x.1, Value.string x.2].length = i * 2 by simp; omega, show (i + 1) * 2 + 1 - [Value.string x.1, Value.string x.2].length = i * 2 + 1 by simp; omega]
      simpa using hi
theorem pv_one (a b : ByteArray) : ∀ u ∈ [Value.string a, Value.string b], u.oneCell' = true := by
  intro u hu
  simp at hu
  rcases hu with rfl | rfl <;> rfl
theorem add_pln (g off j : Nat) : (⟨g, off, none⟩ : Addr).add j = ⟨g, off + j, none⟩ := by unfold Addr.add; split <;> simp_all
theorem own_pv {w : World} {base n cap : Nat} {t : TypeId} {a : Option Addr} {xs : List Pr} (h : w.ownsRow base t 2 (.slice a n cap) n (pv xs)) (hn : xs.length = n) : PRd w a xs := by
  have hl := h.lt
  have hc := @World.ownsRow.cells _ _ _ _ _ _ _ h
  rcases h.2 with ⟨_, h0⟩ | ⟨g, cap', cur, hv, hb, hg, hnc, hcm, _⟩
  · refine .inl (List.eq_nil_of_length_eq_zero ?_)
    have h1 := h.1
    rw [h0] at h1
    simp at h1
    omega
  · injection hv with hv1 _ _
    subst hv1
    refine .inr ⟨g, 0, rfl, (hl g rfl).2, fun i hi => ?_⟩
    obtain ⟨h0, h1⟩ := pv_get xs i hi
    have q0 := hc (g := g) rfl _ _ h0
    have q1 := hc (g := g) rfl _ _ h1
    rw [add_pln] at q0 q1
    exact ⟨q0, q1⟩
theorem cell_nw2 (w : World) (A B : Value) (t : TypeId) : ∀ j u, [A, B][j]? = some u → (w.alloc (.cells #[A, B] t)).cell? ((⟨w.heap.size, 0, none⟩ : Addr).add j) = some u := by
  intro j u hj
  rw [add_pln]
  match j, hj with
  | 0, hj => simp at hj; subst hj; simp
  | 1, hj => simp at hj; subst hj; simp
theorem Try.infoPr : (Try.prog.info? 27).map (fun i => (i.zero, i.size, i.bytes)) = some (some (.agg #[.string ⟨#[]⟩, .string ⟨#[]⟩]), 2, 32) := by kernel_rfl
def okP (xs : List Pr) : Prop := ∀ x ∈ xs, x.1.size ≤ maxLen ∧ x.2.size ≤ maxLen
theorem pairs_rd {W : World} {x : Addr} {len cap m : Nat} {S0 S1 : Nat → ByteArray} (hl : len ≤ cap) (hm : cap ≤ maxLen) (hlm : len ≤ m)
    (hcell : ∀ i, i < m → (W.cell? (x.add (i * 2)) = some (.string (S0 i)) ∧ W.cell? (x.add (i * 2 + 1)) = some (.string (S1 i))) ∧ (S0 i).size ≤ maxLen ∧ (S1 i).size ≤ maxLen) :
    ∃ xs : List Pr, xs.length = len ∧ PRd W (some x) xs ∧ okP xs ∧ xs.length ≤ maxLen ∧ xs.length ≤ cap := by
  have hlen : ((List.range len).map fun i => (S0 i, S1 i)).length = len := by simp
  refine ⟨(List.range len).map fun i => (S0 i, S1 i), hlen, ?_, ?_, by rw [hlen]; omega, by rw [hlen]; exact hl⟩
  · by_cases h0 : len = 0
    · subst h0; exact .inl rfl
    · obtain ⟨b, off, spot⟩ := x
      have hc0 := (hcell 0 (by omega)).1.1
      have hs : spot = none := by simpa [Addr.add] using World.cell?_spot hc0
      subst hs
      have hlt := cell_lt hc0
      have e : ∀ j, (⟨b, off, none⟩ : Addr).add j = ⟨b, off + j, none⟩ := by intro j; unfold Addr.add; split <;> simp_all
      refine .inr ⟨b, off, rfl, by simpa [Addr.add] using hlt, fun i hi => ?_⟩
      rw [hlen] at hi
      have h := (hcell i (by omega)).1
      rw [e, e] at h
      refine ⟨?_, ?_⟩
      · rw [h.1]; simp
      · rw [Nat.add_assoc, h.2]; simp
  · intro t ht
    rw [List.mem_map] at ht
    obtain ⟨i, hi, rfl⟩ := ht
    have := (hcell i (by have := List.mem_range.1 hi; omega)).2
    exact this
section
variable {H : Type} {enc : TypeId × Value → H} {P : Program} {w : World} {base : Nat} {spare : Nat → Bool} {held : Bool}
theorem open_pairs {t e : TypeId} {f0 f1 : Field} {a : Option Addr} {len cap : Nat} {d : DataW H} {p : List MemPlace} (ht : P.underlying t = some (.slice e)) (he : P.underlying e = some (.struct #[f0, f1]))
    (ce : P.cellsOf e = 2) (o0 : f0.offset = 0) (o1 : f1.offset = 1) (c0 : P.cellsOf f0.type = 1) (c1 : P.cellsOf f1.type = 1) (t0 : P.underlying f0.type = some .string) (t1 : P.underlying f1.type = some .string)
    (h : DataW.Trod enc P w base spare held t (.slice a len cap) d p) : ∃ xs : List Pr, xs.length = len ∧ PRd w a xs ∧ okP xs ∧ xs.length ≤ maxLen ∧ xs.length ≤ cap := by
  obtain ⟨fuel, hf⟩ := h
  rcases Go.Deep.open_slice_pairs ht he ce o0 o1 c0 c1 hf with ⟨hcs, _⟩ | ⟨x, l, c, m, n, V0, V1, D0, D1, P0, P1, hcs, _, hl, hm, hmm, _, hcell⟩
  · simp [Value.cells] at hcs
    obtain ⟨rfl, rfl, rfl⟩ := hcs
    exact ⟨[], rfl, .inl rfl, fun x hx => by simp at hx, Nat.zero_le _, Nat.zero_le _⟩
  · simp [Value.cells] at hcs
    obtain ⟨rfl, rfl, rfl⟩ := hcs
    have hstr : ∀ i, i < m → ∃ q : ByteArray × ByteArray, (w.cell? (x.add (i * 2)) = some (.string q.1) ∧ w.cell? (x.add (i * 2 + 1)) = some (.string q.2)) ∧ q.1.size ≤ maxLen ∧ q.2.size ≤ maxLen := by
      intro i hi
      obtain ⟨h0, h1, h2, h3⟩ := hcell i hi
      obtain ⟨s0, e0, _, z0⟩ := DataW.trod_string t0 h2
      obtain ⟨s1, e1, _, z1⟩ := DataW.trod_string t1 h3
      simp only [List.cons.injEq, and_true] at e0 e1
      rw [e0] at h0
      rw [e1] at h1
      exact ⟨(s0, s1), ⟨h0, h1⟩, z0, z1⟩
    obtain ⟨q, hq⟩ := Go.Deep.choose_lt hstr
    exact pairs_rd (S0 := fun i => (q i).1) (S1 := fun i => (q i).2) hl hm (by rw [hmm]; split <;> omega) hq
end
end Go.Proofs.Ytemaonfgledcmaa
