/-
  Layer 4 (span): a slice of ranges that came in. Conditions: none.
-/
import Derived.Test.YtmglgmljlaplcaaSs
import Derived.Deep.SlicePairs
namespace Go.Proofs.Ytmglgmljlaplcaa
open Go.RowKit

theorem spans_rd {W : World} {x : Addr} {len cap m : Nat} {S0 S1 : Nat → ByteArray} (hl : len ≤ cap) (hm : cap ≤ maxLen) (hlm : len ≤ m)
    (hcell : ∀ i, i < m → (W.cell? (x.add (i * 2)) = some (.string (S0 i)) ∧ W.cell? (x.add (i * 2 + 1)) = some (.string (S1 i))) ∧ (S0 i).size ≤ maxLen ∧ (S1 i).size ≤ maxLen) :
    ∃ xs : List Rng, xs.length = len ∧ RdS W (some x) xs ∧ okL xs ∧ xs.length ≤ maxLen ∧ xs.length ≤ cap := by
  have hlen : ((List.range len).map fun i => (S0 i, S1 i)).length = len := by simp
  refine ⟨(List.range len).map fun i => (S0 i, S1 i), hlen, ?_, ?_, by rw [hlen]; omega, by rw [hlen]; exact hl⟩
  · by_cases h0 : len = 0
    · subst h0; exact .inl rfl
    · obtain ⟨b, off, spot⟩ := x
      have hc0 := (hcell 0 (by omega)).1.1
      have hs : spot = none := by simpa [Addr.add] using World.cell?_spot hc0
      subst hs
      have hlt := cell_lt hc0
      have e : ∀ j, (⟨b, off, none⟩ : Addr).add j = ⟨b, off + j, none⟩ := by intro j; unfold Addr.add; split <;> simp_all
      refine .inr ⟨b, off, rfl, by simpa [Addr.add] using hlt, fun i hi => ?_⟩
      rw [hlen] at hi
      have h := (hcell i (by omega)).1
      rw [e, e] at h
      refine ⟨?_, ?_⟩
      · rw [h.1]; simp
      · rw [Nat.add_assoc, h.2]; simp
  · intro t ht
    rw [List.mem_map] at ht
    obtain ⟨i, hi, rfl⟩ := ht
    have := (hcell i (by have := List.mem_range.1 hi; omega)).2
    exact this
section
variable {H : Type} {enc : TypeId × Value → H} {P : Program} {w : World} {base : Nat} {spare : Nat → Bool} {held : Bool}
theorem open_spans {t e : TypeId} {f0 f1 : Field} {a : Option Addr} {len cap : Nat} {d : DataW H} {p : List MemPlace} (ht : P.underlying t = some (.slice e)) (he : P.underlying e = some (.struct #[f0, f1]))
    (ce : P.cellsOf e = 2) (o0 : f0.offset = 0) (o1 : f1.offset = 1) (c0 : P.cellsOf f0.type = 1) (c1 : P.cellsOf f1.type = 1) (t0 : P.underlying f0.type = some .string) (t1 : P.underlying f1.type = some .string)
    (h : DataW.Trod enc P w base spare held t (.slice a len cap) d p) : ∃ xs : List Rng, xs.length = len ∧ RdS w a xs ∧ okL xs ∧ xs.length ≤ maxLen ∧ xs.length ≤ cap := by
  obtain ⟨fuel, hf⟩ := h
  rcases Go.Deep.open_slice_pairs ht he ce o0 o1 c0 c1 hf with ⟨hcs, _⟩ | ⟨x, l, c, m, n, V0, V1, D0, D1, P0, P1, hcs, _, hl, hm, hmm, _, hcell⟩
  · simp [Value.cells] at hcs
    obtain ⟨rfl, rfl, rfl⟩ := hcs
    exact ⟨[], rfl, .inl rfl, fun x hx => by simp at hx, Nat.zero_le _, Nat.zero_le _⟩
  · simp [Value.cells] at hcs
    obtain ⟨rfl, rfl, rfl⟩ := hcs
    have hstr : ∀ i, i < m → ∃ q : ByteArray × ByteArray, (w.cell? (x.add (i * 2)) = some (.string q.1) ∧ w.cell? (x.add (i * 2 + 1)) = some (.string q.2)) ∧ q.1.size ≤ maxLen ∧ q.2.size ≤ maxLen := by
      intro i hi
      obtain ⟨h0, h1, h2, h3⟩ := hcell i hi
      obtain ⟨s0, e0, _, z0⟩ := DataW.trod_string t0 h2
      obtain ⟨s1, e1, _, z1⟩ := DataW.trod_string t1 h3
      simp only [List.cons.injEq, and_true] at e0 e1
      rw [e0] at h0
      rw [e1] at h1
      exact ⟨(s0, s1), ⟨h0, h1⟩, z0, z1⟩
    obtain ⟨q, hq⟩ := Go.Deep.choose_lt hstr
    exact spans_rd (S0 := fun i => (q i).1) (S1 := fun i => (q i).2) hl hm (by rw [hmm]; split <;> omega) hq
end
end Go.Proofs.Ytmglgmljlaplcaa
