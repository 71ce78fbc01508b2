/-
  Layer 9 (block): a slice of entries that came in, and an entry that came in by value; of both texts the length is told. Conditions: none.
-/
import Derived.Test.YtdpinkipcaolhaaKc
import Derived.Lib.SmallJoins
import Derived.ProofKit
import Derived.Deep.Slices
import Derived.Deep.Fields
namespace Go.Proofs.Ytdpinkipcaolhaa
open Go.RowKit

theorem entsV_rd {W : World} {x : Addr} {len cap m : Nat} {S0 S1 : Nat → ByteArray} {B : Nat → Bool} {N : Nat → Int} (hl : len ≤ cap) (hm : cap ≤ maxLen) (hlm : len ≤ m)
    (hcell : ∀ i, i < m → (W.cell? (x.add (i * 4)) = some (.string (S0 i)) ∧ W.cell? (x.add (i * 4 + 1)) = some (.string (S1 i)) ∧ W.cell? (x.add (i * 4 + 2)) = some (.bool (B i)) ∧ W.cell? (x.add (i * 4 + 3)) = some (.int .i64 (N i))) ∧ (S0 i).size ≤ maxLen ∧ (S1 i).size ≤ maxLen) :
    ∃ xs : List Ent, xs.length = len ∧ RdE W (some x) xs ∧ okV xs ∧ xs.length ≤ maxLen ∧ xs.length ≤ cap := by
  have hlen : ((List.range len).map fun i => ((S0 i, S1 i, B i, N i) : Ent)).length = len := by simp
  refine ⟨(List.range len).map fun i => (S0 i, S1 i, B i, N i), hlen, ?_, ?_, by rw [hlen]; omega, by rw [hlen]; exact hl⟩
  · by_cases h0 : len = 0
    · subst h0; exact .inl rfl
    · obtain ⟨b, off, spot⟩ := x
      have hc0 := (hcell 0 (by omega)).1.1
      have hs : spot = none := by simpa [Addr.add] using World.cell?_spot hc0
      subst hs
      have hlt := cell_lt hc0
      have e : ∀ j, (⟨b, off, none⟩ : Addr).add j = ⟨b, off + j, none⟩ := by intro j; unfold Addr.add; split <;> simp_all
      refine .inr ⟨b, off, rfl, by simpa [Addr.add] using hlt, fun i hi => ?_⟩
      rw [hlen] at hi
      have h := (hcell i (by omega)).1
      rw [e, e, e, e] at h
      refine ⟨?_, ?_, ?_, ?_⟩
      · rw [h.1]; simp
      · rw [Nat.add_assoc, h.2.1]; simp
      · rw [Nat.add_assoc, h.2.2.1]; simp
      · rw [Nat.add_assoc, h.2.2.2]; simp
  · intro t ht
    rw [List.mem_map] at ht
    obtain ⟨i, hi, rfl⟩ := ht
    exact (hcell i (by have := List.mem_range.1 hi; omega)).2
section
variable {H : Type} {enc : TypeId × Value → H} {P : Program} {w : World} {base : Nat} {spare : Nat → Bool} {held : Bool}
theorem open_entsV {t e : TypeId} {f0 f1 f2 f3 : Field} {a : Option Addr} {len cap : Nat} {d : DataW H} {p : List MemPlace} (ht : P.underlying t = some (.slice e)) (he : P.underlying e = some (.struct #[f0, f1, f2, f3]))
    (ce : P.cellsOf e = 4) (hone : Go.Deep.oneCellFields P #[f0, f1, f2, f3] = true) (t0 : P.underlying f0.type = some .string) (t1 : P.underlying f1.type = some .string) (t2 : P.underlying f2.type = some .bool) (t3 : P.underlying f3.type = some (.int .i64))
    (h : DataW.Trod enc P w base spare held t (.slice a len cap) d p) : ∃ xs : List Ent, xs.length = len ∧ RdE w a xs ∧ okV xs ∧ xs.length ≤ maxLen ∧ xs.length ≤ cap := by
  obtain ⟨fuel, hf⟩ := h
  rcases Go.Deep.open_slice ht hf with ⟨hcs, _⟩ | ⟨x, l, c, m, n, D, Pl, hcs, _, hl, hm, hmm, _, hi⟩
  · simp [Value.cells] at hcs
    obtain ⟨rfl, rfl, rfl⟩ := hcs
    exact ⟨[], rfl, .inl rfl, fun x hx => by simp at hx, Nat.zero_le _, Nat.zero_le _⟩
  · simp [Value.cells] at hcs
    obtain ⟨rfl, rfl, rfl⟩ := hcs
    have each : ∀ i, i < m → ∃ q : Ent, (w.cell? (x.add (i * 4)) = some (.string q.1) ∧ w.cell? (x.add (i * 4 + 1)) = some (.string q.2.1) ∧ w.cell? (x.add (i * 4 + 2)) = some (.bool q.2.2.1) ∧ w.cell? (x.add (i * 4 + 3)) = some (.int .i64 q.2.2.2)) ∧ q.1.size ≤ maxLen ∧ q.2.1.size ≤ maxLen := by
      intro i him
      obtain ⟨cs', hc, ht'⟩ := hi i him
      rw [ce] at hc
      obtain ⟨_, hcl, hat⟩ := World.cells?_some hc
      obtain ⟨ys, n', _, _, _, hyl, hg⟩ := DataW.trod_struct he ht'
      match ys, hyl, cs', hcl with
      | [y0, y1, y2, y3], _, [v0, v1, v2, v3], _ =>
        obtain ⟨o0, k0⟩ := Go.Deep.hone_of hone 0 f0 rfl
        obtain ⟨o1, k1⟩ := Go.Deep.hone_of hone 1 f1 rfl
        obtain ⟨o2, k2⟩ := Go.Deep.hone_of hone 2 f2 rfl
        obtain ⟨o3, k3⟩ := Go.Deep.hone_of hone 3 f3 rfl
        have g0 := hg 0 f0 rfl
        have g1 := hg 1 f1 rfl
        have g2 := hg 2 f2 rfl
        have g3 := hg 3 f3 rfl
        simp [o0, k0] at g0
        simp [o1, k1] at g1
        simp [o2, k2] at g2
        simp [o3, k3] at g3
        obtain ⟨s0, e0, _, z0⟩ := DataW.trod_string t0 g0
        obtain ⟨s1, e1, _, z1⟩ := DataW.trod_string t1 g1
        obtain ⟨b2, e2, _⟩ := DataW.trod_bool t2 g2
        obtain ⟨n3, e3, _⟩ := DataW.trod_int t3 g3
        simp only [List.cons.injEq, and_true] at e0 e1 e2 e3
        have c0 := hat 0 (by omega)
        have c1 := hat 1 (by omega)
        have c2 := hat 2 (by omega)
        have c3 := hat 3 (by omega)
        rw [Go.Deep.add_add] at c0 c1 c2 c3
        subst e0 e1 e2 e3
        exact ⟨(s0, s1, b2, n3), ⟨by simpa using c0, by simpa using c1, by simpa using c2, by simpa using c3⟩, z0, z1⟩
    obtain ⟨q, hq⟩ := Go.Deep.choose_lt each
    exact entsV_rd (S0 := fun i => (q i).1) (S1 := fun i => (q i).2.1) (B := fun i => (q i).2.2.1) (N := fun i => (q i).2.2.2) hl hm (by rw [hmm]; split <;> omega) hq
end
end Go.Proofs.Ytdpinkipcaolhaa
