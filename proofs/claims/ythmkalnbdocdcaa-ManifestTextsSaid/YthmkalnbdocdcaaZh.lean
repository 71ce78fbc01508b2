/-
  Layer 12 (manifest): an edit that came in by value. Conditions: none.
-/
import Derived.Test.YthmkalnbdocdcaaZg
import Derived.Lib.SmallJoins
import Derived.ProofKit
import Derived.ChangeSlices
import Derived.Deep.Slices
import Derived.Deep.Fields
namespace Go.Proofs.Ythmkalnbdocdcaa
open Go.RowKit Go.ChangeShapes Go.WideShapes
set_option linter.unusedVariables false
set_option linter.unusedSimpArgs false

theorem tabs_rd {W : World} {x : Addr} {len cap m : Nat} {q : Nat → Tb} (hl : len ≤ cap) (hm : cap ≤ maxLen) (hlm : len ≤ m)
    (hcell : ∀ i, i < m → (W.cell? (x.add (i * 4)) = some (.int .i64 (q i).1) ∧ W.cell? (x.add (i * 4 + 1)) = some (.int .i64 (q i).2.1) ∧ W.cell? (x.add (i * 4 + 2)) = some (.string (q i).2.2.1) ∧ W.cell? (x.add (i * 4 + 3)) = some (.string (q i).2.2.2)) ∧ (q i).2.2.1.size ≤ maxLen ∧ (q i).2.2.2.size ≤ maxLen) :
    ∃ xs : List Tb, ST W (some x) len cap xs ∧ okT xs := by
  have hlen : ((List.range len).map q).length = len := by simp
  refine ⟨(List.range len).map q, ⟨hlen, ?_, hl, hm⟩, ?_⟩
  · by_cases h0 : len = 0
    · subst h0; exact .inl rfl
    · obtain ⟨b, off, spot⟩ := x
      have hc0 := (hcell 0 (by omega)).1.1
      have hs : spot = none := by simpa [Addr.add] using World.cell?_spot hc0
      subst hs
      have hlt := cell_lt hc0
      have e : ∀ j, (⟨b, off, none⟩ : Addr).add j = ⟨b, off + j, none⟩ := by intro j; unfold Addr.add; split <;> simp_all
      refine .inr ⟨b, off, rfl, by simpa [Addr.add] using hlt, fun i hi => ?_⟩
      rw [hlen] at hi
      have h := (hcell i (by omega)).1
      rw [e, e, e, e] at h
      refine ⟨?_, ?_, ?_, ?_⟩
      · rw [h.1]; simp
      · rw [Nat.add_assoc, h.2.1]; simp
      · rw [Nat.add_assoc, h.2.2.1]; simp
      · rw [Nat.add_assoc, h.2.2.2]; simp
  · intro t ht
    rw [List.mem_map] at ht
    obtain ⟨i, hi, rfl⟩ := ht
    exact (hcell i (by have := List.mem_range.1 hi; omega)).2
section
variable {H : Type} {enc : TypeId × Value → H} {P : Program} {w : World} {base : Nat} {spare : Nat → Bool} {held : Bool}
theorem open_tabs {t e : TypeId} {f0 f1 f2 f3 : Field} {fuel : Nat} {v : Value} {x : DataW H × List MemPlace} (ht : P.underlying t = some (.slice e)) (he : P.underlying e = some (.struct #[f0, f1, f2, f3]))
    (ce : P.cellsOf e = 4) (hone : Go.Deep.oneCellFields P #[f0, f1, f2, f3] = true) (t0 : P.underlying f0.type = some (.int .i64)) (t1 : P.underlying f1.type = some (.int .i64)) (t2 : P.underlying f2.type = some .string) (t3 : P.underlying f3.type = some .string)
    (hf : DataW.trod enc P w base spare held fuel t [v] = some x) : ∃ (a : Option Addr) (n cap : Nat) (xs : List Tb), v = .slice a n cap ∧ ST w a n cap xs ∧ okT xs := by
  rcases Go.Deep.open_slice ht hf with ⟨hcs, _⟩ | ⟨x, l, c, m, n, D, Pl, hcs, _, hl, hm, hmm, _, hi⟩
  · simp only [List.cons.injEq, and_true] at hcs
    exact ⟨none, 0, 0, [], hcs, ⟨rfl, .inl rfl, Nat.le_refl _, Nat.zero_le _⟩, fun x hx => by simp at hx⟩
  · simp only [List.cons.injEq, and_true] at hcs
    have each : ∀ i, i < m → ∃ q : Tb, (w.cell? (x.add (i * 4)) = some (.int .i64 q.1) ∧ w.cell? (x.add (i * 4 + 1)) = some (.int .i64 q.2.1) ∧ w.cell? (x.add (i * 4 + 2)) = some (.string q.2.2.1) ∧ w.cell? (x.add (i * 4 + 3)) = some (.string q.2.2.2)) ∧ q.2.2.1.size ≤ maxLen ∧ q.2.2.2.size ≤ maxLen := by
      intro i him
      obtain ⟨cs', hc, ht'⟩ := hi i him
      rw [ce] at hc
      obtain ⟨_, hcl, hat⟩ := World.cells?_some hc
      obtain ⟨ys, n', _, _, _, hyl, hg⟩ := DataW.trod_struct he ht'
      match ys, hyl, cs', hcl with
      | [y0, y1, y2, y3], _, [v0, v1, v2, v3], _ =>
        obtain ⟨o0, k0⟩ := Go.Deep.hone_of hone 0 f0 rfl
        obtain ⟨o1, k1⟩ := Go.Deep.hone_of hone 1 f1 rfl
        obtain ⟨o2, k2⟩ := Go.Deep.hone_of hone 2 f2 rfl
        obtain ⟨o3, k3⟩ := Go.Deep.hone_of hone 3 f3 rfl
        have g0 := hg 0 f0 rfl
        have g1 := hg 1 f1 rfl
        have g2 := hg 2 f2 rfl
        have g3 := hg 3 f3 rfl
        simp [o0, k0] at g0
        simp [o1, k1] at g1
        simp [o2, k2] at g2
        simp [o3, k3] at g3
        obtain ⟨n0, e0, _⟩ := DataW.trod_int t0 g0
        obtain ⟨n1, e1, _⟩ := DataW.trod_int t1 g1
        obtain ⟨s2, e2, _, z2⟩ := DataW.trod_string t2 g2
        obtain ⟨s3, e3, _, z3⟩ := DataW.trod_string t3 g3
        simp only [List.cons.injEq, and_true] at e0 e1 e2 e3
        have c0 := hat 0 (by omega)
        have c1 := hat 1 (by omega)
        have c2 := hat 2 (by omega)
        have c3 := hat 3 (by omega)
        rw [Go.Deep.add_add] at c0 c1 c2 c3
        subst e0 e1 e2 e3
        exact ⟨(n0, n1, s2, s3), ⟨by simpa using c0, by simpa using c1, by simpa using c2, by simpa using c3⟩, z2, z3⟩
    obtain ⟨q, hq⟩ := Go.Deep.choose_lt each
    obtain ⟨xs, h1, h2⟩ := tabs_rd (q := q) hl hm (by rw [hmm]; split <;> omega) hq
    exact ⟨_, _, _, xs, hcs, h1, h2⟩
theorem open_zs {t e : TypeId} {fuel : Nat} {v : Value} {x : DataW H × List MemPlace} (ht : P.underlying t = some (.slice e)) (he : P.underlying e = some (.int .i64)) (hc : P.cellsOf e = 1)
    (h : DataW.trod enc P w base spare held fuel t [v] = some x) : ∃ (a : Option Addr) (n cap : Nat) (zs : List Int), v = .slice a n cap ∧ SZ w a n cap zs := by
  rcases open_ints ht he hc h with ⟨hcs, _⟩ | ⟨y, l, c, zs, hcs, _, hl, hm, hz, hx, hcell, hwz⟩
  · simp only [List.cons.injEq, and_true] at hcs
    exact ⟨none, 0, 0, [], hcs, rfl, .inl rfl, Nat.le_refl _, Nat.zero_le _⟩
  · simp only [List.cons.injEq, and_true] at hcs
    have hlz : l ≤ zs.length := by rw [hz]; split <;> omega
    have hkl : (zs.take l).length = l := by rw [List.length_take]; omega
    refine ⟨some y, l, c, zs.take l, hcs, hkl, ?_, hl, hm⟩
    by_cases h0 : l = 0
    · subst h0; exact .inl (by simp)
    · obtain ⟨b, off, spot⟩ := y
      have hc0 := hcell 0 (by omega)
      have hs : spot = none := by simpa [Addr.add] using World.cell?_spot hc0
      subst hs
      have hlt := cell_lt hc0
      have e : ∀ j, (⟨b, off, none⟩ : Addr).add j = ⟨b, off + j, none⟩ := by intro j; unfold Addr.add; split <;> simp_all
      refine .inr ⟨b, off, rfl, by simpa [Addr.add] using hlt, fun i hi => ?_⟩
      rw [hkl] at hi
      have h := hcell i (by omega)
      rw [e] at h
      rw [h, List.getElem_take, List.getD_eq_getElem?_getD, List.getElem?_eq_getElem (by omega)]
      rfl
/-- An edit that came in. -/
theorem open_ed {t tt ti : TypeId} {f0 f1 f2 f3 g0 g1 g2 g3 : Field} {r : Reach} {b0 : Nat} {v : Value} {d : DataW H} {p : List MemPlace} (hs : P.underlying t = some (.struct #[f0, f1, f2, f3])) (hone : Go.Deep.oneCellFields P #[f0, f1, f2, f3] = true) (hC : P.cellsOf t = 4)
    (u0 : P.underlying f0.type = some (.slice tt)) (u1 : P.underlying f1.type = some (.slice ti)) (u2 : P.underlying f2.type = some (.int .i64)) (u3 : P.underlying f3.type = some (.int .i64))
    (ht : P.underlying tt = some (.struct #[g0, g1, g2, g3])) (ce : P.cellsOf tt = 4) (hone2 : Go.Deep.oneCellFields P #[g0, g1, g2, g3] = true) (t0 : P.underlying g0.type = some (.int .i64)) (t1 : P.underlying g1.type = some (.int .i64)) (t2 : P.underlying g2.type = some .string) (t3 : P.underlying g3.type = some .string)
    (hi : P.underlying ti = some (.int .i64)) (ci : P.cellsOf ti = 1) (hv : Value.okWide P w r b0 t v) (h : DataW.Trod enc P w base spare held t v d p) : ∃ e : Ed, EV w v e := by
  obtain ⟨v0, v1, v2, v3, y0, y1, y2, y3, n, rfl, -, -, h0, h1, h2, h3⟩ := Joins.open_agg4 hs hone hC hv h
  obtain ⟨a, n', c, xs, rfl, q1, q2⟩ := open_tabs u0 ht ce hone2 t0 t1 t2 t3 h0
  obtain ⟨a', n'', c', zs, rfl, q3⟩ := open_zs u1 hi ci h1
  obtain ⟨l, e2, _⟩ := DataW.trod_int u2 h2
  obtain ⟨m, e3, _⟩ := DataW.trod_int u3 h3
  simp only [List.cons.injEq, and_true] at e2 e3
  subst e2 e3
  exact ⟨(xs, zs, l, m), _, _, _, _, _, _, rfl, q1, q3, q2⟩
end
end Go.Proofs.Ythmkalnbdocdcaa
