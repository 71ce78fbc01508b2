/-
  Layer 14 (once): what clients did last that came in: a list, one by value. Conditions: none.
-/
import Derived.Test.YtemaonfgledcmaaNc
import Derived.Lib.SmallJoins
import Derived.ProofKit
import Derived.ChangeSlices
import Derived.Deep.Slices
import Derived.Deep.Fields
namespace Go.Proofs.Ytemaonfgledcmaa
open Go.RowKit Go.ChangeShapes Go.WideShapes
set_option linter.unusedVariables false
set_option linter.unusedSimpArgs false

instance : Inhabited Sn := ⟨Z0⟩
section
variable {H : Type} {enc : TypeId × Value → H} {P : Program} {w : World} {base : Nat} {spare : Nat → Bool} {held : Bool}
/-- How the two structs lie. -/
structure SeenT (P : Program) (e : TypeId) : Prop where
  ex : ∃ f0 f1 f2 g0 g1 g2 g3 g4 : Field, ∃ tp : TypeId, P.underlying e = some (.struct #[f0, f1, f2]) ∧ P.cellsOf e = 7 ∧ f0.offset = 0 ∧ f1.offset = 1 ∧ f2.offset = 2 ∧ P.cellsOf f0.type = 1 ∧ P.cellsOf f1.type = 1 ∧ P.cellsOf f2.type = 5 ∧
    P.underlying f0.type = some (.int .i64) ∧ P.underlying f1.type = some (.int .i64) ∧ P.underlying f2.type = some (.struct #[g0, g1, g2, g3, g4]) ∧ Go.Deep.oneCellFields P #[g0, g1, g2, g3, g4] = true ∧
    P.underlying g0.type = some (.int .i64) ∧ P.underlying g1.type = some .string ∧ P.underlying g2.type = some .bool ∧ P.underlying g3.type = some (.slice tp) ∧ P.underlying g4.type = some .string
theorem open_seen1 {e : TypeId} (hT : SeenT P e) {fuel : Nat} {cs : List Value} {x : DataW H × List MemPlace} (h : DataW.trod enc P w base spare held fuel e cs = some x) : ∃ s : Sn, cs = cv s := by
  obtain ⟨f0, f1, f2, g0, g1, g2, g3, g4, tp, he, h7, o0, o1, o2, k0, k1, k2, u0, u1, u2, hone, t0, t1, t2, t3, t4⟩ := hT.ex
  obtain ⟨ys, n', _, _, hcl, hyl, hg⟩ := DataW.trod_struct he h
  rw [h7] at hcl
  match ys, hyl, cs, hcl with
  | [y0, y1, y2], _, [v0, v1, v2, v3, v4, v5, v6], _ =>
    have q0 := hg 0 f0 rfl
    have q1 := hg 1 f1 rfl
    have q2 := hg 2 f2 rfl
    simp [o0, k0] at q0
    simp [o1, k1] at q1
    simp [o2, k2] at q2
    obtain ⟨c, e0, _⟩ := DataW.trod_int u0 q0
    obtain ⟨s, e1, _⟩ := DataW.trod_int u1 q1
    obtain ⟨zs, n2, _, _, _, hzl, hk⟩ := DataW.trod_struct u2 q2
    match zs, hzl with
    | [z0, z1, z2, z3, z4], _ =>
      obtain ⟨p0, r0⟩ := Go.Deep.hone_of hone 0 g0 rfl
      obtain ⟨p1, r1⟩ := Go.Deep.hone_of hone 1 g1 rfl
      obtain ⟨p2, r2⟩ := Go.Deep.hone_of hone 2 g2 rfl
      obtain ⟨p3, r3⟩ := Go.Deep.hone_of hone 3 g3 rfl
      obtain ⟨p4, r4⟩ := Go.Deep.hone_of hone 4 g4 rfl
      have m0 := hk 0 g0 rfl
      have m1 := hk 1 g1 rfl
      have m2 := hk 2 g2 rfl
      have m3 := hk 3 g3 rfl
      have m4 := hk 4 g4 rfl
      simp [p0, r0] at m0
      simp [p1, r1] at m1
      simp [p2, r2] at m2
      simp [p3, r3] at m3
      simp [p4, r4] at m4
      obtain ⟨er, e2, _⟩ := DataW.trod_int t0 m0
      obtain ⟨vv, e3, _, _⟩ := DataW.trod_string t1 m1
      obtain ⟨hb, e4, _⟩ := DataW.trod_bool t2 m2
      obtain ⟨uu, e6, _, _⟩ := DataW.trod_string t4 m4
      simp only [List.cons.injEq, and_true] at e0 e1 e2 e3 e4 e6
      have h5 : ∃ (a : Option Addr) (n k : Nat), v5 = .slice a n k := by
        rcases Go.Deep.open_slice t3 m3 with ⟨hcs, _⟩ | ⟨x, l, c', m, n, D, Pl, hcs, _⟩
        · simp only [List.cons.injEq, and_true] at hcs; exact ⟨_, _, _, hcs⟩
        · simp only [List.cons.injEq, and_true] at hcs; exact ⟨_, _, _, hcs⟩
      obtain ⟨pa, pn, pk, rfl⟩ := h5
      subst e0 e1 e2 e3 e4 e6
      exact ⟨⟨c, s, er, vv, hb, pa, pn, pk, uu⟩, rfl⟩
theorem open_seens {t e : TypeId} (hs : P.underlying t = some (.slice e)) (hT : SeenT P e) {a : Option Addr} {len cap : Nat} {d : DataW H} {p : List MemPlace}
    (h : DataW.Trod enc P w base spare held t (.slice a len cap) d p) : ∃ l : List Sn, SS w a len cap l := by
  have h7 : P.cellsOf e = 7 := by obtain ⟨f0, f1, f2, g0, g1, g2, g3, g4, tp, he, h7, _⟩ := hT.ex; exact h7
  obtain ⟨fuel, hf⟩ := h
  rcases Go.Deep.open_slice hs hf with ⟨hcs, _⟩ | ⟨x, l, c, m, n, D, Pl, hcs, _, hl, hm, hmm, _, hii⟩
  · simp [Value.cells] at hcs
    obtain ⟨rfl, rfl, rfl⟩ := hcs
    exact ⟨[], SS.none w⟩
  · simp [Value.cells] at hcs
    obtain ⟨rfl, rfl, rfl⟩ := hcs
    have each : ∀ i, i < m → ∃ q : Sn, ∀ j v, (cv q)[j]? = some v → w.cell? (x.add (i * 7 + j)) = some v := by
      intro i him
      obtain ⟨cs', hc, ht'⟩ := hii i him
      rw [h7] at hc
      obtain ⟨_, hcl, hat⟩ := World.cells?_some hc
      obtain ⟨q, rfl⟩ := open_seen1 hT ht'
      refine ⟨q, fun j v hv => ?_⟩
      have hj : j < 7 := by rw [← cv_length q]; exact (List.getElem?_eq_some_iff.1 hv).1
      have c0 := hat j hj
      rw [Go.Deep.add_add] at c0
      rw [c0]
      exact hv
    obtain ⟨q, hq⟩ := Go.Deep.choose_lt each
    have hlm : len ≤ m := by rw [hmm]; split <;> omega
    have hlen : ((List.range len).map q).length = len := by simp
    refine ⟨(List.range len).map q, hlen, ?_, hl, hm⟩
    by_cases h0 : len = 0
    · subst h0; exact .inl rfl
    · obtain ⟨b, off, spot⟩ := x
      have hc0 := hq 0 (by omega) 0 _ rfl
      have hs : spot = none := by simpa [Addr.add] using World.cell?_spot hc0
      subst hs
      have hlt := cell_lt hc0
      have e : ∀ j, (⟨b, off, none⟩ : Addr).add j = ⟨b, off + j, none⟩ := by intro j; unfold Addr.add; split <;> simp_all
      refine .inr ⟨b, off, rfl, by simpa [Addr.add] using hlt, fun i hi => ?_⟩
      rw [hlen] at hi
      have h := hq i (by omega)
      have hg : ∀ j v, (cv (q i))[j]? = some v → w.cell? ⟨b, off + i * 7 + j, none⟩ = some v := fun j v hv => by
        have := h j v hv
        rw [e, ← Nat.add_assoc] at this
        exact this
      simp only [List.getElem_map, List.getElem_range]
      exact ⟨hg 0 _ rfl, hg 1 _ rfl, hg 2 _ rfl, hg 3 _ rfl, hg 4 _ rfl, hg 5 _ rfl, hg 6 _ rfl⟩
theorem open_seen {e : TypeId} (hT : SeenT P e) {r : Reach} {b0 : Nat} {v : Value} {d : DataW H} {p : List MemPlace} (hv : Value.okWide P w r b0 e v) (h : DataW.Trod enc P w base spare held e v d p) : ∃ s : Sn, v = sa s := by
  obtain ⟨f0, f1, f2, g0, g1, g2, g3, g4, tp, he, h7, _⟩ := hT.ex
  simp only [Value.okWide, he] at hv
  obtain ⟨cs, rfl, h2, _⟩ := hv
  obtain ⟨fuel, hf⟩ := h
  obtain ⟨s, hs⟩ := open_seen1 hT hf
  refine ⟨s, ?_⟩
  have : cs.toList = cv s := hs
  have h3 : cs = (cv s).toArray := by rw [← this]
  rw [h3]; rfl
end
theorem seenT : SeenT Try.prog 39 := ⟨_, _, _, _, _, _, _, _, _, Try.underlying39, by kernel_rfl, rfl, rfl, rfl, by kernel_rfl, by kernel_rfl, by kernel_rfl, Try.underlying3, Try.underlying3, Try.underlying37, by kernel_rfl, Try.underlying28, Try.underlying9, Try.underlying4, Try.underlying23, Try.underlying9⟩
end Go.Proofs.Ytemaonfgledcmaa
