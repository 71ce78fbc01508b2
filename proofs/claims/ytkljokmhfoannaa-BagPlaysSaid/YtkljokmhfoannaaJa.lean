/-
  Layer 15 (bag): a script that came in. Conditions: none.
-/
import Derived.Test.YtkljokmhfoannaaIz
import Derived.Lib.SmallJoins
import Derived.ProofKit
import Derived.ChangeSlices
import Derived.Deep.Slices
import Derived.Deep.Fields
namespace Go.Proofs.Ytkljokmhfoannaa
open Go.RowKit Go.ChangeShapes Go.WideShapes
set_option linter.unusedVariables false
set_option linter.unusedSimpArgs false

/-- A call of the script: what, to, at, which letter. -/
structure Bo where
  k : Int
  d : Int
  i : Int
  l : Lt
instance : Inhabited Bo := ⟨⟨0, 0, 0, zL⟩⟩
def bcs (o : Bo) : List Value := [.int .i64 o.k, .int .i64 o.d, .int .i64 o.i, .int .i64 o.l.fr, .int .i64 o.l.to, .string o.l.tx]
def okBo (o : Bo) : Prop := (Lit.int .i64 o.d).wf = true ∧ (Lit.int .i64 o.i).wf = true ∧ (Lit.int .i64 o.l.fr).wf = true ∧ (Lit.int .i64 o.l.to).wf = true ∧ o.l.tx.size ≤ maxLen
def BoAt (w : World) (b off : Nat) (l : List Bo) : Prop := ∀ i (h : i < l.length), w.cell? ⟨b, off + i * 6, none⟩ = some (.int .i64 l[i].k) ∧ w.cell? ⟨b, off + i * 6 + 1, none⟩ = some (.int .i64 l[i].d) ∧ w.cell? ⟨b, off + i * 6 + 2, none⟩ = some (.int .i64 l[i].i) ∧ w.cell? ⟨b, off + i * 6 + 3, none⟩ = some (.int .i64 l[i].l.fr) ∧ w.cell? ⟨b, off + i * 6 + 4, none⟩ = some (.int .i64 l[i].l.to) ∧ w.cell? ⟨b, off + i * 6 + 5, none⟩ = some (.string l[i].l.tx)
def RdBo (w : World) (a : Option Addr) (l : List Bo) : Prop := l = [] ∨ ∃ b off, a = some ⟨b, off, none⟩ ∧ b < w.heap.size ∧ BoAt w b off l
theorem bcs_len (o : Bo) : (bcs o).length = 6 := rfl
section
variable {H : Type} {enc : TypeId × Value → H} {P : Program} {w : World} {base : Nat} {spare : Nat → Bool} {held : Bool}
/-- How the two structs lie. -/
structure BopT (P : Program) (e : TypeId) : Prop where
  ex : ∃ f0 f1 f2 f3 g0 g1 g2 : Field, P.underlying e = some (.struct #[f0, f1, f2, f3]) ∧ P.cellsOf e = 6 ∧ f0.offset = 0 ∧ f1.offset = 1 ∧ f2.offset = 2 ∧ f3.offset = 3 ∧ P.cellsOf f0.type = 1 ∧ P.cellsOf f1.type = 1 ∧ P.cellsOf f2.type = 1 ∧ P.cellsOf f3.type = 3 ∧
    P.underlying f0.type = some (.int .i64) ∧ P.underlying f1.type = some (.int .i64) ∧ P.underlying f2.type = some (.int .i64) ∧ P.underlying f3.type = some (.struct #[g0, g1, g2]) ∧ Go.Deep.oneCellFields P #[g0, g1, g2] = true ∧
    P.underlying g0.type = some (.int .i64) ∧ P.underlying g1.type = some (.int .i64) ∧ P.underlying g2.type = some .string
theorem open_bop1 {e : TypeId} (hT : BopT P e) {fuel : Nat} {cs : List Value} {x : DataW H × List MemPlace} (h : DataW.trod enc P w base spare held fuel e cs = some x) : ∃ s : Bo, cs = bcs s ∧ okBo s := by
  obtain ⟨f0, f1, f2, f3, g0, g1, g2, he, h6, o0, o1, o2, o3, k0, k1, k2, k3, u0, u1, u2, u3, hone, t0, t1, t2⟩ := hT.ex
  obtain ⟨ys, n', _, _, hcl, hyl, hg⟩ := DataW.trod_struct he h
  rw [h6] at hcl
  match ys, hyl, cs, hcl with
  | [y0, y1, y2, y3], _, [v0, v1, v2, v3, v4, v5], _ =>
    have q0 := hg 0 f0 rfl
    have q1 := hg 1 f1 rfl
    have q2 := hg 2 f2 rfl
    have q3 := hg 3 f3 rfl
    simp [o0, k0] at q0
    simp [o1, k1] at q1
    simp [o2, k2] at q2
    simp [o3, k3] at q3
    obtain ⟨a0, e0, _, z0⟩ := DataW.trod_int u0 q0
    obtain ⟨a1, e1, _, z1⟩ := DataW.trod_int u1 q1
    obtain ⟨a2, e2, _, z2⟩ := DataW.trod_int u2 q2
    obtain ⟨zs, n2, _, _, _, hzl, hk⟩ := DataW.trod_struct u3 q3
    match zs, hzl with
    | [z0', z1', z2'], _ =>
      obtain ⟨p0, r0⟩ := Go.Deep.hone_of hone 0 g0 rfl
      obtain ⟨p1, r1⟩ := Go.Deep.hone_of hone 1 g1 rfl
      obtain ⟨p2, r2⟩ := Go.Deep.hone_of hone 2 g2 rfl
      have m0 := hk 0 g0 rfl
      have m1 := hk 1 g1 rfl
      have m2 := hk 2 g2 rfl
      simp [p0, r0] at m0
      simp [p1, r1] at m1
      simp [p2, r2] at m2
      obtain ⟨a3, e3, _, z3⟩ := DataW.trod_int t0 m0
      obtain ⟨a4, e4, _, z4⟩ := DataW.trod_int t1 m1
      obtain ⟨a5, e5, _, z5⟩ := DataW.trod_string t2 m2
      simp only [List.cons.injEq, and_true] at e0 e1 e2 e3 e4 e5
      subst e0 e1 e2 e3 e4 e5
      exact ⟨⟨a0, a1, a2, ⟨a3, a4, a5⟩⟩, rfl, z1, z2, z3, z4, z5⟩
theorem open_bops {t e : TypeId} (hs : P.underlying t = some (.slice e)) (hT : BopT P e) {a : Option Addr} {len cap : Nat} {d : DataW H} {p : List MemPlace}
    (h : DataW.Trod enc P w base spare held t (.slice a len cap) d p) : ∃ l : List Bo, l.length = len ∧ RdBo w a l ∧ (∀ o ∈ l, okBo o) ∧ l.length ≤ maxLen ∧ l.length ≤ cap := by
  have h6 : P.cellsOf e = 6 := by obtain ⟨f0, f1, f2, f3, g0, g1, g2, he, h6, _⟩ := hT.ex; exact h6
  obtain ⟨fuel, hf⟩ := h
  rcases Go.Deep.open_slice hs hf with ⟨hcs, _⟩ | ⟨x, l, c, m, n, D, Pl, hcs, _, hl, hm, hmm, _, hii⟩
  · simp [Value.cells] at hcs
    obtain ⟨rfl, rfl, rfl⟩ := hcs
    exact ⟨[], rfl, .inl rfl, fun o ho => by simp at ho, Nat.zero_le _, Nat.zero_le _⟩
  · simp [Value.cells] at hcs
    obtain ⟨rfl, rfl, rfl⟩ := hcs
    have each : ∀ i, i < m → ∃ q : Bo, (∀ j v, (bcs q)[j]? = some v → w.cell? (x.add (i * 6 + j)) = some v) ∧ okBo q := by
      intro i him
      obtain ⟨cs', hc, ht'⟩ := hii i him
      rw [h6] at hc
      obtain ⟨_, hcl, hat⟩ := World.cells?_some hc
      obtain ⟨q, rfl, hok⟩ := open_bop1 hT ht'
      refine ⟨q, fun j v hv => ?_, hok⟩
      have hj : j < 6 := by rw [← bcs_len q]; exact (List.getElem?_eq_some_iff.1 hv).1
      have c0 := hat j hj
      rw [Go.Deep.add_add] at c0
      rw [c0]
      exact hv
    obtain ⟨q, hq⟩ := Go.Deep.choose_lt each
    have hlm : len ≤ m := by rw [hmm]; split <;> omega
    have hlen : ((List.range len).map q).length = len := by simp
    refine ⟨(List.range len).map q, hlen, ?_, fun o ho => ?_, by rw [hlen]; exact Nat.le_trans hl hm, by rw [hlen]; exact hl⟩
    · by_cases h0 : len = 0
      · subst h0; exact .inl rfl
      · obtain ⟨b, off, spot⟩ := x
        have hc0 := (hq 0 (by omega)).1 0 _ rfl
        have hs : spot = none := by simpa [Addr.add] using World.cell?_spot hc0
        subst hs
        have hlt := cell_lt hc0
        have e : ∀ j, (⟨b, off, none⟩ : Addr).add j = ⟨b, off + j, none⟩ := by intro j; unfold Addr.add; split <;> simp_all
        refine .inr ⟨b, off, rfl, by simpa [Addr.add] using hlt, fun i hi => ?_⟩
        rw [hlen] at hi
        have h := (hq i (by omega)).1
        have hg : ∀ j v, (bcs (q i))[j]? = some v → w.cell? ⟨b, off + i * 6 + j, none⟩ = some v := fun j v hv => by
          have := h j v hv
          rw [e, ← Nat.add_assoc] at this
          exact this
        simp only [List.getElem_map, List.getElem_range]
        exact ⟨hg 0 _ rfl, hg 1 _ rfl, hg 2 _ rfl, hg 3 _ rfl, hg 4 _ rfl, hg 5 _ rfl⟩
    · obtain ⟨i, hi, rfl⟩ := List.mem_map.1 ho
      rw [List.mem_range] at hi
      exact (hq i (by omega)).2
end
theorem bopT : BopT Try.prog 41 := ⟨_, _, _, _, _, _, _, Try.underlying41, by kernel_rfl, rfl, rfl, rfl, rfl, by kernel_rfl, by kernel_rfl, by kernel_rfl, by kernel_rfl, Try.underlying3, Try.underlying3, Try.underlying3, Try.underlying39, by kernel_rfl, Try.underlying3, Try.underlying3, Try.underlying9⟩
end Go.Proofs.Ytkljokmhfoannaa
