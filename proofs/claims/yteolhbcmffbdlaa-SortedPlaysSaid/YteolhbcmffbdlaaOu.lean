/-
  Layer 7 (sorted): the contract of the document's Drop, with the blocks told; a script of calls that came in; small laws for the walk of SortedPlays. Conditions: keys rise.
-/
import Derived.Test.YteolhbcmffbdlaaOq
import Derived.Deep.Slices
import Derived.Deep.Fields
namespace Go.Proofs.Yteolhbcmffbdlaa
open Go.RowKit
set_option linter.unusedVariables false
set_option linter.unusedSimpArgs false

def RefRW (base : Nat) (w : World) (l : List (Ky × Int)) (b : Bool) (e : Ending) (w' : World) : Prop := ∃ q, e = .returned (.tuple #[q, .bool b]) ∧ RefB base w' q l ∧ Below w.heap.size w w'
set_option maxRecDepth 100000 in
set_option maxHeartbeats 2000000 in
theorem rdropB_none {base : Nat} {w : World} {q : Value} {l : List (Ky × Int)} (h : RefB base w q l) (hr : Rise l) (hl : l.length ≤ 999) (k : Ky) (hg : getA k l = none) :
    Calls Try.prog 14 #[q, .string ⟨k.toArray⟩] w (RefRW base w l false) := by
  have HQ := Lib.hid h
  obtain ⟨a, c, va, vc, rfl, h1, h2, h3, h4, h5, h6⟩ := h.ref
  obtain ⟨x, r, i1, i2, i3, i4, i5, i6, i7, i8, i9⟩ := place_of hr k
  have P := Lib.hid (place_ref (c := c) (vals := .slice va l.length vc) h1 (by omega) i1 i2)
  rw [hg] at P
  obtain ⟨n, hn⟩ : ∃ n, n = l.length := ⟨_, rfl⟩
  rw [← hn] at P hl HQ ⊢
  clear h1 h2 h3 h4 h5 h6 i1 i2 i3 i4 i5 i6 i7 i8 i9 hn hr hg
  go_enter Try.func14, Try.ntmps14
  go_wp2_with fail
  refine (P.out _ (((Below.refl _ _).alloc (Nat.le_refl _) _).alloc (by simp) _)).mono ?_
  rintro e w1 ⟨rfl, b1⟩
  obtain ⟨hc1, hf1⟩ := bcell b1
  have hz := b1.size
  simp only [World.size_alloc] at hz
  have hs0 : w.heap.size < w1.heap.size := by omega
  have hs1 : w.heap.size + 1 < w1.heap.size := by omega
  have x0 : w1.cell? ⟨w.heap.size + 1, 0, none⟩ = some (.slice none 0 0) := by rw [hc1 _ _ (by simp)]; simp
  have x1 : w1.cell? ⟨w.heap.size + 1, 1, none⟩ = some (.slice none 0 0) := by rw [hc1 _ _ (by simp)]; simp
  have B1 := Lib.hid ((((Below.refl w.heap.size w).alloc (Nat.le_refl _) _).alloc (by simp) _).trans (b1.mono (by simp; omega)))
  clear b1
  go_wp2_with fail
  have hB := (B1.out.setCell (p := ⟨w.heap.size + 1, 0, none⟩) (by show w.heap.size ≤ w.heap.size + 1; omega) (.slice a n c)).setCell (p := ⟨w.heap.size + 1, 1, none⟩) (by show w.heap.size ≤ w.heap.size + 1; omega) (.slice va n vc)
  have d0 : ((w1.setCell ⟨w.heap.size + 1, 0, none⟩ (.slice a n c)).setCell ⟨w.heap.size + 1, 1, none⟩ (.slice va n vc)).cell? ⟨w.heap.size + 1, 0, none⟩ = some (.slice a n c) := by
    rw [World.cell?_setCell_other _ _ _ _ (by intro e; simp at e)]
    exact World.cell?_setCell_same' _ _ _ (by rw [x0]; rfl)
  have d1 : ((w1.setCell ⟨w.heap.size + 1, 0, none⟩ (.slice a n c)).setCell ⟨w.heap.size + 1, 1, none⟩ (.slice va n vc)).cell? ⟨w.heap.size + 1, 1, none⟩ = some (.slice va n vc) := by
    refine World.cell?_setCell_same' _ _ _ ?_
    rw [World.cell?_setCell_other _ _ _ _ (by intro e; simp at e), x1]; rfl
  refine bodyPost_ret (v := .tuple #[.agg #[.slice a n c, .slice va n vc], .bool false]) (by simp [results, Try.f14, go_sem, d0, d1]) rfl ?_
  exact ⟨_, rfl, HQ.out.old hB, hB⟩
set_option maxRecDepth 100000 in
set_option maxHeartbeats 2000000 in
theorem rdropB_some {base : Nat} {w : World} {q : Value} {l : List (Ky × Int)} (h : RefB base w q l) (hbase : base ≤ w.heap.size) (hr : Rise l) (hl : l.length ≤ 999) (k : Ky) {v : Int} (hg : getA k l = some v) :
    Calls Try.prog 14 #[q, .string ⟨k.toArray⟩] w (RefRW base w (delA k l) true) := by
  obtain ⟨a, c, va, vc, rfl, h1, h2, h3, h4, h5, h6⟩ := h.ref
  have HBS := Lib.hid hbase
  clear hbase
  obtain ⟨x, r, i1, i2, i3, i4, i5, i6, i7, i8, i9⟩ := place_of hr k
  have P := Lib.hid (place_ref (c := c) (vals := .slice va l.length vc) h1 (by omega) i1 i2)
  rw [hg] at P i4 i8
  have hdel : l.take x.length ++ ([] : List (Ky × Int)) ++ l.drop (x.length + 1) = delA k l := by
    rw [i3, i6, show l.drop (x.length + 1) = r from i4]; simp
  have C : Hid (∀ (W : World) (hW : Below w.heap.size w W), Calls Try.prog 30 #[.agg #[.slice a l.length c, .slice va l.length vc], .int .i64 (x.length : Nat), .int .i64 1, .agg #[.slice none 0 0, .slice none 0 0]] W fun e w' => ∃ q, e = .returned q ∧ RefB W.heap.size w' q (delA k l) ∧ Below W.heap.size W w') := Lib.hid (fun W hW => by
    have := cut_ref (m := []) (mc := 0) (uc := 0) (ma := none) (ua := none) (h1.old hW) (h2.old hW) (.inl rfl) (.inl rfl) h3 h4 h5 h6 (by omega) (by simp) x.length 1 i8
    rw [hdel] at this
    exact this)
  obtain ⟨n, hn⟩ : ∃ n, n = l.length := ⟨_, rfl⟩
  rw [← hn] at P C hl ⊢
  clear h1 h2 h3 h4 h5 h6 i1 i2 i3 i4 i5 i6 i7 i8 i9 hdel hn hr hg
  go_enter Try.func14, Try.ntmps14
  go_wp2_with fail
  refine (P.out _ (((Below.refl _ _).alloc (Nat.le_refl _) _).alloc (by simp) _)).mono ?_
  rintro e w1 ⟨rfl, b1⟩
  obtain ⟨hc1, hf1⟩ := bcell b1
  have hz := b1.size
  simp only [World.size_alloc] at hz
  have hs0 : w.heap.size < w1.heap.size := by omega
  have hs1 : w.heap.size + 1 < w1.heap.size := by omega
  have B1 := Lib.hid ((((Below.refl w.heap.size w).alloc (Nat.le_refl _) _).alloc (by simp) _).trans (b1.mono (by simp; omega)))
  clear b1
  go_wp2_with fail
  refine (C.out _ B1.out).mono ?_
  rintro e w2 ⟨q2, rfl, v2, b2⟩
  have BB := Lib.hid b2
  have V2 := Lib.hid v2
  have hz2 := BB.out.size
  obtain ⟨hc2, hf2⟩ := bcell BB.out
  have hs2 : w.heap.size + 1 < w2.heap.size := by omega
  obtain ⟨qa, qc, qva, qvc, rfl, -⟩ := v2
  have x0 : w2.cell? ⟨w.heap.size + 1, 0, none⟩ = some (.slice none 0 0) := by rw [hc2 _ _ hs1, hc1 _ _ (by simp)]; simp
  have x1 : w2.cell? ⟨w.heap.size + 1, 1, none⟩ = some (.slice none 0 0) := by rw [hc2 _ _ hs1, hc1 _ _ (by simp)]; simp
  clear b2
  go_wp2_with fail
  have V3 := (V2.out.set (g := w.heap.size + 1) (i := 0) (by omega) (.slice qa (delA k l).length qc)).set (g := w.heap.size + 1) (i := 1) (by omega) (.slice qva (delA k l).length qvc)
  have hB := ((B1.out.trans (BB.out.mono B1.out.size)).setCell (p := ⟨w.heap.size + 1, 0, none⟩) (by show w.heap.size ≤ w.heap.size + 1; omega) (.slice qa (delA k l).length qc)).setCell (p := ⟨w.heap.size + 1, 1, none⟩) (by show w.heap.size ≤ w.heap.size + 1; omega) (.slice qva (delA k l).length qvc)
  have d0 : ((w2.setCell ⟨w.heap.size + 1, 0, none⟩ (.slice qa (delA k l).length qc)).setCell ⟨w.heap.size + 1, 1, none⟩ (.slice qva (delA k l).length qvc)).cell? ⟨w.heap.size + 1, 0, none⟩ = some (.slice qa (delA k l).length qc) := by
    rw [World.cell?_setCell_other _ _ _ _ (by intro e; simp at e)]
    exact World.cell?_setCell_same' _ _ _ (by rw [x0]; rfl)
  have d1 : ((w2.setCell ⟨w.heap.size + 1, 0, none⟩ (.slice qa (delA k l).length qc)).setCell ⟨w.heap.size + 1, 1, none⟩ (.slice qva (delA k l).length qvc)).cell? ⟨w.heap.size + 1, 1, none⟩ = some (.slice qva (delA k l).length qvc) := by
    refine World.cell?_setCell_same' _ _ _ ?_
    rw [World.cell?_setCell_other _ _ _ _ (by intro e; simp at e), x1]; rfl
  refine bodyPost_ret (v := .tuple #[.agg #[.slice qa (delA k l).length qc, .slice qva (delA k l).length qvc], .bool true]) (by simp [results, Try.f14, go_sem, d0, d1]) rfl ?_
  exact ⟨_, rfl, V3.low (by have := HBS.out; omega), hB⟩
/-- A call of the script: its kind, its number, its key. -/
abbrev Opc := Int × Int × Ky
def RdO (w : World) (a : Option Addr) (es : List Opc) : Prop :=
  es = [] ∨ ∃ b off, a = some ⟨b, off, none⟩ ∧ b < w.heap.size ∧ ∀ i (h : i < es.length), w.cell? ⟨b, off + i * 3, none⟩ = some (.int .i64 es[i].1) ∧ w.cell? ⟨b, off + i * 3 + 1, none⟩ = some (.int .i64 es[i].2.1) ∧ w.cell? ⟨b, off + i * 3 + 2, none⟩ = some (.string ⟨es[i].2.2.toArray⟩)
def okO (es : List Opc) : Prop := ∀ x ∈ es, (-9223372036854775808 ≤ x.2.1 ∧ x.2.1 ≤ 9223372036854775807) ∧ x.2.2.length ≤ maxLen
theorem rangeO {z : Int} (h : (Lit.int .i64 z).wf = true) : -9223372036854775808 ≤ z ∧ z ≤ 9223372036854775807 := by
  simpa [Lit.wf, IntKind.min, IntKind.max, IntKind.bits, IntKind.signed] using h
theorem ops_rd {W : World} {x : Addr} {len cap m : Nat} {K N : Nat → Int} {S : Nat → ByteArray} (hl : len ≤ cap) (hm : cap ≤ maxLen) (hlm : len ≤ m)
    (hcell : ∀ i, i < m → (W.cell? (x.add (i * 3)) = some (.int .i64 (K i)) ∧ W.cell? (x.add (i * 3 + 1)) = some (.int .i64 (N i)) ∧ W.cell? (x.add (i * 3 + 2)) = some (.string (S i))) ∧ (-9223372036854775808 ≤ N i ∧ N i ≤ 9223372036854775807) ∧ (S i).size ≤ maxLen) :
    ∃ xs : List Opc, xs.length = len ∧ RdO W (some x) xs ∧ okO xs ∧ xs.length ≤ maxLen ∧ xs.length ≤ cap := by
  have hlen : ((List.range len).map fun i => ((K i, N i, (S i).data.toList) : Opc)).length = len := by simp
  refine ⟨(List.range len).map fun i => (K i, N i, (S i).data.toList), hlen, ?_, ?_, by rw [hlen]; omega, by rw [hlen]; exact hl⟩
  · by_cases h0 : len = 0
    · subst h0; exact .inl rfl
    · obtain ⟨b, off, spot⟩ := x
      have hc0 := (hcell 0 (by omega)).1.1
      have hs : spot = none := by simpa [Addr.add] using World.cell?_spot hc0
      subst hs
      have hlt := cell_lt hc0
      have e : ∀ j, (⟨b, off, none⟩ : Addr).add j = ⟨b, off + j, none⟩ := by intro j; unfold Addr.add; split <;> simp_all
      refine .inr ⟨b, off, rfl, by simpa [Addr.add] using hlt, fun i hi => ?_⟩
      rw [hlen] at hi
      have h := (hcell i (by omega)).1
      rw [e, e, e] at h
      refine ⟨?_, ?_, ?_⟩
      · rw [h.1]; simp
      · rw [Nat.add_assoc, h.2.1]; simp
      · rw [Nat.add_assoc, h.2.2]; simp
  · intro t ht
    rw [List.mem_map] at ht
    obtain ⟨i, hi, rfl⟩ := ht
    have h := (hcell i (by have := List.mem_range.1 hi; omega)).2
    exact ⟨h.1, by simpa using h.2⟩
section
variable {H : Type} {enc : TypeId × Value → H} {P : Program} {w : World} {base : Nat} {spare : Nat → Bool} {held : Bool}
theorem open_ops {t e : TypeId} {f0 f1 f2 : Field} {a : Option Addr} {len cap : Nat} {d : DataW H} {p : List MemPlace} (ht : P.underlying t = some (.slice e)) (he : P.underlying e = some (.struct #[f0, f1, f2]))
    (ce : P.cellsOf e = 3) (hone : Go.Deep.oneCellFields P #[f0, f1, f2] = true) (t0 : P.underlying f0.type = some (.int .i64)) (t1 : P.underlying f1.type = some (.int .i64)) (t2 : P.underlying f2.type = some .string)
    (h : DataW.Trod enc P w base spare held t (.slice a len cap) d p) : ∃ xs : List Opc, xs.length = len ∧ RdO w a xs ∧ okO xs ∧ xs.length ≤ maxLen ∧ xs.length ≤ cap := by
  obtain ⟨fuel, hf⟩ := h
  rcases Go.Deep.open_slice ht hf with ⟨hcs, _⟩ | ⟨x, l, c, m, n, D, Pl, hcs, _, hl, hm, hmm, _, hi⟩
  · simp [Value.cells] at hcs
    obtain ⟨rfl, rfl, rfl⟩ := hcs
    exact ⟨[], rfl, .inl rfl, fun x hx => by simp at hx, Nat.zero_le _, Nat.zero_le _⟩
  · simp [Value.cells] at hcs
    obtain ⟨rfl, rfl, rfl⟩ := hcs
    have each : ∀ i, i < m → ∃ q : Int × Int × ByteArray, (w.cell? (x.add (i * 3)) = some (.int .i64 q.1) ∧ w.cell? (x.add (i * 3 + 1)) = some (.int .i64 q.2.1) ∧ w.cell? (x.add (i * 3 + 2)) = some (.string q.2.2)) ∧ (-9223372036854775808 ≤ q.2.1 ∧ q.2.1 ≤ 9223372036854775807) ∧ q.2.2.size ≤ maxLen := by
      intro i him
      obtain ⟨cs', hc, ht'⟩ := hi i him
      rw [ce] at hc
      obtain ⟨_, hcl, hat⟩ := World.cells?_some hc
      obtain ⟨ys, n', _, _, _, hyl, hg⟩ := DataW.trod_struct he ht'
      match ys, hyl, cs', hcl with
      | [y0, y1, y2], _, [v0, v1, v2], _ =>
        obtain ⟨o0, k0⟩ := Go.Deep.hone_of hone 0 f0 rfl
        obtain ⟨o1, k1⟩ := Go.Deep.hone_of hone 1 f1 rfl
        obtain ⟨o2, k2⟩ := Go.Deep.hone_of hone 2 f2 rfl
        have g0 := hg 0 f0 rfl
        have g1 := hg 1 f1 rfl
        have g2 := hg 2 f2 rfl
        simp [o0, k0] at g0
        simp [o1, k1] at g1
        simp [o2, k2] at g2
        obtain ⟨n0, e0, _, _⟩ := DataW.trod_int t0 g0
        obtain ⟨n1, e1, _, z1⟩ := DataW.trod_int t1 g1
        obtain ⟨s2, e2, _, z2⟩ := DataW.trod_string t2 g2
        simp only [List.cons.injEq, and_true] at e0 e1 e2
        have c0 := hat 0 (by omega)
        have c1 := hat 1 (by omega)
        have c2 := hat 2 (by omega)
        rw [Go.Deep.add_add] at c0 c1 c2
        subst e0 e1 e2
        exact ⟨(n0, n1, s2), ⟨by simpa using c0, by simpa using c1, by simpa using c2⟩, rangeO z1, z2⟩
    obtain ⟨q, hq⟩ := Go.Deep.choose_lt each
    exact ops_rd (K := fun i => (q i).1) (N := fun i => (q i).2.1) (S := fun i => (q i).2.2) hl hm (by rw [hmm]; split <;> omega) hq
end
theorem rdo_at {w wr : World} {a : Option Addr} {es : List Opc} (h : RdO w a es) (hb : Below w.heap.size w wr) {k : Nat} (hk : k < es.length) : ∃ b off, a = some ⟨b, off, none⟩ ∧ b < w.heap.size ∧ b < wr.heap.size ∧ wr.cell? ⟨b, off + k * 3, none⟩ = some (.int .i64 es[k].1) ∧ wr.cell? ⟨b, off + k * 3 + 1, none⟩ = some (.int .i64 es[k].2.1) ∧ wr.cell? ⟨b, off + k * 3 + 2, none⟩ = some (.string ⟨es[k].2.2.toArray⟩) := by
  rcases h with rfl | ⟨b, off, rfl, hlt, hc⟩
  · cases hk
  · have h := hc k hk
    exact ⟨b, off, rfl, hlt, Nat.lt_of_lt_of_le hlt hb.size, (hb.cell (p := ⟨b, off + k * 3, none⟩) hlt).trans h.1, (hb.cell (p := ⟨b, off + k * 3 + 1, none⟩) hlt).trans h.2.1, (hb.cell (p := ⟨b, off + k * 3 + 2, none⟩) hlt).trans h.2.2⟩
end Go.Proofs.Yteolhbcmffbdlaa
