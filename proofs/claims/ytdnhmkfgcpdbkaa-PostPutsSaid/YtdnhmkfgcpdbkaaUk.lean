/-
  Layer 16 (post): a message that came in by value. Conditions: none.
-/
import Derived.Test.YtdnhmkfgcpdbkaaA5
import Derived.Lib.SmallJoins
import Derived.ProofKit
import Derived.ChangeSlices
import Derived.Deep.Slices
import Derived.Deep.Fields
namespace Go.Proofs.Ytdnhmkfgcpdbkaa
open Go.RowKit Go.ChangeShapes Go.WideShapes
set_option linter.unusedVariables false
set_option linter.unusedSimpArgs false

/-- A struct's fields: where each lies, how many cells it has, its type. -/
def IsSt (P : Program) (t : TypeId) (n : Nat) (fs : List (Nat × Nat × TypeId)) : Prop := P.cellsOf t = n ∧ ∃ arr : Array Field, P.underlying t = some (.struct arr) ∧ arr.toList.map (fun f => (f.offset, P.cellsOf f.type, f.type)) = fs
section
variable {H : Type} {enc : TypeId × Value → H} {P : Program} {w : World} {base : Nat} {spare : Nat → Bool} {held : Bool}
theorem open_struct {t : TypeId} {n : Nat} {fs : List (Nat × Nat × TypeId)} (hs : IsSt P t n fs) {fuel : Nat} {cs : List Value} {x : DataW H × List MemPlace} (h : DataW.trod enc P w base spare held fuel t cs = some x) :
    cs.length = n ∧ ∀ (i o c : Nat) (ty : TypeId), fs[i]? = some (o, c, ty) → ∃ fuel' y, DataW.trod enc P w base spare held fuel' ty ((cs.drop o).take c) = some y := by
  obtain ⟨hn, arr, hu, hf⟩ := hs
  obtain ⟨ys, n', _, _, hcl, hyl, hg⟩ := DataW.trod_struct hu h
  refine ⟨by omega, fun i o c ty hi => ?_⟩
  rw [← hf, List.getElem?_map, Option.map_eq_some_iff] at hi
  obtain ⟨f, h1, h2⟩ := hi
  rw [Array.getElem?_toList] at h1
  have hlt : i < arr.size := (Array.getElem?_eq_some_iff.1 h1).1
  have q := hg i f h1
  rw [List.getElem?_eq_getElem (by omega)] at q
  simp only [Prod.mk.injEq] at h2
  obtain ⟨e1, e2, e3⟩ := h2
  subst e1 e2 e3
  exact ⟨n', _, q⟩
/-- A list of elements that came in. -/
theorem open_list {t e : TypeId} (hs : P.underlying t = some (.slice e)) {sz : Nat} (hsz : P.cellsOf e = sz) (S : List Fld → Prop) (hlen : ∀ f, S f → f.length = sz)
    (hop : ∀ {fuel : Nat} {cs : List Value} {x : DataW H × List MemPlace}, DataW.trod enc P w base spare held fuel e cs = some x → ∃ f, S f ∧ cs = f.map Fld.cell)
    {fuel : Nat} {v : Value} {x : DataW H × List MemPlace} (hf : DataW.trod enc P w base spare held fuel t [v] = some x) (h0 : 0 < sz) : ∃ L, LRd w sz v L ∧ ∀ f ∈ L, S f := by
  rcases Go.Deep.open_slice hs hf with ⟨hcs, _⟩ | ⟨x, l, c, m, n, D, Pl, hcs, _, hl, hm, hmm, _, hii⟩
  · simp only [List.cons.injEq, and_true] at hcs
    exact ⟨[], ⟨none, 0, 0, hcs, rfl, Nat.zero_le _, .inl rfl⟩, fun f hf => by simp at hf⟩
  · simp only [List.cons.injEq, and_true] at hcs
    have each : ∀ i, i < m → ∃ q : List Fld, S q ∧ ∀ j v, (q.map Fld.cell)[j]? = some v → w.cell? (x.add (i * sz + j)) = some v := by
      intro i him
      obtain ⟨cs', hc, ht'⟩ := hii i him
      rw [hsz] at hc
      obtain ⟨_, hcl, hat⟩ := World.cells?_some hc
      obtain ⟨q, hq, rfl⟩ := hop ht'
      refine ⟨q, hq, fun j v hv => ?_⟩
      have hj : j < sz := by rw [← hlen q hq, ← List.length_map (f := Fld.cell)]; exact (List.getElem?_eq_some_iff.1 hv).1
      have c0 := hat j hj
      rw [Go.Deep.add_add] at c0
      rw [c0]
      exact hv
    obtain ⟨q, hq⟩ := Go.Deep.choose_lt each
    have hlm : l ≤ m := by rw [hmm]; split <;> omega
    have hlen2 : ((List.range l).map q).length = l := by simp
    refine ⟨(List.range l).map q, ⟨some x, l, c, hcs, hlen2, by omega, ?_⟩, fun f hf => by
      rw [List.mem_map] at hf
      obtain ⟨i, hi, rfl⟩ := hf
      exact (hq i (by have := List.mem_range.1 hi; omega)).1⟩
    by_cases hl0 : l = 0
    · subst hl0; exact .inl rfl
    · obtain ⟨b, off, spot⟩ := x
      have hq0 : 0 < (q 0).length := by rw [hlen _ (hq 0 (by omega)).1]; exact h0
      have hc0 := (hq 0 (by omega)).2 0 (q 0)[0].cell (by rw [List.getElem?_map, List.getElem?_eq_getElem hq0]; rfl)
      have hs : spot = none := by simpa [Addr.add] using World.cell?_spot hc0
      subst hs
      have hlt := cell_lt hc0
      have e : ∀ j, (⟨b, off, none⟩ : Addr).add j = ⟨b, off + j, none⟩ := by intro j; unfold Addr.add; split <;> simp_all
      refine .inr ⟨b, off, rfl, by simpa [Addr.add] using hlt, fun i hi j hj => ?_⟩
      rw [hlen2] at hi
      simp only [List.getElem_map, List.getElem_range] at hj ⊢
      have h := (hq i (by omega)).2 j (q i)[j].cell (by rw [List.getElem?_map, List.getElem?_eq_getElem hj]; rfl)
      rw [e, ← Nat.add_assoc] at h
      exact h
end
section
variable {H : Type} {enc : TypeId × Value → H} {w : World} {base : Nat} {spare : Nat → Bool} {held : Bool}
theorem stSpan : IsSt Try.prog 24 2 [(0, 1, 9), (1, 1, 9)] := ⟨by kernel_rfl, _, Try.underlying24, by kernel_rfl⟩
theorem stWrite : IsSt Try.prog 50 3 [(0, 1, 9), (1, 1, 9), (2, 1, 4)] := ⟨by kernel_rfl, _, Try.underlying50, by kernel_rfl⟩
theorem stPair : IsSt Try.prog 52 2 [(0, 1, 9), (1, 1, 9)] := ⟨by kernel_rfl, _, Try.underlying52, by kernel_rfl⟩
theorem stShard : IsSt Try.prog 54 6 [(0, 1, 3), (1, 2, 24), (3, 1, 3), (4, 1, 3), (5, 1, 3)] := ⟨by kernel_rfl, _, Try.underlying54, by kernel_rfl⟩
theorem stEntry : IsSt Try.prog 56 4 [(0, 1, 9), (1, 1, 9), (2, 1, 4), (3, 1, 3)] := ⟨by kernel_rfl, _, Try.underlying56, by kernel_rfl⟩
theorem stReply : IsSt Try.prog 30 5 [(0, 1, 27), (1, 1, 9), (2, 1, 4), (3, 1, 28), (4, 1, 9)] := ⟨by kernel_rfl, _, Try.underlying30, by kernel_rfl⟩
theorem stOp : IsSt Try.prog 26 9 [(0, 1, 3), (1, 1, 9), (2, 1, 9), (3, 1, 9), (4, 1, 4), (5, 1, 22), (6, 2, 24), (8, 1, 3)] := ⟨by kernel_rfl, _, Try.underlying26, by kernel_rfl⟩
theorem stSeen : IsSt Try.prog 58 7 [(0, 1, 3), (1, 1, 3), (2, 5, 30)] := ⟨by kernel_rfl, _, Try.underlying58, by kernel_rfl⟩
theorem stMsg : IsSt Try.prog 35 25 [(0, 1, 3), (1, 1, 3), (2, 1, 3), (3, 1, 3), (4, 1, 3), (5, 1, 3), (6, 1, 3), (7, 1, 4), (8, 9, 26), (17, 5, 30), (22, 1, 31), (23, 1, 32), (24, 1, 33)] := ⟨by kernel_rfl, _, Try.underlying35, by kernel_rfl⟩
theorem open_Write {fuel : Nat} {cs : List Value} {x : DataW H × List MemPlace} (h : DataW.trod enc Try.prog w base spare held fuel 50 cs = some x) : ∃ f, isWrite f ∧ cs = f.map Fld.cell := by
  have hl := (open_struct stWrite h).1
  match cs, hl with
  | [v0, v1, v2], _ =>
    have g1 := (open_struct stWrite h).2
    obtain ⟨_, _, q2⟩ := g1 0 _ _ _ rfl
    replace q2 : DataW.trod enc Try.prog w base spare held _ 9 [v0] = some _ := q2
    obtain ⟨n3, e3, _, _⟩ := DataW.trod_string Try.underlying9 q2
    simp only [List.cons.injEq, and_true] at e3
    subst e3
    obtain ⟨_, _, q4⟩ := g1 1 _ _ _ rfl
    replace q4 : DataW.trod enc Try.prog w base spare held _ 9 [v1] = some _ := q4
    obtain ⟨n5, e5, _, _⟩ := DataW.trod_string Try.underlying9 q4
    simp only [List.cons.injEq, and_true] at e5
    subst e5
    obtain ⟨_, _, q6⟩ := g1 2 _ _ _ rfl
    replace q6 : DataW.trod enc Try.prog w base spare held _ 4 [v2] = some _ := q6
    obtain ⟨n7, e7, _⟩ := DataW.trod_bool Try.underlying4 q6
    simp only [List.cons.injEq, and_true] at e7
    subst e7
    exact ⟨[Fld.t n3, Fld.t n5, Fld.f n7], ⟨n3, n5, n7, rfl⟩, rfl⟩
theorem open_Pair {fuel : Nat} {cs : List Value} {x : DataW H × List MemPlace} (h : DataW.trod enc Try.prog w base spare held fuel 52 cs = some x) : ∃ f, isPair f ∧ cs = f.map Fld.cell := by
  have hl := (open_struct stPair h).1
  match cs, hl with
  | [v0, v1], _ =>
    have g1 := (open_struct stPair h).2
    obtain ⟨_, _, q2⟩ := g1 0 _ _ _ rfl
    replace q2 : DataW.trod enc Try.prog w base spare held _ 9 [v0] = some _ := q2
    obtain ⟨n3, e3, _, _⟩ := DataW.trod_string Try.underlying9 q2
    simp only [List.cons.injEq, and_true] at e3
    subst e3
    obtain ⟨_, _, q4⟩ := g1 1 _ _ _ rfl
    replace q4 : DataW.trod enc Try.prog w base spare held _ 9 [v1] = some _ := q4
    obtain ⟨n5, e5, _, _⟩ := DataW.trod_string Try.underlying9 q4
    simp only [List.cons.injEq, and_true] at e5
    subst e5
    exact ⟨[Fld.t n3, Fld.t n5], ⟨n3, n5, rfl⟩, rfl⟩
theorem open_Shard {fuel : Nat} {cs : List Value} {x : DataW H × List MemPlace} (h : DataW.trod enc Try.prog w base spare held fuel 54 cs = some x) : ∃ f, isShard f ∧ cs = f.map Fld.cell := by
  have hl := (open_struct stShard h).1
  match cs, hl with
  | [v0, v1, v2, v3, v4, v5], _ =>
    have g1 := (open_struct stShard h).2
    obtain ⟨_, _, q2⟩ := g1 0 _ _ _ rfl
    replace q2 : DataW.trod enc Try.prog w base spare held _ 3 [v0] = some _ := q2
    obtain ⟨n3, e3, _⟩ := DataW.trod_int Try.underlying3 q2
    simp only [List.cons.injEq, and_true] at e3
    subst e3
    obtain ⟨_, _, q4⟩ := g1 1 _ _ _ rfl
    replace q4 : DataW.trod enc Try.prog w base spare held _ 24 [v1, v2] = some _ := q4
    have g5 := (open_struct stSpan q4).2
    obtain ⟨_, _, q6⟩ := g5 0 _ _ _ rfl
    replace q6 : DataW.trod enc Try.prog w base spare held _ 9 [v1] = some _ := q6
    obtain ⟨n7, e7, _, _⟩ := DataW.trod_string Try.underlying9 q6
    simp only [List.cons.injEq, and_true] at e7
    subst e7
    obtain ⟨_, _, q8⟩ := g5 1 _ _ _ rfl
    replace q8 : DataW.trod enc Try.prog w base spare held _ 9 [v2] = some _ := q8
    obtain ⟨n9, e9, _, _⟩ := DataW.trod_string Try.underlying9 q8
    simp only [List.cons.injEq, and_true] at e9
    subst e9
    obtain ⟨_, _, q10⟩ := g1 2 _ _ _ rfl
    replace q10 : DataW.trod enc Try.prog w base spare held _ 3 [v3] = some _ := q10
    obtain ⟨n11, e11, _⟩ := DataW.trod_int Try.underlying3 q10
    simp only [List.cons.injEq, and_true] at e11
    subst e11
    obtain ⟨_, _, q12⟩ := g1 3 _ _ _ rfl
    replace q12 : DataW.trod enc Try.prog w base spare held _ 3 [v4] = some _ := q12
    obtain ⟨n13, e13, _⟩ := DataW.trod_int Try.underlying3 q12
    simp only [List.cons.injEq, and_true] at e13
    subst e13
    obtain ⟨_, _, q14⟩ := g1 4 _ _ _ rfl
    replace q14 : DataW.trod enc Try.prog w base spare held _ 3 [v5] = some _ := q14
    obtain ⟨n15, e15, _⟩ := DataW.trod_int Try.underlying3 q14
    simp only [List.cons.injEq, and_true] at e15
    subst e15
    exact ⟨[Fld.n 0 maxN n3, Fld.t n7, Fld.t n9, Fld.n 0 maxN n11, Fld.n 0 maxN n13, Fld.n 0 maxN n15], ⟨n3, n7, n9, n11, n13, n15, rfl⟩, rfl⟩
theorem open_Entry {fuel : Nat} {cs : List Value} {x : DataW H × List MemPlace} (h : DataW.trod enc Try.prog w base spare held fuel 56 cs = some x) : ∃ f, isEntry f ∧ cs = f.map Fld.cell := by
  have hl := (open_struct stEntry h).1
  match cs, hl with
  | [v0, v1, v2, v3], _ =>
    have g1 := (open_struct stEntry h).2
    obtain ⟨_, _, q2⟩ := g1 0 _ _ _ rfl
    replace q2 : DataW.trod enc Try.prog w base spare held _ 9 [v0] = some _ := q2
    obtain ⟨n3, e3, _, _⟩ := DataW.trod_string Try.underlying9 q2
    simp only [List.cons.injEq, and_true] at e3
    subst e3
    obtain ⟨_, _, q4⟩ := g1 1 _ _ _ rfl
    replace q4 : DataW.trod enc Try.prog w base spare held _ 9 [v1] = some _ := q4
    obtain ⟨n5, e5, _, _⟩ := DataW.trod_string Try.underlying9 q4
    simp only [List.cons.injEq, and_true] at e5
    subst e5
    obtain ⟨_, _, q6⟩ := g1 2 _ _ _ rfl
    replace q6 : DataW.trod enc Try.prog w base spare held _ 4 [v2] = some _ := q6
    obtain ⟨n7, e7, _⟩ := DataW.trod_bool Try.underlying4 q6
    simp only [List.cons.injEq, and_true] at e7
    subst e7
    obtain ⟨_, _, q8⟩ := g1 3 _ _ _ rfl
    replace q8 : DataW.trod enc Try.prog w base spare held _ 3 [v3] = some _ := q8
    obtain ⟨n9, e9, _⟩ := DataW.trod_int Try.underlying3 q8
    simp only [List.cons.injEq, and_true] at e9
    subst e9
    exact ⟨[Fld.t n3, Fld.t n5, Fld.f n7, Fld.n 0 maxN n9], ⟨n3, n5, n7, n9, rfl⟩, rfl⟩
theorem open_Seen {fuel : Nat} {cs : List Value} {x : DataW H × List MemPlace} (h : DataW.trod enc Try.prog w base spare held fuel 58 cs = some x) : ∃ f, slPr f ∧ cs = f.map Fld.cell := by
  have hl := (open_struct stSeen h).1
  match cs, hl with
  | [v0, v1, v2, v3, v4, v5, v6], _ =>
    have g1 := (open_struct stSeen h).2
    obtain ⟨_, _, q2⟩ := g1 0 _ _ _ rfl
    replace q2 : DataW.trod enc Try.prog w base spare held _ 3 [v0] = some _ := q2
    obtain ⟨n3, e3, _⟩ := DataW.trod_int Try.underlying3 q2
    simp only [List.cons.injEq, and_true] at e3
    subst e3
    obtain ⟨_, _, q4⟩ := g1 1 _ _ _ rfl
    replace q4 : DataW.trod enc Try.prog w base spare held _ 3 [v1] = some _ := q4
    obtain ⟨n5, e5, _⟩ := DataW.trod_int Try.underlying3 q4
    simp only [List.cons.injEq, and_true] at e5
    subst e5
    obtain ⟨_, _, q6⟩ := g1 2 _ _ _ rfl
    replace q6 : DataW.trod enc Try.prog w base spare held _ 30 [v2, v3, v4, v5, v6] = some _ := q6
    have g7 := (open_struct stReply q6).2
    obtain ⟨_, _, q8⟩ := g7 0 _ _ _ rfl
    replace q8 : DataW.trod enc Try.prog w base spare held _ 27 [v2] = some _ := q8
    obtain ⟨n9, e9, _⟩ := DataW.trod_int Try.underlying27 q8
    simp only [List.cons.injEq, and_true] at e9
    subst e9
    obtain ⟨_, _, q10⟩ := g7 1 _ _ _ rfl
    replace q10 : DataW.trod enc Try.prog w base spare held _ 9 [v3] = some _ := q10
    obtain ⟨n11, e11, _, _⟩ := DataW.trod_string Try.underlying9 q10
    simp only [List.cons.injEq, and_true] at e11
    subst e11
    obtain ⟨_, _, q12⟩ := g7 2 _ _ _ rfl
    replace q12 : DataW.trod enc Try.prog w base spare held _ 4 [v4] = some _ := q12
    obtain ⟨n13, e13, _⟩ := DataW.trod_bool Try.underlying4 q12
    simp only [List.cons.injEq, and_true] at e13
    subst e13
    obtain ⟨_, _, q14⟩ := g7 3 _ _ _ rfl
    replace q14 : DataW.trod enc Try.prog w base spare held _ 28 [v5] = some _ := q14
    have hn15 : ∃ (a : Option Addr) (n k : Nat), v5 = .slice a n k := by
      rcases Go.Deep.open_slice Try.underlying28 q14 with ⟨hcs, _⟩ | ⟨x, l, c', m, n, D, Pl, hcs, _⟩
      · simp only [List.cons.injEq, and_true] at hcs; exact ⟨_, _, _, hcs⟩
      · simp only [List.cons.injEq, and_true] at hcs; exact ⟨_, _, _, hcs⟩
    obtain ⟨an15, ln15, kn15, rfl⟩ := hn15
    obtain ⟨_, _, q16⟩ := g7 4 _ _ _ rfl
    replace q16 : DataW.trod enc Try.prog w base spare held _ 9 [v6] = some _ := q16
    obtain ⟨n17, e17, _, _⟩ := DataW.trod_string Try.underlying9 q16
    simp only [List.cons.injEq, and_true] at e17
    subst e17
    exact ⟨[Fld.n 0 maxN n3, Fld.n 0 maxN n5, Fld.n 0 maxN n9, Fld.t n11, Fld.f n13, Fld.r (.slice an15 ln15 kn15), Fld.t n17], ⟨n3, n5, n9, n11, n13, an15, ln15, kn15, n17, rfl⟩, rfl⟩
set_option maxRecDepth 100000 in
/-- A message that came in. -/
theorem open_msg {r : Reach} {b0 : Nat} {v : Value} {d : DataW H} {p : List MemPlace} (hv : Value.okWide Try.prog w r b0 35 v) (h : DataW.Trod enc Try.prog w base spare held 35 v d p) : ∃ VL m, v = .agg VL.toArray ∧ MV (LRd w) VL m := by
  simp only [Value.okWide, Try.underlying35] at hv
  obtain ⟨cs, rfl, h2, _⟩ := hv
  obtain ⟨fuel, hf⟩ := h
  have hf2 : DataW.trod enc Try.prog w base spare held fuel 35 cs.toList = some (d, p) := hf
  suffices hh : ∀ cl : List Value, DataW.trod enc Try.prog w base spare held fuel 35 cl = some (d, p) → ∃ m, MV (LRd w) cl m by
    obtain ⟨m, hm⟩ := hh _ hf2
    exact ⟨cs.toList, m, by simp, hm⟩
  clear hf hf2 h2
  intro cl hf
  have h := hf
  have hl := (open_struct stMsg hf).1
  clear hf
  match cl, hl with
  | [v0, v1, v2, v3, v4, v5, v6, v7, v8, v9, v10, v11, v12, v13, v14, v15, v16, v17, v18, v19, v20, v21, v22, v23, v24], _ =>
    have g1 := (open_struct stMsg h).2
    obtain ⟨_, _, q2⟩ := g1 0 _ _ _ rfl
    replace q2 : DataW.trod enc Try.prog w base spare held _ 3 [v0] = some _ := q2
    obtain ⟨n3, e3, _⟩ := DataW.trod_int Try.underlying3 q2
    simp only [List.cons.injEq, and_true] at e3
    subst e3
    obtain ⟨_, _, q4⟩ := g1 1 _ _ _ rfl
    replace q4 : DataW.trod enc Try.prog w base spare held _ 3 [v1] = some _ := q4
    obtain ⟨n5, e5, _⟩ := DataW.trod_int Try.underlying3 q4
    simp only [List.cons.injEq, and_true] at e5
    subst e5
    obtain ⟨_, _, q6⟩ := g1 2 _ _ _ rfl
    replace q6 : DataW.trod enc Try.prog w base spare held _ 3 [v2] = some _ := q6
    obtain ⟨n7, e7, _⟩ := DataW.trod_int Try.underlying3 q6
    simp only [List.cons.injEq, and_true] at e7
    subst e7
    obtain ⟨_, _, q8⟩ := g1 3 _ _ _ rfl
    replace q8 : DataW.trod enc Try.prog w base spare held _ 3 [v3] = some _ := q8
    obtain ⟨n9, e9, _⟩ := DataW.trod_int Try.underlying3 q8
    simp only [List.cons.injEq, and_true] at e9
    subst e9
    obtain ⟨_, _, q10⟩ := g1 4 _ _ _ rfl
    replace q10 : DataW.trod enc Try.prog w base spare held _ 3 [v4] = some _ := q10
    obtain ⟨n11, e11, _⟩ := DataW.trod_int Try.underlying3 q10
    simp only [List.cons.injEq, and_true] at e11
    subst e11
    obtain ⟨_, _, q12⟩ := g1 5 _ _ _ rfl
    replace q12 : DataW.trod enc Try.prog w base spare held _ 3 [v5] = some _ := q12
    obtain ⟨n13, e13, _⟩ := DataW.trod_int Try.underlying3 q12
    simp only [List.cons.injEq, and_true] at e13
    subst e13
    obtain ⟨_, _, q14⟩ := g1 6 _ _ _ rfl
    replace q14 : DataW.trod enc Try.prog w base spare held _ 3 [v6] = some _ := q14
    obtain ⟨n15, e15, _⟩ := DataW.trod_int Try.underlying3 q14
    simp only [List.cons.injEq, and_true] at e15
    subst e15
    obtain ⟨_, _, q16⟩ := g1 7 _ _ _ rfl
    replace q16 : DataW.trod enc Try.prog w base spare held _ 4 [v7] = some _ := q16
    obtain ⟨n17, e17, _⟩ := DataW.trod_bool Try.underlying4 q16
    simp only [List.cons.injEq, and_true] at e17
    subst e17
    obtain ⟨_, _, q18⟩ := g1 8 _ _ _ rfl
    replace q18 : DataW.trod enc Try.prog w base spare held _ 26 [v8, v9, v10, v11, v12, v13, v14, v15, v16] = some _ := q18
    have g19 := (open_struct stOp q18).2
    obtain ⟨_, _, q20⟩ := g19 0 _ _ _ rfl
    replace q20 : DataW.trod enc Try.prog w base spare held _ 3 [v8] = some _ := q20
    obtain ⟨n21, e21, _⟩ := DataW.trod_int Try.underlying3 q20
    simp only [List.cons.injEq, and_true] at e21
    subst e21
    obtain ⟨_, _, q22⟩ := g19 1 _ _ _ rfl
    replace q22 : DataW.trod enc Try.prog w base spare held _ 9 [v9] = some _ := q22
    obtain ⟨n23, e23, _, _⟩ := DataW.trod_string Try.underlying9 q22
    simp only [List.cons.injEq, and_true] at e23
    subst e23
    obtain ⟨_, _, q24⟩ := g19 2 _ _ _ rfl
    replace q24 : DataW.trod enc Try.prog w base spare held _ 9 [v10] = some _ := q24
    obtain ⟨n25, e25, _, _⟩ := DataW.trod_string Try.underlying9 q24
    simp only [List.cons.injEq, and_true] at e25
    subst e25
    obtain ⟨_, _, q26⟩ := g19 3 _ _ _ rfl
    replace q26 : DataW.trod enc Try.prog w base spare held _ 9 [v11] = some _ := q26
    obtain ⟨n27, e27, _, _⟩ := DataW.trod_string Try.underlying9 q26
    simp only [List.cons.injEq, and_true] at e27
    subst e27
    obtain ⟨_, _, q28⟩ := g19 4 _ _ _ rfl
    replace q28 : DataW.trod enc Try.prog w base spare held _ 4 [v12] = some _ := q28
    obtain ⟨n29, e29, _⟩ := DataW.trod_bool Try.underlying4 q28
    simp only [List.cons.injEq, and_true] at e29
    subst e29
    obtain ⟨_, _, q30⟩ := g19 5 _ _ _ rfl
    replace q30 : DataW.trod enc Try.prog w base spare held _ 22 [v13] = some _ := q30
    obtain ⟨n31, e31, sn31⟩ := open_list Try.underlying22 (sz := 3) (by kernel_rfl) isWrite (fun f hf => hf.len) (fun h => open_Write h) q30 (by omega)
    obtain ⟨_, _, q32⟩ := g19 6 _ _ _ rfl
    replace q32 : DataW.trod enc Try.prog w base spare held _ 24 [v14, v15] = some _ := q32
    have g33 := (open_struct stSpan q32).2
    obtain ⟨_, _, q34⟩ := g33 0 _ _ _ rfl
    replace q34 : DataW.trod enc Try.prog w base spare held _ 9 [v14] = some _ := q34
    obtain ⟨n35, e35, _, _⟩ := DataW.trod_string Try.underlying9 q34
    simp only [List.cons.injEq, and_true] at e35
    subst e35
    obtain ⟨_, _, q36⟩ := g33 1 _ _ _ rfl
    replace q36 : DataW.trod enc Try.prog w base spare held _ 9 [v15] = some _ := q36
    obtain ⟨n37, e37, _, _⟩ := DataW.trod_string Try.underlying9 q36
    simp only [List.cons.injEq, and_true] at e37
    subst e37
    obtain ⟨_, _, q38⟩ := g19 7 _ _ _ rfl
    replace q38 : DataW.trod enc Try.prog w base spare held _ 3 [v16] = some _ := q38
    obtain ⟨n39, e39, _⟩ := DataW.trod_int Try.underlying3 q38
    simp only [List.cons.injEq, and_true] at e39
    subst e39
    obtain ⟨_, _, q40⟩ := g1 9 _ _ _ rfl
    replace q40 : DataW.trod enc Try.prog w base spare held _ 30 [v17, v18, v19, v20, v21] = some _ := q40
    have g41 := (open_struct stReply q40).2
    obtain ⟨_, _, q42⟩ := g41 0 _ _ _ rfl
    replace q42 : DataW.trod enc Try.prog w base spare held _ 27 [v17] = some _ := q42
    obtain ⟨n43, e43, _⟩ := DataW.trod_int Try.underlying27 q42
    simp only [List.cons.injEq, and_true] at e43
    subst e43
    obtain ⟨_, _, q44⟩ := g41 1 _ _ _ rfl
    replace q44 : DataW.trod enc Try.prog w base spare held _ 9 [v18] = some _ := q44
    obtain ⟨n45, e45, _, _⟩ := DataW.trod_string Try.underlying9 q44
    simp only [List.cons.injEq, and_true] at e45
    subst e45
    obtain ⟨_, _, q46⟩ := g41 2 _ _ _ rfl
    replace q46 : DataW.trod enc Try.prog w base spare held _ 4 [v19] = some _ := q46
    obtain ⟨n47, e47, _⟩ := DataW.trod_bool Try.underlying4 q46
    simp only [List.cons.injEq, and_true] at e47
    subst e47
    obtain ⟨_, _, q48⟩ := g41 3 _ _ _ rfl
    replace q48 : DataW.trod enc Try.prog w base spare held _ 28 [v20] = some _ := q48
    obtain ⟨n49, e49, sn49⟩ := open_list Try.underlying28 (sz := 2) (by kernel_rfl) isPair (fun f hf => hf.len) (fun h => open_Pair h) q48 (by omega)
    obtain ⟨_, _, q50⟩ := g41 4 _ _ _ rfl
    replace q50 : DataW.trod enc Try.prog w base spare held _ 9 [v21] = some _ := q50
    obtain ⟨n51, e51, _, _⟩ := DataW.trod_string Try.underlying9 q50
    simp only [List.cons.injEq, and_true] at e51
    subst e51
    obtain ⟨_, _, q52⟩ := g1 10 _ _ _ rfl
    replace q52 : DataW.trod enc Try.prog w base spare held _ 31 [v22] = some _ := q52
    obtain ⟨n53, e53, sn53⟩ := open_list Try.underlying31 (sz := 6) (by kernel_rfl) isShard (fun f hf => hf.len) (fun h => open_Shard h) q52 (by omega)
    obtain ⟨_, _, q54⟩ := g1 11 _ _ _ rfl
    replace q54 : DataW.trod enc Try.prog w base spare held _ 32 [v23] = some _ := q54
    obtain ⟨n55, e55, sn55⟩ := open_list Try.underlying32 (sz := 4) (by kernel_rfl) isEntry (fun f hf => hf.len) (fun h => open_Entry h) q54 (by omega)
    obtain ⟨_, _, q56⟩ := g1 12 _ _ _ rfl
    replace q56 : DataW.trod enc Try.prog w base spare held _ 33 [v24] = some _ := q56
    obtain ⟨n57, e57, sn57⟩ := open_list Try.underlying33 (sz := 7) (by kernel_rfl) slPr (fun f hf => (slSeen hf).len) (fun h => open_Seen h) q56 (by omega)
    exact ⟨_, n3, n5, n7, n9, n11, n13, n15, n17, n21, n23, n25, n27, n29, n31, n35, n37, n39, n43, n45, n47, n49, n51, n53, n55, n57, v13, v20, v22, v23, v24, rfl, rfl, e31, e49, e53, e55, e57, sn31, sn49, sn53, sn55, sn57⟩
end
end Go.Proofs.Ytdnhmkfgcpdbkaa
