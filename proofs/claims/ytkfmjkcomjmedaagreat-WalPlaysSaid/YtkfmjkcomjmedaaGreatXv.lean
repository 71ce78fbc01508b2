/-
  Layer 6 (wal): a script of a log's calls that came in. Conditions: within the form's reach.
-/
import Derived.Test.YtkfmjkcomjmedaaGreatXu
import Derived.Deep.Slices
import Derived.Deep.Fields
import Derived.SizedLaws
namespace Go.Proofs.YtkfmjkcomjmedaaGreat
open Go.RowKit Go.ChangeShapes Go.WideShapes
set_option linter.unusedVariables false
set_option linter.unusedSimpArgs false

instance : Inhabited Opw := ⟨⟨0, 0, ByteArray.empty, none, [], 0⟩⟩
theorem rangeW {z : Int} (h : (Lit.int .i64 z).wf = true) : -9223372036854775808 ≤ z ∧ z ≤ 9223372036854775807 := by
  simpa [Lit.wf, IntKind.min, IntKind.max, IntKind.bits, IntKind.signed] using h
theorem opsw_rd {w : World} {x : Addr} {len cap m : Nat} {q : Nat → Opw} (hl : len ≤ cap) (hm : cap ≤ maxLen) (hlm : len ≤ m)
    (hcell : ∀ i, i < m → (w.cell? (x.add (i * 4)) = some (.int .i64 (q i).kind) ∧ w.cell? (x.add (i * 4 + 1)) = some (.int .i64 (q i).num) ∧ w.cell? (x.add (i * 4 + 2)) = some (.string (q i).text) ∧ w.cell? (x.add (i * 4 + 3)) = some (.slice (q i).ka (q i).ks.length (q i).kc)) ∧ (-9223372036854775808 ≤ (q i).num ∧ (q i).num ≤ 9223372036854775807) ∧ (q i).text.size ≤ maxLen ∧ Kp (fun b => b < w.heap.size) w (q i).ka (q i).ks ∧ (i < len → (q i).ks.length ≤ 140737488355328)) :
    ∃ xs : List Opw, xs.length = len ∧ RdW w (some x) xs ∧ okW w xs ∧ xs.length ≤ maxLen ∧ xs.length ≤ cap := by
  have hlen : ((List.range len).map q).length = len := by simp
  refine ⟨(List.range len).map q, hlen, ?_, ?_, by rw [hlen]; omega, by rw [hlen]; exact hl⟩
  · by_cases h0 : len = 0
    · subst h0; exact .inl rfl
    · obtain ⟨b, off, spot⟩ := x
      have hc0 := (hcell 0 (by omega)).1.1
      have hs : spot = none := by simpa [Addr.add] using World.cell?_spot hc0
      subst hs
      have hlt := cell_lt hc0
      have e : ∀ j, (⟨b, off, none⟩ : Addr).add j = ⟨b, off + j, none⟩ := by intro j; unfold Addr.add; split <;> simp_all
      refine .inr ⟨b, off, rfl, by simpa [Addr.add] using hlt, fun i hi => ?_⟩
      rw [hlen] at hi
      have h := (hcell i (by omega)).1
      rw [e, e, e, e] at h
      refine ⟨?_, ?_, ?_, ?_⟩
      · rw [h.1]; simp
      · rw [Nat.add_assoc, h.2.1]; simp
      · rw [Nat.add_assoc, h.2.2.1]; simp
      · rw [Nat.add_assoc, h.2.2.2]; simp
  · intro t ht
    rw [List.mem_map] at ht
    obtain ⟨i, hi, rfl⟩ := ht
    have hil := List.mem_range.1 hi
    have h := (hcell i (by omega)).2
    refine ⟨h.1, h.2.1, h.2.2.2 hil, h.2.2.1, fun b off e => ?_⟩
    rcases h.2.2.1.2 with h | ⟨b', off', e1, e2, -⟩
    · exact .inl h
    · rw [e] at e1; cases e1; exact .inr e2
section
variable {H : Type} {enc : TypeId × Value → H} {P : Program} {w : World} {base : Nat} {spare : Nat → Bool} {held : Bool}
theorem weights_mem_all {e : TypeId} {n : Nat} : ∀ {l : List (DataW H)} {d : DataW H}, d ∈ l → n ∈ d.weights P e → n ∈ DataW.weightsAll P e l
  | [], d, h, _ => by simp at h
  | x :: r, d, h, hn => by
    simp only [DataW.weightsAll, List.mem_append]
    rcases List.mem_cons.1 h with rfl | h
    · exact .inl hn
    · exact .inr (weights_mem_all h hn)
/-- A slice of numbers within a struct, as Crash asks for it. -/
theorem kp_open {t e : TypeId} {fuel : Nat} {v : Value} {x : DataW H × List MemPlace} (ht : P.underlying t = some (.slice e)) (he : P.underlying e = some (.int .i64)) (hc : P.cellsOf e = 1) (hby : P.bytesOf e = 8)
    (h : DataW.trod enc P w base spare held fuel t [v] = some x) : ∃ (a : Option Addr) (ks : List Int) (c : Nat), v = .slice a ks.length c ∧ Kp (fun b => b < w.heap.size) w a ks ∧ ((∀ n ∈ x.1.weights P t, n ≤ reachBytes) → ks.length ≤ 140737488355328) := by
  rcases open_ints ht he hc h with ⟨hcs, _⟩ | ⟨y, l, c, zs, hcs, _, hl, hm, hz, hx, hcell, hwz⟩
  · simp only [List.cons.injEq, and_true] at hcs
    subst hcs
    exact ⟨none, [], 0, rfl, Kp.nil _ _ _, fun _ => Nat.zero_le _⟩
  · simp only [List.cons.injEq, and_true] at hcs
    subst hcs
    have hlz : l ≤ zs.length := by rw [hz]; split <;> omega
    have hkl : (zs.take l).length = l := by rw [List.length_take]; omega
    refine ⟨some y, zs.take l, c, by rw [hkl], ⟨fun n hn => rangeW (hwz n (List.mem_of_mem_take hn)), ?_⟩, fun hw => ?_⟩
    · by_cases h0 : l = 0
      · subst h0; exact .inl (by simp)
      · obtain ⟨b, off, spot⟩ := y
        have hc0 := hcell 0 (by omega)
        have hs : spot = none := by simpa [Addr.add] using World.cell?_spot hc0
        subst hs
        have hlt := cell_lt hc0
        have e : ∀ j, (⟨b, off, none⟩ : Addr).add j = ⟨b, off + j, none⟩ := by intro j; unfold Addr.add; split <;> simp_all
        refine .inr ⟨b, off, rfl, by simpa [Addr.add] using hlt, fun i hi => ?_⟩
        rw [hkl] at hi
        have h := hcell i (by omega)
        rw [e] at h
        rw [h, List.getElem_take, List.getD_eq_getElem?_getD, List.getElem?_eq_getElem (by omega)]
        rfl
    · rw [hkl]
      have h := hw (((lits (H := H) .i64 (zs.take l)).length + (lits (H := H) .i64 (zs.drop l)).length) * P.bytesOf e) (by rw [hx]; simp [DataW.weights, ht])
      rw [hby] at h
      have h1 : (lits (H := H) .i64 (zs.take l)).length = l := by simp [lits, hlz]
      rw [h1] at h
      have h3 : reachBytes = 140737488351232 := rfl
      have h2 : l * 8 ≤ (l + (lits (H := H) .i64 (zs.drop l)).length) * 8 := Nat.mul_le_mul_right _ (by omega)
      omega
theorem open_opsw {t e e3 : TypeId} {f0 f1 f2 f3 : Field} {a : Option Addr} {len cap : Nat} {d : DataW H} {p : List MemPlace} (ht : P.underlying t = some (.slice e)) (he : P.underlying e = some (.struct #[f0, f1, f2, f3]))
    (ce : P.cellsOf e = 4) (hone : Go.Deep.oneCellFields P #[f0, f1, f2, f3] = true) (t0 : P.underlying f0.type = some (.int .i64)) (t1 : P.underlying f1.type = some (.int .i64)) (t2 : P.underlying f2.type = some .string)
    (t3 : P.underlying f3.type = some (.slice e3)) (te : P.underlying e3 = some (.int .i64)) (tc : P.cellsOf e3 = 1) (tb : P.bytesOf e3 = 8) (hsz : ∀ n ∈ d.weights P t, n ≤ reachBytes)
    (h : DataW.Trod enc P w base spare held t (.slice a len cap) d p) : ∃ xs : List Opw, xs.length = len ∧ RdW w a xs ∧ okW w xs ∧ xs.length ≤ maxLen ∧ xs.length ≤ cap := by
  obtain ⟨fuel, hf⟩ := h
  rcases Go.Deep.open_slice ht hf with ⟨hcs, _⟩ | ⟨x, l, c, m, n, D, Pl, hcs, _, hl, hm, hmm, hd, hi⟩
  · simp [Value.cells] at hcs
    obtain ⟨rfl, rfl, rfl⟩ := hcs
    exact ⟨[], rfl, .inl rfl, fun x hx => by simp at hx, Nat.zero_le _, Nat.zero_le _⟩
  · simp [Value.cells] at hcs
    obtain ⟨rfl, rfl, rfl⟩ := hcs
    obtain rfl : d = _ := congrArg Prod.fst hd
    have each : ∀ i, i < m → ∃ q : Opw, (w.cell? (x.add (i * 4)) = some (.int .i64 q.kind) ∧ w.cell? (x.add (i * 4 + 1)) = some (.int .i64 q.num) ∧ w.cell? (x.add (i * 4 + 2)) = some (.string q.text) ∧ w.cell? (x.add (i * 4 + 3)) = some (.slice q.ka q.ks.length q.kc)) ∧ (-9223372036854775808 ≤ q.num ∧ q.num ≤ 9223372036854775807) ∧ q.text.size ≤ maxLen ∧ Kp (fun b => b < w.heap.size) w q.ka q.ks ∧ (i < len → q.ks.length ≤ 140737488355328) := by
      intro i him
      obtain ⟨cs', hc, ht'⟩ := hi i him
      rw [ce] at hc
      obtain ⟨_, hcl, hat⟩ := World.cells?_some hc
      obtain ⟨ys, n', _, hDi, _, hyl, hg⟩ := DataW.trod_struct he ht'
      match ys, hyl, cs', hcl with
      | [y0, y1, y2, y3], _, [v0, v1, v2, v3], _ =>
        obtain ⟨o0, k0⟩ := Go.Deep.hone_of hone 0 f0 rfl
        obtain ⟨o1, k1⟩ := Go.Deep.hone_of hone 1 f1 rfl
        obtain ⟨o2, k2⟩ := Go.Deep.hone_of hone 2 f2 rfl
        obtain ⟨o3, k3⟩ := Go.Deep.hone_of hone 3 f3 rfl
        have g0 := hg 0 f0 rfl
        have g1 := hg 1 f1 rfl
        have g2 := hg 2 f2 rfl
        have g3 := hg 3 f3 rfl
        simp [o0, k0] at g0
        simp [o1, k1] at g1
        simp [o2, k2] at g2
        simp [o3, k3] at g3
        obtain ⟨n0, e0, _, _⟩ := DataW.trod_int t0 g0
        obtain ⟨n1, e1, _, z1⟩ := DataW.trod_int t1 g1
        obtain ⟨s2, e2, _, z2⟩ := DataW.trod_string t2 g2
        obtain ⟨ka, ks, kc, e3', z3, z4⟩ := kp_open t3 te tc tb g3
        simp only [List.cons.injEq, and_true] at e0 e1 e2
        have c0 := hat 0 (by omega)
        have c1 := hat 1 (by omega)
        have c2 := hat 2 (by omega)
        have c3 := hat 3 (by omega)
        rw [Go.Deep.add_add] at c0 c1 c2 c3
        subst e0 e1 e2 e3'
        refine ⟨⟨n0, n1, s2, ka, ks, kc⟩, ⟨by simpa using c0, by simpa using c1, by simpa using c2, by simpa using c3⟩, rangeW z1, z2, z3, fun hil => z4 fun k hk => hsz k ?_⟩
        have hD : D i = .agg [y0.1, y1.1, y2.1, y3.1] := by simpa using congrArg Prod.fst hDi
        have hin : D i ∈ (List.range len).map D := List.mem_map.2 ⟨i, List.mem_range.2 hil, rfl⟩
        have h1 : k ∈ (D i).weights P e := by
          rw [hD]
          simp only [DataW.weights, he, DataW.weightsEach, List.map_cons, List.map_nil, List.mem_append]
          exact .inr (.inr (.inr (.inl hk)))
        simp only [DataW.weights, ht, List.mem_cons, List.mem_append]
        exact .inr (.inl (weights_mem_all hin h1))
    obtain ⟨q, hq⟩ := Go.Deep.choose_lt each
    exact opsw_rd (q := q) hl hm (by rw [hmm]; split <;> omega) hq
end
end Go.Proofs.YtkfmjkcomjmedaaGreat
