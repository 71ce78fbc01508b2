/-
  Layer 6 (wal): a log's parts in memory; contract of the closure that load hands on. Conditions: none.
-/
import Derived.Test.YtkfmjkcomjmedaaGreatLf
import Derived.Test.YtkfmjkcomjmedaaGreatLp
import Derived.Test.YtkfmjkcomjmedaaGreatQ8
import Derived.Test.YtkfmjkcomjmedaaGreatFa
import Derived.Test.YtkfmjkcomjmedaaGreatQt
namespace Go.Proofs.YtkfmjkcomjmedaaGreat
open Go.RowKit Go.Lib
set_option linter.unusedVariables false

/-! ### what a disk holds -/
theorem DiskAt.facts {own : Nat → Prop} {w : World} {d : Nat} {S : Ds} (h : DiskAt own w d S) : Srt S.files ∧ S.files.length ≤ 256 ∧ ∀ p ∈ S.files, p.1.length ≤ maxLen ∧ p.2.sure ≤ p.2.bytes.length ∧ p.2.bytes.length ≤ 4194304 := by
  obtain ⟨m, G, h, hF⟩ := h
  refine ⟨by rw [← hF]; exact (srt_mapL _).2 h.srt, by rw [← hF, length_mapL]; exact h.len, fun p hp => ?_⟩
  rw [← hF] at hp
  unfold mapL at hp
  obtain ⟨q, hq, rfl⟩ := List.mem_map.1 hp
  have hk := h.key hq
  obtain ⟨v, _, _, _, h3, h4⟩ := h.file q hq
  refine ⟨?_, h3, h4⟩
  obtain ⟨s, hs1, hs2, hs3⟩ := Maps.keyOf_str Tryz.underlying9 hk
  cases hs1
  exact hs3
theorem dg_val : ∀ (k : Nat) (l : List UInt8), l.length = k → l.all isD = true → dgN k (valN l) = l
  | 0, l, h, _ => by rw [List.length_eq_zero_iff.1 h]; rfl
  | k + 1, l, h, ha => by
    obtain ⟨i, b, rfl⟩ : ∃ i b, l = i ++ [b] := ⟨l.dropLast, l.getLast (by rintro rfl; simp at h), (List.dropLast_concat_getLast _).symm⟩
    rw [List.all_append, Bool.and_eq_true] at ha
    have hb := ha.2
    simp only [List.all_cons, List.all_nil, Bool.and_true, isD, Bool.and_eq_true, decide_eq_true_eq] at hb
    have hl : i.length = k := by simpa using h
    rw [dgN, val_snoc, show (valN i * 10 + (b.toNat - 48)) / 10 = valN i by omega, dg_val k i hl ha.1, show (48 + (valN i * 10 + (b.toNat - 48)) % 10) = b.toNat by omega]
    simp
/-- A name with a number is that number's name. -/
theorem numb_name {s : List UInt8} {n : Nat} (h : numb s = some n) : s = lname n := by
  unfold numb at h
  split at h
  · rename_i c
    cases h
    obtain ⟨⟨h1, h2, h3⟩, _⟩ := c
    unfold lname
    rw [dg_val 8 _ (by rw [List.length_drop]; omega) h3, ← h2, List.take_append_drop]
  · cases h

/-! ### parts -/
structure Gp where
  n : Nat
  ts : List (List UInt8)
  tv : Value
def Gp.lt (g : Gp) : Nat × List (List UInt8) := (g.n, g.ts)
def gcs (G : List Gp) : List Value := G.flatMap fun g => [.int .i64 (g.n : Int), g.tv]
def Apart (g h : Gp) : Prop := ∀ r, g.tv.ownBlock = some r → h.tv.ownBlock ≠ some r
structure PartsAt (w : World) (base : Nat) (pv : Value) (G : List Gp) : Prop where
  row : w.ownsRow base 78 2 pv G.length (gcs G)
  tx : ∀ g ∈ G, w.ownsRow base 9 1 g.tv g.ts.length (sv g.ts)
  ap : G.Pairwise Apart
theorem gcs_snoc (G : List Gp) (g : Gp) : gcs G ++ [.int .i64 (g.n : Int), g.tv] = gcs (G ++ [g]) := by simp [gcs]
theorem row_slice {w : World} {base n size : Nat} {t : TypeId} {v : Value} {xs : List Value} (h : w.ownsRow base t size v n xs) : ∃ a cap, v = .slice a n cap := by
  rcases h.2 with ⟨rfl, rfl⟩ | ⟨g, cap, cur, rfl, _⟩
  · exact ⟨_, _, rfl⟩
  · exact ⟨_, _, rfl⟩
theorem row_at {w : World} {base t size n : Nat} {v : Value} {xs : List Value} (h : w.ownsRow base t size v n xs) {r : Nat} (hr : v.ownBlock = some r) : base ≤ r ∧ ∃ cur, w.heap[r]? = some (.cells cur t (0, 0)) := by
  rcases h.2 with ⟨rfl, _⟩ | ⟨g, cap, cur, rfl, hb, hh, _⟩
  · simp [Value.ownBlock] at hr
  · simp [Value.ownBlock] at hr
    subst hr
    exact ⟨hb, cur, hh⟩
/-- Rows of two types lie in two blocks. -/
theorem rows_apart {w : World} {b b' t t' s s' n n' : Nat} {v v' : Value} {xs xs' : List Value} (h : w.ownsRow b t s v n xs) (h' : w.ownsRow b' t' s' v' n' xs') (hne : t ≠ t') : ∀ r, v.ownBlock = some r → v'.ownBlock ≠ some r := by
  intro r h1 h2
  obtain ⟨_, c, e⟩ := row_at h h1
  obtain ⟨_, c', e'⟩ := row_at h' h2
  rw [e] at e'
  cases e'
  exact hne rfl
theorem PartsAt.same {w w' : World} {base : Nat} {pv : Value} {G : List Gp} (h : PartsAt w base pv G) (h1 : ∀ r, pv.ownBlock = some r → w'.heap[r]? = w.heap[r]?) (h2 : ∀ g ∈ G, ∀ r, g.tv.ownBlock = some r → w'.heap[r]? = w.heap[r]?) : PartsAt w' base pv G :=
  ⟨own_same h.row h1, fun g hg => own_same (h.tx g hg) (h2 g hg), h.ap⟩
theorem PartsAt.old {w w' : World} {base : Nat} {pv : Value} {G : List Gp} (h : PartsAt w base pv G) (hb : Below w.heap.size w w') : PartsAt w' base pv G :=
  h.same (fun r hr => hb.block _ (h.row.lt r hr).2) fun g hg r hr => hb.block _ ((h.tx g hg).lt r hr).2
theorem PartsAt.mono {w : World} {base base' : Nat} {pv : Value} {G : List Gp} (h : PartsAt w base pv G) (hb : base' ≤ base) : PartsAt w base' pv G := ⟨own_low h.row hb, fun g hg => own_low (h.tx g hg) hb, h.ap⟩
theorem PartsAt.cell {w : World} {base : Nat} {pv : Value} {G : List Gp} (h : PartsAt w base pv G) (a : Addr) (ha : a.block < base) (u : Value) : PartsAt (w.setCell a u) base pv G :=
  h.same (fun r hr => Below.heap_setCell _ _ _ _ (by have := (h.row.lt r hr).1; omega)) fun g hg r hr => Below.heap_setCell _ _ _ _ (by have := ((h.tx g hg).lt r hr).1; omega)
/-- A part is appended: its texts' row is apart from the others'. -/
theorem PartsAt.snoc {w w2 : World} {base : Nat} {pv pv' : Value} {G : List Gp} {g : Gp} (h : PartsAt w base pv G) (hown : w2.ownsRow base 78 2 pv' (G.length + 1) (gcs G ++ [.int .i64 (g.n : Int), g.tv])) (hg : w.grownBy w2 pv.ownBlock)
    (ht : w.ownsRow base 9 1 g.tv g.ts.length (sv g.ts)) (ha : ∀ h ∈ G, Apart h g) : PartsAt w2 base pv' (G ++ [g]) := by
  have keep : ∀ {v : Value} {n : Nat} {xs : List Value}, w.ownsRow base 9 1 v n xs → w2.ownsRow base 9 1 v n xs := fun hx =>
    own_same hx fun r hr => hg.block r (hx.lt r hr).2 (fun e => rows_apart hx h.row (by decide) r hr e.symm)
  refine ⟨?_, fun k hk => ?_, List.pairwise_append.2 ⟨h.ap, by simp, fun k hk k' hk' => ?_⟩⟩
  · rw [List.length_append, ← gcs_snoc]; exact hown
  · rcases List.mem_append.1 hk with hk | hk
    · exact keep (h.tx k hk)
    · simp at hk; subst hk; exact keep ht
  · simp at hk'; subst hk'; exact ha k hk
theorem add_at (b j : Nat) : (⟨b, 0, none⟩ : Addr).add j = ⟨b, j, none⟩ := by unfold Addr.add; split <;> simp_all
theorem cell_pair (w : World) (A B : Value) (t : TypeId) : ∀ j u, [A, B][j]? = some u → (w.alloc (.cells #[A, B] t)).cell? ((⟨w.heap.size, 0, none⟩ : Addr).add j) = some u := by
  intro j u hj
  rw [add_at]
  match j, hj with
  | 0, hj => simp at hj; subst hj; simp
  | 1, hj => simp at hj; subst hj; simp
theorem pair_one (n : Int) (a : Option Addr) (l c : Nat) : ∀ u ∈ [Value.int .i64 n, .slice a l c], u.oneCell' = true := by
  intro u hu
  simp at hu
  rcases hu with rfl | rfl <;> rfl
theorem infoPart : (Tryz.prog.info? 78).map (fun i => (i.zero, i.size, i.bytes)) = some (some (.agg #[.int .i64 0, .slice none 0 0]), 2, 32) := by kernel_rfl

/-! ### load's closure -/
/-- What load's closure sees: the disk, the number, the parts so far. -/
structure LdS (B : Nat) (w : World) (d fr : Nat) (pv : Value) (G : List Gp) : Prop where
  size : B + 3 ≤ w.heap.size
  c0 : w.cell? ⟨B, 0, none⟩ = some (.pointer (some ⟨d, 0, none⟩))
  c1 : w.cell? ⟨B + 1, 0, none⟩ = some (.int .i64 (fr : Int))
  c2 : w.cell? ⟨B + 2, 0, none⟩ = some pv
  f2 : w.frozen? ⟨B + 2, 0, none⟩ = false
  pa : PartsAt w (B + 3) pv G
theorem LdS.old {B : Nat} {w w' : World} {d fr : Nat} {pv : Value} {G : List Gp} (h : LdS B w d fr pv G) (hb : Below w.heap.size w w') : LdS B w' d fr pv G := by
  have hs := h.size
  exact ⟨Nat.le_trans hs hb.size, (hb.cell (p := ⟨B, 0, none⟩) (by show B < _; omega)).trans h.c0, (hb.cell (p := ⟨B + 1, 0, none⟩) (by show B + 1 < _; omega)).trans h.c1, (hb.cell (p := ⟨B + 2, 0, none⟩) (by show B + 2 < _; omega)).trans h.c2,
    (hb.frozen (p := ⟨B + 2, 0, none⟩) (by show B + 2 < _; omega)).trans h.f2, h.pa.old hb⟩
/-- The blocks that the closure leaves alone. -/
def Lone (B : Nat) (w : World) (pv : Value) (b : Nat) : Prop := b < w.heap.size ∧ b ≠ B + 2 ∧ pv.ownBlock ≠ some b
theorem lone_below {B : Nat} {w w' : World} {d fr : Nat} {pv : Value} {G : List Gp} (h : LdS B w d fr pv G) (k : Keeps (Lone B w pv) w w') : Below B w w' :=
  k.below fun b hb => ⟨by have := h.size; omega, by omega, fun e => by have := (h.pa.row.lt b e).1; omega⟩
theorem lone_row {B : Nat} {w w' : World} {d fr : Nat} {pv : Value} {G : List Gp} {b n : Nat} {v : Value} {xs : List Value} (h : LdS B w d fr pv G) (k : Keeps (Lone B w pv) w w') (hv : w.ownsRow b 9 1 v n xs) (hb : B + 3 ≤ b) : w'.ownsRow b 9 1 v n xs :=
  own_same hv fun r hr => k.block r ⟨(hv.lt r hr).2, by have := (hv.lt r hr).1; omega, fun e => rows_apart hv h.pa.row (by decide) r hr e⟩
theorem nil_block {w : World} {b t s n cap : Nat} {a : Option Addr} {xs : List Value} (h : w.ownsRow b t s (.slice a n cap) n xs) : a = none → n = 0 := by
  rintro rfl
  rcases h.2 with ⟨_, h⟩ | ⟨g, _, _, hv, _⟩
  · exact h
  · cases hv
/-- Behind the append: the row is stored. -/
theorem LdS.stored {B : Nat} {w w1 w2 : World} {d fr : Nat} {pv pv' : Value} {G : List Gp} {g : Gp} (h : LdS B w d fr pv G) (hb1 : Below w.heap.size w w1) (hown : w2.ownsRow (B + 3) 78 2 pv' (G.length + 1) (gcs G ++ [.int .i64 (g.n : Int), g.tv])) (hg : w1.grownBy w2 pv.ownBlock)
    (ht : w1.ownsRow w.heap.size 9 1 g.tv g.ts.length (sv g.ts)) : LdS B (w2.setCell ⟨B + 2, 0, none⟩ pv') d fr pv' (G ++ [g]) ∧ Keeps (Lone B w pv) w (w2.setCell ⟨B + 2, 0, none⟩ pv') := by
  have hs := h.size
  have h1 := h.old hb1
  have hp := h1.pa.snoc hown hg (own_low ht hs) (fun k hk r hr e => by
    have := (ht.lt r e).1
    have := ((h.pa.tx k hk).lt r hr).2
    omega)
  have hk1 : Keeps (Lone B w pv) w w1 := Keeps.of_below hb1 fun b hb => hb.1
  have hk2 : Keeps (Lone B w pv) w1 w2 := Keeps.of_grown hg fun b hb => ⟨Nat.lt_of_lt_of_le hb.1 hb1.size, fun e => hb.2.2 e.symm⟩
  have hk3 : Keeps (Lone B w pv) w2 (w2.setCell ⟨B + 2, 0, none⟩ pv') := Keeps.setCell _ _ fun b hb => hb.2.1
  have hlt2 : B + 2 < w2.heap.size := by have := hg.size; have := hb1.size; omega
  have hb2 : w2.heap[B + 2]? = w1.heap[B + 2]? := hg.block _ (by have := hb1.size; omega) (fun e => by have := (h.pa.row.lt _ e.symm).1; omega)
  have hb0 : w2.heap[B]? = w1.heap[B]? := hg.block _ (by have := hb1.size; omega) (fun e => by have := (h.pa.row.lt _ e.symm).1; omega)
  have hbb : w2.heap[B + 1]? = w1.heap[B + 1]? := hg.block _ (by have := hb1.size; omega) (fun e => by have := (h.pa.row.lt _ e.symm).1; omega)
  have c2 : w2.cell? ⟨B + 2, 0, none⟩ = some pv := (World.cell?_of_block (w := w1) hb2).trans h1.c2
  refine ⟨⟨by simp [World.setCell]; omega, ?_, ?_, World.cell?_setCell_same' _ _ _ (by rw [c2]; rfl), ?_, hp.cell ⟨B + 2, 0, none⟩ (by show B + 2 < B + 3; omega) pv'⟩, (hk1.trans (hk2.trans hk3))⟩
  · rw [World.cell?_setCell_other _ _ _ _ (by intro e; simp only [Addr.mk.injEq] at e; omega)]
    exact (World.cell?_of_block (w := w1) hb0).trans h1.c0
  · rw [World.cell?_setCell_other _ _ _ _ (by intro e; simp only [Addr.mk.injEq] at e; omega)]
    exact (World.cell?_of_block (w := w1) hbb).trans h1.c1
  · rw [World.frozen?_setCell]
    exact (World.frozen?_of_block (w := w1) hb2).trans h1.f2
end Go.Proofs.YtkfmjkcomjmedaaGreat
