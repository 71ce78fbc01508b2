/-
  Layer 15 (bag): a bag in memory: its block, its map of places, a row of letters for each. Conditions: none.
-/
import Derived.Test.YtkljokmhfoannaaIa
import Derived.Test.YtkljokmhfoannaaRg
import Derived.Maps.OwnSet
import Derived.Test.YtkljokmhfoannaaRows
namespace Go.Proofs.Ytkljokmhfoannaa
open Go.RowKit Go.Maps
set_option linter.unusedVariables false
set_option linter.unusedSimpArgs false

/-! ### blocks that a caller has -/
structure Kp (own : Nat → Prop) (w w' : World) : Prop where
  os : w'.os = w.os
  tape : w'.tape = w.tape
  output : w'.output = w.output
  size : w.heap.size ≤ w'.heap.size
  block : ∀ b, own b → w'.heap[b]? = w.heap[b]?
theorem Kp.refl (own : Nat → Prop) (w : World) : Kp own w w := ⟨rfl, rfl, rfl, Nat.le_refl _, fun _ _ => rfl⟩
theorem Kp.trans {own : Nat → Prop} {a b c : World} (h : Kp own a b) (k : Kp own b c) : Kp own a c :=
  ⟨k.os.trans h.os, k.tape.trans h.tape, k.output.trans h.output, Nat.le_trans h.size k.size, fun i hi => (k.block i hi).trans (h.block i hi)⟩
theorem Kp.mono {own own' : Nat → Prop} {w w' : World} (h : Kp own w w') (ho : ∀ b, own' b → own b) : Kp own' w w' := ⟨h.os, h.tape, h.output, h.size, fun b hb => h.block b (ho b hb)⟩
theorem Kp.below {own : Nat → Prop} {w w' : World} (h : Kp own w w') {B : Nat} (ho : ∀ b, b < B → own b) : Below B w w' := ⟨h.os, h.tape, h.output, h.size, fun b hb => h.block b (ho b hb)⟩
theorem Kp.of_below {own : Nat → Prop} {w w' : World} {B : Nat} (h : Below B w w') (ho : ∀ b, own b → b < B) : Kp own w w' := ⟨h.os, h.tape, h.output, h.size, fun b hb => h.block b (ho b hb)⟩
theorem Kp.of_grown {own : Nat → Prop} {w w' : World} {row : Option Nat} (h : w.grownBy w' row) (ho : ∀ b, own b → b < w.heap.size ∧ some b ≠ row) : Kp own w w' :=
  ⟨h.os, h.tape, h.output, h.size, fun b hb => h.block b (ho b hb).1 (ho b hb).2⟩
theorem Kp.cell {own : Nat → Prop} {w w' : World} (h : Kp own w w') : ∀ b o, own b → w'.cell? ⟨b, o, none⟩ = w.cell? ⟨b, o, none⟩ := fun b o hb => World.cell?_of_block (w := w) (h.block b hb)
theorem Kp.frozen {own : Nat → Prop} {w w' : World} (h : Kp own w w') : ∀ b o, own b → w'.frozen? ⟨b, o, none⟩ = w.frozen? ⟨b, o, none⟩ := fun b o hb => World.frozen?_of_block (w := w) (h.block b hb)

/-! ### append: which block the row lies in -/
theorem app_own {P : Program} (w : World) (t ty e : TypeId) (i : TypeInfo) (z : Value) (size bytes : Nat) (ht : P.underlying t = some (.slice e)) (hi : P.info? e = some i) (hz : i.zero = some z)
    (hsize : i.size = size) (hby : i.bytes = bytes) (hzs : z.cells.size = size) (hsz : 0 < size)
    (v : Value) (n : Nat) (xs : List Value) (hown : w.ownsRow 0 e size v n xs)
    (a : Addr) (m c : Nat) (news : List Value) (hl : news.length = m * size) (hnews : ∀ j u, news[j]? = some u → w.cell? (a.add j) = some u) (h1 : ∀ u ∈ news, u.oneCell' = true)
    (h63 : n + m ≤ maxLen) (hbytes : (n + m) * bytes ≤ 140737488355328) :
    ∃ v' w', (Builtin.append_ #[t, t] ty #[v, .slice (some a) m c]).run P w = .ok v' w' ∧ w'.ownsRow 0 e size v' (n + m) (xs ++ news) ∧ w.grownBy w' v.ownBlock ∧ ∀ r, v'.ownBlock = some r → v.ownBlock = some r ∨ w.heap.size ≤ r := by
  have hsmall : n + m ≤ 9223372036854775807 := by simp only [maxLen] at h63; omega
  rcases hown.2 with ⟨rfl, rfl⟩ | ⟨g, cap, cur, rfl, hbg, hg, hnc, hcm, hcs, htake⟩
  · have hx : xs = [] := List.eq_nil_of_length_eq_zero (by simpa using hown.1)
    subst hx
    obtain ⟨v', w', h1, h2, h3, h4⟩ := run_append_own (P := P) w w.heap.size t ty e i z size bytes ht hi hz hsize hby hzs hsz (.slice none 0 0) 0 [] (World.ownsRow_nil ..) a m c news hl hnews h1 h63 hbytes (Nat.le_refl _)
    refine ⟨v', w', h1, ⟨h2.1, ?_⟩, h3, fun r hr => .inr (h2.lt r hr).1⟩
    rcases h2.2 with h | ⟨g, cap, cur, hv, hb, h⟩
    · exact .inl h
    · exact .inr ⟨g, cap, cur, hv, Nat.zero_le _, h⟩
  · by_cases hroom : n + m ≤ cap
    · have hlen : (xs ++ news).length = (n + m) * size := by rw [List.length_append, hown.1, hl, Nat.add_mul]
      have hfit : n * i.size + news.length ≤ cur.size := by rw [hl, hcs, hsize, ← Nat.add_mul]; exact Nat.mul_le_mul_right _ hroom
      have hr := run_append_room (P := P) w t ty e i ht hi g n cap cur hg a m c news (by rw [hsize]; exact hl) hnews h1 hroom hfit
      rw [hsize] at hr hfit
      refine ⟨_, _, hr, ⟨hlen, .inr ⟨g, cap, _, rfl, hbg, setRow_heap w g cur _ e _ hg, hroom, hcm, ?_, ?_⟩⟩, ⟨rfl, rfl, rfl, by simp, fun k _ hk => setRow_other w g k _ (fun e => hk (by simp [Value.ownBlock, e]))⟩, fun r hr => .inl hr⟩
      · simp only [List.size_toArray, List.length_append, List.length_take, List.length_drop, Array.length_toList]
        omega
      · rw [htake, ← hlen]
        exact List.take_left
    · have holds : ∀ j u, xs[j]? = some u → w.cell? ((⟨g, 0, none⟩ : Addr).add j) = some u := hown.cells (g := g) rfl
      obtain ⟨v', w', hr, h2, h3⟩ := run_append_arg_grows (P := P) w t ty e i z size bytes ht hi hz hsize hby hzs hsz ⟨g, 0, none⟩ n cap xs hown.1 holds a m c news hl hnews (by omega) h63 hbytes
      refine ⟨v', w', hr, ⟨h2.1, ?_⟩, ⟨h3.os, h3.tape, h3.output, h3.size, fun k hk _ => h3.block k hk (by simp)⟩, fun r hr => .inr (h2.lt r hr).1⟩
      rcases h2.2 with h | ⟨g, cap, cur, hv, hb, h⟩
      · exact .inl h
      · exact .inr ⟨g, cap, cur, hv, Nat.zero_le _, h⟩
theorem wpList_app_own {P : Program} {w : World} {ops : Array Oper} {rest : List Oper} {o : Oper} {a : Act} {Q : Exit → Act → World → Prop} (hgd : o.guard = none) (s x : Operand) (t : TypeId)
    (ho : o.op = .call { callee := .builtin .append, args := #[s, x], argTypes := #[t, t] })
    (e : TypeId) (i : TypeInfo) (z : Value) (size bytes : Nat) (ht : P.underlying t = some (.slice e)) (hi : P.info? e = some i) (hz : i.zero = some z)
    (hsize : i.size = size) (hby : i.bytes = bytes) (hzs : z.cells.size = size) (hsz : 0 < size)
    (v : Value) (n : Nat) (xs : List Value) (hs : a.eval s = v) (hown : w.ownsRow 0 e size v n xs)
    (ad : Addr) (m c : Nat) (news : List Value) (hx : a.eval x = .slice (some ad) m c) (hl : news.length = m * size) (hnews : ∀ j u, news[j]? = some u → w.cell? (ad.add j) = some u) (h1 : ∀ u ∈ news, u.oneCell' = true)
    (h63 : n + m ≤ maxLen) (hbytes : (n + m) * bytes ≤ 140737488355328)
    (h : ∀ v' w', w'.ownsRow 0 e size v' (n + m) (xs ++ news) → w.grownBy w' v.ownBlock → (∀ r, v'.ownBlock = some r → v.ownBlock = some r ∨ w.heap.size ≤ r) → wpList P ops Q rest (a.put o.dst v') w') : wpList P ops Q (o :: rest) a w := by
  refine wpList_plain hgd fun K hK => ?_
  obtain ⟨v', w', hr, h2, h3, h4⟩ := app_own (P := P) w t o.type e i z size bytes ht hi hz hsize hby hzs hsz v n xs hown ad m c news hl hnews h1 h63 hbytes
  unfold Oper.wp execOp
  simp only [ho, resolve, invoke, builtin, Sem.run_bind, Sem.run_pure, Result.andThen_ok, List.map_toArray, List.map_cons, List.map_nil, hs, hx, hr]
  exact hK _ _ (h v' w' h2 h3 h4)

/-! ### letters as cells -/
def lcell (l : Lt) : List Value := [.int .i64 l.fr, .int .i64 l.to, .string l.tx]
def lcs (L : List Lt) : List Value := L.flatMap lcell
def lv (l : Lt) : Value := .agg #[.int .i64 l.fr, .int .i64 l.to, .string l.tx]
theorem lcs_len (L : List Lt) : (lcs L).length = L.length * 3 := by
  unfold lcs
  induction L with
  | nil => rfl
  | cons l r ih => rw [List.flatMap_cons, List.length_append, ih]; simp [lcell]; omega
theorem lcs_app (L M : List Lt) : lcs (L ++ M) = lcs L ++ lcs M := by unfold lcs; simp
theorem lcs_one (L : List Lt) : ∀ u ∈ lcs L, u.oneCell' = true := by
  intro u hu
  unfold lcs at hu
  rw [List.mem_flatMap] at hu
  obtain ⟨l, _, hu⟩ := hu
  simp [lcell] at hu
  rcases hu with rfl | rfl | rfl <;> rfl
theorem lcs_get : ∀ (L : List Lt) (k : Nat) (h : k < L.length), (lcs L)[k * 3]? = some (.int .i64 L[k].fr) ∧ (lcs L)[k * 3 + 1]? = some (.int .i64 L[k].to) ∧ (lcs L)[k * 3 + 2]? = some (.string L[k].tx)
  | l :: r, 0, h => by simp [lcs, lcell]
  | l :: r, k + 1, h => by
    have ih := lcs_get r k (by simpa using h)
    have e : lcs (l :: r) = .int .i64 l.fr :: .int .i64 l.to :: .string l.tx :: lcs r := rfl
    rw [e, show (k + 1) * 3 = k * 3 + 1 + 1 + 1 by omega]
    simpa using ih
theorem lcs_take : ∀ (L : List Lt) (i : Nat), (lcs L).take (i * 3) = lcs (L.take i)
  | [], i => by simp [lcs]
  | x :: L, 0 => by simp [lcs]
  | x :: L, i + 1 => by
    have ih := lcs_take L i
    have e : ∀ R, lcs (x :: R) = .int .i64 x.fr :: .int .i64 x.to :: .string x.tx :: lcs R := fun R => rfl
    rw [e, show (i + 1) * 3 = i * 3 + 1 + 1 + 1 by omega]
    simp only [List.take_succ_cons]
    rw [ih, e]
theorem lcs_drop : ∀ (L : List Lt) (i : Nat), (lcs L).drop (i * 3) = lcs (L.drop i)
  | [], i => by simp [lcs]
  | x :: L, 0 => by simp
  | x :: L, i + 1 => by
    have ih := lcs_drop L i
    have e : ∀ R, lcs (x :: R) = .int .i64 x.fr :: .int .i64 x.to :: .string x.tx :: lcs R := fun R => rfl
    rw [e, show (i + 1) * 3 = i * 3 + 1 + 1 + 1 by omega]
    simp only [List.drop_succ_cons]
    rw [ih]

/-! ### slices as data -/
abbrev Sv := Option Nat × Nat × Nat
def sV : Sv → Value
  | (none, _, _) => .slice none 0 0
  | (some g, n, c) => .slice (some ⟨g, 0, none⟩) n c
def sD : Sv → DataW Unit
  | (none, _, _) => .nil
  | (some g, n, c) => .agg [.lit (.int .i64 (g : Int)), .lit (.int .i64 (n : Int)), .lit (.int .i64 (c : Int))]
def sR : Value → Option (DataW Unit × List MemPlace)
  | .slice none 0 0 => some (.nil, [])
  | .slice (some ⟨g, 0, none⟩) n c => some (.agg [.lit (.int .i64 (g : Int)), .lit (.int .i64 (n : Int)), .lit (.int .i64 (c : Int))], [])
  | _ => none
theorem sR_mk (x : Sv) : sR (sV x) = some (sD x, []) := by
  obtain ⟨g, n, c⟩ := x
  cases g <;> rfl
theorem sR_inv {v : Value} {x : Sv} {ps : List MemPlace} (h : sR v = some (sD x, ps)) : v = sV x := by
  obtain ⟨g, n, c⟩ := x
  unfold sR at h
  split at h
  · cases g
    · rfl
    · simp [sD] at h
  · cases g
    · simp [sD] at h
    · simp only [sD, Option.some.injEq, Prod.mk.injEq, DataW.agg.injEq, List.cons.injEq, DataW.lit.injEq, Lit.int.injEq, true_and, and_true] at h
      obtain ⟨⟨h1, h2, h3⟩, _⟩ := h
      have e1 := Int.ofNat_inj.1 h1
      have e2 := Int.ofNat_inj.1 h2
      have e3 := Int.ofNat_inj.1 h3
      subst e1 e2 e3
      rfl
  · cases h
theorem sV_nil : sV (none, 0, 0) = .slice none 0 0 := rfl
theorem sV_own (x : Sv) : (sV x).ownBlock = x.1 := by obtain ⟨g, n, c⟩ := x; cases g <;> rfl
/-- What is owned is a slice as data. -/
theorem own_sV {w : World} {base e size n : Nat} {v : Value} {xs : List Value} (h : w.ownsRow base e size v n xs) : ∃ x, v = sV x := by
  rcases h.2 with ⟨rfl, _⟩ | ⟨g, cap, cur, rfl, _⟩
  · exact ⟨(none, 0, 0), rfl⟩
  · exact ⟨(some g, n, cap), rfl⟩
theorem own_len {w : World} {base e size n : Nat} {x : Sv} {xs : List Value} (h : w.ownsRow base e size (sV x) n xs) : ∃ a c, sV x = .slice a n c ∧ n ≤ c := by
  rcases h.2 with ⟨e, rfl⟩ | ⟨g, cap, cur, e, _, _, h1, _⟩
  · exact ⟨none, 0, e, Nat.le_refl _⟩
  · exact ⟨_, cap, e, h1⟩

/-! ### a bag -/
def ik (k : Int) : Lit := .int .i64 k
structure BagIn (own : Nat → Prop) (w : World) (b n c : Nat) (q : Wq) (mb : Nat) (S : Int → Sv) (D : DataW Unit) : Prop where
  head : w.heap[b]? = some (.cells #[.pointer (some ⟨b, 0, none⟩), .map (some mb)] 60 (0, 0))
  map : w.ownsMap Try.prog 3 sR mb (Maps.size D) D
  small : Maps.size D = 1 + n + c ∧ n ≤ 6 ∧ c ≤ 8
  has : ∀ k : Int, Maps.has D (ik k) = place n c k
  at_ : ∀ k : Int, place n c k = true → ∀ z, D.atKey (ik k) z = sD (S k)
  row : ∀ k : Int, place n c k = true → w.ownsRow 0 39 3 (sV (S k)) (q k).length (lcs (q k))
  apart : ∀ j k g, place n c j = true → place n c k = true → (S j).1 = some g → (S k).1 = some g → j = k
  home : Home n c q
  own_b : ¬ own b
  own_m : ¬ own mb
  own_r : ∀ k g, place n c k = true → (S k).1 = some g → ¬ own g
  own_lt : ∀ x, own x → x < w.heap.size
def BagAt (own : Nat → Prop) (w : World) (b n c : Nat) (q : Wq) : Prop := ∃ mb S D, BagIn own w b n c q mb S D
theorem heap_lt15 {w : World} {b : Nat} {o : Obj} (h : w.heap[b]? = some o) : b < w.heap.size := (Array.getElem?_eq_some_iff.1 h).1
theorem own_same15 {w w' : World} {base t size n : Nat} {v : Value} {xs : List Value} (h : w.ownsRow base t size v n xs) (hr : ∀ r, v.ownBlock = some r → w'.heap[r]? = w.heap[r]?) : w'.ownsRow base t size v n xs := by
  rcases h.2 with h2 | ⟨g, cap, cur, hv, hbg, hh, h3⟩
  · exact ⟨h.1, .inl h2⟩
  · exact ⟨h.1, .inr ⟨g, cap, cur, hv, hbg, by rw [hr g (by rw [hv]; rfl)]; exact hh, h3⟩⟩
theorem map_same15 {P : Program} {k : TypeId} {R : Value → Option (DataW Unit × List MemPlace)} {w w' : World} {b n : Nat} {D : DataW Unit} (h : w.ownsMap P k R b n D) (hb : w'.heap[b]? = w.heap[b]?) : w'.ownsMap P k R b n D := by
  obtain ⟨es, clock, h1, h2⟩ := h
  exact ⟨es, clock, hb.trans h1, h2⟩
theorem map_exact15 {P : Program} {k : TypeId} {R : Value → Option (DataW Unit × List MemPlace)} {w : World} {b n : Nat} {D : DataW Unit} (h : w.ownsMap P k R b n D) : w.ownsMap P k R b (Maps.size D) D := by
  obtain ⟨es, clock, h1, h2, h3, rfl⟩ := h
  exact ⟨es, clock, h1, h2, by simp [Maps.size, length_sorted], rfl⟩
theorem own_row_at {w : World} {base t size n : Nat} {v : Value} {xs : List Value} (h : w.ownsRow base t size v n xs) {r : Nat} (hr : v.ownBlock = some r) : base ≤ r ∧ ∃ cur, w.heap[r]? = some (.cells cur t (0, 0)) := by
  rcases h.2 with ⟨rfl, _⟩ | ⟨g, cap, cur, rfl, hb, hh, _⟩
  · cases hr
  · simp [Value.ownBlock] at hr
    subst hr
    exact ⟨hb, cur, hh⟩
section
variable {own : Nat → Prop} {w w' : World} {b n c mb : Nat} {q : Wq} {S : Int → Sv} {D : DataW Unit}
theorem BagIn.m_obj (h : BagIn own w b n c q mb S D) : ∃ es cl, w.heap[mb]? = some (.map es cl) := by obtain ⟨es, cl, h, _⟩ := h.map; exact ⟨es, cl, h⟩
theorem BagIn.r_obj (h : BagIn own w b n c q mb S D) {k : Int} {g : Nat} (hp : place n c k = true) (hg : (S k).1 = some g) : ∃ cur, w.heap[g]? = some (.cells cur 39 (0, 0)) :=
  (own_row_at (h.row k hp) (by rw [sV_own, hg])).2
theorem BagIn.bm (h : BagIn own w b n c q mb S D) : b ≠ mb := fun e => by
  obtain ⟨es, cl, hm⟩ := h.m_obj
  have := h.head
  rw [e, hm] at this; cases this
theorem BagIn.rb (h : BagIn own w b n c q mb S D) {k : Int} {g : Nat} (hp : place n c k = true) (hg : (S k).1 = some g) : g ≠ b ∧ g ≠ mb := by
  obtain ⟨cur, hc⟩ := h.r_obj hp hg
  refine ⟨fun e => ?_, fun e => ?_⟩
  · have := h.head
    rw [← e, hc] at this; simp at this
  · obtain ⟨es, cl, hm⟩ := h.m_obj
    rw [← e, hc] at hm; cases hm
theorem BagIn.same (h : BagIn own w b n c q mb S D) (hb : w'.heap[b]? = w.heap[b]?) (hm : w'.heap[mb]? = w.heap[mb]?) (hr : ∀ k g, place n c k = true → (S k).1 = some g → w'.heap[g]? = w.heap[g]?) (hs : w.heap.size ≤ w'.heap.size) : BagIn own w' b n c q mb S D :=
  ⟨hb.trans h.head, map_same15 h.map hm, h.small, h.has, h.at_, fun k hp => own_same15 (h.row k hp) fun r e => hr k r hp (by rw [← sV_own]; exact e), h.apart, h.home, h.own_b, h.own_m, h.own_r, fun x hx => Nat.lt_of_lt_of_le (h.own_lt x hx) hs⟩
theorem BagIn.below (h : BagIn own w b n c q mb S D) (hb : Below w.heap.size w w') : BagIn own w' b n c q mb S D :=
  h.same (hb.block _ (heap_lt15 h.head)) (hb.block _ h.map.lt) (fun k g hp hg => let ⟨_, e⟩ := h.r_obj hp hg; hb.block _ (heap_lt15 e)) hb.size
theorem BagIn.weaken (h : BagIn own w b n c q mb S D) {own' : Nat → Prop} (ho : ∀ x, own' x → own x) : BagIn own' w b n c q mb S D :=
  ⟨h.head, h.map, h.small, h.has, h.at_, h.row, h.apart, h.home, fun x => h.own_b (ho _ x), fun x => h.own_m (ho _ x), fun k g hp hg x => h.own_r k g hp hg (ho _ x), fun x hx => h.own_lt x (ho _ hx)⟩
/-- What a caller makes is its own. -/
theorem BagIn.fresh (h : BagIn own w b n c q mb S D) (hb : Below w.heap.size w w') : BagIn (fun x => own x ∨ (w.heap.size ≤ x ∧ x < w'.heap.size)) w' b n c q mb S D := by
  have h' := h.below hb
  refine ⟨h'.head, h'.map, h'.small, h'.has, h'.at_, h'.row, h'.apart, h'.home, ?_, ?_, ?_, ?_⟩
  · rintro (x | x)
    · exact h.own_b x
    · have := heap_lt15 h.head; omega
  · rintro (x | x)
    · exact h.own_m x
    · have := h.map.lt; omega
  · rintro k g hp hg (x | x)
    · exact h.own_r k g hp hg x
    · obtain ⟨_, e⟩ := h.r_obj hp hg
      have := heap_lt15 e; omega
  · rintro x (hx | hx)
    · exact Nat.lt_of_lt_of_le (h.own_lt x hx) hb.size
    · exact hx.2
theorem BagIn.setCell (h : BagIn own w b n c q mb S D) {x : Nat} (hx : own x) (i : Nat) (u : Value) : BagIn own (w.setCell ⟨x, i, none⟩ u) b n c q mb S D := by
  have hsz : (w.setCell ⟨x, i, none⟩ u).heap.size = w.heap.size := by simp [World.setCell]
  refine h.same ?_ ?_ ?_ (by rw [hsz]; exact Nat.le_refl _)
  · exact Below.heap_setCell _ _ _ _ (fun e => h.own_b (e ▸ hx))
  · exact Below.heap_setCell _ _ _ _ (fun e => h.own_m (e ▸ hx))
  · intro k g hp hg; exact Below.heap_setCell _ _ _ _ (fun e => h.own_r k g hp hg (e ▸ hx))
theorem BagAt.below (h : BagAt own w b n c q) (hb : Below w.heap.size w w') : BagAt own w' b n c q := let ⟨mb, S, D, h⟩ := h; ⟨mb, S, D, h.below hb⟩
theorem BagAt.fresh (h : BagAt own w b n c q) (hb : Below w.heap.size w w') : BagAt (fun x => own x ∨ (w.heap.size ≤ x ∧ x < w'.heap.size)) w' b n c q := let ⟨mb, S, D, h⟩ := h; ⟨mb, S, D, h.fresh hb⟩
theorem BagAt.weaken (h : BagAt own w b n c q) {own' : Nat → Prop} (ho : ∀ x, own' x → own x) : BagAt own' w b n c q := let ⟨mb, S, D, h⟩ := h; ⟨mb, S, D, h.weaken ho⟩
theorem BagAt.setCell (h : BagAt own w b n c q) {x : Nat} (hx : own x) (i : Nat) (u : Value) : BagAt own (w.setCell ⟨x, i, none⟩ u) b n c q := let ⟨mb, S, D, h⟩ := h; ⟨mb, S, D, h.setCell hx i u⟩
theorem BagAt.home (h : BagAt own w b n c q) : Home n c q := let ⟨_, _, _, h⟩ := h; h.home
theorem BagAt.lt (h : BagAt own w b n c q) : ∀ x, own x → x < w.heap.size := let ⟨_, _, _, h⟩ := h; h.own_lt
theorem BagAt.drew (h : BagAt own w b n c q) : BagAt own w.drew b n c q := h.below (Below.refl _ _).drew
/-- A place's row is laid anew. -/
theorem BagIn.store (h : BagIn own w b n c q mb S D) {w1 w2 w3 : World} {k : Int} {x : Sv} {L : List Lt} {N : Nat} (hp : place n c k = true) (hb1 : Below w.heap.size w w1) (hg2 : w1.grownBy w2 (S k).1)
    (hrow : w2.ownsRow 0 39 3 (sV x) L.length (lcs L)) (hx : ∀ r, x.1 = some r → (S k).1 = some r ∨ w1.heap.size ≤ r) (hm : w3.ownsMap Try.prog 3 sR mb N (D.put (ik k) (sD x))) (hg3 : w2.mapTurned w3 mb) (hto : ∀ l ∈ L, l.to = k) (hlen : L.length ≤ 1024) :
    BagAt own w3 b n c (upd q k L) ∧ Kp own w w3 := by
  have hgr := hg3.grown
  have s1 := hb1.size
  have s2 := hg2.size
  have s3 := hgr.size
  have hD : Maps.IsMap D := h.map.isMap
  have hik : ∀ j : Int, WideAt.IsKeyLit (ik j) := fun j => trivial
  have hmlt := h.map.lt
  have hblt := heap_lt15 h.head
  have keep : ∀ y, y < w.heap.size → y ≠ mb → (S k).1 ≠ some y → w3.heap[y]? = w.heap[y]? := fun y hy h1 h2 =>
    (hgr.block y (by omega) (fun e => h1 (Option.some.inj e))).trans ((hg2.block y (by omega) (fun e => h2 e.symm)).trans (hb1.block y hy))
  have hnb : (S k).1 ≠ some b := fun e => (h.rb hp e).1 rfl
  have hnm : (S k).1 ≠ some mb := fun e => (h.rb hp e).2 rfl
  have xmb : x.1 ≠ some mb := fun e => by
    obtain ⟨_, cur, hc⟩ := own_row_at hrow (by rw [sV_own]; exact e)
    obtain ⟨es, cl, hmo⟩ := h.m_obj
    rw [hg2.block mb (by omega) (fun e => hnm e.symm), hb1.block mb hmlt, hmo] at hc
    cases hc
  have bmb := h.bm
  have hne : ∀ {j k : Int}, j ≠ k → ik j ≠ ik k := fun hjk e => hjk (by injection e)
  refine ⟨⟨mb, fun j => if j = k then x else S j, D.put (ik k) (sD x), ?_⟩, ⟨?_, ?_, ?_, by omega, fun y hy => ?_⟩⟩
  · refine ⟨(keep b hblt bmb hnb).trans h.head, map_exact15 hm, ⟨?_, h.small.2⟩, fun j => ?_, fun j hj z => ?_, fun j hj => ?_, fun i j g hi hj e1 e2 => ?_, h.home.upd_ hto hp hlen, h.own_b, h.own_m, fun j g hj e => ?_, fun y hy => by have := h.own_lt y hy; omega⟩
    · rw [Maps.size_put (h.map.tidy (int_keyed Try.underlying3)), h.has, hp]
      exact h.small.1
    · by_cases e : j = k
      · subst e; rw [Maps.has_put_same hD (hik j), hp]
      · rw [Maps.has_put_other (hne e)]; exact h.has j
    · by_cases e : j = k
      · subst e; rw [Maps.atKey_put_same hD (hik j), if_pos rfl]
      · rw [Maps.atKey_put_other (hne e), if_neg e]; exact h.at_ j hj z
    · by_cases e : j = k
      · subst e
        rw [if_pos rfl, upd_same]
        exact own_same15 hrow fun r hr => hgr.block r (hrow.lt r hr).2 (fun e => xmb (by rw [← sV_own, hr, Option.some.inj e]))
      · rw [if_neg e, upd_other _ _ e]
        refine own_same15 (h.row j hj) fun r hr => ?_
        rw [sV_own] at hr
        obtain ⟨cur, hc⟩ := h.r_obj hj hr
        exact keep r (heap_lt15 hc) (h.rb hj hr).2 (fun e2 => e (h.apart j k r hj hp hr e2))
    · have old : ∀ {j : Int} {g : Nat}, place n c j = true → j ≠ k → (S j).1 = some g → x.1 = some g → False := fun {j g} hj hjk e1 e2 => by
        rcases hx g e2 with e3 | e3
        · exact hjk (h.apart j k g hj hp e1 e3)
        · obtain ⟨cur, hc⟩ := h.r_obj hj e1
          have := heap_lt15 hc; omega
      by_cases ei : i = k <;> by_cases ej : j = k
      · rw [ei, ej]
      · rw [if_pos ei] at e1; rw [if_neg ej] at e2; exact (old hj ej e2 e1).elim
      · rw [if_neg ei] at e1; rw [if_pos ej] at e2; exact (old hi ei e1 e2).elim
      · rw [if_neg ei] at e1; rw [if_neg ej] at e2; exact h.apart i j g hi hj e1 e2
    · by_cases ej : j = k
      · rw [if_pos ej] at e
        intro hg
        rcases hx g e with e3 | e3
        · exact h.own_r k g hp e3 hg
        · have := h.own_lt g hg; omega
      · rw [if_neg ej] at e; exact h.own_r j g hj e
  · exact hgr.os.trans (hg2.os.trans hb1.os)
  · exact hgr.tape.trans (hg2.tape.trans hb1.tape)
  · exact hgr.output.trans (hg2.output.trans hb1.output)
  · have hlt := h.own_lt y hy
    exact keep y hlt (fun e => h.own_m (e ▸ hy)) (fun e => h.own_r k y hp e hy)
end
/-! ### looking a place up -/
theorem keyI (k : Int) (hk : (Lit.int .i64 k).wf = true) : keyOf Try.prog 3 (.int .i64 k) = some (ik k) := keyOf_int_mk Try.underlying3 hk
theorem zeroLs (w : World) : (zeroValue 28).run Try.prog w = .ok (.slice none 0 0) w := by kernel_rfl
theorem BagIn.look {own : Nat → Prop} {w : World} {b n c mb : Nat} {q : Wq} {S : Int → Sv} {D : DataW Unit} (h : BagIn own w b n c q mb S D) (k : Int) (hk : (Lit.int .i64 k).wf = true) (hp : place n c k = true) :
    (Instr.lookup 58 (.map (some mb)) (.int .i64 k) false).run Try.prog w = .ok (sV (S k)) w := by
  obtain ⟨v, ps, hr, hv⟩ := h.map.lookup (int_keyed Try.underlying3) Try.underlying58 (zeroLs w) (zd := .nil) (zp := []) rfl (keyI k hk)
  rw [h.at_ k hp] at hv
  rw [hr, sR_inv hv]
theorem BagIn.look_ok {own : Nat → Prop} {w : World} {b n c mb : Nat} {q : Wq} {S : Int → Sv} {D : DataW Unit} (h : BagIn own w b n c q mb S D) (k : Int) (hk : (Lit.int .i64 k).wf = true) :
    ∃ v, (Instr.lookup 58 (.map (some mb)) (.int .i64 k) true).run Try.prog w = .ok (.tuple #[v, .bool (place n c k)]) w ∧ ∃ x, v = sV x := by
  obtain ⟨v, ps, hr, hv⟩ := h.map.look_ok (int_keyed Try.underlying3) Try.underlying58 (zeroLs w) (zd := .nil) (zp := []) rfl (keyI k hk)
  rw [show Maps.has D (ik k) = place n c k from h.has k] at hr
  refine ⟨v, hr, ?_⟩
  by_cases hp : place n c k = true
  · rw [h.at_ k hp] at hv; exact ⟨_, sR_inv hv⟩
  · have hh : Maps.has D (ik k) = false := by rw [h.has]; simpa using hp
    rw [Maps.atKey_of_not_has hh] at hv
    exact ⟨(none, 0, 0), sR_inv (x := (none, 0, 0)) hv⟩
end Go.Proofs.Ytkljokmhfoannaa
