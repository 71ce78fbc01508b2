/-
  Texts of mine as one, in the order in which they build: Md, Mg, Mh, Mi, Mo. Conditions: as each says.
-/
import Derived.Test.YtdpinkipcaolhaaQK
import Derived.DeepKeys4
import Derived.Maps.OwnIn
import Derived.Maps.Range
import Derived.Maps.RangeWalk
import Derived.Sort.MapsRangeIn
import Derived.RangeFuncMany
import Derived.Shelf.AbstractIn
namespace Go.Proofs.Ytdpinkipcaolhaa
open Go.RowKit Go.Shelf Go.Maps
set_option linter.unusedVariables false
set_option linter.unusedSimpArgs false
attribute [local go_sem] Oper.semAt_some

theorem laidOut11 : laidOutB Try.prog = true := by kernel_rfl
theorem rowPl : (72 : TypeId) < Try.prog.types.size := of_decide_eq_true (by kernel_rfl)
theorem widePl : (match Try.prog.underlying 72 with | some (.array _ _) | some (.struct _) => true | _ => false) = true := by rw [Try.underlying72]
set_option maxRecDepth 100000 in
theorem lawPl : WideMaps.KeyLaw Try.prog 72 := deep_law_laid laidOut11 (m := 2) (by omega) rowPl (by kernel_rfl) widePl
theorem keyedPl : Keyed Try.prog 72 := Keyed.of_law lawPl
theorem keyTypePl : Try.prog.keyType 72 = true := by kernel_rfl
def klit (k : ByteArray) (q : Int) : Lit := .string (keyBytes [.string k.data.toList, .int .i64 q])
def okQ (q : Int) : Prop := (Lit.int .i64 q).wf = true
theorem key_place (k : ByteArray) (q : Int) (hk : k.size ≤ maxLen) (hq : okQ q) : keyOf Try.prog 72 (.agg #[.string k, .int .i64 q]) = some (klit k q) := by
  have hc : Try.prog.cellsOf 72 = 2 := by kernel_rfl
  have h1 : Try.prog.cellsOf 9 = 1 := by kernel_rfl
  have h2 : Try.prog.cellsOf 3 = 1 := by kernel_rfl
  obtain ⟨m, hm⟩ : ∃ m : Nat, Try.prog.types.size = m + 1 := ⟨Try.prog.types.size - 1, by have : 0 < Try.prog.types.size := of_decide_eq_true (by kernel_rfl); omega⟩
  unfold keyOf
  rw [Try.underlying72]
  simp only [keyTypePl, Bool.true_and]
  have hf : (Value.agg #[.string k, .int .i64 q]).formed Try.prog 72 = true := by simp [Value.formed, Try.underlying72, hc]
  rw [if_pos hf, hm]
  have e : Try.prog.keyLits (m + 1 + 1) 72 [.string k, .int .i64 q] = some [.string k.data.toList, .int .i64 q] := by
    unfold Program.keyLits
    rw [Try.underlying72]
    simp [hc, h1, h2, Program.keyLits, Try.underlying9, Try.underlying3, hk]
    rw [if_pos (show (Lit.int .i64 q).wf = true from hq)]
    rfl
  have hcl : (Value.agg #[.string k, .int .i64 q]).cells.toList = [.string k, .int .i64 q] := by simp [Value.cells]
  rw [hcl, e]
  rfl
set_option maxRecDepth 100000 in
theorem key_inv {v : Value} {kl : Lit} (h : keyOf Try.prog 72 v = some kl) : ∃ k q, v = .agg #[.string k, .int .i64 q] ∧ k.size ≤ maxLen ∧ okQ q ∧ kl = klit k q := by
  have hc : Try.prog.cellsOf 72 = 2 := by kernel_rfl
  have h1 : Try.prog.cellsOf 9 = 1 := by kernel_rfl
  have h2 : Try.prog.cellsOf 3 = 1 := by kernel_rfl
  obtain ⟨m, hm⟩ : ∃ m : Nat, Try.prog.types.size = m + 1 := ⟨Try.prog.types.size - 1, by have : 0 < Try.prog.types.size := of_decide_eq_true (by kernel_rfl); omega⟩
  unfold keyOf at h
  rw [Try.underlying72] at h
  simp only [keyTypePl, Bool.true_and] at h
  split at h
  · rename_i hf
    obtain ⟨cs, rfl, hcs⟩ : ∃ cs, v = .agg cs ∧ cs.size = 2 := by
      cases v <;> simp [Value.formed, Try.underlying72, hc] at hf
      exact ⟨_, rfl, hf⟩
    obtain ⟨a, b, rfl⟩ : ∃ a b, cs = #[a, b] := by
      match cs, hcs with
      | ⟨[a, b]⟩, _ => exact ⟨a, b, rfl⟩
    have hcl : (Value.agg #[a, b]).cells.toList = [a, b] := by simp [Value.cells]
    rw [hcl, hm] at h
    unfold Program.keyLits at h
    rw [Try.underlying72] at h
    cases a <;> cases b <;> simp [hc, h1, h2, Program.keyLits, Try.underlying9, Try.underlying3] at h
    rename_i s k n
    by_cases h3 : s.size ≤ maxLen
    · rw [if_pos h3] at h
      by_cases h4 : k = IntKind.i64 ∧ (Lit.int IntKind.i64 n).wf = true
      · rw [if_pos h4] at h
        obtain ⟨rfl, h5⟩ := h4
        simp at h
        exact ⟨s, n, rfl, h3, h5, h.symm⟩
      · rw [if_neg h4] at h
        simp at h
    · rw [if_neg h3] at h
      simp at h
  · cases h
def okP (e : Ent) : Prop := e.1.size ≤ maxLen ∧ okQ e.2.2.2
theorem klit_inj {k k' : ByteArray} {q q' : Int} (h1 : k.size ≤ maxLen) (h2 : okQ q) (h3 : k'.size ≤ maxLen) (h4 : okQ q') (h : klit k q = klit k' q') : k = k' ∧ q = q' := by
  have e := keyedPl.inj (key_place k q h1 h2) (by rw [h]; exact key_place k' q' h3 h4)
  simpa using e
theorem klit_key {k : ByteArray} {q : Int} (h1 : k.size ≤ maxLen) (h2 : okQ q) : WideAt.IsKeyLit (klit k q) := keyedPl.key (key_place k q h1 h2)
def dE (e : Ent) : DataW Unit := .agg [.lit (.string e.1.data.toList), .lit (.string e.2.1.data.toList), .lit (.bool e.2.2.1), .lit (.int .i64 e.2.2.2)]
def fL : List Value → Option (DataW Unit × List MemPlace)
  | [.string k, .string v, .bool g, .int .i64 q] => some (dE (k, v, g, q), [])
  | _ => none
def fE : Value → Option (DataW Unit × List MemPlace)
  | .agg cs => fL cs.toList
  | _ => none
theorem fE_mk (e : Ent) : fE (evA e) = some (dE e, []) := rfl
theorem fL_inv {l : List Value} {y : DataW Unit × List MemPlace} (h : fL l = some y) : ∃ e : Ent, l = ev e ∧ y = (dE e, []) := by
  unfold fL at h
  split at h
  · cases h
    exact ⟨(_, _, _, _), rfl, rfl⟩
  · cases h
theorem fE_inv {v : Value} {y : DataW Unit × List MemPlace} (h : fE v = some y) : ∃ e : Ent, v = evA e ∧ y = (dE e, []) := by
  cases v <;> simp only [fE] at h
  all_goals first | cases h | skip
  rename_i cs
  obtain ⟨e, h1, h2⟩ := fL_inv h
  refine ⟨e, ?_, h2⟩
  obtain ⟨k, v, g, q⟩ := e
  have : cs = #[.string k, .string v, .bool g, .int .i64 q] := by
    apply Array.toList_inj.1
    rw [h1]
    rfl
  rw [this]
structure Pk where
  k : ByteArray
  q : Int
structure Eb where
  e : Ent
theorem dE_inj {a b : Ent} (h : dE a = dE b) : a = b := by
  obtain ⟨k, v, g, q⟩ := a
  obtain ⟨k', v', g', q'⟩ := b
  simp only [dE, DataW.agg.injEq, List.cons.injEq, DataW.lit.injEq, Lit.string.injEq, Lit.bool.injEq, Lit.int.injEq, true_and, and_true] at h
  obtain ⟨h1, h2, h3, h4⟩ := h
  have e1 : k = k' := ByteArray.ext (Array.toList_inj.1 h1)
  have e2 : v = v' := ByteArray.ext (Array.toList_inj.1 h2)
  rw [e1, e2, h3, h4]
/-- The datum of a map into which entries were put one by one. -/
structure PutD (D : DataW Unit) (L : List Ent) : Prop where
  has : ∀ k q, k.size ≤ maxLen → okQ q → Maps.has D (klit k q) = L.reverse.any (atM k q)
  at_ : ∀ k q e, k.size ≤ maxLen → okQ q → L.reverse.find? (atM k q) = some e → ∀ z, D.atKey (klit k q) z = dE e
theorem PutD.new : PutD (.map []) [] := ⟨fun k q _ _ => rfl, fun k q e _ _ h => by simp at h⟩
theorem PutD.put {D : DataW Unit} {L : List Ent} (h : PutD D L) (hm : Maps.IsMap D) {e : Ent} (he : okP e) : PutD (D.put (klit e.1 e.2.2.2) (dE e)) (L ++ [e]) := by
  have hrev : (L ++ [e]).reverse = e :: L.reverse := by simp
  refine ⟨fun k q hk hq => ?_, fun k q x hk hq hx z => ?_⟩
  · rw [hrev, List.any_cons]
    by_cases hc : atM k q e = true
    · obtain ⟨rfl, rfl⟩ := atM_iff.1 hc
      rw [Maps.has_put_same hm (klit_key hk hq), hc]
      rfl
    · have hne : klit k q ≠ klit e.1 e.2.2.2 := fun h2 => by
        obtain ⟨h3, h4⟩ := klit_inj hk hq he.1 he.2 h2
        exact hc (atM_iff.2 ⟨h3.symm, h4.symm⟩)
      rw [Maps.has_put_other hne, h.has k q hk hq]
      simp [hc]
  · rw [hrev] at hx
    by_cases hc : atM k q e = true
    · rw [List.find?_cons_of_pos hc] at hx
      cases hx
      obtain ⟨rfl, rfl⟩ := atM_iff.1 hc
      exact Maps.atKey_put_same hm (klit_key hk hq) _ _
    · rw [List.find?_cons_of_neg hc] at hx
      have hne : klit k q ≠ klit e.1 e.2.2.2 := fun h2 => by
        obtain ⟨h3, h4⟩ := klit_inj hk hq he.1 he.2 h2
        exact hc (atM_iff.2 ⟨h3.symm, h4.symm⟩)
      rw [Maps.atKey_put_other hne]
      exact h.at_ k q x hk hq hx z
/-- Values that have come: each is the one that was put last at its place; none twice. -/
structure Coll (L : List Ent) (left : Lit → Bool) (vs : List Ent) : Prop where
  mem : ∀ e ∈ vs, L.reverse.find? (atM e.1 e.2.2.2) = some e ∧ left (klit e.1 e.2.2.2) = false
  all : ∀ e, L.reverse.find? (atM e.1 e.2.2.2) = some e → left (klit e.1 e.2.2.2) = false → e ∈ vs
  apart : vs.Pairwise fun a b => ¬ (a.1 = b.1 ∧ a.2.2.2 = b.2.2.2)
theorem find_mem {L : List Ent} {k : ByteArray} {q : Int} {e : Ent} (h : L.reverse.find? (atM k q) = some e) : e ∈ L ∧ e.1 = k ∧ e.2.2.2 = q := by
  have h1 := List.mem_of_find?_eq_some h
  have h2 := List.find?_some h
  exact ⟨by simpa using h1, atM_iff.1 h2⟩
theorem Coll.start {D : DataW Unit} {L : List Ent} (h : PutD D L) (hok : ∀ e ∈ L, okP e) : Coll L (Maps.has D) [] := by
  refine ⟨fun e he => by simp at he, fun e he hl => ?_, List.Pairwise.nil⟩
  exfalso
  obtain ⟨hm, -, -⟩ := find_mem he
  have hp := hok e hm
  rw [h.has _ _ hp.1 hp.2] at hl
  have : L.reverse.any (atM e.1 e.2.2.2) = true := List.any_eq_true.2 ⟨e, by simpa using hm, atM_iff.2 ⟨rfl, rfl⟩⟩
  rw [this] at hl
  cases hl
theorem Coll.step {D : DataW Unit} {L : List Ent} {left : Lit → Bool} {vs : List Ent} (hc : Coll L left vs) (h : PutD D L) (hok : ∀ e ∈ L, okP e) {k : ByteArray} {q : Int} (hk : k.size ≤ maxLen) (hq : okQ q) {c : Ent} (hl : left (klit k q) = true) (hat : ∀ z, D.atKey (klit k q) z = dE c) :
    Coll L (fun z => left z && !z.sameKey (klit k q)) (vs ++ [c]) := by
  have hhas : Maps.has D (klit k q) = true := Maps.has_true_of_atKey hat
  rw [h.has k q hk hq] at hhas
  obtain ⟨e0, he0⟩ : ∃ e0, L.reverse.find? (atM k q) = some e0 := by
    cases hf : L.reverse.find? (atM k q) with
    | some e0 => exact ⟨e0, rfl⟩
    | none =>
      obtain ⟨x, hx1, hx2⟩ := List.any_eq_true.1 hhas
      have := List.find?_eq_none.1 hf x hx1
      exact absurd hx2 this
  obtain rfl : e0 = c := dE_inj (by rw [← h.at_ k q e0 hk hq he0 .nil, hat .nil])
  obtain ⟨hm0, rfl, rfl⟩ := find_mem he0
  refine ⟨fun x hx => ?_, fun x hx hlx => ?_, ?_⟩
  · rcases List.mem_append.1 hx with hx | hx
    · obtain ⟨h1, h2⟩ := hc.mem x hx
      exact ⟨h1, by simp [h2]⟩
    · simp at hx
      subst hx
      exact ⟨he0, by simp [WideAt.sameKey_self (klit_key hk hq)]⟩
  · by_cases h2 : left (klit x.1 x.2.2.2) = false
    · exact List.mem_append.2 (.inl (hc.all x hx h2))
    · have h3 : (klit x.1 x.2.2.2).sameKey (klit e0.1 e0.2.2.2) = true := by
        cases h4 : (klit x.1 x.2.2.2).sameKey (klit e0.1 e0.2.2.2) with
        | true => rfl
        | false =>
          have h5 : left (klit x.1 x.2.2.2) = true := by
            cases h6 : left (klit x.1 x.2.2.2) with
            | true => rfl
            | false => exact absurd h6 h2
          simp [h5, h4] at hlx
      have hp := hok x (find_mem hx).1
      obtain ⟨e1, e2⟩ := klit_inj hp.1 hp.2 hk hq (WideAt.sameKey_eq h3)
      rw [e1, e2, he0] at hx
      cases hx
      simp
  · rw [List.pairwise_append]
    refine ⟨hc.apart, List.pairwise_singleton _ _, fun x hx y hy => ?_⟩
    simp at hy
    subst hy
    rintro ⟨e1, e2⟩
    have := (hc.mem x hx).2
    rw [e1, e2, hl] at this
    cases this
/-- All values have come. -/
def AllV (L vs : List Ent) : Prop := (∀ e, e ∈ vs ↔ L.reverse.find? (atM e.1 e.2.2.2) = some e) ∧ vs.Pairwise fun a b => ¬ (a.1 = b.1 ∧ a.2.2.2 = b.2.2.2)
theorem Coll.over {L : List Ent} {left : Lit → Bool} {vs : List Ent} (hc : Coll L left vs) (hl : ∀ kl, left kl = false) : AllV L vs :=
  ⟨fun e => ⟨fun h => (hc.mem e h).1, fun h => hc.all e h (hl _)⟩, hc.apart⟩
abbrev fnV : FuncId := 58
set_option maxRecDepth 100000 in
set_option maxHeartbeats 2000000 in
theorem mvals_in (n l Bm b nn : Nat) (D0 : DataW Unit) (L : List Ent) (hD : PutD D0 L) (hok : ∀ e ∈ L, okP e) (J Jx : List Ent → World → Prop)
    (hY : ∀ pre x W, J pre W → pre.length < Maps.size D0 → YieldAt Fence.wide (n - 1) Try.prog l #[evA x] W fun e W' =>
      (e = .returned (.bool true) ∧ J (pre ++ [x]) W' ∧ KeepsWalks W W') ∨ (e = .returned (.bool false) ∧ Jx (pre ++ [x]) W'))
    (W : World) (hJ : AbidesFrom W.heap.size J) (hm : W.cell? ⟨Bm, 0, none⟩ = some (.map (some b))) (hown : W.ownsMap Try.prog 72 fE b nn D0) (h0 : J [] W) :
    CallsIn Fence.wide n Try.prog fnV #[.func (.yield l) #[] #[], .pointer (some ⟨Bm, 0, none⟩)] W fun e W' => (∃ v, e = .returned v) ∧
      ((∃ xs, AllV L xs ∧ J xs W') ∨ (∃ pre, True ∧ Jx pre W')) := by
  have HD := Lib.hid hD
  have HOK := Lib.hid hok
  have HY := Lib.hid hY
  clear hD hok hY
  refine callsIn_of_wp Try.func58 rfl trivial ?_ rfl
  simp only [Try.ntmps58, List.size_toArray, List.length_cons, List.length_nil, Nat.reduceAdd, Nat.reduceSub, Array.replicate_succ, Array.replicate_zero, List.push_toArray, List.append_toArray, List.nil_append, List.cons_append]
  gi_wp2_with (first
    | (gi_at_range; refine wpListIn_range_own _ rfl _ 67 rfl 72 37 keyedPl Try.underlying67 _ b nn _ rfl hown ?_; intro w0 hrg0 hg0 hs0)
    | gi_in)
  go_frame
  gi_loopw [4] (fun _ wr => ∃ (left : Lit → Bool) (cnt : Nat) (vs : List Ent), wr.ranges Try.prog 72 fE b W.heap.size nn D0 left cnt ∧ vs.length + cnt ≤ Maps.size D0 ∧ Coll L left vs ∧ J vs wr)
    (fun _ wr => wr.rangeLeft b W.heap.size)
  case atStart =>
    exact ⟨_, _, [], hrg0, by simp, Coll.start HD.out HOK.out, hJ [] W w0 none h0 hg0 (fun r e => by cases e)⟩
  case round =>
    obtain ⟨left, cnt, vs, hrg, hcs, hC, hJs⟩ := hrel
    have HC := Lib.hid hC
    clear hC
    gi_wp2_with (first
      | (gi_at_next; refine wpListIn_next_ranges _ rfl _ rfl 72 keyedPl fE (fun x : Pk => .agg #[.string x.k, .int .i64 x.q]) (fun c : Eb => evA c.e) (fun key kl hk => by obtain ⟨k, q, hx, _⟩ := key_inv hk; exact ⟨⟨k, q⟩, hx⟩) (fun v y hv => by obtain ⟨e, rfl, _⟩ := fE_inv hv; exact ⟨⟨e⟩, rfl⟩) b W.heap.size nn _ _ _ rfl hrg ?_ ?_)
      | gi_in)
    · intro hc0 hl0
      gi_wp2
      go_end0
      exact ⟨⟨_, rfl⟩, .inl ⟨vs, HC.out.over hl0, hJs⟩⟩
    · intro x c kl yd yp w2 cnt2 hkey hlk hv hat hrg2 hlt hg2 hs2 hen
      obtain ⟨k, q⟩ := x
      obtain ⟨c⟩ := c
      obtain ⟨k', q', hx, hk1, hq1, rfl⟩ := key_inv hkey
      obtain ⟨rfl, rfl⟩ : k = k' ∧ q = q' := by simpa using hx
      obtain ⟨c', hc', hy'⟩ := fE_inv hv
      have hcc : c = c' := by
        obtain ⟨a1, a2, a3, a4⟩ := c
        obtain ⟨b1, b2, b3, b4⟩ := c'
        simpa using hc'
      subst hcc
      obtain rfl : yd = dE c := (Prod.mk.inj hy').1
      have hJ2 : J vs w2 := hJ _ wr w2 (some W.heap.size) hJs hg2 (fun r e => by cases e; exact ⟨Nat.le_refl _, hrg.iter_walk⟩)
      obtain ⟨c1, c2, c3, c4⟩ := c
      have hJ3 : J vs (w2.alloc (.cells #[.string c1, .string c2, .bool c3, .int .i64 c4] 37)) := abides_below11 hJ hJ2 ((Below.refl w2.heap.size w2).alloc (Nat.le_refl _) _)
      obtain ⟨fn, tmps, assign, body, hy, hR⟩ := HY.out vs (c1, c2, c3, c4) _ hJ3 (by omega)
      have HS2 := Lib.hid hs2
      have HC2 := Lib.hid (HC.out.step HD.out HOK.out hk1 hq1 hlk hat)
      clear hs2 hJ2 hJs hv hy' hc' hx hkey hat
      gi_wp2
      refine ⟨fun h => absurd h (by decide), hR.mono ?_⟩
      rintro e W3 (⟨rfl, hJ4, hk3⟩ | ⟨rfl, hJx3⟩)
      · have hrg3 := hrg2.of_walks ((KeepsOthers.alloc w2 _).walks.trans hk3)
        gi_wp2
        go_roundw
        case rel => exact ⟨_, cnt2, vs ++ [(c1, c2, c3, c4)], hrg3, by simp; omega, HC2.out, hJ4⟩
        case measure => rw [hrg3.left_eq, hrg.left_eq]; exact hlt
      · gi_wp2
        refine bodyPost_ret (results_none rfl _ _ _) rfl ?_
        exact ⟨⟨_, rfl⟩, .inr ⟨_, trivial, hJx3⟩⟩
theorem mvals_stops (n Bm b nn N : Nat) (D0 : DataW Unit) (L : List Ent) (hD : PutD D0 L) (hok : ∀ e ∈ L, okP e) (w : World) (hBm : Bm < w.heap.size) (hm : w.cell? ⟨Bm, 0, none⟩ = some (.map (some b))) (hown : w.ownsMap Try.prog 72 fE b nn D0) (hN : Maps.size D0 ≤ N) :
    SeqStopsK Fence.wide n Try.prog fnV #[.pointer (some ⟨Bm, 0, none⟩)] (fun x : Ent => #[evA x]) KeepsWalks (AllV L) (fun _ => True) N w := by
  intro l J Jx W hW hJ _ hY h0
  have hown' : W.ownsMap Try.prog 72 fE b nn D0 := by
    have hbl := hown.lt
    obtain ⟨es, clock, hb, Ft, hs, hD⟩ := hown
    exact ⟨es, clock, (hW.block b hbl).trans hb, Ft, hs, hD⟩
  exact mvals_in n l Bm b nn D0 L hD hok J Jx (fun pre x W1 h1 h2 => hY pre x W1 h1 (by omega)) W hJ ((hW.cell (p := ⟨Bm, 0, none⟩) hBm).trans hm) hown' h0
theorem mvals_any (b : Nat) (w : World) :
    Calls Try.prog 45 #[.map (some b)] w fun e w' => e = .returned (.func (.func fnV) #[] #[.pointer (some ⟨w.heap.size, 0, none⟩)]) ∧ w' = w.alloc (.cells #[.map (some b)] 67) := by
  go_enter Try.func45, Try.ntmps45
  go_wp2
  go_ret
  exact ⟨rfl, rfl⟩
end Go.Proofs.Ytdpinkipcaolhaa
namespace Go.Proofs.Ytdpinkipcaolhaa
open Go.RowKit Go.Shelf
open Go.Sort hiding Below
set_option linter.unusedVariables false
set_option linter.unusedSimpArgs false
attribute [local go_sem] Oper.semAt_some

/-- New blocks, and draws. -/
def Gr (w w' : World) : Prop := ∃ q os', w' = grow (w.drewN q) os'
theorem Gr.alloc2 (w : World) (a b : Obj) : Gr w ((w.alloc a).alloc b) := ⟨0, _, by rw [alloc_eq_grow, alloc_eq_grow, grow_grow]; rfl⟩
theorem Gr.trans {a b c : World} (h : Gr a b) (k : Gr b c) : Gr a c := by
  obtain ⟨q, os, rfl⟩ := h
  obtain ⟨q', os', rfl⟩ := k
  refine ⟨q + q', os ++ os', ?_⟩
  rw [← grow_grow]
  have : (grow (a.drewN q) os).drewN q' = grow (a.drewN (q + q')) os := by
    unfold grow World.drewN
    simp [Nat.add_assoc]
  rw [this]
theorem Gr.below {w w' : World} (h : Gr w w') : Below w.heap.size w w' := by
  obtain ⟨q, os, rfl⟩ := h
  exact ⟨rfl, rfl, rfl, by simp, fun k hk => heap_grow_old _ _ hk⟩
set_option maxHeartbeats 1000000 in
theorem less_gr (k1 v1 : ByteArray) (g1 : Bool) (q1 : Int) (k2 v2 : ByteArray) (g2 : Bool) (q2 : Int) (b : Bool) (h : lessE (k1, v1, g1, q1) (k2, v2, g2, q2) = b) (w : World) :
    Calls Try.prog 59 #[.agg #[.string k1, .string v1, .bool g1, .int .i64 q1], .agg #[.string k2, .string v2, .bool g2, .int .i64 q2]] w fun x w' => x = .returned (.bool b) ∧ Gr w w' := by
  by_cases hk : k1 = k2
  · subst hk
    rw [less_same (a := (k1, v1, g1, q1)) (b := (k1, v2, g2, q2)) rfl] at h
    simp only at h
    by_cases hq : q2 < q1
    · obtain rfl : b = true := by rw [← h]; simpa using hq
      clear h
      go_enter Try.func59, Try.ntmps59
      go_wp2
      go_ret
      exact ⟨rfl, Gr.alloc2 _ _ _⟩
    · obtain rfl : b = false := by rw [← h]; simpa using hq
      clear h
      go_enter Try.func59, Try.ntmps59
      go_wp2
      go_ret
      exact ⟨rfl, Gr.alloc2 _ _ _⟩
  · rw [less_key hk] at h
    have hn := str_ne hk
    have hb : Op.bytesLess k1.toList k2.toList = b := h
    clear h hk
    go_enter Try.func59, Try.ntmps59
    go_wp2
    go_ret
    exact ⟨by first | rfl | rw [hb], Gr.alloc2 _ _ _⟩
set_option maxHeartbeats 1000000 in
theorem order_gr (a b : Ent) (w : World) :
    Calls Try.prog 46 #[evA a, evA b] w fun e w' => e = .returned (.int .i64 (ordE a b)) ∧ Gr w w' := by
  obtain ⟨k1, v1, g1, q1⟩ := a
  obtain ⟨k2, v2, g2, q2⟩ := b
  obtain ⟨r, hr⟩ : ∃ r, ordE (k1, v1, g1, q1) (k2, v2, g2, q2) = r := ⟨_, rfl⟩
  obtain ⟨l1, hl1⟩ : ∃ l, lessE (k1, v1, g1, q1) (k2, v2, g2, q2) = l := ⟨_, rfl⟩
  obtain ⟨l2, hl2⟩ : ∃ l, lessE (k2, v2, g2, q2) (k1, v1, g1, q1) = l := ⟨_, rfl⟩
  have HR : Hid (r = if l1 = true then -1 else if l2 = true then 1 else 0) := Lib.hid (by rw [← hr]; unfold ordE; rw [hl1, hl2])
  have C1 := Lib.hid (less_gr k1 v1 g1 q1 k2 v2 g2 q2 l1 hl1)
  have C2 := Lib.hid (less_gr k2 v2 g2 q2 k1 v1 g1 q1 l2 hl2)
  rw [hr]
  clear hr hl1 hl2
  go_enter Try.func46, Try.ntmps46
  go_wp2_with fail
  have bx : EBox ((w.alloc (.cells #[.string k1, .string v1, .bool g1, .int .i64 q1] 37)).alloc (.cells #[.string k2, .string v2, .bool g2, .int .i64 q2] 37)) w.heap.size k1 v1 g1 q1 := (EBox.new w _ k1 v1 g1 q1).alloc _
  have by2 := EBox.new2 w (.cells #[.string k1, .string v1, .bool g1, .int .i64 q1] 37) 37 k2 v2 g2 q2
  have b0 := Gr.alloc2 w (.cells #[.string k1, .string v1, .bool g1, .int .i64 q1] 37) (.cells #[.string k2, .string v2, .bool g2, .int .i64 q2] 37)
  generalize (w.alloc (.cells #[.string k1, .string v1, .bool g1, .int .i64 q1] 37)).alloc (.cells #[.string k2, .string v2, .bool g2, .int .i64 q2] 37) = W at *
  refine (C1.out _).mono ?_
  rintro e w1 ⟨rfl, b1⟩
  obtain ⟨x0, x1, x2, x3, hx⟩ := bx.below b1.below
  obtain ⟨y0, y1, y2, y3, hy⟩ := by2.below b1.below
  have HB1 := Lib.hid (b0.trans b1)
  clear b1 b0
  cases l1 with
  | true =>
    obtain rfl := HR.out
    go_wp2_with fail
    go_ret
    exact ⟨rfl, HB1.out⟩
  | false =>
    go_wp2_with fail
    refine (C2.out _).mono ?_
    rintro e w2 ⟨rfl, b2⟩
    have HB2 := Lib.hid (HB1.out.trans b2)
    clear b2
    cases l2 with
    | true =>
      obtain rfl := HR.out
      go_wp2_with fail
      go_ret
      exact ⟨rfl, HB2.out⟩
    | false =>
      obtain rfl := HR.out
      go_wp2_with fail
      go_ret
      exact ⟨rfl, HB2.out⟩
theorem ltOf_ord (x y : Ent) : ltOf ordE x y = lessE x y := by
  unfold ltOf ordE
  cases h1 : lessE x y with
  | true => simp
  | false => cases h2 : lessE y x <;> simp
theorem lessE_trans2 {a b c : Ent} (h : lessE a b = false) (k : lessE b c = false) : lessE a c = false := by
  cases h1 : lessE a c with
  | false => rfl
  | true =>
    exfalso
    cases h2 : lessE b a with
    | true => have := lessE_trans h2 h1; rw [k] at this; cases this
    | false =>
      obtain ⟨e1, e2⟩ := lessE_total h h2
      have := lessE_like (c := c) e1 e2
      rw [h1, k] at this
      cases this
theorem swo_ord : Go.Sort.SWO (ltOf ordE) where
  irrefl x := by rw [ltOf_ord]; exact lessE_irr x
  trans x y z h1 h2 := by rw [ltOf_ord] at *; exact lessE_trans h1 h2
  ntrans x y z h1 h2 := by rw [ltOf_ord] at *; exact lessE_trans2 h1 h2
theorem holdsK_of {w : World} {blk : Nat} {vs : List Ent} {cur : Array Value} (hb : w.heap[blk]? = some (.cells cur 37 (0, 0))) (hc : EAt w blk 0 vs) : HoldsK ev 4 w blk 0 vs.toArray := by
  intro j hj
  rw [size_flatK] at hj
  refine ⟨?_, by simp [World.frozen?, hb]⟩
  rw [get_flatK ev 4 _ j hj]
  have hi : j / 4 < vs.length := by simp at hj; omega
  obtain ⟨c0, c1, c2, c3⟩ := hc (j / 4) hi
  have he : vs.toArray[j / 4]! = vs[j / 4] := by rw [getElem!_pos _ _ (by simpa using hi)]; simp
  rw [he]
  have h4 : j % 4 = 0 ∨ j % 4 = 1 ∨ j % 4 = 2 ∨ j % 4 = 3 := by omega
  rcases h4 with h | h | h | h <;> rw [h]
  · have : 0 + j = 0 + j / 4 * 4 := by omega
    rw [this, c0]; rfl
  · have : 0 + j = 0 + j / 4 * 4 + 1 := by omega
    rw [this, c1]; rfl
  · have : 0 + j = 0 + j / 4 * 4 + 2 := by omega
    rw [this, c2]; rfl
  · have : 0 + j = 0 + j / 4 * 4 + 3 := by omega
    rw [this, c3]; rfl
theorem eat_of {w : World} {blk : Nat} {d : Array Ent} (h : HoldsK ev 4 w blk 0 d) : EAt w blk 0 d.toList := by
  intro i hi
  have hi' : i < d.size := by simpa using hi
  have he : d[i]! = d.toList[i] := by rw [getElem!_pos d i hi']; simp
  have c0 := (h.cell hi' (show 0 < 4 by decide)).1
  have c1 := (h.cell hi' (show 1 < 4 by decide)).1
  have c2 := (h.cell hi' (show 2 < 4 by decide)).1
  have c3 := (h.cell hi' (show 3 < 4 by decide)).1
  rw [he] at c0 c1 c2 c3
  exact ⟨c0, c1, c2, c3⟩
theorem grown_sortK {w : World} {g n : Nat} {os : Array Obj} (d : Array Ent) : w.grownBy (sortWorldK ev 4 w g 0 n d os) (some g) := by
  refine ⟨rfl, rfl, rfl, by simp [sortWorldK, putRowK], fun k hk hne => ?_⟩
  unfold sortWorldK
  rw [heap_grow_old _ _ (by simpa [putRowK] using hk)]
  have : g ≠ k := fun e => hne (by rw [e])
  simp [putRowK, putRow, mapBlock, Sort.ahead, Array.getElem?_modify, this]
/-- A box of an entry. -/
def EBk (W : World) (B : Nat) (e : Ent) : Prop := W.heap[B]? = some (.cells #[.string e.1, .string e.2.1, .bool e.2.2.1, .int .i64 e.2.2.2] 37 (0, 0))
theorem EBk.new (W : World) (e : Ent) : EBk (W.alloc (.cells #[.string e.1, .string e.2.1, .bool e.2.2.1, .int .i64 e.2.2.2] 37)) W.heap.size e := World.alloc_heap_new W _
theorem EBk.lt {W : World} {B : Nat} {e : Ent} (h : EBk W B e) : B < W.heap.size := (Array.getElem?_eq_some_iff.1 h).1
theorem EBk.cells {W : World} {B : Nat} {e : Ent} (h : EBk W B e) : W.cell? ⟨B, 0, none⟩ = some (.string e.1) ∧ W.cell? ⟨B, 1, none⟩ = some (.string e.2.1) ∧ W.cell? ⟨B, 2, none⟩ = some (.bool e.2.2.1) ∧ W.cell? ⟨B, 3, none⟩ = some (.int .i64 e.2.2.2) := by
  have h' : W.heap[B]? = _ := h
  refine ⟨?_, ?_, ?_, ?_⟩ <;> simp [World.cell?, h']
theorem ebk_own (n : Nat) (e : Ent) (f : Nat → Act) (a' : Act) (B : Nat) : OwnFrom B (fun (_ : Unit) W => ∃ Bx, n ≤ Bx ∧ EBk W Bx e ∧ a' = f Bx) := by
  rintro s A C row ⟨Bx, h1, h2, h3⟩ hg hr
  refine ⟨Bx, h1, ?_, h3⟩
  refine (hg.block Bx h2.lt (fun he => ?_)).trans h2
  obtain ⟨_, o, ho, hc⟩ := hr Bx he.symm
  have h2' : A.heap[Bx]? = _ := h2
  rw [h2'] at ho
  cases ho
  cases hc
/-- Values of a map that have been collected. -/
def VR (L : List Ent) (N : Nat) (w : World) (e : Ending) (w' : World) : Prop := ∃ v vs, e = .returned v ∧ AllV L vs ∧ vs.length ≤ N ∧ w'.ownsRow w.heap.size 37 4 v vs.length (ev4 vs) ∧ Below w.heap.size w w'
set_option maxRecDepth 100000 in
set_option maxHeartbeats 4000000 in
theorem appsE_any (Bm b nn N : Nat) (D0 : DataW Unit) (L : List Ent) (hD : PutD D0 L) (hok : ∀ e ∈ L, okP e) (w : World) (hBm : Bm < w.heap.size) (hm : w.cell? ⟨Bm, 0, none⟩ = some (.map (some b))) (hown : w.ownsMap Try.prog 72 fE b nn D0) (hN : Maps.size D0 ≤ N) (hN2 : N ≤ 100000) :
    Calls Try.prog 65 #[.slice none 0 0, .func (.func fnV) #[] #[.pointer (some ⟨Bm, 0, none⟩)]] w (VR L N w) := by
  obtain ⟨i0, hi, hz0, hz1, hz2⟩ := info_parts Try.infoEnt
  have hst0 := Lib.hid (fun (W : World) (hb : Below w.heap.size w W) => mvals_stops 8 Bm b nn N D0 L hD hok W (Nat.lt_of_lt_of_le hBm hb.size) ((hb.cell (p := ⟨Bm, 0, none⟩) hBm).trans hm) (by
    have hbl := hown.lt
    obtain ⟨es, clock, h1, Ft, hs, hD⟩ := hown
    exact ⟨es, clock, (hb.block b hbl).trans h1, Ft, hs, hD⟩) hN)
  clear hD hok hm hown hN
  refine (callsIn_wide (n := 9)).1 ?_
  refine callsIn_of_wp_marks Try.func65 rfl trivial ?_ rfl
  simp only [Try.ntmps65, List.size_toArray, List.length_cons, List.length_nil, Nat.reduceAdd, Nat.reduceSub, Array.replicate_succ, Array.replicate_zero, List.push_toArray, List.append_toArray, List.nil_append, List.cons_append]
  gi_wp2
  have b0 : Boxed (w.alloc (.cells #[.slice none 0 0] 22)) (w.heap.size) 22 (.slice none 0 0) := by
    have h := Boxed.new w 22 (.slice none 0 0)
    exact h
  have hB : Below w.heap.size w (w.alloc (.cells #[.slice none 0 0] 22)) := (Below.refl _ w).alloc (Nat.le_refl _) _
  generalize (w.alloc (.cells #[.slice none 0 0] 22)) = W4 at *
  have hsz : w.heap.size + 0 < W4.heap.size := b0.lt
  have hst := hst0.out W4 hB
  refine wpIn_rangeFunc_ownH rfl (by decide) (gf := fnV) (lb := #[.pointer (some ⟨Bm, 0, none⟩)]) rfl trivial (enters_of Try.func58 (by kernel_rfl) rfl)
    hst walksK_t walksK_b (Below.refl _ _) (fun _ => rfl)
    (fun pre W => (∃ v, Boxed W w.heap.size 22 v ∧ W.ownsRow w.heap.size 37 4 v pre.length (ev4 pre) ∧ pre.length ≤ N) ∧ Below w.heap.size w W)
    (fun c pre W => False)
    (OwnFrom.and (Own.from (holdsRow_own w.heap.size w.heap.size 22 37 4 (fun pre : List Ent => pre.length) (fun pre => ev4 pre) (fun pre v => pre.length ≤ N)) _) (ownFrom_below (Nat.le_refl _) (by omega)))
    (fun c => ownFrom_pure _ _)
    ⟨⟨_, b0, World.ownsRow_nil _ _ _ _, Nat.zero_le _⟩, hB⟩
    (fun x a' W => ∃ Bx, w.heap.size + 1 ≤ Bx ∧ EBk W Bx x ∧ a' = { tmps := #[.slice none 0 0, .func (.func fnV) #[] #[.pointer (some ⟨Bm, 0, none⟩)], .pointer (some ⟨w.heap.size, 0, none⟩), undef, .slice none 0 0, .pointer (some ⟨Bx, 0, none⟩), .func (.func fnV) #[] #[.pointer (some ⟨Bm, 0, none⟩)], evA x, undef, undef, undef, undef, undef], defers := [] })
    (fun x a' => ebk_own (w.heap.size + 1) x _ a' _)
    ?assign ?body ?done ?stop
  case assign =>
    rintro l pre ⟨x1, x2, x3, x4⟩ W K ⟨⟨v, hv, hrow, hln⟩, hBW⟩ hK
    have hsW : w.heap.size + 1 ≤ W.heap.size := hv.lt
    gi_wp2
    exact hK _ _ ((KeepsOthers.alloc _ _).from _) (KeepsOthers.alloc _ _).walks ⟨⟨v, hv.alloc _, hrow.alloc _, hln⟩, hBW.alloc hBW.size _⟩ ⟨W.heap.size, hsW, EBk.new W (x1, x2, x3, x4), rfl⟩
  case body =>
    rintro l' pre x a' W hl' hr' ⟨⟨v, hv, hrow, hln⟩, hBW⟩ ⟨Bx, hBx, hex, rfl⟩ hpl
    have hc1 := hv.cell
    obtain ⟨x0, x1, x2, x3⟩ := hex.cells
    have hxl := hex.lt
    obtain ⟨k1, k2, k3, k4⟩ := x
    have hsW : w.heap.size ≤ W.heap.size := hBW.size
    have HLEN := Lib.hid (ev4_snoc pre (k1, k2, k3, k4))
    gi_wp2_with (gi_at_builtin; refine wpListIn_append_own _ rfl _ _ 22 rfl w.heap.size 37 i0 (.agg #[.string ⟨#[]⟩, .string ⟨#[]⟩, .bool false, .int .i64 0]) 4 48 Try.underlying22 hi hz0 hz1 hz2 rfl (by decide) _ _ _ rfl (hrow.alloc _) ⟨W.heap.size, 0, none⟩ 1 1 (ev (k1, k2, k3, k4)) rfl rfl (cell_new4 _ _ _ _ _ _) (by intro u hu; simp [ev] at hu; rcases hu with rfl | rfl | rfl | rfl <;> rfl) (by unfold maxLen; omega) (by omega) (by simp; omega) ?_; intro v' w1 hown' hgrow _; obtain ⟨g', cap', rfl⟩ := own_form hown' (by decide); obtain ⟨hv1, hv2, hr2, hk2, hb2⟩ := hv.appended (by decide) hrow hBW.size (Nat.le_refl _) hown' hgrow; have hc1 := hv1.cell; have hf1 := hv1.frozen)
    refine ⟨hk2.from _, hk2.walks, ⟨_, hv2, ?_, by simp; omega⟩, hBW.trans hb2⟩
    rw [List.length_append, ← HLEN.out]
    exact hr2
  case done =>
    rintro D ys W hD hys ⟨⟨v, hv, hrow, hln⟩, hBW⟩ hK
    have hc := hv.cell
    obtain ⟨ra, rc, rfl⟩ := own_form hrow (by decide)
    have hr2 := Lib.hid (ownsRow_putObj hrow (.deferred none) hK rfl)
    have HBW := Lib.hid (hBW.trans (belowK_b (w := w) (Nat.le_refl _) W D _ (.deferred none) (by omega) hK rfl rfl))
    have hKK := hK
    have HYS := Lib.hid (show AllV L ys from hys)
    clear hys hst hrow hBW
    gi_wp2
    refine ⟨by simp, .inl ⟨_, _, rfl, run_takeDeferred hKK, ?_⟩⟩
    refine ⟨_, results_tmp rfl _ _ _, ?_⟩
    exact ⟨_, ys, rfl, HYS.out, hln, hr2.out, HBW.out⟩
  case stop =>
    rintro D c pre W hD hs h hK
    exact h.elim
theorem collE_any (Bm b nn N : Nat) (D0 : DataW Unit) (L : List Ent) (hD : PutD D0 L) (hok : ∀ e ∈ L, okP e) (w : World) (hBm : Bm < w.heap.size) (hm : w.cell? ⟨Bm, 0, none⟩ = some (.map (some b))) (hown : w.ownsMap Try.prog 72 fE b nn D0) (hN : Maps.size D0 ≤ N) (hN2 : N ≤ 100000) :
    Calls Try.prog 56 #[.func (.func fnV) #[] #[.pointer (some ⟨Bm, 0, none⟩)]] w (VR L N w) := by
  have HCC := Lib.hid (appsE_any Bm b nn N D0 L hD hok w hBm hm hown hN hN2)
  clear hD hok hBm hm hown hN
  go_enter Try.func56, Try.ntmps56
  go_wp2_with fail
  refine HCC.out.mono ?_
  rintro e w1 ⟨v, vs, rfl, h1, h2, hrow, hb⟩
  obtain ⟨ra, rc, rfl⟩ := own_form hrow (by decide)
  have HR := Lib.hid (And.intro h1 (And.intro h2 (And.intro hrow hb)))
  clear h1 h2 hrow hb
  go_wp2_with fail
  go_ret
  exact ⟨_, vs, rfl, HR.out.1, HR.out.2.1, HR.out.2.2.1, HR.out.2.2.2⟩
/-- The values of a map in order: in strict order, each the one that was put last at its place. -/
def AllS (L vs : List Ent) : Prop := (∀ e, e ∈ vs ↔ L.reverse.find? (atM e.1 e.2.2.2) = some e) ∧ PW vs
theorem AllV.sorted {L vs ts : List Ent} (h : AllV L vs) (hp : ts.Perm vs) (hs : ts.Pairwise fun a b => lessE b a = false) : AllS L ts := by
  refine ⟨fun e => by rw [hp.mem_iff]; exact h.1 e, ?_⟩
  have ha : ts.Pairwise fun a b => ¬ (a.1 = b.1 ∧ a.2.2.2 = b.2.2.2) := (hp.symm.pairwise_iff (fun {a b} (h : ¬ (a.1 = b.1 ∧ a.2.2.2 = b.2.2.2)) => fun ⟨e1, e2⟩ => h ⟨e1.symm, e2.symm⟩)).1 h.2
  refine (List.pairwise_and_iff.2 ⟨hs, ha⟩).imp ?_
  rintro a b ⟨h1, h2⟩
  cases h3 : lessE a b with
  | true => rfl
  | false => exact absurd (lessE_total h3 h1) h2
def SFR (L : List Ent) (N : Nat) (w : World) (e : Ending) (w' : World) : Prop := ∃ a n cap vs, e = .returned (.slice a n cap) ∧ AllS L vs ∧ vs.length ≤ N ∧ SE w' a n cap vs ∧ (∀ b off, a = some ⟨b, off, none⟩ → w.heap.size ≤ b) ∧ Below w.heap.size w w'
theorem sortE_any (Bm b nn N : Nat) (D0 : DataW Unit) (L : List Ent) (hD : PutD D0 L) (hok : ∀ e ∈ L, okP e) (w : World) (hBm : Bm < w.heap.size) (hm : w.cell? ⟨Bm, 0, none⟩ = some (.map (some b))) (hown : w.ownsMap Try.prog 72 fE b nn D0) (hN : Maps.size D0 ≤ N) (hN2 : N ≤ 100000) :
    Calls Try.prog 44 #[.func (.func fnV) #[] #[.pointer (some ⟨Bm, 0, none⟩)], .func (.func 46) #[] #[]] w (SFR L N w) := by
  have HCC := Lib.hid (collE_any Bm b nn N D0 L hD hok w hBm hm hown hN hN2)
  clear hD hok hBm hm hown hN
  go_enter Try.func44, Try.ntmps44
  go_wp2_with fail
  refine HCC.out.mono ?_
  rintro e w1 ⟨v, vs, rfl, hA, hvN, hrow, hb⟩
  rcases hrow.2 with ⟨rfl, hz⟩ | ⟨gb, gc, cur, rfl, hbase, hgb, r1, r2, r3, r4⟩
  · have hzs : vs = [] := List.eq_nil_of_length_eq_zero hz
    subst hzs
    have HR := Lib.hid (And.intro hA hb)
    clear hrow hb hz hA hvN
    have HS := Lib.hid (fun W => AnyF.slices_SortFunc_none sfn none 0 (.func (.func 46) #[] #[]) W)
    go_wp2_with fail
    refine (HS.out _).mono ?_
    rintro e w2 ⟨rfl, rfl⟩
    go_wp2_with fail
    go_ret
    exact ⟨none, 0, 0, [], rfl, HR.out.1.sorted (List.Perm.refl _) List.Pairwise.nil, Nat.zero_le _, ⟨rfl, .inl rfl, Nat.le_refl _, Nat.zero_le _⟩, fun b off h => by simp at h, HR.out.2⟩
  · have hse : SE w1 (some ⟨gb, 0, none⟩) vs.length gc vs := by
      obtain ⟨a', c', e1, e2⟩ := own_se hrow rfl
      cases e1
      exact e2
    have hgl : gb < w1.heap.size := (Array.getElem?_eq_some_iff.1 hgb).1
    have hEA : EAt w1 gb 0 vs := by
      intro i hi
      rcases hse.2.1 with h | ⟨b', o', e1, -, e3⟩
      · rw [h] at hi; simp at hi
      · cases e1; exact e3 i hi
    have hH := holdsK_of hgb hEA
    have eg : ∀ args w, (callFunc 46 args).run Try.prog w = .ok (.enter 46 args) w := enters_of Try.func46 (by kernel_rfl) rfl
    have hcon := AnyQ.slices_SortFunc sfn 4 Try.isAgg37 Try.sizeOf37 ev (fun _ => rfl) (fun x v hv => by simp [ev] at hv; rcases hv with rfl | rfl | rfl | rfl <;> rfl) ordE swo_ord 46 #[] gb 0 gc vs.toArray w1 eg (fun m os dk _ x y => order_gr x y _) hH hgl (by simp; omega)
    have HS : Hid (Calls Try.prog 57 #[.slice (some ⟨gb, 0, none⟩) vs.length gc, .func (.func 46) #[] #[]] w1 fun e w' => e = .returned (.tuple #[]) ∧ ∃ d' n os, PermIn 0 vs.toArray.size vs.toArray d' ∧ SortedIn (ltOf ordE) 0 vs.toArray.size d' ∧ w' = sortWorldK ev 4 w1 gb 0 n d' os) := Lib.hid hcon
    have HR := Lib.hid (And.intro hA (And.intro hvN (And.intro hb (And.intro hbase (And.intro r1 (And.intro r2 (And.intro hH hgl)))))))
    obtain ⟨zl, hzl⟩ : ∃ zl, zl = vs.length := ⟨_, rfl⟩
    rw [← hzl] at HS
    have HZ := Lib.hid hzl
    rw [← hzl]
    clear hrow hb hbase hgb r1 r2 r3 r4 hH hgl hzl hcon hse hEA hA hvN eg
    go_wp2_with fail
    refine HS.out.mono ?_
    rintro e w2 ⟨rfl, d', nn', os, hperm, hsrt, rfl⟩
    have HQ := Lib.hid (And.intro hperm hsrt)
    clear hperm hsrt
    go_wp2_with fail
    go_ret
    obtain ⟨hA, hvN, hb, hbase, r1, r2, hH, hgl⟩ := HR.out
    obtain ⟨⟨hsz, -, hperm⟩, hsrt⟩ := HQ.out
    have hds : d'.size = vs.length := by simpa using hsz
    have hH2 := eat_of (holdsK_sortWorldK_c ev 4 w1 gb 0 vs.toArray d' nn' os hH hgl (by rw [hds]; simp))
    have hpm : d'.toList.Perm vs := by
      have h := hperm
      rw [show (vs.toArray.extract 0 vs.toArray.size).toList = vs by simp] at h
      rw [show (d'.extract 0 vs.toArray.size).toList = d'.toList by rw [show vs.toArray.size = d'.size by rw [hds]; simp]; simp] at h
      exact h
    have hpw : d'.toList.Pairwise fun a b => lessE b a = false := by
      rw [List.pairwise_iff_getElem]
      intro i j hi hj hij
      have hi' : i < d'.size := by simpa using hi
      have hj' : j < d'.size := by simpa using hj
      have h := hsrt i j (Nat.zero_le _) hij (by simp; omega)
      rw [ltOf_ord, getElem!_pos d' i hi', getElem!_pos d' j hj'] at h
      simpa using h
    have hlen : d'.toList.length = zl := by rw [HZ.out]; simpa using hds
    refine ⟨some ⟨gb, 0, none⟩, zl, gc, d'.toList, rfl, hA.sorted hpm hpw, by rw [hlen, HZ.out]; exact hvN, ⟨hlen, .inr ⟨gb, 0, rfl, ?_, hH2⟩, by rw [HZ.out]; exact r1, r2⟩, fun b off h => by cases h; exact hbase, ?_⟩
    · exact Nat.lt_of_lt_of_le hgl (grown_sortK (n := nn') (os := os) d').size
    · exact hb.grown (grown_sortK d') hb.size (fun j hj => by cases hj; exact hbase)
end Go.Proofs.Ytdpinkipcaolhaa
namespace Go.Proofs.Ytdpinkipcaolhaa
open Go.RowKit Go.Shelf
set_option linter.unusedVariables false
set_option linter.unusedSimpArgs false
attribute [local go_sem] Oper.semAt_some

/-- What a round keeps: blocks of a set. -/
structure KpS (S : Nat → Prop) (W W' : World) : Prop where
  size : W.heap.size ≤ W'.heap.size
  same : ∀ c, S c → c < W.heap.size → W'.heap[c]? = W.heap[c]?
theorem KpS.refl (S : Nat → Prop) (W : World) : KpS S W W := ⟨Nat.le_refl _, fun _ _ _ => rfl⟩
theorem KpS.trans {S : Nat → Prop} {A B C : World} (h : KpS S A B) (k : KpS S B C) : KpS S A C := ⟨Nat.le_trans h.size k.size, fun c hc hl => (k.same c hc (Nat.lt_of_lt_of_le hl h.size)).trans (h.same c hc hl)⟩
theorem KpS.of_below {S : Nat → Prop} {W W' : World} (h : Below W.heap.size W W') : KpS S W W' := ⟨h.size, fun c _ hl => h.block c hl⟩
theorem KpS.of_grown {S : Nat → Prop} {W W' : World} {row : Option Nat} (h : W.grownBy W' row) (hr : ∀ j, row = some j → ¬ S j) : KpS S W W' :=
  ⟨h.size, fun c hc hl => h.block c hl (fun e => hr c e.symm hc)⟩
theorem KpS.cell {S : Nat → Prop} {W W' : World} (h : KpS S W W') {b : Nat} (hs : S b) (o : Nat) (hb : b < W.heap.size) : W'.cell? ⟨b, o, none⟩ = W.cell? ⟨b, o, none⟩ := World.cell?_of_block (a := ⟨b, o, none⟩) (h.same b hs hb)
theorem kpS_b {S : Nat → Prop} {w : World} (hS : ∀ c, S c → c < w.heap.size) (W : World) (l : Nat) (o o' : Obj) (hl : w.heap.size ≤ l) (h : W.heap[l]? = some o) (_ : o.isCells = false) (_ : o.isWalk = false) : KpS S W (W.putObj l o') :=
  KpS.of_grown (grownBy_putObj' W l o') (fun j e hj => by cases e; have := hS _ hj; omega)
abbrev LsOf (ls : List Lst) := { x : Nat × Lst // x.2 ∈ ls }
def encB (x : Nat × Lst) : Array Value := #[.int .i64 x.1, .slice x.2.1 x.2.2.2.length x.2.2.1]
def BkR (J Jx : List (Nat × Lst) → World → Prop) (ls : List Lst) (e : Ending) (W' : World) : Prop := (∃ v, e = .returned v) ∧ ((∃ xs, xs.map (·.2) = ls.reverse ∧ J xs W') ∨ (∃ pre, True ∧ Jx pre W'))
set_option maxRecDepth 100000 in
set_option maxHeartbeats 4000000 in
theorem backs_in (n l B b off N cap : Nat) (ls : List Lst) (W0 : World) (hN : N ≤ 9) (hl : ls.length = N) (hb : b < W0.heap.size) (hc : LLc W0 b off ls)
    (S : Nat → Prop) (hSB : S B) (hSb : S b)
    (J Jx : List (Nat × Lst) → World → Prop)
    (hY : ∀ pre x W1, J pre W1 → pre.length < ls.length → x.2 ∈ ls → YieldAt Fence.wide (n - 1) Try.prog l (encB x) W1 fun e W' =>
      (e = .returned (.bool true) ∧ J (pre ++ [x]) W' ∧ KpS S W1 W') ∨ (e = .returned (.bool false) ∧ Jx (pre ++ [x]) W'))
    (W : World) (hW : Below W0.heap.size W0 W) (h1 : W.cell? ⟨B, 0, none⟩ = some (.slice (some ⟨b, off, none⟩) N cap)) (h0 : J [] W) :
    CallsIn Fence.wide n Try.prog 55 #[.func (.yield l) #[] #[], .pointer (some ⟨B, 0, none⟩)] W (BkR J Jx ls) := by
  have hB := cell_lt h1
  dsimp only at hB
  have hbW : b < W.heap.size := Nat.lt_of_lt_of_le hb hW.size
  have HC := Lib.hid hc
  have HL := Lib.hid hl
  have H0 := Lib.hid h0
  have HW := Lib.hid hW
  have HY := Lib.hid hY
  clear hc hl h0 hW hY
  refine callsIn_of_wp Try.func55 rfl trivial ?_ rfl
  simp only [Try.ntmps55, List.size_toArray, List.length_cons, List.length_nil, Nat.reduceAdd, Nat.reduceSub, Array.replicate_succ, Array.replicate_zero, List.push_toArray, List.append_toArray, List.nil_append, List.cons_append]
  obtain ⟨z0, hz0⟩ : ∃ z0, (N : Int) - 1 = z0 := ⟨_, rfl⟩
  have hn1 : IntKind.i64.wrap z0 = z0 := by rw [IntKind.wrap_i64]; omega
  have HZ0 := Lib.hid hz0
  gi_wp2
  gi_loopw [3] (fun i wr => ∃ (k : Nat) (z : Int) (pre : List (Nat × Lst)), i = .int .i64 z ∧ z = (k : Int) - 1 ∧ k ≤ N ∧ Hid (pre.map (·.2) = (ls.drop k).reverse) ∧ Hid (J pre wr) ∧ Hid (KpS S W wr)) (fun i _ => ((intOf i) + 1).toNat)
  case atStart => exact ⟨N, _, [], rfl, HZ0.out.symm, Nat.le_refl _, Lib.hid (by rw [← HL.out, List.drop_length]; rfl), H0, Lib.hid (KpS.refl _ _)⟩
  case round =>
    obtain ⟨k, z, pre, rfl, hz, hk, HP, HJ, HK⟩ := hrel
    by_cases h0 : k = 0
    · subst h0
      have hneg : ¬ (0 : Int) ≤ z := by omega
      clear hz
      gi_wp2
      go_end0
      exact ⟨⟨_, rfl⟩, .inl ⟨pre, by have := HP.out; simpa using this, HJ.out⟩⟩
    · obtain ⟨j, rfl⟩ : ∃ j, k = j + 1 := ⟨k - 1, by omega⟩
      obtain rfl : z = (j : Int) := by omega
      have hjl : j < ls.length := by rw [HL.out]; omega
      have hjN : (j : Int) < (N : Int) := by omega
      have hj0 : (0 : Int) ≤ (j : Int) := by omega
      obtain ⟨z2, hz2⟩ : ∃ z2, (j : Int) - 1 = z2 := ⟨_, rfl⟩
      have hj1 : IntKind.i64.wrap z2 = z2 := by rw [IntKind.wrap_i64]; omega
      have HZ2 := Lib.hid hz2
      clear hz
      have q0 := (HK.out.cell hSB 0 hB).trans h1
      have q1 := (HK.out.cell hSb (off + j) hbW).trans ((HW.out.cell (p := ⟨b, off + j, none⟩) hb).trans (HC.out j hjl).1)
      have hBr : B < wr.heap.size := Nat.lt_of_lt_of_le hB HK.out.size
      have hbr : b < wr.heap.size := Nat.lt_of_lt_of_le hbW HK.out.size
      have HD : Hid ((ls.drop j).reverse = (ls.drop (j + 1)).reverse ++ [ls[j]]) := Lib.hid (by rw [List.drop_eq_getElem_cons hjl, List.reverse_cons])
      have hplen : pre.length < ls.length := by
        have := congrArg List.length HP.out
        simp at this
        omega
      obtain ⟨fn, tmps, assign, body, hy, hR⟩ := HY.out pre (j, ls[j]) wr HJ.out hplen (List.getElem_mem hjl)
      obtain ⟨E, hE⟩ : ∃ E, E = ls[j] := ⟨_, rfl⟩
      dsimp only [encB] at hy
      rw [← hE] at q1 HD hy hR
      obtain ⟨ea, ec, es⟩ := E
      clear hE hjl hplen
      gi_wp2
      refine ⟨fun h => absurd h (by decide), hR.mono ?_⟩
      rintro e W3 (⟨rfl, hJ3, hk3⟩ | ⟨rfl, hJx3⟩)
      · have HJ3 := Lib.hid hJ3
        have HW3 := Lib.hid (HK.out.trans hk3)
        clear hJ3 hk3 hR
        gi_wp2
        go_roundw
        case rel => exact ⟨j, z2, pre ++ [(j, (ea, ec, es))], rfl, HZ2.out.symm, by omega, Lib.hid (by rw [HD.out, List.map_append, HP.out]; rfl), HJ3, HW3⟩
        case measure => have := HZ2.out; simp [intOf]; omega
      · gi_wp2
        refine bodyPost_ret (results_none rfl _ _ _) rfl ?_
        exact ⟨⟨_, rfl⟩, .inr ⟨_, trivial, hJx3⟩⟩
theorem backs_stops (n B b off N cap : Nat) (ls : List Lst) (W0 w : World) (hN : N ≤ 9) (hl : ls.length = N) (hb : b < W0.heap.size) (hc : LLc W0 b off ls) (S : Nat → Prop) (hSB : S B) (hSb : S b)
    (hw : Below W0.heap.size W0 w) (h1 : w.cell? ⟨B, 0, none⟩ = some (.slice (some ⟨b, off, none⟩) N cap)) :
    SeqStopsK Fence.wide n Try.prog 55 #[.pointer (some ⟨B, 0, none⟩)] (fun x : LsOf ls => encB x.1) (KpS S) (fun ys => ys.map (·.1.2) = ls.reverse) (fun _ => True) ls.length w := by
  intro l J Jx W hW hJ hJx hY h0
  have lt1 := cell_lt h1
  refine (backs_in n l B b off N cap ls W0 hN hl hb hc S hSB hSb (fun pre W => ∃ p : List (LsOf ls), p.map (·.1) = pre ∧ J p W) (fun pre W => ∃ p : List (LsOf ls), p.map (·.1) = pre ∧ Jx p W)
    ?_ W (hw.trans (hW.mono hw.size)) ((hW.cell (p := ⟨B, 0, none⟩) lt1).trans h1) ⟨[], rfl, h0⟩).mono ?_
  · rintro pre x W1 ⟨p, rfl, hj⟩ hlen hx
    rw [List.length_map] at hlen
    refine (hY p ⟨x, hx⟩ W1 hj hlen).mono ?_
    rintro e W' (⟨rfl, hj', hk⟩ | ⟨rfl, hj'⟩)
    · exact .inl ⟨rfl, ⟨p ++ [⟨x, hx⟩], by simp, hj'⟩, hk⟩
    · exact .inr ⟨rfl, ⟨p ++ [⟨x, hx⟩], by simp, hj'⟩⟩
  · rintro e W' ⟨he, h | h⟩
    · obtain ⟨xs, hxs, p, rfl, hj⟩ := h
      exact ⟨he, .inl ⟨p, by rw [← hxs, List.map_map]; rfl, hj⟩⟩
    · obtain ⟨pre, -, p, rfl, hj⟩ := h
      exact ⟨he, .inr ⟨p, trivial, hj⟩⟩
theorem back_any (v : Value) (hv : ∃ a n c, v = .slice a n c) (w : World) :
    Calls Try.prog 43 #[v] w fun e w' => e = .returned (.func (.func 55) #[] #[.pointer (some ⟨w.heap.size, 0, none⟩)]) ∧ w' = w.alloc (.cells #[v] 28) := by
  obtain ⟨a, n, c, rfl⟩ := hv
  go_enter Try.func43, Try.ntmps43
  go_wp2
  go_ret
  exact ⟨rfl, rfl⟩
def wrL (ps : List Lst) : List Ent := ps.flatMap fun x => x.2.2
theorem wrL_snoc (ps : List Lst) (x : Lst) : wrL (ps ++ [x]) = wrL ps ++ x.2.2 := by simp [wrL]
theorem wrL_le (M : Nat) : ∀ (ps : List Lst), (∀ x ∈ ps, x.2.2.length ≤ M) → (wrL ps).length ≤ ps.length * M
  | [], _ => by simp [wrL]
  | x :: ps, h => by
    have h2 := wrL_le M ps (fun y hy => h y (by simp [hy]))
    have h3 := h x (by simp)
    have e : wrL (x :: ps) = x.2.2 ++ wrL ps := rfl
    rw [e, List.length_append, List.length_cons, Nat.add_mul, Nat.one_mul]
    omega
/-- Lists whose entries may be in a map. -/
def okM (ls : List Lst) : Prop := ∀ x ∈ ls, ∀ e ∈ x.2.2, okP e
def GI (w : World) (ls : List Lst) (pre : List (LsOf ls)) (W : World) : Prop := Boxed W (w.heap.size + 1) 67 (.map (some w.heap.size)) ∧ Below w.heap.size w W ∧ ∃ (nn : Nat) (D : DataW Unit), W.ownsMap Try.prog 72 fE w.heap.size nn D ∧ PutD D (wrL (pre.map (·.1.2))) ∧ nn ≤ (wrL (pre.map (·.1.2))).length
theorem gi_own (w : World) (ls : List Lst) (B : Nat) (hB : w.heap.size + 1 < B) : OwnFrom B (GI w ls) := by
  rintro s A C row ⟨h1, h2, nn, D, h3, h4, h5⟩ hg hr
  have hne : ∀ c, c < B → some c ≠ row := fun c hc e => by have := (hr c e.symm).1; omega
  refine ⟨h1.kept hg (hne _ hB), h2.grown hg h2.size (fun k e => by have := (hr k e).1; omega), nn, D, h3.kept hg (hne _ (by omega)), h4, h5⟩
set_option maxRecDepth 100000 in
set_option maxHeartbeats 8000000 in
theorem gathered_any (b off N cap : Nat) (ls : List Lst) (w : World) (hN : N ≤ 9) (hl : ls.length = N) (hb : b < w.heap.size) (hc : LLc w b off ls) (hok : okLs ls) (hom : okM ls) :
    Calls Try.prog 30 #[.slice (some ⟨b, off, none⟩) N cap] w (SFR (wrL ls.reverse) (wrL ls.reverse).length w) := by
  have HC := Lib.hid hc
  have HL := Lib.hid hl
  have HOK := Lib.hid hok
  have HOM := Lib.hid hom
  clear hc hl hok hom
  refine (callsIn_wide (n := 9)).1 ?_
  refine callsIn_of_wp_marks Try.func30 rfl trivial ?_ rfl
  simp only [Try.ntmps30, List.size_toArray, List.length_cons, List.length_nil, Nat.reduceAdd, Nat.reduceSub, Array.replicate_succ, Array.replicate_zero, List.push_toArray, List.append_toArray, List.nil_append, List.cons_append]
  have hmm := @run_makeMap Try.prog
  refine wpIn_wide.2 ?_
  go_wp2_with fail
  refine (back_any _ ⟨_, _, _, rfl⟩ _).mono ?_
  rintro e w' ⟨rfl, rfl⟩
  go_wp2_with fail
  have b1 : Boxed (((w.alloc (.map #[] 0)).alloc (.cells #[.map (some w.heap.size)] 67)).alloc (.cells #[.slice (some ⟨b, off, none⟩) N cap] 28)) (w.heap.size + 1) 67 (.map (some w.heap.size)) := by
    have h := Boxed.new (w.alloc (.map #[] 0)) 67 (.map (some w.heap.size))
    rw [World.size_alloc] at h
    exact h.alloc _
  have b2 : Boxed (((w.alloc (.map #[] 0)).alloc (.cells #[.map (some w.heap.size)] 67)).alloc (.cells #[.slice (some ⟨b, off, none⟩) N cap] 28)) (w.heap.size + 2) 28 (.slice (some ⟨b, off, none⟩) N cap) := by
    have h := Boxed.new ((w.alloc (.map #[] 0)).alloc (.cells #[.map (some w.heap.size)] 67)) 28 (.slice (some ⟨b, off, none⟩) N cap)
    rw [World.size_alloc, World.size_alloc] at h
    exact h
  have hB : Below w.heap.size w (((w.alloc (.map #[] 0)).alloc (.cells #[.map (some w.heap.size)] 67)).alloc (.cells #[.slice (some ⟨b, off, none⟩) N cap] 28)) := (((Below.refl _ w).alloc (Nat.le_refl _) _).alloc (by simp) _).alloc (by simp; omega) _
  have hom0 : (((w.alloc (.map #[] 0)).alloc (.cells #[.map (some w.heap.size)] 67)).alloc (.cells #[.slice (some ⟨b, off, none⟩) N cap] 28)).ownsMap Try.prog 72 fE w.heap.size 0 (.map []) := ((World.ownsMap_made w Try.prog 72 fE).alloc _).alloc _
  generalize (((w.alloc (.map #[] 0)).alloc (.cells #[.map (some w.heap.size)] 67)).alloc (.cells #[.slice (some ⟨b, off, none⟩) N cap] 28)) = W4 at *
  have hsz : w.heap.size + 2 < W4.heap.size := b2.lt
  have hSS : ∀ c, (c = w.heap.size + 1 + 1 ∨ c = b) → c < W4.heap.size := fun c h => by rcases h with h | h <;> omega
  have hst := backs_stops 8 (w.heap.size + 1 + 1) b off N cap ls w W4 hN HL.out hb HC.out (fun c => c = w.heap.size + 1 + 1 ∨ c = b) (.inl rfl) (.inr rfl) hB b2.cell
  clear hmm
  refine (wpIn_wide (n := 9)).1 ?_
  refine wpIn_rangeFunc_ownG rfl (by decide) (gf := 55) (lb := #[.pointer (some ⟨w.heap.size + 1 + 1, 0, none⟩)]) rfl trivial (enters_of Try.func55 (by kernel_rfl) rfl)
    hst KpS.trans (kpS_b hSS) (Below.refl _ _) (fun _ => rfl)
    (GI w ls) (fun c pre W => False) (gi_own w ls _ (by omega)) (fun c => ownFrom_pure _ _)
    ⟨b1, hB, 0, _, hom0, PutD.new, Nat.le_refl _⟩
    ?a1 ?assign ?body ?done ?stop
  case assign =>
    intro l x W K hK
    unfold encB
    gi_wp2
    exact hK
  case body =>
    rintro l' pre x W ⟨hv, hBW, nn, D, hom, hpd, hnn⟩ hpl
    have hc1 := hv.cell
    have hxl : ∃ i, ∃ h : i < ls.length, ls[i] = x.1.2 := by
      obtain ⟨i, hi, he⟩ := List.getElem_of_mem x.2
      exact ⟨i, hi, he⟩
    obtain ⟨xi, hxi, hxe⟩ := hxl
    have hrd := (HC.out xi hxi).2
    have hokx := HOK.out x.1.2 x.2
    have homx := HOM.out x.1.2 x.2
    rw [hxe] at hrd
    have hwl := wrL_le 4096 (pre.map (·.1.2)) (fun y hy => by
      obtain ⟨z, hz, rfl⟩ := List.mem_map.1 hy
      exact (HOK.out _ z.2).2.1)
    rw [List.length_map] at hwl
    have hp9 : pre.length ≤ 9 := by have := HL.out; omega
    have hsn := wrL_snoc (pre.map (·.1.2)) x.1.2
    have hmp : (pre ++ [x]).map (·.1.2) = pre.map (·.1.2) ++ [x.1.2] := by simp
    rw [← hmp] at hsn
    obtain ⟨w0, hw0⟩ : ∃ w0, w0 = wrL (pre.map (·.1.2)) := ⟨_, rfl⟩
    rw [← hw0] at hpd hnn hwl hsn
    obtain ⟨ea, hea⟩ : ∃ ea, ea = x.1.2.1 := ⟨_, rfl⟩
    obtain ⟨ec, hec⟩ : ∃ ec, ec = x.1.2.2.1 := ⟨_, rfl⟩
    obtain ⟨es, hes⟩ : ∃ es, es = x.1.2.2.2 := ⟨_, rfl⟩
    obtain ⟨xn, hxn⟩ : ∃ xn, xn = x.1.1 := ⟨_, rfl⟩
    rw [← hea, ← hes] at hrd
    rw [← hes] at hsn homx hokx
    rw [← hea, ← hec, ← hes, ← hxn]
    obtain ⟨el, hel⟩ : ∃ el, el = es.length := ⟨_, rfl⟩
    have he4 : el ≤ 4096 := by rw [hel]; exact hokx.2.1
    have hn4 : nn ≤ 36864 := by have := Nat.mul_le_mul_right 4096 hp9; omega
    rw [← hel]
    have HEL := Lib.hid hel
    have HSN := Lib.hid hsn
    have HRD := Lib.hid hrd
    have HMX := Lib.hid homx
    have HBW := Lib.hid hBW
    have HPD := Lib.hid (And.intro hpd hnn)
    have HIN := Lib.hid (And.intro hv hom)
    have hsW : w.heap.size + 2 < W.heap.size ∨ True := .inr trivial
    have hvl := hv.lt
    clear hsn hmp hw0 hea hec hes hxn hel hokx homx hrd hwl hp9 hxi hxe hpd hnn hv hom hst hpl hBW hsW b1 b2 hom0
    gi_wp2
    gi_loopw [15] (fun i wr => ∃ (k m : Nat) (D : DataW Unit), i = .int .i64 k ∧ k ≤ el ∧ m ≤ 36864 + k ∧ wr.ownsMap Try.prog 72 fE w.heap.size m D ∧ Hid (PutD D (w0 ++ es.take k) ∧ m ≤ (w0 ++ es.take k).length) ∧ Boxed wr (w.heap.size + 1) 67 (.map (some w.heap.size)) ∧ Hid (KpS (fun c => c = w.heap.size + 1 + 1 ∨ c = b) W wr ∧ KeepsFrom W4.heap.size W wr ∧ Below w.heap.size w wr)) (fun i _ => el - (intOf i).toNat)
    case atStart => exact ⟨0, nn, D, rfl, Nat.zero_le _, by omega, HIN.out.2, Lib.hid ⟨by simpa using HPD.out.1, by simpa using HPD.out.2⟩, HIN.out.1, Lib.hid ⟨KpS.refl _ _, KeepsFrom.refl _ _, HBW.out⟩⟩
    case round =>
      obtain ⟨k, m, D, rfl, hk, hm, hom, HPT, hv, HKP⟩ := hrel
      have hc1 := hv.cell
      have hvl := hv.lt
      by_cases hlt : k < el
      · have hki : (k : Int) < (el : Int) := by omega
        have hkl : k < es.length := by rw [← HEL.out]; exact hlt
        have hlow : ∃ eb eo, ea = some ⟨eb, eo, none⟩ ∧ eb < wr.heap.size ∧ wr.cell? ⟨eb, eo + k * 4, none⟩ = some (.string es[k].1) ∧ wr.cell? ⟨eb, eo + k * 4 + 1, none⟩ = some (.string es[k].2.1) ∧ wr.cell? ⟨eb, eo + k * 4 + 2, none⟩ = some (.bool es[k].2.2.1) ∧ wr.cell? ⟨eb, eo + k * 4 + 3, none⟩ = some (.int .i64 es[k].2.2.2) := by
          obtain ⟨eb, eo, e1, e2, e3⟩ := (HRD.out.old HKP.out.2.2).at_
          obtain ⟨c0, c1, c2, c3⟩ := e3 k hkl
          exact ⟨eb, eo, e1 (by omega), e2 (by omega), c0, c1, c2, c3⟩
        obtain ⟨eb, eo, rfl, heb, c0, c1, c2, c3⟩ := hlow
        have HD : Hid (w0 ++ es.take (k + 1) = (w0 ++ es.take k) ++ [es[k]]) := Lib.hid (by rw [List.take_succ_eq_append_getElem hkl, List.append_assoc])
        have hokk := HMX.out es[k] (List.getElem_mem hkl)
        obtain ⟨E, hE⟩ : ∃ E, E = es[k] := ⟨_, rfl⟩
        rw [← hE] at c0 c1 c2 c3 HD hokk
        obtain ⟨ek, evl, eg, eq⟩ := E
        have hkey := key_place ek eq hokk.1 hokk.2
        have HOKK := Lib.hid hokk
        clear hE hkl hokk
        gi_wp2_with (gi_at_mapUpdate; refine wpListIn_mapUpdate_own _ rfl _ _ _ 67 rfl 72 37 keyedPl Try.underlying67 _ w.heap.size m _ rfl (hom.alloc _) (by unfold maxLen; omega) _ _ _ rfl rfl hkey _ [] (fE_mk (ek, evl, eg, eq)) ?_; intro w1 hown1 hgrow1)
        go_roundw
        case rel =>
          have q3 : Below w.heap.size w w1 := (HKP.out.2.2.alloc (by omega) (.cells #[.string ek, .string evl, .bool eg, .int .i64 eq] 37)).grown hgrow1 (by simp; omega) (fun k e => by cases e; exact Nat.le_refl _)
          have hput := HPT.out.1.put (e := (ek, evl, eg, eq)) hom.isMap HOKK.out
          dsimp only at hput
          rw [← HD.out] at hput
          exact ⟨k + 1, m + 1, _, by go_num, by omega, by omega, hown1, Lib.hid ⟨hput, by rw [HD.out, List.length_append]; have := HPT.out.2; simp only [List.length_singleton]; omega⟩, (hv.alloc _).kept hgrow1 (by simp),
            Lib.hid ⟨HKP.out.1.trans ((KpS.of_below ((Below.refl wr.heap.size wr).alloc (Nat.le_refl _) _)).trans (KpS.of_grown hgrow1 (fun j e hj => by cases e; rcases hj with h | h <;> omega))), HKP.out.2.1.trans (((KeepsOthers.alloc wr _).from _).trans (KeepsFrom.of_grownBy hgrow1 (fun j e => by cases e; omega))), q3⟩⟩
        case measure => simp [intOf]; omega
      · obtain rfl : k = el := by omega
        gi_wp2
        have htk : es.take k = es := by rw [HEL.out, List.take_length]
        have HPT2 := HPT.out
        rw [htk, ← HSN.out] at HPT2
        exact ⟨HKP.out.2.1, HKP.out.1, hv, HKP.out.2.2, m, D, hom, HPT2.1, HPT2.2⟩
  case done =>
    rintro D0 ys W hD hys ⟨hv, hBW, nn, D, hom, hpd, hnn⟩ hK
    have hc1 := hv.cell
    rw [show ys.map (·.1.2) = ls.reverse from hys] at hpd hnn
    have hwl := wrL_le 4096 ls.reverse (fun y hy => (HOK.out y (by simpa using hy)).2.1)
    have hmo : ∀ e ∈ wrL ls.reverse, okP e := fun e he => by
      obtain ⟨y, hy, hye⟩ := List.mem_flatMap.1 he
      exact HOM.out y (by simpa using hy) e hye
    have hD1 : D0 < W.heap.size := (Array.getElem?_eq_some_iff.1 hK).1
    have HS := Lib.hid (sortE_any W.heap.size w.heap.size nn (wrL ls.reverse).length D (wrL ls.reverse) hpd hmo (W.alloc (.cells #[.map (some w.heap.size)] 67)) (by simp) (by simp [go_sem]) (hom.alloc _) (Nat.le_trans hom.size_le hnn) (by
      have h2 := Nat.mul_le_mul_right 4096 (show ls.reverse.length ≤ 9 by rw [List.length_reverse, HL.out]; exact hN)
      omega))
    have HBW := Lib.hid hBW
    have HKK := Lib.hid hK
    clear hys hst hpd hnn hwl hmo hom hBW b1 b2 hom0 hK
    go_wp2_with fail
    refine (mvals_any _ _).mono ?_
    rintro e w' ⟨rfl, rfl⟩
    go_wp2_with fail
    refine HS.out.mono ?_
    rintro e W2 ⟨ra, rn, rc, vs, rfl, hA, hvN, hse, hlo, hb2⟩
    have hK2 : W2.heap[D0]? = some (.deferred (some [])) := by
      rw [hb2.block D0 (by simp; omega)]
      exact (Below.heap_alloc W _ D0 hD1).trans HKK.out
    have HR := Lib.hid (And.intro hA (And.intro hvN (And.intro hse (And.intro hlo hb2))))
    clear hA hvN hse hlo hb2
    go_wp2_with fail
    refine ⟨by simp, .inl ⟨_, _, rfl, run_takeDeferred hK2, ?_⟩⟩
    refine ⟨_, results_tmp rfl _ _ _, ?_⟩
    obtain ⟨hA, hvN, hse, hlo, hb2⟩ := HR.out
    have hgp := grownBy_putObj' W2 D0 (.deferred none)
    have hlo2 : ∀ b off, ra = some ⟨b, off, none⟩ → W.heap.size < b := fun b off e => by have := hlo b off e; simp at this; omega
    have hB2 : Below w.heap.size w W2 := (HBW.out.alloc HBW.out.size _).trans (hb2.mono (by have := HBW.out.size; simp; omega))
    refine ⟨ra, rn, rc, vs, rfl, hA, hvN, ⟨hse.1, ?_, hse.2.2⟩, fun b off e => by have := hlo2 b off e; have := HBW.out.size; omega, hB2.grown hgp hB2.size (fun k e => by cases e; omega)⟩
    rcases hse.2.1 with h | ⟨vb, vo, e1, e2, e3⟩
    · exact .inl h
    · have hne : vb ≠ D0 := by have := hlo2 vb vo e1; omega
      have hbl := hgp.block vb e2 (by simpa using hne)
      refine .inr ⟨vb, vo, e1, Nat.lt_of_lt_of_le e2 hgp.size, fun i hi => ?_⟩
      have h := e3 i hi
      exact ⟨(World.cell?_of_block (a := ⟨vb, vo + i * 4, none⟩) hbl).trans h.1, (World.cell?_of_block (a := ⟨vb, vo + i * 4 + 1, none⟩) hbl).trans h.2.1, (World.cell?_of_block (a := ⟨vb, vo + i * 4 + 2, none⟩) hbl).trans h.2.2.1, (World.cell?_of_block (a := ⟨vb, vo + i * 4 + 3, none⟩) hbl).trans h.2.2.2⟩
  case stop =>
    rintro D c pre W hD hs h hK
    exact h.elim
end Go.Proofs.Ytdpinkipcaolhaa
namespace Go.Proofs.Ytdpinkipcaolhaa
open Go.RowKit Go.Shelf
set_option linter.unusedVariables false
set_option linter.unusedSimpArgs false
attribute [local go_sem] Oper.semAt_some

abbrev fnE : FuncId := 31
/-- What Each leaves: a closure over a box of entries. -/
def ER (ls : List Lst) (w : World) (e : Ending) (w' : World) : Prop := ∃ Lb a n cap vs, e = .returned (.func (.func fnE) #[] #[.pointer (some ⟨Lb, 0, none⟩)]) ∧ w.heap.size ≤ Lb ∧ w'.cell? ⟨Lb, 0, none⟩ = some (.slice a n cap) ∧ SE w' a n cap vs ∧ vs.length ≤ (wrL ls.reverse).length ∧
  (mayL ls = true → AllS (wrL ls.reverse) vs) ∧ (mayL ls = false → vs = []) ∧ (∀ b off, a = some ⟨b, off, none⟩ → w.heap.size ≤ b) ∧ Below w.heap.size w w'
set_option maxRecDepth 100000 in
set_option maxHeartbeats 2000000 in
theorem each11_any (b off N cap : Nat) (ls : List Lst) (w : World) (hN : N ≤ 9) (hl : ls.length = N) (hb : b < w.heap.size) (hc : LLc w b off ls) (hok : okLs ls) (hom : mayL ls = true → okM ls) :
    Calls Try.prog 17 #[.slice (some ⟨b, off, none⟩) N cap] w (ER ls w) := by
  obtain ⟨r, hr⟩ : ∃ r, mayL ls = r := ⟨_, rfl⟩
  have CM := Lib.hid (fun W (h : Below w.heap.size w W) => mayBe11_any b off N cap ls W hN hl (Nat.lt_of_lt_of_le hb h.size) (hc.old hb h) hok)
  have CG := Lib.hid (fun W (h : Below w.heap.size w W) (ht : mayL ls = true) => gathered_any b off N cap ls W hN hl (Nat.lt_of_lt_of_le hb h.size) (hc.old hb h) hok (hom ht))
  rw [hr] at CM
  have HR := Lib.hid hr
  clear hr hc hok hom hl
  go_enter Try.func17, Try.ntmps17
  go_wp2_with fail
  have hB : Below w.heap.size w (w.alloc (.cells #[.slice none 0 0] 22)) := (Below.refl _ _).alloc (Nat.le_refl _) _
  have hx := Boxed.new w 22 (.slice none 0 0)
  generalize w.alloc (.cells #[.slice none 0 0] 22) = W at *
  refine (CM.out _ hB).mono ?_
  rintro e w1 ⟨rfl, b1⟩
  have HB1 := Lib.hid (hB.trans (b1.mono hB.size))
  have HX1 := Lib.hid (boxed_below hx b1)
  clear b1 hB hx
  cases r with
  | false =>
    go_wp2_with fail
    go_ret
    exact ⟨w.heap.size, none, 0, 0, [], rfl, Nat.le_refl _, HX1.out.cell, ⟨rfl, .inl rfl, Nat.le_refl _, Nat.zero_le _⟩, Nat.zero_le _, (fun (h : mayL ls = true) => absurd (HR.out.symm.trans h) (by decide)), fun _ => rfl, fun b off h => by simp at h, HB1.out⟩
  | true =>
    go_wp2_with fail
    refine (CG.out _ HB1.out HR.out).mono ?_
    rintro e w2 ⟨ra, rn, rc, vs, rfl, hA, hvN, hse, hlo, hb2⟩
    have HX2 := Lib.hid (boxed_below HX1.out hb2)
    have HQ := Lib.hid (And.intro hA (And.intro hvN (And.intro hse (And.intro hlo hb2))))
    have hcx := HX2.out.cell
    have hfx := HX2.out.frozen
    have hlx := HX2.out.lt
    clear hA hvN hse hlo hb2
    go_wp2_with fail
    go_ret
    obtain ⟨hA, hvN, hse, hlo, hb2⟩ := HQ.out
    have hsz := HB1.out.size
    have hs1 := HX1.out.lt
    have hB2 : Below w.heap.size w w2 := HB1.out.trans (hb2.mono hsz)
    refine ⟨w.heap.size, ra, rn, rc, vs, rfl, Nat.le_refl _, (HX2.out.set _).cell, ⟨hse.1, ?_, hse.2.2⟩, hvN, fun _ => hA, (fun (h : mayL ls = false) => absurd (HR.out.symm.trans h) (by decide)), fun b off e => by have := hlo b off e; omega, hB2.setCell (p := ⟨w.heap.size, 0, none⟩) (Nat.le_refl _) _⟩
    rcases hse.2.1 with h | ⟨vb, vo, e1, e2, e3⟩
    · exact .inl h
    · have hne : vb ≠ w.heap.size := by have := hlo vb vo e1; omega
      have hg := grownBy_setCell' w2 w.heap.size (.slice ra rn rc)
      have hbl := hg.block vb e2 (by simpa using hne)
      refine .inr ⟨vb, vo, e1, Nat.lt_of_lt_of_le e2 hg.size, fun i hi => ?_⟩
      have h := e3 i hi
      exact ⟨(World.cell?_of_block (a := ⟨vb, vo + i * 4, none⟩) hbl).trans h.1, (World.cell?_of_block (a := ⟨vb, vo + i * 4 + 1, none⟩) hbl).trans h.2.1, (World.cell?_of_block (a := ⟨vb, vo + i * 4 + 2, none⟩) hbl).trans h.2.2.1, (World.cell?_of_block (a := ⟨vb, vo + i * 4 + 3, none⟩) hbl).trans h.2.2.2⟩
def EchR (J Jx : List Ent → World → Prop) (es : List Ent) (e : Ending) (W' : World) : Prop := (∃ v, e = .returned v) ∧ ((∃ xs, xs = es ∧ J xs W') ∨ (∃ pre, pre <+: es ∧ Jx pre W'))
set_option maxRecDepth 100000 in
set_option maxHeartbeats 4000000 in
theorem eachs_in (n l B b off N cap : Nat) (a : Option Addr) (es : List Ent) (W0 : World) (hN : N ≤ 100000) (hl : es.length = N) (ha : 0 < N → a = some ⟨b, off, none⟩) (hb : 0 < N → b < W0.heap.size) (hc : EAt W0 b off es)
    (S : Nat → Prop) (hSb : 0 < N → S b)
    (J Jx : List Ent → World → Prop) (hJ : ∀ pre (w w' : World), J pre w → Below w.heap.size w w' → J pre w')
    (hY : ∀ pre x W1, J pre W1 → pre.length < es.length → YieldAt Fence.wide (n - 1) Try.prog l #[evA x] W1 fun e W' =>
      (e = .returned (.bool true) ∧ J (pre ++ [x]) W' ∧ KpS S W1 W') ∨ (e = .returned (.bool false) ∧ Jx (pre ++ [x]) W'))
    (W : World) (hW : Below W0.heap.size W0 W) (h1 : W.cell? ⟨B, 0, none⟩ = some (.slice a N cap)) (h0 : J [] W) :
    CallsIn Fence.wide n Try.prog fnE #[.func (.yield l) #[] #[], .pointer (some ⟨B, 0, none⟩)] W (EchR J Jx es) := by
  have hB := cell_lt h1
  dsimp only at hB
  have HC := Lib.hid hc
  have HL := Lib.hid hl
  have H0 := Lib.hid h0
  have HW := Lib.hid hW
  have HY := Lib.hid hY
  have HJ := Lib.hid hJ
  clear hc hl h0 hW hY hJ
  refine callsIn_of_wp Try.func31 rfl trivial ?_ rfl
  simp only [Try.ntmps31, List.size_toArray, List.length_cons, List.length_nil, Nat.reduceAdd, Nat.reduceSub, Array.replicate_succ, Array.replicate_zero, List.push_toArray, List.append_toArray, List.nil_append, List.cons_append]
  gi_wp2
  gi_loopw [7] (fun i wr => ∃ k : Nat, i = .int .i64 k ∧ k ≤ N ∧ Hid (J (es.take k) wr) ∧ Hid (KpS S W wr)) (fun i _ => N - (intOf i).toNat)
  case atStart => exact ⟨0, rfl, Nat.zero_le _, H0, Lib.hid (KpS.refl _ _)⟩
  case round =>
    obtain ⟨k, rfl, hk, HJr, HK⟩ := hrel
    by_cases hlt : k < N
    · have hki : (k : Int) < (N : Int) := by omega
      obtain rfl := ha (by omega)
      have hbw := hb (by omega)
      have hbW : b < W.heap.size := Nat.lt_of_lt_of_le hbw HW.out.size
      have hkl : k < es.length := by rw [HL.out]; exact hlt
      obtain ⟨c0, c1, c2, c3⟩ := HC.out.old hbw HW.out k hkl
      have c0 := (HK.out.cell (hSb (by omega)) _ hbW).trans c0
      have c1 := (HK.out.cell (hSb (by omega)) _ hbW).trans c1
      have c2 := (HK.out.cell (hSb (by omega)) _ hbW).trans c2
      have c3 := (HK.out.cell (hSb (by omega)) _ hbW).trans c3
      have hbr : b < wr.heap.size := Nat.lt_of_lt_of_le hbW HK.out.size
      have HSN := Lib.hid (List.take_succ_eq_append_getElem hkl)
      obtain ⟨E, hE⟩ : ∃ E, E = es[k] := ⟨_, rfl⟩
      rw [← hE] at c0 c1 c2 c3 HSN
      obtain ⟨ek, evl, eg, eq⟩ := E
      have hJ3 := HJ.out _ _ _ HJr.out ((Below.refl wr.heap.size wr).alloc (Nat.le_refl _) (.cells #[.string ek, .string evl, .bool eg, .int .i64 eq] 37))
      obtain ⟨fn, tmps, assign, body, hy, hR⟩ := HY.out (es.take k) (ek, evl, eg, eq) _ hJ3 (by rw [List.length_take]; omega)
      clear hE hJ3
      gi_wp2
      refine ⟨fun h => absurd h (by decide), hR.mono ?_⟩
      rintro e W3 (⟨rfl, hJ4, hk3⟩ | ⟨rfl, hJx3⟩)
      · have HJ3 := Lib.hid hJ4
        have HW3 := Lib.hid (HK.out.trans ((KpS.of_below ((Below.refl wr.heap.size wr).alloc (Nat.le_refl _) _)).trans hk3))
        clear hJ4 hk3 hR
        gi_wp2
        go_roundw
        case rel => exact ⟨k + 1, by go_num, hlt, Lib.hid (by rw [HSN.out]; exact HJ3.out), HW3⟩
        case measure => simp [intOf]; omega
      · gi_wp2
        refine bodyPost_ret (results_none rfl _ _ _) rfl ?_
        exact ⟨⟨_, rfl⟩, .inr ⟨es.take k ++ [(ek, evl, eg, eq)], by rw [← HSN.out]; exact List.take_prefix _ _, hJx3⟩⟩
    · obtain rfl : k = N := by omega
      gi_wp2
      refine bodyPost_ret (results_none rfl _ _ _) rfl ?_
      exact ⟨⟨_, rfl⟩, .inl ⟨_, rfl, by have := HJr.out; rw [← HL.out, List.take_length] at this; exact this⟩⟩
theorem eachs_stops (n B b off N cap : Nat) (a : Option Addr) (es : List Ent) (W0 w : World) (hN : N ≤ 100000) (hl : es.length = N) (ha : 0 < N → a = some ⟨b, off, none⟩) (hb : 0 < N → b < W0.heap.size) (hc : EAt W0 b off es)
    (S : Nat → Prop) (hSb : 0 < N → S b) (hw : Below W0.heap.size W0 w) (h1 : w.cell? ⟨B, 0, none⟩ = some (.slice a N cap)) :
    SeqStopsK Fence.wide n Try.prog fnE #[.pointer (some ⟨B, 0, none⟩)] (fun x : Ent => #[evA x]) (KpS S) (fun ys => ys = es) (fun pre => pre <+: es) es.length w := by
  intro l J Jx W hW hJ hJx hY h0
  have lt1 := cell_lt h1
  exact eachs_in n l B b off N cap a es W0 hN hl ha hb hc S hSb J Jx (fun pre w w' hj hb => abides_below11 hJ hj hb) hY W (hw.trans (hW.mono hw.size)) ((hW.cell (p := ⟨B, 0, none⟩) lt1).trans h1) h0
end Go.Proofs.Ytdpinkipcaolhaa
namespace Go.Proofs.Ytdpinkipcaolhaa
open Go.RowKit Go.Shelf
set_option linter.unusedVariables false
set_option linter.unusedSimpArgs false
attribute [local go_sem] Oper.semAt_some

theorem postM_ret {F : Fence} {n : Nat} {P : Program} {fn : Func} {R : Ending → World → Prop} {a : Act} {w : World} {v : Value} (hd : a.defers = [])
    (hr : (results fn a.tmps).run P w = .ok v w) (hR : R (.returned v) w) : bodyPostM F n P fn R .ret a w := by
  show LeavesInM F n P fn a.tmps R a.defers .returning w
  rw [hd]
  exact ⟨v, hr, hR⟩
/-- An append to a row of another base than its box. -/
theorem Boxed.appended2 {W w1 : World} {n₀ n₁ B : Nat} {t e : TypeId} {size : Nat} {v v' : Value} {k m : Nat} {xs ys : List Value} {tmp : Obj}
    (hv : Boxed W B t v) (hte : t ≠ e) (hrow : W.ownsRow n₀ e size v k xs) (hn₀ : n₁ ≤ n₀) (hW : n₁ ≤ W.heap.size) (hB : n₁ ≤ B)
    (hown' : w1.ownsRow n₀ e size v' m ys) (hgrow : (W.alloc tmp).grownBy w1 v.ownBlock) :
    Boxed w1 B t v ∧ Boxed (w1.setCell ⟨B, 0, none⟩ v') B t v' ∧ (w1.setCell ⟨B, 0, none⟩ v').ownsRow n₀ e size v' m ys ∧ KeepsOthers W (w1.setCell ⟨B, 0, none⟩ v') ∧ Below n₁ W (w1.setCell ⟨B, 0, none⟩ v') ∧
      (∀ S : Nat → Prop, (∀ c, S c → c < n₀ ∧ c ≠ B) → KpS S W (w1.setCell ⟨B, 0, none⟩ v')) := by
  have hv1 : Boxed w1 B t v := (hv.alloc tmp).kept hgrow (hv.not_row hte hrow)
  have hown : ∀ j, v.ownBlock = some j → n₀ ≤ j := by
    intro j ej
    rcases hrow.2 with ⟨rfl, _⟩ | ⟨g, cap, cur, rfl, hb, _, _⟩
    · simp [Value.ownBlock] at ej
    · obtain rfl : g = j := by simpa [Value.ownBlock] using ej
      exact hb
  refine ⟨hv1, hv1.set v', hown'.kept (grownBy_setCell' w1 B v') (.inr (hv1.not_row hte hown').symm), ?_, ?_, fun S hS => ?_⟩
  · refine ((KeepsOthers.alloc W tmp).trans (KeepsOthers.of_grownBy hgrow fun j o ej hj => ?_)).trans (KeepsOthers.setCell _ _ _)
    rcases (hrow.alloc tmp).2 with ⟨rfl, _⟩ | ⟨g, cap, cur, rfl, _, hgb, _⟩
    · simp [Value.ownBlock] at ej
    · obtain rfl : g = j := by simpa [Value.ownBlock] using ej
      rw [hgb] at hj; cases hj; rfl
  · refine (((Below.refl n₁ W).alloc hW tmp).grown hgrow (by simp; omega) fun j ej => ?_).setCell (p := ⟨B, 0, none⟩) hB v'
    exact Nat.le_trans hn₀ (hown j ej)
  · refine ((KpS.of_below ((Below.refl _ W).alloc (Nat.le_refl _) tmp)).trans (KpS.of_grown hgrow fun j e hj => ?_)).trans (KpS.of_grown (grownBy_setCell' w1 B v') fun j e hj => ?_)
    · have h1 := hown j e
      have h2 := (hS j hj).1
      omega
    · cases e
      exact (hS _ hj).2 rfl
/-- What Merge leaves. -/
def MR (ls : List Lst) (w : World) (e : Ending) (w' : World) : Prop := ∃ a n cap vs, e = .returned (.tuple #[.slice a n cap, .int .i64 (if mayL ls = true then 0 else 1)]) ∧ SE w' a n cap vs ∧ vs.length ≤ (wrL ls.reverse).length ∧
  (mayL ls = true → AllS (wrL ls.reverse) vs) ∧ (mayL ls = false → vs = []) ∧ Below w.heap.size w w'
set_option maxRecDepth 100000 in
set_option maxHeartbeats 8000000 in
theorem merge11_any (b off N cap : Nat) (ls : List Lst) (w : World) (hN : N ≤ 9) (hl : ls.length = N) (hb : b < w.heap.size) (hc : LLc w b off ls) (hok : okLs ls) (hom : mayL ls = true → okM ls) (h4 : (wrL ls.reverse).length ≤ 4096) :
    Calls Try.prog 12 #[.slice (some ⟨b, off, none⟩) N cap] w (MR ls w) := by
  obtain ⟨i0, hi, hz0, hz1, hz2⟩ := info_parts Try.infoEnt
  obtain ⟨r, hr⟩ : ∃ r, mayL ls = r := ⟨_, rfl⟩
  have CM := Lib.hid (fun W (h : Below w.heap.size w W) => mayBe11_any b off N cap ls W hN hl (Nat.lt_of_lt_of_le hb h.size) (hc.old hb h) hok)
  have CE := Lib.hid (fun W (h : Below w.heap.size w W) => each11_any b off N cap ls W hN hl (Nat.lt_of_lt_of_le hb h.size) (hc.old hb h) hok hom)
  rw [hr] at CM
  have HR := Lib.hid hr
  clear hr hc hok hom hl
  refine (callsIn_wide (n := 9)).1 ?_
  refine callsIn_of_wp_marks Try.func12 rfl trivial ?_ rfl
  simp only [Try.ntmps12, List.size_toArray, List.length_cons, List.length_nil, Nat.reduceAdd, Nat.reduceSub, Array.replicate_succ, Array.replicate_zero, List.push_toArray, List.append_toArray, List.nil_append, List.cons_append]
  refine wpIn_wide.2 ?_
  go_wp2_with fail
  have hB : Below w.heap.size w ((w.alloc (.cells #[.slice none 0 0] 22)).alloc (.cells #[.int .i64 0] 25)) := ((Below.refl _ _).alloc (Nat.le_refl _) _).alloc (by simp) _
  have hx2 : Boxed ((w.alloc (.cells #[.slice none 0 0] 22)).alloc (.cells #[.int .i64 0] 25)) w.heap.size 22 (.slice none 0 0) := (Boxed.new w _ _).alloc _
  have hx3 : Boxed ((w.alloc (.cells #[.slice none 0 0] 22)).alloc (.cells #[.int .i64 0] 25)) (w.heap.size + 1) 25 (.int .i64 0) := by
    have h := Boxed.new (w.alloc (.cells #[.slice none 0 0] 22)) 25 (.int .i64 0)
    rw [World.size_alloc] at h
    exact h
  generalize (w.alloc (.cells #[.slice none 0 0] 22)).alloc (.cells #[.int .i64 0] 25) = W at *
  refine (CM.out _ hB).mono ?_
  rintro e w1 ⟨rfl, b1⟩
  have HB1 := Lib.hid (hB.trans (b1.mono hB.size))
  have HX2 := Lib.hid (boxed_below hx2 b1)
  have HX3 := Lib.hid (boxed_below hx3 b1)
  have q2 := HX2.out.cell
  have q3 := HX3.out.cell
  have f2 := HX2.out.frozen
  have f3 := HX3.out.frozen
  have l2 := HX2.out.lt
  have l3 := HX3.out.lt
  clear b1 hB hx2 hx3
  cases r with
  | false =>
    go_wp2_with fail
    have d0 := ((HX2.out.set (.slice none 0 0)).other (show w.heap.size ≠ w.heap.size + 1 by omega) (.int .i64 1)).cell
    have d1 := ((HX3.out.other (show w.heap.size + 1 ≠ w.heap.size by omega) (.slice none 0 0)).set (.int .i64 1)).cell
    refine postM_ret rfl (v := .tuple #[.slice none 0 0, .int .i64 1]) (by simp [results, Try.f12, go_sem, d0, d1]) ?_
    exact ⟨none, 0, 0, [], by rw [HR.out]; rfl, ⟨rfl, .inl rfl, Nat.le_refl _, Nat.zero_le _⟩, Nat.zero_le _, (fun (h : mayL ls = true) => absurd (HR.out.symm.trans h) (by decide)), fun _ => rfl, (HB1.out.setCell (p := ⟨w.heap.size, 0, none⟩) (Nat.le_refl _) _).setCell (p := ⟨w.heap.size + 1, 0, none⟩) (by show w.heap.size ≤ w.heap.size + 1; omega) _⟩
  | true =>
    go_wp2_with fail
    have hB2 : Below w1.heap.size w1 (w1.alloc (.cells #[.slice none 0 0] 22)) := (Below.refl _ _).alloc (Nat.le_refl _) _
    have hx4 := Boxed.new w1 22 (.slice none 0 0)
    obtain ⟨y4, hy4⟩ : ∃ y4, y4 = w1.heap.size := ⟨_, rfl⟩
    rw [← hy4] at hx4 ⊢
    have hy : w.heap.size + 1 < y4 := by rw [hy4]; exact l3
    have HY4 := Lib.hid hy4
    have HX2' := Lib.hid (HX2.out.alloc (.cells #[.slice none 0 0] 22))
    have HX3' := Lib.hid (HX3.out.alloc (.cells #[.slice none 0 0] 22))
    have HBW := Lib.hid (HB1.out.trans (hB2.mono HB1.out.size))
    clear hy4 q2 q3 f2 f3 l2 l3 hB2
    generalize w1.alloc (.cells #[.slice none 0 0] 22) = W2 at *
    refine (CE.out _ HBW.out).mono ?_
    rintro e w3 ⟨Lb, ra, rn, rc, vs, rfl, hLb, hcb, hse, hvN, hA, hF, hlo, hb3⟩
    have hW3 : W2.heap.size ≤ w3.heap.size := hb3.size
    have hx4' := boxed_below hx4 hb3
    have h2' := boxed_below HX2'.out hb3
    have h3' := boxed_below HX3'.out hb3
    have hyl : y4 < W2.heap.size := hx4.lt
    have HB3 := Lib.hid (HBW.out.trans (hb3.mono HBW.out.size))
    obtain ⟨vb, vo, e1, e2, e3⟩ := hse.2.1.at_
    rw [hse.1] at e1 e2
    have hrn : rn ≤ 4096 := by rw [← hse.1]; omega
    have hvlo : 0 < rn → W2.heap.size ≤ vb := fun h => hlo vb vo (e1 h)
    have hSS : ∀ c, (0 < rn ∧ c = vb) → c < w3.heap.size := by
      rintro c ⟨h, rfl⟩
      exact e2 h
    have hst := eachs_stops 8 Lb vb vo rn rc ra vs w3 w3 (by omega) hse.1 e1 e2 e3 (fun c => 0 < rn ∧ c = vb) (fun h => ⟨h, rfl⟩) (Below.refl _ _) hcb
    have hyv : 0 < rn → vb ≠ y4 := fun h e => by have := hvlo h; omega
    have HSE := Lib.hid (And.intro hse (And.intro hvN (And.intro hA hF)))
    have hvl : vs.length ≤ 4096 := by omega
    clear hse hvN hA hF hlo hb3 e1 e2 e3 hcb
    go_wp2_with fail
    refine (wpIn_wide (n := 9)).1 ?_
    refine wpIn_rangeFunc_ownH rfl (by decide) (gf := fnE) (lb := #[.pointer (some ⟨Lb, 0, none⟩)]) rfl trivial (enters_of Try.func31 (by kernel_rfl) rfl)
      hst KpS.trans (kpS_b hSS) (Below.refl _ _) (fun _ => rfl)
      (fun pre W => (∃ v, Boxed W y4 22 v ∧ W.ownsRow w3.heap.size 37 4 v pre.length (ev4 pre) ∧ True) ∧ (Boxed W w.heap.size 22 (.slice none 0 0) ∧ (Boxed W (w.heap.size + 1) 25 (.int .i64 0) ∧ Below w.heap.size w3 W)))
      (fun c pre W => False)
      (OwnFrom.and (Own.from (holdsRow_own w3.heap.size y4 22 37 4 (fun pre : List Ent => pre.length) (fun pre => ev4 pre) (fun pre v => True)) _) (OwnFrom.and (Own.from (boxed_own w.heap.size 22 (fun _ : List Ent => .slice none 0 0)) _) (OwnFrom.and (Own.from (boxed_own (w.heap.size + 1) 25 (fun _ : List Ent => .int .i64 0)) _) (ownFrom_below (by omega) (by omega)))))
      (fun c => ownFrom_pure _ _)
      ⟨⟨_, hx4', World.ownsRow_nil _ _ _ _, trivial⟩, h2', h3', Below.refl _ _⟩
      (fun x a' W => ∃ Bx, y4 + 1 ≤ Bx ∧ EBk W Bx x ∧ a' = { tmps := #[.slice (some ⟨b, off, none⟩) N cap, undef, .pointer (some ⟨w.heap.size, 0, none⟩), .pointer (some ⟨w.heap.size + 1, 0, none⟩), .pointer (some ⟨y4, 0, none⟩), .pointer (some ⟨Bx, 0, none⟩), .slice (some ⟨b, off, none⟩) N cap, .bool true, .bool false, .slice (some ⟨b, off, none⟩) N cap, .func (.func fnE) #[] #[.pointer (some ⟨Lb, 0, none⟩)], evA x, undef, undef, undef, undef, undef, undef, undef, undef], defers := [] })
      (fun x a' => ebk_own (y4 + 1) x _ a' _)
      ?assign ?body ?done ?stop
    case assign =>
      rintro l pre ⟨x1, x2, x3, x4⟩ W K ⟨⟨v, hv, hrow, -⟩, h2, h3, hBW⟩ hK
      have hsW : y4 + 1 ≤ W.heap.size := hv.lt
      gi_wp2
      exact hK _ _ ((KeepsOthers.alloc _ _).from _) (KpS.of_below ((Below.refl W.heap.size W).alloc (Nat.le_refl _) _)) ⟨⟨v, hv.alloc _, hrow.alloc _, trivial⟩, h2.alloc _, h3.alloc _, hBW.alloc (by have := hBW.size; omega) _⟩ ⟨W.heap.size, hsW, EBk.new W (x1, x2, x3, x4), rfl⟩
    case body =>
      rintro l' pre x a' W hl' hr' ⟨⟨v, hv, hrow, -⟩, h2, h3, hBW⟩ ⟨Bx, hBx, hex, rfl⟩ hpl
      have hc1 := hv.cell
      obtain ⟨x0, x1, x2, x3⟩ := hex.cells
      have hxl := hex.lt
      obtain ⟨k1, k2, k3, k4⟩ := x
      have hsW : w3.heap.size ≤ W.heap.size := hBW.size
      have HLEN := Lib.hid (ev4_snoc pre (k1, k2, k3, k4))
      have HBWW := Lib.hid (And.intro h2 (And.intro h3 hBW))
      obtain ⟨pl, hpll⟩ : ∃ pl, pl = pre.length := ⟨_, rfl⟩
      rw [← hpll] at hrow hpl
      have hp1 : ¬ (pl : Int) = 4096 := by omega
      have HPL := Lib.hid hpll
      have hlen : Sem.run Try.prog (Builtin.len_ #[22] 3 #[v]) W = .ok (.int .i64 pl) W := by
        obtain ⟨ra, rc, rfl⟩ := own_form hrow (by decide)
        rfl
      clear hpll h2 h3 hBW hst
      gi_wp2_with (gi_at_builtin; refine wpListIn_append_own _ rfl _ _ 22 rfl w3.heap.size 37 i0 (.agg #[.string ⟨#[]⟩, .string ⟨#[]⟩, .bool false, .int .i64 0]) 4 48 Try.underlying22 hi hz0 hz1 hz2 rfl (by decide) _ _ _ rfl (hrow.alloc _) ⟨W.heap.size, 0, none⟩ 1 1 (ev (k1, k2, k3, k4)) rfl rfl (cell_new4 _ _ _ _ _ _) (by intro u hu; simp [ev] at hu; rcases hu with rfl | rfl | rfl | rfl <;> rfl) (by unfold maxLen; omega) (by omega) (by first | omega | (simp; omega)) ?_; intro v' w1 hown' hgrow _; obtain ⟨g', cap', rfl⟩ := own_form hown' (by decide); obtain ⟨hv1, hv2, hr2, hk2, hb2, hk3⟩ := Boxed.appended2 hv (by decide) hrow (n₁ := w.heap.size) (by omega) (by omega) (by omega) hown' hgrow; have hc1 := hv1.cell; have hf1 := hv1.frozen)
      have r0 := ((HBWW.out.1.alloc (.cells #[.string k1, .string k2, .bool k3, .int .i64 k4] 37)).kept hgrow (HBWW.out.1.not_row (by decide) hrow)).other (show w.heap.size ≠ y4 by omega) (.slice g' (pl + 1) cap')
      have r1 := ((HBWW.out.2.1.alloc (.cells #[.string k1, .string k2, .bool k3, .int .i64 k4] 37)).kept hgrow (HBWW.out.2.1.not_row (by decide) hrow)).other (show w.heap.size + 1 ≠ y4 by omega) (.slice g' (pl + 1) cap')
      have hkp := hk3 (fun c => 0 < rn ∧ c = vb) (fun c hc => ⟨hSS c hc, fun e => hyv hc.1 (hc.2.symm.trans e)⟩)
      refine ⟨hk2.from _, hkp, ⟨_, hv2, ?_⟩, r0, r1, HBWW.out.2.2.trans (hb2.mono (by omega))⟩
      rw [List.length_append, ← HPL.out, ← HLEN.out]
      exact hr2
    case done =>
      rintro D ys W hD hys ⟨⟨v, hv, hrow, -⟩, h2, h3, hBW⟩ hK
      have hc := hv.cell
      obtain ⟨ra, rc, rfl⟩ := own_form hrow (by decide)
      obtain rfl : ys = vs := hys
      have hr2 := Lib.hid hrow
      have HBW := Lib.hid hBW
      have HKK := Lib.hid hK
      have H2 := Lib.hid h2
      have H3 := Lib.hid h3
      have q2 := h2.cell
      have q3 := h3.cell
      have f2 := h2.frozen
      have f3 := h3.frozen
      clear hst hrow hBW hK h2 h3
      gi_wp2
      go_wp2_with fail
      have hsW : w3.heap.size ≤ W.heap.size := HBW.out.size
      have h3b := H3.out.other (show w.heap.size + 1 ≠ w.heap.size by omega) (.slice ra ys.length rc)
      have hr3 := hr2.out.kept (grownBy_setCell' W w.heap.size (.slice ra ys.length rc)) (.inr (H2.out.not_row (by decide) hr2.out).symm)
      have hr4 := hr3.kept (grownBy_setCell' _ (w.heap.size + 1) (.int .i64 0)) (.inr (h3b.not_row (by decide) hr3).symm)
      have k4 := (KeepsOthers.setCell _ ⟨w.heap.size + 1, 0, none⟩ (.int .i64 0)).same D _ ((KeepsOthers.setCell W ⟨w.heap.size, 0, none⟩ (.slice ra ys.length rc)).same D _ HKK.out rfl) rfl
      have hr5 := ownsRow_putObj hr4 (.deferred none) k4 rfl
      have d0 := (((H2.out.set (.slice ra ys.length rc)).other (show w.heap.size ≠ w.heap.size + 1 by omega) (.int .i64 0)).kept (grownBy_putObj' _ D (.deferred none)) (by intro e; cases e; omega)).cell
      have d1 := ((h3b.set (.int .i64 0)).kept (grownBy_putObj' _ D (.deferred none)) (by intro e; cases e; omega)).cell
      have hBE := ((HB3.out.trans (HBW.out.mono (by omega))).setCell (p := ⟨w.heap.size, 0, none⟩) (Nat.le_refl _) (.slice ra ys.length rc)).setCell (p := ⟨w.heap.size + 1, 0, none⟩) (by show w.heap.size ≤ w.heap.size + 1; omega) (.int .i64 0)
      have hBF := hBE.trans ((belowK_b (w := w) (Nat.le_refl _) _ D _ (.deferred none) (by omega) k4 rfl rfl).mono (Nat.le_refl _))
      refine ⟨by simp, .inl ⟨_, _, rfl, run_takeDeferred k4, ?_⟩⟩
      refine ⟨.tuple #[.slice ra ys.length rc, .int .i64 0], by simp [results, Try.f12, go_sem, d0, d1], ?_⟩
      obtain ⟨a', c', e1, e2⟩ := own_se hr5 rfl
      cases e1
      obtain ⟨hse, hvN, hA, hF⟩ := HSE.out
      exact ⟨_, _, _, ys, by rw [HR.out]; rfl, e2, hvN, hA, hF, hBF⟩
    case stop =>
      rintro D c pre W hD hs h hK
      exact h.elim
end Go.Proofs.Ytdpinkipcaolhaa
