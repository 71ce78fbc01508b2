/-
  Layer 7 (sorted): the contracts of the document's own Put, Get, Drop, From. Conditions: fewer keys than 1000.
-/
import Derived.Test.YteolhbcmffbdlaaOd
import Derived.Test.YteolhbcmffbdlaaOj
import Derived.Lib.MinMax
import Derived.IntWalk
namespace Go.Proofs.Yteolhbcmffbdlaa
open Go.RowKit
set_option linter.unusedVariables false
set_option linter.unusedSimpArgs false

section
variable {α : Type}
theorem ix_at {ks : List Ky} {a r : List Ky} {k : Ky} (h : ks = a ++ k :: r) (ha : ∀ t ∈ a, Op.bytesLess t k = true) : ixL ks k = a.length ∧ isL ks k = true := by
  have h1 : ixL ks k = a.length := by
    unfold ixL
    rw [h, List.takeWhile_append_of_pos ha, List.length_append]
    simp [less_irr]
  refine ⟨h1, ?_⟩
  unfold isL
  rw [h1, h]
  simp
theorem ix_none {ks : List Ky} {a r : List Ky} {k : Ky} (h : ks = a ++ r) (ha : ∀ t ∈ a, Op.bytesLess t k = true) (hr : ∀ t ∈ r, Op.bytesLess k t = true) : ixL ks k = a.length ∧ isL ks k = false := by
  have h1 : ixL ks k = a.length := by
    unfold ixL
    rw [h, List.takeWhile_append_of_pos ha, List.length_append]
    cases r with
    | nil => simp
    | cons x r => simp [less_asymm _ _ (hr x (List.mem_cons_self ..))]
  refine ⟨h1, ?_⟩
  unfold isL
  rw [h1, h]
  cases r with
  | nil => simp
  | cons x r =>
    simp
    rintro rfl
    have := hr x (List.mem_cons_self ..)
    rw [less_irr] at this; cases this
/-- Where a key stands in a list that rises, as a cut says it. -/
theorem place_of {l : List (Ky × α)} (h : Rise l) (k : Ky) : ∃ a r, ixL (l.map (·.1)) k = a.length ∧ isL (l.map (·.1)) k = (getA k l).isSome ∧ l.take a.length = a ∧ l.drop (a.length + (if (getA k l).isSome then 1 else 0)) = r ∧ (∀ v, putA k v l = a ++ (k, v) :: r) ∧ delA k l = a ++ r ∧ (∀ v, getA k l = some v → l[a.length]? = some (k, v)) ∧ a.length + (if (getA k l).isSome then 1 else 0) ≤ l.length ∧ fromA k l = l.drop a.length := by
  cases hg : getA k l with
  | some x =>
    obtain ⟨a, r, rfl⟩ := split_get hg
    obtain ⟨_, _, ha, hr⟩ := rise_parts.1 h
    obtain ⟨h1, h2⟩ := ix_at (ks := (a ++ (k, x) :: r).map (·.1)) (a := a.map (·.1)) (r := r.map (·.1)) (k := k) (by simp) (by intro t ht; obtain ⟨p, hp, rfl⟩ := List.mem_map.1 ht; exact ha p hp)
    rw [List.length_map] at h1
    refine ⟨a, r, h1, by rw [h2]; rfl, by simp, by simp, fun v => putA_at h, delA_at h, ?_, by simp, ?_⟩
    · intro v hv; cases hv; simp
    · rw [fromA_more (less_irr k)]
      have e1 : fromA k a = [] := List.filter_eq_nil_iff.2 fun p hp => by rw [ha p hp]; decide
      have e2 : fromA k r = r := List.filter_eq_self.2 fun p hp => by rw [less_asymm _ _ (hr p hp)]; rfl
      rw [e1, e2]; simp
  | none =>
    obtain ⟨a, r, rfl, ha, hr⟩ := split_none h hg
    obtain ⟨h1, h2⟩ := ix_none (ks := (a ++ r).map (·.1)) (a := a.map (·.1)) (r := r.map (·.1)) (k := k) (by simp) (by intro t ht; obtain ⟨p, hp, rfl⟩ := List.mem_map.1 ht; exact ha p hp) (by intro t ht; obtain ⟨p, hp, rfl⟩ := List.mem_map.1 ht; exact hr p hp)
    rw [List.length_map] at h1
    refine ⟨a, r, h1, by rw [h2]; rfl, by simp, by simp, fun v => ?_, ?_, ?_, by simp, ?_⟩
    · unfold putA
      rw [List.filter_append, List.filter_append, ah_lt ha, ah_gt ha, bh_lt hr, bh_gt hr]; simp
    · unfold delA
      rw [List.filter_append, List.filter_append, ah_lt ha, ah_gt ha, bh_lt hr, bh_gt hr]; simp
    · intro v hv; cases hv
    · unfold fromA
      rw [List.filter_append, List.filter_eq_nil_iff.2 (fun p hp => by rw [ha p hp]; decide), List.filter_eq_self.2 (fun p hp => by rw [less_asymm _ _ (hr p hp)]; rfl)]; simp
end
/-- The document's map as a value. -/
def RefV (w : World) (q : Value) (l : List (Ky × Int)) : Prop := ∃ a c va vc, q = .agg #[.slice a l.length c, .slice va l.length vc] ∧ Rd w a (l.map (·.1)) ∧ RdZ w va (l.map (·.2)) ∧ l.length ≤ c ∧ l.length ≤ vc ∧ c ≤ maxLen ∧ vc ≤ maxLen
theorem RefV.old {w w' : World} {q : Value} {l : List (Ky × Int)} (h : RefV w q l) (hb : Below w.heap.size w w') : RefV w' q l := by
  obtain ⟨a, c, va, vc, rfl, h1, h2, h3⟩ := h
  exact ⟨a, c, va, vc, rfl, h1.old hb, h2.old hb, h3⟩
theorem own_rdz {w : World} {base n cap : Nat} {t : TypeId} {a : Option Addr} {vs : List Int} (h : w.ownsRow base t 1 (.slice a n cap) n (iv vs)) : RdZ w a vs := by
  rcases h.2 with ⟨hv, hnil⟩ | ⟨g, c, cur, hv, hbg, hh, _⟩
  · left
    have hn : (iv vs).length = 0 := by have := h.1; rw [hnil] at this; simpa using this
    rw [iv_length] at hn
    exact List.length_eq_zero_iff.1 hn
  · cases hv
    have hl := h.1
    rw [iv_length, Nat.mul_one] at hl
    refine .inr ⟨g, 0, rfl, (h.lt g rfl).2, fun i hi => ?_⟩
    rw [Nat.zero_add, h.cellAt i (by omega)]
    simp [iv, hi]
theorem own_caps {w : World} {base n cap : Nat} {t : TypeId} {a : Option Addr} {xs : List Value} (h : w.ownsRow base t 1 (.slice a n cap) n xs) : n ≤ cap ∧ cap ≤ maxLen := by
  rcases h.2 with ⟨hv, hnil⟩ | ⟨g, c, cur, hv, hbg, hh, h3, h4, _⟩
  · cases hv; exact ⟨Nat.le_refl _, Nat.zero_le _⟩
  · cases hv; exact ⟨h3, h4⟩
theorem refV_of {w : World} {v1 v2 : Value} {l : List (Ky × Int)} {b : Nat} (h1 : w.ownsRow b 9 1 v1 l.length (sv (l.map (·.1)))) (h2 : w.ownsRow b 3 1 v2 l.length (iv (l.map (·.2)))) : RefV w (.agg #[v1, v2]) l := by
  obtain ⟨a, c, rfl⟩ := own_slice h1
  obtain ⟨va, vc, rfl⟩ := own_slice h2
  refine ⟨a, c, va, vc, rfl, own_rd (ts := l.map (·.1)) (by rw [List.length_map]; exact h1), own_rdz h2, (own_caps h1).1, (own_caps h2).1, (own_caps h1).2, (own_caps h2).2⟩
/-- Its lists lie from a block on. -/
def RefB (base : Nat) (w : World) (q : Value) (l : List (Ky × Int)) : Prop := ∃ a c va vc, q = .agg #[.slice a l.length c, .slice va l.length vc] ∧ (Rd w a (l.map (·.1)) ∧ ∀ y, a = some y → base ≤ y.block) ∧ (RdZ w va (l.map (·.2)) ∧ ∀ y, va = some y → base ≤ y.block) ∧ l.length ≤ c ∧ l.length ≤ vc ∧ c ≤ maxLen ∧ vc ≤ maxLen
theorem RefB.ref {base : Nat} {w : World} {q : Value} {l : List (Ky × Int)} (h : RefB base w q l) : RefV w q l := by
  obtain ⟨a, c, va, vc, rfl, h1, h2, h3⟩ := h
  exact ⟨a, c, va, vc, rfl, h1.1, h2.1, h3⟩
theorem own_base {w : World} {base n cap : Nat} {t : TypeId} {a : Option Addr} {xs : List Value} (h : w.ownsRow base t 1 (.slice a n cap) n xs) : ∀ y, a = some y → base ≤ y.block := by
  rintro y rfl
  rcases h.2 with ⟨hv, hnil⟩ | ⟨g, c, cur, hv, hbg, hh, _⟩
  · cases hv
  · cases hv; exact hbg
theorem refB_of {w : World} {v1 v2 : Value} {l : List (Ky × Int)} {b : Nat} (h1 : w.ownsRow b 9 1 v1 l.length (sv (l.map (·.1)))) (h2 : w.ownsRow b 3 1 v2 l.length (iv (l.map (·.2)))) : RefB b w (.agg #[v1, v2]) l := by
  obtain ⟨a, c, rfl⟩ := own_slice h1
  obtain ⟨va, vc, rfl⟩ := own_slice h2
  exact ⟨a, c, va, vc, rfl, ⟨own_rd (ts := l.map (·.1)) (by rw [List.length_map]; exact h1), own_base h1⟩, ⟨own_rdz h2, own_base h2⟩, (own_caps h1).1, (own_caps h2).1, (own_caps h1).2, (own_caps h2).2⟩
theorem RefB.set {base : Nat} {w : World} {q : Value} {l : List (Ky × Int)} (h : RefB base w q l) {g i : Nat} (hg : g < base) (u : Value) : RefB base (w.setCell ⟨g, i, none⟩ u) q l := by
  obtain ⟨a, c, va, vc, rfl, ⟨h1, h1b⟩, ⟨h2, h2b⟩, h3⟩ := h
  refine ⟨a, c, va, vc, rfl, ⟨?_, h1b⟩, ⟨?_, h2b⟩, h3⟩
  · rcases h1 with h | ⟨b, off, rfl, hlt, hc⟩
    · exact .inl h
    · have := h1b _ rfl
      simp only at this
      exact .inr ⟨b, off, rfl, by simpa [World.setCell] using hlt, fun j hj => (World.cell?_of_block (w := w) (Below.heap_setCell w _ _ b (by simp only; omega))).trans (hc j hj)⟩
  · rcases h2 with h | ⟨b, off, rfl, hlt, hc⟩
    · exact .inl h
    · have := h2b _ rfl
      simp only at this
      exact .inr ⟨b, off, rfl, by simpa [World.setCell] using hlt, fun j hj => (World.cell?_of_block (w := w) (Below.heap_setCell w _ _ b (by simp only; omega))).trans (hc j hj)⟩
theorem refV_empty (w : World) : RefV w (.agg #[.slice none 0 0, .slice none 0 0]) [] := ⟨none, 0, none, 0, rfl, .inl rfl, .inl rfl, Nat.le_refl _, Nat.le_refl _, Nat.zero_le _, Nat.zero_le _⟩
/-- The document's cut, of a list that rises. -/
theorem cut_ref {w : World} {a va ma ua : Option Addr} {c vc mc uc : Nat} {l m : List (Ky × Int)} (h1 : Rd w a (l.map (·.1))) (h2 : RdZ w va (l.map (·.2))) (m1 : Rd w ma (m.map (·.1))) (m2 : RdZ w ua (m.map (·.2))) (hc : l.length ≤ c) (hvc : l.length ≤ vc) (hcm : c ≤ maxLen) (hvm : vc ≤ maxLen) (hl : l.length ≤ 1000) (hm : m.length ≤ 1000) (k many : Nat) (hk : k + many ≤ l.length) :
    Calls Try.prog 30 #[.agg #[.slice a l.length c, .slice va l.length vc], .int .i64 (k : Nat), .int .i64 (many : Nat), .agg #[.slice ma m.length mc, .slice ua m.length uc]] w fun e w' => ∃ q, e = .returned q ∧ RefB w.heap.size w' q (l.take k ++ m ++ l.drop (k + many)) ∧ Below w.heap.size w w' := by
  have h := cut_any a va ma ua c vc mc uc k many (l.map (·.1)) (m.map (·.1)) (l.map (·.2)) (m.map (·.2)) w h1 h2 m1 m2 (by simpa using hk) (by simp) (by simp) (by simpa using hc) (by simpa using hvc) hcm hvm (by simpa using hl) (by simpa using hm)
  simp only [List.length_map] at h
  refine h.mono ?_
  rintro e w' ⟨v1, v2, rfl, o1, o2, hb⟩
  refine ⟨_, rfl, refB_of (b := w.heap.size) ?_ ?_, hb⟩
  · have e1 : (l.take k ++ m ++ l.drop (k + many)).length = k + m.length + (l.length - (k + many)) := by simp; omega
    rw [e1]
    simpa using o1
  · have e1 : (l.take k ++ m ++ l.drop (k + many)).length = k + m.length + (l.length - (k + many)) := by simp; omega
    rw [e1]
    simpa using o2
/-- What the document's calls answer. -/
def RefR (w : World) (l : List (Ky × Int)) (b : Bool) (e : Ending) (w' : World) : Prop := ∃ q, e = .returned (.tuple #[q, .bool b]) ∧ RefV w' q l ∧ Below w.heap.size w w'
def RefRB (w : World) (l : List (Ky × Int)) (b : Bool) (e : Ending) (w' : World) : Prop := ∃ q, e = .returned (.tuple #[q, .bool b]) ∧ RefB w.heap.size w' q l ∧ Below w.heap.size w w'
theorem RefB.low {base base' : Nat} {w : World} {q : Value} {l : List (Ky × Int)} (h : RefB base w q l) (hb : base' ≤ base) : RefB base' w q l := by
  obtain ⟨a, c, va, vc, rfl, h1, h2, h3⟩ := h
  exact ⟨a, c, va, vc, rfl, ⟨h1.1, fun y hy => Nat.le_trans hb (h1.2 y hy)⟩, ⟨h2.1, fun y hy => Nat.le_trans hb (h2.2 y hy)⟩, h3⟩
set_option maxRecDepth 100000 in
set_option maxHeartbeats 2000000 in
theorem rput_base {w : World} {q : Value} {l : List (Ky × Int)} (h : RefV w q l) (hr : Rise l) (hl : l.length ≤ 999) (k : Ky) (v : Int) :
    Calls Try.prog 10 #[q, .string ⟨k.toArray⟩, .int .i64 v] w (RefRB w (putA k v l) (getA k l).isSome) := by
  obtain ⟨a, c, va, vc, rfl, h1, h2, h3, h4, h5, h6⟩ := h
  obtain ⟨x, r, i1, i2, i3, i4, i5, i6, i7, i8, i9⟩ := place_of hr k
  obtain ⟨b, hb⟩ : ∃ b, b = (getA k l).isSome := ⟨_, rfl⟩
  rw [← hb] at i2 i4 i8
  rw [← hb]
  clear hb
  have P := Lib.hid (fun (W : World) (hW : Below w.heap.size w W) => place_any a c (.slice va l.length vc) (l.map (·.1)) ⟨k.toArray⟩ W (h1.old hW) (by simp; omega))
  rw [List.length_map] at P
  have P2 : Hid (∀ W, Below w.heap.size w W → Calls Try.prog 29 #[.agg #[.slice a l.length c, .slice va l.length vc], .string ⟨k.toArray⟩] W fun e w' => e = .returned (.tuple #[.int .i64 (x.length : Nat), .bool b]) ∧ Below W.heap.size W w') := Lib.hid (fun W hW => by
    have := P.out W hW
    rw [i1, i2] at this
    exact this)
  have hput : l.take x.length ++ [(k, v)] ++ l.drop (x.length + (if b = true then 1 else 0)) = putA k v l := by rw [i3, i4, i5]; simp
  have C : Hid (∀ (W : World) (hW : Below w.heap.size w W) (mo ua : Option Addr) (hmo : Rd W mo [k]) (hua : RdZ W ua [v]) (hk : x.length + (if b = true then 1 else 0) ≤ l.length), Calls Try.prog 30 #[.agg #[.slice a l.length c, .slice va l.length vc], .int .i64 (x.length : Nat), .int .i64 ((if b = true then 1 else 0 : Nat) : Nat), .agg #[.slice mo 1 1, .slice ua 1 1]] W fun e w' => ∃ q, e = .returned q ∧ RefB W.heap.size w' q (putA k v l) ∧ Below W.heap.size W w') := Lib.hid (fun W hW mo ua hmo hua hk => by
    have := cut_ref (m := [(k, v)]) (mc := 1) (uc := 1) (h1.old hW) (h2.old hW) hmo hua h3 h4 h5 h6 (by omega) (by simp) x.length (if b = true then 1 else 0) hk
    rw [hput] at this
    exact this)
  have I8 := Lib.hid i8
  obtain ⟨n, hn⟩ : ∃ n, n = l.length := ⟨_, rfl⟩
  rw [← hn] at P2 C hl I8 ⊢
  clear P h1 h2 h3 h4 h5 h6 i1 i2 i3 i4 i5 i6 i7 i8 i9 hput hn hr
  go_enter Try.func10, Try.ntmps10
  go_wp2_with fail
  cases b with
  | true =>
      refine (P2.out _ (((Below.refl _ _).alloc (Nat.le_refl _) _).alloc (by simp) _)).mono ?_
      rintro e w1 ⟨rfl, b1⟩
      obtain ⟨hc1, hf1⟩ := bcell b1
      have hz := b1.size
      simp only [World.size_alloc] at hz
      have hs1 : w.heap.size + 1 < w1.heap.size := by omega
      have B1 := Lib.hid ((((Below.refl w.heap.size w).alloc (Nat.le_refl _) _).alloc (by simp) _).trans (b1.mono (by simp; omega)))
      clear b1
      go_wp2_with fail
      have bA := (Below.refl w1.heap.size w1).alloc (Nat.le_refl _) (.cells #[.string ⟨k.toArray⟩] 9)
      have rk : Rd ((w1.alloc (.cells #[.string ⟨k.toArray⟩] 9)).alloc (.cells #[.int .i64 v] 3)) (some ⟨w1.heap.size, 0, none⟩) [k] := .inr ⟨w1.heap.size, 0, rfl, by simp; omega, fun i hi => by
        obtain rfl : i = 0 := by simpa using hi
        simp⟩
      have rz : RdZ ((w1.alloc (.cells #[.string ⟨k.toArray⟩] 9)).alloc (.cells #[.int .i64 v] 3)) (some ⟨w1.heap.size + 1, 0, none⟩) [v] := .inr ⟨w1.heap.size + 1, 0, rfl, by simp, fun i hi => by
        obtain rfl : i = 0 := by simpa using hi
        simp⟩
      have bB := bA.alloc (by simp) (.cells #[.int .i64 v] 3)
      refine (C.out _ (B1.out.trans (bB.mono B1.out.size)) _ _ rk rz I8.out).mono ?_
      rintro e w2 ⟨q2, rfl, v2, b2⟩
      have BB := Lib.hid (bt bB b2)
      have V2 := Lib.hid v2
      have hz2 := BB.out.size
      obtain ⟨hc2, hf2⟩ := bcell BB.out
      have hs2 : w.heap.size + 1 < w2.heap.size := by omega
      obtain ⟨qa, qc, qva, qvc, rfl, -⟩ := v2
      have x0 : w2.cell? ⟨w.heap.size + 1, 0, none⟩ = some (.slice none 0 0) := by rw [hc2 _ _ hs1, hc1 _ _ (by simp)]; simp
      have x1 : w2.cell? ⟨w.heap.size + 1, 1, none⟩ = some (.slice none 0 0) := by rw [hc2 _ _ hs1, hc1 _ _ (by simp)]; simp
      clear rk rz bA bB b2
      go_wp2_with fail
      have V3 := (V2.out.set (g := w.heap.size + 1) (i := 0) (by simp; omega) (.slice qa (putA k v l).length qc)).set (g := w.heap.size + 1) (i := 1) (by simp; omega) (.slice qva (putA k v l).length qvc)
      have hB := ((B1.out.trans (BB.out.mono B1.out.size)).setCell (p := ⟨w.heap.size + 1, 0, none⟩) (by show w.heap.size ≤ w.heap.size + 1; omega) (.slice qa (putA k v l).length qc)).setCell (p := ⟨w.heap.size + 1, 1, none⟩) (by show w.heap.size ≤ w.heap.size + 1; omega) (.slice qva (putA k v l).length qvc)
      have d0 : ((w2.setCell ⟨w.heap.size + 1, 0, none⟩ (.slice qa (putA k v l).length qc)).setCell ⟨w.heap.size + 1, 1, none⟩ (.slice qva (putA k v l).length qvc)).cell? ⟨w.heap.size + 1, 0, none⟩ = some (.slice qa (putA k v l).length qc) := by
        rw [World.cell?_setCell_other _ _ _ _ (by intro e; simp at e)]
        exact World.cell?_setCell_same' _ _ _ (by rw [x0]; rfl)
      have d1 : ((w2.setCell ⟨w.heap.size + 1, 0, none⟩ (.slice qa (putA k v l).length qc)).setCell ⟨w.heap.size + 1, 1, none⟩ (.slice qva (putA k v l).length qvc)).cell? ⟨w.heap.size + 1, 1, none⟩ = some (.slice qva (putA k v l).length qvc) := by
        refine World.cell?_setCell_same' _ _ _ ?_
        rw [World.cell?_setCell_other _ _ _ _ (by intro e; simp at e), x1]; rfl
      refine bodyPost_ret (v := .tuple #[.agg #[.slice qa (putA k v l).length qc, .slice qva (putA k v l).length qvc], .bool true]) (by simp [results, Try.f10, go_sem, d0, d1]) rfl ?_
      exact ⟨_, rfl, V3.low (by simp; omega), hB⟩
  | false =>
      refine (P2.out _ (((Below.refl _ _).alloc (Nat.le_refl _) _).alloc (by simp) _)).mono ?_
      rintro e w1 ⟨rfl, b1⟩
      obtain ⟨hc1, hf1⟩ := bcell b1
      have hz := b1.size
      simp only [World.size_alloc] at hz
      have hs1 : w.heap.size + 1 < w1.heap.size := by omega
      have B1 := Lib.hid ((((Below.refl w.heap.size w).alloc (Nat.le_refl _) _).alloc (by simp) _).trans (b1.mono (by simp; omega)))
      clear b1
      go_wp2_with fail
      have bA := (Below.refl w1.heap.size w1).alloc (Nat.le_refl _) (.cells #[.string ⟨k.toArray⟩] 9)
      have rk : Rd ((w1.alloc (.cells #[.string ⟨k.toArray⟩] 9)).alloc (.cells #[.int .i64 v] 3)) (some ⟨w1.heap.size, 0, none⟩) [k] := .inr ⟨w1.heap.size, 0, rfl, by simp; omega, fun i hi => by
        obtain rfl : i = 0 := by simpa using hi
        simp⟩
      have rz : RdZ ((w1.alloc (.cells #[.string ⟨k.toArray⟩] 9)).alloc (.cells #[.int .i64 v] 3)) (some ⟨w1.heap.size + 1, 0, none⟩) [v] := .inr ⟨w1.heap.size + 1, 0, rfl, by simp, fun i hi => by
        obtain rfl : i = 0 := by simpa using hi
        simp⟩
      have bB := bA.alloc (by simp) (.cells #[.int .i64 v] 3)
      refine (C.out _ (B1.out.trans (bB.mono B1.out.size)) _ _ rk rz I8.out).mono ?_
      rintro e w2 ⟨q2, rfl, v2, b2⟩
      have BB := Lib.hid (bt bB b2)
      have V2 := Lib.hid v2
      have hz2 := BB.out.size
      obtain ⟨hc2, hf2⟩ := bcell BB.out
      have hs2 : w.heap.size + 1 < w2.heap.size := by omega
      obtain ⟨qa, qc, qva, qvc, rfl, -⟩ := v2
      have x0 : w2.cell? ⟨w.heap.size + 1, 0, none⟩ = some (.slice none 0 0) := by rw [hc2 _ _ hs1, hc1 _ _ (by simp)]; simp
      have x1 : w2.cell? ⟨w.heap.size + 1, 1, none⟩ = some (.slice none 0 0) := by rw [hc2 _ _ hs1, hc1 _ _ (by simp)]; simp
      clear rk rz bA bB b2
      go_wp2_with fail
      have V3 := (V2.out.set (g := w.heap.size + 1) (i := 0) (by simp; omega) (.slice qa (putA k v l).length qc)).set (g := w.heap.size + 1) (i := 1) (by simp; omega) (.slice qva (putA k v l).length qvc)
      have hB := ((B1.out.trans (BB.out.mono B1.out.size)).setCell (p := ⟨w.heap.size + 1, 0, none⟩) (by show w.heap.size ≤ w.heap.size + 1; omega) (.slice qa (putA k v l).length qc)).setCell (p := ⟨w.heap.size + 1, 1, none⟩) (by show w.heap.size ≤ w.heap.size + 1; omega) (.slice qva (putA k v l).length qvc)
      have d0 : ((w2.setCell ⟨w.heap.size + 1, 0, none⟩ (.slice qa (putA k v l).length qc)).setCell ⟨w.heap.size + 1, 1, none⟩ (.slice qva (putA k v l).length qvc)).cell? ⟨w.heap.size + 1, 0, none⟩ = some (.slice qa (putA k v l).length qc) := by
        rw [World.cell?_setCell_other _ _ _ _ (by intro e; simp at e)]
        exact World.cell?_setCell_same' _ _ _ (by rw [x0]; rfl)
      have d1 : ((w2.setCell ⟨w.heap.size + 1, 0, none⟩ (.slice qa (putA k v l).length qc)).setCell ⟨w.heap.size + 1, 1, none⟩ (.slice qva (putA k v l).length qvc)).cell? ⟨w.heap.size + 1, 1, none⟩ = some (.slice qva (putA k v l).length qvc) := by
        refine World.cell?_setCell_same' _ _ _ ?_
        rw [World.cell?_setCell_other _ _ _ _ (by intro e; simp at e), x1]; rfl
      refine bodyPost_ret (v := .tuple #[.agg #[.slice qa (putA k v l).length qc, .slice qva (putA k v l).length qvc], .bool false]) (by simp [results, Try.f10, go_sem, d0, d1]) rfl ?_
      exact ⟨_, rfl, V3.low (by simp; omega), hB⟩
theorem rput_any {w : World} {q : Value} {l : List (Ky × Int)} (h : RefV w q l) (hr : Rise l) (hl : l.length ≤ 999) (k : Ky) (v : Int) :
    Calls Try.prog 10 #[q, .string ⟨k.toArray⟩, .int .i64 v] w (RefR w (putA k v l) (getA k l).isSome) :=
  (rput_base h hr hl k v).mono fun _ _ ⟨q, h1, h2, h3⟩ => ⟨q, h1, h2.ref, h3⟩
/-- Its own place, in whatever world. -/
theorem place_ref {w : World} {a : Option Addr} {c : Nat} {vals : Value} {l : List (Ky × Int)} (h1 : Rd w a (l.map (·.1))) (hl : l.length ≤ 1000) {k : Ky} {x : Nat} {b : Bool} (i1 : ixL (l.map (·.1)) k = x) (i2 : isL (l.map (·.1)) k = b) :
    ∀ W, Below w.heap.size w W → Calls Try.prog 29 #[.agg #[.slice a l.length c, vals], .string ⟨k.toArray⟩] W fun e w' => e = .returned (.tuple #[.int .i64 (x : Nat), .bool b]) ∧ Below W.heap.size W w' := by
  intro W hW
  have h := place_any a c vals (l.map (·.1)) ⟨k.toArray⟩ W (h1.old hW) (by simp; omega)
  rw [List.length_map] at h
  rw [show (⟨k.toArray⟩ : ByteArray).data.toList = k from rfl, i1, i2] at h
  exact h
set_option maxRecDepth 100000 in
set_option maxHeartbeats 2000000 in
theorem rget_any {w : World} {q : Value} {l : List (Ky × Int)} (h : RefV w q l) (hr : Rise l) (hl : l.length ≤ 999) (k : Ky) :
    Calls Try.prog 13 #[q, .string ⟨k.toArray⟩] w fun e w' => e = .returned (.tuple #[.int .i64 ((getA k l).getD 0), .bool (getA k l).isSome]) ∧ Below w.heap.size w w' := by
  obtain ⟨a, c, va, vc, rfl, h1, h2, h3, h4, h5, h6⟩ := h
  obtain ⟨x, r, i1, i2, i3, i4, i5, i6, i7, i8, i9⟩ := place_of hr k
  have P := Lib.hid (place_ref (c := c) (vals := .slice va l.length vc) h1 (by omega) i1 i2)
  cases hg : getA k l with
  | none =>
    rw [hg] at P
    obtain ⟨n, hn⟩ : ∃ n, n = l.length := ⟨_, rfl⟩
    rw [← hn] at P hl ⊢
    clear h1 h2 h3 h4 h5 h6 i1 i2 i3 i4 i5 i6 i7 i8 i9 hn hr hg
    go_enter Try.func13, Try.ntmps13
    go_wp2_with fail
    refine (P.out _ ((Below.refl _ _).alloc (Nat.le_refl _) _)).mono ?_
    rintro e w1 ⟨rfl, b1⟩
    have B1 := Lib.hid (bt ((Below.refl w.heap.size w).alloc (Nat.le_refl _) _) b1)
    clear b1
    go_wp2_with fail
    go_ret2
    exact ⟨rfl, B1.out⟩
  | some v =>
    rw [hg] at P
    have hv : x.length < (l.map (·.2)).length := by
      have := i7 v hg
      rw [List.length_map]
      exact (List.getElem?_eq_some_iff.1 this).1
    have hvv : (l.map (·.2))[x.length] = v := by
      have := i7 v hg
      rw [List.getElem?_eq_some_iff] at this
      obtain ⟨hh, e⟩ := this
      simp [e]
    have h2' := h2.resolve_left (by intro e; rw [e] at hv; cases hv)
    obtain ⟨vb, vo, rfl, hlt, hcell⟩ := h2'
    have hc0 := hcell x.length hv
    rw [hvv] at hc0
    rw [List.length_map] at hv
    obtain ⟨n, hn⟩ : ∃ n, n = l.length := ⟨_, rfl⟩
    rw [← hn] at P hl hv ⊢
    obtain ⟨xn, hx⟩ : ∃ xn, xn = x.length := ⟨_, rfl⟩
    rw [← hx] at P hv hc0
    clear h1 h2 h3 h4 h5 h6 i1 i2 i3 i4 i5 i6 i7 i8 i9 hn hr hg hcell hvv hx
    go_enter Try.func13, Try.ntmps13
    go_wp2_with fail
    refine (P.out _ ((Below.refl _ _).alloc (Nat.le_refl _) _)).mono ?_
    rintro e w1 ⟨rfl, b1⟩
    obtain ⟨hc, hf⟩ := bcell b1
    have hz := b1.size
    simp only [World.size_alloc] at hz
    have hz1 : w.heap.size < w1.heap.size := by omega
    have hz2 : vb < w1.heap.size := by omega
    have B1 := Lib.hid (bt ((Below.refl w.heap.size w).alloc (Nat.le_refl _) _) b1)
    have hc1 : w1.cell? ⟨vb, vo + xn, none⟩ = some (.int .i64 v) := (B1.out.cell (p := ⟨vb, vo + xn, none⟩) hlt).trans hc0
    clear b1
    go_wp2_with fail
    go_ret2
    exact ⟨rfl, B1.out⟩
set_option maxRecDepth 100000 in
set_option maxHeartbeats 2000000 in
theorem rdrop_none {w : World} {q : Value} {l : List (Ky × Int)} (h : RefV w q l) (hr : Rise l) (hl : l.length ≤ 999) (k : Ky) (hg : getA k l = none) :
    Calls Try.prog 14 #[q, .string ⟨k.toArray⟩] w (RefR w l false) := by
  have HQ := Lib.hid h
  obtain ⟨a, c, va, vc, rfl, h1, h2, h3, h4, h5, h6⟩ := h
  obtain ⟨x, r, i1, i2, i3, i4, i5, i6, i7, i8, i9⟩ := place_of hr k
  have P := Lib.hid (place_ref (c := c) (vals := .slice va l.length vc) h1 (by omega) i1 i2)
  rw [hg] at P
  obtain ⟨n, hn⟩ : ∃ n, n = l.length := ⟨_, rfl⟩
  rw [← hn] at P hl HQ ⊢
  clear h1 h2 h3 h4 h5 h6 i1 i2 i3 i4 i5 i6 i7 i8 i9 hn hr hg
  go_enter Try.func14, Try.ntmps14
  go_wp2_with fail
  refine (P.out _ (((Below.refl _ _).alloc (Nat.le_refl _) _).alloc (by simp) _)).mono ?_
  rintro e w1 ⟨rfl, b1⟩
  obtain ⟨hc1, hf1⟩ := bcell b1
  have hz := b1.size
  simp only [World.size_alloc] at hz
  have hs0 : w.heap.size < w1.heap.size := by omega
  have hs1 : w.heap.size + 1 < w1.heap.size := by omega
  have x0 : w1.cell? ⟨w.heap.size + 1, 0, none⟩ = some (.slice none 0 0) := by rw [hc1 _ _ (by simp)]; simp
  have x1 : w1.cell? ⟨w.heap.size + 1, 1, none⟩ = some (.slice none 0 0) := by rw [hc1 _ _ (by simp)]; simp
  have B1 := Lib.hid ((((Below.refl w.heap.size w).alloc (Nat.le_refl _) _).alloc (by simp) _).trans (b1.mono (by simp; omega)))
  clear b1
  go_wp2_with fail
  have hB := (B1.out.setCell (p := ⟨w.heap.size + 1, 0, none⟩) (by show w.heap.size ≤ w.heap.size + 1; omega) (.slice a n c)).setCell (p := ⟨w.heap.size + 1, 1, none⟩) (by show w.heap.size ≤ w.heap.size + 1; omega) (.slice va n vc)
  have d0 : ((w1.setCell ⟨w.heap.size + 1, 0, none⟩ (.slice a n c)).setCell ⟨w.heap.size + 1, 1, none⟩ (.slice va n vc)).cell? ⟨w.heap.size + 1, 0, none⟩ = some (.slice a n c) := by
    rw [World.cell?_setCell_other _ _ _ _ (by intro e; simp at e)]
    exact World.cell?_setCell_same' _ _ _ (by rw [x0]; rfl)
  have d1 : ((w1.setCell ⟨w.heap.size + 1, 0, none⟩ (.slice a n c)).setCell ⟨w.heap.size + 1, 1, none⟩ (.slice va n vc)).cell? ⟨w.heap.size + 1, 1, none⟩ = some (.slice va n vc) := by
    refine World.cell?_setCell_same' _ _ _ ?_
    rw [World.cell?_setCell_other _ _ _ _ (by intro e; simp at e), x1]; rfl
  refine bodyPost_ret (v := .tuple #[.agg #[.slice a n c, .slice va n vc], .bool false]) (by simp [results, Try.f14, go_sem, d0, d1]) rfl ?_
  exact ⟨_, rfl, HQ.out.old hB, hB⟩
set_option maxRecDepth 100000 in
set_option maxHeartbeats 2000000 in
theorem rdrop_some {w : World} {q : Value} {l : List (Ky × Int)} (h : RefV w q l) (hr : Rise l) (hl : l.length ≤ 999) (k : Ky) {v : Int} (hg : getA k l = some v) :
    Calls Try.prog 14 #[q, .string ⟨k.toArray⟩] w (RefR w (delA k l) true) := by
  obtain ⟨a, c, va, vc, rfl, h1, h2, h3, h4, h5, h6⟩ := h
  obtain ⟨x, r, i1, i2, i3, i4, i5, i6, i7, i8, i9⟩ := place_of hr k
  have P := Lib.hid (place_ref (c := c) (vals := .slice va l.length vc) h1 (by omega) i1 i2)
  rw [hg] at P i4 i8
  have hdel : l.take x.length ++ ([] : List (Ky × Int)) ++ l.drop (x.length + 1) = delA k l := by
    rw [i3, i6, show l.drop (x.length + 1) = r from i4]; simp
  have C : Hid (∀ (W : World) (hW : Below w.heap.size w W), Calls Try.prog 30 #[.agg #[.slice a l.length c, .slice va l.length vc], .int .i64 (x.length : Nat), .int .i64 1, .agg #[.slice none 0 0, .slice none 0 0]] W fun e w' => ∃ q, e = .returned q ∧ RefB W.heap.size w' q (delA k l) ∧ Below W.heap.size W w') := Lib.hid (fun W hW => by
    have := cut_ref (m := []) (mc := 0) (uc := 0) (ma := none) (ua := none) (h1.old hW) (h2.old hW) (.inl rfl) (.inl rfl) h3 h4 h5 h6 (by omega) (by simp) x.length 1 i8
    rw [hdel] at this
    exact this)
  obtain ⟨n, hn⟩ : ∃ n, n = l.length := ⟨_, rfl⟩
  rw [← hn] at P C hl ⊢
  clear h1 h2 h3 h4 h5 h6 i1 i2 i3 i4 i5 i6 i7 i8 i9 hdel hn hr hg
  go_enter Try.func14, Try.ntmps14
  go_wp2_with fail
  refine (P.out _ (((Below.refl _ _).alloc (Nat.le_refl _) _).alloc (by simp) _)).mono ?_
  rintro e w1 ⟨rfl, b1⟩
  obtain ⟨hc1, hf1⟩ := bcell b1
  have hz := b1.size
  simp only [World.size_alloc] at hz
  have hs0 : w.heap.size < w1.heap.size := by omega
  have hs1 : w.heap.size + 1 < w1.heap.size := by omega
  have B1 := Lib.hid ((((Below.refl w.heap.size w).alloc (Nat.le_refl _) _).alloc (by simp) _).trans (b1.mono (by simp; omega)))
  clear b1
  go_wp2_with fail
  refine (C.out _ B1.out).mono ?_
  rintro e w2 ⟨q2, rfl, v2, b2⟩
  have BB := Lib.hid b2
  have V2 := Lib.hid v2
  have hz2 := BB.out.size
  obtain ⟨hc2, hf2⟩ := bcell BB.out
  have hs2 : w.heap.size + 1 < w2.heap.size := by omega
  obtain ⟨qa, qc, qva, qvc, rfl, -⟩ := v2
  have x0 : w2.cell? ⟨w.heap.size + 1, 0, none⟩ = some (.slice none 0 0) := by rw [hc2 _ _ hs1, hc1 _ _ (by simp)]; simp
  have x1 : w2.cell? ⟨w.heap.size + 1, 1, none⟩ = some (.slice none 0 0) := by rw [hc2 _ _ hs1, hc1 _ _ (by simp)]; simp
  clear b2
  go_wp2_with fail
  have V3 := (V2.out.set (g := w.heap.size + 1) (i := 0) (by omega) (.slice qa (delA k l).length qc)).set (g := w.heap.size + 1) (i := 1) (by omega) (.slice qva (delA k l).length qvc)
  have hB := ((B1.out.trans (BB.out.mono B1.out.size)).setCell (p := ⟨w.heap.size + 1, 0, none⟩) (by show w.heap.size ≤ w.heap.size + 1; omega) (.slice qa (delA k l).length qc)).setCell (p := ⟨w.heap.size + 1, 1, none⟩) (by show w.heap.size ≤ w.heap.size + 1; omega) (.slice qva (delA k l).length qvc)
  have d0 : ((w2.setCell ⟨w.heap.size + 1, 0, none⟩ (.slice qa (delA k l).length qc)).setCell ⟨w.heap.size + 1, 1, none⟩ (.slice qva (delA k l).length qvc)).cell? ⟨w.heap.size + 1, 0, none⟩ = some (.slice qa (delA k l).length qc) := by
    rw [World.cell?_setCell_other _ _ _ _ (by intro e; simp at e)]
    exact World.cell?_setCell_same' _ _ _ (by rw [x0]; rfl)
  have d1 : ((w2.setCell ⟨w.heap.size + 1, 0, none⟩ (.slice qa (delA k l).length qc)).setCell ⟨w.heap.size + 1, 1, none⟩ (.slice qva (delA k l).length qvc)).cell? ⟨w.heap.size + 1, 1, none⟩ = some (.slice qva (delA k l).length qvc) := by
    refine World.cell?_setCell_same' _ _ _ ?_
    rw [World.cell?_setCell_other _ _ _ _ (by intro e; simp at e), x1]; rfl
  refine bodyPost_ret (v := .tuple #[.agg #[.slice qa (delA k l).length qc, .slice qva (delA k l).length qvc], .bool true]) (by simp [results, Try.f14, go_sem, d0, d1]) rfl ?_
  exact ⟨_, rfl, V3.ref, hB⟩
end Go.Proofs.Yteolhbcmffbdlaa
