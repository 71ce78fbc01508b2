/-
  Layer 12 (manifest): a state in a variable's block, as the laws have it. Conditions: none.
-/
import Derived.Test.YtkpemlgolpihiaaZm
import Derived.Test.YtkpemlgolpihiaaRH
import Derived.Test.YtkpemlgolpihiaaBt
import Derived.Laws.StructEq
namespace Go.Proofs.Ytkpemlgolpihiaa
set_option maxRecDepth 100000
open Go.RowKit
set_option linter.unusedVariables false
set_option linter.unusedSimpArgs false

/-- A state's block, that may be written, of three cells. -/
def SQ (w : World) (x : Nat) (A : Value) (lg nx : Int) : Prop := SW w x A lg nx ∧ ∀ i, 2 < i → w.cell? ⟨x, i, none⟩ = none
theorem SQ.new (w : World) (T : TypeId) (A : Value) (lg nx : Int) : SQ (w.alloc (.cells #[A, .int .i64 lg, .int .i64 nx] T)) w.heap.size A lg nx :=
  ⟨SW.new w T A lg nx, fun i hi => by
    have : ¬ i = 0 ∧ ¬ i = 1 ∧ ¬ i = 2 := by omega
    simp [go_sem, this]
    omega⟩
theorem SQ.keep {w w' : World} {x m : Nat} {A : Value} {lg nx : Int} (h : SQ w x A lg nx) (hb : Below m w w') (hx : x < m) : SQ w' x A lg nx :=
  ⟨h.1.keep hb hx, fun i hi => (hb.cell (p := ⟨x, i, none⟩) hx).trans (h.2 i hi)⟩
theorem SQ.lt {w : World} {x : Nat} {A : Value} {lg nx : Int} (h : SQ w x A lg nx) : x < w.heap.size := h.1.1.2.2.2
theorem SQ.put {w : World} {x : Nat} {A : Value} {lg nx : Int} (h : SQ w x A lg nx) (A' : Value) (lg' nx' : Int) : SQ (((w.setCell ⟨x, 0, none⟩ A').setCell ⟨x, 1, none⟩ (.int .i64 lg')).setCell ⟨x, 2, none⟩ (.int .i64 nx')) x A' lg' nx' := by
  obtain ⟨⟨⟨c0, c1, c2, c3⟩, f0, f1, f2⟩, hn⟩ := h
  refine ⟨⟨⟨by simp [go_sem, c0, c1, c2], by simp [go_sem, c0, c1, c2], by simp [go_sem, c0, c1, c2], by simpa using c3⟩, by simpa using f0, by simpa using f1, by simpa using f2⟩, fun i hi => ?_⟩
  have e0 : ¬ i = 0 ∧ ¬ i = 1 ∧ ¬ i = 2 := by omega
  have e1 : ¬ 0 = i ∧ ¬ 1 = i ∧ ¬ 2 = i := by omega
  simp [go_sem, hn i hi, e0, e1]
theorem RdT.out {w : World} {a : Option Addr} {ts : List Tb} {x : Nat} {A : Value} {lg nx : Int} (h : RdT w a ts) (hq : SQ w x A lg nx) : ts = [] ∨ ∃ b off, a = some ⟨b, off, none⟩ ∧ b < w.heap.size ∧ TbAt w b off ts ∧ b ≠ x := by
  rcases h with rfl | ⟨b, off, rfl, hb, hc⟩
  · exact .inl rfl
  · cases ts with
    | nil => exact .inl rfl
    | cons t ts =>
      refine .inr ⟨b, off, rfl, hb, hc, fun e => ?_⟩
      subst e
      obtain ⟨-, -, p2, p3⟩ := hc 0 (by simp)
      by_cases h0 : off = 0
      · subst h0
        have := hq.1.1.2.2.1
        rw [show 0 + 0 * 4 + 2 = 2 from rfl] at p2
        rw [this] at p2
        cases p2
      · rw [hq.2 _ (by omega)] at p2
        cases p2
theorem RdT.put3 {w : World} {a : Option Addr} {ts : List Tb} {x : Nat} {A : Value} {lg nx : Int} (h : RdT w a ts) (hq : SQ w x A lg nx) (u0 u1 u2 : Value) : RdT (((w.setCell ⟨x, 0, none⟩ u0).setCell ⟨x, 1, none⟩ u1).setCell ⟨x, 2, none⟩ u2) a ts := by
  rcases h.out hq with rfl | ⟨b, off, rfl, hb, hc, hne⟩
  · exact .inl rfl
  · have hR : ∀ y, some (⟨b, off, none⟩ : Addr) = some y → y.block ≠ x := fun y hy => by injection hy with hy; subst hy; exact hne
    exact ((RdT.set h hR).set hR).set hR
theorem ST.put3 {w : World} {a : Option Addr} {n cap : Nat} {ts : List Tb} {x : Nat} {A : Value} {lg nx : Int} (h : ST w a n cap ts) (hq : SQ w x A lg nx) (u0 u1 u2 : Value) : ST (((w.setCell ⟨x, 0, none⟩ u0).setCell ⟨x, 1, none⟩ u1).setCell ⟨x, 2, none⟩ u2) a n cap ts := ⟨h.1, h.2.1.put3 hq u0 u1 u2, h.2.2⟩
theorem below3 {m : Nat} {w w' : World} {x : Nat} (h : Below m w w') (hx : m ≤ x) (u0 u1 u2 : Value) : Below m w (((w'.setCell ⟨x, 0, none⟩ u0).setCell ⟨x, 1, none⟩ u1).setCell ⟨x, 2, none⟩ u2) :=
  ((h.setCell (p := ⟨x, 0, none⟩) hx u0).setCell (p := ⟨x, 1, none⟩) hx u1).setCell (p := ⟨x, 2, none⟩) hx u2
theorem keep7 {w w' : World} {x b o : Nat} {u0 u1 u2 v0 v1 v2 v3 : Value} (h : w.cell? ⟨x, 0, none⟩ = some u0 ∧ w.cell? ⟨x, 1, none⟩ = some u1 ∧ w.cell? ⟨x, 2, none⟩ = some u2 ∧ w.cell? ⟨b, o, none⟩ = some v0 ∧ w.cell? ⟨b, o + 1, none⟩ = some v1 ∧ w.cell? ⟨b, o + 2, none⟩ = some v2 ∧ w.cell? ⟨b, o + 3, none⟩ = some v3) (hw : Below w.heap.size w w') :
    w'.cell? ⟨x, 0, none⟩ = some u0 ∧ w'.cell? ⟨x, 1, none⟩ = some u1 ∧ w'.cell? ⟨x, 2, none⟩ = some u2 ∧ w'.cell? ⟨b, o, none⟩ = some v0 ∧ w'.cell? ⟨b, o + 1, none⟩ = some v1 ∧ w'.cell? ⟨b, o + 2, none⟩ = some v2 ∧ w'.cell? ⟨b, o + 3, none⟩ = some v3 := by
  obtain ⟨h0, h1, h2, h3, h4, h5, h6⟩ := h
  have k : ∀ (p : Addr) (u : Value), p.spot = none → w.cell? p = some u → w'.cell? p = some u := fun p u hp h => by
    obtain ⟨q, r, t⟩ := p
    simp only at hp
    subst hp
    exact (hw.cell (p := ⟨q, r, none⟩) (cell_lt h)).trans h
  exact ⟨k _ _ rfl h0, k _ _ rfl h1, k _ _ rfl h2, k _ _ rfl h3, k _ _ rfl h4, k _ _ rfl h5, k _ _ rfl h6⟩
/-- A state's block that was made ahead of a call, behind it. -/
theorem sq_after {Y W : World} {t : TypeId} (b : Below (Y.alloc (.cells #[.slice none 0 0, .int .i64 0, .int .i64 0] t)).heap.size (Y.alloc (.cells #[.slice none 0 0, .int .i64 0, .int .i64 0] t)) W) : SQ W Y.heap.size (.slice none 0 0) 0 0 ∧ Below Y.heap.size Y W :=
  ⟨(SQ.new Y t _ 0 0).keep b (by simp [go_sem]), ((Below.refl Y.heap.size Y).alloc (Nat.le_refl _) _).trans (b.mono (by simp))⟩
theorem sq_afterd {Y W : World} {t : TypeId} (b : Below (Y.alloc (.cells #[.slice none 0 0, .int .i64 0, .int .i64 0] t)).drew.heap.size (Y.alloc (.cells #[.slice none 0 0, .int .i64 0, .int .i64 0] t)).drew W) : SQ W Y.heap.size (.slice none 0 0) 0 0 ∧ Below Y.heap.size Y W :=
  ⟨((SQ.new Y t _ 0 0).keep ((Below.refl (Y.alloc (.cells #[.slice none 0 0, .int .i64 0, .int .i64 0] t)).heap.size _).drew) (by simp [go_sem])).keep b (by show Y.heap.size < (Y.alloc _).heap.size; simp), ((Below.refl Y.heap.size Y).alloc (Nat.le_refl _) _).drew.trans (b.mono (by show Y.heap.size ≤ (Y.alloc _).heap.size; simp))⟩
theorem keep3 {w w' : World} {x : Nat} {u0 u1 u2 : Value} (h : w.cell? ⟨x, 0, none⟩ = some u0 ∧ w.cell? ⟨x, 1, none⟩ = some u1 ∧ w.cell? ⟨x, 2, none⟩ = some u2) (hw : Below w.heap.size w w') :
    w'.cell? ⟨x, 0, none⟩ = some u0 ∧ w'.cell? ⟨x, 1, none⟩ = some u1 ∧ w'.cell? ⟨x, 2, none⟩ = some u2 :=
  ⟨(hw.cell (p := ⟨x, 0, none⟩) (cell_lt h.1)).trans h.1, (hw.cell (p := ⟨x, 1, none⟩) (cell_lt h.2.1)).trans h.2.1, (hw.cell (p := ⟨x, 2, none⟩) (cell_lt h.2.2)).trans h.2.2⟩
theorem pt_out {X : List Tb} {p : Nat} (hp : p = X.length) {w w' : World} {e : Ending} (h : PT X w e w') : ∃ a c, e = .returned (.slice a p c) ∧ ST w' a p c X ∧ Below w.heap.size w w' := by
  obtain ⟨a, n, c, rfl, hst, hb⟩ := h
  obtain rfl : n = p := by rw [hp, hst.1]
  exact ⟨a, c, rfl, hst, hb⟩
/-- Two tables, held against each other. -/
theorem eq_tab (s t : Tb) (W : World) : (Op.equalIn 10000 49 (.agg #[.int .i64 s.1, .int .i64 s.2.1, .string s.2.2.1, .string s.2.2.2]) (.agg #[.int .i64 t.1, .int .i64 t.2.1, .string t.2.2.1, .string t.2.2.2])).run Try.prog W = .ok (decide (s = t)) W := by
  obtain ⟨x1, x2, x3, x4⟩ := s
  obtain ⟨y1, y2, y3, y4⟩ := t
  rw [show (10000 : Nat) = 9999 + 1 from rfl, run_equalIn_agg W 9999 _ _ _ (by kernel_rfl) (by kernel_rfl)]
  simp [Program.fieldsOf, Try.underlying49, Op.eqFields, go_sem]
  by_cases h1 : x1 = y1
  · by_cases h2 : x2 = y2
    · by_cases h3 : x3 = y3
      · by_cases h4 : x4 = y4
        · simp [h1, h2, h3, h4]
        · have h4' : ¬ x4.toList = y4.toList := fun q => h4 (ba_ext q)
          simp [h1, h2, h3, h4, h4']
      · have h3' : ¬ x3.toList = y3.toList := fun q => h3 (ba_ext q)
        simp [h1, h2, h3, h3']
    · simp [h1, h2]
  · simp [h1]
/-- A law's state: what is kept of it, behind k edits. -/
def LS (w : World) (x k : Nat) (s : St) (a : Option Addr) (c : Nat) : Prop := SQ w x (.slice a s.1.length c) s.2.1 s.2.2 ∧ ST w a s.1.length c s.1 ∧ OkT s.1 s.2.2 ∧ okT s.1 ∧ s.1.length ≤ 128 * k ∧ (0 ≤ s.2.1 ∧ s.2.1 ≤ 1073741824)
theorem LS.zero (w : World) (T : TypeId) : LS (w.alloc (.cells #[.slice none 0 0, .int .i64 0, .int .i64 0] T)) w.heap.size 0 ([], 0, 0) none 0 :=
  ⟨SQ.new w T _ 0 0, ⟨rfl, .inl rfl, Nat.le_refl _, Nat.zero_le _⟩, OkT.nil 0, fun t ht => by simp at ht, by simp, by decide⟩
theorem LS.keep {w w' : World} {x k m : Nat} {s : St} {a : Option Addr} {c : Nat} (h : LS w x k s a c) (hb : Below m w w') (hm : w.heap.size ≤ m) : LS w' x k s a c :=
  ⟨h.1.keep hb (Nat.lt_of_lt_of_le h.1.lt hm), h.2.1.old (hb.mono hm), h.2.2⟩
theorem LS.more {w : World} {x k k' : Nat} {s : St} {a : Option Addr} {c : Nat} (h : LS w x k s a c) (hk : k ≤ k') : LS w x k' s a c := ⟨h.1, h.2.1, h.2.2.1, h.2.2.2.1, Nat.le_trans h.2.2.2.2.1 (Nat.mul_le_mul_left _ hk), h.2.2.2.2.2⟩
theorem LS.sv {w : World} {x k : Nat} {s : St} {a : Option Addr} {c : Nat} (h : LS w x k s a c) : SV w (.agg #[.slice a s.1.length c, .int .i64 s.2.1, .int .i64 s.2.2]) s := ⟨a, s.1.length, c, rfl, h.2.1, h.2.2.2.1⟩
/-- An edit that fits, taken over. -/
theorem LS.step {w : World} {x k : Nat} {s : St} {a a' : Option Addr} {c c' : Nat} {e : Ed} (h : LS w x k s a c) (h0 : apN s e = 0) (hst : ST w a' (apS s e).1.length c' (apS s e).1) (hok : okT (apS s e).1) :
    LS (((w.setCell ⟨x, 0, none⟩ (.slice a' (apS s e).1.length c')).setCell ⟨x, 1, none⟩ (.int .i64 (apS s e).2.1)).setCell ⟨x, 2, none⟩ (.int .i64 (apS s e).2.2)) x (k + 1) (apS s e) a' c' := by
  obtain ⟨h1, h2, h3, h4, h5, h6⟩ := h
  obtain ⟨k1, k2, k3, k4, k5⟩ := step_ok h3 h0
  exact ⟨h1.put _ _ _, hst.put3 h1 _ _ _, k1, hok, by omega, k5⟩
end Go.Proofs.Ytkpemlgolpihiaa
