/-
  Layer 7 (sorted): slices of slices, rows of numbers, and the contract of the document's own cut. Conditions: none.
-/
import Derived.Test.YteolhbcmffbdlaaOp
import Derived.Test.YteolhbcmffbdlaaAp
import Derived.Test.YteolhbcmffbdlaaQt
import Derived.Maps.AppendAt
namespace Go.Proofs.Yteolhbcmffbdlaa
open Go.RowKit

/-- Where a slice of a slice stands. -/
def cutA (a : Option Addr) (cap l : Nat) : Option Addr := if cap = l then a else a.map (·.add l)
theorem Rd.cut {w : World} {a : Option Addr} {ts : List (List UInt8)} (h : Rd w a ts) {cap l : Nat} (hl : l ≤ ts.length) (hc : ts.length ≤ cap) : Rd w (cutA a cap l) (ts.drop l) := by
  unfold cutA
  rcases h with rfl | ⟨b, off, rfl, hb, hx⟩
  · exact .inl (by simp)
  · by_cases e : cap = l
    · exact .inl (List.drop_eq_nil_of_le (by omega))
    · rw [if_neg e]
      refine .inr ⟨b, off + l, ?_, hb, fun i hi => ?_⟩
      · unfold Addr.add; simp
      · rw [List.length_drop] at hi
        rw [Nat.add_assoc, hx (l + i) (by omega), List.getElem_drop]
/-- Numbers as cells. -/
def iv (vs : List Int) : List Value := vs.map fun v => Value.int .i64 v
theorem iv_length (vs : List Int) : (iv vs).length = vs.length := by simp [iv]
theorem iv_append (vs us : List Int) : iv vs ++ iv us = iv (vs ++ us) := by simp [iv]
theorem iv_one (vs : List Int) : ∀ u ∈ iv vs, u.oneCell' = true := by
  intro u hu
  simp only [iv, List.mem_map] at hu
  obtain ⟨t, _, rfl⟩ := hu
  rfl
/-- A slice's first elements are the numbers vs. -/
def RdZ (w : World) (a : Option Addr) (vs : List Int) : Prop :=
  vs = [] ∨ ∃ b off, a = some ⟨b, off, none⟩ ∧ b < w.heap.size ∧ ∀ i (h : i < vs.length), w.cell? ⟨b, off + i, none⟩ = some (.int .i64 vs[i])
theorem RdZ.take {w : World} {a : Option Addr} {vs : List Int} (h : RdZ w a vs) (n : Nat) : RdZ w a (vs.take n) := by
  rcases h with rfl | ⟨b, off, rfl, hb, hc⟩
  · exact .inl (by simp)
  · refine .inr ⟨b, off, rfl, hb, fun i hi => ?_⟩
    rw [List.length_take] at hi
    rw [hc i (by omega), List.getElem_take]
theorem RdZ.old {w w' : World} {a : Option Addr} {vs : List Int} (h : RdZ w a vs) (hb : Below w.heap.size w w') : RdZ w' a vs := by
  rcases h with rfl | ⟨b, off, rfl, hlt, hc⟩
  · exact .inl rfl
  · refine .inr ⟨b, off, rfl, Nat.lt_of_lt_of_le hlt hb.size, fun i hi => ?_⟩
    exact (hb.cell (p := ⟨b, off + i, none⟩) hlt).trans (hc i hi)
theorem RdZ.cut {w : World} {a : Option Addr} {vs : List Int} (h : RdZ w a vs) {cap l : Nat} (hl : l ≤ vs.length) (hc : vs.length ≤ cap) : RdZ w (cutA a cap l) (vs.drop l) := by
  unfold cutA
  rcases h with rfl | ⟨b, off, rfl, hb, hx⟩
  · exact .inl (by simp)
  · by_cases e : cap = l
    · exact .inl (List.drop_eq_nil_of_le (by omega))
    · rw [if_neg e]
      refine .inr ⟨b, off + l, ?_, hb, fun i hi => ?_⟩
      · unfold Addr.add; simp
      · rw [List.length_drop] at hi
        rw [Nat.add_assoc, hx (l + i) (by omega), List.getElem_drop]
theorem RdZ.isNone {w : World} {a : Option Addr} {vs : List Int} (h : RdZ w a vs) : a = none → vs.length = 0 := by
  rintro rfl
  rcases h with rfl | ⟨_, _, h, _⟩
  · rfl
  · cases h
theorem RdZ.news {w : World} {a : Option Addr} {vs : List Int} (h : RdZ w a vs) : ∀ y, a = some y → ∀ j u, (iv vs)[j]? = some u → w.cell? (y.add j) = some u := by
  rintro y rfl j u hj
  rcases h with rfl | ⟨b, off, h, hb, hc⟩
  · simp [iv] at hj
  · cases h
    have hjl : j < vs.length := by
      have := (List.getElem?_eq_some_iff.1 hj).1
      rwa [iv_length] at this
    have e : (⟨b, off, none⟩ : Addr).add j = ⟨b, off + j, none⟩ := by unfold Addr.add; split <;> simp_all
    rw [e, hc j hjl]
    simp [iv, List.getElem?_map, List.getElem?_eq_getElem hjl] at hj
    rw [hj]
end Go.Proofs.Yteolhbcmffbdlaa
