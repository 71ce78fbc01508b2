/-
  Slices of texts, for every layer: texts as cells, a slice that came in or is the call's own, read. No function of the program is spoken of. Conditions: none.
-/
import Derived.Test.YtemaonfgledcmaaRows
import Derived.Test.YtemaonfgledcmaaWl
import Derived.Outline
import Derived.WalkSmall
import Derived.LoopN
import Derived.WalkLawsBesides
import Derived.WalkSpells
import Derived.Lib.Strings
import Derived.BigQuiet
import Derived.Deep.QuietTactic
import Derived.Lib.Hide
namespace Go.Proofs.Ytemaonfgledcmaa
open Go.RowKit

/-- Texts as cells. -/
def sv (ts : List (List UInt8)) : List Value := ts.map fun t => Value.string ⟨t.toArray⟩
theorem sv_length (ts : List (List UInt8)) : (sv ts).length = ts.length := by simp [sv]
theorem sv_snoc (ts : List (List UInt8)) (t : List UInt8) : sv ts ++ [Value.string ⟨t.toArray⟩] = sv (ts ++ [t]) := by simp [sv]
theorem sv_one (ts : List (List UInt8)) : ∀ u ∈ sv ts, u.oneCell' = true := by
  intro u hu
  simp only [sv, List.mem_map] at hu
  obtain ⟨t, _, rfl⟩ := hu
  rfl
/-- A slice's first n elements are the texts ts: its address, if there is one, is plain. -/
def Rd (w : World) (a : Option Addr) (ts : List (List UInt8)) : Prop :=
  ts = [] ∨ ∃ b off, a = some ⟨b, off, none⟩ ∧ b < w.heap.size ∧ ∀ i (h : i < ts.length), w.cell? ⟨b, off + i, none⟩ = some (.string ⟨ts[i].toArray⟩)
theorem Rd.take {w : World} {a : Option Addr} {ts : List (List UInt8)} (h : Rd w a ts) (n : Nat) : Rd w a (ts.take n) := by
  rcases h with rfl | ⟨b, off, rfl, hb, hc⟩
  · exact .inl (by simp)
  · refine .inr ⟨b, off, rfl, hb, fun i hi => ?_⟩
    rw [List.length_take] at hi
    rw [hc i (by omega), List.getElem_take]
theorem Rd.below {w w' : World} {a : Option Addr} {ts : List (List UInt8)} (h : Rd w a ts) {B : Nat} (hb : Below B w w') (hB : ∀ x, a = some x → x.block < B) : Rd w' a ts := by
  rcases h with rfl | ⟨b, off, rfl, hlt, hc⟩
  · exact .inl rfl
  · refine .inr ⟨b, off, rfl, Nat.lt_of_lt_of_le hlt hb.size, fun i hi => ?_⟩
    exact (hb.cell (p := ⟨b, off + i, none⟩) (hB ⟨b, off, none⟩ rfl)).trans (hc i hi)
theorem Rd.old {w w' : World} {a : Option Addr} {ts : List (List UInt8)} (h : Rd w a ts) (hb : Below w.heap.size w w') : Rd w' a ts := by
  rcases h with rfl | ⟨b, off, rfl, hlt, hc⟩
  · exact .inl rfl
  · refine .inr ⟨b, off, rfl, Nat.lt_of_lt_of_le hlt hb.size, fun i hi => ?_⟩
    exact (hb.cell (p := ⟨b, off + i, none⟩) hlt).trans (hc i hi)
theorem Rd.drewN {w : World} {a : Option Addr} {ts : List (List UInt8)} (h : Rd w a ts) (n : Nat) : Rd (w.drewN n) a ts := h
theorem own_rd {w : World} {base cap : Nat} {t : TypeId} {a : Option Addr} {ts : List (List UInt8)} (h : w.ownsRow base t 1 (.slice a ts.length cap) ts.length (sv ts)) : Rd w a ts := by
  rcases h.2 with ⟨hv, hnil⟩ | ⟨g, c, cur, hv, hbg, hh, _⟩
  · left
    have hx := h.1
    simp only [sv_length] at hx
    have hn : (sv ts).length = 0 := by first | (rw [hnil]; rfl) | (rw [sv_length]; exact hnil)
    rw [sv_length] at hn
    exact List.length_eq_zero_iff.1 hn
  · cases hv
    refine .inr ⟨g, 0, rfl, ?_, fun i hi => ?_⟩
    · exact (h.lt g rfl).2
    · rw [Nat.zero_add, h.cellAt i (by omega)]
      simp [sv, hi]
theorem own_slice {w : World} {base n : Nat} {t : TypeId} {v : Value} {xs : List Value} (h : w.ownsRow base t 1 v n xs) : ∃ a cap, v = .slice a n cap := by
  rcases h.2 with ⟨rfl, hnil⟩ | ⟨g, cap, cur, rfl, _⟩
  · have h1 := h.1
    obtain rfl : n = 0 := by first | exact hnil | (subst hnil; simpa using h1.symm) | (subst hnil; simpa using h1)
    exact ⟨_, _, rfl⟩
  · exact ⟨_, _, rfl⟩

/-- Numbers that a slice's first elements are. -/
def RdI (w : World) (a : Option Addr) (ns : List Nat) : Prop :=
  ns = [] ∨ ∃ b off, a = some ⟨b, off, none⟩ ∧ b < w.heap.size ∧ ∀ i (h : i < ns.length), w.cell? ⟨b, off + i, none⟩ = some (.int .i64 (ns[i] : Nat))
theorem RdI.old {w w' : World} {a : Option Addr} {ns : List Nat} (h : RdI w a ns) (hb : Below w.heap.size w w') : RdI w' a ns := by
  rcases h with rfl | ⟨b, off, rfl, hlt, hc⟩
  · exact .inl rfl
  · refine .inr ⟨b, off, rfl, Nat.lt_of_lt_of_le hlt hb.size, fun i hi => ?_⟩
    exact (hb.cell (p := ⟨b, off + i, none⟩) hlt).trans (hc i hi)
theorem own_rdi {w : World} {base cap : Nat} {t : TypeId} {a : Option Addr} {ns : List Nat} (h : w.ownsRow base t 1 (.slice a ns.length cap) ns.length (nv ns)) : RdI w a ns := by
  rcases h.2 with ⟨hv, hnil⟩ | ⟨g, c, cur, hv, hbg, hh, _⟩
  · left
    have hn : ns.length = 0 := by first | exact hnil | (cases hv; assumption)
    exact List.length_eq_zero_iff.1 hn
  · cases hv
    refine .inr ⟨g, 0, rfl, ?_, fun i hi => ?_⟩
    · exact (h.lt g rfl).2
    · rw [Nat.zero_add, h.cellAt i (by omega)]
      simp [nv, hi]

/-- A []string that came in. -/
theorem strs_rd {W : World} {x : Addr} {len cap m : Nat} {Sx : Nat → ByteArray} (hl : len ≤ cap) (hm : cap ≤ maxLen) (hlm : len ≤ m) (hcell : ∀ i, i < m → W.cell? (x.add i) = some (.string (Sx i)) ∧ (Sx i).size ≤ maxLen) :
    ∃ ts : List (List UInt8), ts.length = len ∧ Rd W (some x) ts ∧ ts.length ≤ maxLen ∧ ts.length ≤ cap ∧ ∀ t ∈ ts, t.length ≤ maxLen := by
  have hlen : ((List.range len).map fun i => (Sx i).data.toList).length = len := by simp
  refine ⟨(List.range len).map fun i => (Sx i).data.toList, hlen, ?_, by rw [hlen]; omega, by rw [hlen]; exact hl, ?_⟩
  · by_cases h0 : len = 0
    · subst h0; exact .inl rfl
    · obtain ⟨b, off, spot⟩ := x
      have hc0 := (hcell 0 (by omega)).1
      have hs : spot = none := by simpa [Addr.add] using World.cell?_spot hc0
      subst hs
      have hlt := cell_lt hc0
      refine .inr ⟨b, off, rfl, by simpa [Addr.add] using hlt, fun i hi => ?_⟩
      rw [hlen] at hi
      have e : (⟨b, off, none⟩ : Addr).add i = ⟨b, off + i, none⟩ := by unfold Addr.add; split <;> simp_all
      rw [← e, (hcell i (by omega)).1]
      simp
  · intro t ht
    rw [List.mem_map] at ht
    obtain ⟨i, hi, rfl⟩ := ht
    have := (hcell i (by have := List.mem_range.1 hi; omega)).2
    rw [Array.length_toList]
    exact this

end Go.Proofs.Ytemaonfgledcmaa
