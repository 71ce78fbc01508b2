/-
  Slices of texts, for every layer: texts as cells, a slice that came in or is the call's own, read; the contract of the statements' own Same. Conditions: none.
-/
import Derived.Test.YtflnohmmhodhgaaRows
import Derived.Test.YtflnohmmhodhgaaWl
import Derived.Outline
import Derived.WalkSmall
import Derived.LoopN
import Derived.WalkLawsBesides
import Derived.WalkSpells
import Derived.Lib.Strings
import Derived.BigQuiet
import Derived.Deep.QuietTactic
import Derived.Lib.Hide
namespace Go.Proofs.Ytflnohmmhodhgaa
open Go.RowKit

/-- Texts as cells. -/
def sv (ts : List (List UInt8)) : List Value := ts.map fun t => Value.string ⟨t.toArray⟩
theorem sv_length (ts : List (List UInt8)) : (sv ts).length = ts.length := by simp [sv]
theorem sv_snoc (ts : List (List UInt8)) (t : List UInt8) : sv ts ++ [Value.string ⟨t.toArray⟩] = sv (ts ++ [t]) := by simp [sv]
theorem sv_one (ts : List (List UInt8)) : ∀ u ∈ sv ts, u.oneCell' = true := by
  intro u hu
  simp only [sv, List.mem_map] at hu
  obtain ⟨t, _, rfl⟩ := hu
  rfl
/-- A slice's first n elements are the texts ts: its address, if there is one, is plain. -/
def Rd (w : World) (a : Option Addr) (ts : List (List UInt8)) : Prop :=
  ts = [] ∨ ∃ b off, a = some ⟨b, off, none⟩ ∧ b < w.heap.size ∧ ∀ i (h : i < ts.length), w.cell? ⟨b, off + i, none⟩ = some (.string ⟨ts[i].toArray⟩)
theorem Rd.take {w : World} {a : Option Addr} {ts : List (List UInt8)} (h : Rd w a ts) (n : Nat) : Rd w a (ts.take n) := by
  rcases h with rfl | ⟨b, off, rfl, hb, hc⟩
  · exact .inl (by simp)
  · refine .inr ⟨b, off, rfl, hb, fun i hi => ?_⟩
    rw [List.length_take] at hi
    rw [hc i (by omega), List.getElem_take]
theorem Rd.below {w w' : World} {a : Option Addr} {ts : List (List UInt8)} (h : Rd w a ts) {B : Nat} (hb : Below B w w') (hB : ∀ x, a = some x → x.block < B) : Rd w' a ts := by
  rcases h with rfl | ⟨b, off, rfl, hlt, hc⟩
  · exact .inl rfl
  · refine .inr ⟨b, off, rfl, Nat.lt_of_lt_of_le hlt hb.size, fun i hi => ?_⟩
    exact (hb.cell (p := ⟨b, off + i, none⟩) (hB ⟨b, off, none⟩ rfl)).trans (hc i hi)
theorem Rd.old {w w' : World} {a : Option Addr} {ts : List (List UInt8)} (h : Rd w a ts) (hb : Below w.heap.size w w') : Rd w' a ts := by
  rcases h with rfl | ⟨b, off, rfl, hlt, hc⟩
  · exact .inl rfl
  · refine .inr ⟨b, off, rfl, Nat.lt_of_lt_of_le hlt hb.size, fun i hi => ?_⟩
    exact (hb.cell (p := ⟨b, off + i, none⟩) hlt).trans (hc i hi)
theorem Rd.drewN {w : World} {a : Option Addr} {ts : List (List UInt8)} (h : Rd w a ts) (n : Nat) : Rd (w.drewN n) a ts := h
theorem own_rd {w : World} {base cap : Nat} {t : TypeId} {a : Option Addr} {ts : List (List UInt8)} (h : w.ownsRow base t 1 (.slice a ts.length cap) ts.length (sv ts)) : Rd w a ts := by
  rcases h.2 with ⟨hv, hnil⟩ | ⟨g, c, cur, hv, hbg, hh, _⟩
  · left
    have hx := h.1
    simp only [sv_length] at hx
    have hn : (sv ts).length = 0 := by first | (rw [hnil]; rfl) | (rw [sv_length]; exact hnil)
    rw [sv_length] at hn
    exact List.length_eq_zero_iff.1 hn
  · cases hv
    refine .inr ⟨g, 0, rfl, ?_, fun i hi => ?_⟩
    · exact (h.lt g rfl).2
    · rw [Nat.zero_add, h.cellAt i (by omega)]
      simp [sv, hi]
theorem own_slice {w : World} {base n : Nat} {t : TypeId} {v : Value} {xs : List Value} (h : w.ownsRow base t 1 v n xs) : ∃ a cap, v = .slice a n cap := by
  rcases h.2 with ⟨rfl, hnil⟩ | ⟨g, cap, cur, rfl, _⟩
  · have h1 := h.1
    obtain rfl : n = 0 := by first | exact hnil | (subst hnil; simpa using h1.symm) | (subst hnil; simpa using h1)
    exact ⟨_, _, rfl⟩
  · exact ⟨_, _, rfl⟩

/-- Numbers that a slice's first elements are. -/
def RdI (w : World) (a : Option Addr) (ns : List Nat) : Prop :=
  ns = [] ∨ ∃ b off, a = some ⟨b, off, none⟩ ∧ b < w.heap.size ∧ ∀ i (h : i < ns.length), w.cell? ⟨b, off + i, none⟩ = some (.int .i64 (ns[i] : Nat))
theorem RdI.old {w w' : World} {a : Option Addr} {ns : List Nat} (h : RdI w a ns) (hb : Below w.heap.size w w') : RdI w' a ns := by
  rcases h with rfl | ⟨b, off, rfl, hlt, hc⟩
  · exact .inl rfl
  · refine .inr ⟨b, off, rfl, Nat.lt_of_lt_of_le hlt hb.size, fun i hi => ?_⟩
    exact (hb.cell (p := ⟨b, off + i, none⟩) hlt).trans (hc i hi)
theorem own_rdi {w : World} {base cap : Nat} {t : TypeId} {a : Option Addr} {ns : List Nat} (h : w.ownsRow base t 1 (.slice a ns.length cap) ns.length (nv ns)) : RdI w a ns := by
  rcases h.2 with ⟨hv, hnil⟩ | ⟨g, c, cur, hv, hbg, hh, _⟩
  · left
    have hn : ns.length = 0 := by first | exact hnil | (cases hv; assumption)
    exact List.length_eq_zero_iff.1 hn
  · cases hv
    refine .inr ⟨g, 0, rfl, ?_, fun i hi => ?_⟩
    · exact (h.lt g rfl).2
    · rw [Nat.zero_add, h.cellAt i (by omega)]
      simp [nv, hi]

/-- A []string that came in. -/
theorem strs_rd {W : World} {x : Addr} {len cap m : Nat} {Sx : Nat → ByteArray} (hl : len ≤ cap) (hm : cap ≤ maxLen) (hlm : len ≤ m) (hcell : ∀ i, i < m → W.cell? (x.add i) = some (.string (Sx i)) ∧ (Sx i).size ≤ maxLen) :
    ∃ ts : List (List UInt8), ts.length = len ∧ Rd W (some x) ts ∧ ts.length ≤ maxLen ∧ ts.length ≤ cap ∧ ∀ t ∈ ts, t.length ≤ maxLen := by
  have hlen : ((List.range len).map fun i => (Sx i).data.toList).length = len := by simp
  refine ⟨(List.range len).map fun i => (Sx i).data.toList, hlen, ?_, by rw [hlen]; omega, by rw [hlen]; exact hl, ?_⟩
  · by_cases h0 : len = 0
    · subst h0; exact .inl rfl
    · obtain ⟨b, off, spot⟩ := x
      have hc0 := (hcell 0 (by omega)).1
      have hs : spot = none := by simpa [Addr.add] using World.cell?_spot hc0
      subst hs
      have hlt := cell_lt hc0
      refine .inr ⟨b, off, rfl, by simpa [Addr.add] using hlt, fun i hi => ?_⟩
      rw [hlen] at hi
      have e : (⟨b, off, none⟩ : Addr).add i = ⟨b, off + i, none⟩ := by unfold Addr.add; split <;> simp_all
      rw [← e, (hcell i (by omega)).1]
      simp
  · intro t ht
    rw [List.mem_map] at ht
    obtain ⟨i, hi, rfl⟩ := ht
    have := (hcell i (by have := List.mem_range.1 hi; omega)).2
    rw [Array.length_toList]
    exact this

/-! ### Same -/
theorem str_beq (a b : List UInt8) : ((⟨a.toArray⟩ : ByteArray).toList == (⟨b.toArray⟩ : ByteArray).toList) = (a == b) := by
  rw [Lib.toList_data, Lib.toList_data]
theorem eq_upto {ts us : List (List UInt8)} {n : Nat} (h1 : ts.length = n) (h2 : us.length = n) (h : ts.take n = us.take n) : ts = us := by
  rw [List.take_of_length_le (by omega), List.take_of_length_le (by omega)] at h
  exact h
theorem take_step {ts us : List (List UInt8)} {k : Nat} (h1 : k < ts.length) (h2 : k < us.length) (h : ts.take k = us.take k) (he : ts[k] = us[k]) : ts.take (k + 1) = us.take (k + 1) := by
  rw [List.take_succ_eq_append_getElem h1, List.take_succ_eq_append_getElem h2, h, he]
theorem ne_at {ts us : List (List UInt8)} {k : Nat} (h1 : k < ts.length) (h2 : k < us.length) (he : ts[k] ≠ us[k]) : ts ≠ us := by
  rintro rfl
  exact he rfl
set_option maxHeartbeats 1000000 in
theorem same_len (a b : Option Addr) (n m ca cb : Nat) (w : World) (h : n ≠ m) :
    Calls Try.prog 16 #[.slice a n ca, .slice b m cb] w fun e w' => e = .returned (.bool false) ∧ Below w.heap.size w w' := by
  have h' : (n : Int) ≠ (m : Int) := by omega
  go_enter Try.func16, Try.ntmps16
  go_wp2
  go_ret
  exact ⟨rfl, Below.refl _ _⟩
set_option maxHeartbeats 1000000 in
theorem same_none (a b : Option Addr) (ca cb : Nat) (w : World) :
    Calls Try.prog 16 #[.slice a 0 ca, .slice b 0 cb] w fun e w' => e = .returned (.bool true) ∧ Below w.heap.size w w' := by
  go_enter Try.func16, Try.ntmps16
  go_wp2
  refine wp_loop_rounds 1 ?_
  rw [rounds_succ]
  go_wp2
  go_ret
  exact ⟨rfl, Below.refl _ _⟩
set_option maxHeartbeats 1000000 in
theorem same_some (b1 o1 b2 o2 n ca cb : Nat) (ts us : List (List UInt8)) (w : World) (hn : n < 9223372036854775808) (h1 : ts.length = n) (h2 : us.length = n)
    (hc1 : ∀ i (h : i < ts.length), w.cell? ⟨b1, o1 + i, none⟩ = some (.string ⟨ts[i].toArray⟩)) (hc2 : ∀ i (h : i < us.length), w.cell? ⟨b2, o2 + i, none⟩ = some (.string ⟨us[i].toArray⟩)) :
    Calls Try.prog 16 #[.slice (some ⟨b1, o1, none⟩) n ca, .slice (some ⟨b2, o2, none⟩) n cb] w fun e w' => e = .returned (.bool (ts == us)) ∧ Below w.heap.size w w' := by
  have HC1 := Lib.hid hc1
  have HC2 := Lib.hid hc2
  have H1 := Lib.hid h1
  have H2 := Lib.hid h2
  clear hc1 hc2 h1 h2
  go_enter Try.func16, Try.ntmps16
  go_wp2
  go_loopw [5] (fun i wr => ∃ (k d : Nat), k ≤ n ∧ i = .int .i64 k ∧ Hid (ts.take k = us.take k) ∧ wr = w.drewN d) (fun i _ => n - (intOf i).toNat)
  case atStart => exact ⟨0, 0, by omega, rfl, Lib.hid (by simp), rfl⟩
  case round =>
    obtain ⟨k, d, hk, rfl, hT, rfl⟩ := hrel
    by_cases hlt : k < n
    · have hk1 : k < ts.length := by rw [H1.out]; exact hlt
      have hk2 : k < us.length := by rw [H2.out]; exact hlt
      have e1 := HC1.out k hk1
      have e2 := HC2.out k hk2
      obtain ⟨x, hx⟩ : ∃ x, x = ts[k] := ⟨_, rfl⟩
      obtain ⟨y, hy⟩ : ∃ y, y = us[k] := ⟨_, rfl⟩
      rw [← hx] at e1
      rw [← hy] at e2
      have HX := Lib.hid hx
      have HY := Lib.hid hy
      clear hx hy
      by_cases hxy : x = y
      · have hb1 : (x == y) = true := by simpa using hxy
        have HXY := Lib.hid hxy
        clear hxy
        go_wp2
        go_quiet (fail)
        go_wp2
        go_roundw
        case rel => exact ⟨k + 1, _, by omega, by go_num, Lib.hid (take_step hk1 hk2 hT.out (by rw [← HX.out, ← HY.out]; exact HXY.out)), rfl⟩
        case measure => simp [intOf]; omega
      · have hb1 : (x == y) = false := by simpa using hxy
        have HXY := Lib.hid (ne_at hk1 hk2 (by rw [← HX.out, ← HY.out]; exact hxy))
        clear hxy
        go_wp2
        go_quiet (fail)
        go_wp2
        go_ret
        have e : (ts == us) = false := by simpa using HXY.out
        rw [e]
        exact ⟨rfl, below_drewN (below_drewN (Below.refl _ _) _) _⟩
    · obtain rfl : k = n := by omega
      have HE := Lib.hid (eq_upto H1.out H2.out hT.out)
      go_wp2
      go_ret
      have e : (ts == us) = true := by simpa using HE.out
      rw [e]
      exact ⟨rfl, below_drewN (Below.refl _ _) _⟩
theorem same_any (a b : Option Addr) (ca cb : Nat) (ts us : List (List UInt8)) (w : World) (ha : Rd w a ts) (hb : Rd w b us) (hl : ts.length < 9223372036854775808) :
    Calls Try.prog 16 #[.slice a ts.length ca, .slice b us.length cb] w fun e w' => e = .returned (.bool (ts == us)) ∧ Below w.heap.size w w' := by
  by_cases h : ts.length = us.length
  · by_cases h0 : ts = []
    · subst h0
      have hu : us = [] := List.length_eq_zero_iff.1 h.symm
      subst hu
      exact same_none a b ca cb w
    · have hu : us ≠ [] := by
        rintro rfl
        exact h0 (List.length_eq_zero_iff.1 h)
      obtain ⟨b1, o1, rfl, _, hc1⟩ := ha.resolve_left h0
      obtain ⟨b2, o2, rfl, _, hc2⟩ := hb.resolve_left hu
      rw [← h]
      exact same_some b1 o1 b2 o2 ts.length ca cb ts us w hl rfl h.symm hc1 hc2
  · have e : (ts == us) = false := by
      rw [beq_eq_false_iff_ne]
      rintro rfl
      exact h rfl
    rw [e]
    exact same_len a b _ _ ca cb w h
theorem same_at (a b : Option Addr) (n m ca cb : Nat) (ts us : List (List UInt8)) (r : Bool) (w : World) (ha : Rd w a ts) (hb : Rd w b us) (hn : ts.length = n) (hm : us.length = m) (hl : n < 9223372036854775808) (hr : (ts == us) = r) :
    Calls Try.prog 16 #[.slice a n ca, .slice b m cb] w fun e w' => e = .returned (.bool r) ∧ Below w.heap.size w w' := by
  subst hn hm hr
  exact same_any a b ca cb ts us w ha hb hl
theorem lit_rd2 (w : World) (t : TypeId) (x y : ByteArray) : Rd (w.alloc (.cells #[.string x, .string y] t)) (some ⟨w.heap.size, 0, none⟩) [x.data.toList, y.data.toList] := by
  refine .inr ⟨w.heap.size, 0, rfl, by simp, fun i hi => ?_⟩
  have hi' : i < 2 := hi
  have e : i = 0 ∨ i = 1 := by omega
  rcases e with rfl | rfl <;> simp
end Go.Proofs.Ytflnohmmhodhgaa
