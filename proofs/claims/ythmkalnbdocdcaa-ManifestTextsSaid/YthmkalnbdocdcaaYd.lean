/-
  Layer 12 (manifest): tables in memory: slices of tables that are read, that a call owns, that it hands back. Conditions: as each says.
-/
import Derived.Test.YthmkalnbdocdcaaYh
import Derived.Test.YthmkalnbdocdcaaSv
import Derived.Laws.OwnMore
namespace Go.Proofs.Ythmkalnbdocdcaa
open Go.RowKit
set_option linter.unusedVariables false
set_option linter.unusedSimpArgs false

theorem str_ne {a b : ByteArray} (h : ¬ a = b) : (a.toList == b.toList) = false := by
  rw [beq_eq_false_iff_ne]
  exact fun e => h (ba_ext e)
def tv4 (ts : List Tb) : List Value := ts.flatMap tv
theorem tv4_length (ts : List Tb) : (tv4 ts).length = ts.length * 4 := by
  induction ts with
  | nil => rfl
  | cons t ts ih =>
    show (tv t ++ tv4 ts).length = _
    rw [List.length_append, ih, List.length_cons]
    show 4 + _ = _
    omega
theorem tv4_app (ts us : List Tb) : tv4 ts ++ tv4 us = tv4 (ts ++ us) := by simp [tv4]
theorem tv4_snoc (ts : List Tb) (t : Tb) : tv4 ts ++ tv t = tv4 (ts ++ [t]) := by simp [tv4]
theorem tv4_get (ts : List Tb) : ∀ (i : Nat) (h : i < ts.length), (tv4 ts)[i * 4]? = some (.int .i64 ts[i].1) ∧ (tv4 ts)[i * 4 + 1]? = some (.int .i64 ts[i].2.1) ∧ (tv4 ts)[i * 4 + 2]? = some (.string ts[i].2.2.1) ∧ (tv4 ts)[i * 4 + 3]? = some (.string ts[i].2.2.2) := by
  induction ts with
  | nil => intro i h; simp at h
  | cons t ts ih =>
    intro i h
    have e0 : tv4 (t :: ts) = tv t ++ tv4 ts := rfl
    rw [e0]
    cases i with
    | zero => simp [tv]
    | succ i =>
      have hi := ih i (by simpa using h)
      have hl : (tv t).length = 4 := rfl
      rw [List.getElem?_append_right (by rw [hl]; omega), List.getElem?_append_right (by rw [hl]; omega), List.getElem?_append_right (by rw [hl]; omega), List.getElem?_append_right (by rw [hl]; omega), hl]
      rw [show (i + 1) * 4 - 4 = i * 4 by omega, show (i + 1) * 4 + 1 - 4 = i * 4 + 1 by omega, show (i + 1) * 4 + 2 - 4 = i * 4 + 2 by omega, show (i + 1) * 4 + 3 - 4 = i * 4 + 3 by omega]
      simpa using hi
theorem tv4_one (ts : List Tb) : ∀ u ∈ tv4 ts, u.oneCell' = true := by
  intro u hu
  simp only [tv4, List.mem_flatMap, tv, List.mem_cons, List.not_mem_nil, or_false] at hu
  obtain ⟨e, _, rfl | rfl | rfl | rfl⟩ := hu <;> rfl
/-- Tables lie one behind the other. -/
def TbAt (w : World) (b off : Nat) (ts : List Tb) : Prop := ∀ i (h : i < ts.length), w.cell? ⟨b, off + i * 4, none⟩ = some (.int .i64 ts[i].1) ∧ w.cell? ⟨b, off + i * 4 + 1, none⟩ = some (.int .i64 ts[i].2.1) ∧ w.cell? ⟨b, off + i * 4 + 2, none⟩ = some (.string ts[i].2.2.1) ∧ w.cell? ⟨b, off + i * 4 + 3, none⟩ = some (.string ts[i].2.2.2)
theorem TbAt.old {w w' : World} {b off : Nat} {ts : List Tb} (h : TbAt w b off ts) (hb : b < w.heap.size) (hw : Below w.heap.size w w') : TbAt w' b off ts := by
  intro i hi
  obtain ⟨h0, h1, h2, h3⟩ := h i hi
  exact ⟨(hw.cell (p := ⟨b, off + i * 4, none⟩) hb).trans h0, (hw.cell (p := ⟨b, off + i * 4 + 1, none⟩) hb).trans h1, (hw.cell (p := ⟨b, off + i * 4 + 2, none⟩) hb).trans h2, (hw.cell (p := ⟨b, off + i * 4 + 3, none⟩) hb).trans h3⟩
/-- A slice's first elements are the tables ts. -/
def RdT (w : World) (a : Option Addr) (ts : List Tb) : Prop := ts = [] ∨ ∃ b off, a = some ⟨b, off, none⟩ ∧ b < w.heap.size ∧ TbAt w b off ts
theorem RdT.old {w w' : World} {a : Option Addr} {ts : List Tb} (h : RdT w a ts) (hb : Below w.heap.size w w') : RdT w' a ts := by
  rcases h with rfl | ⟨b, off, rfl, hlt, hc⟩
  · exact .inl rfl
  · exact .inr ⟨b, off, rfl, Nat.lt_of_lt_of_le hlt hb.size, hc.old hlt hb⟩
theorem RdT.at_ {w : World} {a : Option Addr} {ts : List Tb} (h : RdT w a ts) : ∃ b off, (0 < ts.length → a = some ⟨b, off, none⟩) ∧ (0 < ts.length → b < w.heap.size) ∧ TbAt w b off ts := by
  rcases h with rfl | ⟨b, off, rfl, hb, hc⟩
  · exact ⟨0, 0, fun h => by simp at h, fun h => by simp at h, fun i hi => by simp at hi⟩
  · exact ⟨b, off, fun _ => rfl, fun _ => hb, hc⟩
theorem own_form {w : World} {base size n : Nat} {t : TypeId} {v : Value} {xs : List Value} (h : w.ownsRow base t size v n xs) (hs : 0 < size) : ∃ a cap, v = .slice a n cap := by
  rcases h.2 with ⟨rfl, hnil⟩ | ⟨g, cap, cur, rfl, _⟩
  · have h1 := h.1
    rw [hnil] at h1
    have : n = 0 := by
      rcases Nat.eq_zero_or_pos n with h0 | h0
      · exact h0
      · have := Nat.mul_pos h0 hs
        simp at h1
        omega
    subst this
    exact ⟨_, _, rfl⟩
  · exact ⟨_, _, rfl⟩
theorem own_rdt {w : World} {base n cap : Nat} {t : TypeId} {a : Option Addr} {ts : List Tb} (h : w.ownsRow base t 4 (.slice a n cap) n (tv4 ts)) (hn : ts.length = n) : RdT w a ts := by
  subst hn
  by_cases h0 : ts = []
  · exact .inl h0
  · obtain ⟨g, hA⟩ : ∃ g, a = some ⟨g, 0, none⟩ := by
      rcases h.2 with ⟨_, hn⟩ | ⟨g, c, cur, hv, _⟩
      · exact absurd (List.length_eq_zero_iff.1 hn) h0
      · injection hv with hA
        exact ⟨g, hA⟩
    subst hA
    have hlt := (h.lt g rfl).2
    refine .inr ⟨g, 0, rfl, hlt, fun i hi => ?_⟩
    obtain ⟨h0, h1, h2, h3⟩ := tv4_get ts i hi
    have hc := h.cells (g := g) rfl
    have e' : ∀ j, (⟨g, 0, none⟩ : Addr).add j = ⟨g, 0 + j, none⟩ := by intro j; unfold Addr.add; split <;> simp_all
    have c0 := hc _ _ h0
    have c1 := hc _ _ h1
    have c2 := hc _ _ h2
    have c3 := hc _ _ h3
    rw [e'] at c0 c1 c2 c3
    exact ⟨c0, c1, c2, c3⟩
theorem Try.infoTab : (Try.prog.info? 49).map (fun i => (i.zero, i.size, i.bytes)) = some (some (.agg #[.int .i64 0, .int .i64 0, .string ⟨#[]⟩, .string ⟨#[]⟩]), 4, 48) := by kernel_rfl
theorem cell_new4 (w : World) (A B C D : Value) (t : TypeId) : ∀ j u, [A, B, C, D][j]? = some u → (w.alloc (.cells #[A, B, C, D] t)).cell? ((⟨w.heap.size, 0, none⟩ : Addr).add j) = some u := by
  intro j u hj
  have e' : ∀ j, (⟨w.heap.size, 0, none⟩ : Addr).add j = ⟨w.heap.size, 0 + j, none⟩ := by intro j; unfold Addr.add; split <;> simp_all
  rw [e']
  match j, hj with
  | 0, hj => simp at hj; subst hj; simp
  | 1, hj => simp at hj; subst hj; simp
  | 2, hj => simp at hj; subst hj; simp
  | 3, hj => simp at hj; subst hj; simp
/-- A slice of tables that a call has, or hands back. -/
def ST (w : World) (a : Option Addr) (n cap : Nat) (ts : List Tb) : Prop := ts.length = n ∧ RdT w a ts ∧ n ≤ cap ∧ cap ≤ maxLen
theorem ST.old {w w' : World} {a : Option Addr} {n cap : Nat} {ts : List Tb} (h : ST w a n cap ts) (hb : Below w.heap.size w w') : ST w' a n cap ts := ⟨h.1, h.2.1.old hb, h.2.2⟩
theorem own_st {w : World} {base n : Nat} {v : Value} {ts : List Tb} (h : w.ownsRow base 49 4 v n (tv4 ts)) (hn : ts.length = n) : ∃ a cap, v = .slice a n cap ∧ ST w a n cap ts := by
  rcases h.2 with ⟨rfl, hnil⟩ | ⟨g, cap, cur, rfl, hbg, hh, hnc, hcm, _⟩
  · have h0 : ts = [] := List.length_eq_zero_iff.1 (hn.trans hnil)
    subst h0
    have : n = 0 := by simpa using hn.symm
    subst this
    exact ⟨none, 0, rfl, rfl, .inl rfl, Nat.le_refl _, Nat.zero_le _⟩
  · exact ⟨_, cap, rfl, hn, own_rdt h hn, hnc, hcm⟩
/-- Tables that a call hands back. -/
def PT (ts : List Tb) (w : World) (e : Ending) (w' : World) : Prop := ∃ a n cap, e = .returned (.slice a n cap) ∧ ST w' a n cap ts ∧ Below w.heap.size w w'
def okT (ts : List Tb) : Prop := ∀ t ∈ ts, okTb t
theorem okTb_may {t : Tb} (h : mayT t = true) : okTb t := ⟨okS_key (keyB_iff.1 (mayT_iff.1 h).2.2.1).2, okS_key (keyB_iff.1 (mayT_iff.1 h).2.2.2.1).2⟩
/-- A box of a table. -/
def TBox (w : World) (x : Nat) (t : Tb) : Prop := w.cell? ⟨x, 0, none⟩ = some (.int .i64 t.1) ∧ w.cell? ⟨x, 1, none⟩ = some (.int .i64 t.2.1) ∧ w.cell? ⟨x, 2, none⟩ = some (.string t.2.2.1) ∧ w.cell? ⟨x, 3, none⟩ = some (.string t.2.2.2) ∧ x < w.heap.size
theorem TBox.below {w w' : World} {x : Nat} {t : Tb} (h : TBox w x t) (hb : Below w.heap.size w w') : TBox w' x t :=
  ⟨(hb.cell (p := ⟨x, 0, none⟩) h.2.2.2.2).trans h.1, (hb.cell (p := ⟨x, 1, none⟩) h.2.2.2.2).trans h.2.1, (hb.cell (p := ⟨x, 2, none⟩) h.2.2.2.2).trans h.2.2.1, (hb.cell (p := ⟨x, 3, none⟩) h.2.2.2.2).trans h.2.2.2.1, Nat.lt_of_lt_of_le h.2.2.2.2 hb.size⟩
theorem TBox.new (w : World) (T : TypeId) (t : Tb) : TBox (w.alloc (.cells #[.int .i64 t.1, .int .i64 t.2.1, .string t.2.2.1, .string t.2.2.2] T)) w.heap.size t :=
  ⟨by simp, by simp, by simp, by simp, by simp⟩
end Go.Proofs.Ythmkalnbdocdcaa
