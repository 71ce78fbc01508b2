/-
  Layer 4 (span): slices of entries; the contracts of Clip, of the document's own Clip and Same. Conditions: at most 100000 entries, texts within the form's reach.
-/
import Derived.Test.YtdpinkipcaolhaaSh
import Derived.Test.YtdpinkipcaolhaaSn
import Derived.Laws.OwnMore
namespace Go.Proofs.Ytdpinkipcaolhaa
open Go.RowKit

/-- An entry: key, value, gone, number. -/
abbrev Ent := ByteArray × ByteArray × Bool × Int
def ev (e : Ent) : List Value := [.string e.1, .string e.2.1, .bool e.2.2.1, .int .i64 e.2.2.2]
def ev4 (es : List Ent) : List Value := es.flatMap ev
theorem ev4_length (es : List Ent) : (ev4 es).length = es.length * 4 := by
  induction es with
  | nil => rfl
  | cons e es ih =>
    show (ev e ++ ev4 es).length = _
    rw [List.length_append, ih, List.length_cons]
    show 4 + _ = _
    omega
theorem ev4_snoc (es : List Ent) (e : Ent) : ev4 es ++ ev e = ev4 (es ++ [e]) := by simp [ev4]
theorem ev4_get (es : List Ent) : ∀ (i : Nat) (h : i < es.length), (ev4 es)[i * 4]? = some (.string es[i].1) ∧ (ev4 es)[i * 4 + 1]? = some (.string es[i].2.1) ∧ (ev4 es)[i * 4 + 2]? = some (.bool es[i].2.2.1) ∧ (ev4 es)[i * 4 + 3]? = some (.int .i64 es[i].2.2.2) := by
  induction es with
  | nil => intro i h; simp at h
  | cons e es ih =>
    intro i h
    have e0 : ev4 (e :: es) = ev e ++ ev4 es := rfl
    rw [e0]
    cases i with
    | zero => simp [ev]
    | succ i =>
      have hi := ih i (by simpa using h)
      have hl : (ev e).length = 4 := rfl
      rw [List.getElem?_append_right (by rw [hl]; omega), List.getElem?_append_right (by rw [hl]; omega), List.getElem?_append_right (by rw [hl]; omega), List.getElem?_append_right (by rw [hl]; omega), hl]
      rw [show (i + 1) * 4 - 4 = i * 4 by omega, show (i + 1) * 4 + 1 - 4 = i * 4 + 1 by omega, show (i + 1) * 4 + 2 - 4 = i * 4 + 2 by omega, show (i + 1) * 4 + 3 - 4 = i * 4 + 3 by omega]
      simpa using hi
theorem ev4_one (es : List Ent) : ∀ u ∈ ev4 es, u.oneCell' = true := by
  intro u hu
  simp only [ev4, List.mem_flatMap, ev, List.mem_cons, List.not_mem_nil, or_false] at hu
  obtain ⟨e, _, rfl | rfl | rfl | rfl⟩ := hu <;> rfl
/-- A slice's first elements are the entries es: its address, if there is one, is plain. -/
def RdE (w : World) (a : Option Addr) (es : List Ent) : Prop :=
  es = [] ∨ ∃ b off, a = some ⟨b, off, none⟩ ∧ b < w.heap.size ∧ ∀ i (h : i < es.length), w.cell? ⟨b, off + i * 4, none⟩ = some (.string es[i].1) ∧ w.cell? ⟨b, off + i * 4 + 1, none⟩ = some (.string es[i].2.1) ∧
    w.cell? ⟨b, off + i * 4 + 2, none⟩ = some (.bool es[i].2.2.1) ∧ w.cell? ⟨b, off + i * 4 + 3, none⟩ = some (.int .i64 es[i].2.2.2)
theorem RdE.old {w w' : World} {a : Option Addr} {es : List Ent} (h : RdE w a es) (hb : Below w.heap.size w w') : RdE w' a es := by
  rcases h with rfl | ⟨b, off, rfl, hlt, hc⟩
  · exact .inl rfl
  · refine .inr ⟨b, off, rfl, Nat.lt_of_lt_of_le hlt hb.size, fun i hi => ?_⟩
    obtain ⟨h0, h1, h2, h3⟩ := hc i hi
    exact ⟨(hb.cell (p := ⟨b, off + i * 4, none⟩) hlt).trans h0, (hb.cell (p := ⟨b, off + i * 4 + 1, none⟩) hlt).trans h1, (hb.cell (p := ⟨b, off + i * 4 + 2, none⟩) hlt).trans h2, (hb.cell (p := ⟨b, off + i * 4 + 3, none⟩) hlt).trans h3⟩
theorem own_form {w : World} {base size n : Nat} {t : TypeId} {v : Value} {xs : List Value} (h : w.ownsRow base t size v n xs) (hs : 0 < size) : ∃ a cap, v = .slice a n cap := by
  rcases h.2 with ⟨rfl, hnil⟩ | ⟨g, cap, cur, rfl, _⟩
  · have h1 := h.1
    rw [hnil] at h1
    have : n = 0 := by
      rcases Nat.eq_zero_or_pos n with h0 | h0
      · exact h0
      · have := Nat.mul_pos h0 hs
        simp at h1
        omega
    subst this
    exact ⟨_, _, rfl⟩
  · exact ⟨_, _, rfl⟩
theorem own_rde {w : World} {base n cap : Nat} {t : TypeId} {a : Option Addr} {es : List Ent} (h : w.ownsRow base t 4 (.slice a n cap) n (ev4 es)) (hn : es.length = n) : RdE w a es := by
  subst hn
  by_cases h0 : es = []
  · exact .inl h0
  · obtain ⟨g, hA⟩ : ∃ g, a = some ⟨g, 0, none⟩ := by
      rcases h.2 with ⟨_, hn⟩ | ⟨g, c, cur, hv, _⟩
      · exact absurd (List.length_eq_zero_iff.1 hn) h0
      · injection hv with hA
        exact ⟨g, hA⟩
    subst hA
    have hlt := (h.lt g rfl).2
    refine .inr ⟨g, 0, rfl, hlt, fun i hi => ?_⟩
    obtain ⟨h0, h1, h2, h3⟩ := ev4_get es i hi
    have hc := h.cells (g := g) rfl
    have e : ∀ j, 0 < j → (⟨g, 0, none⟩ : Addr).add j = ⟨g, 0 + j, none⟩ := by intro j hj; unfold Addr.add; rw [if_neg (by omega)]
    have e' : ∀ j, (⟨g, 0, none⟩ : Addr).add j = ⟨g, 0 + j, none⟩ := by intro j; unfold Addr.add; split <;> simp_all
    have c0 := hc _ _ h0
    have c1 := hc _ _ h1
    have c2 := hc _ _ h2
    have c3 := hc _ _ h3
    rw [e'] at c0 c1 c2 c3
    exact ⟨c0, c1, c2, c3⟩

theorem Try.infoEnt : (Try.prog.info? 37).map (fun i => (i.zero, i.size, i.bytes)) = some (some (.agg #[.string ⟨#[]⟩, .string ⟨#[]⟩, .bool false, .int .i64 0]), 4, 48) := by kernel_rfl
/-- The new cells of 'append(l, e)'. -/
theorem cell_new4 (w : World) (A B C D : Value) (t : TypeId) : ∀ j u, [A, B, C, D][j]? = some u → (w.alloc (.cells #[A, B, C, D] t)).cell? ((⟨w.heap.size, 0, none⟩ : Addr).add j) = some u := by
  intro j u hj
  have e' : ∀ j, (⟨w.heap.size, 0, none⟩ : Addr).add j = ⟨w.heap.size, 0 + j, none⟩ := by intro j; unfold Addr.add; split <;> simp_all
  rw [e']
  match j, hj with
  | 0, hj => simp at hj; subst hj; simp
  | 1, hj => simp at hj; subst hj; simp
  | 2, hj => simp at hj; subst hj; simp
  | 3, hj => simp at hj; subst hj; simp
/-- The entries whose keys are within a range. -/
def clipL (lo hi : ByteArray) (es : List Ent) : List Ent := es.filter fun e => hasB lo hi e.1
theorem clip_snoc (lo hi : ByteArray) (es : List Ent) (e : Ent) : clipL lo hi (es ++ [e]) = if hasB lo hi e.1 = true then clipL lo hi es ++ [e] else clipL lo hi es := by
  unfold clipL
  rw [List.filter_append]
  cases h : hasB lo hi e.1 <;> simp [h]
theorem clip_le (lo hi : ByteArray) (es : List Ent) : (clipL lo hi es).length ≤ es.length := List.length_filter_le _ _
def okE (es : List Ent) : Prop := ∀ e ∈ es, okS e.1
/-- What Clip leaves. -/
def CL (lo hi : ByteArray) (es : List Ent) (w : World) (e : Ending) (w' : World) : Prop := ∃ a cap, e = .returned (.slice a (clipL lo hi es).length cap) ∧ RdE w' a (clipL lo hi es) ∧ Below w.heap.size w w'
end Go.Proofs.Ytdpinkipcaolhaa
