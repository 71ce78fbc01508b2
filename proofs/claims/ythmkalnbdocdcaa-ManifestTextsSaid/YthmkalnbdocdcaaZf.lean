/-
  Layer 12 (manifest): the text of a light edit is short.
-/
import Derived.Test.YthmkalnbdocdcaaZe
namespace Go.Proofs.Ythmkalnbdocdcaa
set_option maxRecDepth 100000
open Go.RowKit
set_option linter.unusedVariables false
set_option linter.unusedSimpArgs false

theorem tabB_lite {t : Tb} (h : mayT t = true) (h1 : t.2.2.1.size ≤ 100) (h2 : t.2.2.2.size ≤ 100) : (tabB t).length ≤ 300 := by
  obtain ⟨⟨m1, m2⟩, ⟨m3, m4⟩, -⟩ := mayT_iff.1 h
  have a1 := vL_len9 (n := t.1.toNat) (by omega)
  have a2 := vL_len9 (n := t.2.1.toNat) (by omega)
  have e1 : t.2.2.1.data.toList.length = t.2.2.1.size := rfl
  have e2 : t.2.2.2.data.toList.length = t.2.2.2.size := rfl
  have a3 := vL_len9 (n := t.2.2.1.data.toList.length) (by omega)
  have a4 := vL_len9 (n := t.2.2.2.data.toList.length) (by omega)
  unfold tabB txL
  simp only [List.length_append]
  omega
theorem tabsB_lite : ∀ {ts : List Tb}, (∀ t ∈ ts, mayT t = true) → (∀ t ∈ ts, t.2.2.1.size ≤ 100 ∧ t.2.2.2.size ≤ 100) → (tabsB ts).length ≤ 300 * ts.length
  | [], _, _ => by simp [tabsB]
  | t :: ts, h, h2 => by
    have a := tabB_lite (h t (by simp)) (h2 t (by simp)).1 (h2 t (by simp)).2
    have b := tabsB_lite (ts := ts) (fun x hx => h x (by simp [hx])) (fun x hx => h2 x (by simp [hx]))
    have e : tabsB (t :: ts) = tabB t ++ tabsB ts := rfl
    rw [e, List.length_append, List.length_cons]
    omega
theorem edB_lite {e : Ed} (h : mayEd e = true) (hl : liteEd e = true) : (edB e).length ≤ 100000 := by
  obtain ⟨h1, h2, h3, h4, h5, h6⟩ := mayEd_iff.1 h
  obtain ⟨⟨l1, l2⟩, l3⟩ := liteEd_iff.1 hl
  have ht : e.1.take 140 = e.1 := List.take_of_length_le l1
  rw [ht] at l3
  have a := tabsB_lite h3 l3
  have b := intsB_len h4
  have c1 := vL_len9 (n := e.1.length) (by omega)
  have c2 := vL_len9 (n := e.2.1.length) (by omega)
  have c3 := vL_len9 (n := e.2.2.1.toNat) (by omega)
  have c4 := vL_len9 (n := e.2.2.2.toNat) (by omega)
  unfold edB
  simp only [List.length_append]
  omega
/-- What Put leaves: a text and a number. -/
theorem pue_pair (d : Ed) (hl : liteEd d = true) : ∃ (s : ByteArray) (n : Int), s.size ≤ 100000 ∧ (∀ w e w', PUe d w e w' → e = .returned (.tuple #[.string s, .int .i64 n]) ∧ Below w.heap.size w w') ∧ ((n = 0 ∧ tkD s = d ∧ tkN s = 0) ∨ n = 1) := by
  cases h : mayEd d with
  | true =>
    refine ⟨⟨(edB d).toArray⟩, 0, ?_, fun w e w' q => ?_, .inl ⟨rfl, tk_yes (takE_put h)⟩⟩
    · show (edB d).toArray.size ≤ _
      rw [List.size_toArray]
      exact edB_lite h hl
    · unfold PUe at q
      rw [if_pos h] at q
      exact q
  | false =>
    refine ⟨⟨#[]⟩, 1, by decide, fun w e w' q => ?_, .inr rfl⟩
    unfold PUe at q
    rw [h, if_neg (by decide)] at q
    exact q
end Go.Proofs.Ythmkalnbdocdcaa
