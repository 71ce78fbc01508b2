/-
  Layer 12 (manifest): the contract of the document's Take. Conditions: at most 2^24 bytes.
-/
import Derived.Test.YthmkalnbdocdcaaYn
import Derived.Deep.DeepCutAuto
import Derived.Deep.CutRange
namespace Go.Proofs.Ythmkalnbdocdcaa
set_option maxRecDepth 100000
open Go.RowKit
set_option linter.unusedVariables false
set_option linter.unusedSimpArgs false

theorem rdTs_len : ∀ {n : Nat} {l : List UInt8} {p : List Tb × List UInt8}, rdTs n l = some p → p.1.length = n
  | 0, l, p, h => by rw [rdTs_zero] at h; cases h; rfl
  | n + 1, l, p, h => by
    rw [rdTs_succ] at h
    cases e : rdT l with
    | none => rw [e] at h; cases h
    | some q =>
      rw [e, Option.bind_some] at h
      cases e2 : rdTs n q.2 with
      | none => rw [e2] at h; cases h
      | some r =>
        rw [e2, Option.bind_some] at h
        cases h
        simp [rdTs_len e2]
theorem rdZs_len : ∀ {n : Nat} {l : List UInt8} {p : List Int × List UInt8}, rdZs n l = some p → p.1.length = n
  | 0, l, p, h => by rw [rdZs_zero] at h; cases h; rfl
  | n + 1, l, p, h => by
    rw [rdZs_succ] at h
    cases e : rdZ1 l with
    | none => rw [e] at h; cases h
    | some q =>
      rw [e, Option.bind_some] at h
      cases e2 : rdZs n q.2 with
      | none => rw [e2] at h; cases h
      | some r =>
        rw [e2, Option.bind_some] at h
        cases h
        simp [rdZs_len e2]
/-- What stands behind a loop that ends at 129. -/
def EndX {α : Type} (T : Option (List α × List UInt8)) (n : Nat) (oi : Option (List UInt8)) (xs : List α) : Prop := (n ≤ 128 → oi = T.map (·.2) ∧ ∀ p, T = some p → xs = p.1) ∧ (128 < n → oi = none ∨ xs.length = 129)
theorem EndX.none {α : Type} {T : Option (List α × List UInt8)} {n : Nat} {xs : List α} (h : EndX T n none xs) (hn : n ≤ 128) : T = none := by
  have := (h.1 hn).1
  cases T with
  | none => rfl
  | some p => simp at this
theorem rfin {l : List UInt8} {n m n1 n2 : Nat} {ts : List Tb} {zs : List Int} {o2 o4 o6 : Option (List UInt8)} {T : Option (List Tb × List UInt8)} {Z : Option (List Int × List UInt8)}
    (hA : ∀ p, (some l).bind rdN = some p → n = p.1) (hT : T = (((some l).bind rdN).map (·.2)).bind (rdTs n)) (h1 : EndX T n o2 ts)
    (hM : ∀ p, o2.bind rdN = some p → m = p.1) (hZ : Z = ((o2.bind rdN).map (·.2)).bind (rdZs m)) (h2 : EndX Z m o4 zs)
    (hL : ∀ p, o4.bind rdN = some p → n1 = p.1) (hN : ∀ p, ((o4.bind rdN).map (·.2)).bind rdN = some p → n2 = p.1) (h6 : o6 = (((o4.bind rdN).map (·.2)).bind rdN).map (·.2)) :
    (o6 = some [] → ts.length = n → zs.length = m → mayEd (ts, zs, (n1 : Int), (n2 : Int)) = true → takE l = some (ts, zs, (n1 : Int), (n2 : Int))) ∧
    ((takE l).isSome = true → o6 = some [] ∧ ts.length = n ∧ zs.length = m ∧ mayEd (ts, zs, (n1 : Int), (n2 : Int)) = true) := by
  have key : n ≤ 128 → m ≤ 128 → ∀ d, takE l = some d ↔ (o6 = some [] ∧ mayEd d = true ∧ d = (ts, zs, (n1 : Int), (n2 : Int))) := by
    intro hn8 hm8 d
    obtain ⟨e1, v1⟩ := h1.1 hn8
    obtain ⟨e2, v2⟩ := h2.1 hm8
    have rT : (some l).bind rdEachT = T := by
      rw [hT]
      simp only [Option.bind_some, rdEachT] at hA ⊢
      cases e : rdN l with
      | none => rfl
      | some p =>
        rw [hA p e] at hn8 ⊢
        simp only [Option.bind_some, Option.map_some]
        rw [if_pos hn8]
    have rZ : ((T.map (·.2)).bind rdEachZ) = Z := by
      rw [hZ, ← e1]
      cases o2 with
      | none => rfl
      | some r =>
        simp only [Option.bind_some, rdEachZ] at hM ⊢
        cases e : rdN r with
        | none => rfl
        | some p =>
          rw [hM p e] at hm8 ⊢
          simp only [Option.bind_some, Option.map_some]
          rw [if_pos hm8]
    have q := rdE_all (l := l) (ts := ts) (zs := zs) (n1 := n1) (n2 := n2) (by rw [rT]; exact v1) (by rw [rT, rZ]; exact v2) (by rw [rT, rZ, ← e2]; exact hL) (by rw [rT, rZ, ← e2]; exact hN)
    rw [rT, rZ, ← e2, ← h6] at q
    unfold takE
    cases o6 with
    | none => rw [q.2 rfl]; simp
    | some r =>
      rw [q.1 r rfl]
      by_cases hr : r = []
      · subst hr
        rw [if_pos rfl, Option.bind_some]
        constructor
        · intro h
          split at h
          · cases h; exact ⟨rfl, by assumption, rfl⟩
          · cases h
        · rintro ⟨-, h2, rfl⟩
          rw [if_pos h2]
      · rw [if_neg hr]
        simp
        intro h; exact absurd h hr
  constructor
  · intro a1 a2 a3 a4
    obtain ⟨b1, b2, -⟩ := mayEd_iff.1 a4
    simp only at b1 b2
    exact (key (by omega) (by omega) _).2 ⟨a1, a4, rfl⟩
  · intro h
    obtain ⟨d, hd⟩ := Option.isSome_iff_exists.1 h
    have hn8 : n ≤ 128 := by
      unfold takE at hd
      rw [rdE_eq] at hd
      simp only [Option.bind_some] at hA
      unfold rdEachT at hd
      cases e : rdN l with
      | none => rw [e] at hd; cases hd
      | some p =>
        rw [e, Option.bind_some] at hd
        rw [hA p e]
        by_cases h8 : p.1 ≤ 128
        · exact h8
        · rw [if_neg h8] at hd; cases hd
    obtain ⟨e1, v1⟩ := h1.1 hn8
    have rT : rdEachT l = T := by
      rw [hT]
      simp only [Option.bind_some, rdEachT] at hA ⊢
      cases e : rdN l with
      | none => rfl
      | some p =>
        rw [hA p e] at hn8 ⊢
        simp only [Option.bind_some, Option.map_some]
        rw [if_pos hn8]
    have hm8 : m ≤ 128 := by
      have hd' := hd
      unfold takE at hd'
      rw [rdE_eq, rT] at hd'
      cases eT : T with
      | none => rw [eT] at hd'; cases hd'
      | some tp =>
        rw [eT] at hd' e1
        simp only [Option.map_some] at e1
        rw [e1] at hM
        simp only [Option.bind_some] at hd' hM
        unfold rdEachZ at hd'
        cases e : rdN tp.2 with
        | none => rw [e] at hd'; cases hd'
        | some p =>
          rw [e, Option.bind_some] at hd'
          rw [hM p e]
          by_cases h8 : p.1 ≤ 128
          · exact h8
          · rw [if_neg h8] at hd'; cases hd'
    obtain ⟨k1, k2, k3⟩ := (key hn8 hm8 d).1 hd
    obtain ⟨e2, v2⟩ := h2.1 hm8
    have t1 : ts.length = n := by
      cases eT : T with
      | none =>
        rw [eT] at e1
        simp only [Option.map_none] at e1
        rw [e1] at hZ
        simp at hZ
        rw [hZ] at e2
        simp only [Option.map_none] at e2
        rw [e2] at h6
        rw [h6] at k1; cases k1
      | some tp =>
        rw [v1 tp eT]
        rw [hT] at eT
        cases e0 : ((some l).bind rdN).map (·.2) with
        | none => rw [e0] at eT; cases eT
        | some r0 => rw [e0, Option.bind_some] at eT; exact rdTs_len eT
    have t2 : zs.length = m := by
      cases eZ : Z with
      | none =>
        rw [eZ] at e2
        simp only [Option.map_none] at e2
        rw [e2] at h6
        rw [h6] at k1; cases k1
      | some tp =>
        rw [v2 tp eZ]
        rw [hZ] at eZ
        cases e0 : (o2.bind rdN).map (·.2) with
        | none => rw [e0] at eZ; cases eZ
        | some r0 => rw [e0, Option.bind_some] at eZ; exact rdZs_len eZ
    exact ⟨k1, t1, t2, by rw [← k3]; exact k2⟩
end Go.Proofs.Ythmkalnbdocdcaa
