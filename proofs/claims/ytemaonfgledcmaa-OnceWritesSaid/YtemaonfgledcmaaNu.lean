/-
  Layer 14 (once), plain: what clients did last, of pairs. Conditions: as each says.
-/
import Derived.Test.YtemaonfgledcmaaNq
import Derived.Test.YtemaonfgledcmaaNl
import Derived.Test.YtemaonfgledcmaaVn
namespace Go.Proofs.Ytemaonfgledcmaa
open Go.RowKit
set_option linter.unusedVariables false
set_option linter.unusedSimpArgs false

/-- A number off the front. -/
def nO (l : List UInt8) : Option (Nat × List UInt8) := if (tk l 0 0).2.2 = 0 then some ((tk l 0 0).1, l.drop (tk l 0 0).2.1) else none
theorem nO_put (n : Nat) (hn : n ≤ 4611686018427387904) (t : List UInt8) : nO (vL n ++ t) = some (n, t) := by
  have h := tk_put t n 0 0 (by simpa using hn) (fun _ => rfl) (by have := vL_len9 hn; omega)
  unfold nO
  rw [h]
  simp
theorem nO_some {l r : List UInt8} {n : Nat} (h : nO l = some (n, r)) : (tk l 0 0).2.2 = 0 ∧ (tk l 0 0).1 = n ∧ r = l.drop (tk l 0 0).2.1 ∧ l = vL n ++ r ∧ n ≤ 4611686018427387904 := by
  unfold nO at h
  by_cases q : (tk l 0 0).2.2 = 0
  · rw [if_pos q] at h
    simp only [Option.some.injEq, Prod.mk.injEq] at h
    obtain ⟨h1, h2⟩ := h
    have hk : tk l 0 0 = ((tk l 0 0).1, (tk l 0 0).2.1, 0) := Prod.ext rfl (Prod.ext rfl q)
    obtain ⟨m', g1, g2, g3, g4, g5, g6, g7⟩ := tk_back l 0 0 _ _ hk
    have e : n = m' := by rw [← h1, g4]; simp
    refine ⟨q, h1, h2.symm, ?_, ?_⟩
    · rw [← h2, e, g6]; simp
    · rw [← h1]; exact g5
  · rw [if_neg q] at h; cases h
/-- The client that a key is of. -/
def kC (K : List UInt8) : Option Int := match K with
  | [a, b] => if a = 116 then some ((b.toNat : Int) - 48) else none
  | _ => none
/-- Three numbers, and nothing behind them. -/
def v3 (V : List UInt8) : Option (Nat × Nat × Nat) := (nO V).bind fun p => (nO p.2).bind fun q => (nO q.2).bind fun r => if r.1 ≤ 1 ∧ r.2 = [] then some (p.1, q.1, r.1) else none
abbrev Pr := ByteArray × ByteArray
def rdP (x : Pr) : Option Sn := (kC x.1.data.toList).bind fun c => (v3 x.2.data.toList).map fun t => ⟨c, t.1, t.2.1, ⟨#[]⟩, t.2.2 == 1, none, 0, 0, ⟨#[]⟩⟩
def oneP (x : Pr) : Option Sn := (rdP x).bind fun s => if mayS s = true then some s else none
def rdAll : List Pr → Option (List Sn)
  | [] => some []
  | x :: l => (rdP x).bind fun s => (rdAll l).map (s :: ·)
/-- Of, as the code has it. -/
def ofC (l : List Pr) : Option (List Sn) := if l.length ≤ 8 then (rdAll l).bind fun L => if chk L = true then some L else none else none
def ltK (a b : ByteArray) : Bool := Op.bytesLess a.toList b.toList
def okK : Option ByteArray → ByteArray → Bool
  | none, _ => true
  | some K, x => ltK K x
/-- Of, by the document. -/
def ofR : Option ByteArray → List Pr → Option (List Sn)
  | _, [] => some []
  | p, x :: l => (oneP x).bind fun s => if okK p x.1 = true then (ofR (some x.1) l).map (s :: ·) else none
theorem rdP_norm {x : Pr} {s : Sn} (h : rdP x = some s) : normS s = s := by
  unfold rdP at h
  simp only [Option.bind_eq_some_iff, Option.map_eq_some_iff] at h
  obtain ⟨c, _, t, _, rfl⟩ := h
  rfl
theorem rdAll_norm : ∀ {l : List Pr} {L : List Sn}, rdAll l = some L → L.map normS = L
  | [], L, h => by simp only [rdAll, Option.some.injEq] at h; subst h; rfl
  | x :: l, L, h => by
    simp only [rdAll, Option.bind_eq_some_iff, Option.map_eq_some_iff] at h
    obtain ⟨s, hs, M, hM, rfl⟩ := h
    rw [List.map_cons, rdP_norm hs, rdAll_norm hM]
theorem rdAll_len : ∀ {l : List Pr} {L : List Sn}, rdAll l = some L → L.length = l.length
  | [], L, h => by simp only [rdAll, Option.some.injEq] at h; subst h; rfl
  | x :: l, L, h => by
    simp only [rdAll, Option.bind_eq_some_iff, Option.map_eq_some_iff] at h
    obtain ⟨s, hs, M, hM, rfl⟩ := h
    rw [List.length_cons, List.length_cons, rdAll_len hM]
theorem ba_data (K : ByteArray) : K.toList = K.data.toList := by
  obtain ⟨⟨l⟩⟩ := K
  simp
theorem kC_some {K : ByteArray} {c : Int} (h : kC K.data.toList = some c) : ∃ b : UInt8, K.data.toList = [116, b] ∧ c = (b.toNat : Int) - 48 := by
  unfold kC at h
  split at h
  · rename_i a b e
    by_cases q : a = 116
    · rw [if_pos q] at h
      subst q
      exact ⟨b, e, (Option.some.inj h).symm⟩
    · rw [if_neg q] at h; cases h
  · cases h
theorem ltK_of {K K' : ByteArray} {c c' : Int} (h : kC K.data.toList = some c) (h' : kC K'.data.toList = some c') : ltK K K' = decide (c < c') := by
  obtain ⟨b, e, rfl⟩ := kC_some h
  obtain ⟨b', e', rfl⟩ := kC_some h'
  unfold ltK
  rw [ba_data, ba_data, e, e']
  simp only [Op.bytesLess]
  have : (b < b') ↔ ((b.toNat : Int) - 48 < (b'.toNat : Int) - 48) := by rw [UInt8.lt_iff_toNat_lt]; omega
  rcases Nat.lt_trichotomy b.toNat b'.toNat with q | q | q
  · have h1 : b < b' := UInt8.lt_iff_toNat_lt.2 q
    rw [decide_eq_true (this.1 h1)]
    simp [h1]
  · have h1 : b = b' := UInt8.toNat_inj.1 q
    subst h1
    simp
  · have h1 : b' < b := UInt8.lt_iff_toNat_lt.2 q
    have h2 : ¬ b < b' := fun k => by rw [UInt8.lt_iff_toNat_lt] at k; omega
    rw [decide_eq_false (fun k => h2 (this.2 k))]
    simp [h1, h2]
theorem rdP_key {x : Pr} {s : Sn} (h : rdP x = some s) : kC x.1.data.toList = some s.c := by
  unfold rdP at h
  simp only [Option.bind_eq_some_iff, Option.map_eq_some_iff] at h
  obtain ⟨c, hc, t, _, rfl⟩ := h
  exact hc
theorem oneP_some {x : Pr} {s : Sn} : oneP x = some s ↔ rdP x = some s ∧ mayS s = true := by
  unfold oneP
  constructor
  · intro h
    simp only [Option.bind_eq_some_iff] at h
    obtain ⟨t, ht, h⟩ := h
    by_cases q : mayS t = true
    · rw [if_pos q] at h; cases h; exact ⟨ht, q⟩
    · rw [if_neg q] at h; cases h
  · rintro ⟨h1, h2⟩
    rw [h1]; simp [h2]
theorem ofR_up : ∀ (l : List Pr) (p : Option ByteArray) (b : Int), (p = none ∧ b = -1 ∨ ∃ K, p = some K ∧ kC K.data.toList = some b) → ofR p l = (rdAll l).bind fun L => if up b L = true then some L else none
  | [], p, b, _ => by simp [ofR, rdAll, up]
  | x :: l, p, b, hp => by
    unfold ofR rdAll
    cases hr : rdP x with
    | none =>
      have : oneP x = none := by unfold oneP; rw [hr]; rfl
      rw [this]; rfl
    | some s =>
      by_cases hm : mayS s = true
      · have h1 : oneP x = some s := oneP_some.2 ⟨hr, hm⟩
        have hk := rdP_key hr
        have ih := ofR_up l (some x.1) s.c (.inr ⟨_, rfl, hk⟩)
        rw [h1]
        simp only [Option.bind_some]
        rw [ih]
        have hb : okK p x.1 = decide (b < s.c) := by
          rcases hp with ⟨rfl, rfl⟩ | ⟨K, rfl, hK⟩
          · have := (mayS_iff.1 hm).1
            rw [decide_eq_true (by omega)]; rfl
          · exact ltK_of hK hk
        rw [hb]
        cases rdAll l with
        | none => simp
        | some L =>
          simp only [Option.map_some, Option.bind_some, up, hm, Bool.true_and]
          by_cases q : b < s.c
          · simp only [q, decide_true, if_true, Bool.true_and]
            by_cases u : up s.c L = true
            · simp [u]
            · simp [u]
          · simp [q]
      · have h1 : oneP x = none := by unfold oneP; rw [hr]; simp [hm]
        rw [h1]
        cases rdAll l with
        | none => simp
        | some L => simp [up, hm]
theorem ofR_ofC (l : List Pr) : ofR none l = ofC l := by
  rw [ofR_up l none (-1) (.inl ⟨rfl, rfl⟩)]
  unfold ofC
  by_cases h : l.length ≤ 8
  · rw [if_pos h]; rfl
  · rw [if_neg h]
    cases hL : rdAll l with
    | none => rfl
    | some L =>
      have hn : ¬ chk L = true := fun q => h (by rw [← rdAll_len hL]; exact chk_len q)
      show (if chk L = true then some L else none) = none
      rw [if_neg hn]
def ofE (l : List Pr) : Int := match ofC l with | some _ => 0 | none => 1
def ofL (l : List Pr) : List Sn := match ofC l with | some L => L | none => []
theorem ofC_some {l : List Pr} {L : List Sn} (h : ofC l = some L) : rdAll l = some L ∧ chk L = true ∧ l.length ≤ 8 := by
  unfold ofC at h
  by_cases q : l.length ≤ 8
  · rw [if_pos q] at h
    simp only [Option.bind_eq_some_iff] at h
    obtain ⟨M, hM, h⟩ := h
    by_cases u : chk M = true
    · rw [if_pos u] at h; cases h; exact ⟨hM, u, q⟩
    · rw [if_neg u] at h; cases h
  · rw [if_neg q] at h; cases h
theorem ofL_bare (l : List Pr) : ∀ x ∈ ofL l, bareS x := by
  unfold ofL
  cases h : ofC l with
  | none => intro x hx; simp at hx
  | some L => exact bare_chk (ofC_some h).2.1
/-- What is written is read. -/
def wrP (x : Sn) : Pr := (⟨(keyW x).toArray⟩, ⟨(valW x).toArray⟩)
theorem rdP_wrP {x : Sn} (h : mayS x = true) : rdP (wrP x) = some (normS x) := by
  have hm := mayS_iff.1 h
  have hk : kC (wrP x).1.data.toList = some x.c := by
    show kC (keyW x) = _
    unfold keyW kC
    have : (UInt8.ofNat (48 + x.c.toNat)).toNat = 48 + x.c.toNat := by rw [UInt8.toNat_ofNat']; omega
    simp only [if_true, this]
    congr 1
    omega
  have hf : flagN x.h ≤ 1 := by unfold flagN; split <;> omega
  have hv : v3 (wrP x).2.data.toList = some (x.s.toNat, x.e.toNat, flagN x.h) := by
    show v3 (valW x) = _
    unfold v3 valW
    rw [List.append_assoc, nO_put _ (by omega)]
    simp only [Option.bind_some]
    rw [nO_put _ (by omega)]
    simp only [Option.bind_some]
    rw [← List.append_nil (vL (flagN x.h)), nO_put _ (by omega)]
    simp [hf]
  unfold rdP
  rw [hk, hv]
  simp only [Option.bind_some, Option.map_some, Option.some.injEq]
  unfold normS
  have h1 : ((x.s.toNat : Nat) : Int) = x.s := by omega
  have h2 : ((x.e.toNat : Nat) : Int) = x.e := by omega
  have h3 : (flagN x.h == 1) = x.h := by unfold flagN; cases x.h <;> rfl
  rw [h1, h2, h3]
theorem rdAll_wr : ∀ {l : List Sn}, (∀ x ∈ l, mayS x = true) → rdAll (l.map wrP) = some (l.map normS)
  | [], _ => rfl
  | x :: l, h => by
    rw [List.map_cons, List.map_cons]
    unfold rdAll
    rw [rdP_wrP (h x (by simp)), rdAll_wr fun y hy => h y (by simp [hy])]
    rfl
theorem ofC_wr {l : List Sn} (h : chk l = true) : ofC (l.map wrP) = some (l.map normS) := by
  unfold ofC
  rw [List.length_map, if_pos (chk_len h), rdAll_wr (chk_iff.1 h).1]
  simp [chk_map h]
theorem wr_ok {x : Sn} (h : mayS x = true) : wrE x = 0 ∧ wrV x = .agg #[.string (wrP x).1, .string (wrP x).2, .bool false] := by
  unfold wrE wrV
  rw [if_pos h, if_pos h]
  exact ⟨rfl, rfl⟩
end Go.Proofs.Ytemaonfgledcmaa
