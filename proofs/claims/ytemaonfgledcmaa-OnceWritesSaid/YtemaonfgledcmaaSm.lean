/-
  Layer 4 (span), plain: texts by their bytes, keys, ranges. No function of the program is spoken of. Conditions: none.
-/
import Derived.Test.YtemaonfgledcmaaWl
import Derived.Lib.Strings
namespace Go.Proofs.Ytemaonfgledcmaa

/-! ### texts by their bytes -/
theorem less_irr (a : List UInt8) : Op.bytesLess a a = false := by
  induction a with
  | nil => simp [Op.bytesLess]
  | cons x a ih => simp [Op.bytesLess, ih]
theorem less_asymm : ∀ (a b : List UInt8), Op.bytesLess a b = true → Op.bytesLess b a = false
  | [], [], _ => by simp [Op.bytesLess]
  | [], _ :: _, _ => by simp [Op.bytesLess]
  | _ :: _, [], h => by simp [Op.bytesLess] at h
  | x :: a, y :: b, h => by
    simp only [Op.bytesLess, Bool.or_eq_true, decide_eq_true_eq, Bool.and_eq_true, beq_iff_eq] at h
    simp only [Op.bytesLess, Bool.or_eq_false_iff, decide_eq_false_iff_not, Bool.and_eq_false_iff, beq_eq_false_iff_ne]
    rcases h with h | ⟨rfl, h⟩
    · rw [UInt8.lt_iff_toNat_lt] at h
      refine ⟨by rw [UInt8.lt_iff_toNat_lt]; omega, .inl ?_⟩
      rintro rfl
      omega
    · exact ⟨by rw [UInt8.lt_iff_toNat_lt]; omega, .inr (less_asymm a b h)⟩
theorem less_total : ∀ (a b : List UInt8), Op.bytesLess a b = false → Op.bytesLess b a = false → a = b
  | [], [], _, _ => rfl
  | [], _ :: _, h, _ => by simp [Op.bytesLess] at h
  | _ :: _, [], _, h => by simp [Op.bytesLess] at h
  | x :: a, y :: b, h, k => by
    simp only [Op.bytesLess, Bool.or_eq_false_iff, decide_eq_false_iff_not, Bool.and_eq_false_iff, beq_eq_false_iff_ne, UInt8.lt_iff_toNat_lt] at h k
    have e : x = y := UInt8.toNat_inj.1 (by omega)
    subst e
    rw [less_total a b (h.2.resolve_left (by simp)) (k.2.resolve_left (by simp))]
theorem less_trans : ∀ (a b c : List UInt8), Op.bytesLess a b = true → Op.bytesLess b c = true → Op.bytesLess a c = true
  | _, [], _, h, _ => by simp [Op.bytesLess] at h
  | _, _ :: _, [], _, h => by simp [Op.bytesLess] at h
  | [], _ :: _, _ :: _, _, _ => by simp [Op.bytesLess]
  | x :: a, y :: b, z :: c, h, k => by
    simp only [Op.bytesLess, Bool.or_eq_true, decide_eq_true_eq, Bool.and_eq_true, beq_iff_eq, UInt8.lt_iff_toNat_lt] at h k ⊢
    rcases h with h | ⟨rfl, h⟩
    · rcases k with k | ⟨rfl, k⟩
      · exact .inl (by omega)
      · exact .inl h
    · rcases k with k | ⟨rfl, k⟩
      · exact .inl k
      · exact .inr ⟨rfl, less_trans a b c h k⟩
theorem ba_ext {a b : ByteArray} (h : a.toList = b.toList) : a = b := by
  rw [Lib.toList_data, Lib.toList_data] at h
  exact ByteArray.ext (Array.toList_inj.1 h)
/-- Does one text stand ahead of another? -/
def ltB (a b : ByteArray) : Bool := Op.bytesLess a.toList b.toList
/-- Is a text empty? -/
def emB (a : ByteArray) : Bool := a.toList.isEmpty
theorem emB_iff {a : ByteArray} : emB a = true ↔ a = ⟨#[]⟩ := by
  unfold emB
  rw [List.isEmpty_iff, Lib.toList_data]
  constructor
  · intro h; exact ByteArray.ext (Array.toList_inj.1 h)
  · rintro rfl; rfl
theorem ltB_irr (a : ByteArray) : ltB a a = false := less_irr _
theorem ltB_asymm {a b : ByteArray} (h : ltB a b = true) : ltB b a = false := less_asymm _ _ h
theorem ltB_trans {a b c : ByteArray} (h : ltB a b = true) (k : ltB b c = true) : ltB a c = true := less_trans _ _ _ h k
theorem ltB_total {a b : ByteArray} (h : ltB a b = false) (k : ltB b a = false) : a = b := ba_ext (less_total _ _ h k)
/-- a < b, not c < b: a < c. -/
theorem ltB_le {a b c : ByteArray} (h : ltB a b = true) (k : ltB c b = false) : ltB a c = true := by
  cases h1 : ltB b c with
  | true => exact ltB_trans h h1
  | false => rw [ltB_total k h1]; exact h
/-- not b < a, b < c: a < c. -/
theorem le_ltB {a b c : ByteArray} (h : ltB b a = false) (k : ltB b c = true) : ltB a c = true := by
  cases h1 : ltB a b with
  | true => exact ltB_trans h1 k
  | false => rw [ltB_total h1 h]; exact k
/-- not b < a, not c < b: not c < a. -/
theorem le_le {a b c : ByteArray} (h : ltB b a = false) (k : ltB c b = false) : ltB c a = false := by
  cases h1 : ltB c a with
  | false => rfl
  | true =>
    have := ltB_le h1 h
    rw [k] at this
    cases this
theorem emB_lt {a b : ByteArray} (h : emB a = true) (hb : emB b = false) : ltB a b = true := by
  unfold emB at h hb
  unfold ltB
  rw [List.isEmpty_iff] at h
  rw [h]
  cases e : b.toList with
  | nil => rw [e] at hb; cases hb
  | cons x l => simp [Op.bytesLess]
theorem not_lt_em {a b : ByteArray} (h : emB b = true) : ltB a b = false := by
  unfold emB at h
  rw [List.isEmpty_iff] at h
  unfold ltB
  rw [h]
  cases a.toList <;> simp [Op.bytesLess]
theorem emB_size {a : ByteArray} : emB a = false ↔ 0 < a.size := by
  unfold emB
  rw [Lib.toList_data, Lib.size_eq]
  cases a.data.toList <;> simp

/-! ### keys, ranges -/
/-- Ahead of a range's end. -/
def aheadB (s e : ByteArray) : Bool := emB e || ltB s e
def keyB (s : ByteArray) : Bool := decide (0 < s.size) && decide (s.size ≤ 64)
def mayB (lo hi : ByteArray) : Bool := decide (lo.size ≤ 64) && decide (hi.size ≤ 64) && aheadB lo hi
def hasB (lo hi k : ByteArray) : Bool := mayB lo hi && keyB k && !ltB k lo && aheadB k hi
/-- May a range be cut at a key? -/
def cutB (lo hi k : ByteArray) : Bool := hasB lo hi k && !(k.toList == lo.toList)
def joinB (lo hi lo' hi' : ByteArray) : Bool := mayB lo hi && mayB lo' hi' && !emB hi && (hi.toList == lo'.toList)
def maxS (a b : ByteArray) : ByteArray := if ltB a b = true then b else a
/-- The one of two ends that comes first. -/
def endS (a b : ByteArray) : ByteArray := if emB a = true then b else if emB b = true then a else if ltB b a = true then b else a
def meetB (lo hi lo' hi' : ByteArray) : Bool := mayB lo hi && mayB lo' hi' && aheadB (maxS lo lo') (endS hi hi')

theorem aheadB_iff {s e : ByteArray} : aheadB s e = true ↔ emB e = true ∨ ltB s e = true := by unfold aheadB; rw [Bool.or_eq_true]
theorem keyB_iff {s : ByteArray} : keyB s = true ↔ 0 < s.size ∧ s.size ≤ 64 := by unfold keyB; simp
theorem mayB_iff {lo hi : ByteArray} : mayB lo hi = true ↔ lo.size ≤ 64 ∧ hi.size ≤ 64 ∧ aheadB lo hi = true := by unfold mayB; simp [and_assoc]
theorem hasB_iff {lo hi k : ByteArray} : hasB lo hi k = true ↔ mayB lo hi = true ∧ keyB k = true ∧ ltB k lo = false ∧ aheadB k hi = true := by unfold hasB; simp [and_assoc]
theorem cutB_iff {lo hi k : ByteArray} : cutB lo hi k = true ↔ hasB lo hi k = true ∧ k ≠ lo := by
  unfold cutB
  rw [Bool.and_eq_true, Bool.not_eq_true', beq_eq_false_iff_ne]
  exact and_congr_right fun _ => ⟨fun h e => h (by rw [e]), fun h e => h (ba_ext e)⟩
theorem joinB_iff {lo hi lo' hi' : ByteArray} : joinB lo hi lo' hi' = true ↔ mayB lo hi = true ∧ mayB lo' hi' = true ∧ emB hi = false ∧ hi = lo' := by
  unfold joinB
  simp only [Bool.and_eq_true, Bool.not_eq_true', beq_iff_eq, and_assoc]
  exact and_congr_right fun _ => and_congr_right fun _ => and_congr_right fun _ => ⟨fun h => ba_ext h, fun h => by rw [h]⟩
theorem meetB_iff {lo hi lo' hi' : ByteArray} : meetB lo hi lo' hi' = true ↔ mayB lo hi = true ∧ mayB lo' hi' = true ∧ aheadB (maxS lo lo') (endS hi hi') = true := by unfold meetB; simp [and_assoc]

/-! ### a cut -/
theorem ne_ahead {lo hi k : ByteArray} (h : cutB lo hi k = true) : ltB lo k = true := by
  obtain ⟨h1, h2⟩ := cutB_iff.1 h
  obtain ⟨_, _, h3, _⟩ := hasB_iff.1 h1
  cases h4 : ltB lo k with
  | true => rfl
  | false => exact absurd (ltB_total h3 h4) h2
theorem key_em {k : ByteArray} (h : keyB k = true) : emB k = false := emB_size.2 (keyB_iff.1 h).1
theorem cut_may1 {lo hi k : ByteArray} (h : cutB lo hi k = true) : mayB lo k = true := by
  obtain ⟨h1, h2⟩ := cutB_iff.1 h
  obtain ⟨h3, h4, _, _⟩ := hasB_iff.1 h1
  exact mayB_iff.2 ⟨(mayB_iff.1 h3).1, (keyB_iff.1 h4).2, aheadB_iff.2 (.inr (ne_ahead h))⟩
theorem cut_may2 {lo hi k : ByteArray} (h : cutB lo hi k = true) : mayB k hi = true := by
  obtain ⟨h1, h2⟩ := cutB_iff.1 h
  obtain ⟨h3, h4, _, h5⟩ := hasB_iff.1 h1
  exact mayB_iff.2 ⟨(keyB_iff.1 h4).2, (mayB_iff.1 h3).2.1, h5⟩
theorem cut_key {lo hi k : ByteArray} (h : cutB lo hi k = true) : keyB k = true := (hasB_iff.1 (cutB_iff.1 h).1).2.1
theorem cut_may {lo hi k : ByteArray} (h : cutB lo hi k = true) : mayB lo hi = true := (hasB_iff.1 (cutB_iff.1 h).1).1
theorem cut_join {lo hi k : ByteArray} (h : cutB lo hi k = true) : joinB lo k k hi = true := joinB_iff.2 ⟨cut_may1 h, cut_may2 h, key_em (cut_key h), rfl⟩
theorem cut_ends {lo hi k : ByteArray} (h : cutB lo hi k = true) : aheadB k hi = true := (hasB_iff.1 (cutB_iff.1 h).1).2.2.2
theorem cut_meet {lo hi k : ByteArray} (h : cutB lo hi k = true) : meetB lo k k hi = false := by
  have h1 := ne_ahead h
  have h2 := key_em (cut_key h)
  have h3 := cut_ends h
  unfold meetB maxS endS
  rw [if_pos h1, if_neg (by rw [h2]; decide)]
  have h4 : (if emB hi = true then k else if ltB hi k = true then hi else k) = k := by
    rcases aheadB_iff.1 h3 with h5 | h5
    · rw [if_pos h5]
    · rw [ltB_asymm h5]
      simp
  rw [h4]
  have h6 : aheadB k k = false := by unfold aheadB; rw [h2, ltB_irr]; rfl
  rw [h6, Bool.and_false]
/-- Of a cut range's keys each is within one part. -/
theorem cut_has {lo hi k : ByteArray} (h : cutB lo hi k = true) (o : ByteArray) : (hasB lo k o || hasB k hi o) = hasB lo hi o := by
  have m := cut_may h
  have m1 := cut_may1 h
  have m2 := cut_may2 h
  have e := key_em (cut_key h)
  have hl := ne_ahead h
  have hk := cut_ends h
  unfold hasB
  rw [m, m1, m2]
  simp only [Bool.true_and]
  cases hkey : keyB o with
  | false => simp
  | true =>
    simp only [Bool.true_and]
    have e1 : aheadB o k = ltB o k := by unfold aheadB; rw [e]; rfl
    rw [e1]
    cases h1 : ltB o k with
    | true =>
      rw [Bool.and_true, Bool.not_true, Bool.false_and, Bool.or_false]
      have : aheadB o hi = true := by
        rcases aheadB_iff.1 hk with h5 | h5
        · exact aheadB_iff.2 (.inl h5)
        · exact aheadB_iff.2 (.inr (ltB_trans h1 h5))
      rw [this, Bool.and_true]
    | false =>
      rw [Bool.and_false, Bool.false_or, Bool.not_false, Bool.true_and]
      have : ltB o lo = false := le_le (ltB_asymm hl) h1
      rw [this]
      rfl
theorem cut_one {lo hi k : ByteArray} (h : cutB lo hi k = true) (o : ByteArray) : (hasB lo k o && hasB k hi o) = false := by
  have e := key_em (cut_key h)
  cases h1 : ltB o k with
  | true => unfold hasB; rw [h1]; simp
  | false =>
    unfold hasB aheadB
    rw [e, h1]
    simp

/-! ### what two have in common -/
theorem maxS_comm (a b : ByteArray) : maxS a b = maxS b a := by
  unfold maxS
  cases h : ltB a b with
  | true => rw [ltB_asymm h]; simp
  | false =>
    cases k : ltB b a with
    | true => simp
    | false => simp [ltB_total h k]
theorem endS_comm (a b : ByteArray) : endS a b = endS b a := by
  unfold endS
  cases ha : emB a <;> cases hb : emB b <;> simp
  · cases h : ltB a b with
    | true => rw [ltB_asymm h]; simp
    | false =>
      cases k : ltB b a with
      | true => simp
      | false => simp [ltB_total h k]
  · rw [emB_iff.1 ha, emB_iff.1 hb]
theorem meetB_comm (lo hi lo' hi' : ByteArray) : meetB lo hi lo' hi' = meetB lo' hi' lo hi := by
  unfold meetB
  rw [maxS_comm, endS_comm, Bool.and_comm (mayB lo hi)]
theorem maxS_size {a b : ByteArray} {n : Nat} (ha : a.size ≤ n) (hb : b.size ≤ n) : (maxS a b).size ≤ n := by unfold maxS; split <;> assumption
theorem endS_size {a b : ByteArray} {n : Nat} (ha : a.size ≤ n) (hb : b.size ≤ n) : (endS a b).size ≤ n := by
  unfold endS
  split
  · assumption
  · split
    · assumption
    · split <;> assumption
theorem meet_may {lo hi lo' hi' : ByteArray} (h : meetB lo hi lo' hi' = true) : mayB (maxS lo lo') (endS hi hi') = true := by
  obtain ⟨h1, h2, h3⟩ := meetB_iff.1 h
  obtain ⟨a1, a2, _⟩ := mayB_iff.1 h1
  obtain ⟨b1, b2, _⟩ := mayB_iff.1 h2
  exact mayB_iff.2 ⟨maxS_size a1 b1, endS_size a2 b2, h3⟩
/-- Whether the range of both may be, as the reference asks. -/
theorem meet_may_iff {lo hi lo' hi' : ByteArray} (h1 : mayB lo hi = true) (h2 : mayB lo' hi' = true) : mayB (maxS lo lo') (endS hi hi') = meetB lo hi lo' hi' := by
  obtain ⟨a1, a2, _⟩ := mayB_iff.1 h1
  obtain ⟨b1, b2, _⟩ := mayB_iff.1 h2
  unfold meetB
  rw [h1, h2]
  unfold mayB
  have c1 := maxS_size a1 b1
  have c2 := endS_size a2 b2
  simp [c1, c2]
theorem not_lt_max (o a b : ByteArray) : (!ltB o (maxS a b)) = (!ltB o a && !ltB o b) := by
  unfold maxS
  cases h : ltB a b with
  | true =>
    rw [if_pos rfl]
    cases h1 : ltB o b with
    | true => simp
    | false => rw [le_le (ltB_asymm h) h1]; rfl
  | false =>
    rw [if_neg (by decide)]
    cases h1 : ltB o a with
    | true => simp
    | false => rw [le_le h h1]; rfl
theorem ahead_end (o a b : ByteArray) : aheadB o (endS a b) = (aheadB o a && aheadB o b) := by
  unfold endS
  cases ha : emB a with
  | true => rw [if_pos rfl]; unfold aheadB; rw [ha]; simp
  | false =>
    rw [if_neg (by decide)]
    cases hb : emB b with
    | true => rw [if_pos rfl]; unfold aheadB; rw [hb]; simp
    | false =>
      rw [if_neg (by decide)]
      cases h : ltB b a with
      | true =>
        rw [if_pos rfl]
        unfold aheadB
        rw [ha, hb]
        cases h1 : ltB o b with
        | true => rw [ltB_trans h1 h]; rfl
        | false => simp
      | false =>
        rw [if_neg (by decide)]
        unfold aheadB
        rw [ha, hb]
        cases h1 : ltB o a with
        | true => rw [ltB_le h1 h]; rfl
        | false => simp
theorem meet_has (lo hi lo' hi' o : ByteArray) : (meetB lo hi lo' hi' && hasB (maxS lo lo') (endS hi hi') o) = (hasB lo hi o && hasB lo' hi' o) := by
  cases h : meetB lo hi lo' hi' with
  | true =>
    obtain ⟨h1, h2, h3⟩ := meetB_iff.1 h
    unfold hasB
    rw [meet_may h, h1, h2, not_lt_max, ahead_end]
    cases keyB o <;> cases ltB o lo <;> cases ltB o lo' <;> cases aheadB o hi <;> cases aheadB o hi' <;> rfl
  | false =>
    rw [Bool.false_and]
    cases hb : (hasB lo hi o && hasB lo' hi' o) with
    | false => rfl
    | true =>
      rw [Bool.and_eq_true] at hb
      obtain ⟨a1, a2, a3, a4⟩ := hasB_iff.1 hb.1
      obtain ⟨b1, _, b3, b4⟩ := hasB_iff.1 hb.2
      have h3 : ltB o (maxS lo lo') = false := by
        have := not_lt_max o lo lo'
        rw [a3, b3] at this
        simpa using this
      have h4 : aheadB o (endS hi hi') = true := by rw [ahead_end, a4, b4]; rfl
      have h5 : aheadB (maxS lo lo') (endS hi hi') = true := by
        rcases aheadB_iff.1 h4 with h5 | h5
        · exact aheadB_iff.2 (.inl h5)
        · exact aheadB_iff.2 (.inr (le_ltB h3 h5))
      rw [meetB_iff.2 ⟨a1, b1, h5⟩] at h
      cases h
end Go.Proofs.Ytemaonfgledcmaa
