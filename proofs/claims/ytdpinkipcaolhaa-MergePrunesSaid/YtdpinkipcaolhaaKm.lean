/-
  Layer 9 (block), plain: entries that may be, their one order, entries that may be a block's, one more put among them, the first of a key. No function of the program is spoken of. Conditions: none.
-/
import Derived.Test.YtdpinkipcaolhaaSe
namespace Go.Proofs.Ytdpinkipcaolhaa
set_option linter.unusedVariables false
set_option linter.unusedSimpArgs false

/-- May an entry be? -/
def mayE (e : Ent) : Bool := keyB e.1 && decide (e.2.1.size ≤ 256) && (!e.2.2.1 || emB e.2.1) && decide (1 ≤ e.2.2.2) && decide (e.2.2.2 ≤ 1099511627775)
/-- Does one entry stand ahead of another? -/
def lessE (a b : Ent) : Bool := if a.1.toList == b.1.toList then decide (b.2.2.2 < a.2.2.2) else ltB a.1 b.1
def zE : Ent := (⟨#[]⟩, ⟨#[]⟩, false, 0)
/-- Behind an entry: each may be, and stands behind the one ahead. -/
def chainE : Ent → List Ent → Bool
  | _, [] => true
  | p, e :: es => mayE e && lessE p e && chainE e es
/-- May entries be a block's? -/
def okB (es : List Ent) : Bool := decide (es.length ≤ 4096) && chainE zE es

theorem may_iff {k v : ByteArray} {g : Bool} {q : Int} : mayE (k, v, g, q) = true ↔ keyB k = true ∧ v.size ≤ 256 ∧ (g = true → v = ⟨#[]⟩) ∧ 1 ≤ q ∧ q ≤ 1099511627775 := by
  unfold mayE
  simp only [Bool.and_eq_true, decide_eq_true_eq, Bool.or_eq_true, Bool.not_eq_true', emB_iff]
  constructor
  · rintro ⟨⟨⟨⟨h1, h2⟩, h3⟩, h4⟩, h5⟩
    refine ⟨h1, h2, fun h => ?_, h4, h5⟩
    rcases h3 with h3 | h3
    · rw [h] at h3; cases h3
    · exact h3
  · rintro ⟨h1, h2, h3, h4, h5⟩
    refine ⟨⟨⟨⟨h1, h2⟩, ?_⟩, h4⟩, h5⟩
    cases g with
    | false => exact .inl rfl
    | true => exact .inr (h3 rfl)
theorem less_same {a b : Ent} (h : a.1 = b.1) : lessE a b = decide (b.2.2.2 < a.2.2.2) := by
  unfold lessE
  rw [h]
  simp
theorem less_key {a b : Ent} (h : ¬ a.1 = b.1) : lessE a b = ltB a.1 b.1 := by
  unfold lessE
  rw [if_neg]
  rw [beq_iff_eq]
  exact fun k => h (ba_ext k)
theorem lessE_irr (a : Ent) : lessE a a = false := by rw [less_same rfl]; simp
theorem lessE_asymm {a b : Ent} (h : lessE a b = true) : lessE b a = false := by
  by_cases k : a.1 = b.1
  · rw [less_same k, decide_eq_true_eq] at h
    rw [less_same k.symm, decide_eq_false_iff_not]
    omega
  · rw [less_key k] at h
    rw [less_key (Ne.symm k)]
    exact ltB_asymm h
theorem lessE_total {a b : Ent} (h : lessE a b = false) (h' : lessE b a = false) : a.1 = b.1 ∧ a.2.2.2 = b.2.2.2 := by
  by_cases k : a.1 = b.1
  · rw [less_same k, decide_eq_false_iff_not] at h
    rw [less_same k.symm, decide_eq_false_iff_not] at h'
    exact ⟨k, by omega⟩
  · rw [less_key k] at h
    rw [less_key (Ne.symm k)] at h'
    exact absurd (ltB_total h h') k
theorem ltB_ne {a b : ByteArray} (h : ltB a b = true) : ¬ a = b := by
  rintro rfl
  rw [ltB_irr] at h
  cases h
theorem lessE_trans {a b c : Ent} (h : lessE a b = true) (h' : lessE b c = true) : lessE a c = true := by
  by_cases k : a.1 = b.1
  · by_cases l : b.1 = c.1
    · rw [less_same k, decide_eq_true_eq] at h
      rw [less_same l, decide_eq_true_eq] at h'
      rw [less_same (k.trans l), decide_eq_true_eq]
      omega
    · rw [less_key l] at h'
      rw [less_key (by rw [k]; exact l), k]
      exact h'
  · rw [less_key k] at h
    by_cases l : b.1 = c.1
    · rw [less_key (by rw [← l]; exact k), ← l]
      exact h
    · rw [less_key l] at h'
      have ht := ltB_trans h h'
      rw [less_key (ltB_ne ht)]
      exact ht
/-- Entries of one key and number stand alike. -/
theorem lessE_like {a b c : Ent} (h1 : a.1 = b.1) (h2 : a.2.2.2 = b.2.2.2) : lessE a c = lessE b c := by
  unfold lessE
  rw [h1, h2]
theorem chain_mono {p q : Ent} {es : List Ent} (h : lessE q p = true) (hc : chainE p es = true) : chainE q es = true := by
  cases es with
  | nil => rfl
  | cons e es =>
    simp only [chainE, Bool.and_eq_true] at hc ⊢
    exact ⟨⟨hc.1.1, lessE_trans h hc.1.2⟩, hc.2⟩
theorem chain_like {p q : Ent} {es : List Ent} (h1 : p.1 = q.1) (h2 : p.2.2.2 = q.2.2.2) (hc : chainE p es = true) : chainE q es = true := by
  cases es with
  | nil => rfl
  | cons e es =>
    simp only [chainE, Bool.and_eq_true] at hc ⊢
    exact ⟨⟨hc.1.1, by rw [← lessE_like h1 h2]; exact hc.1.2⟩, hc.2⟩
theorem chain_may : ∀ {p : Ent} {es : List Ent}, chainE p es = true → ∀ e ∈ es, mayE e = true
  | _, [], _, e, he => by simp at he
  | p, x :: es, hc, e, he => by
    simp only [chainE, Bool.and_eq_true] at hc
    rcases List.mem_cons.1 he with rfl | he
    · exact hc.1.1
    · exact chain_may hc.2 e he
theorem chain_ahead : ∀ {p : Ent} {es : List Ent}, chainE p es = true → ∀ e ∈ es, lessE p e = true
  | _, [], _, e, he => by simp at he
  | p, x :: es, hc, e, he => by
    simp only [chainE, Bool.and_eq_true] at hc
    rcases List.mem_cons.1 he with rfl | he
    · exact hc.1.2
    · exact lessE_trans hc.1.2 (chain_ahead hc.2 e he)
theorem zE_less {e : Ent} (h : mayE e = true) : lessE zE e = true := by
  obtain ⟨k, v, g, q⟩ := e
  have h1 := (may_iff.1 h).1
  unfold keyB at h1
  simp only [Bool.and_eq_true, decide_eq_true_eq] at h1
  have hne : ¬ zE.1 = k := by
    intro e
    rw [← e] at h1
    exact absurd h1.1 (by decide)
  have : ltB zE.1 k = true := by
    cases h2 : ltB zE.1 k with
    | true => rfl
    | false =>
      refine absurd (ltB_total h2 ?_) hne
      unfold ltB zE
      rw [show (⟨#[]⟩ : ByteArray).toList = [] by rw [Lib.toList_data]]
      cases k.toList <;> simp [Op.bytesLess]
  show lessE zE (k, v, g, q) = true
  rw [less_key hne]
  exact this
/-- One behind the other, by places. -/
theorem chain_step : ∀ {es : List Ent} {p : Ent} (i : Nat) (h : i < es.length), chainE p (es.take i) = true → chainE p (es.take (i + 1)) = (mayE es[i] && lessE (if h : 0 < i then es[i - 1] else p) es[i])
  | [], _, i, h, _ => by simp at h
  | e :: es, p, 0, h, _ => by simp [chainE]
  | e :: es, p, i + 1, h, hc => by
    simp only [List.take_succ_cons, chainE, Bool.and_eq_true] at hc ⊢
    rw [chain_step i (by simpa using h) hc.2, hc.1.1, hc.1.2]
    cases i with
    | zero => simp
    | succ i => simp
theorem chain_false : ∀ {es : List Ent} {p : Ent} (i : Nat), chainE p (es.take i) = false → chainE p es = false
  | [], _, i, h => by simpa using h
  | e :: es, p, 0, h => by simp [chainE] at h
  | e :: es, p, i + 1, h => by
    simp only [List.take_succ_cons, chainE, Bool.and_eq_false_iff] at h ⊢
    rcases h with h | h
    · exact .inl h
    · exact .inr (chain_false i h)
def lastE : Ent → List Ent → Ent
  | p, [] => p
  | _, e :: es => lastE e es
theorem lastE_snoc : ∀ (es : List Ent) (p e : Ent), lastE p (es ++ [e]) = e
  | [], _, _ => rfl
  | x :: es, _, e => lastE_snoc es x e
theorem chain_app : ∀ {es : List Ent} {p : Ent} (fs : List Ent), chainE p es = true → chainE p (es ++ fs) = chainE (lastE p es) fs
  | [], _, _, _ => rfl
  | e :: es, p, fs, hp => by
    simp only [chainE, Bool.and_eq_true] at hp
    show (mayE e && lessE p e && chainE e (es ++ fs)) = _
    rw [hp.1.1, hp.1.2, chain_app fs hp.2]
    rfl

/-! ### one more -/
def insE : List Ent → Ent → List Ent
  | [], x => [x]
  | e :: es, x => if lessE e x = true then e :: insE es x else if lessE x e = true then x :: e :: es else x :: es
theorem insE_chain : ∀ {es : List Ent} {p x : Ent}, chainE p es = true → mayE x = true → lessE p x = true → chainE p (insE es x) = true
  | [], p, x, _, hx, hp => by simp [insE, chainE, hx, hp]
  | e :: es, p, x, hc, hx, hp => by
    have hc' := hc
    simp only [chainE, Bool.and_eq_true] at hc
    unfold insE
    cases h1 : lessE e x with
    | true =>
      simp only [if_pos, chainE, Bool.and_eq_true]
      exact ⟨hc.1, insE_chain hc.2 hx h1⟩
    | false =>
      cases h2 : lessE x e with
      | true =>
        simp only [chainE, Bool.and_eq_true, hc.1.1, h2, hc.2, hx, hp, if_true, and_self]
        simp [chainE, hx, hp, hc.1.1, h2, hc.2]
      | false =>
        obtain ⟨e1, e2⟩ := lessE_total h1 h2
        have := chain_like e1 e2 hc.2
        simp [chainE, hx, hp, this]
theorem insE_length : ∀ (es : List Ent) (x : Ent), (insE es x).length ≤ es.length + 1
  | [], x => by simp [insE]
  | e :: es, x => by
    unfold insE
    have := insE_length es x
    split
    · simp; omega
    · split <;> simp
/-- What the document's Put1 puts together, k being how many stand ahead. -/
theorem insE_at : ∀ (es : List Ent) (x : Ent) (k : Nat), k ≤ es.length → (∀ i (h : i < es.length), i < k → lessE es[i] x = true) → (∀ h : k < es.length, lessE es[k] x = false) →
    insE es x = es.take k ++ x :: (if h : k < es.length then (if lessE x es[k] = true then es.drop k else es.drop (k + 1)) else [])
  | [], x, k, hk, _, _ => by
    have : k = 0 := by simpa using hk
    subst this
    simp [insE]
  | e :: es, x, 0, hk, h1, h2 => by
    have h3 := h2 (by simp)
    simp only [List.getElem_cons_zero] at h3
    unfold insE
    rw [h3]
    simp
    split <;> rfl
  | e :: es, x, k + 1, hk, h1, h2 => by
    have h3 := h1 0 (by simp) (by omega)
    simp only [List.getElem_cons_zero] at h3
    unfold insE
    rw [if_pos h3, insE_at es x k (by simpa using hk) (fun i hi hik => by have := h1 (i + 1) (by simpa using hi) (by omega); simpa using this) (fun hk' => by have := h2 (by simpa using hk'); simpa using this)]
    simp
def putE (es : List Ent) (x : Ent) : List Ent := if mayE x = true then insE es x else es
def madeE (l : List Ent) : List Ent := (l.take 60).foldl putE []
theorem madeE_snoc (l : List Ent) (k : Nat) (h : k < l.length) (h60 : k < 60) : ((l.take (k + 1)).take 60).foldl putE [] = putE (((l.take k).take 60).foldl putE []) l[k] := by
  rw [List.take_take, List.take_take, Nat.min_eq_right (by omega), Nat.min_eq_right (by omega), List.take_succ_eq_append_getElem h, List.foldl_append]
  rfl
theorem fold_made : ∀ (l es : List Ent), chainE zE es = true → chainE zE (l.foldl putE es) = true ∧ (l.foldl putE es).length ≤ es.length + l.length
  | [], es, h => ⟨h, by simp⟩
  | x :: l, es, h => by
    have h1 : chainE zE (putE es x) = true := by
      unfold putE
      cases hx : mayE x with
      | true => rw [if_pos rfl]; exact insE_chain h hx (zE_less hx)
      | false => simpa using h
    have h2 : (putE es x).length ≤ es.length + 1 := by
      unfold putE
      split
      · exact insE_length es x
      · omega
    obtain ⟨h3, h4⟩ := fold_made l (putE es x) h1
    refine ⟨h3, ?_⟩
    show (l.foldl putE (putE es x)).length ≤ _
    simp only [List.length_cons]
    omega
theorem made_ok (l : List Ent) : okB (madeE l) = true ∧ (madeE l).length ≤ 60 := by
  obtain ⟨h1, h2⟩ := fold_made (l.take 60) [] rfl
  have h3 : (madeE l).length ≤ 60 := by
    unfold madeE
    simp only [List.length_take, List.length_nil] at h2
    omega
  refine ⟨?_, h3⟩
  unfold okB
  rw [decide_eq_true (by omega), Bool.true_and]
  exact h1

/-! ### the first of a key -/
def isE (key : ByteArray) (at_ : Int) (e : Ent) : Bool := (e.1.toList == key.toList) && decide (e.2.2.2 ≤ at_)
def findB (es : List Ent) (key : ByteArray) (at_ : Int) : Option Ent := es.find? (isE key at_)
theorem isE_iff {key : ByteArray} {at_ : Int} {e : Ent} : isE key at_ e = true ↔ e.1 = key ∧ e.2.2.2 ≤ at_ := by
  unfold isE
  simp only [Bool.and_eq_true, beq_iff_eq, decide_eq_true_eq]
  constructor
  · rintro ⟨h1, h2⟩; exact ⟨ba_ext h1, h2⟩
  · rintro ⟨h1, h2⟩; exact ⟨by rw [h1], h2⟩
theorem find_skip : ∀ (es : List Ent) (f : Ent → Bool) (i : Nat), (∀ j (h : j < es.length), j < i → f es[j] = false) → es.find? f = (es.drop i).find? f
  | [], f, i, _ => by simp
  | e :: es, f, 0, _ => rfl
  | e :: es, f, i + 1, h => by
    have h0 := h 0 (by simp) (by omega)
    simp only [List.getElem_cons_zero] at h0
    rw [List.find?_cons_of_neg (by simp [h0]), List.drop_succ_cons]
    exact find_skip es f i fun j hj hji => by have := h (j + 1) (by simpa using hj) (by omega); simpa using this
theorem chain_drop : ∀ {es : List Ent} {p : Ent} (i : Nat) (h : i < es.length), chainE p es = true → chainE es[i] (es.drop (i + 1)) = true
  | [], _, i, h, _ => by simp at h
  | e :: es, p, 0, h, hc => by
    simp only [chainE, Bool.and_eq_true] at hc
    exact hc.2
  | e :: es, p, i + 1, h, hc => by
    simp only [chainE, Bool.and_eq_true] at hc
    exact chain_drop i (by simpa using h) hc.2
/-- What a search by halves finds. -/
theorem find_at {es : List Ent} {key : ByteArray} {at_ : Int} (hc : chainE zE es = true) (i : Nat) (hi : i ≤ es.length)
    (h1 : ∀ j (h : j < es.length), j < i → lessE es[j] (key, ⟨#[]⟩, false, at_) = true) (h2 : ∀ h : i < es.length, lessE es[i] (key, ⟨#[]⟩, false, at_) = false) :
    findB es key at_ = if h : i < es.length then (if es[i].1 = key then some es[i] else none) else none := by
  have hs : ∀ j (h : j < es.length), j < i → isE key at_ es[j] = false := by
    intro j h hj
    cases hb : isE key at_ es[j] with
    | false => rfl
    | true =>
      obtain ⟨e1, e2⟩ := isE_iff.1 hb
      have h3 := h1 j h hj
      rw [less_same e1, decide_eq_true_eq] at h3
      simp only at h3
      omega
  unfold findB
  rw [find_skip es _ i hs]
  by_cases hl : i < es.length
  · rw [dif_pos hl, List.drop_eq_getElem_cons hl]
    have h3 := h2 hl
    by_cases hk : es[i].1 = key
    · rw [less_same hk, decide_eq_false_iff_not] at h3
      simp only at h3
      rw [if_pos hk, List.find?_cons_of_pos (isE_iff.2 ⟨hk, by omega⟩)]
    · rw [if_neg hk]
      rw [less_key hk] at h3
      rw [List.find?_eq_none]
      intro e he hb
      obtain ⟨e1, _⟩ := isE_iff.1 hb
      rcases List.mem_cons.1 he with rfl | he
      · exact hk e1
      · have h4 := chain_ahead (chain_drop i hl hc) e he
        by_cases k : es[i].1 = e.1
        · exact hk (k.trans e1)
        · rw [less_key k, e1] at h4
          simp only at h3
          rw [h4] at h3
          cases h3
  · rw [dif_neg hl, List.drop_eq_nil_of_le (by omega)]
    rfl
/-- The greatest number of a key that is not above another. -/
def topE (key : ByteArray) (at_ : Int) (n : Int) (e : Ent) : Int := if isE key at_ e = true ∧ n ≤ e.2.2.2 then e.2.2.2 else n
theorem top_stay {key : ByteArray} {at_ n : Int} : ∀ (es : List Ent), (∀ e ∈ es, isE key at_ e = true → e.2.2.2 < n) → es.foldl (topE key at_) n = n
  | [], _ => rfl
  | e :: es, h => by
    have h0 : topE key at_ n e = n := by
      unfold topE
      rw [if_neg]
      rintro ⟨h1, h2⟩
      have := h e (by simp) h1
      omega
    show es.foldl _ (topE key at_ n e) = n
    rw [h0]
    exact top_stay es fun x hx => h x (by simp [hx])
theorem top_find {key : ByteArray} {at_ : Int} : ∀ {es : List Ent} {p : Ent}, chainE p es = true → es.foldl (topE key at_) 0 = match findB es key at_ with | some e => e.2.2.2 | none => 0
  | [], _, _ => rfl
  | e :: es, p, hc => by
    simp only [chainE, Bool.and_eq_true] at hc
    have hq : 1 ≤ e.2.2.2 := by obtain ⟨k, v, g, q⟩ := e; exact (may_iff.1 hc.1.1).2.2.2.1
    show es.foldl _ (topE key at_ 0 e) = _
    unfold findB
    cases hb : isE key at_ e with
    | true =>
      rw [List.find?_cons_of_pos hb]
      have h0 : topE key at_ 0 e = e.2.2.2 := by unfold topE; rw [if_pos ⟨hb, by omega⟩]
      rw [h0]
      refine top_stay es fun x hx hb' => ?_
      have h4 := chain_ahead hc.2 x hx
      rw [less_same ((isE_iff.1 hb).1.trans (isE_iff.1 hb').1.symm), decide_eq_true_eq] at h4
      exact h4
    | false =>
      rw [List.find?_cons_of_neg (by simp [hb])]
      have h0 : topE key at_ 0 e = 0 := by unfold topE; rw [if_neg]; rintro ⟨h1, _⟩; rw [hb] at h1; cases h1
      rw [h0]
      exact top_find hc.2
end Go.Proofs.Ytdpinkipcaolhaa
