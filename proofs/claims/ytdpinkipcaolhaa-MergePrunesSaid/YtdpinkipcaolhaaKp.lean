/-
  Layer 9 (block), plain: entries as bytes, and the entries of bytes; there and back. No function of the program is spoken of. Conditions: none.
-/
import Derived.Test.YtdpinkipcaolhaaKm
import Derived.Test.YtdpinkipcaolhaaVq
import Derived.Test.YtdpinkipcaolhaaCq
namespace Go.Proofs.Ytdpinkipcaolhaa
set_option linter.unusedVariables false
set_option linter.unusedSimpArgs false

/-- Of how many bytes two texts begin alike. -/
def comN : List UInt8 → List UInt8 → Nat
  | x :: a, y :: b => if x = y then comN a b + 1 else 0
  | _, _ => 0
theorem comN_le : ∀ (a b : List UInt8), comN a b ≤ a.length ∧ comN a b ≤ b.length
  | [], _ => by simp [comN]
  | _ :: _, [] => by simp [comN]
  | x :: a, y :: b => by
    have := comN_le a b
    unfold comN
    split
    · simp; omega
    · simp
theorem comN_take : ∀ (a b : List UInt8), a.take (comN a b) = b.take (comN a b)
  | [], _ => by simp [comN]
  | _ :: _, [] => by simp [comN]
  | x :: a, y :: b => by
    unfold comN
    split
    · rename_i h
      subst h
      simp [comN_take a b]
    · simp
theorem comN_at : ∀ (a b : List UInt8) (k : Nat) (ha : k < a.length) (hb : k < b.length), comN (a.drop k) (b.drop k) = if a[k] = b[k] then comN (a.drop (k + 1)) (b.drop (k + 1)) + 1 else 0 := by
  intro a b k ha hb
  rw [List.drop_eq_getElem_cons ha, List.drop_eq_getElem_cons hb]
  rfl
theorem comN_end (a b : List UInt8) (k : Nat) (h : a.length ≤ k ∨ b.length ≤ k) : comN (a.drop k) (b.drop k) = 0 := by
  rcases h with h | h
  · rw [List.drop_eq_nil_of_le h]; rfl
  · rw [List.drop_eq_nil_of_le h]
    cases a.drop k <;> rfl

/-- An entry's bytes behind a key; all entries' bytes; a block's. -/
def entB (last : List UInt8) (e : Ent) : List UInt8 :=
  vL (comN last e.1.data.toList) ++ (txL (e.1.data.toList.drop (comN last e.1.data.toList)) ++
    if e.2.2.1 = true then vL (2 * e.2.2.2.toNat + 1) else vL (2 * e.2.2.2.toNat) ++ txL e.2.1.data.toList)
def bodyB : List UInt8 → List Ent → List UInt8
  | _, [] => []
  | last, e :: es => entB last e ++ bodyB e.1.data.toList es
def headB (es : List Ent) : List UInt8 := vL es.length ++ bodyB [] es
def putB (es : List Ent) : List UInt8 := headB es ++ tailL (headB es)
def keyL : List UInt8 → List Ent → List UInt8
  | last, [] => last
  | _, e :: es => keyL e.1.data.toList es
theorem body_snoc : ∀ (es : List Ent) (last : List UInt8) (e : Ent), bodyB last (es ++ [e]) = bodyB last es ++ entB (keyL last es) e
  | [], last, e => by simp [bodyB, keyL]
  | x :: es, last, e => by
    show entB last x ++ bodyB _ (es ++ [e]) = entB last x ++ bodyB _ es ++ entB (keyL _ es) e
    rw [body_snoc es, List.append_assoc]
theorem keyL_snoc : ∀ (es : List Ent) (last : List UInt8) (e : Ent), keyL last (es ++ [e]) = e.1.data.toList
  | [], _, _ => rfl
  | x :: es, _, e => keyL_snoc es _ e
theorem entB_len (last : List UInt8) (e : Ent) (h : mayE e = true) : (entB last e).length ≤ 400 := by
  obtain ⟨k, v, g, q⟩ := e
  obtain ⟨h1, h2, _, h4, h5⟩ := may_iff.1 h
  unfold keyB at h1
  simp only [Bool.and_eq_true, decide_eq_true_eq] at h1
  have hc := comN_le last k.data.toList
  have hk : k.data.toList.length = k.size := size_list k
  have hv : v.data.toList.length = v.size := size_list v
  have e1 := vL_len9 (n := comN last k.data.toList) (by omega)
  have e2 := vL_len9 (n := (k.data.toList.drop (comN last k.data.toList)).length) (by rw [List.length_drop]; omega)
  have e3 := vL_len9 (n := 2 * q.toNat + 1) (by omega)
  have e4 := vL_len9 (n := 2 * q.toNat) (by omega)
  have e5 := vL_len9 (n := v.data.toList.length) (by omega)
  unfold entB txL
  simp only [List.length_append]
  rw [List.length_drop] at e2 ⊢
  split
  · omega
  · rw [List.length_append, List.length_append]; omega
theorem bodyB_len : ∀ (es : List Ent) (last : List UInt8), (∀ e ∈ es, mayE e = true) → (bodyB last es).length ≤ 400 * es.length
  | [], _, _ => by simp [bodyB]
  | e :: es, last, h => by
    have h1 := entB_len last e (h e (by simp))
    have h2 := bodyB_len es e.1.data.toList fun x hx => h x (by simp [hx])
    simp only [bodyB, List.length_append, List.length_cons]
    omega

/-- The entry that bytes begin with, behind a key, and how many bytes it has. -/
def oneB (s last : List UInt8) : Option (Ent × Nat) :=
  if (tk s 0 0).2.2 = 0 ∧ (tk s 0 0).1 ≤ last.length then
    if (ttR (s.drop (tk s 0 0).2.1)).2.2 = 0 then
      if (tk (s.drop ((tk s 0 0).2.1 + (ttR (s.drop (tk s 0 0).2.1)).2.1)) 0 0).2.2 = 0 ∧ comN last (last.take (tk s 0 0).1 ++ (ttR (s.drop (tk s 0 0).2.1)).1) = (tk s 0 0).1 then
        if (tk (s.drop ((tk s 0 0).2.1 + (ttR (s.drop (tk s 0 0).2.1)).2.1)) 0 0).1 % 2 = 1 then
          some ((⟨(last.take (tk s 0 0).1 ++ (ttR (s.drop (tk s 0 0).2.1)).1).toArray⟩, ⟨#[]⟩, true, (((tk (s.drop ((tk s 0 0).2.1 + (ttR (s.drop (tk s 0 0).2.1)).2.1)) 0 0).1 / 2 : Nat) : Int)),
            (tk s 0 0).2.1 + (ttR (s.drop (tk s 0 0).2.1)).2.1 + (tk (s.drop ((tk s 0 0).2.1 + (ttR (s.drop (tk s 0 0).2.1)).2.1)) 0 0).2.1)
        else
          if (ttR (s.drop ((tk s 0 0).2.1 + (ttR (s.drop (tk s 0 0).2.1)).2.1 + (tk (s.drop ((tk s 0 0).2.1 + (ttR (s.drop (tk s 0 0).2.1)).2.1)) 0 0).2.1))).2.2 = 0 then
            some ((⟨(last.take (tk s 0 0).1 ++ (ttR (s.drop (tk s 0 0).2.1)).1).toArray⟩, ⟨(ttR (s.drop ((tk s 0 0).2.1 + (ttR (s.drop (tk s 0 0).2.1)).2.1 + (tk (s.drop ((tk s 0 0).2.1 + (ttR (s.drop (tk s 0 0).2.1)).2.1)) 0 0).2.1))).1.toArray⟩, false, (((tk (s.drop ((tk s 0 0).2.1 + (ttR (s.drop (tk s 0 0).2.1)).2.1)) 0 0).1 / 2 : Nat) : Int)),
              (tk s 0 0).2.1 + (ttR (s.drop (tk s 0 0).2.1)).2.1 + (tk (s.drop ((tk s 0 0).2.1 + (ttR (s.drop (tk s 0 0).2.1)).2.1)) 0 0).2.1 + (ttR (s.drop ((tk s 0 0).2.1 + (ttR (s.drop (tk s 0 0).2.1)).2.1 + (tk (s.drop ((tk s 0 0).2.1 + (ttR (s.drop (tk s 0 0).2.1)).2.1)) 0 0).2.1))).2.1)
          else none
      else none
    else none
  else none
/-- Its parts, one by one. -/
theorem oneB_eq {s last t : List UInt8} {n a b q c x y : Nat} (h1 : tk s 0 0 = (n, a, x)) (h2 : ttR (s.drop a) = (t, b, y)) {z : Nat} (h3 : tk (s.drop (a + b)) 0 0 = (q, c, z)) {v : List UInt8} {d u : Nat} (h4 : ttR (s.drop (a + b + c)) = (v, d, u)) :
    oneB s last = if x = 0 ∧ n ≤ last.length ∧ y = 0 ∧ z = 0 ∧ comN last (last.take n ++ t) = n ∧ (q % 2 = 1 ∨ u = 0) then
      some (if q % 2 = 1 then ((⟨(last.take n ++ t).toArray⟩, ⟨#[]⟩, true, ((q / 2 : Nat) : Int)), a + b + c) else ((⟨(last.take n ++ t).toArray⟩, ⟨v.toArray⟩, false, ((q / 2 : Nat) : Int)), a + b + c + d)) else none := by
  unfold oneB
  simp only [h1, h2, h3, h4]
  by_cases c1 : x = 0 ∧ n ≤ last.length
  · rw [if_pos c1]
    by_cases c2 : y = 0
    · rw [if_pos c2]
      by_cases c3 : z = 0 ∧ comN last (last.take n ++ t) = n
      · rw [if_pos c3]
        by_cases c4 : q % 2 = 1
        · simp only [if_pos c4]
          rw [if_pos ⟨c1.1, c1.2, c2, c3.1, c3.2, .inl c4⟩]
        · simp only [if_neg c4]
          by_cases c5 : u = 0
          · rw [if_pos c5, if_pos ⟨c1.1, c1.2, c2, c3.1, c3.2, .inr c5⟩]
          · rw [if_neg c5, if_neg]
            rintro ⟨_, _, _, _, _, k | k⟩
            · exact c4 k
            · exact c5 k
      · rw [if_neg c3, if_neg]
        rintro ⟨_, _, _, k1, k2, _⟩
        exact c3 ⟨k1, k2⟩
    · rw [if_neg c2, if_neg]
      rintro ⟨_, _, k, _⟩
      exact c2 k
  · rw [if_neg c1, if_neg]
    rintro ⟨k1, k2, _⟩
    exact c1 ⟨k1, k2⟩
theorem tk_le {l : List UInt8} {n a x : Nat} (h : tk l 0 0 = (n, a, x)) : a ≤ l.length ∧ n ≤ 4611686018427387904 := by
  by_cases hx : x = 0
  · subst hx
    obtain ⟨_, h1, h2, _, _, h5, _⟩ := tk_back l 0 0 _ _ h
    omega
  · have h1 := tk_err l 0 0 (by rw [h]; exact hx)
    rw [h] at h1
    simp only at h1
    omega
theorem ttR_le {l t : List UInt8} {b x : Nat} (h : ttR l = (t, b, x)) : b ≤ l.length ∧ t.length ≤ b := by
  rcases tk_cases l with h1 | ⟨n, k, h1, h2, h3, h4⟩
  · have : ttR l = ([], 0, (tk l 0 0).2.2) := ttR_err rfl (by rcases h1 with h1 | h1 <;> rw [h1] <;> decide)
    rw [h] at this
    simp only [Prod.mk.injEq] at this
    obtain ⟨rfl, rfl, _⟩ := this
    simp
  · by_cases c1 : 262144 < n
    · rw [ttR_big h1 c1] at h
      simp only [Prod.mk.injEq] at h
      obtain ⟨rfl, rfl, _⟩ := h
      simp
    · by_cases c2 : l.length < k + n
      · rw [ttR_short h1 (by omega) c2] at h
        simp only [Prod.mk.injEq] at h
        obtain ⟨rfl, rfl, _⟩ := h
        simp
      · rw [ttR_ok h1 (by omega) (by omega)] at h
        simp only [Prod.mk.injEq] at h
        obtain ⟨rfl, rfl, _⟩ := h
        rw [List.length_take, List.length_drop]
        omega
/-- The bytes of a text that was taken. -/
theorem ttR_bytes {l t : List UInt8} {b : Nat} (h : ttR l = (t, b, 0)) : txL t = l.take b ∧ b ≤ l.length := by
  rcases tk_cases l with h1 | ⟨n, k, h1, h2, h3, h4⟩
  · have : ttR l = ([], 0, (tk l 0 0).2.2) := ttR_err rfl (by rcases h1 with h1 | h1 <;> rw [h1] <;> decide)
    rw [h] at this
    simp only [Prod.mk.injEq] at this
    rcases h1 with h1 | h1 <;> omega
  · by_cases c1 : 262144 < n
    · rw [ttR_big h1 c1] at h
      simp at h
    · by_cases c2 : l.length < k + n
      · rw [ttR_short h1 (by omega) c2] at h
        simp at h
      · rw [ttR_ok h1 (by omega) (by omega)] at h
        simp only [Prod.mk.injEq] at h
        obtain ⟨rfl, rfl, _⟩ := h
        obtain ⟨m, _, _, _, e1, _, e2, _⟩ := tk_back l 0 0 _ _ h1
        have : m = n := by simpa using e1.symm
        subst this
        have hl : ((l.drop k).take m).length = m := by rw [List.length_take, List.length_drop]; omega
        unfold txL
        rw [hl, e2, Nat.sub_zero, List.take_add]
        exact ⟨rfl, by omega⟩
theorem tk_bytes {l : List UInt8} {n a : Nat} (h : tk l 0 0 = (n, a, 0)) : vL n = l.take a ∧ a ≤ l.length := by
  obtain ⟨m, _, h2, _, e1, _, e2, _⟩ := tk_back l 0 0 _ _ h
  have : m = n := by simpa using e1.symm
  subst this
  rw [e2, Nat.sub_zero]
  exact ⟨rfl, by omega⟩
theorem tk_fore (n : Nat) (t : List UInt8) (h : n ≤ 4611686018427387904) : tk (vL n ++ t) 0 0 = (n, (vL n).length, 0) := by
  have h9 := vL_len9 h
  have ht := tk_put t n 0 0 (by omega) (fun _ => rfl) (by omega)
  simpa using ht

theorem oneB_put (e : Ent) (last t : List UInt8) (h : mayE e = true) : oneB (entB last e ++ t) last = some (e, (entB last e).length) := by
  obtain ⟨k, v, g, q⟩ := e
  obtain ⟨h1, h2, h3, h4, h5⟩ := may_iff.1 h
  unfold keyB at h1
  simp only [Bool.and_eq_true, decide_eq_true_eq] at h1
  have hc := comN_le last k.data.toList
  have hk : k.data.toList.length = k.size := size_list k
  have hv : v.data.toList.length = v.size := size_list v
  obtain ⟨n, hn⟩ : ∃ n, comN last k.data.toList = n := ⟨_, rfl⟩
  have ht := comN_take last k.data.toList
  rw [hn] at hc ht
  have hkey : last.take n ++ k.data.toList.drop n = k.data.toList := by rw [ht, List.take_append_drop]
  have hq : ((q.toNat : Nat) : Int) = q := by omega
  cases g with
  | true =>
    have hv0 := h3 rfl
    subst hv0
    have hs : entB last (k, ⟨#[]⟩, true, q) = vL n ++ (txL (k.data.toList.drop n) ++ vL (2 * q.toNat + 1)) := by unfold entB; simp [hn]
    obtain ⟨S, hS⟩ : ∃ S, S = entB last (k, ⟨#[]⟩, true, q) ++ t := ⟨_, rfl⟩
    have e0 : S = vL n ++ (txL (k.data.toList.drop n) ++ (vL (2 * q.toNat + 1) ++ t)) := by rw [hS, hs]; simp
    have e1 : tk S 0 0 = (n, (vL n).length, 0) := by rw [e0]; exact tk_fore n _ (by omega)
    have d1 : S.drop (vL n).length = txL (k.data.toList.drop n) ++ (vL (2 * q.toNat + 1) ++ t) := by rw [e0, List.drop_left]
    have e2 : ttR (S.drop (vL n).length) = (k.data.toList.drop n, (txL (k.data.toList.drop n)).length, 0) := by rw [d1]; exact ttR_back _ _ (by rw [List.length_drop]; omega)
    have d2 : S.drop ((vL n).length + (txL (k.data.toList.drop n)).length) = vL (2 * q.toNat + 1) ++ t := by rw [← List.drop_drop, d1, List.drop_left]
    have e3 : tk (S.drop ((vL n).length + (txL (k.data.toList.drop n)).length)) 0 0 = (2 * q.toNat + 1, (vL (2 * q.toNat + 1)).length, 0) := by rw [d2]; exact tk_fore _ _ (by omega)
    rw [← hS, oneB_eq e1 e2 e3 (v := (ttR (S.drop ((vL n).length + (txL (k.data.toList.drop n)).length + (vL (2 * q.toNat + 1)).length))).1) (d := (ttR (S.drop ((vL n).length + (txL (k.data.toList.drop n)).length + (vL (2 * q.toNat + 1)).length))).2.1) (u := (ttR (S.drop ((vL n).length + (txL (k.data.toList.drop n)).length + (vL (2 * q.toNat + 1)).length))).2.2) rfl]
    have m1 : (2 * q.toNat + 1) % 2 = 1 := by omega
    rw [if_pos ⟨rfl, by omega, rfl, rfl, by rw [hkey, hn], .inl m1⟩, if_pos m1, hkey, hs, show (2 * q.toNat + 1) / 2 = q.toNat by omega, hq]
    simp [Nat.add_assoc]
  | false =>
    have hs : entB last (k, v, false, q) = vL n ++ (txL (k.data.toList.drop n) ++ (vL (2 * q.toNat) ++ txL v.data.toList)) := by unfold entB; simp [hn]
    obtain ⟨S, hS⟩ : ∃ S, S = entB last (k, v, false, q) ++ t := ⟨_, rfl⟩
    have e0 : S = vL n ++ (txL (k.data.toList.drop n) ++ (vL (2 * q.toNat) ++ (txL v.data.toList ++ t))) := by rw [hS, hs]; simp
    have e1 : tk S 0 0 = (n, (vL n).length, 0) := by rw [e0]; exact tk_fore n _ (by omega)
    have d1 : S.drop (vL n).length = txL (k.data.toList.drop n) ++ (vL (2 * q.toNat) ++ (txL v.data.toList ++ t)) := by rw [e0, List.drop_left]
    have e2 : ttR (S.drop (vL n).length) = (k.data.toList.drop n, (txL (k.data.toList.drop n)).length, 0) := by rw [d1]; exact ttR_back _ _ (by rw [List.length_drop]; omega)
    have d2 : S.drop ((vL n).length + (txL (k.data.toList.drop n)).length) = vL (2 * q.toNat) ++ (txL v.data.toList ++ t) := by rw [← List.drop_drop, d1, List.drop_left]
    have e3 : tk (S.drop ((vL n).length + (txL (k.data.toList.drop n)).length)) 0 0 = (2 * q.toNat, (vL (2 * q.toNat)).length, 0) := by rw [d2]; exact tk_fore _ _ (by omega)
    have d3 : S.drop ((vL n).length + (txL (k.data.toList.drop n)).length + (vL (2 * q.toNat)).length) = txL v.data.toList ++ t := by rw [← List.drop_drop, d2, List.drop_left]
    have e4 : ttR (S.drop ((vL n).length + (txL (k.data.toList.drop n)).length + (vL (2 * q.toNat)).length)) = (v.data.toList, (txL v.data.toList).length, 0) := by rw [d3]; exact ttR_back _ _ (by omega)
    rw [← hS, oneB_eq e1 e2 e3 e4]
    have m1 : ¬ (2 * q.toNat) % 2 = 1 := by omega
    rw [if_pos ⟨rfl, by omega, rfl, rfl, by rw [hkey, hn], .inr rfl⟩, if_neg m1, hkey, hs, show (2 * q.toNat) / 2 = q.toNat by omega, hq]
    simp [Nat.add_assoc]
theorem oneB_back {s last : List UInt8} {e : Ent} {k : Nat} (h : oneB s last = some (e, k)) : entB last e = s.take k ∧ k ≤ s.length := by
  obtain ⟨n, a, x, h1⟩ : ∃ n a x, tk s 0 0 = (n, a, x) := ⟨_, _, _, rfl⟩
  obtain ⟨t, b, y, h2⟩ : ∃ t b y, ttR (s.drop a) = (t, b, y) := ⟨_, _, _, rfl⟩
  obtain ⟨q, c, z, h3⟩ : ∃ q c z, tk (s.drop (a + b)) 0 0 = (q, c, z) := ⟨_, _, _, rfl⟩
  obtain ⟨v, d, u, h4⟩ : ∃ v d u, ttR (s.drop (a + b + c)) = (v, d, u) := ⟨_, _, _, rfl⟩
  rw [oneB_eq h1 h2 h3 h4] at h
  split at h
  · rename_i hc
    obtain ⟨rfl, hn, rfl, rfl, hcom, hu⟩ := hc
    obtain ⟨b1, l1⟩ := tk_bytes h1
    obtain ⟨b2, l2⟩ := ttR_bytes h2
    obtain ⟨b3, l3⟩ := tk_bytes h3
    rw [List.length_drop] at l2 l3
    have hl : (last.take n).length = n := by rw [List.length_take]; omega
    have hd : (last.take n ++ t).drop n = t := by
      have := List.drop_left (l₁ := last.take n) (l₂ := t)
      rwa [hl] at this
    have s1 : s.take (a + b) = vL n ++ txL t := by rw [List.take_add, b1, b2]
    have s2 : s.take (a + b + c) = vL n ++ txL t ++ vL q := by rw [List.take_add, s1, b3]
    injection h with h
    by_cases hq : q % 2 = 1
    · rw [if_pos hq, Prod.mk.injEq] at h
      obtain ⟨rfl, rfl⟩ := h
      refine ⟨?_, by omega⟩
      rw [s2]
      unfold entB
      simp only [if_true, hcom, hd]
      rw [show ((q / 2 : Nat) : Int).toNat = q / 2 by omega, show 2 * (q / 2) + 1 = q by omega, List.append_assoc]
    · rw [if_neg hq, Prod.mk.injEq] at h
      obtain ⟨rfl, rfl⟩ := h
      obtain rfl := hu.resolve_left hq
      obtain ⟨b4, l4⟩ := ttR_bytes h4
      rw [List.length_drop] at l4
      refine ⟨?_, by omega⟩
      rw [List.take_add, s2, ← b4]
      unfold entB
      simp only [Bool.false_eq_true, if_false, hcom, hd]
      rw [show ((q / 2 : Nat) : Int).toNat = q / 2 by omega, show 2 * (q / 2) = q by omega, List.append_assoc, List.append_assoc]
  · cases h

/-- So many entries, behind a key; what is left. -/
def manyB : Nat → List UInt8 → List UInt8 → Option (List Ent × List UInt8)
  | 0, s, _ => some ([], s)
  | n + 1, s, last => match oneB s last with
    | none => none
    | some (x, k) => (manyB n (s.drop k) x.1.data.toList).map fun p => (x :: p.1, p.2)
theorem manyB_no {n : Nat} {s last : List UInt8} (h : oneB s last = none) : manyB (n + 1) s last = none := by
  rw [manyB, h]
theorem manyB_ok {n : Nat} {s last : List UInt8} {x : Ent} {k : Nat} (h : oneB s last = some (x, k)) : manyB (n + 1) s last = (manyB n (s.drop k) x.1.data.toList).map fun p => (x :: p.1, p.2) := by
  rw [manyB, h]
theorem manyB_put : ∀ (es : List Ent) (last t : List UInt8), (∀ e ∈ es, mayE e = true) → manyB es.length (bodyB last es ++ t) last = some (es, t)
  | [], _, _, _ => rfl
  | e :: es, last, t, h => by
    show manyB (es.length + 1) (entB last e ++ bodyB e.1.data.toList es ++ t) last = _
    rw [List.append_assoc, manyB_ok (oneB_put e last _ (h e (by simp))), List.drop_left, manyB_put es _ t fun x hx => h x (by simp [hx])]
    rfl
theorem manyB_back : ∀ (n : Nat) (s last : List UInt8) (es : List Ent) (r : List UInt8), manyB n s last = some (es, r) → es.length = n ∧ bodyB last es ++ r = s
  | 0, s, last, es, r, h => by
    simp only [manyB, Option.some.injEq, Prod.mk.injEq] at h
    obtain ⟨rfl, rfl⟩ := h
    exact ⟨rfl, rfl⟩
  | n + 1, s, last, es, r, h => by
    cases h1 : oneB s last with
    | none => rw [manyB_no h1] at h; cases h
    | some p =>
      obtain ⟨x, k⟩ := p
      rw [manyB_ok h1, Option.map_eq_some_iff] at h
      obtain ⟨⟨fs, r'⟩, h2, h3⟩ := h
      simp only [Prod.mk.injEq] at h3
      obtain ⟨rfl, rfl⟩ := h3
      obtain ⟨h4, h5⟩ := manyB_back n _ _ _ _ h2
      obtain ⟨h6, h7⟩ := oneB_back h1
      refine ⟨by simp [h4], ?_⟩
      show entB last x ++ bodyB _ fs ++ r' = s
      rw [List.append_assoc, h5, h6, List.take_append_drop]
/-- The entries of the bytes ahead of a seal. -/
def partB (t : List UInt8) : Option (List Ent) :=
  if (tk t 0 0).2.2 = 0 ∧ (tk t 0 0).1 ≤ 4096 then
    match manyB (tk t 0 0).1 (t.drop (tk t 0 0).2.1) [] with
    | some (es, []) => if chainE zE es = true then some es else none
    | _ => none
  else none
/-- The entries of bytes. -/
def takeB (s : List UInt8) : Option (List Ent) := if chk s = true then partB (s.take (s.length - 4)) else none
theorem partB_some {t : List UInt8} {es : List Ent} : partB t = some es ↔ ∃ n a, tk t 0 0 = (n, a, 0) ∧ n ≤ 4096 ∧ manyB n (t.drop a) [] = some (es, []) ∧ chainE zE es = true := by
  obtain ⟨n, a, x, h1⟩ : ∃ n a x, tk t 0 0 = (n, a, x) := ⟨_, _, _, rfl⟩
  unfold partB
  rw [h1]
  constructor
  · intro h
    split at h
    · rename_i hc
      obtain ⟨rfl, hn⟩ := hc
      split at h
      · rename_i fs hm
        split at h
        · rename_i hch
          injection h with h
          subst h
          exact ⟨n, a, rfl, hn, hm, hch⟩
        · cases h
      · cases h
    · cases h
  · rintro ⟨n', a', h2, hn, hm, hch⟩
    simp only [Prod.mk.injEq] at h2
    obtain ⟨rfl, rfl, rfl⟩ := h2
    simp only [hn, and_self, if_true, hm, hch]
theorem partB_put {es : List Ent} (h : okB es = true) : partB (headB es) = some es := by
  unfold okB at h
  simp only [Bool.and_eq_true, decide_eq_true_eq] at h
  refine partB_some.2 ⟨es.length, (vL es.length).length, tk_fore _ _ (by omega), h.1, ?_, h.2⟩
  unfold headB
  rw [List.drop_left]
  have := manyB_put es [] [] (chain_may h.2)
  rwa [List.append_nil] at this
theorem partB_back {t : List UInt8} {es : List Ent} (h : partB t = some es) : headB es = t ∧ okB es = true := by
  obtain ⟨n, a, h1, hn, hm, hc⟩ := partB_some.1 h
  obtain ⟨h2, h3⟩ := manyB_back _ _ _ _ _ hm
  obtain ⟨b1, l1⟩ := tk_bytes h1
  refine ⟨?_, ?_⟩
  · unfold headB
    rw [h2, b1]
    rw [List.append_nil] at h3
    rw [h3, List.take_append_drop]
  · unfold okB
    rw [hc, decide_eq_true (by omega)]
    rfl
theorem seal_head (l : List UInt8) : (l ++ tailL l).take ((l ++ tailL l).length - 4) = l := by
  rw [List.length_append, tailL_length, show l.length + 4 - 4 = l.length by omega, List.take_left]
theorem takeB_put {es : List Ent} (h : okB es = true) : takeB (putB es) = some es := by
  unfold takeB putB
  rw [if_pos (chk_seal _), seal_head, partB_put h]
theorem chk_split {s : List UInt8} (h : chk s = true) : s = s.take (s.length - 4) ++ tailL (s.take (s.length - 4)) ∧ 4 ≤ s.length := by
  unfold chk at h
  simp only [Bool.and_eq_true, decide_eq_true_eq, beq_iff_eq] at h
  refine ⟨?_, h.1⟩
  rw [← h.2, List.take_append_drop]
theorem takeB_back {s : List UInt8} {es : List Ent} (h : takeB s = some es) : putB es = s ∧ okB es = true := by
  unfold takeB at h
  split at h
  · rename_i hc
    obtain ⟨h1, h2⟩ := partB_back h
    refine ⟨?_, h2⟩
    unfold putB
    rw [h1]
    exact (chk_split hc).1.symm
  · cases h
theorem headB_len {es : List Ent} (h : okB es = true) : (headB es).length ≤ 400 * es.length + 9 ∧ 1 ≤ (headB es).length := by
  unfold okB at h
  simp only [Bool.and_eq_true, decide_eq_true_eq] at h
  have h1 := bodyB_len es [] (chain_may h.2)
  have h2 := vL_len9 (n := es.length) (by omega)
  have h3 := vL_pos es.length
  unfold headB
  rw [List.length_append]
  omega
end Go.Proofs.Ytdpinkipcaolhaa
