/-
  Layer 12 (manifest), plain: merging in place by turning (slices.SortStableFunc's way): runs that are in order become one run that is in order. Conditions: as each says.
-/
import Derived.Test.YthmkalnbdocdcaaRows
import Derived.Sort.LotA
namespace Go.Proofs.Ythmkalnbdocdcaa
open Go.Sort
set_option linter.unusedVariables false
set_option linter.unusedSimpArgs false
section
variable {α : Type} {lt : α → α → Bool}
theorem swo_le {x y z : α} (hS : SWO lt) (h1 : lt y x = false) (h2 : lt z y = false) : lt z x = false := hS.ntrans _ _ _ h2 h1
theorem swo_asymm {x y : α} (hS : SWO lt) (h : lt x y = true) : lt y x = false := by
  cases e : lt y x with
  | false => rfl
  | true => have := hS.trans _ _ _ h e; rw [hS.irrefl] at this; cases this
/-- x ≤ y < z: x < z. -/
theorem swo_lt {x y z : α} (hS : SWO lt) (h1 : lt y x = false) (h2 : lt y z = true) : lt x z = true := by
  cases e : lt x z with
  | true => rfl
  | false => have := hS.ntrans _ _ _ h1 e; rw [this] at h2; cases h2
/-- x < y ≤ z: x < z. -/
theorem swo_lt2 {x y z : α} (hS : SWO lt) (h1 : lt x y = true) (h2 : lt z y = false) : lt x z = true := by
  cases e : lt x z with
  | true => rfl
  | false => have := hS.ntrans _ _ _ e h2; rw [this] at h1; cases h1
end
section
variable {α : Type} [Inhabited α] {lt : α → α → Bool}

/-- n places from a on exchanged with those from b on. -/
def swpR (d : Array α) (a b : Nat) : Nat → Array α
  | 0 => d
  | n + 1 => swp (swpR d a b n) (a + n) (b + n)
theorem swpR_size (d : Array α) (a b n : Nat) : (swpR d a b n).size = d.size := by
  induction n with
  | zero => rfl
  | succ n ih => rw [swpR, size_swp, ih]
theorem swpR_get {d : Array α} {a b : Nat} : ∀ {n : Nat}, a + n ≤ b → b + n ≤ d.size → (∀ k, a ≤ k → k < a + n → (swpR d a b n)[k]! = d[b + (k - a)]!) ∧ (∀ k, b ≤ k → k < b + n → (swpR d a b n)[k]! = d[a + (k - b)]!) ∧ (∀ k, (k < a ∨ a + n ≤ k) → (k < b ∨ b + n ≤ k) → (swpR d a b n)[k]! = d[k]!)
  | 0, _, _ => ⟨fun k h1 h2 => by omega, fun k h1 h2 => by omega, fun k _ _ => rfl⟩
  | n + 1, h1, h2 => by
    obtain ⟨g1, g2, g3⟩ := swpR_get (d := d) (a := a) (b := b) (n := n) (by omega) (by omega)
    have hs := swpR_size d a b n
    refine ⟨fun k k1 k2 => ?_, fun k k1 k2 => ?_, fun k k1 k2 => ?_⟩
    · by_cases e : k = a + n
      · subst e
        rw [swpR, swp_left _ _ _ (by omega) (by omega), g3 _ (by omega) (by omega)]
        congr 1; omega
      · rw [swpR, swp_other _ _ _ _ e (by omega), g1 k k1 (by omega)]
    · by_cases e : k = b + n
      · subst e
        rw [swpR, swp_right _ _ _ (by omega), g3 _ (by omega) (by omega)]
        congr 1; omega
      · rw [swpR, swp_other _ _ _ _ (by omega) e, g2 k k1 (by omega)]
    · rw [swpR, swp_other _ _ _ _ (by omega) (by omega), g3 k (by omega) (by omega)]
theorem swpR_perm {d : Array α} {a b lo hi : Nat} (hhi : hi ≤ d.size) (hlo : lo ≤ a) (hab : a ≤ b) : ∀ {n : Nat}, b + n ≤ hi → PermIn lo hi d (swpR d a b n)
  | 0, _ => permIn_refl d lo hi
  | n + 1, h => by
    have ih := swpR_perm hhi hlo hab (n := n) (by omega)
    exact permIn_trans _ _ _ _ _ ih (swp_permIn _ _ _ _ _ (by omega) (by omega) (by omega) (by omega) (by rw [swpR_size]; exact hhi))
/-- The two parts [a, m) and [m, b) in turned order. -/
def Rot (a m b : Nat) (d d' : Array α) : Prop := (∀ k, (k < a ∨ b ≤ k) → d'[k]! = d[k]!) ∧ (∀ k, a ≤ k → k < a + (b - m) → d'[k]! = d[m + (k - a)]!) ∧ (∀ k, a + (b - m) ≤ k → k < b → d'[k]! = d[k - (b - m)]!)
theorem rot_left {m i j : Nat} {d d' : Array α} (him : i ≤ m) (hji : j < i) (hs : m + j ≤ d.size) (h : Rot (m - (i - j)) m (m + j) (swpR d (m - i) m j) d') : Rot (m - i) m (m + j) d d' := by
  obtain ⟨g1, g2, g3⟩ := swpR_get (d := d) (a := m - i) (b := m) (n := j) (by omega) hs
  obtain ⟨h1, h2, h3⟩ := h
  refine ⟨fun k hk => ?_, fun k k1 k2 => ?_, fun k k1 k2 => ?_⟩
  · rw [h1 k (by omega), g3 k (by omega) (by omega)]
  · rw [h1 k (by omega), g1 k k1 (by omega)]
  · by_cases hk : k < m - (i - j) + (m + j - m)
    · rw [h2 k (by omega) hk, g2 _ (by omega) (by omega)]
      congr 1; omega
    · rw [h3 k (by omega) k2, g3 _ (by omega) (by omega)]
theorem rot_right {m i j : Nat} {d d' : Array α} (him : i ≤ m) (hij : i < j) (hs : m + j ≤ d.size) (h : Rot (m - i) m (m + (j - i)) (swpR d (m - i) (m + j - i) i) d') : Rot (m - i) m (m + j) d d' := by
  obtain ⟨g1, g2, g3⟩ := swpR_get (d := d) (a := m - i) (b := m + j - i) (n := i) (by omega) (by omega)
  obtain ⟨h1, h2, h3⟩ := h
  refine ⟨fun k hk => ?_, fun k k1 k2 => ?_, fun k k1 k2 => ?_⟩
  · rw [h1 k (by omega), g3 k (by omega) (by omega)]
  · by_cases hk : k < m - i + (m + (j - i) - m)
    · rw [h2 k k1 hk, g3 _ (by omega) (by omega)]
    · rw [h3 k (by omega) (by omega), g1 _ (by omega) (by omega)]
      congr 1; omega
  · rw [h1 k (by omega), g2 k (by omega) (by omega)]
    congr 1; omega
theorem rot_end {m i : Nat} {d : Array α} (him : i ≤ m) (hs : m + i ≤ d.size) : Rot (m - i) m (m + i) d (swpR d (m - i) m i) := by
  obtain ⟨g1, g2, g3⟩ := swpR_get (d := d) (a := m - i) (b := m) (n := i) (by omega) hs
  refine ⟨fun k hk => g3 k (by omega) (by omega), fun k k1 k2 => g1 k k1 (by omega), fun k k1 k2 => ?_⟩
  rw [g2 k (by omega) (by omega)]
  congr 1; omega
/-- Where one part is empty nothing is turned. -/
theorem rot_none {a m b : Nat} {d : Array α} (ha : a ≤ m) (hb : m ≤ b) (h : a = m ∨ m = b) : Rot a m b d d := by
  refine ⟨fun k _ => rfl, fun k k1 k2 => ?_, fun k k1 k2 => ?_⟩
  · congr 1; omega
  · congr 1; omega
theorem srt_le {a b : Nat} {d : Array α} (hS : SWO lt) (h : SortedIn lt a b d) {i j : Nat} (hi : a ≤ i) (hij : i ≤ j) (hj : j < b) : lt d[j]! d[i]! = false := by
  by_cases e : i = j
  · subst e; exact hS.irrefl _
  · exact h i j hi (by omega) hj
theorem srt_sub {a b a' b' : Nat} {d : Array α} (h : SortedIn lt a b d) (ha : a ≤ a') (hb : b' ≤ b) : SortedIn lt a' b' d := fun i j hi hij hj => h i j (by omega) hij (by omega)
theorem srt_one (a : Nat) (d : Array α) : SortedIn lt a (a + 1) d := fun i j hi hij hj => by omega
theorem srt_none {a b : Nat} (h : b ≤ a) (d : Array α) : SortedIn lt a b d := fun i j hi hij hj => by omega
theorem srt_same {a b : Nat} {d d' : Array α} (h : SortedIn lt a b d) (he : ∀ k, a ≤ k → k < b → d'[k]! = d[k]!) : SortedIn lt a b d' := fun i j hi hij hj => by
  rw [he i hi (by omega), he j (by omega) hj]; exact h i j hi hij hj
/-- What the search for the cut of a merge finds: where it begins, where it ends, and what stands on both sides. -/
structure Cut (lt : α → α → Bool) (d : Array α) (a m b mid s : Nat) : Prop where
  lo : a ≤ s
  hi : s ≤ mid
  hm : s ≤ m
  e1 : m ≤ mid + m - s
  e2 : mid + m - s ≤ b
  left : ∀ x y, a ≤ x → x < s → mid + m - s ≤ y → y < b → lt d[y]! d[x]! = false
  right : ∀ x y, s ≤ x → x < m → m ≤ y → y < mid + m - s → lt d[x]! d[y]! = false
theorem cut_of {d : Array α} {a m b mid s s0 r0 : Nat} (hS : SWO lt) (ham : a < m) (hmb : m < b) (hmid : mid = (a + b) / 2) (h1 : SortedIn lt a m d) (h2 : SortedIn lt m b d)
    (h0 : (mid < m ∧ s0 = mid + m - b ∧ r0 = mid) ∨ (m ≤ mid ∧ s0 = a ∧ r0 = m)) (hs0 : s0 ≤ s) (hsr : s ≤ r0)
    (hL : s0 < s → lt d[mid + m - 1 - (s - 1)]! d[s - 1]! = false) (hR : s < r0 → lt d[mid + m - 1 - s]! d[s]! = true) : Cut lt d a m b mid s := by
  have q1 : a ≤ s := by omega
  have q2 : s ≤ mid := by omega
  have q3 : s ≤ m := by omega
  have q4 : m ≤ mid + m - s := by omega
  have q5 : mid + m - s ≤ b := by omega
  refine ⟨q1, q2, q3, q4, q5, fun x y hx hxs hy hyb => ?_, fun x y hx hxm hy hye => ?_⟩
  · have hs : s0 < s := by omega
    have := hL hs
    rw [show mid + m - 1 - (s - 1) = mid + m - s by omega] at this
    have a1 : lt d[s - 1]! d[x]! = false := srt_le hS h1 hx (by omega) (by omega)
    have a2 : lt d[y]! d[mid + m - s]! = false := srt_le hS h2 q4 hy hyb
    exact swo_le hS a1 (swo_le hS this a2)
  · have hs : s < r0 := by omega
    have := hR hs
    rw [show mid + m - 1 - s = mid + m - s - 1 by omega] at this
    have a1 : lt d[mid + m - s - 1]! d[y]! = false := srt_le hS h2 hy (by omega) (by omega)
    have a2 : lt d[x]! d[s]! = false := srt_le hS h1 q1 hx hxm
    exact swo_asymm hS (swo_lt hS a1 (swo_lt2 hS this a2))
/-- The turned parts: what is behind the turning. -/
theorem cut_rot {d d1 : Array α} {a m b mid s : Nat} (hS : SWO lt) (h1 : SortedIn lt a m d) (h2 : SortedIn lt m b d) (hmid : mid ≤ b) (hc : Cut lt d a m b mid s) (hr : Rot s m (mid + m - s) d d1) :
    SortedIn lt a s d1 ∧ SortedIn lt s mid d1 ∧ SortedIn lt mid (mid + m - s) d1 ∧ SortedIn lt (mid + m - s) b d1 ∧ (∀ x y, a ≤ x → x < mid → mid ≤ y → y < b → lt d1[y]! d1[x]! = false) := by
  obtain ⟨q1, q2, q3, q4, q5, qL, qR⟩ := hc
  obtain ⟨r1, r2, r3⟩ := hr
  have e0 : s + (mid + m - s - m) = mid := by omega
  rw [e0] at r2 r3
  refine ⟨fun i j hi hij hj => ?_, fun i j hi hij hj => ?_, fun i j hi hij hj => ?_, fun i j hi hij hj => ?_, fun x y hx hxm hy hyb => ?_⟩
  · rw [r1 i (by omega), r1 j (by omega)]; exact h1 i j hi hij (by omega)
  · rw [r2 i hi (by omega), r2 j (by omega) hj]; exact h2 _ _ (by omega) (by omega) (by omega)
  · rw [r3 i hi (by omega), r3 j (by omega) hj]; exact h1 _ _ (by omega) (by omega) (by omega)
  · rw [r1 i (by omega), r1 j (by omega)]; exact h2 i j (by omega) hij (by omega)
  · by_cases hxs : x < s
    · rw [r1 x (by omega)]
      by_cases hye : y < mid + m - s
      · rw [r3 y hy hye]; exact srt_le hS h1 hx (by omega) (by omega)
      · rw [r1 y (by omega)]; exact qL x y hx hxs (by omega) hyb
    · rw [r2 x (by omega) hxm]
      by_cases hye : y < mid + m - s
      · rw [r3 y hy hye]; exact qR _ _ (by omega) (by omega) (by omega) (by omega)
      · rw [r1 y (by omega)]; exact srt_le hS h2 (by omega) (by omega) hyb
theorem prm_out {a b : Nat} {d d' : Array α} (h : PermIn a b d d') {k : Nat} (hk : k < a ∨ b ≤ k) : d'[k]! = d[k]! := h.2.1 k hk
/-- Behind both halves' merges. -/
theorem cut_end {d1 d2 d3 : Array α} {a b mid : Nat} (ham : a ≤ mid) (hmb : mid ≤ b) (hb : b ≤ d1.size) (hx : ∀ x y, a ≤ x → x < mid → mid ≤ y → y < b → lt d1[y]! d1[x]! = false)
    (p2 : PermIn a mid d1 d2) (s2 : SortedIn lt a mid d2) (p3 : PermIn mid b d2 d3) (s3 : SortedIn lt mid b d3) : PermIn a b d1 d3 ∧ SortedIn lt a b d3 := by
  have z2 : d2.size = d1.size := p2.1
  refine ⟨permIn_trans _ _ _ _ _ (permIn_mono _ _ _ _ _ _ (Nat.le_refl _) hmb hb p2) (permIn_mono _ _ _ _ _ _ ham (Nat.le_refl _) (by omega) p3), fun i j hi hij hj => ?_⟩
  by_cases hjm : j < mid
  · rw [prm_out p3 (k := i) (by omega), prm_out p3 (k := j) (by omega)]; exact s2 i j hi hij hjm
  · by_cases him : mid ≤ i
    · exact s3 i j him hij hj
    · rw [prm_out p3 (k := i) (by omega)]
      have step1 : ∀ y, mid ≤ y → y < b → ∀ x, a ≤ x → x < mid → lt d2[y]! d2[x]! = false := fun y hy hyb => by
        rw [prm_out p2 (k := y) (by omega)]
        exact permIn_all d1 d2 a mid (fun v => lt d1[y]! v = false) (by omega) p2 (fun x h1 h2 => hx x y h1 h2 hy hyb)
      exact permIn_all d2 d3 mid b (fun v => lt v d2[i]! = false) (by omega) p3 (fun y h1 h2 => step1 y h1 h2 i hi (by omega)) j (by omega) hj
/-- One element put into a run behind it: the places that it passes. -/
theorem up_end {d d' : Array α} {a i b : Nat} (hS : SWO lt) (hai : a < i) (hib : i ≤ b) (h2 : SortedIn lt (a + 1) b d) (hL : a + 1 < i → lt d[i - 1]! d[a]! = true) (hR : i < b → lt d[i]! d[a]! = false)
    (e1 : ∀ k, a ≤ k → k < i - 1 → d'[k]! = d[k + 1]!) (e2 : d'[i - 1]! = d[a]!) (e3 : ∀ k, i ≤ k → d'[k]! = d[k]!) : SortedIn lt a b d' := by
  intro x y hx hxy hy
  by_cases h : y < i - 1
  · rw [e1 x hx (by omega), e1 y (by omega) h]; exact h2 _ _ (by omega) (by omega) (by omega)
  · by_cases h' : y = i - 1
    · subst h'
      rw [e2, e1 x hx (by omega)]
      have l1 := hL (by omega)
      have l2 : lt d[i - 1]! d[x + 1]! = false := srt_le hS h2 (by omega) (by omega) (by omega)
      exact swo_asymm hS (swo_lt hS l2 l1)
    · rw [e3 y (by omega)]
      by_cases hxi : x < i - 1
      · rw [e1 x hx hxi]; exact srt_le hS h2 (by omega) (by omega) hy
      · by_cases hxe : x = i - 1
        · subst hxe
          rw [e2]
          have l1 := hR (by omega)
          have l2 : lt d[y]! d[i]! = false := srt_le hS h2 (by omega) (by omega) hy
          exact swo_le hS l1 l2
        · rw [e3 x (by omega)]; exact h2 _ _ (by omega) hxy hy
/-- One element put into a run ahead of it. -/
theorem down_end {d d' : Array α} {a i m : Nat} (hS : SWO lt) (hai : a ≤ i) (him : i ≤ m) (h1 : SortedIn lt a m d) (hL : a < i → lt d[m]! d[i - 1]! = false) (hR : i < m → lt d[m]! d[i]! = true)
    (e1 : ∀ k, i < k → k ≤ m → d'[k]! = d[k - 1]!) (e2 : d'[i]! = d[m]!) (e3 : ∀ k, k < i → d'[k]! = d[k]!) : SortedIn lt a (m + 1) d' := by
  intro x y hx hxy hy
  by_cases h : i < x
  · rw [e1 x h (by omega), e1 y (by omega) (by omega)]; exact h1 _ _ (by omega) (by omega) (by omega)
  · by_cases h' : x = i
    · subst h'
      rw [e2, e1 y hxy (by omega)]
      have l1 := hR (by omega)
      have l2 : lt d[y - 1]! d[x]! = false := srt_le hS h1 hx (by omega) (by omega)
      exact swo_asymm hS (swo_lt2 hS l1 l2)
    · rw [e3 x (by omega)]
      by_cases hyi : y < i
      · rw [e3 y hyi]; exact h1 _ _ hx hxy (by omega)
      · by_cases hye : y = i
        · subst hye
          rw [e2]
          have l1 := hL (by omega)
          have l2 : lt d[y - 1]! d[x]! = false := srt_le hS h1 hx (by omega) (by omega)
          exact swo_le hS l2 l1
        · rw [e1 y (by omega) (by omega)]; exact srt_le hS h1 hx (by omega) (by omega)
/-- Runs of a length, from multiples of it on, that are in order. -/
def Runs (lt : α → α → Bool) (bs lo hi n : Nat) (d : Array α) : Prop := ∀ q, lo ≤ q * bs → q * bs < hi → SortedIn lt (q * bs) (min (q * bs + bs) n) d
theorem Runs.keep {bs lo hi n a b : Nat} {d d' : Array α} (h : Runs lt bs lo hi n d) (hp : PermIn a b d d') (hab : ∀ q, lo ≤ q * bs → q * bs < hi → min (q * bs + bs) n ≤ a ∨ b ≤ q * bs) : Runs lt bs lo hi n d' := fun q h1 h2 =>
  srt_same (h q h1 h2) fun k k1 k2 => prm_out hp (by have := hab q h1 h2; omega)
end
end Go.Proofs.Ythmkalnbdocdcaa
