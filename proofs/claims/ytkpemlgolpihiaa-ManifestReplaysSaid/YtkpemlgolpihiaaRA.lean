/-
  Texts of mine as one, in the order in which they build: Ya, Yb, Yh, Ys, Yt, Yu, Yd, Yv. Conditions: as each says.
-/
import Derived.Test.YtkpemlgolpihiaaRows
import Derived.Sort.LotA
import Derived.Test.YtkpemlgolpihiaaSm
import Derived.Test.YtkpemlgolpihiaaWl
import Derived.Test.YtkpemlgolpihiaaSk
import Derived.Shelf.SlSortCmp.KitK
import Derived.Lib.Hide
import Derived.Deep.DeepCutAuto
import Derived.Deep.CutRange
import Derived.Deep.CutBlock
import Derived.Test.YtkpemlgolpihiaaSv
import Derived.Laws.OwnMore
namespace Go.Proofs.Ytkpemlgolpihiaa
open Go.Sort
set_option linter.unusedVariables false
set_option linter.unusedSimpArgs false
section
variable {α : Type} {lt : α → α → Bool}
theorem swo_le {x y z : α} (hS : SWO lt) (h1 : lt y x = false) (h2 : lt z y = false) : lt z x = false := hS.ntrans _ _ _ h2 h1
theorem swo_asymm {x y : α} (hS : SWO lt) (h : lt x y = true) : lt y x = false := by
  cases e : lt y x with
  | false => rfl
  | true => have := hS.trans _ _ _ h e; rw [hS.irrefl] at this; cases this
/-- x ≤ y < z: x < z. -/
theorem swo_lt {x y z : α} (hS : SWO lt) (h1 : lt y x = false) (h2 : lt y z = true) : lt x z = true := by
  cases e : lt x z with
  | true => rfl
  | false => have := hS.ntrans _ _ _ h1 e; rw [this] at h2; cases h2
/-- x < y ≤ z: x < z. -/
theorem swo_lt2 {x y z : α} (hS : SWO lt) (h1 : lt x y = true) (h2 : lt z y = false) : lt x z = true := by
  cases e : lt x z with
  | true => rfl
  | false => have := hS.ntrans _ _ _ e h2; rw [this] at h1; cases h1
end
section
variable {α : Type} [Inhabited α] {lt : α → α → Bool}

/-- n places from a on exchanged with those from b on. -/
def swpR (d : Array α) (a b : Nat) : Nat → Array α
  | 0 => d
  | n + 1 => swp (swpR d a b n) (a + n) (b + n)
theorem swpR_size (d : Array α) (a b n : Nat) : (swpR d a b n).size = d.size := by
  induction n with
  | zero => rfl
  | succ n ih => rw [swpR, size_swp, ih]
theorem swpR_get {d : Array α} {a b : Nat} : ∀ {n : Nat}, a + n ≤ b → b + n ≤ d.size → (∀ k, a ≤ k → k < a + n → (swpR d a b n)[k]! = d[b + (k - a)]!) ∧ (∀ k, b ≤ k → k < b + n → (swpR d a b n)[k]! = d[a + (k - b)]!) ∧ (∀ k, (k < a ∨ a + n ≤ k) → (k < b ∨ b + n ≤ k) → (swpR d a b n)[k]! = d[k]!)
  | 0, _, _ => ⟨fun k h1 h2 => by omega, fun k h1 h2 => by omega, fun k _ _ => rfl⟩
  | n + 1, h1, h2 => by
    obtain ⟨g1, g2, g3⟩ := swpR_get (d := d) (a := a) (b := b) (n := n) (by omega) (by omega)
    have hs := swpR_size d a b n
    refine ⟨fun k k1 k2 => ?_, fun k k1 k2 => ?_, fun k k1 k2 => ?_⟩
    · by_cases e : k = a + n
      · subst e
        rw [swpR, swp_left _ _ _ (by omega) (by omega), g3 _ (by omega) (by omega)]
        congr 1; omega
      · rw [swpR, swp_other _ _ _ _ e (by omega), g1 k k1 (by omega)]
    · by_cases e : k = b + n
      · subst e
        rw [swpR, swp_right _ _ _ (by omega), g3 _ (by omega) (by omega)]
        congr 1; omega
      · rw [swpR, swp_other _ _ _ _ (by omega) e, g2 k k1 (by omega)]
    · rw [swpR, swp_other _ _ _ _ (by omega) (by omega), g3 k (by omega) (by omega)]
theorem swpR_perm {d : Array α} {a b lo hi : Nat} (hhi : hi ≤ d.size) (hlo : lo ≤ a) (hab : a ≤ b) : ∀ {n : Nat}, b + n ≤ hi → PermIn lo hi d (swpR d a b n)
  | 0, _ => permIn_refl d lo hi
  | n + 1, h => by
    have ih := swpR_perm hhi hlo hab (n := n) (by omega)
    exact permIn_trans _ _ _ _ _ ih (swp_permIn _ _ _ _ _ (by omega) (by omega) (by omega) (by omega) (by rw [swpR_size]; exact hhi))
/-- The two parts [a, m) and [m, b) in turned order. -/
def Rot (a m b : Nat) (d d' : Array α) : Prop := (∀ k, (k < a ∨ b ≤ k) → d'[k]! = d[k]!) ∧ (∀ k, a ≤ k → k < a + (b - m) → d'[k]! = d[m + (k - a)]!) ∧ (∀ k, a + (b - m) ≤ k → k < b → d'[k]! = d[k - (b - m)]!)
theorem rot_left {m i j : Nat} {d d' : Array α} (him : i ≤ m) (hji : j < i) (hs : m + j ≤ d.size) (h : Rot (m - (i - j)) m (m + j) (swpR d (m - i) m j) d') : Rot (m - i) m (m + j) d d' := by
  obtain ⟨g1, g2, g3⟩ := swpR_get (d := d) (a := m - i) (b := m) (n := j) (by omega) hs
  obtain ⟨h1, h2, h3⟩ := h
  refine ⟨fun k hk => ?_, fun k k1 k2 => ?_, fun k k1 k2 => ?_⟩
  · rw [h1 k (by omega), g3 k (by omega) (by omega)]
  · rw [h1 k (by omega), g1 k k1 (by omega)]
  · by_cases hk : k < m - (i - j) + (m + j - m)
    · rw [h2 k (by omega) hk, g2 _ (by omega) (by omega)]
      congr 1; omega
    · rw [h3 k (by omega) k2, g3 _ (by omega) (by omega)]
theorem rot_right {m i j : Nat} {d d' : Array α} (him : i ≤ m) (hij : i < j) (hs : m + j ≤ d.size) (h : Rot (m - i) m (m + (j - i)) (swpR d (m - i) (m + j - i) i) d') : Rot (m - i) m (m + j) d d' := by
  obtain ⟨g1, g2, g3⟩ := swpR_get (d := d) (a := m - i) (b := m + j - i) (n := i) (by omega) (by omega)
  obtain ⟨h1, h2, h3⟩ := h
  refine ⟨fun k hk => ?_, fun k k1 k2 => ?_, fun k k1 k2 => ?_⟩
  · rw [h1 k (by omega), g3 k (by omega) (by omega)]
  · by_cases hk : k < m - i + (m + (j - i) - m)
    · rw [h2 k k1 hk, g3 _ (by omega) (by omega)]
    · rw [h3 k (by omega) (by omega), g1 _ (by omega) (by omega)]
      congr 1; omega
  · rw [h1 k (by omega), g2 k (by omega) (by omega)]
    congr 1; omega
theorem rot_end {m i : Nat} {d : Array α} (him : i ≤ m) (hs : m + i ≤ d.size) : Rot (m - i) m (m + i) d (swpR d (m - i) m i) := by
  obtain ⟨g1, g2, g3⟩ := swpR_get (d := d) (a := m - i) (b := m) (n := i) (by omega) hs
  refine ⟨fun k hk => g3 k (by omega) (by omega), fun k k1 k2 => g1 k k1 (by omega), fun k k1 k2 => ?_⟩
  rw [g2 k (by omega) (by omega)]
  congr 1; omega
/-- Where one part is empty nothing is turned. -/
theorem rot_none {a m b : Nat} {d : Array α} (ha : a ≤ m) (hb : m ≤ b) (h : a = m ∨ m = b) : Rot a m b d d := by
  refine ⟨fun k _ => rfl, fun k k1 k2 => ?_, fun k k1 k2 => ?_⟩
  · congr 1; omega
  · congr 1; omega
theorem srt_le {a b : Nat} {d : Array α} (hS : SWO lt) (h : SortedIn lt a b d) {i j : Nat} (hi : a ≤ i) (hij : i ≤ j) (hj : j < b) : lt d[j]! d[i]! = false := by
  by_cases e : i = j
  · subst e; exact hS.irrefl _
  · exact h i j hi (by omega) hj
theorem srt_sub {a b a' b' : Nat} {d : Array α} (h : SortedIn lt a b d) (ha : a ≤ a') (hb : b' ≤ b) : SortedIn lt a' b' d := fun i j hi hij hj => h i j (by omega) hij (by omega)
theorem srt_one (a : Nat) (d : Array α) : SortedIn lt a (a + 1) d := fun i j hi hij hj => by omega
theorem srt_none {a b : Nat} (h : b ≤ a) (d : Array α) : SortedIn lt a b d := fun i j hi hij hj => by omega
theorem srt_same {a b : Nat} {d d' : Array α} (h : SortedIn lt a b d) (he : ∀ k, a ≤ k → k < b → d'[k]! = d[k]!) : SortedIn lt a b d' := fun i j hi hij hj => by
  rw [he i hi (by omega), he j (by omega) hj]; exact h i j hi hij hj
/-- What the search for the cut of a merge finds: where it begins, where it ends, and what stands on both sides. -/
structure Cut (lt : α → α → Bool) (d : Array α) (a m b mid s : Nat) : Prop where
  lo : a ≤ s
  hi : s ≤ mid
  hm : s ≤ m
  e1 : m ≤ mid + m - s
  e2 : mid + m - s ≤ b
  left : ∀ x y, a ≤ x → x < s → mid + m - s ≤ y → y < b → lt d[y]! d[x]! = false
  right : ∀ x y, s ≤ x → x < m → m ≤ y → y < mid + m - s → lt d[x]! d[y]! = false
theorem cut_of {d : Array α} {a m b mid s s0 r0 : Nat} (hS : SWO lt) (ham : a < m) (hmb : m < b) (hmid : mid = (a + b) / 2) (h1 : SortedIn lt a m d) (h2 : SortedIn lt m b d)
    (h0 : (mid < m ∧ s0 = mid + m - b ∧ r0 = mid) ∨ (m ≤ mid ∧ s0 = a ∧ r0 = m)) (hs0 : s0 ≤ s) (hsr : s ≤ r0)
    (hL : s0 < s → lt d[mid + m - 1 - (s - 1)]! d[s - 1]! = false) (hR : s < r0 → lt d[mid + m - 1 - s]! d[s]! = true) : Cut lt d a m b mid s := by
  have q1 : a ≤ s := by omega
  have q2 : s ≤ mid := by omega
  have q3 : s ≤ m := by omega
  have q4 : m ≤ mid + m - s := by omega
  have q5 : mid + m - s ≤ b := by omega
  refine ⟨q1, q2, q3, q4, q5, fun x y hx hxs hy hyb => ?_, fun x y hx hxm hy hye => ?_⟩
  · have hs : s0 < s := by omega
    have := hL hs
    rw [show mid + m - 1 - (s - 1) = mid + m - s by omega] at this
    have a1 : lt d[s - 1]! d[x]! = false := srt_le hS h1 hx (by omega) (by omega)
    have a2 : lt d[y]! d[mid + m - s]! = false := srt_le hS h2 q4 hy hyb
    exact swo_le hS a1 (swo_le hS this a2)
  · have hs : s < r0 := by omega
    have := hR hs
    rw [show mid + m - 1 - s = mid + m - s - 1 by omega] at this
    have a1 : lt d[mid + m - s - 1]! d[y]! = false := srt_le hS h2 hy (by omega) (by omega)
    have a2 : lt d[x]! d[s]! = false := srt_le hS h1 q1 hx hxm
    exact swo_asymm hS (swo_lt hS a1 (swo_lt2 hS this a2))
/-- The turned parts: what is behind the turning. -/
theorem cut_rot {d d1 : Array α} {a m b mid s : Nat} (hS : SWO lt) (h1 : SortedIn lt a m d) (h2 : SortedIn lt m b d) (hmid : mid ≤ b) (hc : Cut lt d a m b mid s) (hr : Rot s m (mid + m - s) d d1) :
    SortedIn lt a s d1 ∧ SortedIn lt s mid d1 ∧ SortedIn lt mid (mid + m - s) d1 ∧ SortedIn lt (mid + m - s) b d1 ∧ (∀ x y, a ≤ x → x < mid → mid ≤ y → y < b → lt d1[y]! d1[x]! = false) := by
  obtain ⟨q1, q2, q3, q4, q5, qL, qR⟩ := hc
  obtain ⟨r1, r2, r3⟩ := hr
  have e0 : s + (mid + m - s - m) = mid := by omega
  rw [e0] at r2 r3
  refine ⟨fun i j hi hij hj => ?_, fun i j hi hij hj => ?_, fun i j hi hij hj => ?_, fun i j hi hij hj => ?_, fun x y hx hxm hy hyb => ?_⟩
  · rw [r1 i (by omega), r1 j (by omega)]; exact h1 i j hi hij (by omega)
  · rw [r2 i hi (by omega), r2 j (by omega) hj]; exact h2 _ _ (by omega) (by omega) (by omega)
  · rw [r3 i hi (by omega), r3 j (by omega) hj]; exact h1 _ _ (by omega) (by omega) (by omega)
  · rw [r1 i (by omega), r1 j (by omega)]; exact h2 i j (by omega) hij (by omega)
  · by_cases hxs : x < s
    · rw [r1 x (by omega)]
      by_cases hye : y < mid + m - s
      · rw [r3 y hy hye]; exact srt_le hS h1 hx (by omega) (by omega)
      · rw [r1 y (by omega)]; exact qL x y hx hxs (by omega) hyb
    · rw [r2 x (by omega) hxm]
      by_cases hye : y < mid + m - s
      · rw [r3 y hy hye]; exact qR _ _ (by omega) (by omega) (by omega) (by omega)
      · rw [r1 y (by omega)]; exact srt_le hS h2 (by omega) (by omega) hyb
theorem prm_out {a b : Nat} {d d' : Array α} (h : PermIn a b d d') {k : Nat} (hk : k < a ∨ b ≤ k) : d'[k]! = d[k]! := h.2.1 k hk
/-- Behind both halves' merges. -/
theorem cut_end {d1 d2 d3 : Array α} {a b mid : Nat} (ham : a ≤ mid) (hmb : mid ≤ b) (hb : b ≤ d1.size) (hx : ∀ x y, a ≤ x → x < mid → mid ≤ y → y < b → lt d1[y]! d1[x]! = false)
    (p2 : PermIn a mid d1 d2) (s2 : SortedIn lt a mid d2) (p3 : PermIn mid b d2 d3) (s3 : SortedIn lt mid b d3) : PermIn a b d1 d3 ∧ SortedIn lt a b d3 := by
  have z2 : d2.size = d1.size := p2.1
  refine ⟨permIn_trans _ _ _ _ _ (permIn_mono _ _ _ _ _ _ (Nat.le_refl _) hmb hb p2) (permIn_mono _ _ _ _ _ _ ham (Nat.le_refl _) (by omega) p3), fun i j hi hij hj => ?_⟩
  by_cases hjm : j < mid
  · rw [prm_out p3 (k := i) (by omega), prm_out p3 (k := j) (by omega)]; exact s2 i j hi hij hjm
  · by_cases him : mid ≤ i
    · exact s3 i j him hij hj
    · rw [prm_out p3 (k := i) (by omega)]
      have step1 : ∀ y, mid ≤ y → y < b → ∀ x, a ≤ x → x < mid → lt d2[y]! d2[x]! = false := fun y hy hyb => by
        rw [prm_out p2 (k := y) (by omega)]
        exact permIn_all d1 d2 a mid (fun v => lt d1[y]! v = false) (by omega) p2 (fun x h1 h2 => hx x y h1 h2 hy hyb)
      exact permIn_all d2 d3 mid b (fun v => lt v d2[i]! = false) (by omega) p3 (fun y h1 h2 => step1 y h1 h2 i hi (by omega)) j (by omega) hj
/-- One element put into a run behind it: the places that it passes. -/
theorem up_end {d d' : Array α} {a i b : Nat} (hS : SWO lt) (hai : a < i) (hib : i ≤ b) (h2 : SortedIn lt (a + 1) b d) (hL : a + 1 < i → lt d[i - 1]! d[a]! = true) (hR : i < b → lt d[i]! d[a]! = false)
    (e1 : ∀ k, a ≤ k → k < i - 1 → d'[k]! = d[k + 1]!) (e2 : d'[i - 1]! = d[a]!) (e3 : ∀ k, i ≤ k → d'[k]! = d[k]!) : SortedIn lt a b d' := by
  intro x y hx hxy hy
  by_cases h : y < i - 1
  · rw [e1 x hx (by omega), e1 y (by omega) h]; exact h2 _ _ (by omega) (by omega) (by omega)
  · by_cases h' : y = i - 1
    · subst h'
      rw [e2, e1 x hx (by omega)]
      have l1 := hL (by omega)
      have l2 : lt d[i - 1]! d[x + 1]! = false := srt_le hS h2 (by omega) (by omega) (by omega)
      exact swo_asymm hS (swo_lt hS l2 l1)
    · rw [e3 y (by omega)]
      by_cases hxi : x < i - 1
      · rw [e1 x hx hxi]; exact srt_le hS h2 (by omega) (by omega) hy
      · by_cases hxe : x = i - 1
        · subst hxe
          rw [e2]
          have l1 := hR (by omega)
          have l2 : lt d[y]! d[i]! = false := srt_le hS h2 (by omega) (by omega) hy
          exact swo_le hS l1 l2
        · rw [e3 x (by omega)]; exact h2 _ _ (by omega) hxy hy
/-- One element put into a run ahead of it. -/
theorem down_end {d d' : Array α} {a i m : Nat} (hS : SWO lt) (hai : a ≤ i) (him : i ≤ m) (h1 : SortedIn lt a m d) (hL : a < i → lt d[m]! d[i - 1]! = false) (hR : i < m → lt d[m]! d[i]! = true)
    (e1 : ∀ k, i < k → k ≤ m → d'[k]! = d[k - 1]!) (e2 : d'[i]! = d[m]!) (e3 : ∀ k, k < i → d'[k]! = d[k]!) : SortedIn lt a (m + 1) d' := by
  intro x y hx hxy hy
  by_cases h : i < x
  · rw [e1 x h (by omega), e1 y (by omega) (by omega)]; exact h1 _ _ (by omega) (by omega) (by omega)
  · by_cases h' : x = i
    · subst h'
      rw [e2, e1 y hxy (by omega)]
      have l1 := hR (by omega)
      have l2 : lt d[y - 1]! d[x]! = false := srt_le hS h1 hx (by omega) (by omega)
      exact swo_asymm hS (swo_lt2 hS l1 l2)
    · rw [e3 x (by omega)]
      by_cases hyi : y < i
      · rw [e3 y hyi]; exact h1 _ _ hx hxy (by omega)
      · by_cases hye : y = i
        · subst hye
          rw [e2]
          have l1 := hL (by omega)
          have l2 : lt d[y - 1]! d[x]! = false := srt_le hS h1 hx (by omega) (by omega)
          exact swo_le hS l2 l1
        · rw [e1 y (by omega) (by omega)]; exact srt_le hS h1 hx (by omega) (by omega)
/-- Runs of a length, from multiples of it on, that are in order. -/
def Runs (lt : α → α → Bool) (bs lo hi n : Nat) (d : Array α) : Prop := ∀ q, lo ≤ q * bs → q * bs < hi → SortedIn lt (q * bs) (min (q * bs + bs) n) d
theorem Runs.keep {bs lo hi n a b : Nat} {d d' : Array α} (h : Runs lt bs lo hi n d) (hp : PermIn a b d d') (hab : ∀ q, lo ≤ q * bs → q * bs < hi → min (q * bs + bs) n ≤ a ∨ b ≤ q * bs) : Runs lt bs lo hi n d' := fun q h1 h2 =>
  srt_same (h q h1 h2) fun k k1 k2 => prm_out hp (by have := hab q h1 h2; omega)
end
end Go.Proofs.Ytkpemlgolpihiaa
namespace Go.Proofs.Ytkpemlgolpihiaa
set_option linter.unusedVariables false
set_option linter.unusedSimpArgs false

/-- A table: number, level, least and greatest key. -/
abbrev Tb := Int × Int × ByteArray × ByteArray
/-- An edit: tables that come, numbers that go, the first log that counts, the next number. -/
abbrev Ed := List Tb × List Int × Int × Int
def numB (n least : Int) : Bool := decide (least ≤ n) && decide (n ≤ 1073741824)
def mayT (t : Tb) : Bool := numB t.1 1 && (decide (0 ≤ t.2.1) && decide (t.2.1 ≤ 2)) && keyB t.2.2.1 && keyB t.2.2.2 && !ltB t.2.2.2 t.2.2.1
def mayEd (e : Ed) : Bool := decide (e.1.length ≤ 128) && decide (e.2.1.length ≤ 128) && e.1.all mayT && e.2.1.all (fun x => numB x 1) && numB e.2.2.1 0 && numB e.2.2.2 0
theorem numB_iff {n least : Int} : numB n least = true ↔ least ≤ n ∧ n ≤ 1073741824 := by unfold numB; simp
theorem mayT_iff {t : Tb} : mayT t = true ↔ (1 ≤ t.1 ∧ t.1 ≤ 1073741824) ∧ (0 ≤ t.2.1 ∧ t.2.1 ≤ 2) ∧ keyB t.2.2.1 = true ∧ keyB t.2.2.2 = true ∧ ltB t.2.2.2 t.2.2.1 = false := by
  unfold mayT; simp [numB_iff, and_assoc]
theorem mayEd_iff {e : Ed} : mayEd e = true ↔ e.1.length ≤ 128 ∧ e.2.1.length ≤ 128 ∧ (∀ t ∈ e.1, mayT t = true) ∧ (∀ x ∈ e.2.1, 1 ≤ x ∧ x ≤ 1073741824) ∧ (0 ≤ e.2.2.1 ∧ e.2.2.1 ≤ 1073741824) ∧ (0 ≤ e.2.2.2 ∧ e.2.2.2 ≤ 1073741824) := by
  unfold mayEd; simp [numB_iff, and_assoc]
/-- Does a table stand ahead of another one? -/
def lessT (a b : Tb) : Bool := if a.2.1 = b.2.1 then (if a.2.1 = 0 then decide (b.1 < a.1) else ltB a.2.2.1 b.2.2.1) else decide (a.2.1 < b.2.1)
theorem lessT_lv {a b : Tb} (h : ¬ a.2.1 = b.2.1) : lessT a b = decide (a.2.1 < b.2.1) := by unfold lessT; rw [if_neg h]
theorem lessT_zero {a b : Tb} (h : a.2.1 = b.2.1) (h0 : a.2.1 = 0) : lessT a b = decide (b.1 < a.1) := by unfold lessT; rw [if_pos h, if_pos h0]
theorem lessT_lo {a b : Tb} (h : a.2.1 = b.2.1) (h0 : ¬ a.2.1 = 0) : lessT a b = ltB a.2.2.1 b.2.2.1 := by unfold lessT; rw [if_pos h, if_neg h0]
theorem lessT_irr (a : Tb) : lessT a a = false := by
  by_cases h : a.2.1 = 0
  · rw [lessT_zero rfl h]; simp
  · rw [lessT_lo rfl h]; exact ltB_irr _
theorem lessT_trans {a b c : Tb} (h1 : lessT a b = true) (h2 : lessT b c = true) : lessT a c = true := by
  by_cases e1 : a.2.1 = b.2.1
  · by_cases e2 : b.2.1 = c.2.1
    · by_cases h0 : a.2.1 = 0
      · rw [lessT_zero e1 h0] at h1
        rw [lessT_zero e2 (by omega)] at h2
        rw [lessT_zero (e1.trans e2) h0]
        simp at *; omega
      · rw [lessT_lo e1 h0] at h1
        rw [lessT_lo e2 (by omega)] at h2
        rw [lessT_lo (e1.trans e2) h0]
        exact ltB_trans h1 h2
    · rw [lessT_lv e2] at h2
      rw [lessT_lv (by omega)]
      simp at *; omega
  · rw [lessT_lv e1] at h1
    by_cases e2 : b.2.1 = c.2.1
    · rw [lessT_lv (by omega)]; simp at *; omega
    · rw [lessT_lv e2] at h2
      simp at h1 h2
      rw [lessT_lv (by omega)]; simp; omega
theorem lessT_ntrans {a b c : Tb} (h1 : lessT a b = false) (h2 : lessT b c = false) : lessT a c = false := by
  by_cases e1 : a.2.1 = b.2.1
  · by_cases e2 : b.2.1 = c.2.1
    · by_cases h0 : a.2.1 = 0
      · rw [lessT_zero e1 h0] at h1
        rw [lessT_zero e2 (by omega)] at h2
        rw [lessT_zero (e1.trans e2) h0]
        simp at *; omega
      · rw [lessT_lo e1 h0] at h1
        rw [lessT_lo e2 (by omega)] at h2
        rw [lessT_lo (e1.trans e2) h0]
        exact le_le h2 h1
    · rw [lessT_lv e2] at h2
      rw [lessT_lv (by omega)]
      simp at *; omega
  · rw [lessT_lv e1] at h1
    by_cases e2 : b.2.1 = c.2.1
    · rw [lessT_lv (by omega)]; simp at *; omega
    · rw [lessT_lv e2] at h2
      simp at h1 h2
      rw [lessT_lv (by omega)]; simp; omega
theorem lessT_asymm {a b : Tb} (h : lessT a b = true) : lessT b a = false := by
  cases e : lessT b a with
  | false => rfl
  | true => have := lessT_trans h e; rw [lessT_irr] at this; cases this
/-- Have two tables of one level above 0 a key in common? -/
def touchT (a b : Tb) : Bool := decide (0 < a.2.1) && decide (a.2.1 = b.2.1) && !ltB a.2.2.2 b.2.2.1 && !ltB b.2.2.2 a.2.2.1
theorem touchT_iff {a b : Tb} : touchT a b = true ↔ 0 < a.2.1 ∧ a.2.1 = b.2.1 ∧ ltB a.2.2.2 b.2.2.1 = false ∧ ltB b.2.2.2 a.2.2.1 = false := by unfold touchT; simp [and_assoc]
theorem touchT_symm {a b : Tb} (h : touchT a b = false) : touchT b a = false := by
  cases e : touchT b a with
  | false => rfl
  | true =>
    obtain ⟨h1, h2, h3, h4⟩ := touchT_iff.1 e
    rw [touchT_iff.2 ⟨by omega, h2.symm, h4, h3⟩] at h
    cases h
/-- No two have a key in common. -/
def Apt (l : List Tb) : Prop := l.Pairwise fun a b => touchT a b = false
instance (l : List Tb) : Decidable (Apt l) := by unfold Apt; infer_instance
/-- In order, with equals maybe. -/
def Wk (l : List Tb) : Prop := l.Pairwise fun a b => lessT b a = false
/-- In strict order. -/
def Sr (l : List Tb) : Prop := l.Pairwise fun a b => lessT a b = true
theorem Apt.perm {l l' : List Tb} (hp : l.Perm l') : Apt l ↔ Apt l' := hp.pairwise_iff touchT_symm
/-- Does each one stand apart from the one ahead of it? -/
def nearT : List Tb → Bool
  | a :: b :: r => !(decide (0 < b.2.1) && decide (b.2.1 = a.2.1) && !ltB a.2.2.2 b.2.2.1) && nearT (b :: r)
  | _ => true
theorem nearT_cons {a b : Tb} {r : List Tb} : nearT (a :: b :: r) = true ↔ (0 < b.2.1 → b.2.1 = a.2.1 → ltB a.2.2.2 b.2.2.1 = true) ∧ nearT (b :: r) = true := by
  rw [nearT, Bool.and_eq_true]
  refine and_congr ⟨fun h h1 h2 => ?_, fun h => ?_⟩ Iff.rfl
  · have h0 : (0 : Int) < a.2.1 := by omega
    simp [h1, h2, h0] at h
    exact h
  · by_cases h1 : 0 < b.2.1
    · by_cases h2 : b.2.1 = a.2.1
      · simp [h h1 h2]
      · simp [h2]
    · simp [h1]
theorem hi_lo {t : Tb} (h : mayT t = true) : ltB t.2.2.2 t.2.2.1 = false := (mayT_iff.1 h).2.2.2.2
/-- Standing apart, far and near. -/
def Far (l : List Tb) : Prop := l.Pairwise fun a b => 0 < b.2.1 → b.2.1 = a.2.1 → ltB a.2.2.2 b.2.2.1 = true
theorem wk_lv {a b : Tb} (h : lessT b a = false) : a.2.1 ≤ b.2.1 := by
  by_cases e : b.2.1 = a.2.1
  · omega
  · rw [lessT_lv e] at h; simp at h; omega
theorem near_far : ∀ {l : List Tb}, Wk l → (∀ t ∈ l, mayT t = true) → nearT l = true → Far l
  | [], _, _, _ => List.Pairwise.nil
  | [a], _, _, _ => List.pairwise_singleton _ _
  | a :: b :: r, hw, hm, hn => by
    obtain ⟨h1, h2⟩ := nearT_cons.1 hn
    obtain ⟨w1, w2⟩ := List.pairwise_cons.1 hw
    have ih := near_far w2 (fun t ht => hm t (by simp at ht ⊢; exact .inr ht)) h2
    refine List.pairwise_cons.2 ⟨fun c hc p1 p2 => ?_, ih⟩
    rcases List.mem_cons.1 hc with rfl | hc
    · exact h1 p1 p2
    · obtain ⟨v1, v2⟩ := List.pairwise_cons.1 w2
      have l1 := wk_lv (w1 b (by simp))
      have l2 := wk_lv (v1 c hc)
      have q1 := h1 (by omega) (by omega)
      have q2 := (List.pairwise_cons.1 ih).1 c hc p1 (by omega)
      have q3 := hi_lo (hm b (by simp))
      exact ltB_trans (ltB_le q1 q3) q2
theorem far_near : ∀ {l : List Tb}, Far l → nearT l = true
  | [], _ => rfl
  | [a], _ => rfl
  | a :: b :: r, h => nearT_cons.2 ⟨fun p1 p2 => (List.pairwise_cons.1 h).1 b (by simp) p1 p2, far_near (List.pairwise_cons.1 h).2⟩
theorem far_apt {l : List Tb} (h : Far l) : Apt l := h.imp fun {a b} k => by
  cases e : touchT a b with
  | false => rfl
  | true =>
    obtain ⟨h1, h2, h3, h4⟩ := touchT_iff.1 e
    rw [k (by omega) h2.symm] at h3
    cases h3
theorem apt_far {l : List Tb} (hw : Wk l) (hm : ∀ t ∈ l, mayT t = true) (h : Apt l) : Far l := by
  refine (List.Pairwise.and hw h).imp_of_mem fun {a b} ha hb k p1 p2 => ?_
  obtain ⟨k1, k2⟩ := k
  cases e : ltB a.2.2.2 b.2.2.1 with
  | true => rfl
  | false =>
    exfalso
    cases e2 : ltB b.2.2.2 a.2.2.1 with
    | true =>
      have q1 : ltB b.2.2.1 a.2.2.1 = true := le_ltB (hi_lo (hm b hb)) e2
      rw [lessT_lo p2 (by omega), q1] at k1
      cases k1
    | false => rw [touchT_iff.2 ⟨by omega, p2.symm, e, e2⟩] at k2; cases k2
/-- What is in order, apart, each with a number of its own, is in strict order. -/
theorem wk_sr {l : List Tb} (hw : Wk l) (hm : ∀ t ∈ l, mayT t = true) (ha : Apt l) (hn : (l.map (·.1)).Nodup) : Sr l := by
  have hn' : l.Pairwise fun a b => a.1 ≠ b.1 := List.pairwise_map.1 hn
  refine ((List.Pairwise.and hw ha).and hn').imp_of_mem fun {a b} hma hmb k => ?_
  obtain ⟨⟨k1, k2⟩, k3⟩ := k
  cases e : lessT a b with
  | true => rfl
  | false =>
    exfalso
    have lv : a.2.1 = b.2.1 := by have := wk_lv k1; have := wk_lv e; omega
    by_cases h0 : a.2.1 = 0
    · rw [lessT_zero lv h0] at e
      rw [lessT_zero lv.symm (by omega)] at k1
      simp at e k1; omega
    · rw [lessT_lo lv h0] at e
      rw [lessT_lo lv.symm (by omega)] at k1
      have hlo := ltB_total e k1
      have m1 := (mayT_iff.1 (hm a hma)).2.1
      have q1 := hi_lo (hm a hma)
      have q2 := hi_lo (hm b hmb)
      rw [touchT_iff.2 ⟨by omega, lv, by rw [← hlo]; exact q1, by rw [hlo]; exact q2⟩] at k2
      cases k2
theorem sr_wk {l : List Tb} (h : Sr l) : Wk l := h.imp fun k => lessT_asymm k
theorem sr_eq {l l' : List Tb} (h : Sr l) (h' : Sr l') (hp : l.Perm l') : l = l' :=
  List.Perm.eq_of_pairwise (le := fun a b => lessT a b = true) (fun a b _ _ k1 k2 => by rw [lessT_asymm k1] at k2; cases k2) h h' hp
/-- Two ways to put the same tables in order. -/
theorem wk_eq {l l' : List Tb} (hw : Wk l) (hw' : Wk l') (hp : l.Perm l') (hm : ∀ t ∈ l, mayT t = true) (hn : (l.map (·.1)).Nodup) (ha : Apt l) : l = l' := by
  have hm' : ∀ t ∈ l', mayT t = true := fun t ht => hm t (hp.mem_iff.2 ht)
  have hn' : (l'.map (·.1)).Nodup := (hp.map _).nodup_iff.1 hn
  exact sr_eq (wk_sr hw hm ha hn) (wk_sr hw' hm' ((Apt.perm hp).1 ha) hn') hp
/-- Tables with one more, in order. -/
def putT (l : List Tb) (t : Tb) : List Tb := l.takeWhile (fun x => lessT x t) ++ t :: l.dropWhile (fun x => lessT x t)
theorem putT_perm (l : List Tb) (t : Tb) : (putT l t).Perm (t :: l) := by
  unfold putT
  refine List.perm_middle.trans (List.Perm.cons _ ?_)
  rw [List.takeWhile_append_dropWhile]
theorem drop_wk : ∀ {l : List Tb} {t : Tb}, Wk l → ∀ x ∈ l.dropWhile (fun x => lessT x t), lessT x t = false
  | [], _, _, x, hx => by simp at hx
  | a :: l, t, h, x, hx => by
    obtain ⟨h1, h2⟩ := List.pairwise_cons.1 h
    cases e : lessT a t with
    | true => rw [List.dropWhile_cons, e] at hx; exact drop_wk h2 x (by simpa using hx)
    | false =>
      rw [List.dropWhile_cons, e] at hx
      simp at hx
      rcases hx with rfl | hx
      · exact e
      · exact lessT_ntrans (h1 x hx) e
theorem take_all : ∀ {l : List Tb} {t x : Tb}, x ∈ l.takeWhile (fun x => lessT x t) → lessT x t = true
  | [], _, _, h => by simp at h
  | a :: l, t, x, h => by
    rw [List.takeWhile_cons] at h
    cases e : lessT a t with
    | true =>
      rw [e] at h
      simp at h
      rcases h with rfl | h
      · exact e
      · exact take_all h
    | false => rw [e] at h; simp at h
theorem putT_wk {l : List Tb} {t : Tb} (h : Wk l) : Wk (putT l t) := by
  unfold putT
  have hs := h
  rw [← List.takeWhile_append_dropWhile (p := fun x => lessT x t) (l := l)] at hs
  obtain ⟨s1, s2, s3⟩ := List.pairwise_append.1 hs
  refine List.pairwise_append.2 ⟨s1, List.pairwise_cons.2 ⟨fun x hx => drop_wk h x hx, s2⟩, fun a ha b hb => ?_⟩
  rcases List.mem_cons.1 hb with rfl | hb
  · exact lessT_asymm (take_all ha)
  · exact s3 a ha b hb
theorem putsT_perm : ∀ (ts l : List Tb), (ts.foldl putT l).Perm (l ++ ts)
  | [], l => by simp
  | t :: ts, l => by
    rw [List.foldl_cons]
    refine (putsT_perm ts _).trans ?_
    refine ((putT_perm l t).append_right ts).trans ?_
    exact (List.perm_middle (a := t) (l₁ := l) (l₂ := ts)).symm
theorem putsT_wk : ∀ (ts l : List Tb), Wk l → Wk (ts.foldl putT l)
  | [], l, h => h
  | t :: ts, l, h => putsT_wk ts _ (putT_wk h)
/-- Tables less those whose numbers go. -/
def keptT (s : List Tb) (drop : List Int) : List Tb := s.filter fun t => !drop.contains t.1
/-- Does an edit fit tables? -/
def fitT (s : List Tb) (e : Ed) : Bool :=
  (e.2.1.all fun x => s.any fun t => t.1 == x) && decide e.2.1.Nodup && (e.1.all fun t => (s.all fun u => !(u.1 == t.1)) && decide (t.1 < e.2.2.2)) && decide (e.1.map (·.1)).Nodup
theorem fitT_iff {s : List Tb} {e : Ed} : fitT s e = true ↔ (∀ x ∈ e.2.1, ∃ t ∈ s, t.1 = x) ∧ e.2.1.Nodup ∧ (∀ t ∈ e.1, (∀ u ∈ s, ¬ u.1 = t.1) ∧ t.1 < e.2.2.2) ∧ (e.1.map (·.1)).Nodup := by
  unfold fitT
  simp [and_assoc]
def nextT (s : List Tb) (e : Ed) : List Tb := e.1.foldl putT (keptT s e.2.1)
/-- What an edit makes of tables; none: it does not fit. -/
def appT (s : List Tb) (log next : Int) (e : Ed) : Option (List Tb) :=
  if decide (log ≤ e.2.2.1) && decide (next ≤ e.2.2.2) && fitT s e && decide (Apt (nextT s e)) then some (nextT s e) else none
/-- What is kept of a state. -/
structure OkT (s : List Tb) (next : Int) : Prop where
  sr : Sr s
  may : ∀ t ∈ s, mayT t = true
  ids : (s.map (·.1)).Nodup
  apt : Apt s
  lt : ∀ t ∈ s, t.1 < next
theorem OkT.nil (n : Int) : OkT [] n := ⟨List.Pairwise.nil, fun t h => by simp at h, by simp, List.Pairwise.nil, fun t h => by simp at h⟩
theorem kept_sub (s : List Tb) (d : List Int) : (keptT s d).Sublist s := List.filter_sublist
theorem all_ids {s : List Tb} {next : Int} (h : OkT s next) {e : Ed} (hf : fitT s e = true) : ((keptT s e.2.1 ++ e.1).map (·.1)).Nodup := by
  obtain ⟨f1, f2, f3, f4⟩ := fitT_iff.1 hf
  rw [List.map_append]
  refine List.nodup_append.2 ⟨((kept_sub s e.2.1).map _).nodup h.ids, f4, fun a ha b hb => ?_⟩
  obtain ⟨t, ht, rfl⟩ := List.mem_map.1 ha
  obtain ⟨u, hu, rfl⟩ := List.mem_map.1 hb
  exact (f3 u hu).1 t ((kept_sub s e.2.1).subset ht)
theorem all_may {s : List Tb} {next : Int} (h : OkT s next) {e : Ed} (he : mayEd e = true) : ∀ t ∈ keptT s e.2.1 ++ e.1, mayT t = true := fun t ht => by
  rcases List.mem_append.1 ht with ht | ht
  · exact h.may t ((kept_sub s e.2.1).subset ht)
  · exact (mayEd_iff.1 he).2.2.1 t ht
theorem next_perm (s : List Tb) (e : Ed) : (nextT s e).Perm (keptT s e.2.1 ++ e.1) := putsT_perm _ _
theorem next_wk {s : List Tb} {next : Int} (h : OkT s next) (e : Ed) : Wk (nextT s e) := putsT_wk _ _ ((sr_wk h.sr).sublist (kept_sub s e.2.1))
/-- The code's way: all tables, put in order at once, held against their neighbours. -/
theorem near_next {s : List Tb} {next : Int} (h : OkT s next) {e : Ed} (he : mayEd e = true) (hf : fitT s e = true) {L : List Tb} (hp : L.Perm (keptT s e.2.1 ++ e.1)) (hw : Wk L) :
    (nearT L = true ↔ Apt (nextT s e)) ∧ (nearT L = true → L = nextT s e) := by
  have hm : ∀ t ∈ L, mayT t = true := fun t ht => all_may h he t (hp.mem_iff.1 ht)
  have hpn : L.Perm (nextT s e) := hp.trans (next_perm s e).symm
  have hn : (L.map (·.1)).Nodup := (hp.map _).nodup_iff.2 (all_ids h hf)
  have key : nearT L = true ↔ Apt L := ⟨fun k => far_apt (near_far hw hm k), fun k => far_near (apt_far hw hm k)⟩
  exact ⟨key.trans (Apt.perm hpn), fun k => wk_eq hw (next_wk h e) hpn hm hn (key.1 k)⟩
theorem next_ok {s : List Tb} {log next : Int} (h : OkT s next) {e : Ed} (he : mayEd e = true) {L : List Tb} (ha : appT s log next e = some L) :
    OkT L e.2.2.2 ∧ log ≤ e.2.2.1 ∧ next ≤ e.2.2.2 ∧ L = nextT s e ∧ fitT s e = true ∧ L.length ≤ s.length + 128 := by
  unfold appT at ha
  split at ha
  · rename_i hc
    simp only [Bool.and_eq_true, decide_eq_true_eq] at hc
    obtain ⟨⟨⟨c1, c2⟩, c3⟩, c4⟩ := hc
    cases ha
    have hm : ∀ t ∈ nextT s e, mayT t = true := fun t ht => all_may h he t ((next_perm s e).mem_iff.1 ht)
    have hn : ((nextT s e).map (·.1)).Nodup := ((next_perm s e).map _).nodup_iff.2 (all_ids h c3)
    refine ⟨⟨wk_sr (next_wk h e) hm c4 hn, hm, hn, c4, fun t ht => ?_⟩, c1, c2, rfl, c3, ?_⟩
    · rcases List.mem_append.1 ((next_perm s e).mem_iff.1 ht) with ht | ht
      · have := h.lt t ((kept_sub s e.2.1).subset ht); omega
      · exact ((fitT_iff.1 c3).2.2.1 t ht).2
    · rw [(next_perm s e).length_eq, List.length_append]
      have := (kept_sub s e.2.1).length_le
      have := (mayEd_iff.1 he).1
      omega
  · cases ha
end Go.Proofs.Ytkpemlgolpihiaa
namespace Go.Proofs.Ytkpemlgolpihiaa
open Go.RowKit Go.Shelf
open Go.Sort hiding Below
set_option linter.unusedVariables false
set_option linter.unusedSimpArgs false

def okTb (t : Tb) : Prop := okS t.2.2.1 ∧ okS t.2.2.2
def tv (t : Tb) : List Value := [.int .i64 t.1, .int .i64 t.2.1, .string t.2.2.1, .string t.2.2.2]
def tvA (t : Tb) : Value := .agg #[.int .i64 t.1, .int .i64 t.2.1, .string t.2.2.1, .string t.2.2.2]
def cmpN (lt gt : Bool) : Int := if lt = true then -1 else if gt = true then 1 else 0
set_option maxHeartbeats 1000000 in
theorem cmpi_any (x y : Int) (w : World) : Calls Try.prog 67 #[.int .i64 x, .int .i64 y] w fun e w' => e = .returned (.int .i64 (cmpN (decide (x < y)) (decide (y < x)))) ∧ w' = w := by
  rcases Int.lt_trichotomy x y with h | h | h
  · have hr : cmpN (decide (x < y)) (decide (y < x)) = -1 := by unfold cmpN; simp [h]
    rw [hr]
    clear hr
    go_enter Try.func67, Try.ntmps67
    go_wp2
    go_ret
    exact ⟨rfl, rfl⟩
  · subst h
    have hr : cmpN (decide (x < x)) (decide (x < x)) = 0 := by unfold cmpN; simp
    rw [hr]
    clear hr
    go_enter Try.func67, Try.ntmps67
    go_wp2
    go_ret
    exact ⟨rfl, rfl⟩
  · have h' : ¬ x < y := by omega
    have hr : cmpN (decide (x < y)) (decide (y < x)) = 1 := by unfold cmpN; simp [h, h']
    rw [hr]
    clear hr
    go_enter Try.func67, Try.ntmps67
    go_wp2
    go_ret
    exact ⟨rfl, rfl⟩
set_option maxHeartbeats 1000000 in
theorem cmps_any (x y : ByteArray) (w : World) : Calls Try.prog 68 #[.string x, .string y] w fun e w' => e = .returned (.int .i64 (cmpN (ltB x y) (ltB y x))) ∧ w' = w := by
  have hx : (x.toList == x.toList) = true := by simp
  have hy : (y.toList == y.toList) = true := by simp
  cases h1 : ltB x y with
  | true =>
    have h1' : Op.bytesLess x.toList y.toList = true := h1
    have hr : cmpN true (ltB y x) = -1 := rfl
    rw [hr]
    clear hr h1
    go_enter Try.func68, Try.ntmps68
    go_wp2
    go_ret
    exact ⟨rfl, rfl⟩
  | false =>
    have h1' : Op.bytesLess x.toList y.toList = false := h1
    clear h1
    cases h2 : ltB y x with
    | true =>
      have h2' : Op.bytesLess y.toList x.toList = true := h2
      have hne : (x.toList == y.toList) = false := by
        rw [beq_eq_false_iff_ne]
        intro he
        rw [he, less_irr] at h2'
        cases h2'
      have hr : cmpN false true = 1 := rfl
      rw [hr]
      clear hr h2
      go_enter Try.func68, Try.ntmps68
      go_wp2
      go_ret
      exact ⟨rfl, rfl⟩
    | false =>
      have h2' : Op.bytesLess y.toList x.toList = false := h2
      have hne : (x.toList == y.toList) = true := by
        rw [beq_iff_eq]
        exact less_total _ _ h1' h2'
      have hr : cmpN false false = 0 := rfl
      rw [hr]
      clear hr h2
      go_enter Try.func68, Try.ntmps68
      go_wp2
      go_ret
      exact ⟨rfl, rfl⟩
def ordT (a b : Tb) : Int := cmpN (lessT a b) (lessT b a)
theorem ltOf_ordT (x y : Tb) : ltOf ordT x y = lessT x y := by
  unfold ltOf ordT cmpN
  cases h1 : lessT x y with
  | true => simp
  | false => cases h2 : lessT y x <;> simp
theorem swo_ordT : SWO (ltOf ordT) where
  irrefl x := by rw [ltOf_ordT]; exact lessT_irr x
  trans x y z h1 h2 := by rw [ltOf_ordT] at *; exact lessT_trans h1 h2
  ntrans x y z h1 h2 := by rw [ltOf_ordT] at *; exact lessT_ntrans h1 h2
/-- New blocks, and draws. -/
def Gr (w w' : World) : Prop := ∃ q os', w' = grow (w.drewN q) os'
theorem Gr.alloc2 (w : World) (a b : Obj) : Gr w ((w.alloc a).alloc b) := ⟨0, _, by rw [alloc_eq_grow, alloc_eq_grow, grow_grow]; rfl⟩
theorem Gr.trans {a b c : World} (h : Gr a b) (k : Gr b c) : Gr a c := by
  obtain ⟨q, os, rfl⟩ := h
  obtain ⟨q', os', rfl⟩ := k
  refine ⟨q + q', os ++ os', ?_⟩
  rw [← grow_grow]
  have : (grow (a.drewN q) os).drewN q' = grow (a.drewN (q + q')) os := by
    unfold grow World.drewN
    simp [Nat.add_assoc]
  rw [this]
set_option maxHeartbeats 2000000 in
theorem ordt_gr (a b : Tb) (w : World) :
    Calls Try.prog 44 #[tvA a, tvA b] w fun e w' => e = .returned (.int .i64 (ordT a b)) ∧ Gr w w' := by
  obtain ⟨i1, v1, l1, h1⟩ := a
  obtain ⟨i2, v2, l2, h2⟩ := b
  have CI := Lib.hid cmpi_any
  have CS := Lib.hid cmps_any
  have HG := Lib.hid (Gr.alloc2 w (.cells #[.int .i64 i1, .int .i64 v1, .string l1, .string h1] 49) (.cells #[.int .i64 i2, .int .i64 v2, .string l2, .string h2] 49))
  by_cases e : v1 = v2
  · subst e
    by_cases h0 : v1 = 0
    · subst h0
      have hr : ordT (i1, 0, l1, h1) (i2, 0, l2, h2) = cmpN (decide (i2 < i1)) (decide (i1 < i2)) := by unfold ordT; rw [lessT_zero (a := (i1, 0, l1, h1)) (b := (i2, 0, l2, h2)) rfl rfl, lessT_zero (a := (i2, 0, l2, h2)) (b := (i1, 0, l1, h1)) rfl rfl]
      rw [hr]
      clear hr
      unfold tvA
      go_enter Try.func44, Try.ntmps44
      go_wp2_with fail
      refine (CI.out _ _ _).mono ?_
      rintro e w1 ⟨rfl, rfl⟩
      go_wp2
      go_ret
      exact ⟨rfl, HG.out⟩
    · have hr : ordT (i1, v1, l1, h1) (i2, v1, l2, h2) = cmpN (ltB l1 l2) (ltB l2 l1) := by unfold ordT; rw [lessT_lo (a := (i1, v1, l1, h1)) (b := (i2, v1, l2, h2)) rfl h0, lessT_lo (a := (i2, v1, l2, h2)) (b := (i1, v1, l1, h1)) rfl h0]
      have h0' : (v1 == 0) = false := by simpa using h0
      rw [hr]
      clear hr
      unfold tvA
      go_enter Try.func44, Try.ntmps44
      go_wp2_with fail
      refine (CS.out _ _ _).mono ?_
      rintro e w1 ⟨rfl, rfl⟩
      go_wp2
      go_ret
      exact ⟨rfl, HG.out⟩
  · have hr : ordT (i1, v1, l1, h1) (i2, v2, l2, h2) = cmpN (decide (v1 < v2)) (decide (v2 < v1)) := by unfold ordT; rw [lessT_lv (a := (i1, v1, l1, h1)) (b := (i2, v2, l2, h2)) e, lessT_lv (a := (i2, v2, l2, h2)) (b := (i1, v1, l1, h1)) (fun k => e k.symm)]
    have e' : (v1 == v2) = false := by simpa using e
    rw [hr]
    clear hr
    unfold tvA
    go_enter Try.func44, Try.ntmps44
    go_wp2_with fail
    refine (CI.out _ _ _).mono ?_
    rintro e w1 ⟨rfl, rfl⟩
    go_wp2
    go_ret
    exact ⟨rfl, HG.out⟩
end Go.Proofs.Ytkpemlgolpihiaa
namespace Go.Proofs.Ytkpemlgolpihiaa
open Go.RowKit Go.Shelf Go.Lib
open Go.Sort hiding Below
set_option linter.unusedVariables false
set_option linter.unusedSimpArgs false

/-- What the walks ask of a program. -/
structure SLt (P : Program) : Prop where
  mixed : P.follows .mixedOrders = true
  fsr : P.funcs[82]? = some Try.f82
  fro : P.funcs[81]? = some Try.f81
  fsm : P.funcs[75]? = some Try.f75
  fst : P.funcs[66]? = some Try.f66
  t0 : P.underlying 0 = some (TypeDesc.tuple #[])
  a0 : ∀ w, (isAgg 0).run P w = .ok false w
  z0 : ∀ w, (Go.sizeOf 0).run P w = .ok 1 w
  v0 : ∀ w, (zeroValue 0).run P w = .ok (Value.tuple #[]) w
  t3 : P.underlying 3 = some (TypeDesc.int IntKind.i64)
  a3 : ∀ w, (isAgg 3).run P w = .ok false w
  z3 : ∀ w, (Go.sizeOf 3).run P w = .ok 1 w
  v3 : ∀ w, (zeroValue 3).run P w = .ok (Value.int IntKind.i64 0) w
  t4 : P.underlying 4 = some (TypeDesc.bool)
  a4 : ∀ w, (isAgg 4).run P w = .ok false w
  z4 : ∀ w, (Go.sizeOf 4).run P w = .ok 1 w
  v4 : ∀ w, (zeroValue 4).run P w = .ok (Value.bool false) w
  t22 : P.underlying 22 = some (TypeDesc.slice 49)
  a22 : ∀ w, (isAgg 22).run P w = .ok false w
  z22 : ∀ w, (Go.sizeOf 22).run P w = .ok 1 w
  v22 : ∀ w, (zeroValue 22).run P w = .ok (Value.slice none 0 0) w
  t81 : P.underlying 81 = some (TypeDesc.func #[49, 49] #[3] false)
  a81 : ∀ w, (isAgg 81).run P w = .ok false w
  z81 : ∀ w, (Go.sizeOf 81).run P w = .ok 1 w
  v81 : ∀ w, (zeroValue 81).run P w = .ok (Value.nilFunc) w
  t102 : P.underlying 102 = some (TypeDesc.int IntKind.u64)
  a102 : ∀ w, (isAgg 102).run P w = .ok false w
  z102 : ∀ w, (Go.sizeOf 102).run P w = .ok 1 w
  v102 : ∀ w, (zeroValue 102).run P w = .ok (Value.int IntKind.u64 0) w
theorem slt : SLt Try.prog where
  mixed := by kernel_rfl
  fsr := Try.func82
  fro := Try.func81
  fsm := Try.func75
  fst := Try.func66
  t0 := Try.underlying0
  a0 := Try.isAgg0
  z0 := Try.sizeOf0
  v0 := Try.zeroValue0
  t3 := Try.underlying3
  a3 := Try.isAgg3
  z3 := Try.sizeOf3
  v3 := Try.zeroValue3
  t4 := Try.underlying4
  a4 := Try.isAgg4
  z4 := Try.sizeOf4
  v4 := Try.zeroValue4
  t22 := Try.underlying22
  a22 := Try.isAgg22
  z22 := Try.sizeOf22
  v22 := Try.zeroValue22
  t81 := Try.underlying81
  a81 := Try.isAgg81
  z81 := Try.sizeOf81
  v81 := Try.zeroValue81
  t102 := Try.underlying102
  a102 := Try.isAgg102
  z102 := Try.sizeOf102
  v102 := Try.zeroValue102
section
variable {P : Program} {α : Type} [Inhabited α]
set_option maxHeartbeats 4000000 in
set_option maxRecDepth 1000000 in
theorem swapR_any (L : SLt P) (k : Nat) (aE : ∀ w, (isAgg 49).run P w = .ok true w) (zE : ∀ w, (Go.sizeOf 49).run P w = .ok k w) (enc : α → List Value) (g : Nat) (cb : Array Value) (blk off cap n : Nat) (d0 : Array α) (w0 : World) (R : RowK enc k w0 blk off d0) (hn : d0.size = n) (hsz : n < 4611686018427387904)
    (d : Array α) (hs : d0.size = d.size) (w : World) (S : SWK enc k w0 blk off d w) (a b m : Nat) (hab : a + m ≤ b) (hb : b + m ≤ n) :
    Calls P 82 #[.slice (some ⟨blk, off, none⟩) n cap, .int .i64 a, .int .i64 b, .int .i64 m, .func (.func g) #[] cb] w fun e w' => e = .returned (.tuple #[]) ∧ SWK enc k w0 blk off (swpR d a b m) w' := by
  have mixed := L.mixed; have t0 := L.t0; have a0 := L.a0; have z0 := L.z0; have v0 := L.v0; have t3 := L.t3; have a3 := L.a3; have z3 := L.z3; have v3 := L.v3; have t4 := L.t4; have a4 := L.a4; have z4 := L.z4; have v4 := L.v4; have t22 := L.t22; have a22 := L.a22; have z22 := L.z22; have v22 := L.v22; have t81 := L.t81; have a81 := L.a81; have z81 := L.z81; have v81 := L.v81; have t102 := L.t102; have a102 := L.a102; have z102 := L.z102; have v102 := L.v102
  have FG := L.fsr
  have S0 : Aside (SWK enc k w0 blk off (swpR d a b 0) w) := S
  clear S
  go_enter FG, Try.ntmps82
  go_wp2
  go_loopw [10] (fun s wr => ∃ i : Nat, s = .int .i64 i ∧ i ≤ m ∧ Aside (SWK enc k w0 blk off (swpR d a b i) wr)) (fun s _ => m - (intOf s).toNat)
  case atStart => exact ⟨0, by go_num, by omega, S0⟩
  case round =>
    clear S0
    obtain ⟨i, rfl, him, S1⟩ := hrel
    by_cases hlt : (i : Int) < (m : Int)
    · have hds := swpR_size d a b i
      have hnx : swpR d a b (i + 1) = swp (swpR d a b i) (a + i) (b + i) := rfl
      generalize swpR d a b i = dk at S1 hds hnx
      obtain ⟨q1, hq1⟩ : ∃ q, q = a + i := ⟨_, rfl⟩
      obtain ⟨q2, hq2⟩ : ∃ q, q = b + i := ⟨_, rfl⟩
      rw [← hq1, ← hq2] at hnx
      have w1 : IntKind.i64.wrap ((a : Int) + (i : Int)) = (q1 : Int) := by rw [IntKind.wrap_i64]; omega
      have w2 : IntKind.i64.wrap ((b : Int) + (i : Int)) = (q2 : Int) := by rw [IntKind.wrap_i64]; omega
      have HNX := Lib.hid hnx
      clear hnx
      have ea : ((↑q1 : Int)).toNat = q1 := by omega
      have pa : (0 : Int) ≤ (↑q1 : Int) := by omega
      have ba : (↑q1 : Int) < (n : Int) := by omega
      have ra : IntKind.i64.wrap (↑q1 : Int) = (↑q1 : Int) := by rw [IntKind.wrap_i64]; omega
      have ec : ((↑q2 : Int)).toNat = q2 := by omega
      have pc : (0 : Int) ≤ (↑q2 : Int) := by omega
      have bc : (↑q2 : Int) < (n : Int) := by omega
      have rc : IntKind.i64.wrap (↑q2 : Int) = (↑q2 : Int) := by rw [IntKind.wrap_i64]; omega
      have S2 : Aside (SWK enc k w0 blk off (swp dk (q1) (q2)) ((wr.drew.setCells blk (off + (q1) * k) (enc dk[q2]!)).setCells blk (off + (q2) * k) (enc dk[q1]!))) := S1.out.swapped R (q1) (q2) (by omega) (by omega)
      have la := S1.out.ld1 R (by omega) P (q1) (by omega)
      have lc := S1.out.ld1 R (by omega) P (q2) (by omega)
      have sa := S1.out.st1 R (by omega) P (q1) (by omega) dk[q2]!
      have sc := S1.out.st2 R (by omega) P (q1) (q2) (by omega) (by omega) dk[q2]! dk[q1]!
      have na : (enc dk[q1]!).length = k := R.hk _
      have nc : (enc dk[q2]!).length = k := R.hk _
      generalize enc dk[q1]! = cI at S2 la sc na
      generalize enc dk[q2]! = cJ at S2 lc sa sc nc
      clear S1 hq1 hq2
      go_wp2_with fail
      go_big_region_o
      clear la lc sa sc
      generalize (wr.drew.setCells blk (off + (q1) * k) cJ).setCells blk (off + (q2) * k) cI = w2 at S2 ⊢
      go_wp2
      go_roundw
      case rel => exact ⟨i + 1, by go_num, by omega, by rw [HNX.out]; exact S2⟩
      case measure => simp [intOf]; omega
    · obtain rfl : i = m := by omega
      go_wp2
      go_end0
      exact ⟨rfl, S1.out⟩
set_option maxHeartbeats 4000000 in
set_option maxRecDepth 1000000 in
theorem rotate_any (L : SLt P) (k : Nat) (aE : ∀ w, (isAgg 49).run P w = .ok true w) (zE : ∀ w, (Go.sizeOf 49).run P w = .ok k w) (enc : α → List Value) (g : Nat) (cb : Array Value) (blk off cap n : Nat) (d0 : Array α) (w0 : World) (R : RowK enc k w0 blk off d0) (hn : d0.size = n) (hsz : n < 4611686018427387904)
    (d : Array α) (hs : d0.size = d.size) (w : World) (S : SWK enc k w0 blk off d w) (a m b : Nat) (ham : a < m) (hmb : m < b) (hb : b ≤ n) :
    Calls P 81 #[.slice (some ⟨blk, off, none⟩) n cap, .int .i64 a, .int .i64 m, .int .i64 b, .func (.func g) #[] cb] w fun e w' => e = .returned (.tuple #[]) ∧ ∃ d', Rot a m b d d' ∧ PermIn a b d d' ∧ SWK enc k w0 blk off d' w' := by
  have HS : Hid (∀ (dk : Array α) (hs : d0.size = dk.size) (w : World) (S : SWK enc k w0 blk off dk w) (a b m : Nat) (hab : a + m ≤ b) (hb : b + m ≤ n), Calls P 82 #[.slice (some ⟨blk, off, none⟩) n cap, .int .i64 a, .int .i64 b, .int .i64 m, .func (.func g) #[] cb] w fun e w' => e = .returned (.tuple #[]) ∧ SWK enc k w0 blk off (swpR dk a b m) w') := fun dk hs w S a b m hab hb => swapR_any L k aE zE enc g cb blk off cap n d0 w0 R hn hsz dk hs w S a b m hab hb
  have mixed := L.mixed; have t0 := L.t0; have a0 := L.a0; have z0 := L.z0; have v0 := L.v0; have t3 := L.t3; have a3 := L.a3; have z3 := L.z3; have v3 := L.v3; have t4 := L.t4; have a4 := L.a4; have z4 := L.z4; have v4 := L.v4; have t22 := L.t22; have a22 := L.a22; have z22 := L.z22; have v22 := L.v22; have t81 := L.t81; have a81 := L.a81; have z81 := L.z81; have v81 := L.v81; have t102 := L.t102; have a102 := L.a102; have z102 := L.z102; have v102 := L.v102
  have FG := L.fro
  have esr : ∀ args w, (callFunc 82 args).run P w = .ok (.enter 82 args) w := enters_of L.fsr (by kernel_rfl) rfl
  have S0 : Aside (SWK enc k w0 blk off d w) := S
  clear S
  go_enter FG, Try.ntmps81
  go_wp2
  go_loopw [10, 11] (fun s t wr => ∃ (i j : Nat) (dk : Array α), s = .int .i64 i ∧ t = .int .i64 j ∧ 0 < i ∧ 0 < j ∧ i ≤ m - a ∧ j ≤ b - m ∧ d0.size = dk.size ∧ Aside (SWK enc k w0 blk off dk wr) ∧ Hid (PermIn a b d dk) ∧ Hid (∀ d2, Rot (m - i) m (m + j) dk d2 → Rot a m b d d2)) (fun s t _ => (intOf s).toNat + (intOf t).toNat)
  case atStart => exact ⟨m - a, b - m, d, by first | go_num | (congr 1; omega), by first | go_num | (congr 1; omega), by omega, by omega, by omega, by omega, hs, S0, permIn_refl _ _ _, fun d2 h => by rwa [show m - (m - a) = a by omega, show m + (b - m) = b by omega] at h⟩
  case round =>
    clear S0
    obtain ⟨i, j, dk, rfl, rfl, hi0, hj0, hia, hjb, hds, S1, HP, HR⟩ := hrel
    obtain ⟨q, hq⟩ : ∃ q, q = m - i := ⟨_, rfl⟩
    have eq1 : (m : Int) - (i : Int) = (q : Int) := by omega
    have HQ := Lib.hid hq
    by_cases hij : i = j
    · subst hij
      have C := HS.out dk hds wr S1.out q m i (by omega) (by omega)
      have HC := Lib.hid C
      clear C hq
      go_wp2_with (go_at_fn 82; refine HC.out.mono ?_; rintro e w2 ⟨rfl, S2⟩)
      go_end0
      obtain rfl := HQ.out
      refine ⟨rfl, _, HR.out _ (rot_end (by omega) (by omega)), permIn_trans _ _ _ _ _ HP.out (swpR_perm (by omega) (by omega) (by omega) (by omega)), S2⟩
    · have hij' : ((i : Int) == (j : Int)) = false := by rw [beq_eq_false_iff_ne]; omega
      by_cases hji : j < i
      · have hjz : (j : Int) < (i : Int) := by omega
        have C := HS.out dk hds wr S1.out q m j (by omega) (by omega)
        have HC := Lib.hid C
        clear C hq
        go_wp2_with (go_at_fn 82; refine HC.out.mono ?_; rintro e w2 ⟨rfl, S2⟩)
        go_roundw
        case rel =>
          obtain rfl := HQ.out
          exact ⟨i - j, j, _, by first | go_num | (congr 1; omega), rfl, by omega, hj0, by omega, hjb, by rw [swpR_size]; exact hds, S2, permIn_trans _ _ _ _ _ HP.out (swpR_perm (by omega) (by omega) (by omega) (by omega)), fun d2 h => HR.out d2 (rot_left (by omega) hji (by omega) h)⟩
        case measure => simp [intOf]; omega
      · have hjz : ¬ (j : Int) < (i : Int) := by omega
        have C := HS.out dk hds wr S1.out q (m + j - i) i (by omega) (by omega)
        rw [show (((m + j - i : Nat)) : Int) = (m : Int) + (j : Int) - (i : Int) by omega] at C
        have HC := Lib.hid C
        clear C hq
        go_wp2_with (go_at_fn 82; refine HC.out.mono ?_; rintro e w2 ⟨rfl, S2⟩)
        go_roundw
        case rel =>
          obtain rfl := HQ.out
          exact ⟨i, j - i, _, rfl, by first | go_num | (congr 1; omega), hi0, by omega, hia, by omega, by rw [swpR_size]; exact hds, S2, permIn_trans _ _ _ _ _ HP.out (swpR_perm (by omega) (by omega) (by omega) (by omega)), fun d2 h => HR.out d2 (rot_right (by omega) (by omega) (by omega) h)⟩
        case measure => simp [intOf]; omega
/-- One element on its way up. -/
def UpS (d : Array α) (a b z : Nat) (dk : Array α) : Prop := (∀ x, a ≤ x → x < z → dk[x]! = d[x + 1]!) ∧ dk[z]! = d[a]! ∧ (∀ x, (x < a ∨ z < x) → dk[x]! = d[x]!) ∧ PermIn a b d dk
theorem UpS.step {d dk : Array α} {a b z : Nat} (h : UpS d a b z dk) (hz : a ≤ z) (hb : z + 1 < b) (hs : b ≤ d.size) : UpS d a b (z + 1) (swp dk z (z + 1)) := by
  obtain ⟨h1, h2, h3, h4⟩ := h
  have hds := h4.1
  refine ⟨fun x hx hxz => ?_, ?_, fun x hx => ?_, permIn_trans _ _ _ _ _ h4 (swp_permIn _ _ _ _ _ hz (by omega) (by omega) hb (by omega))⟩
  · by_cases e : x = z
    · subst e; rw [swp_left _ _ _ (by omega) (by omega), h3 _ (by omega)]
    · rw [swp_other _ _ _ _ e (by omega), h1 x hx (by omega)]
  · rw [swp_right _ _ _ (by omega), h2]
  · rw [swp_other _ _ _ _ (by omega) (by omega), h3 x (by omega)]
/-- One element on its way down. -/
def DnS (d : Array α) (a m z : Nat) (dk : Array α) : Prop := (∀ x, z < x → x ≤ m → dk[x]! = d[x - 1]!) ∧ dk[z]! = d[m]! ∧ (∀ x, (x < z ∨ m < x) → dk[x]! = d[x]!) ∧ PermIn a (m + 1) d dk
theorem DnS.step {d dk : Array α} {a m z : Nat} (h : DnS d a m (z + 1) dk) (hz : a ≤ z) (hb : z < m) (hs : m < d.size) : DnS d a m z (swp dk (z + 1) z) := by
  obtain ⟨h1, h2, h3, h4⟩ := h
  have hds := h4.1
  refine ⟨fun x hx hxz => ?_, ?_, fun x hx => ?_, permIn_trans _ _ _ _ _ h4 (swp_permIn _ _ _ _ _ (by omega) (by omega) hz (by omega) (by omega))⟩
  · by_cases e : x = z + 1
    · subst e; rw [swp_left _ _ _ (by omega) (by omega), h3 _ (by omega)]; congr 1
    · rw [swp_other _ _ _ _ e (by omega), h1 x (by omega) hxz]
  · rw [swp_right _ _ _ (by omega), h2]
  · rw [swp_other _ _ _ _ (by omega) (by omega), h3 x (by omega)]
set_option maxHeartbeats 8000000 in
set_option maxRecDepth 1000000 in
theorem symOne_any (L : SLt P) (k : Nat) (aE : ∀ w, (isAgg 49).run P w = .ok true w) (zE : ∀ w, (Go.sizeOf 49).run P w = .ok k w) (enc : α → List Value) (g : Nat) (cb : Array Value) (blk off cap n : Nat) (d0 : Array α) (w0 : World) (R : RowK enc k w0 blk off d0) (hn : d0.size = n) (hsz : n < 4611686018427387904)
    (cf : α → α → Int) (eg : ∀ args w, (callFunc g args).run P w = .ok (.enter g args) w) (hcmp : CmpLays P g cb enc k cf blk off d0.size w0)
    (hS : SWO (ltOf cf)) (d : Array α) (hs : d0.size = d.size) (w : World) (S : SWK enc k w0 blk off d w) (a m b : Nat) (ham : m = a + 1) (hmb : m < b) (hb : b ≤ n) (h2 : SortedIn (ltOf cf) m b d) :
    Calls P 75 #[.slice (some ⟨blk, off, none⟩) n cap, .int .i64 a, .int .i64 m, .int .i64 b, .func (.func g) #[] cb] w fun e w' => e = .returned (.tuple #[]) ∧ ∃ d', PermIn a b d d' ∧ SortedIn (ltOf cf) a b d' ∧ SWK enc k w0 blk off d' w' := by
  have mixed := L.mixed; have t0 := L.t0; have a0 := L.a0; have z0 := L.z0; have v0 := L.v0; have t3 := L.t3; have a3 := L.a3; have z3 := L.z3; have v3 := L.v3; have t4 := L.t4; have a4 := L.a4; have z4 := L.z4; have v4 := L.v4; have t22 := L.t22; have a22 := L.a22; have z22 := L.z22; have v22 := L.v22; have t81 := L.t81; have a81 := L.a81; have z81 := L.z81; have v81 := L.v81; have t102 := L.t102; have a102 := L.a102; have z102 := L.z102; have v102 := L.v102
  have FG := L.fsm
  have HC : Aside (CmpLays P g cb enc k cf blk off d0.size w0) := hcmp
  have S0 : Aside (SWK enc k w0 blk off d w) := S
  have H2 : Hid (SortedIn (ltOf cf) m b d) := h2
  have HM : Hid (m = a + 1) := ham
  have hm1 : (m : Int) - (a : Int) = 1 := by omega
  clear hcmp S h2 ham
  go_enter FG, Try.ntmps75
  go_wp2
  go_loopw [10, 11] (fun s t wr => ∃ (i j : Nat), s = .int .i64 i ∧ t = .int .i64 j ∧ m ≤ i ∧ i ≤ j ∧ j ≤ b ∧ Aside (SWK enc k w0 blk off d wr) ∧ Hid (∀ h, m ≤ h → h < i → ltOf cf d[h]! d[a]! = true) ∧ Hid (∀ h, j ≤ h → h < b → ltOf cf d[h]! d[a]! = false)) (fun s t _ => (intOf t).toNat - (intOf s).toNat)
  case atStart => exact ⟨m, b, by first | rfl | go_num, by first | rfl | go_num, by omega, by omega, by omega, S0, fun h h1 h2 => by omega, fun h h1 h2 => by omega⟩
  case round =>
    clear S0
    obtain ⟨i, j, rfl, rfl, hmi, hij, hjb, S1, HL, HR⟩ := hrel
    have hma : a < m := by have := HM.out; omega
    by_cases hlt : (i : Int) < (j : Int)
    · obtain ⟨c, hcc⟩ : ∃ c : Nat, c = (i + j) / 2 := ⟨_, rfl⟩
      have hc1 : i ≤ c := by omega
      have hc2 : c < j := by omega
      have hcz : ((i : Int) + (j : Int)) / 2 = (c : Int) := by omega
      generalize hdk : d = dk at *
      have HDK : Hid (d = dk) := hdk
      clear hdk hcc
      cases hlv : ltOf cf dk[c]! dk[a]! with
      | true =>
        have HV : Hid (ltOf cf dk[c]! dk[a]! = true) := hlv
        have ea : ((↑c : Int)).toNat = c := by omega
        have pa : (0 : Int) ≤ (↑c : Int) := by omega
        have ba : (↑c : Int) < (n : Int) := by omega
        have ec : ((↑a : Int)).toNat = a := by omega
        have pc : (0 : Int) ≤ (↑a : Int) := by omega
        have bc : (↑a : Int) < (n : Int) := by omega
        obtain ⟨x, hx⟩ : ∃ x, x = dk[c]! := ⟨_, rfl⟩
        obtain ⟨y, hy⟩ : ∃ y, y = dk[a]! := ⟨_, rfl⟩
        have la := S1.out.ld R (by omega) P (c) (by omega)
        have lc := S1.out.ld R (by omega) P (a) (by omega)
        rw [← hx] at la
        rw [← hy] at lc
        have hc := S1.out.cmp HC.out (by omega) x y
        have hv : cf x y < 0 := by rw [hx, hy]; exact of_decide_eq_true hlv
        have hd : decide (cf x y < 0) = true := decide_eq_true hv
        clear hx hy
        go_wp2_with fail
        go_quiet_grown (first | (go_at_fn g; refine Calls.grown_of (hc _ _)))
        have S2 : Aside (SWK enc k w0 blk off dk (grow (wr.drewN nq) osq)) := S1.out.grown nq osq
        clear la lc hc S1
        generalize grow (wr.drewN nq) osq = w2 at S2 ⊢
        clear nq osq
        go_wp2
        go_roundw
        case rel => exact ⟨c + 1, j, by go_num, rfl, by omega, by omega, by omega, S2, fun h h1 h2 => swo_lt hS (srt_le hS H2.out h1 (by omega) (by omega)) HV.out, HR⟩
        case measure => simp [intOf]; omega
      | false =>
        have HV : Hid (ltOf cf dk[c]! dk[a]! = false) := hlv
        have ea : ((↑c : Int)).toNat = c := by omega
        have pa : (0 : Int) ≤ (↑c : Int) := by omega
        have ba : (↑c : Int) < (n : Int) := by omega
        have ec : ((↑a : Int)).toNat = a := by omega
        have pc : (0 : Int) ≤ (↑a : Int) := by omega
        have bc : (↑a : Int) < (n : Int) := by omega
        obtain ⟨x, hx⟩ : ∃ x, x = dk[c]! := ⟨_, rfl⟩
        obtain ⟨y, hy⟩ : ∃ y, y = dk[a]! := ⟨_, rfl⟩
        have la := S1.out.ld R (by omega) P (c) (by omega)
        have lc := S1.out.ld R (by omega) P (a) (by omega)
        rw [← hx] at la
        rw [← hy] at lc
        have hc := S1.out.cmp HC.out (by omega) x y
        have hv : ¬ cf x y < 0 := by rw [hx, hy]; exact of_decide_eq_false hlv
        have hd : decide (cf x y < 0) = false := decide_eq_false hv
        clear hx hy
        go_wp2_with fail
        go_quiet_grown (first | (go_at_fn g; refine Calls.grown_of (hc _ _)))
        have S2 : Aside (SWK enc k w0 blk off dk (grow (wr.drewN nq) osq)) := S1.out.grown nq osq
        clear la lc hc S1
        generalize grow (wr.drewN nq) osq = w2 at S2 ⊢
        clear nq osq
        go_wp2
        go_roundw
        case rel => exact ⟨i, c, rfl, rfl, by omega, by omega, by omega, S2, HL, fun h h1 h2 => hS.ntrans _ _ _ (srt_le hS H2.out (by omega) h1 h2) HV.out⟩
        case measure => simp [intOf]; omega
    · obtain rfl : i = j := by omega
      obtain ⟨z, hz⟩ : ∃ z, i = z + 1 := ⟨i - 1, by omega⟩
      subst hz
      have haz : a ≤ z := by omega
      go_wp2
      have S0 : Aside (SWK enc k w0 blk off d wr) := S1
      go_loopw [13] (fun s wr => ∃ (y : Nat) (dk : Array α), s = .int .i64 y ∧ a ≤ y ∧ y ≤ z ∧ d0.size = dk.size ∧ Aside (SWK enc k w0 blk off dk wr) ∧ Hid (UpS d a b y dk)) (fun s _ => z - (intOf s).toNat)
      case atStart => exact ⟨a, d, rfl, by omega, haz, hs, S0, fun x h1 h2 => by omega, rfl, fun x _ => rfl, permIn_refl _ _ _⟩
      case round =>
        clear S0 S1
        obtain ⟨y, dk, rfl, hay, hyz, hds, S1, HU⟩ := hrel
        by_cases hyl : (y : Int) < (z : Int)
        · go_wp2_with fail
          have ea : ((↑y : Int)).toNat = y := by omega
          have pa : (0 : Int) ≤ (↑y : Int) := by omega
          have ba : (↑y : Int) < (n : Int) := by omega
          have ra : IntKind.i64.wrap (↑y : Int) = (↑y : Int) := by rw [IntKind.wrap_i64]; omega
          have ec : ((↑y + 1 : Int)).toNat = y + 1 := by omega
          have pc : (0 : Int) ≤ (↑y + 1 : Int) := by omega
          have bc : (↑y + 1 : Int) < (n : Int) := by omega
          have rc : IntKind.i64.wrap (↑y + 1 : Int) = (↑y + 1 : Int) := by rw [IntKind.wrap_i64]; omega
          have S2 : Aside (SWK enc k w0 blk off (swp dk (y) (y + 1)) ((wr.drew.setCells blk (off + (y) * k) (enc dk[y + 1]!)).setCells blk (off + (y + 1) * k) (enc dk[y]!))) := S1.out.swapped R (y) (y + 1) (by omega) (by omega)
          have la := S1.out.ld1 R (by omega) P (y) (by omega)
          have lc := S1.out.ld1 R (by omega) P (y + 1) (by omega)
          have sa := S1.out.st1 R (by omega) P (y) (by omega) dk[y + 1]!
          have sc := S1.out.st2 R (by omega) P (y) (y + 1) (by omega) (by omega) dk[y + 1]! dk[y]!
          have na : (enc dk[y]!).length = k := R.hk _
          have nc : (enc dk[y + 1]!).length = k := R.hk _
          generalize enc dk[y]! = cI at S2 la sc na
          generalize enc dk[y + 1]! = cJ at S2 lc sa sc nc
          clear S1 
          go_wp2_with fail
          go_big_region_o
          clear la lc sa sc
          generalize (wr.drew.setCells blk (off + (y) * k) cJ).setCells blk (off + (y + 1) * k) cI = w2 at S2 ⊢
          go_wp2
          go_roundw
          case rel => exact ⟨y + 1, _, by go_num, by omega, by omega, by rw [size_swp]; exact hds, S2, UpS.step HU.out hay (by omega) (by omega)⟩
          case measure => simp [intOf]; omega
        · obtain rfl : y = z := by omega
          go_wp2
          refine bodyPost_ret (results_none rfl _ _ _) rfl ?_
          obtain ⟨u1, u2, u3, u4⟩ := HU.out
          refine ⟨rfl, dk, u4, up_end hS (i := y + 1) (by omega) hjb (by have := H2.out; rw [HM.out] at this; exact this) (fun _ => HL.out y (by have := HM.out; omega) (by omega)) (fun _ => HR.out _ (by omega) (by omega)) (fun x h1 h2 => u1 x h1 (by omega)) u2 (fun x h => u3 x (by omega)), S1.out⟩
set_option maxHeartbeats 8000000 in
set_option maxRecDepth 1000000 in
theorem symTwo_any (L : SLt P) (k : Nat) (aE : ∀ w, (isAgg 49).run P w = .ok true w) (zE : ∀ w, (Go.sizeOf 49).run P w = .ok k w) (enc : α → List Value) (g : Nat) (cb : Array Value) (blk off cap n : Nat) (d0 : Array α) (w0 : World) (R : RowK enc k w0 blk off d0) (hn : d0.size = n) (hsz : n < 4611686018427387904)
    (cf : α → α → Int) (eg : ∀ args w, (callFunc g args).run P w = .ok (.enter g args) w) (hcmp : CmpLays P g cb enc k cf blk off d0.size w0)
    (hS : SWO (ltOf cf)) (d : Array α) (hs : d0.size = d.size) (w : World) (S : SWK enc k w0 blk off d w) (a m b : Nat) (ham : a + 1 < m) (hmb : b = m + 1) (hb : b ≤ n) (h1 : SortedIn (ltOf cf) a m d) :
    Calls P 75 #[.slice (some ⟨blk, off, none⟩) n cap, .int .i64 a, .int .i64 m, .int .i64 b, .func (.func g) #[] cb] w fun e w' => e = .returned (.tuple #[]) ∧ ∃ d', PermIn a b d d' ∧ SortedIn (ltOf cf) a b d' ∧ SWK enc k w0 blk off d' w' := by
  have mixed := L.mixed; have t0 := L.t0; have a0 := L.a0; have z0 := L.z0; have v0 := L.v0; have t3 := L.t3; have a3 := L.a3; have z3 := L.z3; have v3 := L.v3; have t4 := L.t4; have a4 := L.a4; have z4 := L.z4; have v4 := L.v4; have t22 := L.t22; have a22 := L.a22; have z22 := L.z22; have v22 := L.v22; have t81 := L.t81; have a81 := L.a81; have z81 := L.z81; have v81 := L.v81; have t102 := L.t102; have a102 := L.a102; have z102 := L.z102; have v102 := L.v102
  have FG := L.fsm
  have HC : Aside (CmpLays P g cb enc k cf blk off d0.size w0) := hcmp
  have S0 : Aside (SWK enc k w0 blk off d w) := S
  have H1 : Hid (SortedIn (ltOf cf) a m d) := h1
  have HM : Hid (b = m + 1) := hmb
  have hm0 : ((m : Int) - (a : Int) == 1) = false := by rw [beq_eq_false_iff_ne]; omega
  have hm1 : (b : Int) - (m : Int) = 1 := by omega
  clear hcmp S h1 hmb
  go_enter FG, Try.ntmps75
  go_wp2
  go_loopw [14, 15] (fun s t wr => ∃ (i j : Nat), s = .int .i64 i ∧ t = .int .i64 j ∧ a ≤ i ∧ i ≤ j ∧ j ≤ m ∧ Aside (SWK enc k w0 blk off d wr) ∧ Hid (∀ h, a ≤ h → h < i → ltOf cf d[m]! d[h]! = false) ∧ Hid (∀ h, j ≤ h → h < m → ltOf cf d[m]! d[h]! = true)) (fun s t _ => (intOf t).toNat - (intOf s).toNat)
  case atStart => exact ⟨a, m, by first | rfl | go_num, by first | rfl | go_num, by omega, by omega, by omega, S0, fun h h1 h2 => by omega, fun h h1 h2 => by omega⟩
  case round =>
    clear S0
    obtain ⟨i, j, rfl, rfl, hmi, hij, hjb, S1, HL, HR⟩ := hrel
    have hmbb : m < b := by have := HM.out; omega
    by_cases hlt : (i : Int) < (j : Int)
    · obtain ⟨c, hcc⟩ : ∃ c : Nat, c = (i + j) / 2 := ⟨_, rfl⟩
      have hc1 : i ≤ c := by omega
      have hc2 : c < j := by omega
      have hcz : ((i : Int) + (j : Int)) / 2 = (c : Int) := by omega
      generalize hdk : d = dk at *
      have HDK : Hid (d = dk) := hdk
      clear hdk hcc
      cases hlv : ltOf cf dk[m]! dk[c]! with
      | true =>
        have HV : Hid (ltOf cf dk[m]! dk[c]! = true) := hlv
        have ea : ((↑m : Int)).toNat = m := by omega
        have pa : (0 : Int) ≤ (↑m : Int) := by omega
        have ba : (↑m : Int) < (n : Int) := by omega
        have ec : ((↑c : Int)).toNat = c := by omega
        have pc : (0 : Int) ≤ (↑c : Int) := by omega
        have bc : (↑c : Int) < (n : Int) := by omega
        obtain ⟨x, hx⟩ : ∃ x, x = dk[m]! := ⟨_, rfl⟩
        obtain ⟨y, hy⟩ : ∃ y, y = dk[c]! := ⟨_, rfl⟩
        have la := S1.out.ld R (by omega) P (m) (by omega)
        have lc := S1.out.ld R (by omega) P (c) (by omega)
        rw [← hx] at la
        rw [← hy] at lc
        have hc := S1.out.cmp HC.out (by omega) x y
        have hv : cf x y < 0 := by rw [hx, hy]; exact of_decide_eq_true hlv
        have hd : decide (cf x y < 0) = true := decide_eq_true hv
        clear hx hy
        go_wp2_with fail
        go_quiet_grown (first | (go_at_fn g; refine Calls.grown_of (hc _ _)))
        have S2 : Aside (SWK enc k w0 blk off dk (grow (wr.drewN nq) osq)) := S1.out.grown nq osq
        clear la lc hc S1
        generalize grow (wr.drewN nq) osq = w2 at S2 ⊢
        clear nq osq
        go_wp2
        go_roundw
        case rel => exact ⟨i, c, rfl, rfl, by omega, by omega, by omega, S2, HL, fun h h1 h2 => swo_lt2 hS HV.out (srt_le hS H1.out (by omega) h1 h2)⟩
        case measure => simp [intOf]; omega
      | false =>
        have HV : Hid (ltOf cf dk[m]! dk[c]! = false) := hlv
        have ea : ((↑m : Int)).toNat = m := by omega
        have pa : (0 : Int) ≤ (↑m : Int) := by omega
        have ba : (↑m : Int) < (n : Int) := by omega
        have ec : ((↑c : Int)).toNat = c := by omega
        have pc : (0 : Int) ≤ (↑c : Int) := by omega
        have bc : (↑c : Int) < (n : Int) := by omega
        obtain ⟨x, hx⟩ : ∃ x, x = dk[m]! := ⟨_, rfl⟩
        obtain ⟨y, hy⟩ : ∃ y, y = dk[c]! := ⟨_, rfl⟩
        have la := S1.out.ld R (by omega) P (m) (by omega)
        have lc := S1.out.ld R (by omega) P (c) (by omega)
        rw [← hx] at la
        rw [← hy] at lc
        have hc := S1.out.cmp HC.out (by omega) x y
        have hv : ¬ cf x y < 0 := by rw [hx, hy]; exact of_decide_eq_false hlv
        have hd : decide (cf x y < 0) = false := decide_eq_false hv
        clear hx hy
        go_wp2_with fail
        go_quiet_grown (first | (go_at_fn g; refine Calls.grown_of (hc _ _)))
        have S2 : Aside (SWK enc k w0 blk off dk (grow (wr.drewN nq) osq)) := S1.out.grown nq osq
        clear la lc hc S1
        generalize grow (wr.drewN nq) osq = w2 at S2 ⊢
        clear nq osq
        go_wp2
        go_roundw
        case rel => exact ⟨c + 1, j, by go_num, rfl, by omega, by omega, by omega, S2, fun h h1 h2 => swo_le hS (srt_le hS H1.out h1 (by omega) (by omega)) HV.out, HR⟩
        case measure => simp [intOf]; omega
    · obtain rfl : i = j := by omega
      go_wp2
      have S0 : Aside (SWK enc k w0 blk off d wr) := S1
      go_loopw [17] (fun s wr => ∃ (y : Nat) (dk : Array α), s = .int .i64 y ∧ i ≤ y ∧ y ≤ m ∧ d0.size = dk.size ∧ Aside (SWK enc k w0 blk off dk wr) ∧ Hid (DnS d a m y dk)) (fun s _ => (intOf s).toNat)
      case atStart => exact ⟨m, d, rfl, by omega, by omega, hs, S0, fun x h1 h2 => by omega, rfl, fun x _ => rfl, permIn_refl _ _ _⟩
      case round =>
        clear S0 S1
        obtain ⟨y, dk, rfl, hay, hyz, hds, S1, HU⟩ := hrel
        by_cases hyl : (i : Int) < (y : Int)
        · obtain ⟨z, hz⟩ : ∃ z, y = z + 1 := ⟨y - 1, by omega⟩
          subst hz
          have hyl' : (i : Int) < (z : Int) + 1 := by omega
          clear hyl
          go_wp2_with fail
          have ea : ((↑z + 1 : Int)).toNat = z + 1 := by omega
          have pa : (0 : Int) ≤ (↑z + 1 : Int) := by omega
          have ba : (↑z + 1 : Int) < (n : Int) := by omega
          have ra : IntKind.i64.wrap (↑z + 1 : Int) = (↑z + 1 : Int) := by rw [IntKind.wrap_i64]; omega
          have ec : ((↑z : Int)).toNat = z := by omega
          have pc : (0 : Int) ≤ (↑z : Int) := by omega
          have bc : (↑z : Int) < (n : Int) := by omega
          have rc : IntKind.i64.wrap (↑z : Int) = (↑z : Int) := by rw [IntKind.wrap_i64]; omega
          have S2 : Aside (SWK enc k w0 blk off (swp dk (z + 1) (z)) ((wr.drew.setCells blk (off + (z + 1) * k) (enc dk[z]!)).setCells blk (off + (z) * k) (enc dk[z + 1]!))) := S1.out.swapped R (z + 1) (z) (by omega) (by omega)
          have la := S1.out.ld1 R (by omega) P (z + 1) (by omega)
          have lc := S1.out.ld1 R (by omega) P (z) (by omega)
          have sa := S1.out.st1 R (by omega) P (z + 1) (by omega) dk[z]!
          have sc := S1.out.st2 R (by omega) P (z + 1) (z) (by omega) (by omega) dk[z]! dk[z + 1]!
          have na : (enc dk[z + 1]!).length = k := R.hk _
          have nc : (enc dk[z]!).length = k := R.hk _
          generalize enc dk[z + 1]! = cI at S2 la sc na
          generalize enc dk[z]! = cJ at S2 lc sa sc nc
          clear S1 
          go_wp2_with fail
          go_big_region_o
          clear la lc sa sc
          generalize (wr.drew.setCells blk (off + (z + 1) * k) cJ).setCells blk (off + (z) * k) cI = w2 at S2 ⊢
          go_wp2
          go_roundw
          case rel => exact ⟨z, _, by first | rfl | go_num | (congr 1; omega), by omega, by omega, by rw [size_swp]; exact hds, S2, DnS.step HU.out (by omega) (by omega) (by have := HM.out; omega)⟩
          case measure => simp [intOf]; try omega
        · obtain rfl : y = i := by omega
          go_wp2
          refine bodyPost_ret (results_none rfl _ _ _) rfl ?_
          obtain ⟨u1, u2, u3, u4⟩ := HU.out
          have he := HM.out
          subst he
          refine ⟨rfl, dk, u4, down_end hS hmi hyz H1.out (fun h => HL.out _ (by omega) (by omega)) (fun h => HR.out _ (by omega) h) u1 u2 (fun x h => u3 x (by omega)), S1.out⟩
end
end Go.Proofs.Ytkpemlgolpihiaa
namespace Go.Proofs.Ytkpemlgolpihiaa
open Go.RowKit Go.Shelf Go.Lib
open Go.Sort hiding Below
set_option linter.unusedVariables false
set_option linter.unusedSimpArgs false
section
variable {P : Program} {α : Type} [Inhabited α]
set_option maxHeartbeats 16000000 in
set_option maxRecDepth 1000000 in
theorem symGen_any (L : SLt P) (k : Nat) (aE : ∀ w, (isAgg 49).run P w = .ok true w) (zE : ∀ w, (Go.sizeOf 49).run P w = .ok k w) (enc : α → List Value) (g : Nat) (cb : Array Value) (blk off cap n : Nat) (d0 : Array α) (w0 : World) (R : RowK enc k w0 blk off d0) (hn : d0.size = n) (hsz : n < 4611686018427387904)
    (cf : α → α → Int) (eg : ∀ args w, (callFunc g args).run P w = .ok (.enter g args) w) (hcmp : CmpLays P g cb enc k cf blk off d0.size w0)
    (hS : SWO (ltOf cf)) (N0 : Nat)
    (IH : ∀ (d : Array α) (hs : d0.size = d.size) (w : World) (S : SWK enc k w0 blk off d w) (a m b : Nat), a < m → m < b → b ≤ n → b - a < N0 → SortedIn (ltOf cf) a m d → SortedIn (ltOf cf) m b d →
      Calls P 75 #[.slice (some ⟨blk, off, none⟩) n cap, .int .i64 a, .int .i64 m, .int .i64 b, .func (.func g) #[] cb] w fun e w' => e = .returned (.tuple #[]) ∧ ∃ d', PermIn a b d d' ∧ SortedIn (ltOf cf) a b d' ∧ SWK enc k w0 blk off d' w')
    (d : Array α) (hs : d0.size = d.size) (w : World) (S : SWK enc k w0 blk off d w) (a m b : Nat) (ham : a + 1 < m) (hmb : m + 1 < b) (hb : b ≤ n) (hN0 : b - a ≤ N0) (h1 : SortedIn (ltOf cf) a m d) (h2 : SortedIn (ltOf cf) m b d) :
    Calls P 75 #[.slice (some ⟨blk, off, none⟩) n cap, .int .i64 a, .int .i64 m, .int .i64 b, .func (.func g) #[] cb] w fun e w' => e = .returned (.tuple #[]) ∧ ∃ d', PermIn a b d d' ∧ SortedIn (ltOf cf) a b d' ∧ SWK enc k w0 blk off d' w' := by
  have HRO : Hid (∀ (dk : Array α) (hs : d0.size = dk.size) (w : World) (S : SWK enc k w0 blk off dk w) (a m b : Nat) (ham : a < m) (hmb : m < b) (hb : b ≤ n), Calls P 81 #[.slice (some ⟨blk, off, none⟩) n cap, .int .i64 a, .int .i64 m, .int .i64 b, .func (.func g) #[] cb] w fun e w' => e = .returned (.tuple #[]) ∧ ∃ d', Rot a m b dk d' ∧ PermIn a b dk d' ∧ SWK enc k w0 blk off d' w') := fun dk hs w S a m b ham hmb hb => rotate_any L k aE zE enc g cb blk off cap n d0 w0 R hn hsz dk hs w S a m b ham hmb hb
  have mixed := L.mixed; have t0 := L.t0; have a0 := L.a0; have z0 := L.z0; have v0 := L.v0; have t3 := L.t3; have a3 := L.a3; have z3 := L.z3; have v3 := L.v3; have t4 := L.t4; have a4 := L.a4; have z4 := L.z4; have v4 := L.v4; have t22 := L.t22; have a22 := L.a22; have z22 := L.z22; have v22 := L.v22; have t81 := L.t81; have a81 := L.a81; have z81 := L.z81; have v81 := L.v81; have t102 := L.t102; have a102 := L.a102; have z102 := L.z102; have v102 := L.v102
  have FG := L.fsm
  have ero : ∀ args w, (callFunc 81 args).run P w = .ok (.enter 81 args) w := enters_of L.fro (by kernel_rfl) rfl
  have esm : ∀ args w, (callFunc 75 args).run P w = .ok (.enter 75 args) w := enters_of L.fsm (by kernel_rfl) rfl
  have HC : Aside (CmpLays P g cb enc k cf blk off d0.size w0) := hcmp
  have S0 : Aside (SWK enc k w0 blk off d w) := S
  have H1 : Hid (SortedIn (ltOf cf) a m d) := h1
  have H2 : Hid (SortedIn (ltOf cf) m b d) := h2
  have HI := Lib.hid IH
  have hm0 : ((m : Int) - (a : Int) == 1) = false := by rw [beq_eq_false_iff_ne]; omega
  have hm1 : ((b : Int) - (m : Int) == 1) = false := by rw [beq_eq_false_iff_ne]; omega
  obtain ⟨mid, hmid⟩ : ∃ mid : Nat, mid = (a + b) / 2 := ⟨_, rfl⟩
  obtain ⟨N, hN⟩ : ∃ N : Nat, N = mid + m := ⟨_, rfl⟩
  obtain ⟨p, hp⟩ : ∃ p : Nat, p = N - 1 := ⟨_, rfl⟩
  have hmidz : ((a : Int) + (b : Int)) / 2 = (mid : Int) := by omega
  have hNz : (mid : Int) + (m : Int) = (N : Int) := by omega
  have hpz : (N : Int) - 1 = (p : Int) := by omega
  obtain ⟨s0, hs0⟩ : ∃ s0 : Nat, s0 = if mid < m then N - b else a := ⟨_, rfl⟩
  obtain ⟨r0, hr0⟩ : ∃ r0 : Nat, r0 = if mid < m then mid else m := ⟨_, rfl⟩
  have HE : Hid (mid = (a + b) / 2 ∧ N = mid + m ∧ p = N - 1) := Lib.hid ⟨hmid, hN, hp⟩
  have H0 : Hid ((mid < m ∧ s0 = mid + m - b ∧ r0 = mid) ∨ (m ≤ mid ∧ s0 = a ∧ r0 = m)) := Lib.hid (by
    by_cases h : mid < m
    · rw [if_pos h] at hs0 hr0; exact .inl ⟨h, by omega, hr0⟩
    · rw [if_neg h] at hs0 hr0; exact .inr ⟨by omega, hs0, hr0⟩)
  have hm1b : 0 ≤ (mid : Int) := by omega
  have hm2b : (mid : Int) ≤ 4611686018427387904 := by omega
  clear hcmp S h1 h2 IH hs0 hr0 hmid hN hp
  go_enter FG, Try.ntmps75
  go_upto_if 140 with fail
  go_cut [20, 21] from 138 to 146 (fun s t wx => s = .int .i64 s0 ∧ t = .int .i64 r0 ∧ wx = w)
  case first =>
    rcases H0.out with ⟨h, e1, e2⟩ | ⟨h, e1, e2⟩
    · have hz : (mid : Int) < (m : Int) := by omega
      have e1z : (N : Int) - (b : Int) = (s0 : Int) := by have := HE.out; omega
      subst e2
      clear e1
      go_wp2_with fail
      go_meet
      case rel => exact ⟨rfl, rfl, rfl⟩
    · have hz : ¬ (mid : Int) < (m : Int) := by omega
      subst e1 e2
      go_wp2_with fail
      go_meet
      case rel => exact ⟨rfl, rfl, rfl⟩
  case rest =>
    obtain ⟨rfl, rfl, rfl⟩ := hcut
    have hs0r : s0 ≤ r0 := by have := HE.out; rcases H0.out with ⟨h, e1, e2⟩ | ⟨h, e1, e2⟩ <;> omega
    have hr0m : r0 ≤ m := by have := HE.out; rcases H0.out with ⟨h, e1, e2⟩ | ⟨h, e1, e2⟩ <;> omega
    have hr0d : r0 ≤ mid := by have := HE.out; rcases H0.out with ⟨h, e1, e2⟩ | ⟨h, e1, e2⟩ <;> omega
    have has0 : a ≤ s0 := by have := HE.out; rcases H0.out with ⟨h, e1, e2⟩ | ⟨h, e1, e2⟩ <;> omega
    have hNb : N ≤ b + s0 := by have := HE.out; rcases H0.out with ⟨h, e1, e2⟩ | ⟨h, e1, e2⟩ <;> omega
    go_wp2
    go_loopw [20, 21] (fun s t wr => ∃ (i j : Nat), s = .int .i64 i ∧ t = .int .i64 j ∧ s0 ≤ i ∧ i ≤ j ∧ j ≤ r0 ∧ Aside (SWK enc k w0 blk off d wr) ∧ Hid (s0 < i → ltOf cf d[mid + m - 1 - (i - 1)]! d[i - 1]! = false) ∧ Hid (j < r0 → ltOf cf d[mid + m - 1 - j]! d[j]! = true)) (fun s t _ => (intOf t).toNat - (intOf s).toNat)
    case atStart => exact ⟨s0, r0, rfl, rfl, by omega, by omega, by omega, S0, fun h => by omega, fun h => by omega⟩
    case round =>
      clear S0
      obtain ⟨i, j, rfl, rfl, hmi, hij, hjb, S1, HL, HR⟩ := hrel
      by_cases hlt : (i : Int) < (j : Int)
      · obtain ⟨c, hcc⟩ : ∃ c : Nat, c = (i + j) / 2 := ⟨_, rfl⟩
        have hc1 : i ≤ c := by omega
        have hc2 : c < j := by omega
        have hcz : ((i : Int) + (j : Int)) / 2 = (c : Int) := by omega
        obtain ⟨q, hq⟩ : ∃ q : Nat, q = p - c := ⟨_, rfl⟩
        have hqe : q = mid + m - 1 - c := by have := HE.out; omega
        have hpc : c ≤ p := by have := HE.out; omega
        have hqn : q < n := by have := HE.out; omega
        have hqz : (p : Int) - (c : Int) = (q : Int) := by omega
        have hwq : IntKind.i64.wrap ((p : Int) - (c : Int)) = (q : Int) := by rw [hqz, IntKind.wrap_i64]; omega
        generalize hdk : d = dk at *
        have HDK : Hid (d = dk) := hdk
        have HQE := Lib.hid hqe
        clear hdk hcc hq hqe hqz
        cases hlv : ltOf cf dk[q]! dk[c]! with
        | true =>
          have HV : Hid (ltOf cf dk[q]! dk[c]! = true) := hlv
          have ea : ((↑q : Int)).toNat = q := by omega
          have pa : (0 : Int) ≤ (↑q : Int) := by omega
          have ba : (↑q : Int) < (n : Int) := by omega
          have ec : ((↑c : Int)).toNat = c := by omega
          have pc : (0 : Int) ≤ (↑c : Int) := by omega
          have bc : (↑c : Int) < (n : Int) := by omega
          obtain ⟨x, hx⟩ : ∃ x, x = dk[q]! := ⟨_, rfl⟩
          obtain ⟨y, hy⟩ : ∃ y, y = dk[c]! := ⟨_, rfl⟩
          have la := S1.out.ld R (by omega) P (q) (by omega)
          have lc := S1.out.ld R (by omega) P (c) (by omega)
          rw [← hx] at la
          rw [← hy] at lc
          have hc := S1.out.cmp HC.out (by omega) x y
          have hv : cf x y < 0 := by rw [hx, hy]; exact of_decide_eq_true hlv
          have hd : decide (cf x y < 0) = true := decide_eq_true hv
          clear hx hy
          go_wp2_with fail
          go_quiet_grown (first | (go_at_fn g; refine Calls.grown_of (hc _ _)))
          have S2 : Aside (SWK enc k w0 blk off dk (grow (wr.drewN nq) osq)) := S1.out.grown nq osq
          clear la lc hc S1
          generalize grow (wr.drewN nq) osq = w2 at S2 ⊢
          clear nq osq
          go_wp2
          go_roundw
          case rel => exact ⟨i, c, rfl, rfl, by omega, by omega, by omega, S2, HL, fun h => by rw [← HQE.out]; exact HV.out⟩
          case measure => simp [intOf]; omega
        | false =>
          have HV : Hid (ltOf cf dk[q]! dk[c]! = false) := hlv
          have ea : ((↑q : Int)).toNat = q := by omega
          have pa : (0 : Int) ≤ (↑q : Int) := by omega
          have ba : (↑q : Int) < (n : Int) := by omega
          have ec : ((↑c : Int)).toNat = c := by omega
          have pc : (0 : Int) ≤ (↑c : Int) := by omega
          have bc : (↑c : Int) < (n : Int) := by omega
          obtain ⟨x, hx⟩ : ∃ x, x = dk[q]! := ⟨_, rfl⟩
          obtain ⟨y, hy⟩ : ∃ y, y = dk[c]! := ⟨_, rfl⟩
          have la := S1.out.ld R (by omega) P (q) (by omega)
          have lc := S1.out.ld R (by omega) P (c) (by omega)
          rw [← hx] at la
          rw [← hy] at lc
          have hc := S1.out.cmp HC.out (by omega) x y
          have hv : ¬ cf x y < 0 := by rw [hx, hy]; exact of_decide_eq_false hlv
          have hd : decide (cf x y < 0) = false := decide_eq_false hv
          clear hx hy
          go_wp2_with fail
          go_quiet_grown (first | (go_at_fn g; refine Calls.grown_of (hc _ _)))
          have S2 : Aside (SWK enc k w0 blk off dk (grow (wr.drewN nq) osq)) := S1.out.grown nq osq
          clear la lc hc S1
          generalize grow (wr.drewN nq) osq = w2 at S2 ⊢
          clear nq osq
          go_wp2
          go_roundw
          case rel => exact ⟨c + 1, j, by go_num, rfl, by omega, by omega, by omega, S2, fun h => by rw [Nat.add_sub_cancel, ← HQE.out]; exact HV.out, HR⟩
          case measure => simp [intOf]; omega
      · obtain rfl : i = j := by omega
        have hcut0 := cut_of (s := i) hS (by omega) (by omega) HE.out.1 H1.out H2.out H0.out hmi hjb HL.out HR.out
        obtain ⟨e, hee⟩ : ∃ e : Nat, e = mid + m - i := ⟨_, rfl⟩
        have hez : (N : Int) - (i : Int) = (e : Int) := by have := HE.out; have := hcut0.hm; omega
        have q1 := hcut0.lo
        have q2 := hcut0.hi
        have q3 := hcut0.hm
        have q4 := hcut0.e1
        have q5 := hcut0.e2
        rw [← hee] at q4 q5
        have hmidb : a < mid ∧ mid < b := by have := HE.out; omega
        have HCT := Lib.hid hcut0
        have HEE := Lib.hid hee
        clear hcut0 hee HL HR
        go_upto_region 39 with fail
        go_cut [185] from 178 to 185 (fun s wx => (∃ c : Bool, s = .bool c ∧ Hid (c = true ↔ i < m ∧ m < e)) ∧ wx = wr)
        case first =>
          by_cases p1 : i < m
          · have p1z : (i : Int) < (m : Int) := by omega
            by_cases p2 : m < e
            · have p2z : (m : Int) < (e : Int) := by omega
              go_wp2_with fail
              go_meet
              case rel => exact ⟨⟨_, rfl, Lib.hid (by simp [p1, p2])⟩, rfl⟩
            · have p2z : ¬ (m : Int) < (e : Int) := by omega
              go_wp2_with fail
              go_meet
              case rel => exact ⟨⟨_, rfl, Lib.hid (by simp [p2])⟩, rfl⟩
          · have p1z : ¬ (i : Int) < (m : Int) := by omega
            go_wp2_with fail
            go_meet
            case rel => exact ⟨⟨_, rfl, Lib.hid (by simp [p1])⟩, rfl⟩
        case rest =>
        obtain ⟨⟨c, rfl, HCC⟩, rfl⟩ := hcut
        go_upto_if 185 with fail
        go_cut [] from 178 to 191 (fun wx => ∃ d1, d0.size = d1.size ∧ Aside (SWK enc k w0 blk off d1 wx) ∧ Hid (Rot i m e d d1 ∧ PermIn a b d d1))
        case first =>
          cases c with
          | true =>
            have hcc := HCC.out.1 rfl
            have C := Lib.hid (HRO.out d hs wc S1.out i m e hcc.1 hcc.2 (by omega))
            go_wp2_with (go_at_fn 81; refine C.out.mono ?_; rintro e2 w2 ⟨rfl, d1, c1, c2, c3⟩)
            have C1 : Hid (Rot i m e d d1 ∧ PermIn a b d d1) := Lib.hid ⟨c1, permIn_mono _ _ _ _ _ _ (by omega) (by omega) (by omega) c2⟩
            have C3 : Aside (SWK enc k w0 blk off d1 w2) := c3
            have hd1 : d0.size = d1.size := by rw [hs]; exact c2.1.symm
            clear c1 c2 c3
            go_meet
            case rel => exact ⟨d1, hd1, C3, C1⟩
          | false =>
            have hcc : ¬ (i < m ∧ m < e) := fun h => by have := HCC.out.2 h; cases this
            go_wp2_with fail
            go_meet
            case rel => exact ⟨d, hs, S1, rot_none q3 q4 (by omega), permIn_refl _ _ _⟩
        case rest =>
        clear HCC

        obtain ⟨d1, hd1, S2, HR1⟩ := hcut
        have hx := cut_rot (mid := mid) hS H1.out H2.out (by omega) HCT.out (by rw [← HEE.out]; exact HR1.out.1)
        rw [← HEE.out] at hx
        have HX := Lib.hid hx
        clear hx S1
        go_upto_region 41 with fail
        go_cut [199] from 192 to 199 (fun s wx => (∃ c : Bool, s = .bool c ∧ Hid (c = true ↔ a < i ∧ i < mid)) ∧ wx = wc)
        case first =>
          by_cases p1 : a < i
          · have p1z : (a : Int) < (i : Int) := by omega
            by_cases p2 : i < mid
            · have p2z : (i : Int) < (mid : Int) := by omega
              go_wp2_with fail
              go_meet
              case rel => exact ⟨⟨_, rfl, Lib.hid (by simp [p1, p2])⟩, rfl⟩
            · have p2z : ¬ (i : Int) < (mid : Int) := by omega
              go_wp2_with fail
              go_meet
              case rel => exact ⟨⟨_, rfl, Lib.hid (by simp [p2])⟩, rfl⟩
          · have p1z : ¬ (a : Int) < (i : Int) := by omega
            go_wp2_with fail
            go_meet
            case rel => exact ⟨⟨_, rfl, Lib.hid (by simp [p1])⟩, rfl⟩
        case rest =>
        obtain ⟨⟨c, rfl, HCC⟩, rfl⟩ := hcut
        go_upto_if 199 with fail
        go_cut [] from 192 to 205 (fun wx => ∃ d2, d0.size = d2.size ∧ Aside (SWK enc k w0 blk off d2 wx) ∧ Hid (PermIn a mid d1 d2 ∧ SortedIn (ltOf cf) a mid d2))
        case first =>
          cases c with
          | true =>
            have hcc := HCC.out.1 rfl
            have C := Lib.hid (HI.out d1 hd1 wc S2.out a i mid hcc.1 hcc.2 (by omega) (by omega) HX.out.1 HX.out.2.1)
            go_wp2_with (go_at_fn 75; refine C.out.mono ?_; rintro e2 w2 ⟨rfl, d2, c1, c2, c3⟩)
            have C1 : Hid (PermIn a mid d1 d2 ∧ SortedIn (ltOf cf) a mid d2) := Lib.hid ⟨c1, c2⟩
            have C3 : Aside (SWK enc k w0 blk off d2 w2) := c3
            have hd2 : d0.size = d2.size := by rw [hd1]; exact c1.1.symm
            clear c1 c2 c3
            go_meet
            case rel => exact ⟨d2, hd2, C3, C1⟩
          | false =>
            have hcc : ¬ (a < i ∧ i < mid) := fun h => by have := HCC.out.2 h; cases this
            go_wp2_with fail
            go_meet
            case rel =>
              refine ⟨d1, hd1, S2, permIn_refl _ _ _, ?_⟩
              by_cases hai : a < i
              · have : i = mid := by omega
                rw [← this]; exact HX.out.1
              · have : i = a := by omega
                rw [← this]; exact HX.out.2.1
        case rest =>
        clear HCC

        obtain ⟨d2, hd2, S3, HR2⟩ := hcut
        have hx3 : SortedIn (ltOf cf) mid e d2 ∧ SortedIn (ltOf cf) e b d2 := ⟨srt_same HX.out.2.2.1 fun k k1 k2 => prm_out HR2.out.1 (by omega), srt_same HX.out.2.2.2.1 fun k k1 k2 => prm_out HR2.out.1 (by omega)⟩
        have HX3 := Lib.hid hx3
        clear hx3 S2
        go_upto_region 43 with fail
        go_cut [213] from 206 to 213 (fun s wx => (∃ c : Bool, s = .bool c ∧ Hid (c = true ↔ mid < e ∧ e < b)) ∧ wx = wc)
        case first =>
          by_cases p1 : mid < e
          · have p1z : (mid : Int) < (e : Int) := by omega
            by_cases p2 : e < b
            · have p2z : (e : Int) < (b : Int) := by omega
              go_wp2_with fail
              go_meet
              case rel => exact ⟨⟨_, rfl, Lib.hid (by simp [p1, p2])⟩, rfl⟩
            · have p2z : ¬ (e : Int) < (b : Int) := by omega
              go_wp2_with fail
              go_meet
              case rel => exact ⟨⟨_, rfl, Lib.hid (by simp [p2])⟩, rfl⟩
          · have p1z : ¬ (mid : Int) < (e : Int) := by omega
            go_wp2_with fail
            go_meet
            case rel => exact ⟨⟨_, rfl, Lib.hid (by simp [p1])⟩, rfl⟩
        case rest =>
          obtain ⟨⟨c, rfl, HCC⟩, rfl⟩ := hcut
          have fin : ∀ (d3 : Array α) (wf : World), PermIn mid b d2 d3 → SortedIn (ltOf cf) mid b d3 → SWK enc k w0 blk off d3 wf → ∃ d', PermIn a b d d' ∧ SortedIn (ltOf cf) a b d' ∧ SWK enc k w0 blk off d' wf := fun d3 wf g1 g2 g3 => by
            obtain ⟨f1, f2⟩ := cut_end (by omega) (by omega) (by omega) HX.out.2.2.2.2 HR2.out.1 HR2.out.2 g1 g2
            exact ⟨d3, permIn_trans _ _ _ _ _ HR1.out.2 f1, f2, g3⟩
          have FIN := Lib.hid fin
          clear fin
          cases c with
          | true =>
            have hcc := HCC.out.1 rfl
            have C := Lib.hid (HI.out d2 hd2 wc S3.out mid e b hcc.1 hcc.2 (by omega) (by omega) HX3.out.1 HX3.out.2)
            go_wp2_with (go_at_fn 75; refine C.out.mono ?_; rintro e2 w2 ⟨rfl, d3, c1, c2, c3⟩)
            go_end0
            exact ⟨rfl, FIN.out d3 w2 c1 c2 c3⟩
          | false =>
            have hcc : ¬ (mid < e ∧ e < b) := fun h => by have := HCC.out.2 h; cases this
            go_wp2
            go_end0
            refine ⟨rfl, FIN.out d2 _ (permIn_refl _ _ _) ?_ S3.out⟩
            by_cases hai : mid < e
            · have he : e = b := by omega
              rw [← he]; exact HX3.out.1
            · have he : e = mid := by omega
              rw [← he]; exact HX3.out.2
end
end Go.Proofs.Ytkpemlgolpihiaa
namespace Go.Proofs.Ytkpemlgolpihiaa
open Go.RowKit Go.Shelf Go.Lib
open Go.Sort hiding Below
set_option linter.unusedVariables false
set_option linter.unusedSimpArgs false
section
variable {α : Type} [Inhabited α] {lt : α → α → Bool}
theorem runs_grow {bs a e n q : Nat} {d d' : Array α} (h : Runs lt bs 0 a n d) (ha : a = q * bs) (hp : PermIn a e d d') (hs : SortedIn lt a (min (a + bs) n) d') : Runs lt bs 0 (a + bs) n d' := by
  intro q' _ h2
  by_cases hq : q' < q
  · have h3 : (q' + 1) * bs ≤ q * bs := Nat.mul_le_mul_right bs hq
    rw [Nat.succ_mul] at h3
    have h4 : q' * bs < a ∨ bs = 0 := by omega
    rcases h4 with h4 | h4
    · exact srt_same (h q' (Nat.zero_le _) h4) fun k k1 k2 => prm_out hp (by omega)
    · subst h4; exact srt_none (by omega) _
  · have h3 : q' = q := by
      by_cases hlt : q < q'
      · have h5 : (q + 1) * bs ≤ q' * bs := Nat.mul_le_mul_right bs hlt
        rw [Nat.succ_mul] at h5; omega
      · omega
    subst h3
    rw [← ha]; exact hs
theorem runs_all {bs hi n : Nat} {d : Array α} (h : Runs lt bs 0 hi n d) (hn : n ≤ hi) : Runs lt bs 0 n n d := fun q h1 h2 => h q h1 (by omega)
theorem runs_two {bs a n q : Nat} {d : Array α} (h : Runs lt bs a n n d) (ha : a = q * (2 * bs)) (h0 : a < n) : SortedIn lt a (min (a + bs) n) d := by
  have e : 2 * q * bs = a := by rw [ha, Nat.mul_comm 2 q, Nat.mul_assoc]
  have := h (2 * q) (by omega) (by omega)
  rwa [e] at this
theorem runs_two' {bs a n q : Nat} {d : Array α} (h : Runs lt bs a n n d) (ha : a = q * (2 * bs)) (h0 : a + bs < n) : SortedIn lt (a + bs) (min (a + bs + bs) n) d := by
  have e : (2 * q + 1) * bs = a + bs := by rw [Nat.succ_mul, ha, Nat.mul_comm 2 q, Nat.mul_assoc]
  have := h (2 * q + 1) (by omega) (by omega)
  rwa [e] at this
theorem runs_keep {bs a b n : Nat} {d d' : Array α} (h : Runs lt bs a n n d) (hab : a ≤ b) (hp : PermIn a b d d') : Runs lt bs b n n d' := fun q h1 h2 => srt_same (h q (by omega) h2) fun k k1 k2 => prm_out hp (by omega)
end
section
variable {P : Program} {α : Type} [Inhabited α]
theorem sym_any (L : SLt P) (k : Nat) (aE : ∀ w, (isAgg 49).run P w = .ok true w) (zE : ∀ w, (Go.sizeOf 49).run P w = .ok k w) (enc : α → List Value) (g : Nat) (cb : Array Value) (blk off cap n : Nat) (d0 : Array α) (w0 : World) (R : RowK enc k w0 blk off d0) (hn : d0.size = n) (hsz : n < 4611686018427387904)
    (cf : α → α → Int) (eg : ∀ args w, (callFunc g args).run P w = .ok (.enter g args) w) (hcmp : CmpLays P g cb enc k cf blk off d0.size w0)
    (hS : SWO (ltOf cf)) : ∀ (N0 : Nat) (d : Array α) (hs : d0.size = d.size) (w : World) (S : SWK enc k w0 blk off d w) (a m b : Nat), a < m → m < b → b ≤ n → b - a ≤ N0 → SortedIn (ltOf cf) a m d → SortedIn (ltOf cf) m b d →
      Calls P 75 #[.slice (some ⟨blk, off, none⟩) n cap, .int .i64 a, .int .i64 m, .int .i64 b, .func (.func g) #[] cb] w fun e w' => e = .returned (.tuple #[]) ∧ ∃ d', PermIn a b d d' ∧ SortedIn (ltOf cf) a b d' ∧ SWK enc k w0 blk off d' w'
  | 0, d, hs, w, S, a, m, b, h1, h2, h3, h4, _, _ => by omega
  | N0 + 1, d, hs, w, S, a, m, b, h1, h2, h3, h4, s1, s2 => by
    by_cases ha : m = a + 1
    · exact symOne_any L k aE zE enc g cb blk off cap n d0 w0 R hn hsz cf eg hcmp hS d hs w S a m b ha h2 h3 s2
    · by_cases hb : b = m + 1
      · exact symTwo_any L k aE zE enc g cb blk off cap n d0 w0 R hn hsz cf eg hcmp hS d hs w S a m b (by omega) hb h3 s1
      · exact symGen_any L k aE zE enc g cb blk off cap n d0 w0 R hn hsz cf eg hcmp hS (N0 + 1) (fun d hs w S a m b q1 q2 q3 q4 q5 q6 => sym_any L k aE zE enc g cb blk off cap n d0 w0 R hn hsz cf eg hcmp hS N0 d hs w S a m b q1 q2 q3 (by omega) q5 q6) d hs w S a m b (by omega) (by omega) h3 h4 s1 s2
set_option maxHeartbeats 16000000 in
set_option maxRecDepth 1000000 in
theorem stable_any (L : SLt P) (k : Nat) (aE : ∀ w, (isAgg 49).run P w = .ok true w) (zE : ∀ w, (Go.sizeOf 49).run P w = .ok k w) (enc : α → List Value) (g : Nat) (cb : Array Value) (blk off cap n : Nat) (d0 : Array α) (w0 : World) (R : RowK enc k w0 blk off d0) (hn : d0.size = n) (hsz : n < 4611686018427387904)
    (cf : α → α → Int) (eg : ∀ args w, (callFunc g args).run P w = .ok (.enter g args) w) (hcmp : CmpLays P g cb enc k cf blk off d0.size w0)
    (hS : SWO (ltOf cf))
    (ein : ∀ args w, (callFunc 74 args).run P w = .ok (.enter 74 args) w)
    (HI0 : ∀ (dk : Array α) (hs : d0.size = dk.size) (w : World) (S : SWK enc k w0 blk off dk w) (a b : Nat), a ≤ b → b ≤ n → Calls P 74 #[.slice (some ⟨blk, off, none⟩) n cap, .int .i64 a, .int .i64 b, .func (.func g) #[] cb] w fun e w' => e = .returned (.tuple #[]) ∧ SWK enc k w0 blk off (Sort.insertionSort (ltOf cf) dk a b) w')
    (d : Array α) (hs : d0.size = d.size) (w : World) (S : SWK enc k w0 blk off d w) :
    Calls P 66 #[.slice (some ⟨blk, off, none⟩) n cap, .int .i64 n, .func (.func g) #[] cb] w fun e w' => e = .returned (.tuple #[]) ∧ ∃ d', PermIn 0 n d d' ∧ SortedIn (ltOf cf) 0 n d' ∧ SWK enc k w0 blk off d' w' := by
  have HSM : Hid (∀ (d : Array α) (hs : d0.size = d.size) (w : World) (S : SWK enc k w0 blk off d w) (a m b : Nat), a < m → m < b → b ≤ n → SortedIn (ltOf cf) a m d → SortedIn (ltOf cf) m b d →
      Calls P 75 #[.slice (some ⟨blk, off, none⟩) n cap, .int .i64 a, .int .i64 m, .int .i64 b, .func (.func g) #[] cb] w fun e w' => e = .returned (.tuple #[]) ∧ ∃ d', PermIn a b d d' ∧ SortedIn (ltOf cf) a b d' ∧ SWK enc k w0 blk off d' w') := fun d hs w S a m b h1 h2 h3 s1 s2 => sym_any L k aE zE enc g cb blk off cap n d0 w0 R hn hsz cf eg hcmp hS (b - a) d hs w S a m b h1 h2 h3 (Nat.le_refl _) s1 s2
  have mixed := L.mixed; have t0 := L.t0; have a0 := L.a0; have z0 := L.z0; have v0 := L.v0; have t3 := L.t3; have a3 := L.a3; have z3 := L.z3; have v3 := L.v3; have t4 := L.t4; have a4 := L.a4; have z4 := L.z4; have v4 := L.v4; have t22 := L.t22; have a22 := L.a22; have z22 := L.z22; have v22 := L.v22; have t81 := L.t81; have a81 := L.a81; have z81 := L.z81; have v81 := L.v81; have t102 := L.t102; have a102 := L.a102; have z102 := L.z102; have v102 := L.v102
  have FG := L.fst
  have esm : ∀ args w, (callFunc 75 args).run P w = .ok (.enter 75 args) w := enters_of L.fsm (by kernel_rfl) rfl
  have HI : Hid (∀ (dk : Array α) (hs : d0.size = dk.size) (w : World) (S : SWK enc k w0 blk off dk w) (a b : Nat), a ≤ b → b ≤ n → Calls P 74 #[.slice (some ⟨blk, off, none⟩) n cap, .int .i64 a, .int .i64 b, .func (.func g) #[] cb] w fun e w' => e = .returned (.tuple #[]) ∧ ∃ d', PermIn a b dk d' ∧ SortedIn (ltOf cf) a b d' ∧ SWK enc k w0 blk off d' w') := fun dk hs w S a b h1 h2 => (HI0 dk hs w S a b h1 h2).mono fun e w' h => by
    obtain ⟨e1, e2⟩ := h
    obtain ⟨p1, p2⟩ := insertionSort_holds hS dk a b h1 (by omega)
    exact ⟨e1, _, p1, p2, e2⟩
  have S0 : Aside (SWK enc k w0 blk off d w) := S
  have HNS : Hid (n = d.size) := by show n = _; omega
  clear HI0 S hcmp
  go_enter FG, Try.ntmps66
  go_wp2
  go_loopw [7, 8] (fun s t wr => ∃ (a b q : Nat) (dk : Array α), s = .int .i64 a ∧ t = .int .i64 b ∧ b = a + 20 ∧ a ≤ n ∧ d0.size = dk.size ∧ Hid (a = q * 20) ∧ Aside (SWK enc k w0 blk off dk wr) ∧ Hid (PermIn 0 n d dk) ∧ Hid (Runs (ltOf cf) 20 0 a n dk)) (fun s _ _ => n - (intOf s).toNat)
  case atStart => exact ⟨0, 20, 0, d, rfl, rfl, rfl, by omega, hs, rfl, S0, permIn_refl _ _ _, fun q h1 h2 => by omega⟩
  case round =>
    clear S0
    obtain ⟨a, b, q, dk, rfl, rfl, hab, han, hds, HQ, S1, HP, HR⟩ := hrel
    have HAB := Lib.hid hab
    by_cases hlt : b ≤ n
    · have hltz : (b : Int) ≤ (n : Int) := by omega
      have hbz : (b : Int) + 20 ≤ 9223372036854775807 := by omega
      have C := Lib.hid (HI.out dk hds wr S1.out a b (by omega) hlt)
      clear hab
      go_wp2_with (go_at_fn 74; refine C.out.mono ?_; rintro e2 w2 ⟨rfl, d2, c1, c2, c3⟩)
      go_roundw
      case rel =>
        have hab := HAB.out
        exact ⟨b, b + 20, q + 1, d2, rfl, by first | go_num | (congr 1; omega), rfl, hlt, by rw [hds]; exact c1.1.symm, by show b = _; have := HQ.out; omega, c3, permIn_trans _ _ _ _ _ HP.out (permIn_mono _ _ _ _ _ _ (by omega) hlt (by omega) c1), by
          show Runs _ _ _ _ _ _
          rw [hab]
          exact runs_grow HR.out HQ.out c1 (by rw [Nat.min_eq_left (by omega), ← hab]; exact c2)⟩
      case measure => have := HAB.out; simp [intOf]; omega
    · have hltz : ¬ (b : Int) ≤ (n : Int) := by omega
      have C := Lib.hid (HI.out dk hds wr S1.out a n han (Nat.le_refl _))
      clear hab
      go_wp2_with (go_at_fn 74; refine C.out.mono ?_; rintro e2 w2 ⟨rfl, d2, c1, c2, c3⟩)
      have hab := HAB.out
      have hd2 : d0.size = d2.size := by rw [hds]; exact c1.1.symm
      have HP2 : Hid (PermIn 0 n d d2) := permIn_trans _ _ _ _ _ HP.out (permIn_mono _ _ _ _ _ _ (by omega) (Nat.le_refl _) (by omega) c1)
      have HR2 : Hid (Runs (ltOf cf) 20 0 n n d2) := runs_all (runs_grow HR.out HQ.out c1 (by rw [Nat.min_eq_right (by omega)]; exact c2)) (by omega)
      have S2 : Aside (SWK enc k w0 blk off d2 w2) := c3
      clear c1 c2 c3 C S1 HP HR HQ HAB hab hltz hlt han hds HI
      go_loopw [6] (fun s wr => ∃ (bs : Nat) (dk : Array α), s = .int .i64 bs ∧ 0 < bs ∧ bs ≤ 2 * n + 20 ∧ d0.size = dk.size ∧ Aside (SWK enc k w0 blk off dk wr) ∧ Hid (PermIn 0 n d dk) ∧ Hid (Runs (ltOf cf) bs 0 n n dk)) (fun s _ => n - (intOf s).toNat)
      case atStart => exact ⟨20, d2, rfl, by omega, by omega, hd2, S2, HP2, HR2⟩
      case round =>
        clear S2 HP2 HR2 hd2
        obtain ⟨bs, dk, rfl, hb0, hbn, hds, S1, HP, HR⟩ := hrel
        by_cases hbl : bs < n
        · have hblz : (bs : Int) < (n : Int) := by omega
          go_wp2_with fail
          go_loopw [7, 8] (fun s t wr => ∃ (a b q : Nat) (dk : Array α), s = .int .i64 a ∧ t = .int .i64 b ∧ b = a + 2 * bs ∧ a ≤ n ∧ d0.size = dk.size ∧ Hid (a = q * (2 * bs)) ∧ Aside (SWK enc k w0 blk off dk wr) ∧ Hid (PermIn 0 n d dk) ∧ Hid (Runs (ltOf cf) (2 * bs) 0 a n dk) ∧ Hid (Runs (ltOf cf) bs a n n dk)) (fun s _ _ => n - (intOf s).toNat)
          case atStart => exact ⟨0, 2 * bs, 0, dk, rfl, by first | go_num | (congr 1; omega), by omega, by omega, hds, by show 0 = _; omega, S1, HP, fun q h1 h2 => by omega, HR⟩
          case round =>
            clear S1 HP HR hds
            obtain ⟨a, b, q, dk, rfl, rfl, hab, han, hds, HQ, S1, HP, HR, HR1⟩ := hrel
            have HAB := Lib.hid hab
            by_cases hlt : b ≤ n
            · have hltz : (b : Int) ≤ (n : Int) := by omega
              obtain ⟨m, hm⟩ : ∃ m, m = a + bs := ⟨_, rfl⟩
              have hmz : (a : Int) + (bs : Int) = (m : Int) := by omega
              have s1 : SortedIn (ltOf cf) a m dk := by
                have h := runs_two HR1.out HQ.out (by omega)
                rw [Nat.min_eq_left (by omega), ← hm] at h; exact h
              have s2 : SortedIn (ltOf cf) m b dk := by
                have h := runs_two' HR1.out HQ.out (by omega)
                rw [Nat.min_eq_left (by omega), ← hm] at h; rw [show b = m + bs by omega]; exact h
              have C := Lib.hid (HSM.out dk hds wr S1.out a m b (by omega) (by omega) hlt s1 s2)
              have hbz : (b : Int) + 2 * (bs : Int) ≤ 9223372036854775807 := by omega
              clear hab hm s1 s2
              go_wp2_with (go_at_fn 75; refine C.out.mono ?_; rintro e2 w2 ⟨rfl, d2, c1, c2, c3⟩)
              go_roundw
              case rel =>
                have hab := HAB.out
                exact ⟨b, b + 2 * bs, q + 1, d2, rfl, by first | go_num | (congr 1; omega), rfl, hlt, by rw [hds]; exact c1.1.symm, by show b = _; have := HQ.out; rw [Nat.succ_mul]; omega, c3, permIn_trans _ _ _ _ _ HP.out (permIn_mono _ _ _ _ _ _ (by omega) hlt (by have := HNS.out; omega) c1), by
                  show Runs _ _ _ _ _ _
                  rw [hab]
                  exact runs_grow HR.out HQ.out c1 (by rw [Nat.min_eq_left (by omega), ← hab]; exact c2), runs_keep HR1.out (by omega) c1⟩
              case measure => have := HAB.out; simp [intOf]; omega
            · have hltz : ¬ (b : Int) ≤ (n : Int) := by omega
              obtain ⟨m, hm⟩ : ∃ m, m = a + bs := ⟨_, rfl⟩
              have hmz : (a : Int) + (bs : Int) = (m : Int) := by omega
              have HM := Lib.hid hm
              by_cases hmn : m < n
              · have hmnz : (m : Int) < (n : Int) := by omega
                have s1 : SortedIn (ltOf cf) a m dk := by
                  have h := runs_two HR1.out HQ.out (by omega)
                  rw [Nat.min_eq_left (by omega), ← hm] at h; exact h
                have s2 : SortedIn (ltOf cf) m n dk := by
                  have h := runs_two' HR1.out HQ.out (by omega)
                  rw [Nat.min_eq_right (by omega), ← hm] at h; exact h
                have C := Lib.hid (HSM.out dk hds wr S1.out a m n (by omega) (by omega) (Nat.le_refl _) s1 s2)
                clear hab hm s1 s2
                go_wp2_with (go_at_fn 75; refine C.out.mono ?_; rintro e2 w2 ⟨rfl, d2, c1, c2, c3⟩)
                go_roundw
                case rel =>
                  have hab := HAB.out
                  exact ⟨2 * bs, d2, by first | go_num | (congr 1; omega), by omega, by omega, by rw [hds]; exact c1.1.symm, c3, permIn_trans _ _ _ _ _ HP.out (permIn_mono _ _ _ _ _ _ (by omega) (Nat.le_refl _) (by have := HNS.out; omega) c1),
                    runs_all (runs_grow HR.out HQ.out c1 (by rw [Nat.min_eq_right (by omega)]; exact c2)) (by omega)⟩
                case measure => simp [intOf]; omega
              · have hmnz : ¬ (m : Int) < (n : Int) := by omega
                clear hab hm
                go_wp2_with fail
                go_roundw
                case rel =>
                  have hab := HAB.out
                  have hm := HM.out
                  refine ⟨2 * bs, dk, by first | go_num | (congr 1; omega), by omega, by omega, hds, S1, HP, runs_all (hi := a + 2 * bs) (runs_grow (e := n) HR.out HQ.out (permIn_refl _ _ _) ?_) (by omega)⟩
                  rw [Nat.min_eq_right (by omega)]
                  by_cases han' : a < n
                  · have h := runs_two HR1.out HQ.out han'
                    rw [Nat.min_eq_right (by omega)] at h; exact h
                  · exact srt_none (by omega) _
                case measure => simp [intOf]; omega
        · have hblz : ¬ (bs : Int) < (n : Int) := by omega
          go_wp2
          go_end0
          refine ⟨rfl, dk, HP.out, ?_, S1.out⟩
          by_cases h0 : 0 < n
          · have h := HR.out 0 (by omega) (by omega)
            rw [Nat.zero_mul, Nat.zero_add, Nat.min_eq_right (by omega)] at h; exact h
          · exact srt_none (by omega) _
end
end Go.Proofs.Ytkpemlgolpihiaa
namespace Go.Proofs.Ytkpemlgolpihiaa
open Go.RowKit
set_option linter.unusedVariables false
set_option linter.unusedSimpArgs false

theorem str_ne {a b : ByteArray} (h : ¬ a = b) : (a.toList == b.toList) = false := by
  rw [beq_eq_false_iff_ne]
  exact fun e => h (ba_ext e)
def tv4 (ts : List Tb) : List Value := ts.flatMap tv
theorem tv4_length (ts : List Tb) : (tv4 ts).length = ts.length * 4 := by
  induction ts with
  | nil => rfl
  | cons t ts ih =>
    show (tv t ++ tv4 ts).length = _
    rw [List.length_append, ih, List.length_cons]
    show 4 + _ = _
    omega
theorem tv4_app (ts us : List Tb) : tv4 ts ++ tv4 us = tv4 (ts ++ us) := by simp [tv4]
theorem tv4_snoc (ts : List Tb) (t : Tb) : tv4 ts ++ tv t = tv4 (ts ++ [t]) := by simp [tv4]
theorem tv4_get (ts : List Tb) : ∀ (i : Nat) (h : i < ts.length), (tv4 ts)[i * 4]? = some (.int .i64 ts[i].1) ∧ (tv4 ts)[i * 4 + 1]? = some (.int .i64 ts[i].2.1) ∧ (tv4 ts)[i * 4 + 2]? = some (.string ts[i].2.2.1) ∧ (tv4 ts)[i * 4 + 3]? = some (.string ts[i].2.2.2) := by
  induction ts with
  | nil => intro i h; simp at h
  | cons t ts ih =>
    intro i h
    have e0 : tv4 (t :: ts) = tv t ++ tv4 ts := rfl
    rw [e0]
    cases i with
    | zero => simp [tv]
    | succ i =>
      have hi := ih i (by simpa using h)
      have hl : (tv t).length = 4 := rfl
      rw [List.getElem?_append_right (by rw [hl]; omega), List.getElem?_append_right (by rw [hl]; omega), List.getElem?_append_right (by rw [hl]; omega), List.getElem?_append_right (by rw [hl]; omega), hl]
      rw [show (i + 1) * 4 - 4 = i * 4 by omega, show (i + 1) * 4 + 1 - 4 = i * 4 + 1 by omega, show (i + 1) * 4 + 2 - 4 = i * 4 + 2 by omega, show (i + 1) * 4 + 3 - 4 = i * 4 + 3 by omega]
      simpa using hi
theorem tv4_one (ts : List Tb) : ∀ u ∈ tv4 ts, u.oneCell' = true := by
  intro u hu
  simp only [tv4, List.mem_flatMap, tv, List.mem_cons, List.not_mem_nil, or_false] at hu
  obtain ⟨e, _, rfl | rfl | rfl | rfl⟩ := hu <;> rfl
/-- Tables lie one behind the other. -/
def TbAt (w : World) (b off : Nat) (ts : List Tb) : Prop := ∀ i (h : i < ts.length), w.cell? ⟨b, off + i * 4, none⟩ = some (.int .i64 ts[i].1) ∧ w.cell? ⟨b, off + i * 4 + 1, none⟩ = some (.int .i64 ts[i].2.1) ∧ w.cell? ⟨b, off + i * 4 + 2, none⟩ = some (.string ts[i].2.2.1) ∧ w.cell? ⟨b, off + i * 4 + 3, none⟩ = some (.string ts[i].2.2.2)
theorem TbAt.old {w w' : World} {b off : Nat} {ts : List Tb} (h : TbAt w b off ts) (hb : b < w.heap.size) (hw : Below w.heap.size w w') : TbAt w' b off ts := by
  intro i hi
  obtain ⟨h0, h1, h2, h3⟩ := h i hi
  exact ⟨(hw.cell (p := ⟨b, off + i * 4, none⟩) hb).trans h0, (hw.cell (p := ⟨b, off + i * 4 + 1, none⟩) hb).trans h1, (hw.cell (p := ⟨b, off + i * 4 + 2, none⟩) hb).trans h2, (hw.cell (p := ⟨b, off + i * 4 + 3, none⟩) hb).trans h3⟩
/-- A slice's first elements are the tables ts. -/
def RdT (w : World) (a : Option Addr) (ts : List Tb) : Prop := ts = [] ∨ ∃ b off, a = some ⟨b, off, none⟩ ∧ b < w.heap.size ∧ TbAt w b off ts
theorem RdT.old {w w' : World} {a : Option Addr} {ts : List Tb} (h : RdT w a ts) (hb : Below w.heap.size w w') : RdT w' a ts := by
  rcases h with rfl | ⟨b, off, rfl, hlt, hc⟩
  · exact .inl rfl
  · exact .inr ⟨b, off, rfl, Nat.lt_of_lt_of_le hlt hb.size, hc.old hlt hb⟩
theorem RdT.at_ {w : World} {a : Option Addr} {ts : List Tb} (h : RdT w a ts) : ∃ b off, (0 < ts.length → a = some ⟨b, off, none⟩) ∧ (0 < ts.length → b < w.heap.size) ∧ TbAt w b off ts := by
  rcases h with rfl | ⟨b, off, rfl, hb, hc⟩
  · exact ⟨0, 0, fun h => by simp at h, fun h => by simp at h, fun i hi => by simp at hi⟩
  · exact ⟨b, off, fun _ => rfl, fun _ => hb, hc⟩
theorem own_form {w : World} {base size n : Nat} {t : TypeId} {v : Value} {xs : List Value} (h : w.ownsRow base t size v n xs) (hs : 0 < size) : ∃ a cap, v = .slice a n cap := by
  rcases h.2 with ⟨rfl, hnil⟩ | ⟨g, cap, cur, rfl, _⟩
  · have h1 := h.1
    rw [hnil] at h1
    have : n = 0 := by
      rcases Nat.eq_zero_or_pos n with h0 | h0
      · exact h0
      · have := Nat.mul_pos h0 hs
        simp at h1
        omega
    subst this
    exact ⟨_, _, rfl⟩
  · exact ⟨_, _, rfl⟩
theorem own_rdt {w : World} {base n cap : Nat} {t : TypeId} {a : Option Addr} {ts : List Tb} (h : w.ownsRow base t 4 (.slice a n cap) n (tv4 ts)) (hn : ts.length = n) : RdT w a ts := by
  subst hn
  by_cases h0 : ts = []
  · exact .inl h0
  · obtain ⟨g, hA⟩ : ∃ g, a = some ⟨g, 0, none⟩ := by
      rcases h.2 with ⟨_, hn⟩ | ⟨g, c, cur, hv, _⟩
      · exact absurd (List.length_eq_zero_iff.1 hn) h0
      · injection hv with hA
        exact ⟨g, hA⟩
    subst hA
    have hlt := (h.lt g rfl).2
    refine .inr ⟨g, 0, rfl, hlt, fun i hi => ?_⟩
    obtain ⟨h0, h1, h2, h3⟩ := tv4_get ts i hi
    have hc := h.cells (g := g) rfl
    have e' : ∀ j, (⟨g, 0, none⟩ : Addr).add j = ⟨g, 0 + j, none⟩ := by intro j; unfold Addr.add; split <;> simp_all
    have c0 := hc _ _ h0
    have c1 := hc _ _ h1
    have c2 := hc _ _ h2
    have c3 := hc _ _ h3
    rw [e'] at c0 c1 c2 c3
    exact ⟨c0, c1, c2, c3⟩
theorem Try.infoTab : (Try.prog.info? 49).map (fun i => (i.zero, i.size, i.bytes)) = some (some (.agg #[.int .i64 0, .int .i64 0, .string ⟨#[]⟩, .string ⟨#[]⟩]), 4, 48) := by kernel_rfl
theorem cell_new4 (w : World) (A B C D : Value) (t : TypeId) : ∀ j u, [A, B, C, D][j]? = some u → (w.alloc (.cells #[A, B, C, D] t)).cell? ((⟨w.heap.size, 0, none⟩ : Addr).add j) = some u := by
  intro j u hj
  have e' : ∀ j, (⟨w.heap.size, 0, none⟩ : Addr).add j = ⟨w.heap.size, 0 + j, none⟩ := by intro j; unfold Addr.add; split <;> simp_all
  rw [e']
  match j, hj with
  | 0, hj => simp at hj; subst hj; simp
  | 1, hj => simp at hj; subst hj; simp
  | 2, hj => simp at hj; subst hj; simp
  | 3, hj => simp at hj; subst hj; simp
/-- A slice of tables that a call has, or hands back. -/
def ST (w : World) (a : Option Addr) (n cap : Nat) (ts : List Tb) : Prop := ts.length = n ∧ RdT w a ts ∧ n ≤ cap ∧ cap ≤ maxLen
theorem ST.old {w w' : World} {a : Option Addr} {n cap : Nat} {ts : List Tb} (h : ST w a n cap ts) (hb : Below w.heap.size w w') : ST w' a n cap ts := ⟨h.1, h.2.1.old hb, h.2.2⟩
theorem own_st {w : World} {base n : Nat} {v : Value} {ts : List Tb} (h : w.ownsRow base 49 4 v n (tv4 ts)) (hn : ts.length = n) : ∃ a cap, v = .slice a n cap ∧ ST w a n cap ts := by
  rcases h.2 with ⟨rfl, hnil⟩ | ⟨g, cap, cur, rfl, hbg, hh, hnc, hcm, _⟩
  · have h0 : ts = [] := List.length_eq_zero_iff.1 (hn.trans hnil)
    subst h0
    have : n = 0 := by simpa using hn.symm
    subst this
    exact ⟨none, 0, rfl, rfl, .inl rfl, Nat.le_refl _, Nat.zero_le _⟩
  · exact ⟨_, cap, rfl, hn, own_rdt h hn, hnc, hcm⟩
/-- Tables that a call hands back. -/
def PT (ts : List Tb) (w : World) (e : Ending) (w' : World) : Prop := ∃ a n cap, e = .returned (.slice a n cap) ∧ ST w' a n cap ts ∧ Below w.heap.size w w'
def okT (ts : List Tb) : Prop := ∀ t ∈ ts, okTb t
theorem okTb_may {t : Tb} (h : mayT t = true) : okTb t := ⟨okS_key (keyB_iff.1 (mayT_iff.1 h).2.2.1).2, okS_key (keyB_iff.1 (mayT_iff.1 h).2.2.2.1).2⟩
/-- A box of a table. -/
def TBox (w : World) (x : Nat) (t : Tb) : Prop := w.cell? ⟨x, 0, none⟩ = some (.int .i64 t.1) ∧ w.cell? ⟨x, 1, none⟩ = some (.int .i64 t.2.1) ∧ w.cell? ⟨x, 2, none⟩ = some (.string t.2.2.1) ∧ w.cell? ⟨x, 3, none⟩ = some (.string t.2.2.2) ∧ x < w.heap.size
theorem TBox.below {w w' : World} {x : Nat} {t : Tb} (h : TBox w x t) (hb : Below w.heap.size w w') : TBox w' x t :=
  ⟨(hb.cell (p := ⟨x, 0, none⟩) h.2.2.2.2).trans h.1, (hb.cell (p := ⟨x, 1, none⟩) h.2.2.2.2).trans h.2.1, (hb.cell (p := ⟨x, 2, none⟩) h.2.2.2.2).trans h.2.2.1, (hb.cell (p := ⟨x, 3, none⟩) h.2.2.2.2).trans h.2.2.2.1, Nat.lt_of_lt_of_le h.2.2.2.2 hb.size⟩
theorem TBox.new (w : World) (T : TypeId) (t : Tb) : TBox (w.alloc (.cells #[.int .i64 t.1, .int .i64 t.2.1, .string t.2.2.1, .string t.2.2.2] T)) w.heap.size t :=
  ⟨by simp, by simp, by simp, by simp, by simp⟩
end Go.Proofs.Ytkpemlgolpihiaa
namespace Go.Proofs.Ytkpemlgolpihiaa
open Go.RowKit Go.Shelf
open Go.Sort hiding Below
set_option linter.unusedVariables false
set_option linter.unusedSimpArgs false

def ins_ren : Go.Shelf.Ren := ⟨fun | 20 => 74 | n => n, fun | 22 => 22 | 24 => 49 | 25 => 81 | 3 => 3 | 0 => 0 | 4 => 4 | n => n, fun | n => n⟩
theorem insl : SlLaysF0.n20 Try.prog ins_ren := {
  mixed := by kernel_rfl
  f20 := ⟨Try.f74.name, by decide, Try.func74.trans (congrArg some (by kernel_rfl))⟩
  t0 := Try.underlying0
  a0 := Try.isAgg0
  z0 := Try.sizeOf0
  v0 := Try.zeroValue0
  t3 := Try.underlying3
  a3 := Try.isAgg3
  z3 := Try.sizeOf3
  v3 := Try.zeroValue3
  t4 := Try.underlying4
  a4 := Try.isAgg4
  z4 := Try.sizeOf4
  v4 := Try.zeroValue4
  t22 := Try.underlying22
  a22 := Try.isAgg22
  z22 := Try.sizeOf22
  v22 := Try.zeroValue22
  t25 := Try.underlying81
  a25 := Try.isAgg81
  z25 := Try.sizeOf81
  v25 := Try.zeroValue81 }
theorem holdsK_of {w : World} {blk : Nat} {vs : List Tb} {cur : Array Value} (hb : w.heap[blk]? = some (.cells cur 49 (0, 0))) (hc : TbAt w blk 0 vs) : HoldsK tv 4 w blk 0 vs.toArray := by
  intro j hj
  rw [size_flatK] at hj
  refine ⟨?_, by simp [World.frozen?, hb]⟩
  rw [get_flatK tv 4 _ j hj]
  have hi : j / 4 < vs.length := by simp at hj; omega
  obtain ⟨c0, c1, c2, c3⟩ := hc (j / 4) hi
  have he : vs.toArray[j / 4]! = vs[j / 4] := by rw [getElem!_pos _ _ (by simpa using hi)]; simp
  rw [he]
  have h4 : j % 4 = 0 ∨ j % 4 = 1 ∨ j % 4 = 2 ∨ j % 4 = 3 := by omega
  rcases h4 with h | h | h | h <;> rw [h]
  · have : 0 + j = 0 + j / 4 * 4 := by omega
    rw [this, c0]; rfl
  · have : 0 + j = 0 + j / 4 * 4 + 1 := by omega
    rw [this, c1]; rfl
  · have : 0 + j = 0 + j / 4 * 4 + 2 := by omega
    rw [this, c2]; rfl
  · have : 0 + j = 0 + j / 4 * 4 + 3 := by omega
    rw [this, c3]; rfl
theorem tbat_of {w : World} {blk : Nat} {d : Array Tb} (h : HoldsK tv 4 w blk 0 d) : TbAt w blk 0 d.toList := by
  intro i hi
  have hi' : i < d.size := by simpa using hi
  have he : d[i]! = d.toList[i] := by rw [getElem!_pos d i hi']; simp
  have c0 := (h.cell hi' (show 0 < 4 by decide)).1
  have c1 := (h.cell hi' (show 1 < 4 by decide)).1
  have c2 := (h.cell hi' (show 2 < 4 by decide)).1
  have c3 := (h.cell hi' (show 3 < 4 by decide)).1
  rw [he] at c0 c1 c2 c3
  exact ⟨c0, c1, c2, c3⟩
theorem grown_sortK {w : World} {g n : Nat} {os : Array Obj} (d : Array Tb) : w.grownBy (sortWorldK tv 4 w g 0 n d os) (some g) := by
  refine ⟨rfl, rfl, rfl, by simp [sortWorldK, putRowK], fun k hk hne => ?_⟩
  unfold sortWorldK
  rw [heap_grow_old _ _ (by simpa [putRowK] using hk)]
  have : g ≠ k := fun e => hne (by rw [e])
  simp [putRowK, putRow, mapBlock, Sort.ahead, Array.getElem?_modify, this]
/-- The slice in order: other cells are as they were. -/
def Stb (base : Nat) (a : Option Addr) (n cap : Nat) (vs : List Tb) (w : World) (e : Ending) (w' : World) : Prop := e = .returned (.tuple #[]) ∧ ∃ L, L.Perm vs ∧ Wk L ∧ ST w' a n cap L ∧ Below base w w'
set_option maxRecDepth 1000000 in
set_option maxHeartbeats 4000000 in
theorem stable_nil (w : World) : Calls Try.prog 43 #[.slice none 0 0, .func (.func 44) #[] #[]] w fun e w' => e = .returned (.tuple #[]) ∧ w' = w := by
  go_enter Try.func43, Try.ntmps43
  have HS : Hid (∀ w, Calls Try.prog 66 #[.slice none 0 0, .int .i64 0, .func (.func 44) #[] #[]] w fun e w' => e = .returned (.tuple #[]) ∧ w' = w) := Lib.hid fun w => by
    have HI : Hid (∀ w, Calls Try.prog 74 #[.slice none 0 0, .int .i64 0, .int .i64 0, .func (.func 44) #[] #[]] w fun e w' => e = .returned (.tuple #[]) ∧ w' = w) := Lib.hid fun w => by
      go_enter Try.func74, Try.ntmps74
      go_wp2_with fail
      refine wp_loop_rounds 1 ?_
      rw [rounds_succ]
      go_wp2_with fail
      go_end0
      exact ⟨rfl, rfl⟩
    go_enter Try.func66, Try.ntmps66
    go_wp2_with fail
    refine wp_loop_rounds 1 ?_
    rw [rounds_succ]
    go_wp2_with fail
    refine (HI.out _).mono ?_
    rintro e w1 ⟨rfl, rfl⟩
    go_wp2_with fail
    refine wp_loop_rounds 1 ?_
    rw [rounds_succ]
    go_wp2_with fail
    go_end0
    exact ⟨rfl, rfl⟩
  go_wp2_with fail
  refine (HS.out _).mono ?_
  rintro e w1 ⟨rfl, rfl⟩
  go_wp2_with fail
  go_end0
  exact ⟨rfl, rfl⟩
set_option maxRecDepth 1000000 in
set_option maxHeartbeats 4000000 in
theorem sortTab_any (base : Nat) (v : Value) (vs : List Tb) (w : World) (hb : base ≤ w.heap.size) (hvn : vs.length ≤ 100000) (hrow : w.ownsRow base 49 4 v vs.length (tv4 vs)) :
    ∃ a cap, v = .slice a vs.length cap ∧ Calls Try.prog 43 #[.slice a vs.length cap, .func (.func 44) #[] #[]] w (Stb base a vs.length cap vs w) := by
  obtain ⟨a0, cap0, hv0, hst⟩ := own_st hrow rfl
  rcases hrow.2 with ⟨rfl, hz⟩ | ⟨gb, gc, cur, rfl, hbase, hgb, r1, r2, r3, r4⟩
  · have hzs : vs = [] := List.length_eq_zero_iff.1 hz
    subst hzs
    refine ⟨none, 0, rfl, (stable_nil w).mono fun e w' h => ?_⟩
    obtain ⟨h1, rfl⟩ := h
    exact ⟨h1, [], List.Perm.refl _, List.Pairwise.nil, ⟨rfl, .inl rfl, Nat.le_refl _, Nat.zero_le _⟩, Below.refl _ _⟩
  · refine ⟨_, gc, rfl, ?_⟩
    have hgl : gb < w.heap.size := (Array.getElem?_eq_some_iff.1 hgb).1
    have hEA : TbAt w gb 0 vs := by
      intro i hi
      cases hv0
      rcases hst.2.1 with h | ⟨b, o', e1, -, e3⟩
      · rw [h] at hi; simp at hi
      · cases e1; exact e3 i hi
    have hH := holdsK_of hgb hEA
    have hvl : vs.length < 4611686018427387904 := by omega
    have eg : ∀ args w, (callFunc 44 args).run Try.prog w = .ok (.enter 44 args) w := enters_of Try.func44 (by kernel_rfl) rfl
    have ein : ∀ args w, (callFunc 74 args).run Try.prog w = .ok (.enter 74 args) w := enters_of Try.func74 (by kernel_rfl) rfl
    have R : RowK tv 4 w gb 0 vs.toArray := ⟨fun _ => rfl, fun x u hu => by simp [tv] at hu; rcases hu with rfl | rfl | rfl | rfl <;> rfl, hH, hgl⟩
    have hC : CmpLays Try.prog 44 #[] tv 4 ordT gb 0 vs.toArray.size w := fun m os dk _ x y => ordt_gr x y _
    have hcon := stable_any slt 4 Try.isAgg49 Try.sizeOf49 tv 44 #[] gb 0 gc vs.length vs.toArray w R (by simp) hvl ordT eg hC swo_ordT ein
      (fun dk hs W S x y hxy hy => by
        have hsz : dk.size = vs.length := by rw [← hs]; simp
        have hHW := S.holds hgl hH hs.symm
        have hC2 : CmpLays Try.prog 44 #[] tv 4 ordT gb 0 dk.size W := fun m os dk _ x y => ordt_gr x y _
        have h := AnyQ.insertionSortCmpFunc insl 4 Try.isAgg49 Try.sizeOf49 tv R.hk R.h1 ordT 44 #[] gb 0 gc x y dk W eg hC2 hHW (S.lt hgl) hxy (by omega) (by omega)
        rw [hsz] at h
        refine h.mono fun e w' k => ?_
        obtain ⟨k1, m, os, rfl⟩ := k
        exact ⟨k1, S.on hgl m _ os (Go.Sort.insertionSort_holds swo_ordT dk x y hxy (by omega)).1.1⟩)
      vs.toArray rfl w (SWK.start hH)
    have HS := Lib.hid hcon
    have HR := Lib.hid (And.intro hbase (And.intro r1 (And.intro r2 (And.intro hH (And.intro hgl hb)))))
    clear hcon hC R eg ein hvl hvn hH hEA hgl hst hv0 hrow hgb r1 r2 r3 r4 hbase hb
    obtain ⟨zl, hzl⟩ : ∃ zl, zl = vs.length := ⟨_, rfl⟩
    rw [← hzl] at HS HR ⊢
    have HZ := Lib.hid hzl
    clear hzl
    go_enter Try.func43, Try.ntmps43
    go_wp2_with fail
    refine HS.out.mono ?_
    rintro e w2 ⟨rfl, d', hp, hs, nn', os, rfl⟩
    have HQ := Lib.hid (And.intro hp hs)
    clear hp hs
    go_wp2_with fail
    go_end0
    obtain ⟨hbase, r1, r2, hH, hgl, hbw⟩ := HR.out
    obtain ⟨⟨hsz, -, hperm⟩, hsrt⟩ := HQ.out
    have hz := HZ.out
    have hds : d'.size = vs.length := by simpa using hsz
    have hH2 := tbat_of (holdsK_sortWorldK_c tv 4 w gb 0 vs.toArray d' nn' os hH hgl (by rw [hds]; simp))
    have hpm : d'.toList.Perm vs := by
      have h := hperm
      rw [hz] at h
      rw [show (vs.toArray.extract 0 vs.length).toList = vs by simp] at h
      rw [show (d'.extract 0 vs.length).toList = d'.toList by rw [← hds]; simp] at h
      exact h
    have hpw : Wk d'.toList := by
      show List.Pairwise _ _
      rw [List.pairwise_iff_getElem]
      intro i j hi hj hij
      have hi' : i < d'.size := by simpa using hi
      have hj' : j < d'.size := by simpa using hj
      have h := hsrt i j (Nat.zero_le _) hij (by omega)
      rw [ltOf_ordT, getElem!_pos d' i hi', getElem!_pos d' j hj'] at h
      simpa using h
    have hlen : d'.toList.length = zl := by rw [hz]; simpa using hds
    refine ⟨rfl, d'.toList, hpm, hpw, ⟨hlen, .inr ⟨gb, 0, rfl, ?_, hH2⟩, r1, r2⟩, ?_⟩
    · exact Nat.lt_of_lt_of_le hgl (grown_sortK (n := nn') (os := os) d').size
    · exact (Below.refl _ w).grown (grown_sortK d') hbw (fun j hj => by cases hj; exact hbase)
end Go.Proofs.Ytkpemlgolpihiaa
