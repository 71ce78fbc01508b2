/-
  Layer 8 (bloom), plain: bits of bytes by their places, a key's places, the bits of keys. No function of the program is spoken of. Conditions: none.
-/
import Derived.Test.YtobhjmkaamjoeaaGreatCm
namespace Go.Proofs.YtobhjmkaamjoeaaGreat
open Go.RowKit

/-! ### bits -/
def bitB (p : Nat) : UInt8 := UInt8.ofNat (2 ^ (p % 8))
theorem bitB_toNat (p : Nat) : (bitB p).toNat = 2 ^ (p % 8) := by
  have h : p % 8 < 8 := Nat.mod_lt _ (by omega)
  have h2 : 2 ^ (p % 8) < 2 ^ 8 := Nat.pow_lt_pow_right (by omega) h
  rw [bitB, UInt8.toNat_ofNat']
  exact Nat.mod_eq_of_lt h2
def isB (l : List UInt8) (p : Nat) : Bool := (l.getD (p / 8) 0).toNat.testBit (p % 8)
def setB (l : List UInt8) (p : Nat) : List UInt8 := l.set (p / 8) (l.getD (p / 8) 0 ||| bitB p)
def allB (l : List UInt8) (ps : List Nat) : List UInt8 := ps.foldl setB l
theorem setB_length (l : List UInt8) (p : Nat) : (setB l p).length = l.length := by simp [setB]
theorem allB_length (ps : List Nat) : ∀ l : List UInt8, (allB l ps).length = l.length := by
  induction ps with
  | nil => intro l; rfl
  | cons p ps ih => intro l; exact (ih (setB l p)).trans (setB_length l p)
theorem isB_setB (l : List UInt8) (p q : Nat) (h : q / 8 < l.length) : isB (setB l q) p = (isB l p || decide (p = q)) := by
  unfold isB setB
  by_cases e : p / 8 = q / 8
  · have h1 : (l.set (q / 8) (l.getD (q / 8) 0 ||| bitB q)).getD (p / 8) 0 = l.getD (p / 8) 0 ||| bitB q := by
      rw [e, List.getD_eq_getElem?_getD, List.getElem?_set_self h]; rfl
    rw [h1, UInt8.toNat_or, Nat.testBit_or, bitB_toNat, Nat.testBit_two_pow]
    congr 1
    by_cases c : p = q
    · subst c; simp
    · have : ¬ q % 8 = p % 8 := by omega
      simp [c, this]
  · have h1 : (l.set (q / 8) (l.getD (q / 8) 0 ||| bitB q)).getD (p / 8) 0 = l.getD (p / 8) 0 := by
      rw [List.getD_eq_getElem?_getD, List.getElem?_set_ne (fun c => e c.symm), List.getD_eq_getElem?_getD]
    have c : ¬ p = q := fun c => e (by rw [c])
    rw [h1]
    simp [c]
theorem isB_allB (ps : List Nat) (p : Nat) : ∀ l : List UInt8, (∀ q ∈ ps, q / 8 < l.length) → isB (allB l ps) p = (isB l p || decide (p ∈ ps)) := by
  induction ps with
  | nil => intro l _; simp [allB]
  | cons q ps ih =>
    intro l h
    have h2 := ih (setB l q) (fun x hx => by rw [setB_length]; exact h x (by simp [hx]))
    have h3 := isB_setB l p q (h q (by simp))
    show isB (allB (setB l q) ps) p = _
    rw [h2, h3, Bool.or_assoc]
    congr 1
    simp [List.mem_cons, Bool.decide_or]
theorem u8_bits {a b : UInt8} (h : ∀ i, i < 8 → a.toNat.testBit i = b.toNat.testBit i) : a = b := by
  apply UInt8.toNat_inj.1
  apply Nat.eq_of_testBit_eq
  intro i
  by_cases hi : i < 8
  · exact h i hi
  · have ha := a.toNat_lt
    have hb := b.toNat_lt
    have hp : 2 ^ 8 ≤ 2 ^ i := Nat.pow_le_pow_right (by omega) (by omega)
    rw [Nat.testBit_lt_two_pow (Nat.lt_of_lt_of_le ha hp), Nat.testBit_lt_two_pow (Nat.lt_of_lt_of_le hb hp)]
theorem isB_at (l : List UInt8) (k i : Nat) (hi : i < 8) : isB l (8 * k + i) = (l.getD k 0).toNat.testBit i := by
  unfold isB
  rw [show (8 * k + i) / 8 = k by omega, show (8 * k + i) % 8 = i by omega]
theorem isB_ext {l m : List UInt8} (h : l.length = m.length) (hb : ∀ p, isB l p = isB m p) : l = m := by
  apply List.ext_getElem h
  intro k h1 h2
  have e1 : l.getD k 0 = l[k] := by rw [List.getD_eq_getElem?_getD, List.getElem?_eq_getElem h1]; rfl
  have e2 : m.getD k 0 = m[k] := by rw [List.getD_eq_getElem?_getD, List.getElem?_eq_getElem h2]; rfl
  apply u8_bits
  intro i hi
  rw [← e1, ← e2, ← isB_at l k i hi, ← isB_at m k i hi]
  exact hb _

/-! ### a key's places -/
def stepL (L : List UInt8) : Nat := crcV 0 (L ++ [35]) ||| 1
def plc (L : List UInt8) (n i : Nat) : Nat := (crcV 0 L + i * stepL L) % n
def keyPs (L : List UInt8) (n k : Nat) : List Nat := (List.range k).map (plc L n)
def keysPs (Ls : List (List UInt8)) (n : Nat) : List Nat := Ls.flatMap fun L => keyPs L n 6
theorem stepL_lt (L : List UInt8) : stepL L < 4294967296 := Nat.or_lt_two_pow (n := 32) (crcV_lt _ (by omega)) (by omega)
theorem plc_lt (L : List UInt8) (n i : Nat) (h : 0 < n) : plc L n i < n := Nat.mod_lt _ h
theorem keyPs_succ (L : List UInt8) (n k : Nat) : keyPs L n (k + 1) = keyPs L n k ++ [plc L n k] := by simp [keyPs, List.range_succ]
theorem keyPs_lt {L : List UInt8} {n k p : Nat} (h : 0 < n) (hp : p ∈ keyPs L n k) : p < n := by
  simp only [keyPs, List.mem_map] at hp
  obtain ⟨i, _, rfl⟩ := hp
  exact plc_lt L n i h
theorem keysPs_lt {Ls : List (List UInt8)} {n p : Nat} (h : 0 < n) (hp : p ∈ keysPs Ls n) : p < n := by
  simp only [keysPs, List.mem_flatMap] at hp
  obtain ⟨L, _, hp⟩ := hp
  exact keyPs_lt h hp
theorem keysPs_snoc (Ls : List (List UInt8)) (L : List UInt8) (n : Nat) : keysPs (Ls ++ [L]) n = keysPs Ls n ++ keyPs L n 6 := by simp [keysPs, List.flatMap_append]
theorem allB_snoc (l : List UInt8) (ps : List Nat) (p : Nat) : allB l (ps ++ [p]) = setB (allB l ps) p := by simp [allB, List.foldl_append]
theorem allB_append (l : List UInt8) (ps qs : List Nat) : allB l (ps ++ qs) = allB (allB l ps) qs := by simp [allB, List.foldl_append]

/-! ### bits of keys -/
def nBytes (k : Nat) : Nat := max 8 ((min k 4096 * 10 + 7) / 8)
theorem nBytes_ge (k : Nat) : 8 ≤ nBytes k := by unfold nBytes; omega
theorem nBytes_le (k : Nat) : nBytes k ≤ 5120 := by unfold nBytes; omega
def makeL (Ls : List (List UInt8)) : List UInt8 := allB (List.replicate (nBytes Ls.length) 0) (keysPs Ls (8 * nBytes Ls.length))
def hasL (s L : List UInt8) : Bool := s.isEmpty || (keyPs L (8 * s.length) 6).all (isB s)
theorem makeL_length (Ls : List (List UInt8)) : (makeL Ls).length = nBytes Ls.length := by simp [makeL, allB_length]
theorem isB_makeL (Ls : List (List UInt8)) (p : Nat) : isB (makeL Ls) p = decide (p ∈ keysPs Ls (8 * nBytes Ls.length)) := by
  have h8 := nBytes_ge Ls.length
  rw [makeL, isB_allB]
  · have : isB (List.replicate (nBytes Ls.length) 0) p = false := by
      unfold isB
      rw [List.getD_eq_getElem?_getD, List.getElem?_replicate]
      split <;> simp
    rw [this, Bool.false_or]
  · intro q hq
    have := keysPs_lt (by omega) hq
    rw [List.length_replicate]
    omega
theorem mem_keysPs {Ls : List (List UInt8)} {L : List UInt8} {n p : Nat} (h : L ∈ Ls) (hp : p ∈ keyPs L n 6) : p ∈ keysPs Ls n := by
  simp only [keysPs, List.mem_flatMap]
  exact ⟨L, h, hp⟩
/-- Of keys of which bits were made each is there. -/
theorem has_makeL {Ls : List (List UInt8)} {L : List UInt8} (h : L ∈ Ls) : hasL (makeL Ls) L = true := by
  unfold hasL
  rw [Bool.or_eq_true]
  right
  rw [List.all_eq_true]
  intro p hp
  rw [makeL_length] at hp
  rw [isB_makeL]
  simpa using mem_keysPs h hp
theorem sub_keysPs {Ls Ms : List (List UInt8)} (n : Nat) (h : ∀ L ∈ Ls, L ∈ Ms) (p : Nat) (hp : p ∈ keysPs Ls n) : p ∈ keysPs Ms n := by
  simp only [keysPs, List.mem_flatMap] at hp ⊢
  obtain ⟨L, hL, hp⟩ := hp
  exact ⟨L, h L hL, hp⟩
/-- The same keys, as many: the same bits. -/
theorem makeL_same {Ls Ms : List (List UInt8)} (hl : Ls.length = Ms.length) (h1 : ∀ L ∈ Ls, L ∈ Ms) (h2 : ∀ L ∈ Ms, L ∈ Ls) : makeL Ls = makeL Ms := by
  apply isB_ext
  · rw [makeL_length, makeL_length, hl]
  · intro p
    rw [isB_makeL, isB_makeL, hl]
    exact decide_eq_decide.2 ⟨sub_keysPs _ h1 p, sub_keysPs _ h2 p⟩
/-- Keys of which each is one of others, as many: no bit more. -/
theorem makeL_sub {Ls Ms : List (List UInt8)} (hl : Ls.length = Ms.length) (h1 : ∀ L ∈ Ls, L ∈ Ms) (k i : Nat) (hi : i < 8) (hb : ((makeL Ls).getD k 0).toNat.testBit i = true) : ((makeL Ms).getD k 0).toNat.testBit i = true := by
  rw [← isB_at _ k i hi, isB_makeL] at hb
  rw [← isB_at _ k i hi, isB_makeL, ← hl]
  have hb' := of_decide_eq_true hb
  exact decide_eq_true (sub_keysPs _ h1 _ hb')
end Go.Proofs.YtobhjmkaamjoeaaGreat
