/-
  Layer 6 (wal), plain: what each call of a log makes of its disk and of its texts. Conditions: none.
-/
import Derived.Test.YtkfmjkcomjmedaaGreatLm
import Derived.Test.YtkfmjkcomjmedaaGreatQ8
import Derived.Test.YtkfmjkcomjmedaaGreatFm
namespace Go.Proofs.YtkfmjkcomjmedaaGreat
open Go.RowKit Go.Lib
set_option linter.unusedVariables false

/-- A log's files with their texts. -/
abbrev Lt := List (Nat × List (List UInt8))
def partOf (from_ : Nat) (p : List UInt8 × Fl) : Option (Nat × List (List UInt8)) := match numb p.1 with | some n => if from_ ≤ n then some (n, (fa p.2.bytes).1) else none | none => none
def loadL (from_ : Nat) (F : List (List UInt8 × Fl)) : Lt := F.filterMap (partOf from_)
/-- Removes of the log files of some names whose numbers are below one. -/
def rmL (below : Int) : Ds → List (List UInt8) → Ds × Int
  | S, [] => (S, 0)
  | S, k :: r => match numb k with
    | some n => if (n : Int) < below then (if (S.remove k).2 = 0 then rmL below (S.remove k).1 r else S.remove k) else rmL below S r
    | none => rmL below S r
def Ds.rm (S : Ds) (below : Int) : Ds × Int := rmL below S (S.files.map (·.1))
def lastN (from_ : Nat) (L : Lt) : Nat := match L.getLast? with | some p => p.1 + 1 | none => from_
def mayE (S : Ds) (n : Nat) : Int := if S.off = true then 50 else if 99999998 < n then 2 else 0
/-- What Open leaves: the disk, the error, the log. -/
def Ds.opens (S : Ds) (from_ : Nat) : Ds × Int × Lt :=
  if mayE S (lastN from_ (loadL from_ S.files)) = 0 then
    if (S.rm from_).2 = 0 then
      (((S.rm from_).1.make (lname (lastN from_ (loadL from_ S.files)))).1, ((S.rm from_).1.make (lname (lastN from_ (loadL from_ S.files)))).2, loadL from_ S.files ++ [(lastN from_ (loadL from_ S.files), [])])
    else ((S.rm from_).1, (S.rm from_).2, [])
  else (S, mayE S (lastN from_ (loadL from_ S.files)), [])

/-! ### lists of numbered files -/
abbrev Nf := List (Nat × Fl)
def lf (N : Nf) : List (List UInt8 × Fl) := N.map fun p => (lname p.1, p.2)
def Rise (N : Nf) : Prop := N.Pairwise (fun p q => p.1 < q.1) ∧ ∀ p ∈ N, p.1 ≤ 99999998
theorem lf_append (N M : Nf) : lf (N ++ M) = lf N ++ lf M := by simp [lf]
theorem lf_length (N : Nf) : (lf N).length = N.length := by simp [lf]
theorem Rise.left {N M : Nf} (h : Rise (N ++ M)) : Rise N := ⟨(List.pairwise_append.1 h.1).1, fun p hp => h.2 p (by simp [hp])⟩
theorem Rise.lt {N : Nf} {n : Nat} {f : Fl} (h : Rise (N ++ [(n, f)])) : ∀ p ∈ N, p.1 < n := fun p hp => (List.pairwise_append.1 h.1).2.2 p hp (n, f) (by simp)
theorem Rise.snoc {N : Nf} {n : Nat} (f : Fl) (h : Rise N) (hl : ∀ p ∈ N, p.1 < n) (hn : n ≤ 99999998) : Rise (N ++ [(n, f)]) :=
  ⟨List.pairwise_append.2 ⟨h.1, by simp, fun p hp q hq => by simp at hq; subst hq; exact hl p hp⟩, fun p hp => by
    rcases List.mem_append.1 hp with hp | hp
    · exact h.2 p hp
    · simp at hp; subst hp; exact hn⟩
theorem Rise.re {N : Nf} {n : Nat} {f : Fl} (f' : Fl) (h : Rise (N ++ [(n, f)])) : Rise (N ++ [(n, f')]) := h.left.snoc f' h.lt (h.2 (n, f) (by simp))
theorem Rise.filter {N : Nf} (h : Rise N) (c : Nat × Fl → Bool) : Rise (N.filter c) := ⟨h.1.sublist List.filter_sublist, fun p hp => h.2 p (List.mem_filter.1 hp).1⟩
theorem lf_srt {N : Nf} (h : Rise N) : Srt (lf N) := by
  unfold Srt lf
  rw [List.pairwise_map]
  exact h.1.imp_of_mem fun {p q} hp hq hlt => lname_rise hlt (by have := h.2 q hq; omega)
theorem ne_name {n m : Nat} (hn : n ≤ 99999998) (hm : m ≤ 99999998) (h : n ≠ m) : lname n ≠ lname m := fun e => h (lname_inj (by omega) (by omega) e)
theorem lf_none {N : Nf} (h : Rise N) {n : Nat} (hn : n ≤ 99999998) (hne : ∀ p ∈ N, p.1 ≠ n) : getL (lname n) (lf N) = none := by
  rw [getL_none]
  intro p hp
  obtain ⟨q, hq, rfl⟩ := List.mem_map.1 hp
  exact ne_name (h.2 q hq) hn (hne q hq)
theorem lf_get {N : Nf} (h : Rise N) {n : Nat} {f : Fl} (hm : (n, f) ∈ N) : getL (lname n) (lf N) = some f := (getL_iff (lf_srt h)).2 (List.mem_map.2 ⟨_, hm, rfl⟩)
theorem insL_last {k : List UInt8} {v : Fl} : ∀ {l : List (List UInt8 × Fl)}, (∀ p ∈ l, bytesBefore k p.1 = false) → insL k v l = l ++ [(k, v)]
  | [], _ => rfl
  | y :: r, h => by
    unfold insL
    rw [if_neg (by rw [h y (by simp)]; simp), insL_last fun p hp => h p (by simp [hp])]
    rfl
theorem before_asymm {a b : List UInt8} (h : bytesBefore a b = true) : bytesBefore b a = false := by
  cases hc : bytesBefore b a with
  | false => rfl
  | true =>
    have := Go.WideShapes.bytes_trans _ _ _ h hc
    rw [WideAt.bytes_irrefl] at this; cases this
theorem lf_put {N : Nf} (h : Rise N) {n : Nat} (f : Fl) (hn : n ≤ 99999998) (hl : ∀ p ∈ N, p.1 < n) : putL (lname n) f (lf N) = lf (N ++ [(n, f)]) := by
  unfold putL
  rw [delL_none (lf_none h hn fun p hp => by have := hl p hp; omega), insL_last, lf_append]
  · rfl
  · intro p hp
    obtain ⟨q, hq, rfl⟩ := List.mem_map.1 hp
    exact before_asymm (lname_rise (hl q hq) (by omega))
theorem lf_set {N : Nf} {n : Nat} {f : Fl} (f' : Fl) (h : Rise (N ++ [(n, f)])) : setL (lname n) f' (lf (N ++ [(n, f)])) = lf (N ++ [(n, f')]) := by
  rw [lf_append, lf_append]
  unfold setL
  rw [List.map_append]
  congr 1
  · conv => rhs; rw [← List.map_id (lf N)]
    refine List.map_congr_left fun p hp => ?_
    obtain ⟨q, hq, rfl⟩ := List.mem_map.1 hp
    have := h.lt q hq
    rw [if_neg]
    · rfl
    · simp only [beq_iff_eq]
      exact ne_name (h.left.2 q hq) (h.2 (n, f) (by simp)) (by omega)
  · simp [lf]
theorem lf_del {N : Nf} {n : Nat} {f : Fl} (h : Rise ((n, f) :: N)) : delL (lname n) (lf ((n, f) :: N)) = lf N := by
  unfold delL
  obtain ⟨h1, h2⟩ := List.pairwise_cons.1 h.1
  show List.filter _ ((lname n, f) :: lf N) = lf N
  rw [List.filter_cons_of_neg (by simp), List.filter_eq_self]
  intro p hp
  obtain ⟨q, hq, rfl⟩ := List.mem_map.1 hp
  have := h1 q hq
  simp only [Bool.not_eq_true', beq_eq_false_iff_ne]
  exact ne_name (h.2 q (by simp [hq])) (h.2 (n, f) (by simp)) (by simp at this; omega)
def txt (p : Nat × Fl) : Nat × List (List UInt8) := (p.1, (fa p.2.bytes).1)
theorem partOf_lf (from_ : Nat) (p : Nat × Fl) (h : p.1 ≤ 99999998) : partOf from_ (lname p.1, p.2) = if from_ ≤ p.1 then some (txt p) else none := by
  unfold partOf
  rw [numb_lname _ h]
  rfl
theorem load_lf (from_ : Nat) : ∀ {N : Nf}, Rise N → loadL from_ (lf N) = (N.filter fun p => decide (from_ ≤ p.1)).map txt
  | [], _ => rfl
  | p :: N, h => by
    have ih := load_lf from_ (N := N) ⟨(List.pairwise_cons.1 h.1).2, fun q hq => h.2 q (by simp [hq])⟩
    unfold loadL at ih ⊢
    show List.filterMap (partOf from_) ((lname p.1, p.2) :: lf N) = _
    by_cases c : from_ ≤ p.1
    · rw [List.filterMap_cons_some (b := txt p) (by rw [partOf_lf _ _ (h.2 p (by simp)), if_pos c]), ih, List.filter_cons_of_pos (by simpa using c)]
      rfl
    · rw [List.filterMap_cons_none (by rw [partOf_lf _ _ (h.2 p (by simp)), if_neg c]), ih, List.filter_cons_of_neg (by simpa using c)]
theorem rm_skip (below : Int) (S : Ds) : ∀ {N : Nf}, (∀ p ∈ N, p.1 ≤ 99999998) → (∀ p ∈ N, below ≤ (p.1 : Int)) → rmL below S ((lf N).map (·.1)) = (S, 0)
  | [], _, _ => rfl
  | p :: N, h1, h2 => by
    show rmL below S (lname p.1 :: (lf N).map (·.1)) = _
    rw [rmL, numb_lname _ (h1 p (by simp))]
    simp only
    rw [if_neg (by have := h2 p (by simp); omega)]
    exact rm_skip below S (fun q hq => h1 q (by simp [hq])) (fun q hq => h2 q (by simp [hq]))
theorem rm_calm (below : Int) : ∀ {N : Nf}, Rise N → rmL below (calm (lf N)) ((lf N).map (·.1)) = (calm (lf (N.filter fun p => decide (below ≤ (p.1 : Int)))), 0)
  | [], _ => rfl
  | p :: N, h => by
    have hN : Rise N := ⟨(List.pairwise_cons.1 h.1).2, fun q hq => h.2 q (by simp [hq])⟩
    by_cases c : (p.1 : Int) < below
    · show rmL below (calm (lf (p :: N))) (lname p.1 :: (lf N).map (·.1)) = _
      have e : (calm (lf (p :: N))).remove (lname p.1) = (calm (lf N), 0) := by
        rw [remove_calm (lname_ok _) (lf_get h (f := p.2) (by simp)), lf_del h]
      rw [rmL, numb_lname _ (h.2 p (by simp))]
      simp only
      rw [if_pos c, e, if_pos rfl, rm_calm below hN, List.filter_cons_of_neg (by simp; omega)]
    · have hall : ∀ q ∈ p :: N, below ≤ (q.1 : Int) := by
        intro q hq
        rcases List.mem_cons.1 hq with rfl | hq
        · omega
        · have := (List.pairwise_cons.1 h.1).1 q hq
          omega
      rw [rm_skip below _ h.2 hall, List.filter_eq_self.2]
      intro q hq
      simpa using hall q hq
end Go.Proofs.YtkfmjkcomjmedaaGreat
