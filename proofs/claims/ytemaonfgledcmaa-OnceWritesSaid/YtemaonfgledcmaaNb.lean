/-
  Layer 14 (once): what clients did last in memory; contracts of isClient, isSeq, mayBe, set, list, of the code. Conditions: texts within the reach.
-/
import Derived.Test.YtemaonfgledcmaaNa
import Derived.Test.YtemaonfgledcmaaSl
import Derived.Test.YtemaonfgledcmaaAp
import Derived.Test.YtemaonfgledcmaaSm
import Derived.Test.YtemaonfgledcmaaQt
import Derived.Deep.MidRow
import Derived.Deep.RegionHeld3
import Derived.Deep.DeepCutAuto
import Derived.Deep.CutRange
import Derived.Deep.CutBlock
import Derived.Deep.QuietTactic
import Derived.StillTailTactics
import Derived.Laws.Cover1
import Derived.Laws.OwnMore
import Derived.Lib.Hide
namespace Go.Proofs.Ytemaonfgledcmaa
open Go.RowKit
set_option linter.unusedVariables false
set_option linter.unusedSimpArgs false

/-- Its cells. -/
def cv (x : Sn) : List Value := [.int .i64 x.c, .int .i64 x.s, .int .i64 x.e, .string x.v, .bool x.h, .slice x.p x.n x.k, .string x.u]
abbrev sa (x : Sn) : Value := .agg #[.int .i64 x.c, .int .i64 x.s, .int .i64 x.e, .string x.v, .bool x.h, .slice x.p x.n x.k, .string x.u]
theorem cv_length (x : Sn) : (cv x).length = 7 := rfl
theorem cv_one (x : Sn) : ∀ u ∈ cv x, u.oneCell' = true := by
  intro u hu
  simp only [cv, List.mem_cons, List.not_mem_nil, or_false] at hu
  rcases hu with rfl | rfl | rfl | rfl | rfl | rfl | rfl <;> rfl
def cells8 (p : Pl) : List Value := (List.range 8).flatMap fun i => cv (p i)
theorem box_bel14 (w : World) (o : Obj) : Below w.heap.size w (w.alloc o) := (Below.refl _ w).alloc (Nat.le_refl _) o
/-- A client's number. -/
def cliB (n : Int) : Bool := decide (0 ≤ n ∧ n ≤ 7)
def seqB (n : Int) : Bool := decide (1 ≤ n ∧ n ≤ 1099511627775)
theorem isClient_any (n : Int) (b : Bool) (h : cliB n = b) (w : World) : Calls Try.prog 51 #[.int .i64 n] w fun x w' => x = .returned (.bool b) ∧ w = w' := by
  unfold cliB at h
  rcases (show n < 0 ∨ (0 ≤ n ∧ n ≤ 7) ∨ (0 ≤ n ∧ 7 < n) by omega) with q | ⟨q0, q⟩ | ⟨q0, q⟩
  · obtain rfl : b = false := by rw [← h]; exact decide_eq_false (by omega)
    have h1 : ¬ 0 ≤ n := by omega
    clear h
    go_enter Try.func51, Try.ntmps51
    go_wp2_with fail
    go_ret
    exact ⟨rfl, rfl⟩
  · obtain rfl : b = true := by rw [← h]; exact decide_eq_true (by omega)
    have h1 : n < 8 := by omega
    clear h
    go_enter Try.func51, Try.ntmps51
    go_wp2_with fail
    go_ret
    exact ⟨rfl, rfl⟩
  · obtain rfl : b = false := by rw [← h]; exact decide_eq_false (by omega)
    have h1 : ¬ n < 8 := by omega
    clear h
    go_enter Try.func51, Try.ntmps51
    go_wp2_with fail
    go_ret
    exact ⟨rfl, rfl⟩
theorem isSeq_any (n : Int) (b : Bool) (h : seqB n = b) (w : World) : Calls Try.prog 52 #[.int .i64 n] w fun x w' => x = .returned (.bool b) ∧ w = w' := by
  unfold seqB at h
  rcases (show n < 1 ∨ (1 ≤ n ∧ n ≤ 1099511627775) ∨ (1 ≤ n ∧ 1099511627775 < n) by omega) with q | ⟨q0, q⟩ | ⟨q0, q⟩
  · obtain rfl : b = false := by rw [← h]; exact decide_eq_false (by omega)
    have h1 : ¬ 1 ≤ n := by omega
    clear h
    go_enter Try.func52, Try.ntmps52
    go_wp2_with fail
    go_ret
    exact ⟨rfl, rfl⟩
  · obtain rfl : b = true := by rw [← h]; exact decide_eq_true (by omega)
    clear h
    go_enter Try.func52, Try.ntmps52
    go_wp2_with fail
    go_ret
    exact ⟨rfl, rfl⟩
  · obtain rfl : b = false := by rw [← h]; exact decide_eq_false (by omega)
    have h1 : ¬ n ≤ 1099511627775 := by omega
    clear h
    go_enter Try.func52, Try.ntmps52
    go_wp2_with fail
    go_ret
    exact ⟨rfl, rfl⟩
theorem str_empty {v : ByteArray} (h : v.size = 0) : v = ⟨#[]⟩ := by
  obtain ⟨⟨l⟩⟩ := v
  rw [ByteArray.size_mk', List.size_toArray] at h
  rw [List.eq_nil_of_length_eq_zero h]
theorem str_some {v : ByteArray} (h : ¬ v.size = 0) : (v.toList == []) = false ∧ ¬ v.toList = [] := by
  have e : ¬ v.toList = [] := fun e => h (by
    have : v = ⟨#[]⟩ := ba_ext (by rw [e]; kernel_rfl)
    rw [this]; rfl)
  exact ⟨beq_eq_false_iff_ne.2 e, e⟩
set_option maxRecDepth 100000 in
set_option maxHeartbeats 2000000 in
theorem mayBe14_any (x : Sn) (b : Bool) (h : mayS x = b) (w : World) : Calls Try.prog 33 #[sa x] w fun e w' => e = .returned (.bool b) ∧ Below w.heap.size w w' := by
  have HM := Lib.hid h
  clear h
  obtain ⟨c, s, e, v, hs, p, n, k, u⟩ := x
  have HC := Lib.hid (isClient_any c _ rfl)
  have HS := Lib.hid (isSeq_any s _ rfl)
  obtain ⟨bc, hbc⟩ : ∃ q, q = cliB c := ⟨_, rfl⟩
  obtain ⟨bs, hbs⟩ : ∃ q, q = seqB s := ⟨_, rfl⟩
  rw [← hbc] at HC
  rw [← hbs] at HS
  have HBC := Lib.hid (And.intro hbc hbs)
  clear hbc hbs
  have b0 := box_bel14 w (.cells #[.int .i64 c, .int .i64 s, .int .i64 e, .string v, .bool hs, .slice p n k, .string u] 39)
  have hno : ∀ P : Prop, (mayS ⟨c, s, e, v, hs, p, n, k, u⟩ = true → P) → ¬ P → b = false := fun P h1 h2 => by
    rw [← HM.out]
    cases q : mayS _ with
    | false => rfl
    | true => exact absurd (h1 q) h2
  by_cases hv : v.size = 0
  case neg =>
    obtain ⟨v1, v2⟩ := str_some hv
    obtain rfl := hno _ (fun q => (mayS_iff.1 q).2.2.1) hv
    clear hno
    go_enter Try.func33, Try.ntmps33
    go_wp2_with fail
    go_ret
    exact ⟨rfl, ((box_bel14 w _).alloc (by simp) _)⟩
  obtain rfl := str_empty hv
  by_cases hn : n = 0
  case neg =>
    obtain rfl := hno _ (fun q => (mayS_iff.1 q).2.2.2.1) hn
    have hn1 : 0 < n := by omega
    clear hno
    go_enter Try.func33, Try.ntmps33
    go_wp2_with fail
    go_ret
    exact ⟨rfl, ((box_bel14 w _).alloc (by simp) _)⟩
  subst hn
  by_cases hu : u.size = 0
  case neg =>
    obtain ⟨v1, v2⟩ := str_some hu
    obtain rfl := hno _ (fun q => (mayS_iff.1 q).2.2.2.2.1) hu
    clear hno
    go_enter Try.func33, Try.ntmps33
    go_wp2_with fail
    go_ret
    exact ⟨rfl, ((box_bel14 w _).alloc (by simp) _)⟩
  obtain rfl := str_empty hu
  by_cases he : e < 0
  · obtain rfl := hno _ (fun q => (mayS_iff.1 q).2.2.2.2.2.1) (by show ¬ 0 ≤ e; omega)
    clear hno
    go_enter Try.func33, Try.ntmps33
    go_wp2_with fail
    go_ret
    exact ⟨rfl, ((box_bel14 w _).alloc (by simp) _)⟩
  by_cases he2 : e > 999
  · obtain rfl := hno _ (fun q => (mayS_iff.1 q).2.2.2.2.2.2) (by show ¬ e ≤ 999; omega)
    clear hno
    go_enter Try.func33, Try.ntmps33
    go_wp2_with fail
    go_ret
    exact ⟨rfl, ((box_bel14 w _).alloc (by simp) _)⟩
  have hb : b = (bc && bs) := by
    rw [← HM.out, HBC.out.1, HBC.out.2]
    unfold mayS cliB seqB
    have : 0 ≤ e ∧ e ≤ 999 := by omega
    simp [this]
    intros
    rfl
  clear hno hv hu
  cases bc with
  | false =>
    subst hb
    go_enter Try.func33, Try.ntmps33
    go_wp2_with fail
    refine (HC.out _).mono ?_
    rintro e' w' ⟨rfl, rfl⟩
    go_wp2_with fail
    go_ret
    exact ⟨rfl, ((box_bel14 w _).alloc (by simp) _)⟩
  | true =>
    rw [Bool.true_and] at hb
    subst hb
    go_enter Try.func33, Try.ntmps33
    go_wp2_with fail
    refine (HC.out _).mono ?_
    rintro e' w' ⟨rfl, rfl⟩
    go_wp2_with fail
    refine (HS.out _).mono ?_
    rintro e' w' ⟨rfl, rfl⟩
    go_wp2_with fail
    go_ret
    exact ⟨rfl, ((box_bel14 w _).alloc (by simp) _)⟩
/-- Eight places in a block. -/
structure PL (w : World) (b : Nat) (p : Pl) : Prop where
  lt : b < w.heap.size
  at_ : ∀ i, i < 8 → w.rangeAt b (i * 7) (cv (p i))
  wr : w.there b 0 56
theorem PL.cells {w : World} {b : Nat} {p : Pl} (h : PL w b p) {i : Nat} (hi : i < 8) : w.cell? ⟨b, i * 7, none⟩ = some (.int .i64 (p i).c) ∧ w.cell? ⟨b, i * 7 + 1, none⟩ = some (.int .i64 (p i).s) ∧ w.cell? ⟨b, i * 7 + 2, none⟩ = some (.int .i64 (p i).e) ∧ w.cell? ⟨b, i * 7 + 3, none⟩ = some (.string (p i).v) ∧ w.cell? ⟨b, i * 7 + 4, none⟩ = some (.bool (p i).h) ∧ w.cell? ⟨b, i * 7 + 5, none⟩ = some (.slice (p i).p (p i).n (p i).k) ∧ w.cell? ⟨b, i * 7 + 6, none⟩ = some (.string (p i).u) :=
  have k := h.at_ i hi
  ⟨k 0 _ rfl, k 1 _ rfl, k 2 _ rfl, k 3 _ rfl, k 4 _ rfl, k 5 _ rfl, k 6 _ rfl⟩
theorem PL.below {w w' : World} {b : Nat} {p : Pl} (h : PL w b p) (hb : Below w.heap.size w w') : PL w' b p :=
  ⟨Nat.lt_of_lt_of_le h.lt hb.size, fun i hi j v hv => (hb.cell (p := ⟨b, i * 7 + j, none⟩) h.lt).trans (h.at_ i hi j v hv), fun j hj => by
    have := h.wr j hj
    rw [hb.cell (p := ⟨b, 0 + j, none⟩) h.lt, hb.frozen (p := ⟨b, 0 + j, none⟩) h.lt]
    exact this⟩
theorem len_flat (p : Nat → Sn) : ∀ k, ((List.range k).flatMap fun i => cv (p i)).length = k * 7
  | 0 => rfl
  | k + 1 => by rw [List.range_succ, List.flatMap_append, List.length_append, len_flat p k]; simp [cv_length]; omega
theorem PL.whole {w : World} {b : Nat} {p : Pl} (h : PL w b p) : w.rangeAt b 0 (cells8 p) := by
  intro j v hv
  have hl : (cells8 p).length = 56 := by simp only [cells8]; exact len_flat (fun i => p i) 8
  have hj : j < 56 := by rw [← hl]; exact (List.getElem?_eq_some_iff.1 hv).1
  have hq : (cells8 p)[j]? = (cv (p (j / 7)))[j % 7]? := by
    have key : ∀ (k : Nat) (i : Nat), i < k * 7 → ((List.range k).flatMap fun i => cv (p i))[i]? = (cv (p (i / 7)))[i % 7]? := by
      intro k
      induction k with
      | zero => intro i hi; omega
      | succ k ih =>
        intro i hi
        rw [List.range_succ, List.flatMap_append]
        have hl2 : ((List.range k).flatMap fun i => cv (p i)).length = k * 7 := by
          exact len_flat (fun i => p i) k
        by_cases q : i < k * 7
        · rw [List.getElem?_append_left (by rw [hl2]; exact q), ih i q]
        · rw [List.getElem?_append_right (by rw [hl2]; omega), hl2]
          have e1 : i / 7 = k := by omega
          have e2 : i % 7 = i - k * 7 := by omega
          rw [e1, e2]
          simp
    exact key 8 j (by omega)
  rw [hq] at hv
  have := h.at_ (j / 7) (by omega) (j % 7) v hv
  rw [show 0 + j = j / 7 * 7 + j % 7 by omega]
  exact this
theorem PL.put {w : World} {b : Nat} {p q : Pl} (h : PL w b p) {i : Nat} (hi : i < 8) {x : Sn} (hq : q i = x) (ho : ∀ j, ¬ j = i → q j = p j) : PL (w.setCells b (i * 7) (cv x)) b q := by
  have ht : w.there b (i * 7) (cv x).length := fun j hj => by
    rw [cv_length] at hj
    have := h.wr (i * 7 + j) (by omega)
    rwa [Nat.zero_add] at this
  refine ⟨?_, fun j hj => ?_, World.there_setCells h.wr _ _ _⟩
  · have : ∀ (vs : List Value) (o : Nat) (w : World), (w.setCells b o vs).heap.size = w.heap.size := by
      intro vs
      induction vs with
      | nil => intro o w; rfl
      | cons v vs ih => intro o w; rw [World.setCells, ih]; simp
    rw [this]; exact h.lt
  · by_cases e : j = i
    · subst e; rw [hq]; exact World.rangeAt_setCells_same _ _ _ _ ht
    · rw [ho j e]
      refine World.rangeAt_setCells_apart (h.at_ j hj) _ _ _ ?_
      rw [cv_length, cv_length]
      omega
end Go.Proofs.Ytemaonfgledcmaa
