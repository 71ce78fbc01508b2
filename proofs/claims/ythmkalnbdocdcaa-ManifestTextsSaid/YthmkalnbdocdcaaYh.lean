/-
  Layer 12 (manifest): contracts of cmp.Compare at int and string, of order, as slices.SortStableFunc asks for it. Conditions: texts within the reach.
-/
import Derived.Test.YthmkalnbdocdcaaYb
import Derived.Test.YthmkalnbdocdcaaWl
import Derived.Test.YthmkalnbdocdcaaSk
import Derived.Shelf.SlSortCmp.KitK
import Derived.Lib.Hide
namespace Go.Proofs.Ythmkalnbdocdcaa
open Go.RowKit Go.Shelf
open Go.Sort hiding Below
set_option linter.unusedVariables false
set_option linter.unusedSimpArgs false

def okTb (t : Tb) : Prop := okS t.2.2.1 ∧ okS t.2.2.2
def tv (t : Tb) : List Value := [.int .i64 t.1, .int .i64 t.2.1, .string t.2.2.1, .string t.2.2.2]
def tvA (t : Tb) : Value := .agg #[.int .i64 t.1, .int .i64 t.2.1, .string t.2.2.1, .string t.2.2.2]
def cmpN (lt gt : Bool) : Int := if lt = true then -1 else if gt = true then 1 else 0
set_option maxHeartbeats 1000000 in
theorem cmpi_any (x y : Int) (w : World) : Calls Try.prog 67 #[.int .i64 x, .int .i64 y] w fun e w' => e = .returned (.int .i64 (cmpN (decide (x < y)) (decide (y < x)))) ∧ w' = w := by
  rcases Int.lt_trichotomy x y with h | h | h
  · have hr : cmpN (decide (x < y)) (decide (y < x)) = -1 := by unfold cmpN; simp [h]
    rw [hr]
    clear hr
    go_enter Try.func67, Try.ntmps67
    go_wp2
    go_ret
    exact ⟨rfl, rfl⟩
  · subst h
    have hr : cmpN (decide (x < x)) (decide (x < x)) = 0 := by unfold cmpN; simp
    rw [hr]
    clear hr
    go_enter Try.func67, Try.ntmps67
    go_wp2
    go_ret
    exact ⟨rfl, rfl⟩
  · have h' : ¬ x < y := by omega
    have hr : cmpN (decide (x < y)) (decide (y < x)) = 1 := by unfold cmpN; simp [h, h']
    rw [hr]
    clear hr
    go_enter Try.func67, Try.ntmps67
    go_wp2
    go_ret
    exact ⟨rfl, rfl⟩
set_option maxHeartbeats 1000000 in
theorem cmps_any (x y : ByteArray) (w : World) : Calls Try.prog 68 #[.string x, .string y] w fun e w' => e = .returned (.int .i64 (cmpN (ltB x y) (ltB y x))) ∧ w' = w := by
  have hx : (x.toList == x.toList) = true := by simp
  have hy : (y.toList == y.toList) = true := by simp
  cases h1 : ltB x y with
  | true =>
    have h1' : Op.bytesLess x.toList y.toList = true := h1
    have hr : cmpN true (ltB y x) = -1 := rfl
    rw [hr]
    clear hr h1
    go_enter Try.func68, Try.ntmps68
    go_wp2
    go_ret
    exact ⟨rfl, rfl⟩
  | false =>
    have h1' : Op.bytesLess x.toList y.toList = false := h1
    clear h1
    cases h2 : ltB y x with
    | true =>
      have h2' : Op.bytesLess y.toList x.toList = true := h2
      have hne : (x.toList == y.toList) = false := by
        rw [beq_eq_false_iff_ne]
        intro he
        rw [he, less_irr] at h2'
        cases h2'
      have hr : cmpN false true = 1 := rfl
      rw [hr]
      clear hr h2
      go_enter Try.func68, Try.ntmps68
      go_wp2
      go_ret
      exact ⟨rfl, rfl⟩
    | false =>
      have h2' : Op.bytesLess y.toList x.toList = false := h2
      have hne : (x.toList == y.toList) = true := by
        rw [beq_iff_eq]
        exact less_total _ _ h1' h2'
      have hr : cmpN false false = 0 := rfl
      rw [hr]
      clear hr h2
      go_enter Try.func68, Try.ntmps68
      go_wp2
      go_ret
      exact ⟨rfl, rfl⟩
def ordT (a b : Tb) : Int := cmpN (lessT a b) (lessT b a)
theorem ltOf_ordT (x y : Tb) : ltOf ordT x y = lessT x y := by
  unfold ltOf ordT cmpN
  cases h1 : lessT x y with
  | true => simp
  | false => cases h2 : lessT y x <;> simp
theorem swo_ordT : SWO (ltOf ordT) where
  irrefl x := by rw [ltOf_ordT]; exact lessT_irr x
  trans x y z h1 h2 := by rw [ltOf_ordT] at *; exact lessT_trans h1 h2
  ntrans x y z h1 h2 := by rw [ltOf_ordT] at *; exact lessT_ntrans h1 h2
/-- New blocks, and draws. -/
def Gr (w w' : World) : Prop := ∃ q os', w' = grow (w.drewN q) os'
theorem Gr.alloc2 (w : World) (a b : Obj) : Gr w ((w.alloc a).alloc b) := ⟨0, _, by rw [alloc_eq_grow, alloc_eq_grow, grow_grow]; rfl⟩
theorem Gr.trans {a b c : World} (h : Gr a b) (k : Gr b c) : Gr a c := by
  obtain ⟨q, os, rfl⟩ := h
  obtain ⟨q', os', rfl⟩ := k
  refine ⟨q + q', os ++ os', ?_⟩
  rw [← grow_grow]
  have : (grow (a.drewN q) os).drewN q' = grow (a.drewN (q + q')) os := by
    unfold grow World.drewN
    simp [Nat.add_assoc]
  rw [this]
set_option maxHeartbeats 2000000 in
theorem ordt_gr (a b : Tb) (w : World) :
    Calls Try.prog 44 #[tvA a, tvA b] w fun e w' => e = .returned (.int .i64 (ordT a b)) ∧ Gr w w' := by
  obtain ⟨i1, v1, l1, h1⟩ := a
  obtain ⟨i2, v2, l2, h2⟩ := b
  have CI := Lib.hid cmpi_any
  have CS := Lib.hid cmps_any
  have HG := Lib.hid (Gr.alloc2 w (.cells #[.int .i64 i1, .int .i64 v1, .string l1, .string h1] 49) (.cells #[.int .i64 i2, .int .i64 v2, .string l2, .string h2] 49))
  by_cases e : v1 = v2
  · subst e
    by_cases h0 : v1 = 0
    · subst h0
      have hr : ordT (i1, 0, l1, h1) (i2, 0, l2, h2) = cmpN (decide (i2 < i1)) (decide (i1 < i2)) := by unfold ordT; rw [lessT_zero (a := (i1, 0, l1, h1)) (b := (i2, 0, l2, h2)) rfl rfl, lessT_zero (a := (i2, 0, l2, h2)) (b := (i1, 0, l1, h1)) rfl rfl]
      rw [hr]
      clear hr
      unfold tvA
      go_enter Try.func44, Try.ntmps44
      go_wp2_with fail
      refine (CI.out _ _ _).mono ?_
      rintro e w1 ⟨rfl, rfl⟩
      go_wp2
      go_ret
      exact ⟨rfl, HG.out⟩
    · have hr : ordT (i1, v1, l1, h1) (i2, v1, l2, h2) = cmpN (ltB l1 l2) (ltB l2 l1) := by unfold ordT; rw [lessT_lo (a := (i1, v1, l1, h1)) (b := (i2, v1, l2, h2)) rfl h0, lessT_lo (a := (i2, v1, l2, h2)) (b := (i1, v1, l1, h1)) rfl h0]
      have h0' : (v1 == 0) = false := by simpa using h0
      rw [hr]
      clear hr
      unfold tvA
      go_enter Try.func44, Try.ntmps44
      go_wp2_with fail
      refine (CS.out _ _ _).mono ?_
      rintro e w1 ⟨rfl, rfl⟩
      go_wp2
      go_ret
      exact ⟨rfl, HG.out⟩
  · have hr : ordT (i1, v1, l1, h1) (i2, v2, l2, h2) = cmpN (decide (v1 < v2)) (decide (v2 < v1)) := by unfold ordT; rw [lessT_lv (a := (i1, v1, l1, h1)) (b := (i2, v2, l2, h2)) e, lessT_lv (a := (i2, v2, l2, h2)) (b := (i1, v1, l1, h1)) (fun k => e k.symm)]
    have e' : (v1 == v2) = false := by simpa using e
    rw [hr]
    clear hr
    unfold tvA
    go_enter Try.func44, Try.ntmps44
    go_wp2_with fail
    refine (CI.out _ _ _).mono ?_
    rintro e w1 ⟨rfl, rfl⟩
    go_wp2
    go_ret
    exact ⟨rfl, HG.out⟩
end Go.Proofs.Ythmkalnbdocdcaa
