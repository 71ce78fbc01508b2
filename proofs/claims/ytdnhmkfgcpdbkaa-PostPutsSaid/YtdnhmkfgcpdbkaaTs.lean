/-
  Layer 16 (post), plain: which messages may be, their texts; what looking at one and putting one give. Conditions: as each says.
-/
import Derived.Test.YtdnhmkfgcpdbkaaTo
import Derived.Test.YtdnhmkfgcpdbkaaTp
namespace Go.Proofs.Ytdnhmkfgcpdbkaa
open Go.RowKit
set_option linter.unusedVariables false
set_option linter.unusedSimpArgs false

def okF : Fld → Bool
  | .n lo hi x => decide (lo ≤ x ∧ x ≤ hi)
  | .t x => decide (x.size ≤ 256)
  | .f _ => true
  | .r _ => true
def txF : Fld → List UInt8
  | .n _ _ x => vL x.toNat
  | .t x => txL x.data.toList
  | .f x => vL (if x = true then 1 else 0)
  | .r _ => []
/-- A number's bounds are bounds of numbers. -/
def wfF : Fld → Bool
  | .n lo hi _ => decide (0 ≤ lo ∧ hi ≤ maxN)
  | _ => true
def okE (l : List Fld) : Bool := l.all okF
def txE (l : List Fld) : List UInt8 := l.flatMap txF
def wfE (l : List Fld) : Bool := l.all wfF
def okLs (most : Nat) (L : List (List Fld)) : Bool := decide (L.length ≤ most) && L.all okE
def txLs (L : List (List Fld)) : List UInt8 := vL L.length ++ L.flatMap txE
def okSg (most : Nat) (A : List Fld) (L : List (List Fld)) (C : List Fld) : Bool := okE A && (okLs most L && okE C)
def txSg (A : List Fld) (L : List (List Fld)) (C : List Fld) : List UInt8 := txE A ++ (txLs L ++ txE C)
def okM (m : Mg) : Bool := okE m.A && (okSg 64 m.OA m.OW m.OC && (okSg 512 m.RA m.RP m.RC && (okLs 64 m.MP && (okLs 512 m.EN && okLs 8 m.SE))))
def txM (m : Mg) : List UInt8 := txE m.A ++ (txSg m.OA m.OW m.OC ++ (txSg m.RA m.RP m.RC ++ (txLs m.MP ++ (txLs m.EN ++ txLs m.SE))))
/-! ### looked at -/
theorem lkB_eq (s : Bool) (lo hi x : Int) : lkB s lo hi x = (s || !decide (lo ≤ x ∧ x ≤ hi)) := by
  unfold lkB
  by_cases p : lo ≤ x ∧ x ≤ hi
  · rw [decide_eq_true p, decide_eq_false (by omega : ¬ x < lo), decide_eq_false (by omega : ¬ hi < x)]
    cases s <;> rfl
  · rw [decide_eq_false p]
    by_cases q : x < lo
    · rw [decide_eq_true q]; cases s <;> rfl
    · rw [decide_eq_false q, decide_eq_true (by omega : hi < x)]; cases s <;> rfl
theorem lkT_eq (s : Bool) (t : ByteArray) : lkT s t = (s || !decide (t.size ≤ 256)) := by
  unfold lkT
  by_cases p : t.size ≤ 256
  · rw [decide_eq_true p, decide_eq_false (by omega : ¬ 256 < t.size)]; cases s <;> rfl
  · rw [decide_eq_false p, decide_eq_true (by omega : 256 < t.size)]; cases s <;> rfl
theorem looks_f (s : Bool) (x : Fld) : stepF looksW s x = (s || !okF x, x) := by
  cases x with
  | n lo hi x => show (lkB s lo hi x, Fld.n lo hi x) = _; rw [lkB_eq]; rfl
  | t x => show (lkT s x, Fld.t x) = _; rw [lkT_eq]; rfl
  | f x =>
    cases x
    · show (lkB s 0 1 0, Fld.f false) = _; rw [lkB_eq]; rfl
    · show (lkB s 0 1 1, Fld.f true) = _; rw [lkB_eq]; rfl
  | r v => show (s, Fld.r v) = _; simp [okF]
theorem looks_e : ∀ (l : List Fld) (s : Bool), elemW looksW s l = (s || !okE l, l)
  | [], s => by simp [elemW, stepsW, okE]
  | x :: l, s => by
    have := looks_e l (s || !okF x)
    unfold elemW at this ⊢
    simp only [stepsW, looks_f, this]
    simp [okE, Bool.or_assoc]
theorem looks_els : ∀ (L : List (List Fld)) (s : Bool), elsW looksW s L = (s || !(L.all okE), L)
  | [], s => by simp [elsW, stepsW]
  | x :: L, s => by
    have := looks_els L (s || !okE x)
    unfold elsW at this ⊢
    simp only [stepsW, looks_e, this]
    simp [Bool.or_assoc]
theorem looks_ls (z : List Fld) (most : Nat) (s : Bool) (L : List (List Fld)) : listW looksW z most s L = (s || !okLs most L, L) := by
  have h : looksW.num s 0 most L.length = (lkB s 0 most L.length, (L.length : Int)) := rfl
  unfold listW
  rw [h]
  simp only [if_true]
  rw [looks_els]
  have : lkB s 0 most L.length = (s || !decide (L.length ≤ most)) := by
    rw [lkB_eq]
    congr 2
    exact decide_eq_decide.2 (by omega)
  rw [this]
  simp [okLs, Bool.or_assoc]
theorem looks_sg (z : List Fld) (most : Nat) (s : Bool) (A : List Fld) (L : List (List Fld)) (C : List Fld) : segW looksW z most s A L C = (s || !okSg most A L C, A, L, C) := by
  unfold segW
  simp only [looks_e, looks_ls]
  simp [okSg, Bool.or_assoc]
theorem looks_m (s : Bool) (m : Mg) : msgW looksW s m = (s || !okM m, m) := by
  unfold msgW
  simp only [looks_e, looks_sg, looks_ls]
  simp [okM, Bool.or_assoc]
/-! ### put -/
def BIG : Nat := 70368744177664
theorem vL_le {n : Nat} (h : n ≤ 4611686018427387904) : (vL n).length ≤ 9 := vL_len9 h
theorem txF_len {x : Fld} (h : okF x = true) (hw : wfF x = true) : (txF x).length ≤ 300 := by
  cases x with
  | n lo hi x =>
    have h1 := of_decide_eq_true h
    have h2 := of_decide_eq_true hw
    unfold maxN at h2
    have := vL_len9 (n := x.toNat) (by omega)
    show (vL x.toNat).length ≤ 300
    omega
  | t x =>
    have h1 : x.size ≤ 256 := of_decide_eq_true h
    have := vL_len9 (n := x.size) (by omega)
    show (txL x.data.toList).length ≤ 300
    unfold txL
    rw [List.length_append, size_list]
    omega
  | f x =>
    show (vL _).length ≤ 300
    have := vL_len9 (n := if x = true then 1 else 0) (by split <;> omega)
    omega
  | r v => show ([] : List UInt8).length ≤ 300; simp
theorem puts_f (l : List UInt8) (x : Fld) (h : okF x = true) (hw : wfF x = true) (hl : l.length ≤ BIG) : stepF putsW (l, true) x = ((l ++ txF x, true), x) := by
  unfold BIG at hl
  cases x with
  | n lo hi x =>
    have h1 := of_decide_eq_true h
    have h2 := of_decide_eq_true hw
    show ((l ++ vL x.toNat, true && decide (0 ≤ x ∧ x ≤ maxN ∧ l.length ≤ 70368744177664)), Fld.n lo hi x) = _
    rw [decide_eq_true (⟨by omega, by omega, hl⟩ : 0 ≤ x ∧ x ≤ maxN ∧ l.length ≤ 70368744177664)]
    rfl
  | t x =>
    have h1 : x.size ≤ 256 := of_decide_eq_true h
    show ((l ++ txL x.data.toList, true && decide (x.size ≤ 256 ∧ l.length ≤ 70368744177664)), Fld.t x) = _
    rw [decide_eq_true (⟨h1, hl⟩ : x.size ≤ 256 ∧ l.length ≤ 70368744177664)]
    rfl
  | f x =>
    cases x
    · show ((l ++ vL 0, true && decide ((0 : Int) ≤ 0 ∧ (0 : Int) ≤ maxN ∧ l.length ≤ 70368744177664)), Fld.f false) = _
      rw [decide_eq_true (⟨by omega, by decide, hl⟩ : (0 : Int) ≤ 0 ∧ (0 : Int) ≤ maxN ∧ l.length ≤ 70368744177664)]
      rfl
    · show ((l ++ vL 1, true && decide ((0 : Int) ≤ 1 ∧ (1 : Int) ≤ maxN ∧ l.length ≤ 70368744177664)), Fld.f true) = _
      rw [decide_eq_true (⟨by omega, by decide, hl⟩ : (0 : Int) ≤ 1 ∧ (1 : Int) ≤ maxN ∧ l.length ≤ 70368744177664)]
      rfl
  | r v => show ((l, true), Fld.r v) = _; simp [txF]
theorem txE_len : ∀ {l : List Fld}, okE l = true → wfE l = true → (txE l).length ≤ 300 * l.length
  | [], _, _ => by simp [txE]
  | x :: l, h, hw => by
    unfold okE at h; unfold wfE at hw
    rw [List.all_cons, Bool.and_eq_true] at h hw
    have h1 := txF_len h.1 hw.1
    have h2 := txE_len (l := l) h.2 hw.2
    unfold txE at h2 ⊢
    rw [List.flatMap_cons, List.length_append, List.length_cons]
    omega
theorem puts_e : ∀ (x : List Fld) (l : List UInt8), okE x = true → wfE x = true → l.length + 300 * x.length ≤ BIG → elemW putsW (l, true) x = ((l ++ txE x, true), x)
  | [], l, _, _, _ => by simp [elemW, stepsW, txE]
  | x :: r, l, h, hw, hl => by
    unfold okE at h; unfold wfE at hw
    rw [List.all_cons, Bool.and_eq_true] at h hw
    rw [List.length_cons] at hl
    have h1 := txF_len h.1 hw.1
    have := puts_e r (l ++ txF x) h.2 hw.2 (by rw [List.length_append]; omega)
    unfold elemW at this ⊢
    simp only [stepsW, puts_f l x h.1 hw.1 (by omega), this]
    simp [txE]
theorem puts_els (sz : Nat) : ∀ (L : List (List Fld)) (l : List UInt8), L.all okE = true → L.all wfE = true → (∀ x ∈ L, x.length ≤ sz) → l.length + 300 * sz * L.length ≤ BIG → elsW putsW (l, true) L = ((l ++ L.flatMap txE, true), L)
  | [], l, _, _, _, _ => by simp [elsW, stepsW]
  | x :: r, l, h, hw, hs, hl => by
    rw [List.all_cons, Bool.and_eq_true] at h hw
    rw [List.length_cons, Nat.mul_add, Nat.mul_one] at hl
    have hx := hs x (by simp)
    have h1 := txE_len h.1 hw.1
    have h3 : 300 * x.length ≤ 300 * sz := Nat.mul_le_mul_left _ hx
    have := puts_els sz r (l ++ txE x) h.2 hw.2 (fun y hy => hs y (by simp [hy])) (by rw [List.length_append]; omega)
    unfold elsW at this ⊢
    simp only [stepsW, puts_e x l h.1 hw.1 (by omega), this]
    simp
theorem puts_ls (z : List Fld) (most sz : Nat) (l : List UInt8) (L : List (List Fld)) (h : okLs most L = true) (hw : L.all wfE = true) (hs : ∀ x ∈ L, x.length ≤ sz) (hm : most ≤ 512) (hl : l.length + 300 + 300 * sz * L.length ≤ BIG) : listW putsW z most (l, true) L = ((l ++ txLs L, true), L) := by
  unfold okLs at h
  rw [Bool.and_eq_true, decide_eq_true_eq] at h
  have hv := vL_len9 (n := L.length) (by omega)
  have e : putsW.num (l, true) 0 most L.length = ((l ++ vL L.length, true), (L.length : Int)) := by
    show ((l ++ vL (L.length : Int).toNat, true && decide ((0 : Int) ≤ (L.length : Int) ∧ (L.length : Int) ≤ maxN ∧ l.length ≤ 70368744177664)), (L.length : Int)) = _
    rw [decide_eq_true (⟨by omega, by unfold maxN; omega, by unfold BIG at hl; omega⟩ : (0 : Int) ≤ (L.length : Int) ∧ (L.length : Int) ≤ maxN ∧ l.length ≤ 70368744177664)]
    rfl
  unfold listW
  rw [e]
  simp only [if_true]
  rw [puts_els sz L _ h.2 hw hs (by rw [List.length_append]; omega)]
  simp [txLs]
theorem txLs_len (most sz : Nat) (L : List (List Fld)) (h : okLs most L = true) (hw : L.all wfE = true) (hs : ∀ x ∈ L, x.length ≤ sz) (hm : most ≤ 512) : (txLs L).length ≤ 9 + 300 * sz * L.length := by
  unfold okLs at h
  rw [Bool.and_eq_true, decide_eq_true_eq] at h
  have hv := vL_len9 (n := L.length) (by omega)
  have go : ∀ (L : List (List Fld)), L.all okE = true → L.all wfE = true → (∀ x ∈ L, x.length ≤ sz) → (L.flatMap txE).length ≤ 300 * sz * L.length := by
    intro L
    induction L with
    | nil => intro _ _ _; simp
    | cons x r ih =>
      intro h hw hs
      rw [List.all_cons, Bool.and_eq_true] at h hw
      have h1 := txE_len h.1 hw.1
      have h3 : 300 * x.length ≤ 300 * sz := Nat.mul_le_mul_left _ (hs x (by simp))
      have h4 := ih h.2 hw.2 (fun y hy => hs y (by simp [hy]))
      rw [List.flatMap_cons, List.length_append, List.length_cons, Nat.mul_add, Nat.mul_one]
      omega
  have := go L h.2 hw hs
  unfold txLs
  rw [List.length_append]
  omega
end Go.Proofs.Ytdnhmkfgcpdbkaa
