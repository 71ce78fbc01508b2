/-
  Texts of mine as one, in the order in which they build: Wa, Wb, Wc, We, Wd, Wf, Wg, Wh. Conditions: as each says.
-/
import Derived.Test.YtkfmjkcomjmedaaGreatAp
import Derived.Test.YtkfmjkcomjmedaaGreatQ7
import Derived.Test.YtkfmjkcomjmedaaGreatRg
import Derived.Lib.Hide
import Derived.Deep.DeepCutAuto
import Derived.Deep.CutBlock
namespace Go.Proofs.YtkfmjkcomjmedaaGreat
open Go.RowKit
set_option linter.unusedVariables false

abbrev Fe := List UInt8 × Fl
/-- A list of files as cells: name, bytes, how many are sure. -/
def fv : List Fe → List Value
  | [] => []
  | p :: l => .string ⟨p.1.toArray⟩ :: .string ⟨p.2.bytes.toArray⟩ :: .int .i64 (p.2.sure : Int) :: fv l
theorem fv_len : ∀ l : List Fe, (fv l).length = l.length * 3
  | [] => rfl
  | _ :: l => by simp only [fv, List.length_cons, fv_len l]; omega
theorem fv_append : ∀ l r : List Fe, fv (l ++ r) = fv l ++ fv r
  | [], _ => rfl
  | _ :: l, r => by simp only [List.cons_append, fv, fv_append l r]
theorem fv_one : ∀ (l : List Fe), ∀ u ∈ fv l, u.oneCell' = true
  | [], u, h => by cases h
  | p :: l, u, h => by
    simp only [fv, List.mem_cons] at h
    rcases h with rfl | rfl | rfl | h
    · rfl
    · rfl
    · rfl
    · exact fv_one l u h
theorem fv_at : ∀ (l : List Fe) (i : Nat) (h : i < l.length), (fv l)[i * 3]? = some (.string ⟨l[i].1.toArray⟩) ∧ (fv l)[i * 3 + 1]? = some (.string ⟨l[i].2.bytes.toArray⟩) ∧ (fv l)[i * 3 + 2]? = some (.int .i64 (l[i].2.sure : Int))
  | p :: l, 0, h => by simp [fv]
  | p :: l, i + 1, h => by
    have e : (i + 1) * 3 = i * 3 + 3 := by omega
    have := fv_at l i (by simpa using h)
    simp only [e, fv, List.getElem_cons_succ]
    refine ⟨?_, ?_, ?_⟩
    · rw [show i * 3 + 3 = i * 3 + 1 + 1 + 1 by omega]; simpa using this.1
    · rw [show i * 3 + 3 + 1 = i * 3 + 1 + 1 + 1 + 1 by omega]; simpa using this.2.1
    · rw [show i * 3 + 3 + 2 = i * 3 + 2 + 1 + 1 + 1 by omega]; simpa using this.2.2
/-- A list of files lies at a. -/
def RdF (w : World) (a : Option Addr) (l : List Fe) : Prop := l = [] ∨ ∃ b off, a = some ⟨b, off, none⟩ ∧ b < w.heap.size ∧ (∀ j u, (fv l)[j]? = some u → w.cell? ⟨b, off + j, none⟩ = some u) ∧ ∃ cs fz, w.heap[b]? = some (.cells cs 82 fz)
theorem RdF.old {w w' : World} {a : Option Addr} {l : List Fe} (h : RdF w a l) (hb : Below w.heap.size w w') : RdF w' a l := by
  rcases h with rfl | ⟨b, off, rfl, hlt, hc, cs, fz, ht⟩
  · exact .inl rfl
  · exact .inr ⟨b, off, rfl, Nat.lt_of_lt_of_le hlt hb.size, fun j u hj => (hb.cell (p := ⟨b, off + j, none⟩) hlt).trans (hc j u hj), cs, fz, (hb.block b hlt).trans ht⟩
theorem RdF.isNone {w : World} {a : Option Addr} {l : List Fe} (h : RdF w a l) : a = none → l.length = 0 := by
  rintro rfl
  rcases h with rfl | ⟨_, _, h, _⟩
  · rfl
  · cases h
theorem RdF.news {w : World} {a : Option Addr} {l : List Fe} (h : RdF w a l) : ∀ y, a = some y → ∀ j u, (fv l)[j]? = some u → w.cell? (y.add j) = some u := by
  rintro y rfl j u hj
  rcases h with rfl | ⟨b, off, h, hb, hc, -⟩
  · simp [fv] at hj
  · cases h
    have e : (⟨b, off, none⟩ : Addr).add j = ⟨b, off + j, none⟩ := by unfold Addr.add; split <;> simp_all
    rw [e]; exact hc j u hj
theorem RdF.at {w : World} {a : Option Addr} {l : List Fe} (h : RdF w a l) {i : Nat} (hi : i < l.length) : ∃ b off, a = some ⟨b, off, none⟩ ∧ b < w.heap.size ∧ w.cell? ⟨b, off + i * 3, none⟩ = some (.string ⟨l[i].1.toArray⟩) ∧ w.cell? ⟨b, off + i * 3 + 1, none⟩ = some (.string ⟨l[i].2.bytes.toArray⟩) ∧ w.cell? ⟨b, off + i * 3 + 2, none⟩ = some (.int .i64 (l[i].2.sure : Int)) := by
  rcases h with rfl | ⟨b, off, rfl, hlt, hc, -⟩
  · cases hi
  · have := fv_at l i hi
    exact ⟨b, off, rfl, hlt, hc _ _ this.1, by rw [Nat.add_assoc]; exact hc _ _ this.2.1, by rw [Nat.add_assoc]; exact hc _ _ this.2.2⟩
theorem RdF.take {w : World} {a : Option Addr} {l : List Fe} (h : RdF w a l) (k : Nat) : RdF w a (l.take k) := by
  rcases h with rfl | ⟨b, off, rfl, hlt, hc, ht⟩
  · exact .inl (by simp)
  · refine .inr ⟨b, off, rfl, hlt, fun j u hj => hc j u ?_, ht⟩
    rw [← List.take_append_drop k l, fv_append, List.getElem?_append_left (List.getElem?_eq_some_iff.1 hj).1]
    exact hj
theorem RdF.drop {w : World} {b off : Nat} {l : List Fe} (h : RdF w (some ⟨b, off, none⟩) l) {k : Nat} (hk : k ≤ l.length) : RdF w (some ⟨b, off + k * 3, none⟩) (l.drop k) := by
  rcases h with rfl | ⟨b', off', he, hlt, hc, ht⟩
  · exact .inl (by simp)
  · cases he
    refine .inr ⟨b, off + k * 3, rfl, hlt, fun j u hj => ?_, ht⟩
    rw [Nat.add_assoc]
    refine hc _ u ?_
    conv => lhs; rw [← List.take_append_drop k l, fv_append]
    rw [List.getElem?_append_right (by rw [fv_len, List.length_take]; omega), fv_len, List.length_take, Nat.min_eq_left hk, Nat.add_sub_cancel_left]
    exact hj
/-- The document's disk as a value. -/
def RefD (w : World) (q : Value) (S : Ds) : Prop := ∃ a c, q = .agg #[.slice a S.files.length c, .int .i64 S.fuse, .bool S.off] ∧ RdF w a S.files ∧ S.files.length ≤ c ∧ c ≤ maxLen
theorem RefD.old {w w' : World} {q : Value} {S : Ds} (h : RefD w q S) (hb : Below w.heap.size w w') : RefD w' q S := by
  obtain ⟨a, c, rfl, h1, h2⟩ := h
  exact ⟨a, c, rfl, h1.old hb, h2⟩
end Go.Proofs.YtkfmjkcomjmedaaGreat
namespace Go.Proofs.YtkfmjkcomjmedaaGreat
open Go.RowKit
set_option linter.unusedVariables false
set_option linter.unusedSimpArgs false

/-- Where a file stands; -1: nowhere. -/
def fIdx (n : List UInt8) (l : List Fe) : Int := match l.findIdx? (fun p => p.1 == n) with | some k => (k : Int) | none => -1
theorem fIdx_at {n : List UInt8} {l : List Fe} {k : Nat} (hk : k < l.length) (h : l[k].1 = n) (hp : ∀ j (hj : j < l.length), j < k → l[j].1 ≠ n) : fIdx n l = k := by
  unfold fIdx
  have : l.findIdx? (fun p => p.1 == n) = some k := by
    rw [List.findIdx?_eq_some_iff_getElem]
    exact ⟨hk, by simpa using h, fun j hj => by simpa using hp j (by omega) hj⟩
  rw [this]
theorem fIdx_none {n : List UInt8} {l : List Fe} (hp : ∀ j (hj : j < l.length), l[j].1 ≠ n) : fIdx n l = -1 := by
  unfold fIdx
  have : l.findIdx? (fun p => p.1 == n) = none := by
    rw [List.findIdx?_eq_none_iff]
    intro p hp2
    obtain ⟨j, hj, rfl⟩ := List.getElem_of_mem hp2
    simpa using hp j hj
  rw [this]
set_option maxRecDepth 100000 in
set_option maxHeartbeats 2000000 in
theorem find_ref {w : World} {q : Value} {S : Ds} (h : RefD w q S) (hl : S.files.length ≤ 1000000) (n : List UInt8) :
    Calls Tryz.prog 58 #[q, .string ⟨n.toArray⟩] w fun e w' => e = .returned (.int .i64 (fIdx n S.files)) ∧ Below w.heap.size w w' := by
  obtain ⟨a, c, rfl, h1, h2, h3⟩ := h
  obtain ⟨l, hle⟩ : ∃ l, l = S.files := ⟨_, rfl⟩
  rw [← hle] at h1 h2 hl ⊢
  have H1 := Lib.hid h1
  obtain ⟨ln, hln⟩ : ∃ ln, ln = l.length := ⟨_, rfl⟩
  rw [← hln] at h2 hl ⊢
  have HLN := Lib.hid hln
  clear h1 hle hln
  go_enter Tryz.func58, Tryz.ntmps58
  go_wp2_with fail
  generalize hW1 : World.alloc w (.cells #[.slice a ln c, .int .i64 S.fuse, .bool S.off] 28) = W1
  have B1 : Below w.heap.size w W1 := by rw [← hW1]; exact (Below.refl _ _).alloc (Nat.le_refl _) _
  have x0 : W1.cell? ⟨w.heap.size, 0, none⟩ = some (.slice a ln c) := by rw [← hW1]; simp
  clear hW1
  have R1 := Lib.hid (H1.out.old B1)
  have BB := Lib.hid B1
  clear B1
  go_loopw [5] (fun i wr => ∃ k : Nat, i = .int .i64 k ∧ k ≤ ln ∧ (∀ j (hj : j < l.length), j < k → l[j].1 ≠ n) ∧ Below W1.heap.size W1 wr) (fun i _ => ln - (intOf i).toNat)
  case atStart => exact ⟨0, rfl, Nat.zero_le _, fun _ _ h => absurd h (Nat.not_lt_zero _), Below.refl _ _⟩
  case round =>
    obtain ⟨k, rfl, hk, hp, bw⟩ := hrel
    have y0 := (bw.cell (p := ⟨w.heap.size, 0, none⟩) (cell_lt x0)).trans x0
    have BW := Lib.hid bw
    clear bw
    have HP := Lib.hid hp
    clear hp
    by_cases hlt : k < ln
    · have hkl : k < l.length := by rw [← HLN.out]; exact hlt
      obtain ⟨b, off, rfl, hb, c0, -, -⟩ := (R1.out.old BW.out).at hkl
      by_cases he : l[k].1 = n
      · have hi := fIdx_at hkl he HP.out
        rw [he] at c0
        have HI := Lib.hid hi
        clear hi he
        go_wp2_with fail
        go_ret
        exact ⟨by rw [HI.out]; rfl, bt BB.out BW.out⟩
      · obtain ⟨m, hm⟩ : ∃ m, m = l[k].1 := ⟨_, rfl⟩
        rw [← hm] at c0 he
        have HM := Lib.hid hm
        have HE := Lib.hid he
        clear hm
        have hne : (m == n) = false := by simpa using he
        clear he
        go_wp2_with fail
        go_roundw
        case rel =>
          refine ⟨k + 1, by go_num, hlt, fun j hj hjk => ?_, BW.out⟩
          by_cases hjk2 : j < k
          · exact HP.out j hj hjk2
          · obtain rfl : j = k := by omega
            rw [← HM.out]; exact HE.out
        case measure => simp [intOf]; omega
    · have hi := fIdx_none (n := n) (l := l) (fun j hj => HP.out j hj (by have := HLN.out; omega))
      have HI := Lib.hid hi
      clear hi
      go_wp2_with fail
      go_ret
      exact ⟨by rw [HI.out]; rfl, bt BB.out BW.out⟩
end Go.Proofs.YtkfmjkcomjmedaaGreat
namespace Go.Proofs.YtkfmjkcomjmedaaGreat
open Go.RowKit
set_option linter.unusedVariables false
set_option linter.unusedSimpArgs false

def DoR (w : World) (S : Ds) (x : Int) (e : Ending) (w' : World) : Prop := ∃ q', e = .returned (.tuple #[q', .int .i64 x]) ∧ RefD w' q' S ∧ Below w.heap.size w w'
set_option maxRecDepth 100000 in
set_option maxHeartbeats 2000000 in
theorem doing_ref {w : World} {q : Value} {S : Ds} (h : RefD w q S) (hf : -9223372036854775808 ≤ S.fuse ∧ S.fuse ≤ 9223372036854775807) :
    Calls Tryz.prog 66 #[q] w (DoR w (S.begin true) (begE true S.fuse S.off)) := by
  obtain ⟨a, c, rfl, h1, h2, h3⟩ := h
  obtain ⟨l, fuse, off⟩ := S
  simp only at h1 h2 h3 hf ⊢
  have H1 := Lib.hid h1
  obtain ⟨ln, hln⟩ : ∃ ln, ln = l.length := ⟨_, rfl⟩
  have H2 := Lib.hid h2
  have H3 := Lib.hid h3
  have fin : ∀ (W : World) (f' : Int) (o' : Bool), Below w.heap.size w W → RefD W (.agg #[.slice a ln c, .int .i64 f', .bool o']) ⟨l, f', o'⟩ := fun W f' o' hB => ⟨a, c, by rw [hln], H1.out.old hB, H2.out, H3.out⟩
  have FIN := Lib.hid fin
  rw [← hln]
  clear h1 h2 h3 hln fin
  cases off with
  | true =>
    have e1 : begE true fuse true = 50 := by simp [begE]
    have e2 : Ds.begin ⟨l, fuse, true⟩ true = ⟨l, fuse, true⟩ := by simp [Ds.begin, begF, begO]
    rw [e1, e2]
    clear e1 e2
    go_enter Tryz.func66, Tryz.ntmps66
    go_wp2_with fail
    refine bodyPost_ret (v := .tuple #[.agg #[.slice a ln c, .int .i64 fuse, .bool true], .int .i64 50]) (by simp [results, Tryz.f66, go_sem]) rfl ?_
    refine (fun hB => ⟨_, rfl, FIN.out _ _ _ hB, hB⟩ : Below w.heap.size w _ → _) ?_
    repeat (first | assumption | exact Below.refl _ _ | (refine Below.alloc ?_ ?_ _) | (refine Below.setCell ?_ ?_ _) | (refine Below.drew ?_))
    all_goals (first | omega | (simp; done) | (simp; omega))
  | false =>
    by_cases h0 : fuse = 0
    · subst h0
      have e1 : begE true 0 false = 50 := by simp [begE]
      have e2 : Ds.begin ⟨l, 0, false⟩ true = ⟨l, 0, true⟩ := by simp [Ds.begin, begF, begO]
      rw [e1, e2]
      clear e1 e2
      go_enter Tryz.func66, Tryz.ntmps66
      go_wp2_with fail
      refine bodyPost_ret (v := .tuple #[.agg #[.slice a ln c, .int .i64 0, .bool true], .int .i64 50]) (by simp [results, Tryz.f66, go_sem]) rfl ?_
      refine (fun hB => ⟨_, rfl, FIN.out _ _ _ hB, hB⟩ : Below w.heap.size w _ → _) ?_
      repeat (first | assumption | exact Below.refl _ _ | (refine Below.alloc ?_ ?_ _) | (refine Below.setCell ?_ ?_ _) | (refine Below.drew ?_))
      all_goals (first | omega | (simp; done) | (simp; omega))
    · have e1 : begE true fuse false = 0 := by simp [begE, h0]
      by_cases hp : 0 < fuse
      · have hw1 : IntKind.i64.wrap (fuse - 1) = fuse - 1 := IntWalk.i64_in _ (by omega)
        have e2 : Ds.begin ⟨l, fuse, false⟩ true = ⟨l, fuse - 1, false⟩ := by simp [Ds.begin, begF, begO, h0, hp]
        rw [e1, e2]
        clear e1 e2
        go_enter Tryz.func66, Tryz.ntmps66
        go_wp2_with fail
        refine bodyPost_ret (v := .tuple #[.agg #[.slice a ln c, .int .i64 (fuse - 1), .bool false], .int .i64 0]) (by simp [results, Tryz.f66, go_sem]) rfl ?_
        refine (fun hB => ⟨_, rfl, FIN.out _ _ _ hB, hB⟩ : Below w.heap.size w _ → _) ?_
        repeat (first | assumption | exact Below.refl _ _ | (refine Below.alloc ?_ ?_ _) | (refine Below.setCell ?_ ?_ _) | (refine Below.drew ?_))
        all_goals (first | omega | (simp; done) | (simp; omega))
      · have e2 : Ds.begin ⟨l, fuse, false⟩ true = ⟨l, fuse, false⟩ := by simp [Ds.begin, begF, begO, h0, hp]
        rw [e1, e2]
        clear e1 e2
        go_enter Tryz.func66, Tryz.ntmps66
        go_wp2_with fail
        refine bodyPost_ret (v := .tuple #[.agg #[.slice a ln c, .int .i64 fuse, .bool false], .int .i64 0]) (by simp [results, Tryz.f66, go_sem]) rfl ?_
        refine (fun hB => ⟨_, rfl, FIN.out _ _ _ hB, hB⟩ : Below w.heap.size w _ → _) ?_
        repeat (first | assumption | exact Below.refl _ _ | (refine Below.alloc ?_ ?_ _) | (refine Below.setCell ?_ ?_ _) | (refine Below.drew ?_))
        all_goals (first | omega | (simp; done) | (simp; omega))
end Go.Proofs.YtkfmjkcomjmedaaGreat
namespace Go.Proofs.YtkfmjkcomjmedaaGreat
open Go.RowKit
set_option linter.unusedVariables false
set_option linter.unusedSimpArgs false

theorem less_before : ∀ a b : List UInt8, Op.bytesLess a b = bytesBefore a b
  | [], [] => by simp [Op.bytesLess, bytesBefore]
  | [], _ :: _ => by simp [Op.bytesLess, bytesBefore]
  | _ :: _, [] => by simp [Op.bytesLess, bytesBefore]
  | a :: x, b :: y => by simp [Op.bytesLess, bytesBefore, less_before x y]

section
variable {α : Type}
theorem delL_out {n : List UInt8} {l : List (List UInt8 × α)} (h : ∀ p ∈ l, p.1 ≠ n) : delL n l = l := by
  unfold delL
  rw [List.filter_eq_self]
  intro p hp
  simpa using h p hp
theorem srt_others {l : List (List UInt8 × α)} (h : Srt l) {k : Nat} (hk : k < l.length) : (∀ p ∈ l.take k, p.1 ≠ l[k].1) ∧ ∀ p ∈ l.drop (k + 1), p.1 ≠ l[k].1 := by
  have h2 := srt_ne h
  rw [← List.take_append_drop k l, List.drop_eq_getElem_cons hk, List.pairwise_append] at h2
  obtain ⟨_, hd, hx⟩ := h2
  rw [List.pairwise_cons] at hd
  exact ⟨fun p hp => hx p hp _ (List.mem_cons_self ..), fun p hp e => hd.1 p hp e.symm⟩
theorem delL_at {n : List UInt8} {l : List (List UInt8 × α)} (h : Srt l) {k : Nat} (hk : k < l.length) (e : l[k].1 = n) : delL n l = l.take k ++ l.drop (k + 1) := by
  obtain ⟨h1, h2⟩ := srt_others h hk
  rw [e] at h1 h2
  conv => lhs; rw [← List.take_append_drop k l, List.drop_eq_getElem_cons hk]
  unfold delL
  rw [List.filter_append, List.filter_cons]
  have e3 : (!l[k].1 == n) = false := by simp [e]
  rw [e3]
  have f1 := delL_out h1
  have f2 := delL_out h2
  unfold delL at f1 f2
  rw [f1, f2]
  rfl
theorem insL_at {n : List UInt8} {v : α} : ∀ {l : List (List UInt8 × α)} {k : Nat}, k ≤ l.length → (∀ j (hj : j < l.length), j < k → bytesBefore l[j].1 n = true) → (∀ h : k < l.length, bytesBefore l[k].1 n = false) → (∀ p ∈ l, p.1 ≠ n) →
    insL n v l = l.take k ++ (n, v) :: l.drop k
  | [], k, hk, _, _, _ => by
    obtain rfl : k = 0 := by simpa using hk
    rfl
  | y :: r, 0, _, _, h2, h3 => by
    have h4 := h2 (by simp)
    have hne := h3 y (List.mem_cons_self ..)
    simp only [List.getElem_cons_zero] at h4
    have h5 : bytesBefore n y.1 = true := by
      rcases WideAt.bytes_total n y.1 (Ne.symm hne) with h | h
      · exact h
      · rw [h4] at h; cases h
    simp [insL, h5]
  | y :: r, k + 1, hk, h1, h2, h3 => by
    have h4 := h1 0 (by simp) (by omega)
    simp only [List.getElem_cons_zero] at h4
    have h5 : bytesBefore n y.1 = false := by
      cases h : bytesBefore n y.1 with
      | false => rfl
      | true =>
        have := WideShapes.bytes_trans _ _ _ h h4
        rw [WideAt.bytes_irrefl] at this; cases this
    have ih := insL_at (n := n) (v := v) (l := r) (k := k) (by simpa using hk)
      (fun j hj hjk => by have := h1 (j + 1) (by simp; exact hj) (by omega); simpa using this)
      (fun h => by have := h2 (by simp; exact h); simpa using this) (fun p hp => h3 p (List.mem_cons_of_mem _ hp))
    simp [insL, h5, ih]
theorem putL_set {n : List UInt8} {v : α} : ∀ {l : List (List UInt8 × α)}, Srt l → (∃ f, getL n l = some f) → putL n v l = setL n v l
  | [], _, ⟨f, h⟩ => by simp [getL] at h
  | y :: r, hs, ⟨f, h⟩ => by
    obtain ⟨h1, h2⟩ := List.pairwise_cons.1 hs
    by_cases e : y.1 = n
    · subst e
      have hn : ∀ p ∈ r, p.1 ≠ y.1 := fun p hp e => by have := h1 p hp; rw [e, WideAt.bytes_irrefl] at this; cases this
      have hd : delL y.1 (y :: r) = r := by
        have := delL_out hn
        unfold delL at this ⊢
        rw [List.filter_cons]
        simp [this]
      have hset : setL y.1 v r = r := by
        unfold setL
        conv => rhs; rw [← List.map_id r]
        refine List.map_congr_left fun p hp => ?_
        rw [if_neg (by simpa using hn p hp)]
        rfl
      unfold putL
      rw [hd]
      have hs2 : setL y.1 v (y :: r) = (y.1, v) :: setL y.1 v r := by simp [setL]
      rw [hs2, hset]
      cases r with
      | nil => rfl
      | cons z r2 =>
        have := h1 z (List.mem_cons_self ..)
        simp [insL, this]
    · have hg : getL n r = some f := by
        unfold getL at h ⊢
        rw [List.find?_cons, show (y.1 == n) = false by simpa using e] at h
        exact h
      have hm : (n, f) ∈ r := (getL_iff h2).1 hg
      have hb : bytesBefore y.1 n = true := h1 _ hm
      have hb2 : bytesBefore n y.1 = false := by
        cases hx : bytesBefore n y.1 with
        | false => rfl
        | true =>
          have := WideShapes.bytes_trans _ _ _ hb hx
          rw [WideAt.bytes_irrefl] at this; cases this
      have ih := putL_set (v := v) h2 ⟨f, hg⟩
      have hd : delL n (y :: r) = y :: delL n r := by unfold delL; rw [List.filter_cons]; simp [e]
      unfold putL at ih ⊢
      rw [hd]
      simp only [insL, hb2, Bool.false_eq_true, if_false]
      rw [ih]
      simp [setL, e]
end
/-- Where a file stands, and what it is. -/
theorem fIdx_cases (n : List UInt8) (l : List Fe) : (fIdx n l = -1 ∧ getL n l = none ∧ ∀ p ∈ l, p.1 ≠ n) ∨ ∃ k, ∃ h : k < l.length, fIdx n l = (k : Int) ∧ l[k].1 = n ∧ getL n l = some l[k].2 := by
  cases hf : l.findIdx? (fun p => p.1 == n) with
  | none =>
    left
    have h2 := List.findIdx?_eq_none_iff.1 hf
    have h3 : ∀ p ∈ l, p.1 ≠ n := fun p hp => by simpa using h2 p hp
    exact ⟨by simp [fIdx, hf], getL_none.2 h3, h3⟩
  | some k =>
    right
    obtain ⟨h1, h2, h3⟩ := List.findIdx?_eq_some_iff_getElem.1 hf
    refine ⟨k, h1, by simp [fIdx, hf], by simpa using h2, ?_⟩
    unfold getL
    have : l.find? (fun p => p.1 == n) = some l[k] := by
      rw [List.find?_eq_some_iff_getElem]
      exact ⟨by simpa using h2, k, h1, rfl, fun j hj => by simpa using h3 j hj⟩
    rw [this]; rfl
end Go.Proofs.YtkfmjkcomjmedaaGreat
namespace Go.Proofs.YtkfmjkcomjmedaaGreat
open Go.RowKit
set_option linter.unusedVariables false
set_option linter.unusedSimpArgs false

theorem fileInfo : (Tryz.prog.info? 82).map (fun i => (i.zero, i.size, i.bytes)) = some (some (.agg #[.string ⟨#[]⟩, .string ⟨#[]⟩, .int .i64 0]), 3, 40) := by kernel_rfl
theorem fileInfo_parts : ∃ i0, Tryz.prog.info? 82 = some i0 ∧ i0.zero = some (.agg #[.string ⟨#[]⟩, .string ⟨#[]⟩, .int .i64 0]) ∧ i0.size = 3 ∧ i0.bytes = 40 := by
  have h := fileInfo
  cases hi : Tryz.prog.info? 82 with
  | none => rw [hi] at h; simp at h
  | some i0 =>
    rw [hi] at h
    simp at h
    exact ⟨i0, rfl, h.1, h.2.1, h.2.2⟩
theorem own_rdF {w : World} {base n cap : Nat} {a : Option Addr} {l : List Fe} (hn : l.length = n) (h : w.ownsRow base 82 3 (.slice a n cap) n (fv l)) : RdF w a l ∧ n ≤ cap ∧ cap ≤ maxLen := by
  have hl := h.lt
  have hc := @World.ownsRow.cells _ _ _ _ _ _ _ h
  rcases h.2 with ⟨hv, h0⟩ | ⟨g, c, cur, hv, hb, hg, hnc, hcm, _⟩
  · cases hv
    have h1 := h.1
    rw [h0] at h1
    simp at h1
    have : l = [] := List.eq_nil_of_length_eq_zero (by omega)
    exact ⟨.inl this, by omega, by unfold maxLen; omega⟩
  · cases hv
    refine ⟨.inr ⟨g, 0, rfl, (hl g rfl).2, fun j u hu => ?_, cur, (0, 0), hg⟩, hnc, hcm⟩
    have := hc (g := g) rfl j u hu
    have e : (⟨g, 0, none⟩ : Addr).add j = ⟨g, 0 + j, none⟩ := by unfold Addr.add; split <;> simp_all
    rw [e] at this
    exact this
theorem own_base3 {w : World} {base n n' cap : Nat} {t : TypeId} {a : Option Addr} {xs : List Value} (h : w.ownsRow base t 3 (.slice a n cap) n' xs) : ∀ y, a = some y → base ≤ y.block := by
  rcases h.2 with ⟨hv, _⟩ | ⟨g, c, cur, hv, hbg, _⟩
  · cases hv; intro y hy; cases hy
  · cases hv; intro y hy; cases hy; exact hbg
theorem RdF.set {w : World} {base : Nat} {a : Option Addr} {l : List Fe} (h : RdF w a l) (hb : ∀ y, a = some y → base ≤ y.block) {g i : Nat} (hg : g < base) (u : Value) : RdF (w.setCell ⟨g, i, none⟩ u) a l := by
  rcases h with rfl | ⟨b, off, rfl, hlt, hc, cs, fz, ht⟩
  · exact .inl rfl
  · have := hb _ rfl
    simp only at this
    exact .inr ⟨b, off, rfl, by simpa [World.setCell] using hlt, fun j v hj => by rw [World.cell?_setCell_other _ _ _ _ (by intro e; simp at e <;> omega)]; exact hc j v hj, cs, fz, (Below.heap_setCell _ _ _ _ (by simp only; omega)).trans ht⟩
theorem own_sl {w : World} {base n : Nat} {t : TypeId} {v : Value} {xs : List Value} (h : w.ownsRow base t 3 v n xs) : ∃ a cap, v = .slice a n cap := by
  rcases h.2 with ⟨rfl, h0⟩ | ⟨g, c, cur, rfl, _⟩
  · have h1 := h.1
    rw [h0] at h1
    simp at h1
    obtain rfl : n = 0 := by omega
    exact ⟨_, _, rfl⟩
  · exact ⟨_, _, rfl⟩
set_option maxRecDepth 100000 in
set_option maxHeartbeats 2000000 in
theorem without_ref {w : World} {q : Value} {S : Ds} (h : RefD w q S) (hl : S.files.length ≤ 1000000) {k : Nat} (hk : k < S.files.length) :
    Calls Tryz.prog 67 #[q, .int .i64 k] w fun e w' => ∃ q', e = .returned q' ∧ RefD w' q' ⟨S.files.take k ++ S.files.drop (k + 1), S.fuse, S.off⟩ ∧ Below w.heap.size w w' := by
  obtain ⟨a, c, rfl, h1, h2, h3⟩ := h
  obtain ⟨l, fuse, off⟩ := S
  simp only at h1 h2 h3 hl hk ⊢
  obtain ⟨b, o, rfl, hb, -⟩ := h1.at hk
  have HR := Lib.hid h1
  obtain ⟨ln, hln⟩ : ∃ ln, ln = l.length := ⟨_, rfl⟩
  rw [← hln] at h2 hl hk ⊢
  have HLN := Lib.hid hln
  unfold maxLen at h3
  clear h1 hln
  obtain ⟨i0, hi, hz0, hz1, hz2⟩ := fileInfo_parts
  go_enter Tryz.func67, Tryz.ntmps67
  go_wp2_with (at_builtin; refine wpList_append_any rfl _ _ 26 rfl (w.heap.size + 2) 82 i0 (.agg #[.string ⟨#[]⟩, .string ⟨#[]⟩, .int .i64 0]) 3 40 Tryz.underlying26 hi hz0 hz1 hz2 rfl (by decide) _ 0 [] rfl (World.ownsRow_nil _ _ _ _) (some ⟨b, o, none⟩) k _ (fv (l.take k)) rfl ?d0 ?d1 ?d2 ?d3 ?d4 ?d5 ?d6 ?_)
  case d0 => intro h; cases h
  case d1 => rw [fv_len, List.length_take]; have := HLN.out; rw [Nat.min_eq_left (by omega)]
  case d2 => exact ((HR.out.old (((Below.refl _ _).alloc (Nat.le_refl _) _).alloc (by simp) _)).take k).news
  case d3 => exact fv_one _
  case d4 => unfold maxLen; omega
  case d5 => omega
  case d6 => simp
  intro v1 w1 own1 bl1
  have B1 := Lib.hid ((((Below.refl w.heap.size w).alloc (Nat.le_refl _) _).alloc (by simp) _).trans (bl1.mono (by omega)))
  have hs1 := bl1.size
  simp only [World.size_alloc] at hs1
  have hc := fun bb oo (h : bb < w.heap.size + 2) => bl1.cell (p := ⟨bb, oo, none⟩) h
  have x0 : w1.cell? ⟨w.heap.size, 0, none⟩ = some (.slice (some ⟨b, o, none⟩) ln c) := by rw [hc _ _ (by omega)]; simp
  have x1 : w1.cell? ⟨w.heap.size, 1, none⟩ = some (.int .i64 fuse) := by rw [hc _ _ (by omega)]; simp
  have x2 : w1.cell? ⟨w.heap.size, 2, none⟩ = some (.bool off) := by rw [hc _ _ (by omega)]; simp
  have hf := fun bb oo (h : bb < w.heap.size + 2) => bl1.frozen (p := ⟨bb, oo, none⟩) h
  have y0 : w1.frozen? ⟨w.heap.size, 0, none⟩ = false := by rw [hf _ _ (by omega)]; simp [go_sem]
  have z0 : w1.cell? ⟨w.heap.size + 1, 0, none⟩ = some (.slice none 0 0) := by rw [hc _ _ (by omega)]; simp
  have z1 : w1.cell? ⟨w.heap.size + 1, 1, none⟩ = some (.int .i64 0) := by rw [hc _ _ (by omega)]; simp
  have z2 : w1.cell? ⟨w.heap.size + 1, 2, none⟩ = some (.bool false) := by rw [hc _ _ (by omega)]; simp
  have y1 : w1.frozen? ⟨w.heap.size + 1, 0, none⟩ = false := by rw [hf _ _ (by omega)]; simp [go_sem]
  have y2 : w1.frozen? ⟨w.heap.size + 1, 1, none⟩ = false := by rw [hf _ _ (by omega)]; simp [go_sem]
  have y3 : w1.frozen? ⟨w.heap.size + 1, 2, none⟩ = false := by rw [hf _ _ (by omega)]; simp [go_sem]
  have BL := Lib.hid bl1
  have O1 := Lib.hid own1
  clear hc hf bl1 own1
  have hw1 : IntKind.i64.wrap ((k : Int) + 1) = ((k + 1 : Nat) : Int) := by rw [IntWalk.i64_in _ (by omega)]; omega
  by_cases hck : c = k + 1
  · have hnil : l.drop (k + 1) = [] := List.drop_eq_nil_of_le (by have := HLN.out; omega)
    subst hck
    go_wp2_with (at_builtin; refine wpList_append_any rfl _ _ 26 rfl (w.heap.size + 2) 82 i0 (.agg #[.string ⟨#[]⟩, .string ⟨#[]⟩, .int .i64 0]) 3 40 Tryz.underlying26 hi hz0 hz1 hz2 rfl (by decide) v1 k (fv (l.take k)) rfl O1.out _ _ _ [] rfl ?e0 ?e1 ?e2 ?e3 ?e4 ?e5 ?e6 ?_)
    · rfl
    · intro y hy j u hj; simp at hj
    · intro u hu; cases hu
    · unfold maxLen; omega
    · omega
    · omega
    intro v2 w2 own2 bl2
    have e5 : fv (l.take k) = fv (l.take k ++ l.drop (k + 1)) := by rw [hnil, List.append_nil]
    rw [e5] at own2
    have hN : (l.take k ++ l.drop (k + 1)).length = k := by rw [List.length_append, List.length_take, List.length_drop]; have := HLN.out; omega
    obtain ⟨a2, c2, rfl⟩ := own_sl own2
    obtain ⟨r1, r2, r3⟩ := own_rdF hN own2
    have hc := fun bb oo (h : bb < w.heap.size + 2) => bl2.cell (p := ⟨bb, oo, none⟩) h
    have hf := fun bb oo (h : bb < w.heap.size + 2) => bl2.frozen (p := ⟨bb, oo, none⟩) h
    rw [← hc _ _ (by omega)] at x0 x1 x2 z0 z1 z2
    rw [← hf _ _ (by omega)] at y0 y1 y2 y3
    have hs2 := bl2.size
    have B2 := Lib.hid (B1.out.trans (bl2.mono (by omega)))
    have R1 := Lib.hid r1
    have hbb := Lib.hid (own_base3 own2)
    clear hc hf bl2 own2 r1
    go_wp2_with fail
    refine bodyPost_ret (v := .agg #[.slice a2 (k) c2, .int .i64 fuse, .bool off]) (by simp [results, Tryz.f67, go_sem, *]) rfl ?_
    have hb2 := hbb.out
    refine (fun hr hB => ⟨_, rfl, ⟨a2, c2, by simp only [hN], hr, by simp only [hN]; exact r2, r3⟩, hB⟩ : RdF _ a2 (l.take k ++ l.drop (k + 1)) → Below w.heap.size w _ → _) ?_ ?_
    · repeat (first | exact R1.out | (refine RdF.set ?_ hb2 (by omega) _))
    · repeat (first | exact B2.out | (refine Below.setCell ?_ (by first | exact Nat.le_refl _ | (show w.heap.size ≤ w.heap.size + 1; omega)) _))
  · have hck2 : k + 1 < c := by omega
    go_wp2_with (at_builtin; refine wpList_append_any rfl _ _ 26 rfl (w.heap.size + 2) 82 i0 (.agg #[.string ⟨#[]⟩, .string ⟨#[]⟩, .int .i64 0]) 3 40 Tryz.underlying26 hi hz0 hz1 hz2 rfl (by decide) v1 k (fv (l.take k)) rfl O1.out (some ⟨b, o + (k + 1) * 3, none⟩) (ln - (k + 1)) _ (fv (l.drop (k + 1))) rfl (fun h => by cases h) ?f1 ?f2 (fv_one _) ?f4 ?f5 ?f6 ?_)
    case f1 => rw [fv_len, List.length_drop]; have := HLN.out; rw [this]
    case f2 => exact ((HR.out.old (B1.out)).drop (by have := HLN.out; omega)).news
    case f4 => unfold maxLen; omega
    case f5 => omega
    case f6 => omega
    intro v2 w2 own2 bl2
    rw [← fv_append] at own2
    have hN : (l.take k ++ l.drop (k + 1)).length = k + (ln - (k + 1)) := by rw [List.length_append, List.length_take, List.length_drop]; have := HLN.out; omega
    obtain ⟨a2, c2, rfl⟩ := own_sl own2
    obtain ⟨r1, r2, r3⟩ := own_rdF hN own2
    have hc := fun bb oo (h : bb < w.heap.size + 2) => bl2.cell (p := ⟨bb, oo, none⟩) h
    have hf := fun bb oo (h : bb < w.heap.size + 2) => bl2.frozen (p := ⟨bb, oo, none⟩) h
    rw [← hc _ _ (by omega)] at x0 x1 x2 z0 z1 z2
    rw [← hf _ _ (by omega)] at y0 y1 y2 y3
    have hs2 := bl2.size
    have B2 := Lib.hid (B1.out.trans (bl2.mono (by omega)))
    have R1 := Lib.hid r1
    have hbb := Lib.hid (own_base3 own2)
    clear hc hf bl2 own2 r1
    go_wp2_with fail
    refine bodyPost_ret (v := .agg #[.slice a2 (k + (ln - (k + 1))) c2, .int .i64 fuse, .bool off]) (by simp [results, Tryz.f67, go_sem, *]) rfl ?_
    have hb2 := hbb.out
    refine (fun hr hB => ⟨_, rfl, ⟨a2, c2, by simp only [hN], hr, by simp only [hN]; exact r2, r3⟩, hB⟩ : RdF _ a2 (l.take k ++ l.drop (k + 1)) → Below w.heap.size w _ → _) ?_ ?_
    · repeat (first | exact R1.out | (refine RdF.set ?_ hb2 (by omega) _))
    · repeat (first | exact B2.out | (refine Below.setCell ?_ (by first | exact Nat.le_refl _ | (show w.heap.size ≤ w.heap.size + 1; omega)) _))
end Go.Proofs.YtkfmjkcomjmedaaGreat
namespace Go.Proofs.YtkfmjkcomjmedaaGreat
open Go.RowKit
set_option linter.unusedVariables false
set_option linter.unusedSimpArgs false

/-- A block that holds no text. -/
def NoStr (w : World) (B : Nat) : Prop := ∀ o s, w.cell? ⟨B, o, none⟩ ≠ some (.string s)
theorem NoStr.old {w w' : World} {B : Nat} (h : NoStr w B) (hB : B < w.heap.size) (hb : Below w.heap.size w w') : NoStr w' B := fun o s e => h o s ((hb.cell (p := ⟨B, o, none⟩) hB).symm.trans e)
theorem noStr_box (w : World) (a : Option Addr) (n c : Nat) (x : Int) (y : Bool) (t : TypeId) : NoStr (w.alloc (.cells #[.slice a n c, .int .i64 x, .bool y] t)) w.heap.size := by
  intro o s e
  match o with
  | 0 => simp at e
  | 1 => simp at e
  | 2 => simp at e
  | o + 3 =>
    unfold World.cell? at e
    simp only [heap_alloc_new] at e
    simp at e
/-- What is written into such a block changes no list of files. -/
theorem RdF.apart {w : World} {B : Nat} {a : Option Addr} {l : List Fe} (h : RdF w a l) (hn : NoStr w B) (i : Nat) (u : Value) : RdF (w.setCell ⟨B, i, none⟩ u) a l := by
  rcases h with rfl | ⟨b, off, rfl, hlt, hc, cs, fz, ht⟩
  · exact .inl rfl
  · cases l with
    | nil => exact .inl rfl
    | cons p r =>
      have hne : b ≠ B := by
        rintro rfl
        exact hn _ _ (hc 0 _ rfl)
      exact .inr ⟨b, off, rfl, by simpa [World.setCell] using hlt, fun j v hj => by rw [World.cell?_setCell_other _ _ _ _ (by intro e; simp at e <;> omega)]; exact hc j v hj, cs, fz, (Below.heap_setCell _ _ _ _ hne).trans ht⟩
theorem NoStr.set {w : World} {B : Nat} (h : NoStr w B) (i : Nat) (u : Value) (hs : (w.cell? ⟨B, i, none⟩).isSome = true) (hu : ∀ s, u ≠ .string s) : NoStr (w.setCell ⟨B, i, none⟩ u) B := by
  intro o s e
  by_cases c : i = o
  · subst c
    rw [World.cell?_setCell_same' _ _ _ hs] at e
    exact hu s (Option.some.inj e)
  · rw [World.cell?_setCell_other _ _ _ _ (by intro e2; simp at e2 <;> omega)] at e
    exact h o s e

theorem new_file (w : World) (n bs : List UInt8) (su : Nat) (t : TypeId) : ∀ y, (some ⟨w.heap.size, 0, none⟩ : Option Addr) = some y → ∀ j u, (fv [((n, ⟨bs, su⟩) : Fe)])[j]? = some u → (w.alloc (.cells #[.string ⟨n.toArray⟩, .string ⟨bs.toArray⟩, .int .i64 (su : Int)] t)).cell? (y.add j) = some u := by
  intro y hy j u hj
  cases hy
  have e : (⟨w.heap.size, 0, none⟩ : Addr).add j = ⟨w.heap.size, j, none⟩ := by unfold Addr.add; split <;> simp_all
  rw [e]
  simp only [fv] at hj
  rw [World.cell?_alloc_new]
  match j, hj with
  | 0, hj => simpa using hj
  | 1, hj => simpa using hj
  | 2, hj => simpa using hj
  | j + 3, hj => simp at hj

/-- The disk's box behind what was taken out. -/
structure WithS (W1 wx : World) (B : Nat) (a : Option Addr) (l : List Fe) (c : Nat) (fuse : Int) (off : Bool) : Prop where
  x0 : wx.cell? ⟨B, 0, none⟩ = some (.slice a l.length c)
  x1 : wx.cell? ⟨B, 1, none⟩ = some (.int .i64 fuse)
  x2 : wx.cell? ⟨B, 2, none⟩ = some (.bool off)
  rd : RdF wx a l
  lc : l.length ≤ c
  cm : c ≤ maxLen
  keep : Keeps (fun b => b < W1.heap.size ∧ b ≠ B) W1 wx
  fz : wx.frozen? ⟨B, 0, none⟩ = false
set_option maxRecDepth 100000 in
set_option maxHeartbeats 4000000 in
theorem with_ref {w : World} {q : Value} {S : Ds} (h : RefD w q S) (hl : S.files.length ≤ 100000) (hs : Srt S.files) (n bs : List UInt8) (su : Nat) :
    Calls Tryz.prog 69 #[q, .agg #[.string ⟨n.toArray⟩, .string ⟨bs.toArray⟩, .int .i64 (su : Int)]] w fun e w' => ∃ q', e = .returned q' ∧ RefD w' q' ⟨putL n ⟨bs, su⟩ S.files, S.fuse, S.off⟩ ∧ Below w.heap.size w w' := by
  have h' := h
  obtain ⟨a, c, rfl, h1, h2, h3⟩ := h
  obtain ⟨l, fuse, off⟩ := S
  simp only at h1 h2 h3 hl hs ⊢
  have HR := Lib.hid h1
  have HS := Lib.hid hs
  have HL6 := Lib.hid (show l.length ≤ 1000000 by omega)
  obtain ⟨ln, hln⟩ : ∃ ln, ln = l.length := ⟨_, rfl⟩
  rw [← hln] at h'
  have HD := Lib.hid h'
  rw [← hln] at h2 hl
  have HLN := Lib.hid hln
  have H2 := Lib.hid h2
  have H3 := Lib.hid h3
  rw [← hln]
  clear h1 hln h' h2 h3 hs
  obtain ⟨i0, hi, hz0, hz1, hz2⟩ := fileInfo_parts
  go_enter Tryz.func69, Tryz.ntmps69
  go_upto_if 13 with (go_at_call 58; refine (find_ref (S := ⟨l, fuse, off⟩) (HD.out.old ((((Below.refl _ _).alloc (Nat.le_refl _) _).alloc (by simp) _).alloc (by simp; omega) _)) HL6.out n).mono ?_; rintro e wf ⟨rfl, bf⟩)
  revert bf
  generalize hW1 : World.alloc (World.alloc (World.alloc w _) _) _ = W1
  intro bf
  have B1 : Below w.heap.size w W1 := by rw [← hW1]; exact (((Below.refl _ _).alloc (Nat.le_refl _) _).alloc (by simp) _).alloc (by simp; omega) _
  have hs1 : W1.heap.size = w.heap.size + 3 := by rw [← hW1]; simp [go_sem]
  have x0 : W1.cell? ⟨w.heap.size, 0, none⟩ = some (.slice a ln c) := by rw [← hW1]; simp [go_sem]
  have x1 : W1.cell? ⟨w.heap.size, 1, none⟩ = some (.int .i64 fuse) := by rw [← hW1]; simp [go_sem]
  have x2 : W1.cell? ⟨w.heap.size, 2, none⟩ = some (.bool off) := by rw [← hW1]; simp [go_sem]
  have y0 : W1.cell? ⟨w.heap.size + 1, 0, none⟩ = some (.string ⟨n.toArray⟩) := by rw [← hW1]; simp [go_sem]
  have y1 : W1.cell? ⟨w.heap.size + 1, 1, none⟩ = some (.string ⟨bs.toArray⟩) := by rw [← hW1]; simp [go_sem]
  have y2 : W1.cell? ⟨w.heap.size + 1, 2, none⟩ = some (.int .i64 (su : Int)) := by rw [← hW1]; simp [go_sem]
  have u0 : W1.cell? ⟨w.heap.size + 2, 0, none⟩ = some (.slice none 0 0) := by rw [← hW1]; simp [go_sem]
  have u1 : W1.cell? ⟨w.heap.size + 2, 1, none⟩ = some (.int .i64 0) := by rw [← hW1]; simp [go_sem]
  have u2 : W1.cell? ⟨w.heap.size + 2, 2, none⟩ = some (.bool false) := by rw [← hW1]; simp [go_sem]
  have z0 : W1.frozen? ⟨w.heap.size, 0, none⟩ = false := by rw [← hW1]; simp [go_sem]
  have z1 : W1.frozen? ⟨w.heap.size, 1, none⟩ = false := by rw [← hW1]; simp [go_sem]
  have z2 : W1.frozen? ⟨w.heap.size, 2, none⟩ = false := by rw [← hW1]; simp [go_sem]
  have v0a : W1.frozen? ⟨w.heap.size + 2, 0, none⟩ = false := by rw [← hW1]; simp [go_sem]
  have v0b : W1.frozen? ⟨w.heap.size + 2, 1, none⟩ = false := by rw [← hW1]; simp [go_sem]
  have v0c : W1.frozen? ⟨w.heap.size + 2, 2, none⟩ = false := by rw [← hW1]; simp [go_sem]
  have hns : NoStr W1 w.heap.size := by
    have h0 := noStr_box w a ln c fuse off 28
    rw [← hW1]
    exact (h0.old (by simp) ((Below.refl _ _).alloc (Nat.le_refl _) _)).old (by simp; omega) ((Below.refl _ _).alloc (Nat.le_refl _) _)
  have HW := Lib.hid hW1
  have BB := Lib.hid B1
  clear hW1 B1
  generalize hx : fIdx n l = x
  go_cut [] (fun wx => ∃ a1 c1, WithS W1 wx w.heap.size a1 (delL n l) c1 fuse off)
  case first =>
    have bx := bf
    have hfc := fun bb oo (h : bb < W1.heap.size) => bf.cell (p := ⟨bb, oo, none⟩) h
    have hff := fun bb oo (h : bb < W1.heap.size) => bf.frozen (p := ⟨bb, oo, none⟩) h
    rw [← hfc _ _ (by omega)] at x0 x1 x2
    rw [← hff _ _ (by omega)] at z0 z1 z2
    clear hfc hff
    have NS := Lib.hid (hns.old (by omega) bf)
    have BF := Lib.hid bf
    have lt : w.heap.size < wf.heap.size := cell_lt x0
    clear bf bx hns
    rcases fIdx_cases n l with ⟨e1, -, e3⟩ | ⟨k, hk, e1, e2, e3⟩
    · rw [hx] at e1
      subst e1
      have E3 := Lib.hid (delL_out e3)
      clear e3 hx
      go_wp2_with fail
      go_meet
      case rel =>
        rw [E3.out]
        exact ⟨a, c, by rw [← HLN.out]; exact x0, x1, x2, (HR.out.old BB.out).old BF.out, by rw [← HLN.out]; exact H2.out, H3.out, Keeps.of_below BF.out (fun b hb => hb.1), z0⟩
    · have DL := Lib.hid (delL_at HS.out hk e2)
      have hk2 : k < ln := by rw [HLN.out]; exact hk
      clear e2 e3
      rw [hx] at e1
      subst e1
      clear hx
      go_wp2_with fail
      go_at_call 67
      refine (without_ref (S := ⟨l, fuse, off⟩) ((HD.out.old BB.out).old BF.out) HL6.out hk).mono ?_
      rintro e wg ⟨q2, rfl, ⟨a2, c2, rfl, r2, h4, h5⟩, bg⟩
      have p0 := (bg.cell (p := ⟨w.heap.size, 0, none⟩) lt).trans x0
      have p1 := (bg.cell (p := ⟨w.heap.size, 1, none⟩) lt).trans x1
      have p2 := (bg.cell (p := ⟨w.heap.size, 2, none⟩) lt).trans x2
      have t0 := (bg.frozen (p := ⟨w.heap.size, 0, none⟩) lt).trans z0
      have t1 := (bg.frozen (p := ⟨w.heap.size, 1, none⟩) lt).trans z1
      have t2 := (bg.frozen (p := ⟨w.heap.size, 2, none⟩) lt).trans z2
      have NG := Lib.hid (NS.out.old lt bg)
      have BG := Lib.hid bg
      have R2 := Lib.hid r2
      have H4 := Lib.hid h4
      have H5 := Lib.hid h5
      clear bg r2 h4 h5 x0 x1 x2 z0 z1 z2
      go_wp2_with fail
      go_meet
      case rel =>
        rw [DL.out]
        have hN : (l.take k ++ l.drop (k + 1)).length = min k l.length + (l.length - (k + 1)) := by simp
        have s0 : (wg.setCell ⟨w.heap.size, 0, none⟩ (.slice a2 (min k l.length + (l.length - (k + 1))) c2)).cell? ⟨w.heap.size, 0, none⟩ = some (.slice a2 (min k l.length + (l.length - (k + 1))) c2) := World.cell?_setCell_same' _ _ _ (by rw [p0]; rfl)
        refine ⟨a2, c2, ?_, ?_, ?_, ?_, H4.out, H5.out, ?_, ?_⟩
        · rw [World.cell?_setCell_other _ _ _ _ (by simp), World.cell?_setCell_other _ _ _ _ (by simp), s0, hN]
        · rw [World.cell?_setCell_other _ _ _ _ (by simp), World.cell?_setCell_same' _ _ _ (by rw [World.cell?_setCell_other _ _ _ _ (by simp), p1]; rfl)]
        · rw [World.cell?_setCell_same' _ _ _ (by rw [World.cell?_setCell_other _ _ _ _ (by simp), World.cell?_setCell_other _ _ _ _ (by simp), p2]; rfl)]
        · have n1 := NG.out.set 0 (.slice a2 (min k l.length + (l.length - (k + 1))) c2) (by rw [p0]; rfl) (fun s h => by cases h)
          have n2 := n1.set 1 (.int .i64 fuse) (by rw [World.cell?_setCell_other _ _ _ _ (by simp), p1]; rfl) (fun s h => by cases h)
          exact ((R2.out.apart NG.out _ _).apart n1 _ _).apart n2 _ _
        · have hk0 : Keeps (fun b => b < W1.heap.size ∧ b ≠ w.heap.size) W1 wg := Keeps.of_below (BF.out.trans (BG.out.mono BF.out.size)) (fun b hb => hb.1)
          exact ((hk0.trans (Keeps.setCell _ _ fun b hb => hb.2)).trans (Keeps.setCell _ _ fun b hb => hb.2)).trans (Keeps.setCell _ _ fun b hb => hb.2)
        · simp [go_sem, t0]
  case rest =>
    obtain ⟨a1, c1, hw⟩ := hcut
    obtain ⟨l1, hl1⟩ : ∃ l1, l1 = delL n l := ⟨_, rfl⟩
    rw [← hl1] at hw
    have NE : ∀ p ∈ l1, p.1 ≠ n := by
      rw [hl1]; intro p hp
      unfold delL at hp
      have := (List.mem_filter.1 hp).2
      simpa using this
    have hlen : l1.length ≤ ln := by rw [hl1, HLN.out]; unfold delL; exact List.length_filter_le _ _
    obtain ⟨p0, p1, p2, rd, h4, h5, kp, t0⟩ := hw
    obtain ⟨l1n, hn1⟩ : ∃ l1n, l1n = l1.length := ⟨_, rfl⟩
    rw [← hn1] at p0 h4 hlen
    have HN1 := Lib.hid hn1
    have HL1 := Lib.hid hl1
    have HNE := Lib.hid NE
    have RD := Lib.hid rd
    have KP := Lib.hid kp
    have q0 := (kp.cell (w.heap.size + 1) 0 ⟨by omega, by omega⟩).trans y0
    have q1 := (kp.cell (w.heap.size + 1) 1 ⟨by omega, by omega⟩).trans y1
    have q2 := (kp.cell (w.heap.size + 1) 2 ⟨by omega, by omega⟩).trans y2
    have e0 := (kp.cell (w.heap.size + 2) 0 ⟨by omega, by omega⟩).trans u0
    have e1 := (kp.cell (w.heap.size + 2) 1 ⟨by omega, by omega⟩).trans u1
    have e2 := (kp.cell (w.heap.size + 2) 2 ⟨by omega, by omega⟩).trans u2
    have v1 := (kp.frozen (w.heap.size + 2) 0 ⟨by omega, by omega⟩).trans v0a
    have v2 := (kp.frozen (w.heap.size + 2) 1 ⟨by omega, by omega⟩).trans v0b
    have v3 := (kp.frozen (w.heap.size + 2) 2 ⟨by omega, by omega⟩).trans v0c
    have hsc : W1.heap.size ≤ wc.heap.size := kp.size
    clear hn1 hl1 NE rd kp x0 x1 x2 y0 y1 y2 u0 u1 u2 v0a v0b v0c z0 z1 z2 bf hns
    have H5' := Lib.hid h5
    unfold maxLen at h5
    rename World => wd
    go_upto_block 0 with fail
    go_cut [6] (fun s6 wx => ∃ k : Nat, s6 = .int .i64 k ∧ k ≤ l1n ∧ Hid (∀ j (hj : j < l1.length), j < k → bytesBefore l1[j].1 n = true) ∧ Hid (∀ h : k < l1.length, bytesBefore l1[k].1 n = false) ∧ Below wd.heap.size wd wx)
    case first =>
      go_wp2_with fail
      go_loopw [6] (fun i wr => ∃ k : Nat, i = .int .i64 k ∧ k ≤ l1n ∧ (∀ j (hj : j < l1.length), j < k → bytesBefore l1[j].1 n = true) ∧ Below wd.heap.size wd wr) (fun i _ => l1n - (intOf i).toNat)
      case atStart => exact ⟨0, rfl, Nat.zero_le _, fun _ _ h => absurd h (Nat.not_lt_zero _), Below.refl _ _⟩
      case round =>
        obtain ⟨k, rfl, hk, hp, bw⟩ := hrel
        have HP := Lib.hid hp
        have p0 := (bw.cell (p := ⟨w.heap.size, 0, none⟩) (by show w.heap.size < _; omega)).trans p0
        have q0 := (bw.cell (p := ⟨w.heap.size + 1, 0, none⟩) (by show w.heap.size + 1 < _; omega)).trans q0
        have BW := Lib.hid bw
        clear hp
        by_cases hlt : k < l1n
        · have hkl : k < l1.length := by rw [← HN1.out]; exact hlt
          obtain ⟨b, o, rfl, hb, c0, -, -⟩ := (RD.out.old bw).at hkl
          obtain ⟨m, hm⟩ : ∃ m, m = l1[k].1 := ⟨_, rfl⟩
          rw [← hm] at c0
          have HM := Lib.hid hm
          clear hm bw
          have hkc : (k : Int) < l1n := by omega
          cases hbb : Op.bytesLess m n with
          | true =>
            go_wp2_with fail
            go_quiet (fail)
            go_wp2_with fail
            go_roundw
            case rel =>
              refine ⟨k + 1, by go_num, hlt, fun j hj hjk => ?_, below_drewN BW.out _⟩
              by_cases hjk2 : j < k
              · exact HP.out j hj hjk2
              · obtain rfl : j = k := by omega
                rw [← HM.out, ← less_before]; exact hbb
            case measure => simp [intOf]; omega
          | false =>
            have hno := Lib.hid (show ∀ h : k < l1.length, bytesBefore l1[k].1 n = false from fun h => by rw [← HM.out, ← less_before]; exact hbb)
            go_wp2_with fail
            go_quiet (fail)
            go_wp2_with fail
            go_meet
            case rel => exact ⟨k, rfl, hk, HP, hno, below_drewN BW.out _⟩
        · have hno := Lib.hid (show ∀ h : k < l1.length, bytesBefore l1[k].1 n = false from fun h => absurd h (by rw [← HN1.out]; exact hlt))
          obtain rfl : k = l1n := by omega
          go_wp2_with fail
          go_quiet (fail)
          go_wp2_with fail
          go_meet
          case rel => exact ⟨_, rfl, hk, HP, hno, below_drewN BW.out _⟩
    case rest =>
      obtain ⟨k, rfl, hk, HP, HNO, bw⟩ := hcut
      have KP := Lib.hid (KP.out.trans (Keeps.of_below bw (fun b hb => Nat.lt_of_lt_of_le hb.1 hsc)))
      have hw2 := bw.size
      have p0 := (bw.cell (p := ⟨w.heap.size, 0, none⟩) (by show w.heap.size < _; omega)).trans p0
      have p1 := (bw.cell (p := ⟨w.heap.size, 1, none⟩) (by show w.heap.size < _; omega)).trans p1
      have p2 := (bw.cell (p := ⟨w.heap.size, 2, none⟩) (by show w.heap.size < _; omega)).trans p2
      have q0 := (bw.cell (p := ⟨w.heap.size + 1, 0, none⟩) (by show w.heap.size + 1 < _; omega)).trans q0
      have q1 := (bw.cell (p := ⟨w.heap.size + 1, 1, none⟩) (by show w.heap.size + 1 < _; omega)).trans q1
      have q2 := (bw.cell (p := ⟨w.heap.size + 1, 2, none⟩) (by show w.heap.size + 1 < _; omega)).trans q2
      have e0 := (bw.cell (p := ⟨w.heap.size + 2, 0, none⟩) (by show w.heap.size + 2 < _; omega)).trans e0
      have e1 := (bw.cell (p := ⟨w.heap.size + 2, 1, none⟩) (by show w.heap.size + 2 < _; omega)).trans e1
      have e2 := (bw.cell (p := ⟨w.heap.size + 2, 2, none⟩) (by show w.heap.size + 2 < _; omega)).trans e2
      have t0 := (bw.frozen (p := ⟨w.heap.size, 0, none⟩) (by show w.heap.size < _; omega)).trans t0
      have v1 := (bw.frozen (p := ⟨w.heap.size + 2, 0, none⟩) (by show w.heap.size + 2 < _; omega)).trans v1
      have v2 := (bw.frozen (p := ⟨w.heap.size + 2, 1, none⟩) (by show w.heap.size + 2 < _; omega)).trans v2
      have v3 := (bw.frozen (p := ⟨w.heap.size + 2, 2, none⟩) (by show w.heap.size + 2 < _; omega)).trans v3
      have RD := Lib.hid (RD.out.old bw)
      clear bw
      by_cases hnil : l1n = 0
      · have hl0 : l1 = [] := List.eq_nil_of_length_eq_zero (by rw [← HN1.out]; exact hnil)
        subst hnil
        obtain rfl : k = 0 := by omega
        cases a1 with
        | none =>
          go_wp2_with (at_builtin; generalize hG : wpList _ _ _ _ _ _ = G)
          rw [← hG]
          clear hG
          refine (wpList_append_any rfl _ _ 26 rfl wc.heap.size 82 i0 (.agg #[.string ⟨#[]⟩, .string ⟨#[]⟩, .int .i64 0]) 3 40 Tryz.underlying26 hi hz0 hz1 hz2 rfl (by decide) _ 0 [] rfl (World.ownsRow_nil _ _ _ _) _ 0 _ [] rfl ?pna0 ?pna1 ?pna2 ?pna3 ?pna4 ?pna5 ?pna6 ?_)
          case pna0 => intros; rfl
          case pna1 => rfl
          case pna2 => intro y hy j u hj; simp at hj
          case pna3 => intro u hu; cases hu
          case pna4 => unfold maxLen; omega
          case pna5 => omega
          case pna6 => exact Nat.le_refl _
          intro va w1 own1 bl1
          have hs1' := bl1.size
          have p0 := (bl1.cell (p := ⟨w.heap.size, 0, none⟩) (by show w.heap.size < _; omega)).trans p0
          have p1 := (bl1.cell (p := ⟨w.heap.size, 1, none⟩) (by show w.heap.size < _; omega)).trans p1
          have p2 := (bl1.cell (p := ⟨w.heap.size, 2, none⟩) (by show w.heap.size < _; omega)).trans p2
          have q0 := (bl1.cell (p := ⟨w.heap.size + 1, 0, none⟩) (by show w.heap.size + 1 < _; omega)).trans q0
          have q1 := (bl1.cell (p := ⟨w.heap.size + 1, 1, none⟩) (by show w.heap.size + 1 < _; omega)).trans q1
          have q2 := (bl1.cell (p := ⟨w.heap.size + 1, 2, none⟩) (by show w.heap.size + 1 < _; omega)).trans q2
          have e0 := (bl1.cell (p := ⟨w.heap.size + 2, 0, none⟩) (by show w.heap.size + 2 < _; omega)).trans e0
          have e1 := (bl1.cell (p := ⟨w.heap.size + 2, 1, none⟩) (by show w.heap.size + 2 < _; omega)).trans e1
          have e2 := (bl1.cell (p := ⟨w.heap.size + 2, 2, none⟩) (by show w.heap.size + 2 < _; omega)).trans e2
          have t0 := (bl1.frozen (p := ⟨w.heap.size, 0, none⟩) (by show w.heap.size < _; omega)).trans t0
          have v1 := (bl1.frozen (p := ⟨w.heap.size + 2, 0, none⟩) (by show w.heap.size + 2 < _; omega)).trans v1
          have v2 := (bl1.frozen (p := ⟨w.heap.size + 2, 1, none⟩) (by show w.heap.size + 2 < _; omega)).trans v2
          have v3 := (bl1.frozen (p := ⟨w.heap.size + 2, 2, none⟩) (by show w.heap.size + 2 < _; omega)).trans v3
          have BL1 := Lib.hid bl1
          have O1 := Lib.hid own1
          clear bl1 own1
          have hbx := (Below.refl w1.heap.size w1).alloc (Nat.le_refl _) (.cells #[.string ⟨n.toArray⟩, .string ⟨bs.toArray⟩, .int .i64 (su : Int)] 82)
          have hnw : ∀ y, (some ⟨w1.heap.size, 0, none⟩ : Option Addr) = some y → ∀ j u, (fv [((n, ⟨bs, su⟩) : Fe)])[j]? = some u → (w1.alloc (.cells #[.string ⟨n.toArray⟩, .string ⟨bs.toArray⟩, .int .i64 (su : Int)] 82)).cell? (y.add j) = some u := new_file w1 n bs su _
          have OX := Lib.hid (O1.out.alloc (.cells #[.string ⟨n.toArray⟩, .string ⟨bs.toArray⟩, .int .i64 (su : Int)] 82))
          go_wp2_with (at_builtin; generalize hG : wpList _ _ _ _ _ _ = G)
          rw [← hG]
          clear hG
          refine (wpList_append_any rfl _ _ 26 rfl wc.heap.size 82 i0 (.agg #[.string ⟨#[]⟩, .string ⟨#[]⟩, .int .i64 0]) 3 40 Tryz.underlying26 hi hz0 hz1 hz2 rfl (by decide) va _ _ rfl OX.out (some ⟨w1.heap.size, 0, none⟩) 1 _ (fv [((n, ⟨bs, su⟩) : Fe)]) rfl (fun h => by cases h) rfl hnw (fv_one _) ?pnax4 ?pnax5 ?pnax6 ?_)
          case pnax4 => unfold maxLen; omega
          case pnax5 => omega
          case pnax6 => simp; omega
          intro vb w2 own2 bl2
          have B12 : Below wc.heap.size wc w2 := (BL1.out.alloc (by omega) _).trans bl2
          have hs2' := B12.size
          have bl2' := (hbx.mono (show wc.heap.size ≤ w1.heap.size by omega)).trans bl2
          have p0 := (bl2'.cell (p := ⟨w.heap.size, 0, none⟩) (by show w.heap.size < _; omega)).trans p0
          have p1 := (bl2'.cell (p := ⟨w.heap.size, 1, none⟩) (by show w.heap.size < _; omega)).trans p1
          have p2 := (bl2'.cell (p := ⟨w.heap.size, 2, none⟩) (by show w.heap.size < _; omega)).trans p2
          have q0 := (bl2'.cell (p := ⟨w.heap.size + 1, 0, none⟩) (by show w.heap.size + 1 < _; omega)).trans q0
          have q1 := (bl2'.cell (p := ⟨w.heap.size + 1, 1, none⟩) (by show w.heap.size + 1 < _; omega)).trans q1
          have q2 := (bl2'.cell (p := ⟨w.heap.size + 1, 2, none⟩) (by show w.heap.size + 1 < _; omega)).trans q2
          have e0 := (bl2'.cell (p := ⟨w.heap.size + 2, 0, none⟩) (by show w.heap.size + 2 < _; omega)).trans e0
          have e1 := (bl2'.cell (p := ⟨w.heap.size + 2, 1, none⟩) (by show w.heap.size + 2 < _; omega)).trans e1
          have e2 := (bl2'.cell (p := ⟨w.heap.size + 2, 2, none⟩) (by show w.heap.size + 2 < _; omega)).trans e2
          have t0 := (bl2'.frozen (p := ⟨w.heap.size, 0, none⟩) (by show w.heap.size < _; omega)).trans t0
          have v1 := (bl2'.frozen (p := ⟨w.heap.size + 2, 0, none⟩) (by show w.heap.size + 2 < _; omega)).trans v1
          have v2 := (bl2'.frozen (p := ⟨w.heap.size + 2, 1, none⟩) (by show w.heap.size + 2 < _; omega)).trans v2
          have v3 := (bl2'.frozen (p := ⟨w.heap.size + 2, 2, none⟩) (by show w.heap.size + 2 < _; omega)).trans v3
          have BB2 := Lib.hid B12
          have O2 := Lib.hid own2
          have hrd2 := Lib.hid (RD.out.old B12)
          clear bl2 own2 B12 bl2' hbx hnw
          go_wp2_with (at_builtin; generalize hG : wpList _ _ _ _ _ _ = G)
          rw [← hG]
          clear hG
          refine (wpList_append_any rfl _ _ 26 rfl wc.heap.size 82 i0 (.agg #[.string ⟨#[]⟩, .string ⟨#[]⟩, .int .i64 0]) 3 40 Tryz.underlying26 hi hz0 hz1 hz2 rfl (by decide) vb _ _ rfl O2.out _ _ _ [] rfl ?pnay0 ?pnay1 ?pnay2 ?pnay3 ?pnay4 ?pnay5 ?pnay6 ?_)
          case pnay0 => intros; first | rfl | omega
          case pnay1 => first | rfl | (simp; omega)
          case pnay2 => intro y hy j u hj; simp at hj
          case pnay3 => intro u hu; cases hu
          case pnay4 => unfold maxLen; omega
          case pnay5 => omega
          case pnay6 => omega
          intro vc w3 own3 bl3
          simp only [Nat.zero_add, Nat.add_zero, List.nil_append, List.append_nil, List.append_assoc] at own3
          have B13 := Lib.hid (BB2.out.trans bl3)
          have hs3' := bl3.size
          have p0 := (bl3.cell (p := ⟨w.heap.size, 0, none⟩) (by show w.heap.size < _; omega)).trans p0
          have p1 := (bl3.cell (p := ⟨w.heap.size, 1, none⟩) (by show w.heap.size < _; omega)).trans p1
          have p2 := (bl3.cell (p := ⟨w.heap.size, 2, none⟩) (by show w.heap.size < _; omega)).trans p2
          have q0 := (bl3.cell (p := ⟨w.heap.size + 1, 0, none⟩) (by show w.heap.size + 1 < _; omega)).trans q0
          have q1 := (bl3.cell (p := ⟨w.heap.size + 1, 1, none⟩) (by show w.heap.size + 1 < _; omega)).trans q1
          have q2 := (bl3.cell (p := ⟨w.heap.size + 1, 2, none⟩) (by show w.heap.size + 1 < _; omega)).trans q2
          have e0 := (bl3.cell (p := ⟨w.heap.size + 2, 0, none⟩) (by show w.heap.size + 2 < _; omega)).trans e0
          have e1 := (bl3.cell (p := ⟨w.heap.size + 2, 1, none⟩) (by show w.heap.size + 2 < _; omega)).trans e1
          have e2 := (bl3.cell (p := ⟨w.heap.size + 2, 2, none⟩) (by show w.heap.size + 2 < _; omega)).trans e2
          have t0 := (bl3.frozen (p := ⟨w.heap.size, 0, none⟩) (by show w.heap.size < _; omega)).trans t0
          have v1 := (bl3.frozen (p := ⟨w.heap.size + 2, 0, none⟩) (by show w.heap.size + 2 < _; omega)).trans v1
          have v2 := (bl3.frozen (p := ⟨w.heap.size + 2, 1, none⟩) (by show w.heap.size + 2 < _; omega)).trans v2
          have v3 := (bl3.frozen (p := ⟨w.heap.size + 2, 2, none⟩) (by show w.heap.size + 2 < _; omega)).trans v3
          have hN : (l1.take 0 ++ (n, ⟨bs, su⟩) :: l1.drop 0).length = 1 := by rw [List.length_append, List.length_take, List.length_cons, List.length_drop]; have := HN1.out; omega
          have hV : (fv [((n, ⟨bs, su⟩) : Fe)]) = fv (l1.take 0 ++ (n, ⟨bs, su⟩) :: l1.drop 0) := by rw [fv_append]; rw [hl0]; rfl
          rw [hV] at own3
          obtain ⟨a3, c3, rfl⟩ := own_sl own3
          obtain ⟨r1, r2, r3⟩ := own_rdF hN own3
          have R1 := Lib.hid r1
          have hbb := Lib.hid (own_base3 own3)
          have hlt0 : w.heap.size < w3.heap.size := cell_lt p0
          clear own3 hV r1 bl3
          go_wp2_with fail
          refine bodyPost_ret (v := .agg #[.slice a3 1 c3, .int .i64 fuse, .bool off]) (by simp [results, Tryz.f69, go_sem, *]) rfl ?_
          have hput : putL n ⟨bs, su⟩ l = l1.take 0 ++ (n, ⟨bs, su⟩) :: l1.drop 0 := by unfold putL; rw [← HL1.out]; exact insL_at (by rw [← HN1.out]; omega) HP.out HNO.out HNE.out
          rw [hput]
          have hb2 := hbb.out
          refine (fun hr hB => ⟨_, rfl, ⟨a3, c3, by simp only [hN], hr, by simp only [hN]; exact r2, r3⟩, hB⟩ : RdF _ a3 (l1.take 0 ++ (n, ⟨bs, su⟩) :: l1.drop 0) → Below w.heap.size w _ → _) ?_ ?_
          · repeat (first | exact R1.out | (refine RdF.set ?_ hb2 (by omega) _))
          · have hB0 : Below w.heap.size w w3 := BB.out.trans ((KP.out.below (fun b hb => ⟨by omega, by omega⟩)).trans (B13.out.mono (by omega)))
            repeat (first | exact hB0 | (refine Below.setCell ?_ (by first | exact Nat.le_refl _ | (show w.heap.size ≤ w.heap.size + 1; omega) | (show w.heap.size ≤ w.heap.size + 2; omega)) _))
        | some y =>
          by_cases hc0 : c1 = 0
          · subst hc0
            go_wp2_with (at_builtin; generalize hG : wpList _ _ _ _ _ _ = G)
            rw [← hG]
            clear hG
            refine (wpList_append_any rfl _ _ 26 rfl wc.heap.size 82 i0 (.agg #[.string ⟨#[]⟩, .string ⟨#[]⟩, .int .i64 0]) 3 40 Tryz.underlying26 hi hz0 hz1 hz2 rfl (by decide) _ 0 [] rfl (World.ownsRow_nil _ _ _ _) _ 0 _ [] rfl ?pnb0 ?pnb1 ?pnb2 ?pnb3 ?pnb4 ?pnb5 ?pnb6 ?_)
            case pnb0 => intros; rfl
            case pnb1 => rfl
            case pnb2 => intro y hy j u hj; simp at hj
            case pnb3 => intro u hu; cases hu
            case pnb4 => unfold maxLen; omega
            case pnb5 => omega
            case pnb6 => exact Nat.le_refl _
            intro va w1 own1 bl1
            have hs1' := bl1.size
            have p0 := (bl1.cell (p := ⟨w.heap.size, 0, none⟩) (by show w.heap.size < _; omega)).trans p0
            have p1 := (bl1.cell (p := ⟨w.heap.size, 1, none⟩) (by show w.heap.size < _; omega)).trans p1
            have p2 := (bl1.cell (p := ⟨w.heap.size, 2, none⟩) (by show w.heap.size < _; omega)).trans p2
            have q0 := (bl1.cell (p := ⟨w.heap.size + 1, 0, none⟩) (by show w.heap.size + 1 < _; omega)).trans q0
            have q1 := (bl1.cell (p := ⟨w.heap.size + 1, 1, none⟩) (by show w.heap.size + 1 < _; omega)).trans q1
            have q2 := (bl1.cell (p := ⟨w.heap.size + 1, 2, none⟩) (by show w.heap.size + 1 < _; omega)).trans q2
            have e0 := (bl1.cell (p := ⟨w.heap.size + 2, 0, none⟩) (by show w.heap.size + 2 < _; omega)).trans e0
            have e1 := (bl1.cell (p := ⟨w.heap.size + 2, 1, none⟩) (by show w.heap.size + 2 < _; omega)).trans e1
            have e2 := (bl1.cell (p := ⟨w.heap.size + 2, 2, none⟩) (by show w.heap.size + 2 < _; omega)).trans e2
            have t0 := (bl1.frozen (p := ⟨w.heap.size, 0, none⟩) (by show w.heap.size < _; omega)).trans t0
            have v1 := (bl1.frozen (p := ⟨w.heap.size + 2, 0, none⟩) (by show w.heap.size + 2 < _; omega)).trans v1
            have v2 := (bl1.frozen (p := ⟨w.heap.size + 2, 1, none⟩) (by show w.heap.size + 2 < _; omega)).trans v2
            have v3 := (bl1.frozen (p := ⟨w.heap.size + 2, 2, none⟩) (by show w.heap.size + 2 < _; omega)).trans v3
            have BL1 := Lib.hid bl1
            have O1 := Lib.hid own1
            clear bl1 own1
            have hbx := (Below.refl w1.heap.size w1).alloc (Nat.le_refl _) (.cells #[.string ⟨n.toArray⟩, .string ⟨bs.toArray⟩, .int .i64 (su : Int)] 82)
            have hnw : ∀ y, (some ⟨w1.heap.size, 0, none⟩ : Option Addr) = some y → ∀ j u, (fv [((n, ⟨bs, su⟩) : Fe)])[j]? = some u → (w1.alloc (.cells #[.string ⟨n.toArray⟩, .string ⟨bs.toArray⟩, .int .i64 (su : Int)] 82)).cell? (y.add j) = some u := new_file w1 n bs su _
            have OX := Lib.hid (O1.out.alloc (.cells #[.string ⟨n.toArray⟩, .string ⟨bs.toArray⟩, .int .i64 (su : Int)] 82))
            go_wp2_with (at_builtin; generalize hG : wpList _ _ _ _ _ _ = G)
            rw [← hG]
            clear hG
            refine (wpList_append_any rfl _ _ 26 rfl wc.heap.size 82 i0 (.agg #[.string ⟨#[]⟩, .string ⟨#[]⟩, .int .i64 0]) 3 40 Tryz.underlying26 hi hz0 hz1 hz2 rfl (by decide) va _ _ rfl OX.out (some ⟨w1.heap.size, 0, none⟩) 1 _ (fv [((n, ⟨bs, su⟩) : Fe)]) rfl (fun h => by cases h) rfl hnw (fv_one _) ?pnbx4 ?pnbx5 ?pnbx6 ?_)
            case pnbx4 => unfold maxLen; omega
            case pnbx5 => omega
            case pnbx6 => simp; omega
            intro vb w2 own2 bl2
            have B12 : Below wc.heap.size wc w2 := (BL1.out.alloc (by omega) _).trans bl2
            have hs2' := B12.size
            have bl2' := (hbx.mono (show wc.heap.size ≤ w1.heap.size by omega)).trans bl2
            have p0 := (bl2'.cell (p := ⟨w.heap.size, 0, none⟩) (by show w.heap.size < _; omega)).trans p0
            have p1 := (bl2'.cell (p := ⟨w.heap.size, 1, none⟩) (by show w.heap.size < _; omega)).trans p1
            have p2 := (bl2'.cell (p := ⟨w.heap.size, 2, none⟩) (by show w.heap.size < _; omega)).trans p2
            have q0 := (bl2'.cell (p := ⟨w.heap.size + 1, 0, none⟩) (by show w.heap.size + 1 < _; omega)).trans q0
            have q1 := (bl2'.cell (p := ⟨w.heap.size + 1, 1, none⟩) (by show w.heap.size + 1 < _; omega)).trans q1
            have q2 := (bl2'.cell (p := ⟨w.heap.size + 1, 2, none⟩) (by show w.heap.size + 1 < _; omega)).trans q2
            have e0 := (bl2'.cell (p := ⟨w.heap.size + 2, 0, none⟩) (by show w.heap.size + 2 < _; omega)).trans e0
            have e1 := (bl2'.cell (p := ⟨w.heap.size + 2, 1, none⟩) (by show w.heap.size + 2 < _; omega)).trans e1
            have e2 := (bl2'.cell (p := ⟨w.heap.size + 2, 2, none⟩) (by show w.heap.size + 2 < _; omega)).trans e2
            have t0 := (bl2'.frozen (p := ⟨w.heap.size, 0, none⟩) (by show w.heap.size < _; omega)).trans t0
            have v1 := (bl2'.frozen (p := ⟨w.heap.size + 2, 0, none⟩) (by show w.heap.size + 2 < _; omega)).trans v1
            have v2 := (bl2'.frozen (p := ⟨w.heap.size + 2, 1, none⟩) (by show w.heap.size + 2 < _; omega)).trans v2
            have v3 := (bl2'.frozen (p := ⟨w.heap.size + 2, 2, none⟩) (by show w.heap.size + 2 < _; omega)).trans v3
            have BB2 := Lib.hid B12
            have O2 := Lib.hid own2
            have hrd2 := Lib.hid (RD.out.old B12)
            clear bl2 own2 B12 bl2' hbx hnw
            go_wp2_with (at_builtin; generalize hG : wpList _ _ _ _ _ _ = G)
            rw [← hG]
            clear hG
            refine (wpList_append_any rfl _ _ 26 rfl wc.heap.size 82 i0 (.agg #[.string ⟨#[]⟩, .string ⟨#[]⟩, .int .i64 0]) 3 40 Tryz.underlying26 hi hz0 hz1 hz2 rfl (by decide) vb _ _ rfl O2.out _ _ _ [] rfl ?pnby0 ?pnby1 ?pnby2 ?pnby3 ?pnby4 ?pnby5 ?pnby6 ?_)
            case pnby0 => intros; first | rfl | omega
            case pnby1 => first | rfl | (simp; omega)
            case pnby2 => intro y hy j u hj; simp at hj
            case pnby3 => intro u hu; cases hu
            case pnby4 => unfold maxLen; omega
            case pnby5 => omega
            case pnby6 => omega
            intro vc w3 own3 bl3
            simp only [Nat.zero_add, Nat.add_zero, List.nil_append, List.append_nil, List.append_assoc] at own3
            have B13 := Lib.hid (BB2.out.trans bl3)
            have hs3' := bl3.size
            have p0 := (bl3.cell (p := ⟨w.heap.size, 0, none⟩) (by show w.heap.size < _; omega)).trans p0
            have p1 := (bl3.cell (p := ⟨w.heap.size, 1, none⟩) (by show w.heap.size < _; omega)).trans p1
            have p2 := (bl3.cell (p := ⟨w.heap.size, 2, none⟩) (by show w.heap.size < _; omega)).trans p2
            have q0 := (bl3.cell (p := ⟨w.heap.size + 1, 0, none⟩) (by show w.heap.size + 1 < _; omega)).trans q0
            have q1 := (bl3.cell (p := ⟨w.heap.size + 1, 1, none⟩) (by show w.heap.size + 1 < _; omega)).trans q1
            have q2 := (bl3.cell (p := ⟨w.heap.size + 1, 2, none⟩) (by show w.heap.size + 1 < _; omega)).trans q2
            have e0 := (bl3.cell (p := ⟨w.heap.size + 2, 0, none⟩) (by show w.heap.size + 2 < _; omega)).trans e0
            have e1 := (bl3.cell (p := ⟨w.heap.size + 2, 1, none⟩) (by show w.heap.size + 2 < _; omega)).trans e1
            have e2 := (bl3.cell (p := ⟨w.heap.size + 2, 2, none⟩) (by show w.heap.size + 2 < _; omega)).trans e2
            have t0 := (bl3.frozen (p := ⟨w.heap.size, 0, none⟩) (by show w.heap.size < _; omega)).trans t0
            have v1 := (bl3.frozen (p := ⟨w.heap.size + 2, 0, none⟩) (by show w.heap.size + 2 < _; omega)).trans v1
            have v2 := (bl3.frozen (p := ⟨w.heap.size + 2, 1, none⟩) (by show w.heap.size + 2 < _; omega)).trans v2
            have v3 := (bl3.frozen (p := ⟨w.heap.size + 2, 2, none⟩) (by show w.heap.size + 2 < _; omega)).trans v3
            have hN : (l1.take 0 ++ (n, ⟨bs, su⟩) :: l1.drop 0).length = 1 := by rw [List.length_append, List.length_take, List.length_cons, List.length_drop]; have := HN1.out; omega
            have hV : (fv [((n, ⟨bs, su⟩) : Fe)]) = fv (l1.take 0 ++ (n, ⟨bs, su⟩) :: l1.drop 0) := by rw [fv_append]; rw [hl0]; rfl
            rw [hV] at own3
            obtain ⟨a3, c3, rfl⟩ := own_sl own3
            obtain ⟨r1, r2, r3⟩ := own_rdF hN own3
            have R1 := Lib.hid r1
            have hbb := Lib.hid (own_base3 own3)
            have hlt0 : w.heap.size < w3.heap.size := cell_lt p0
            clear own3 hV r1 bl3
            go_wp2_with fail
            refine bodyPost_ret (v := .agg #[.slice a3 1 c3, .int .i64 fuse, .bool off]) (by simp [results, Tryz.f69, go_sem, *]) rfl ?_
            have hput : putL n ⟨bs, su⟩ l = l1.take 0 ++ (n, ⟨bs, su⟩) :: l1.drop 0 := by unfold putL; rw [← HL1.out]; exact insL_at (by rw [← HN1.out]; omega) HP.out HNO.out HNE.out
            rw [hput]
            have hb2 := hbb.out
            refine (fun hr hB => ⟨_, rfl, ⟨a3, c3, by simp only [hN], hr, by simp only [hN]; exact r2, r3⟩, hB⟩ : RdF _ a3 (l1.take 0 ++ (n, ⟨bs, su⟩) :: l1.drop 0) → Below w.heap.size w _ → _) ?_ ?_
            · repeat (first | exact R1.out | (refine RdF.set ?_ hb2 (by omega) _))
            · have hB0 : Below w.heap.size w w3 := BB.out.trans ((KP.out.below (fun b hb => ⟨by omega, by omega⟩)).trans (B13.out.mono (by omega)))
              repeat (first | exact hB0 | (refine Below.setCell ?_ (by first | exact Nat.le_refl _ | (show w.heap.size ≤ w.heap.size + 1; omega) | (show w.heap.size ≤ w.heap.size + 2; omega)) _))
          · have hc1 : 0 < c1 := by omega
            go_wp2_with (at_builtin; generalize hG : wpList _ _ _ _ _ _ = G)
            rw [← hG]
            clear hG
            refine (wpList_append_any rfl _ _ 26 rfl wc.heap.size 82 i0 (.agg #[.string ⟨#[]⟩, .string ⟨#[]⟩, .int .i64 0]) 3 40 Tryz.underlying26 hi hz0 hz1 hz2 rfl (by decide) _ 0 [] rfl (World.ownsRow_nil _ _ _ _) _ 0 _ [] rfl ?pnc0 ?pnc1 ?pnc2 ?pnc3 ?pnc4 ?pnc5 ?pnc6 ?_)
            case pnc0 => intros; rfl
            case pnc1 => rfl
            case pnc2 => intro y hy j u hj; simp at hj
            case pnc3 => intro u hu; cases hu
            case pnc4 => unfold maxLen; omega
            case pnc5 => omega
            case pnc6 => exact Nat.le_refl _
            intro va w1 own1 bl1
            have hs1' := bl1.size
            have p0 := (bl1.cell (p := ⟨w.heap.size, 0, none⟩) (by show w.heap.size < _; omega)).trans p0
            have p1 := (bl1.cell (p := ⟨w.heap.size, 1, none⟩) (by show w.heap.size < _; omega)).trans p1
            have p2 := (bl1.cell (p := ⟨w.heap.size, 2, none⟩) (by show w.heap.size < _; omega)).trans p2
            have q0 := (bl1.cell (p := ⟨w.heap.size + 1, 0, none⟩) (by show w.heap.size + 1 < _; omega)).trans q0
            have q1 := (bl1.cell (p := ⟨w.heap.size + 1, 1, none⟩) (by show w.heap.size + 1 < _; omega)).trans q1
            have q2 := (bl1.cell (p := ⟨w.heap.size + 1, 2, none⟩) (by show w.heap.size + 1 < _; omega)).trans q2
            have e0 := (bl1.cell (p := ⟨w.heap.size + 2, 0, none⟩) (by show w.heap.size + 2 < _; omega)).trans e0
            have e1 := (bl1.cell (p := ⟨w.heap.size + 2, 1, none⟩) (by show w.heap.size + 2 < _; omega)).trans e1
            have e2 := (bl1.cell (p := ⟨w.heap.size + 2, 2, none⟩) (by show w.heap.size + 2 < _; omega)).trans e2
            have t0 := (bl1.frozen (p := ⟨w.heap.size, 0, none⟩) (by show w.heap.size < _; omega)).trans t0
            have v1 := (bl1.frozen (p := ⟨w.heap.size + 2, 0, none⟩) (by show w.heap.size + 2 < _; omega)).trans v1
            have v2 := (bl1.frozen (p := ⟨w.heap.size + 2, 1, none⟩) (by show w.heap.size + 2 < _; omega)).trans v2
            have v3 := (bl1.frozen (p := ⟨w.heap.size + 2, 2, none⟩) (by show w.heap.size + 2 < _; omega)).trans v3
            have BL1 := Lib.hid bl1
            have O1 := Lib.hid own1
            clear bl1 own1
            have hbx := (Below.refl w1.heap.size w1).alloc (Nat.le_refl _) (.cells #[.string ⟨n.toArray⟩, .string ⟨bs.toArray⟩, .int .i64 (su : Int)] 82)
            have hnw : ∀ y, (some ⟨w1.heap.size, 0, none⟩ : Option Addr) = some y → ∀ j u, (fv [((n, ⟨bs, su⟩) : Fe)])[j]? = some u → (w1.alloc (.cells #[.string ⟨n.toArray⟩, .string ⟨bs.toArray⟩, .int .i64 (su : Int)] 82)).cell? (y.add j) = some u := new_file w1 n bs su _
            have OX := Lib.hid (O1.out.alloc (.cells #[.string ⟨n.toArray⟩, .string ⟨bs.toArray⟩, .int .i64 (su : Int)] 82))
            go_wp2_with (at_builtin; generalize hG : wpList _ _ _ _ _ _ = G)
            rw [← hG]
            clear hG
            refine (wpList_append_any rfl _ _ 26 rfl wc.heap.size 82 i0 (.agg #[.string ⟨#[]⟩, .string ⟨#[]⟩, .int .i64 0]) 3 40 Tryz.underlying26 hi hz0 hz1 hz2 rfl (by decide) va _ _ rfl OX.out (some ⟨w1.heap.size, 0, none⟩) 1 _ (fv [((n, ⟨bs, su⟩) : Fe)]) rfl (fun h => by cases h) rfl hnw (fv_one _) ?pncx4 ?pncx5 ?pncx6 ?_)
            case pncx4 => unfold maxLen; omega
            case pncx5 => omega
            case pncx6 => simp; omega
            intro vb w2 own2 bl2
            have B12 : Below wc.heap.size wc w2 := (BL1.out.alloc (by omega) _).trans bl2
            have hs2' := B12.size
            have bl2' := (hbx.mono (show wc.heap.size ≤ w1.heap.size by omega)).trans bl2
            have p0 := (bl2'.cell (p := ⟨w.heap.size, 0, none⟩) (by show w.heap.size < _; omega)).trans p0
            have p1 := (bl2'.cell (p := ⟨w.heap.size, 1, none⟩) (by show w.heap.size < _; omega)).trans p1
            have p2 := (bl2'.cell (p := ⟨w.heap.size, 2, none⟩) (by show w.heap.size < _; omega)).trans p2
            have q0 := (bl2'.cell (p := ⟨w.heap.size + 1, 0, none⟩) (by show w.heap.size + 1 < _; omega)).trans q0
            have q1 := (bl2'.cell (p := ⟨w.heap.size + 1, 1, none⟩) (by show w.heap.size + 1 < _; omega)).trans q1
            have q2 := (bl2'.cell (p := ⟨w.heap.size + 1, 2, none⟩) (by show w.heap.size + 1 < _; omega)).trans q2
            have e0 := (bl2'.cell (p := ⟨w.heap.size + 2, 0, none⟩) (by show w.heap.size + 2 < _; omega)).trans e0
            have e1 := (bl2'.cell (p := ⟨w.heap.size + 2, 1, none⟩) (by show w.heap.size + 2 < _; omega)).trans e1
            have e2 := (bl2'.cell (p := ⟨w.heap.size + 2, 2, none⟩) (by show w.heap.size + 2 < _; omega)).trans e2
            have t0 := (bl2'.frozen (p := ⟨w.heap.size, 0, none⟩) (by show w.heap.size < _; omega)).trans t0
            have v1 := (bl2'.frozen (p := ⟨w.heap.size + 2, 0, none⟩) (by show w.heap.size + 2 < _; omega)).trans v1
            have v2 := (bl2'.frozen (p := ⟨w.heap.size + 2, 1, none⟩) (by show w.heap.size + 2 < _; omega)).trans v2
            have v3 := (bl2'.frozen (p := ⟨w.heap.size + 2, 2, none⟩) (by show w.heap.size + 2 < _; omega)).trans v3
            have BB2 := Lib.hid B12
            have O2 := Lib.hid own2
            have hrd2 := Lib.hid (RD.out.old B12)
            clear bl2 own2 B12 bl2' hbx hnw
            go_wp2_with (at_builtin; generalize hG : wpList _ _ _ _ _ _ = G)
            rw [← hG]
            clear hG
            refine (wpList_append_any rfl _ _ 26 rfl wc.heap.size 82 i0 (.agg #[.string ⟨#[]⟩, .string ⟨#[]⟩, .int .i64 0]) 3 40 Tryz.underlying26 hi hz0 hz1 hz2 rfl (by decide) vb _ _ rfl O2.out _ _ _ [] rfl ?pncy0 ?pncy1 ?pncy2 ?pncy3 ?pncy4 ?pncy5 ?pncy6 ?_)
            case pncy0 => intros; first | rfl | omega
            case pncy1 => first | rfl | (simp; omega)
            case pncy2 => intro y hy j u hj; simp at hj
            case pncy3 => intro u hu; cases hu
            case pncy4 => unfold maxLen; omega
            case pncy5 => omega
            case pncy6 => omega
            intro vc w3 own3 bl3
            simp only [Nat.zero_add, Nat.add_zero, List.nil_append, List.append_nil, List.append_assoc] at own3
            have B13 := Lib.hid (BB2.out.trans bl3)
            have hs3' := bl3.size
            have p0 := (bl3.cell (p := ⟨w.heap.size, 0, none⟩) (by show w.heap.size < _; omega)).trans p0
            have p1 := (bl3.cell (p := ⟨w.heap.size, 1, none⟩) (by show w.heap.size < _; omega)).trans p1
            have p2 := (bl3.cell (p := ⟨w.heap.size, 2, none⟩) (by show w.heap.size < _; omega)).trans p2
            have q0 := (bl3.cell (p := ⟨w.heap.size + 1, 0, none⟩) (by show w.heap.size + 1 < _; omega)).trans q0
            have q1 := (bl3.cell (p := ⟨w.heap.size + 1, 1, none⟩) (by show w.heap.size + 1 < _; omega)).trans q1
            have q2 := (bl3.cell (p := ⟨w.heap.size + 1, 2, none⟩) (by show w.heap.size + 1 < _; omega)).trans q2
            have e0 := (bl3.cell (p := ⟨w.heap.size + 2, 0, none⟩) (by show w.heap.size + 2 < _; omega)).trans e0
            have e1 := (bl3.cell (p := ⟨w.heap.size + 2, 1, none⟩) (by show w.heap.size + 2 < _; omega)).trans e1
            have e2 := (bl3.cell (p := ⟨w.heap.size + 2, 2, none⟩) (by show w.heap.size + 2 < _; omega)).trans e2
            have t0 := (bl3.frozen (p := ⟨w.heap.size, 0, none⟩) (by show w.heap.size < _; omega)).trans t0
            have v1 := (bl3.frozen (p := ⟨w.heap.size + 2, 0, none⟩) (by show w.heap.size + 2 < _; omega)).trans v1
            have v2 := (bl3.frozen (p := ⟨w.heap.size + 2, 1, none⟩) (by show w.heap.size + 2 < _; omega)).trans v2
            have v3 := (bl3.frozen (p := ⟨w.heap.size + 2, 2, none⟩) (by show w.heap.size + 2 < _; omega)).trans v3
            have hN : (l1.take 0 ++ (n, ⟨bs, su⟩) :: l1.drop 0).length = 1 := by rw [List.length_append, List.length_take, List.length_cons, List.length_drop]; have := HN1.out; omega
            have hV : (fv [((n, ⟨bs, su⟩) : Fe)]) = fv (l1.take 0 ++ (n, ⟨bs, su⟩) :: l1.drop 0) := by rw [fv_append]; rw [hl0]; rfl
            rw [hV] at own3
            obtain ⟨a3, c3, rfl⟩ := own_sl own3
            obtain ⟨r1, r2, r3⟩ := own_rdF hN own3
            have R1 := Lib.hid r1
            have hbb := Lib.hid (own_base3 own3)
            have hlt0 : w.heap.size < w3.heap.size := cell_lt p0
            clear own3 hV r1 bl3
            go_wp2_with fail
            refine bodyPost_ret (v := .agg #[.slice a3 1 c3, .int .i64 fuse, .bool off]) (by simp [results, Tryz.f69, go_sem, *]) rfl ?_
            have hput : putL n ⟨bs, su⟩ l = l1.take 0 ++ (n, ⟨bs, su⟩) :: l1.drop 0 := by unfold putL; rw [← HL1.out]; exact insL_at (by rw [← HN1.out]; omega) HP.out HNO.out HNE.out
            rw [hput]
            have hb2 := hbb.out
            refine (fun hr hB => ⟨_, rfl, ⟨a3, c3, by simp only [hN], hr, by simp only [hN]; exact r2, r3⟩, hB⟩ : RdF _ a3 (l1.take 0 ++ (n, ⟨bs, su⟩) :: l1.drop 0) → Below w.heap.size w _ → _) ?_ ?_
            · repeat (first | exact R1.out | (refine RdF.set ?_ hb2 (by omega) _))
            · have hB0 : Below w.heap.size w w3 := BB.out.trans ((KP.out.below (fun b hb => ⟨by omega, by omega⟩)).trans (B13.out.mono (by omega)))
              repeat (first | exact hB0 | (refine Below.setCell ?_ (by first | exact Nat.le_refl _ | (show w.heap.size ≤ w.heap.size + 1; omega) | (show w.heap.size ≤ w.heap.size + 2; omega)) _))
      · have hpos : 0 < l1.length := by rw [← HN1.out]; omega
        obtain ⟨b, o, rfl, hb, -⟩ := RD.out.at hpos
        by_cases hck : c1 = k
        · have hdr : l1.drop k = [] := List.drop_eq_nil_of_le (by rw [← HN1.out]; omega)
          have hck := hck.symm
          subst hck
          go_wp2_with (at_builtin; generalize hG : wpList _ _ _ _ _ _ = G)
          rw [← hG]
          clear hG
          refine (wpList_append_any rfl _ _ 26 rfl wc.heap.size 82 i0 (.agg #[.string ⟨#[]⟩, .string ⟨#[]⟩, .int .i64 0]) 3 40 Tryz.underlying26 hi hz0 hz1 hz2 rfl (by decide) _ 0 [] rfl (World.ownsRow_nil _ _ _ _) (some ⟨b, o, none⟩) k _ (fv (l1.take k)) rfl ?pe0 ?pe1 ?pe2 ?pe3 ?pe4 ?pe5 ?pe6 ?_)
          case pe0 => intro h; cases h
          case pe1 => rw [fv_len, List.length_take]; have := HN1.out; rw [Nat.min_eq_left (by omega)]
          case pe2 => exact (RD.out.take k).news
          case pe3 => exact fv_one _
          case pe4 => unfold maxLen; omega
          case pe5 => omega
          case pe6 => exact Nat.le_refl _
          intro va w1 own1 bl1
          have hs1' := bl1.size
          have p0 := (bl1.cell (p := ⟨w.heap.size, 0, none⟩) (by show w.heap.size < _; omega)).trans p0
          have p1 := (bl1.cell (p := ⟨w.heap.size, 1, none⟩) (by show w.heap.size < _; omega)).trans p1
          have p2 := (bl1.cell (p := ⟨w.heap.size, 2, none⟩) (by show w.heap.size < _; omega)).trans p2
          have q0 := (bl1.cell (p := ⟨w.heap.size + 1, 0, none⟩) (by show w.heap.size + 1 < _; omega)).trans q0
          have q1 := (bl1.cell (p := ⟨w.heap.size + 1, 1, none⟩) (by show w.heap.size + 1 < _; omega)).trans q1
          have q2 := (bl1.cell (p := ⟨w.heap.size + 1, 2, none⟩) (by show w.heap.size + 1 < _; omega)).trans q2
          have e0 := (bl1.cell (p := ⟨w.heap.size + 2, 0, none⟩) (by show w.heap.size + 2 < _; omega)).trans e0
          have e1 := (bl1.cell (p := ⟨w.heap.size + 2, 1, none⟩) (by show w.heap.size + 2 < _; omega)).trans e1
          have e2 := (bl1.cell (p := ⟨w.heap.size + 2, 2, none⟩) (by show w.heap.size + 2 < _; omega)).trans e2
          have t0 := (bl1.frozen (p := ⟨w.heap.size, 0, none⟩) (by show w.heap.size < _; omega)).trans t0
          have v1 := (bl1.frozen (p := ⟨w.heap.size + 2, 0, none⟩) (by show w.heap.size + 2 < _; omega)).trans v1
          have v2 := (bl1.frozen (p := ⟨w.heap.size + 2, 1, none⟩) (by show w.heap.size + 2 < _; omega)).trans v2
          have v3 := (bl1.frozen (p := ⟨w.heap.size + 2, 2, none⟩) (by show w.heap.size + 2 < _; omega)).trans v3
          have BL1 := Lib.hid bl1
          have O1 := Lib.hid own1
          clear bl1 own1
          have hbx := (Below.refl w1.heap.size w1).alloc (Nat.le_refl _) (.cells #[.string ⟨n.toArray⟩, .string ⟨bs.toArray⟩, .int .i64 (su : Int)] 82)
          have hnw : ∀ y, (some ⟨w1.heap.size, 0, none⟩ : Option Addr) = some y → ∀ j u, (fv [((n, ⟨bs, su⟩) : Fe)])[j]? = some u → (w1.alloc (.cells #[.string ⟨n.toArray⟩, .string ⟨bs.toArray⟩, .int .i64 (su : Int)] 82)).cell? (y.add j) = some u := new_file w1 n bs su _
          have OX := Lib.hid (O1.out.alloc (.cells #[.string ⟨n.toArray⟩, .string ⟨bs.toArray⟩, .int .i64 (su : Int)] 82))
          go_wp2_with (at_builtin; generalize hG : wpList _ _ _ _ _ _ = G)
          rw [← hG]
          clear hG
          refine (wpList_append_any rfl _ _ 26 rfl wc.heap.size 82 i0 (.agg #[.string ⟨#[]⟩, .string ⟨#[]⟩, .int .i64 0]) 3 40 Tryz.underlying26 hi hz0 hz1 hz2 rfl (by decide) va _ _ rfl OX.out (some ⟨w1.heap.size, 0, none⟩) 1 _ (fv [((n, ⟨bs, su⟩) : Fe)]) rfl (fun h => by cases h) rfl hnw (fv_one _) ?pex4 ?pex5 ?pex6 ?_)
          case pex4 => unfold maxLen; omega
          case pex5 => omega
          case pex6 => simp; omega
          intro vb w2 own2 bl2
          have B12 : Below wc.heap.size wc w2 := (BL1.out.alloc (by omega) _).trans bl2
          have hs2' := B12.size
          have bl2' := (hbx.mono (show wc.heap.size ≤ w1.heap.size by omega)).trans bl2
          have p0 := (bl2'.cell (p := ⟨w.heap.size, 0, none⟩) (by show w.heap.size < _; omega)).trans p0
          have p1 := (bl2'.cell (p := ⟨w.heap.size, 1, none⟩) (by show w.heap.size < _; omega)).trans p1
          have p2 := (bl2'.cell (p := ⟨w.heap.size, 2, none⟩) (by show w.heap.size < _; omega)).trans p2
          have q0 := (bl2'.cell (p := ⟨w.heap.size + 1, 0, none⟩) (by show w.heap.size + 1 < _; omega)).trans q0
          have q1 := (bl2'.cell (p := ⟨w.heap.size + 1, 1, none⟩) (by show w.heap.size + 1 < _; omega)).trans q1
          have q2 := (bl2'.cell (p := ⟨w.heap.size + 1, 2, none⟩) (by show w.heap.size + 1 < _; omega)).trans q2
          have e0 := (bl2'.cell (p := ⟨w.heap.size + 2, 0, none⟩) (by show w.heap.size + 2 < _; omega)).trans e0
          have e1 := (bl2'.cell (p := ⟨w.heap.size + 2, 1, none⟩) (by show w.heap.size + 2 < _; omega)).trans e1
          have e2 := (bl2'.cell (p := ⟨w.heap.size + 2, 2, none⟩) (by show w.heap.size + 2 < _; omega)).trans e2
          have t0 := (bl2'.frozen (p := ⟨w.heap.size, 0, none⟩) (by show w.heap.size < _; omega)).trans t0
          have v1 := (bl2'.frozen (p := ⟨w.heap.size + 2, 0, none⟩) (by show w.heap.size + 2 < _; omega)).trans v1
          have v2 := (bl2'.frozen (p := ⟨w.heap.size + 2, 1, none⟩) (by show w.heap.size + 2 < _; omega)).trans v2
          have v3 := (bl2'.frozen (p := ⟨w.heap.size + 2, 2, none⟩) (by show w.heap.size + 2 < _; omega)).trans v3
          have BB2 := Lib.hid B12
          have O2 := Lib.hid own2
          have hrd2 := Lib.hid (RD.out.old B12)
          clear bl2 own2 B12 bl2' hbx hnw
          go_wp2_with (at_builtin; generalize hG : wpList _ _ _ _ _ _ = G)
          rw [← hG]
          clear hG
          refine (wpList_append_any rfl _ _ 26 rfl wc.heap.size 82 i0 (.agg #[.string ⟨#[]⟩, .string ⟨#[]⟩, .int .i64 0]) 3 40 Tryz.underlying26 hi hz0 hz1 hz2 rfl (by decide) vb _ _ rfl O2.out _ _ _ [] rfl ?pey0 ?pey1 ?pey2 ?pey3 ?pey4 ?pey5 ?pey6 ?_)
          case pey0 => intros; first | rfl | omega
          case pey1 => first | rfl | (simp; omega)
          case pey2 => intro y hy j u hj; simp at hj
          case pey3 => intro u hu; cases hu
          case pey4 => unfold maxLen; omega
          case pey5 => omega
          case pey6 => omega
          intro vc w3 own3 bl3
          simp only [Nat.zero_add, Nat.add_zero, List.nil_append, List.append_nil, List.append_assoc] at own3
          have B13 := Lib.hid (BB2.out.trans bl3)
          have hs3' := bl3.size
          have p0 := (bl3.cell (p := ⟨w.heap.size, 0, none⟩) (by show w.heap.size < _; omega)).trans p0
          have p1 := (bl3.cell (p := ⟨w.heap.size, 1, none⟩) (by show w.heap.size < _; omega)).trans p1
          have p2 := (bl3.cell (p := ⟨w.heap.size, 2, none⟩) (by show w.heap.size < _; omega)).trans p2
          have q0 := (bl3.cell (p := ⟨w.heap.size + 1, 0, none⟩) (by show w.heap.size + 1 < _; omega)).trans q0
          have q1 := (bl3.cell (p := ⟨w.heap.size + 1, 1, none⟩) (by show w.heap.size + 1 < _; omega)).trans q1
          have q2 := (bl3.cell (p := ⟨w.heap.size + 1, 2, none⟩) (by show w.heap.size + 1 < _; omega)).trans q2
          have e0 := (bl3.cell (p := ⟨w.heap.size + 2, 0, none⟩) (by show w.heap.size + 2 < _; omega)).trans e0
          have e1 := (bl3.cell (p := ⟨w.heap.size + 2, 1, none⟩) (by show w.heap.size + 2 < _; omega)).trans e1
          have e2 := (bl3.cell (p := ⟨w.heap.size + 2, 2, none⟩) (by show w.heap.size + 2 < _; omega)).trans e2
          have t0 := (bl3.frozen (p := ⟨w.heap.size, 0, none⟩) (by show w.heap.size < _; omega)).trans t0
          have v1 := (bl3.frozen (p := ⟨w.heap.size + 2, 0, none⟩) (by show w.heap.size + 2 < _; omega)).trans v1
          have v2 := (bl3.frozen (p := ⟨w.heap.size + 2, 1, none⟩) (by show w.heap.size + 2 < _; omega)).trans v2
          have v3 := (bl3.frozen (p := ⟨w.heap.size + 2, 2, none⟩) (by show w.heap.size + 2 < _; omega)).trans v3
          have hN : (l1.take k ++ (n, ⟨bs, su⟩) :: l1.drop k).length = (k + 1) := by rw [List.length_append, List.length_take, List.length_cons, List.length_drop]; have := HN1.out; omega
          have hV : (fv (l1.take k) ++ fv [((n, ⟨bs, su⟩) : Fe)]) = fv (l1.take k ++ (n, ⟨bs, su⟩) :: l1.drop k) := by rw [fv_append]; rw [hdr]
          rw [hV] at own3
          obtain ⟨a3, c3, rfl⟩ := own_sl own3
          obtain ⟨r1, r2, r3⟩ := own_rdF hN own3
          have R1 := Lib.hid r1
          have hbb := Lib.hid (own_base3 own3)
          have hlt0 : w.heap.size < w3.heap.size := cell_lt p0
          clear own3 hV r1 bl3
          go_wp2_with fail
          refine bodyPost_ret (v := .agg #[.slice a3 (k + 1) c3, .int .i64 fuse, .bool off]) (by simp [results, Tryz.f69, go_sem, *]) rfl ?_
          have hput : putL n ⟨bs, su⟩ l = l1.take k ++ (n, ⟨bs, su⟩) :: l1.drop k := by unfold putL; rw [← HL1.out]; exact insL_at (by rw [← HN1.out]; omega) HP.out HNO.out HNE.out
          rw [hput]
          have hb2 := hbb.out
          refine (fun hr hB => ⟨_, rfl, ⟨a3, c3, by simp only [hN], hr, by simp only [hN]; exact r2, r3⟩, hB⟩ : RdF _ a3 (l1.take k ++ (n, ⟨bs, su⟩) :: l1.drop k) → Below w.heap.size w _ → _) ?_ ?_
          · repeat (first | exact R1.out | (refine RdF.set ?_ hb2 (by omega) _))
          · have hB0 : Below w.heap.size w w3 := BB.out.trans ((KP.out.below (fun b hb => ⟨by omega, by omega⟩)).trans (B13.out.mono (by omega)))
            repeat (first | exact hB0 | (refine Below.setCell ?_ (by first | exact Nat.le_refl _ | (show w.heap.size ≤ w.heap.size + 1; omega) | (show w.heap.size ≤ w.heap.size + 2; omega)) _))
        · have hck2 : k < c1 := by omega
          go_wp2_with (at_builtin; generalize hG : wpList _ _ _ _ _ _ = G)
          rw [← hG]
          clear hG
          refine (wpList_append_any rfl _ _ 26 rfl wc.heap.size 82 i0 (.agg #[.string ⟨#[]⟩, .string ⟨#[]⟩, .int .i64 0]) 3 40 Tryz.underlying26 hi hz0 hz1 hz2 rfl (by decide) _ 0 [] rfl (World.ownsRow_nil _ _ _ _) (some ⟨b, o, none⟩) k _ (fv (l1.take k)) rfl ?d0 ?d1 ?d2 ?d3 ?d4 ?d5 ?d6 ?_)
          case d0 => intro h; cases h
          case d1 => rw [fv_len, List.length_take]; have := HN1.out; rw [Nat.min_eq_left (by omega)]
          case d2 => exact (RD.out.take k).news
          case d3 => exact fv_one _
          case d4 => unfold maxLen; omega
          case d5 => omega
          case d6 => exact Nat.le_refl _
          intro va w1 own1 bl1
          have hs1' := bl1.size
          have p0 := (bl1.cell (p := ⟨w.heap.size, 0, none⟩) (by show w.heap.size < _; omega)).trans p0
          have p1 := (bl1.cell (p := ⟨w.heap.size, 1, none⟩) (by show w.heap.size < _; omega)).trans p1
          have p2 := (bl1.cell (p := ⟨w.heap.size, 2, none⟩) (by show w.heap.size < _; omega)).trans p2
          have q0 := (bl1.cell (p := ⟨w.heap.size + 1, 0, none⟩) (by show w.heap.size + 1 < _; omega)).trans q0
          have q1 := (bl1.cell (p := ⟨w.heap.size + 1, 1, none⟩) (by show w.heap.size + 1 < _; omega)).trans q1
          have q2 := (bl1.cell (p := ⟨w.heap.size + 1, 2, none⟩) (by show w.heap.size + 1 < _; omega)).trans q2
          have e0 := (bl1.cell (p := ⟨w.heap.size + 2, 0, none⟩) (by show w.heap.size + 2 < _; omega)).trans e0
          have e1 := (bl1.cell (p := ⟨w.heap.size + 2, 1, none⟩) (by show w.heap.size + 2 < _; omega)).trans e1
          have e2 := (bl1.cell (p := ⟨w.heap.size + 2, 2, none⟩) (by show w.heap.size + 2 < _; omega)).trans e2
          have t0 := (bl1.frozen (p := ⟨w.heap.size, 0, none⟩) (by show w.heap.size < _; omega)).trans t0
          have v1 := (bl1.frozen (p := ⟨w.heap.size + 2, 0, none⟩) (by show w.heap.size + 2 < _; omega)).trans v1
          have v2 := (bl1.frozen (p := ⟨w.heap.size + 2, 1, none⟩) (by show w.heap.size + 2 < _; omega)).trans v2
          have v3 := (bl1.frozen (p := ⟨w.heap.size + 2, 2, none⟩) (by show w.heap.size + 2 < _; omega)).trans v3
          have BL1 := Lib.hid bl1
          have O1 := Lib.hid own1
          clear bl1 own1
          have hbx := (Below.refl w1.heap.size w1).alloc (Nat.le_refl _) (.cells #[.string ⟨n.toArray⟩, .string ⟨bs.toArray⟩, .int .i64 (su : Int)] 82)
          have hnw : ∀ y, (some ⟨w1.heap.size, 0, none⟩ : Option Addr) = some y → ∀ j u, (fv [((n, ⟨bs, su⟩) : Fe)])[j]? = some u → (w1.alloc (.cells #[.string ⟨n.toArray⟩, .string ⟨bs.toArray⟩, .int .i64 (su : Int)] 82)).cell? (y.add j) = some u := new_file w1 n bs su _
          have OX := Lib.hid (O1.out.alloc (.cells #[.string ⟨n.toArray⟩, .string ⟨bs.toArray⟩, .int .i64 (su : Int)] 82))
          go_wp2_with (at_builtin; generalize hG : wpList _ _ _ _ _ _ = G)
          rw [← hG]
          clear hG
          refine (wpList_append_any rfl _ _ 26 rfl wc.heap.size 82 i0 (.agg #[.string ⟨#[]⟩, .string ⟨#[]⟩, .int .i64 0]) 3 40 Tryz.underlying26 hi hz0 hz1 hz2 rfl (by decide) va _ _ rfl OX.out (some ⟨w1.heap.size, 0, none⟩) 1 _ (fv [((n, ⟨bs, su⟩) : Fe)]) rfl (fun h => by cases h) rfl hnw (fv_one _) ?dx4 ?dx5 ?dx6 ?_)
          case dx4 => unfold maxLen; omega
          case dx5 => omega
          case dx6 => simp; omega
          intro vb w2 own2 bl2
          have B12 : Below wc.heap.size wc w2 := (BL1.out.alloc (by omega) _).trans bl2
          have hs2' := B12.size
          have bl2' := (hbx.mono (show wc.heap.size ≤ w1.heap.size by omega)).trans bl2
          have p0 := (bl2'.cell (p := ⟨w.heap.size, 0, none⟩) (by show w.heap.size < _; omega)).trans p0
          have p1 := (bl2'.cell (p := ⟨w.heap.size, 1, none⟩) (by show w.heap.size < _; omega)).trans p1
          have p2 := (bl2'.cell (p := ⟨w.heap.size, 2, none⟩) (by show w.heap.size < _; omega)).trans p2
          have q0 := (bl2'.cell (p := ⟨w.heap.size + 1, 0, none⟩) (by show w.heap.size + 1 < _; omega)).trans q0
          have q1 := (bl2'.cell (p := ⟨w.heap.size + 1, 1, none⟩) (by show w.heap.size + 1 < _; omega)).trans q1
          have q2 := (bl2'.cell (p := ⟨w.heap.size + 1, 2, none⟩) (by show w.heap.size + 1 < _; omega)).trans q2
          have e0 := (bl2'.cell (p := ⟨w.heap.size + 2, 0, none⟩) (by show w.heap.size + 2 < _; omega)).trans e0
          have e1 := (bl2'.cell (p := ⟨w.heap.size + 2, 1, none⟩) (by show w.heap.size + 2 < _; omega)).trans e1
          have e2 := (bl2'.cell (p := ⟨w.heap.size + 2, 2, none⟩) (by show w.heap.size + 2 < _; omega)).trans e2
          have t0 := (bl2'.frozen (p := ⟨w.heap.size, 0, none⟩) (by show w.heap.size < _; omega)).trans t0
          have v1 := (bl2'.frozen (p := ⟨w.heap.size + 2, 0, none⟩) (by show w.heap.size + 2 < _; omega)).trans v1
          have v2 := (bl2'.frozen (p := ⟨w.heap.size + 2, 1, none⟩) (by show w.heap.size + 2 < _; omega)).trans v2
          have v3 := (bl2'.frozen (p := ⟨w.heap.size + 2, 2, none⟩) (by show w.heap.size + 2 < _; omega)).trans v3
          have BB2 := Lib.hid B12
          have O2 := Lib.hid own2
          have hrd2 := Lib.hid (RD.out.old B12)
          clear bl2 own2 B12 bl2' hbx hnw
          go_wp2_with (at_builtin; generalize hG : wpList _ _ _ _ _ _ = G)
          rw [← hG]
          clear hG
          refine (wpList_append_any rfl _ _ 26 rfl wc.heap.size 82 i0 (.agg #[.string ⟨#[]⟩, .string ⟨#[]⟩, .int .i64 0]) 3 40 Tryz.underlying26 hi hz0 hz1 hz2 rfl (by decide) vb _ _ rfl O2.out (some ⟨b, o + k * 3, none⟩) (l1n - k) _ (fv (l1.drop k)) rfl ?dy0 ?dy1 ?dy2 ?dy3 ?dy4 ?dy5 ?dy6 ?_)
          case dy0 => intro h; cases h
          case dy1 => rw [fv_len, List.length_drop, HN1.out]
          case dy2 => exact (hrd2.out.drop (by rw [← HN1.out]; omega)).news
          case dy3 => exact fv_one _
          case dy4 => unfold maxLen; omega
          case dy5 => omega
          case dy6 => omega
          intro vc w3 own3 bl3
          simp only [Nat.zero_add, Nat.add_zero, List.nil_append, List.append_nil, List.append_assoc] at own3
          have B13 := Lib.hid (BB2.out.trans bl3)
          have hs3' := bl3.size
          have p0 := (bl3.cell (p := ⟨w.heap.size, 0, none⟩) (by show w.heap.size < _; omega)).trans p0
          have p1 := (bl3.cell (p := ⟨w.heap.size, 1, none⟩) (by show w.heap.size < _; omega)).trans p1
          have p2 := (bl3.cell (p := ⟨w.heap.size, 2, none⟩) (by show w.heap.size < _; omega)).trans p2
          have q0 := (bl3.cell (p := ⟨w.heap.size + 1, 0, none⟩) (by show w.heap.size + 1 < _; omega)).trans q0
          have q1 := (bl3.cell (p := ⟨w.heap.size + 1, 1, none⟩) (by show w.heap.size + 1 < _; omega)).trans q1
          have q2 := (bl3.cell (p := ⟨w.heap.size + 1, 2, none⟩) (by show w.heap.size + 1 < _; omega)).trans q2
          have e0 := (bl3.cell (p := ⟨w.heap.size + 2, 0, none⟩) (by show w.heap.size + 2 < _; omega)).trans e0
          have e1 := (bl3.cell (p := ⟨w.heap.size + 2, 1, none⟩) (by show w.heap.size + 2 < _; omega)).trans e1
          have e2 := (bl3.cell (p := ⟨w.heap.size + 2, 2, none⟩) (by show w.heap.size + 2 < _; omega)).trans e2
          have t0 := (bl3.frozen (p := ⟨w.heap.size, 0, none⟩) (by show w.heap.size < _; omega)).trans t0
          have v1 := (bl3.frozen (p := ⟨w.heap.size + 2, 0, none⟩) (by show w.heap.size + 2 < _; omega)).trans v1
          have v2 := (bl3.frozen (p := ⟨w.heap.size + 2, 1, none⟩) (by show w.heap.size + 2 < _; omega)).trans v2
          have v3 := (bl3.frozen (p := ⟨w.heap.size + 2, 2, none⟩) (by show w.heap.size + 2 < _; omega)).trans v3
          have hN : (l1.take k ++ (n, ⟨bs, su⟩) :: l1.drop k).length = (k + 1 + (l1n - k)) := by rw [List.length_append, List.length_take, List.length_cons, List.length_drop]; have := HN1.out; omega
          have hV : (fv (l1.take k) ++ (fv [((n, ⟨bs, su⟩) : Fe)] ++ fv (l1.drop k))) = fv (l1.take k ++ (n, ⟨bs, su⟩) :: l1.drop k) := by rw [fv_append]; rfl
          rw [hV] at own3
          obtain ⟨a3, c3, rfl⟩ := own_sl own3
          obtain ⟨r1, r2, r3⟩ := own_rdF hN own3
          have R1 := Lib.hid r1
          have hbb := Lib.hid (own_base3 own3)
          have hlt0 : w.heap.size < w3.heap.size := cell_lt p0
          clear own3 hV r1 bl3
          go_wp2_with fail
          refine bodyPost_ret (v := .agg #[.slice a3 (k + 1 + (l1n - k)) c3, .int .i64 fuse, .bool off]) (by simp [results, Tryz.f69, go_sem, *]) rfl ?_
          have hput : putL n ⟨bs, su⟩ l = l1.take k ++ (n, ⟨bs, su⟩) :: l1.drop k := by unfold putL; rw [← HL1.out]; exact insL_at (by rw [← HN1.out]; omega) HP.out HNO.out HNE.out
          rw [hput]
          have hb2 := hbb.out
          refine (fun hr hB => ⟨_, rfl, ⟨a3, c3, by simp only [hN], hr, by simp only [hN]; exact r2, r3⟩, hB⟩ : RdF _ a3 (l1.take k ++ (n, ⟨bs, su⟩) :: l1.drop k) → Below w.heap.size w _ → _) ?_ ?_
          · repeat (first | exact R1.out | (refine RdF.set ?_ hb2 (by omega) _))
          · have hB0 : Below w.heap.size w w3 := BB.out.trans ((KP.out.below (fun b hb => ⟨by omega, by omega⟩)).trans (B13.out.mono (by omega)))
            repeat (first | exact hB0 | (refine Below.setCell ?_ (by first | exact Nat.le_refl _ | (show w.heap.size ≤ w.heap.size + 1; omega) | (show w.heap.size ≤ w.heap.size + 2; omega)) _))

end Go.Proofs.YtkfmjkcomjmedaaGreat
namespace Go.Proofs.YtkfmjkcomjmedaaGreat
open Go.RowKit
set_option linter.unusedVariables false
set_option linter.unusedSimpArgs false

/-- A block that holds a disk's value. -/
structure Bx (W : World) (B : Nat) (a : Option Addr) (n c : Nat) (f : Int) (o : Bool) : Prop where
  c0 : W.cell? ⟨B, 0, none⟩ = some (.slice a n c)
  c1 : W.cell? ⟨B, 1, none⟩ = some (.int .i64 f)
  c2 : W.cell? ⟨B, 2, none⟩ = some (.bool o)
  f0 : W.frozen? ⟨B, 0, none⟩ = false
  f1 : W.frozen? ⟨B, 1, none⟩ = false
  f2 : W.frozen? ⟨B, 2, none⟩ = false
  ns : NoStr W B
theorem Bx.lt {W : World} {B : Nat} {a : Option Addr} {n c : Nat} {f : Int} {o : Bool} (h : Bx W B a n c f o) : B < W.heap.size := cell_lt h.c0
theorem Bx.new (w : World) (a : Option Addr) (n c : Nat) (f : Int) (o : Bool) (t : TypeId) : Bx (w.alloc (.cells #[.slice a n c, .int .i64 f, .bool o] t)) w.heap.size a n c f o :=
  ⟨by simp, by simp, by simp, by simp [go_sem], by simp [go_sem], by simp [go_sem], noStr_box w a n c f o t⟩
theorem Bx.old {W W' : World} {B : Nat} {a : Option Addr} {n c : Nat} {f : Int} {o : Bool} (h : Bx W B a n c f o) (hb : Below W.heap.size W W') : Bx W' B a n c f o :=
  ⟨(hb.cell (p := ⟨B, 0, none⟩) h.lt).trans h.c0, (hb.cell (p := ⟨B, 1, none⟩) h.lt).trans h.c1, (hb.cell (p := ⟨B, 2, none⟩) h.lt).trans h.c2,
    (hb.frozen (p := ⟨B, 0, none⟩) h.lt).trans h.f0, (hb.frozen (p := ⟨B, 1, none⟩) h.lt).trans h.f1, (hb.frozen (p := ⟨B, 2, none⟩) h.lt).trans h.f2, h.ns.old h.lt hb⟩
/-- What a disk's value becomes when it is written into a block. -/
abbrev put3 (W : World) (B : Nat) (a : Option Addr) (n c : Nat) (f : Int) (o : Bool) : World := ((W.setCell ⟨B, 0, none⟩ (.slice a n c)).setCell ⟨B, 1, none⟩ (.int .i64 f)).setCell ⟨B, 2, none⟩ (.bool o)
theorem put3_cell (W : World) (B : Nat) (a : Option Addr) (n c : Nat) (f : Int) (o : Bool) {b i : Nat} (hb : b ≠ B) : (put3 W B a n c f o).cell? ⟨b, i, none⟩ = W.cell? ⟨b, i, none⟩ := by
  unfold put3
  rw [World.cell?_setCell_other _ _ _ _ (by intro e; simp at e <;> omega), World.cell?_setCell_other _ _ _ _ (by intro e; simp at e <;> omega), World.cell?_setCell_other _ _ _ _ (by intro e; simp at e <;> omega)]
theorem put3_frozen (W : World) (B : Nat) (a : Option Addr) (n c : Nat) (f : Int) (o : Bool) (b i : Nat) : (put3 W B a n c f o).frozen? ⟨b, i, none⟩ = W.frozen? ⟨b, i, none⟩ := by
  unfold put3
  simp [go_sem]
theorem put3_size (W : World) (B : Nat) (a : Option Addr) (n c : Nat) (f : Int) (o : Bool) : (put3 W B a n c f o).heap.size = W.heap.size := by simp [put3, World.setCell]
theorem put3_below {base : Nat} {w0 W : World} {B : Nat} (h : Below base w0 W) (hB : base ≤ B) (a : Option Addr) (n c : Nat) (f : Int) (o : Bool) : Below base w0 (put3 W B a n c f o) := by
  unfold put3
  exact ((h.setCell hB _).setCell hB _).setCell hB _
section
variable {W : World} {B : Nat} {a : Option Addr} {n c : Nat} {f : Int} {o : Bool}
theorem Bx.noStr3 (h : Bx W B a n c f o) (a' : Option Addr) (n' c' : Nat) (f' : Int) (o' : Bool) :
    NoStr (W.setCell ⟨B, 0, none⟩ (.slice a' n' c')) B ∧ NoStr ((W.setCell ⟨B, 0, none⟩ (.slice a' n' c')).setCell ⟨B, 1, none⟩ (.int .i64 f')) B ∧ NoStr (put3 W B a' n' c' f' o') B := by
  have n1 := h.ns.set 0 (.slice a' n' c') (by rw [h.c0]; rfl) (fun s h => by cases h)
  have n2 := n1.set 1 (.int .i64 f') (by rw [World.cell?_setCell_other _ _ _ _ (by simp), h.c1]; rfl) (fun s h => by cases h)
  exact ⟨n1, n2, n2.set 2 (.bool o') (by rw [World.cell?_setCell_other _ _ _ _ (by simp), World.cell?_setCell_other _ _ _ _ (by simp), h.c2]; rfl) (fun s h => by cases h)⟩
theorem Bx.put (h : Bx W B a n c f o) (a' : Option Addr) (n' c' : Nat) (f' : Int) (o' : Bool) : Bx (put3 W B a' n' c' f' o') B a' n' c' f' o' := by
  have s0 : (W.setCell ⟨B, 0, none⟩ (.slice a' n' c')).cell? ⟨B, 0, none⟩ = some (.slice a' n' c') := World.cell?_setCell_same' _ _ _ (by rw [h.c0]; rfl)
  refine ⟨?_, ?_, ?_, (put3_frozen ..).trans h.f0, (put3_frozen ..).trans h.f1, (put3_frozen ..).trans h.f2, (h.noStr3 a' n' c' f' o').2.2⟩
  · unfold put3
    rw [World.cell?_setCell_other _ _ _ _ (by simp), World.cell?_setCell_other _ _ _ _ (by simp), s0]
  · unfold put3
    rw [World.cell?_setCell_other _ _ _ _ (by simp), World.cell?_setCell_same' _ _ _ (by rw [World.cell?_setCell_other _ _ _ _ (by simp), h.c1]; rfl)]
  · unfold put3
    rw [World.cell?_setCell_same' _ _ _ (by rw [World.cell?_setCell_other _ _ _ _ (by simp), World.cell?_setCell_other _ _ _ _ (by simp), h.c2]; rfl)]
theorem Bx.other (h : Bx W B a n c f o) {B' : Nat} (hne : B ≠ B') (a' : Option Addr) (n' c' : Nat) (f' : Int) (o' : Bool) : Bx (put3 W B' a' n' c' f' o') B a n c f o :=
  ⟨(put3_cell _ _ _ _ _ _ _ hne).trans h.c0, (put3_cell _ _ _ _ _ _ _ hne).trans h.c1, (put3_cell _ _ _ _ _ _ _ hne).trans h.c2, (put3_frozen ..).trans h.f0, (put3_frozen ..).trans h.f1, (put3_frozen ..).trans h.f2,
    fun i s e => h.ns i s ((put3_cell _ _ _ _ _ _ _ hne).symm.trans e)⟩
theorem RdF.put (h : Bx W B a n c f o) {x : Option Addr} {l : List Fe} (hr : RdF W x l) (a' : Option Addr) (n' c' : Nat) (f' : Int) (o' : Bool) : RdF (put3 W B a' n' c' f' o') x l := by
  obtain ⟨n1, n2, -⟩ := h.noStr3 a' n' c' f' o'
  exact ((hr.apart h.ns _ _).apart n1 _ _).apart n2 _ _
theorem RefD.put (h : Bx W B a n c f o) {q : Value} {S : Ds} (hr : RefD W q S) (a' : Option Addr) (n' c' : Nat) (f' : Int) (o' : Bool) : RefD (put3 W B a' n' c' f' o') q S := by
  obtain ⟨x, y, h1, h2, h3⟩ := hr
  exact ⟨x, y, h1, RdF.put h h2 .., h3⟩
end
/-! ### Name -/
set_option maxRecDepth 100000 in
set_option maxHeartbeats 2000000 in
theorem wname_any (s : ByteArray) (hs : s.size ≤ maxLen) (w : World) :
    Calls Tryz.prog 57 #[.string s] w fun e w' => e = .returned (.bool (namL s.data.toList)) ∧ w = w' := by
  unfold maxLen at hs
  go_enter Tryz.func57, Tryz.ntmps57
  go_wp2
  go_loop [3] (fun i => ∃ j : Nat, j ≤ s.size ∧ i = .int .i64 j ∧ AllB s.data.toList j) (fun i => s.size - (intOf i).toNat)
  case atStart => exact ⟨0, Nat.zero_le _, rfl, rfl⟩
  case round =>
    obtain ⟨j, hj, rfl, hB⟩ := hrel
    have HBB := Lib.hid hB
    clear hB
    by_cases hjt : j < s.size
    · have hl : j < s.data.toList.length := by rw [Array.length_toList]; exact hjt
      have hg : s.data.toList[j] = s[j] := by simp; rfl
      have hlt := s[j].toNat_lt
      cases hn : namB s[j] with
      | true =>
        have HN := Lib.hid hn
        have h1 := hn
        unfold namB at h1
        simp only [Bool.or_eq_true, Bool.and_eq_true, decide_eq_true_eq] at h1
        have HE := Lib.hid (show AllB s.data.toList (j + 1) from by unfold AllB; rw [take_all_snoc namB _ j hl, HBB.out, hg, HN.out]; rfl)
        clear hn hg
        have hcase : (97 ≤ (s[j].toNat : Int) ∧ (s[j].toNat : Int) ≤ 122) ∨ ((s[j].toNat : Int) < 97 ∧ 48 ≤ (s[j].toNat : Int) ∧ (s[j].toNat : Int) ≤ 57) ∨ ((s[j].toNat : Int) < 48 ∧ (s[j].toNat : Int) = 46) ∨ ((s[j].toNat : Int) < 48 ∧ (s[j].toNat : Int) = 45) := by omega
        clear h1
        rcases hcase with ⟨h1, h2⟩ | ⟨h1, h2, h3⟩ | ⟨h1, h2⟩ | ⟨h1, h2⟩
        · go_wp2
          go_round
          case rel => exact ⟨j + 1, by omega, by go_num, HE.out⟩
          case measure => simp [intOf]; omega
        · go_wp2
          go_round
          case rel => exact ⟨j + 1, by omega, by go_num, HE.out⟩
          case measure => simp [intOf]; omega
        · have h3 : (s[j].toNat : Int) < 97 := by omega
          have h4 : ((s[j].toNat : Int) != 46) = false := by simp [h2]
          clear h2
          go_wp2
          go_round
          case rel => exact ⟨j + 1, by omega, by go_num, HE.out⟩
          case measure => simp [intOf]; omega
        · have h3 : (s[j].toNat : Int) < 97 := by omega
          have h4 : ((s[j].toNat : Int) != 46) = true := by simp [h2]
          have h5 : ((s[j].toNat : Int) != 45) = false := by simp [h2]
          clear h2
          go_wp2
          go_round
          case rel => exact ⟨j + 1, by omega, by go_num, HE.out⟩
          case measure => simp [intOf]; omega
      | false =>
        have h1 := hn
        unfold namB at h1
        simp only [Bool.or_eq_false_iff, Bool.and_eq_false_iff, decide_eq_false_iff_not] at h1
        obtain ⟨⟨⟨h1, h2⟩, h3⟩, h4⟩ := h1
        have h3' : ((s[j].toNat : Int) != 46) = true := by simpa using h3
        have h4' : ((s[j].toNat : Int) != 45) = true := by simpa using h4
        have HF := Lib.hid (show namL s.data.toList = false from by unfold namL; rw [all_false_at namB _ j hl (by rw [hg]; exact hn)]; simp)
        clear h3 h4 hn hg
        have hcase : ((s[j].toNat : Int) < 97 ∧ (s[j].toNat : Int) < 48) ∨ ((s[j].toNat : Int) < 97 ∧ 57 < (s[j].toNat : Int)) ∨ 122 < (s[j].toNat : Int) := by omega
        clear h1 h2
        rcases hcase with ⟨h1, h2⟩ | ⟨h1, h2⟩ | h1
        all_goals
          go_wp2
          go_ret
          exact ⟨ret_b HF.out.symm, rfl⟩
    · have hje : j = s.size := by omega
      have HJ := Lib.hid hje
      have hall : s.data.toList.all namB = true := by
        have := HBB.out
        unfold AllB at this
        rw [hje, List.take_of_length_le (by rw [Array.length_toList]; exact Nat.le_refl _)] at this
        exact this
      have HA := Lib.hid hall
      clear hje hall
      have hlen : s.data.toList.length = s.size := Array.length_toList
      by_cases h1 : 1 ≤ s.size
      · by_cases h2 : s.size ≤ 32
        · have HF := Lib.hid (show namL s.data.toList = true from by unfold namL; rw [HA.out, decide_eq_true (by omega), decide_eq_true (by omega)]; rfl)
          clear hlen
          go_wp2
          go_ret
          exact ⟨ret_b (by rw [HF.out, decide_eq_true_eq]; omega), rfl⟩
        · have HF := Lib.hid (show namL s.data.toList = false from by unfold namL; rw [decide_eq_false (show ¬ s.data.toList.length ≤ 32 by omega)]; simp)
          clear hlen
          go_wp2
          go_ret
          exact ⟨ret_b (by rw [HF.out, decide_eq_false_iff_not]; omega), rfl⟩
      · have HF := Lib.hid (show namL s.data.toList = false from by unfold namL; rw [decide_eq_false (show ¬ 0 < s.data.toList.length by omega)]; simp)
        clear hlen
        go_wp2
        go_ret
        exact ⟨ret_b HF.out.symm, rfl⟩
end Go.Proofs.YtkfmjkcomjmedaaGreat
namespace Go.Proofs.YtkfmjkcomjmedaaGreat
open Go.RowKit
set_option linter.unusedVariables false
set_option linter.unusedSimpArgs false

theorem wname_list (n : List UInt8) (hn : n.length ≤ maxLen) (w : World) :
    Calls Tryz.prog 57 #[.string ⟨n.toArray⟩] w fun e w' => e = .returned (.bool (namL n)) ∧ w = w' := by
  have h := wname_any ⟨n.toArray⟩ (by simpa [Lib.size_eq] using hn) w
  simpa using h
theorem begE_name {fu : Int} {of : Bool} : begE false fu of = 1 := by unfold begE; simp
theorem begE_two (fu : Int) (of : Bool) : begE true fu of = 0 ∨ begE true fu of = 50 := by
  unfold begE
  cases of with
  | true => simp
  | false => by_cases h : fu = 0 <;> simp [h]
theorem begin_files (S : Ds) (b : Bool) : (S.begin b).files = S.files := rfl
theorem make_no {S : Ds} {n : List UInt8} (h : namL n = false) : S.make n = (S, 1) := by
  unfold Ds.make
  rw [h, begE_name]
  simp [Ds.begin, begF, begO]
theorem make_off {S : Ds} {n : List UInt8} (h : namL n = true) (he : begE true S.fuse S.off = 50) : S.make n = (S.begin true, 50) := by
  unfold Ds.make
  rw [h, he]
  simp
theorem make_there {S : Ds} {n : List UInt8} {f : Fl} (h : namL n = true) (he : begE true S.fuse S.off = 0) (hg : getL n S.files = some f) : S.make n = (S.begin true, 1) := by
  unfold Ds.make
  rw [h, he, hg]
  simp
theorem make_full {S : Ds} {n : List UInt8} (h : namL n = true) (he : begE true S.fuse S.off = 0) (hg : getL n S.files = none) (hl : 256 ≤ S.files.length) : S.make n = (S.begin true, 2) := by
  unfold Ds.make
  rw [h, he, hg]
  simp [hl]
theorem make_yes {S : Ds} {n : List UInt8} (h : namL n = true) (he : begE true S.fuse S.off = 0) (hg : getL n S.files = none) (hl : ¬ 256 ≤ S.files.length) : S.make n = (⟨putL n ⟨[], 0⟩ (S.begin true).files, (S.begin true).fuse, (S.begin true).off⟩, 0) := by
  unfold Ds.make
  rw [h, he, hg]
  simp [hl, begin_files]
theorem append_no {S : Ds} {n : List UInt8} {s : List UInt8} (h : namL n = false) : S.append n s = (S, 1) := by
  unfold Ds.append Ds.chgE
  rw [h, begE_name]
  simp [Ds.begin, begF, begO]
theorem append_off {S : Ds} {n : List UInt8} {s : List UInt8} (h : namL n = true) (he : begE true S.fuse S.off = 50) : S.append n s = (S.begin true, 50) := by
  unfold Ds.append Ds.chgE
  rw [h, he]
  simp
theorem append_none {S : Ds} {n : List UInt8} {s : List UInt8} (h : namL n = true) (he : begE true S.fuse S.off = 0) (hg : getL n S.files = none) : S.append n s = (S.begin true, 3) := by
  unfold Ds.append Ds.chgE
  rw [h, he, hg]
  simp [fE]
theorem sync_no {S : Ds} {n : List UInt8} (h : namL n = false) : S.sync n = (S, 1) := by
  unfold Ds.sync Ds.chgE
  rw [h, begE_name]
  simp [Ds.begin, begF, begO]
theorem sync_off {S : Ds} {n : List UInt8} (h : namL n = true) (he : begE true S.fuse S.off = 50) : S.sync n = (S.begin true, 50) := by
  unfold Ds.sync Ds.chgE
  rw [h, he]
  simp
theorem sync_none {S : Ds} {n : List UInt8} (h : namL n = true) (he : begE true S.fuse S.off = 0) (hg : getL n S.files = none) : S.sync n = (S.begin true, 3) := by
  unfold Ds.sync Ds.chgE
  rw [h, he, hg]
  simp [fE]
theorem remove_no {S : Ds} {n : List UInt8} (h : namL n = false) : S.remove n = (S, 1) := by
  unfold Ds.remove Ds.chgE
  rw [h, begE_name]
  simp [Ds.begin, begF, begO]
theorem remove_off {S : Ds} {n : List UInt8} (h : namL n = true) (he : begE true S.fuse S.off = 50) : S.remove n = (S.begin true, 50) := by
  unfold Ds.remove Ds.chgE
  rw [h, he]
  simp
theorem remove_none {S : Ds} {n : List UInt8} (h : namL n = true) (he : begE true S.fuse S.off = 0) (hg : getL n S.files = none) : S.remove n = (S.begin true, 3) := by
  unfold Ds.remove Ds.chgE
  rw [h, he, hg]
  simp [fE]
theorem remove_yes {S : Ds} {n : List UInt8} {f : Fl} (h : namL n = true) (he : begE true S.fuse S.off = 0) (hg : getL n S.files = some f) : S.remove n = (⟨delL n (S.begin true).files, (S.begin true).fuse, (S.begin true).off⟩, 0) := by
  unfold Ds.remove Ds.chgE
  rw [h, he, hg]
  simp [fE, begin_files]
theorem sync_yes {S : Ds} {n : List UInt8} {f : Fl} (h : namL n = true) (he : begE true S.fuse S.off = 0) (hg : getL n S.files = some f) (hs : Srt S.files) : S.sync n = (⟨putL n ⟨f.bytes, f.bytes.length⟩ (S.begin true).files, (S.begin true).fuse, (S.begin true).off⟩, 0) := by
  rw [begin_files, putL_set hs ⟨f, hg⟩]
  unfold Ds.sync Ds.chgE
  rw [h, he, hg]
  simp [fE]
theorem append_full {S : Ds} {n s : List UInt8} {f : Fl} (h : namL n = true) (he : begE true S.fuse S.off = 0) (hg : getL n S.files = some f) (hl : 4194304 < f.bytes.length + s.length) : S.append n s = (S.begin true, 2) := by
  unfold Ds.append Ds.chgE
  rw [h, he, hg]
  simp [fE, hl]
theorem append_yes {S : Ds} {n s : List UInt8} {f : Fl} (h : namL n = true) (he : begE true S.fuse S.off = 0) (hg : getL n S.files = some f) (hs : Srt S.files) (hl : ¬ 4194304 < f.bytes.length + s.length) : S.append n s = (⟨putL n ⟨f.bytes ++ s, f.sure⟩ (S.begin true).files, (S.begin true).fuse, (S.begin true).off⟩, 0) := by
  rw [begin_files, putL_set hs ⟨f, hg⟩]
  unfold Ds.append Ds.chgE
  rw [h, he, hg]
  simp [fE, hl]
theorem RefD.rd {w : World} {a : Option Addr} {n c : Nat} {f : Int} {o : Bool} {S : Ds} (h : RefD w (.agg #[.slice a n c, .int .i64 f, .bool o]) S) : RdF w a S.files ∧ n = S.files.length ∧ n ≤ c ∧ c ≤ maxLen := by
  obtain ⟨a', c', he, h1, h2, h3⟩ := h
  simp at he
  obtain ⟨⟨rfl, rfl, rfl⟩, -, -⟩ := he
  exact ⟨h1, rfl, h2, h3⟩
theorem cat_bytes (a b : List UInt8) : (⟨a.toArray⟩ ++ ⟨b.toArray⟩ : ByteArray) = ⟨(a ++ b).toArray⟩ := by
  apply ByteArray.ext
  simp
end Go.Proofs.YtkfmjkcomjmedaaGreat
