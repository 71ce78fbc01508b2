/-
  A region that draws its order and ends in a forced tail (a call that writes, a store), whose operations ahead of the tail are quiet in a class of worlds (calls that make memory, loads): one walk in the order of the text, then the tail as a list. Conditions: none.
-/
import Derived.Test.YtdnhmkfgcpdbkaaRg
import Derived.StillTail
import Derived.Deep.Quiet
namespace Go.Proofs.Ytdnhmkfgcpdbkaa
open Go.RowKit

section
variable {P : Program} {ops : Array Oper} {md : Region.Mode} {C : World → Prop}
/-- f operations of the first n, in whatever order, then L. -/
def Lead (P : Program) (md : Region.Mode) (ops : Array Oper) (C : World → Prop) (n : Nat) (L : Array Bool → Act → Prop) : Nat → Array Bool → Act → Prop
  | 0, t, a => L t a
  | f + 1, t, a => Region.ready md ops t ≠ [] ∧ ∀ i ∈ Region.ready md ops t, i < n ∧ qOp P ops C i (Lead P md ops C n L f (t.setIfInBounds i true)) a
theorem lead_any {n g : Nat} {L : Array Bool → Act → Prop} {Q : Exit → Act → World → Prop} (hL : ∀ t a w, C w → L t a → wpAny P md ops Q g t a w) :
    ∀ (f : Nat) (t : Array Bool) (a : Act) (w : World), C w → Lead P md ops C n L f t a → wpAny P md ops Q (f + g) t a w
  | 0, t, a, w, hw, h => by rw [Nat.zero_add]; exact hL t a w hw h
  | f + 1, t, a, w, hw, h => by
    rw [Nat.succ_add]
    refine ⟨fun e => (h.1 e).elim, fun i hi => ?_⟩
    exact wpOp_of_qOp hw (fun a' w' hw' h' => lead_any hL f _ a' w' hw' h') (h.2 i hi).2
theorem ready_lt {n : Nat} {t : Array Bool} (hs : Region.sinkB md ops n = true) (hc : Region.chainB md ops n = true) (hn : n < ops.size) (inv : HeadInv md ops n t) {i : Nat} (hin : i < n) (hun : t.getD i true = false) {j : Nat} (hj : j ∈ Region.ready md ops t) : j < n := by
  rcases Nat.lt_or_ge j n with h | h
  · exact h
  · exact absurd hj (tail_waits hs hc hn inv _ i rfl hin hun j h)
theorem not_on {t : Array Bool} {i : Nat} {oj : Oper} (hun : t.getD i true = false) (hall : ∀ e ∈ oj.after, Region.binds md e = true → t.getD e.on false = true) : ∀ e ∈ oj.after, Region.binds md e = true → e.on ≠ i := by
  intro e he hb heq
  have := hall e he hb
  rw [heq, getD_both hun] at this
  cases this
/-- An operation of the first n that may come up now may be taken first. -/
theorem lead_first {n i : Nat} {oi : Oper} {v : Value} {L : Array Bool → Act → Prop} (hi : ops[i]? = some oi) (hsel : ∀ (j : Nat) (o : Oper) cs b, ops[j]? = some o → o.op ≠ .select cs b)
    (hs : Region.sinkB md ops n = true) (hc : Region.chainB md ops n = true) (hn : n < ops.size) (hin : i < n) (hL : ∀ t a, L t a → ∀ j ∈ Region.ready md ops t, n ≤ j) (f : Nat) :
    ∀ (t : Array Bool) (a : Act), HeadInv md ops n t → (∀ j oj, ops[j]? = some oj → j ≠ i → t.getD j true = false → (∀ e ∈ oj.after, Region.binds md e = true → e.on ≠ i) → oi.apart ops oj = true) →
      i ∈ Region.ready md ops t → YieldsIn P ops C oi v a → Lead P md ops C n L f (t.setIfInBounds i true) (a.put oi.dst v) → Lead P md ops C n L (f + 1) t a := by
  induction f with
  | zero =>
    intro t a inv _ hr hy h
    refine ⟨List.ne_nil_of_mem hr, fun j hj => ?_⟩
    have hjn := ready_lt hs hc hn inv hin (mem_ready.1 hr).1 hj
    by_cases e : j = i
    · rw [e]; exact ⟨hin, hy.qOp hi h⟩
    · have := hL _ _ h j (ready_mono hj e)
      omega
  | succ f ih =>
    intro t a inv hfree hr hy h
    refine ⟨List.ne_nil_of_mem hr, fun j hj => ?_⟩
    have hun := (mem_ready.1 hr).1
    have hjn := ready_lt hs hc hn inv hin hun hj
    by_cases e : j = i
    · rw [e]; exact ⟨hin, hy.qOp hi h⟩
    · obtain ⟨hju, oj, hoj, hall⟩ := mem_ready.1 hj
      refine ⟨hjn, ?_⟩
      have h2 := qOp_put hoj (hfree j oj hoj e hju (not_on hun hall)) (fun cs b => hsel i oi cs b hi) (fun cs b => hsel j oj cs b hoj) hy (h.2 j (ready_mono hj e)).2
      refine qOp_mono (fun a' h3 => ih _ a' (inv.set hj hjn) ?_ (ready_mono hr (Ne.symm e)) h3.1 (by rw [Array.setIfInBounds_comm _ _ e]; exact h3.2)) h2
      intro k ok hk hki hku hno
      refine hfree k ok hk hki ?_ hno
      by_cases ejk : j = k
      · rw [← ejk]; exact hju
      · rwa [getD_set_ne true ejk] at hku
theorem lead_lex {n g : Nat} {K : Act → Prop} (hsel : Region.noSelect ops = true) (hs : Region.sinkB md ops n = true) (hc : Region.chainB md ops n = true) (hn : n < ops.size) :
    ∀ (l : List Oper) (k : Nat) (t : Array Bool) (a : Act), (∀ j, j < l.length → l[j]? = ops[k + j]?) → k + l.length = n → HeadInv md ops n t →
    Region.lexHead md ops g l.length k t = true → wpQuiet P ops C K l a → Lead P md ops C n (fun t' a' => Region.seqB md ops g n t' = true ∧ K a') l.length t a
  | [], k, t, a, _, hk, _, hB, h => by
    have e : k = n := by simpa using hk
    rw [e] at hB
    exact ⟨by simpa [Region.lexHead] using hB, h⟩
  | o :: l, k, t, a, hl, hk, inv, hB, h => by
    have h0 : ops[k]? = some o := by simpa using (hl 0 (by simp)).symm
    have hkn : k < n := by rw [List.length_cons] at hk; omega
    simp only [List.length_cons, Region.lexHead, Bool.and_eq_true] at hB
    have hr : k ∈ Region.ready md ops t := by simpa using hB.1.1
    have hq : qOp P ops C k (wpQuiet P ops C K l) a := by unfold qOp; simp only [h0]; exact h
    obtain ⟨v, hy, hK⟩ := yieldsIn_of_qOp h0 hq
    refine lead_first h0 (Region.noSelect_spec hsel) hs hc hn hkn (fun t' a' hL => seqB_ready hL.1) l.length t a inv (Region.free_spec h0 hB.1.2) hr hy ?_
    refine lead_lex hsel hs hc hn l (k + 1) _ _ (fun j hj => ?_) (by rw [List.length_cons] at hk; omega) (inv.set hr hkn) hB.2 hK
    have := hl (j + 1) (by simp; omega)
    simpa [Nat.add_assoc, Nat.add_comm 1 j] using this
theorem quiet_tail {id : Nat} {Q : Exit → Act → World → Prop} {a : Act} {w : World} {l : List Oper} (n : Nat) (hm : P.follows .mixedOrders = true) (hB : Region.lexTailB .any l.toArray n = true) (hC : C { w with drawn := w.drawn + 1 })
    (h : wpQuiet P l.toArray C (fun a' => ∀ w', C w' → wpList P l.toArray Q (l.drop n) a' w') (l.take n) a) : (Code.region id l.toArray true).wp P Q a w := by
  simp only [Region.lexTailB, Bool.and_eq_true, decide_eq_true_eq] at hB
  obtain ⟨⟨⟨⟨hsel, hn⟩, hs⟩, hc⟩, hlex⟩ := hB
  have hn2 : n < l.length := by simpa using hn
  have e1 : (l.take n).length = n := by simp; omega
  have e2 : (l.drop n).length = l.toArray.size - n := by simp
  have inv : HeadInv .any l.toArray n (Array.replicate l.toArray.size false) := by
    refine ⟨by simp, fun j oj _ hj => ?_, fun t _ ht => getD_in (by simpa using ht) (getD_replicate_false _ _)⟩
    rw [getD_replicate_false] at hj
    cases hj
  have hl : ∀ j, j < (l.take n).length → (l.take n)[j]? = l.toArray[0 + j]? := fun j hj => by
    have : j < n := by rw [e1] at hj; exact hj
    simp [this]
  have H := lead_lex (md := .any) (g := l.toArray.size - n) hsel hs hc hn (l.take n) 0 _ a hl (by simpa using e1) inv (by rw [e1]; exact hlex) h
  refine wp_region_any hm ?_
  have H2 := lead_any (Q := Q) (g := l.toArray.size - n) (fun t a' w' hw' hL => by
    have := wpAny_of_seq (md := .any) (Q' := Q) (l.drop n) n t a' w' (fun j => by simp [List.getElem?_drop]) (by rw [e2]; exact hL.1) (hL.2 w' hw')
    rwa [e2] at this) _ _ _ _ hC H
  rw [e1, show n + (l.toArray.size - n) = l.toArray.size by omega] at H2
  exact H2
/-- At the class 'below the start nothing has changed'. -/
theorem below_tail {id : Nat} {Q : Exit → Act → World → Prop} {a : Act} {w : World} {l : List Oper} (n : Nat) (hm : P.follows .mixedOrders = true) (hB : Region.lexTailB .any l.toArray n = true)
    (h : wpQuiet P l.toArray (fun w' => Below w.heap.size w w') (fun a' => ∀ w', Below w.heap.size w w' → wpList P l.toArray Q (l.drop n) a' w') (l.take n) a) : (Code.region id l.toArray true).wp P Q a w :=
  quiet_tail n hm hB ⟨rfl, rfl, rfl, Nat.le_refl _, fun _ _ => rfl⟩ h
end
end Go.Proofs.Ytdnhmkfgcpdbkaa
