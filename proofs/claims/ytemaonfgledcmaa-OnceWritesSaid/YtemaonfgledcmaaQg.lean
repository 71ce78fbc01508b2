/-
  XQm's walk for a region that draws its order, where a calm operation may be guarded (and not wanted), and where calm ones may stand behind loud ones: a schedule. Conditions: none.
-/
import Derived.Test.YtemaonfgledcmaaQm
namespace Go.Proofs.Ytemaonfgledcmaa
open Go.RowKit

section
variable {P : Program} {ops : Array Oper} {md : Region.Mode} {D : World → Prop} {Q : Exit → Act → World → Prop} {z : Nat}
/-- In frame a, in every world of the class, the operation yields v and leaves the world alone; or it is not wanted. -/
def CalmG (P : Program) (ops : Array Oper) (D : World → Prop) (o : Oper) (v : Value) (a : Act) : Prop :=
  (Region.wanted o (yielded ops a.tmps) = true ∧ ∀ w, D w → o.quietAt P a (fun x => x = w) w v) ∨ (Region.wanted o (yielded ops a.tmps) = false ∧ v = undef)
theorem CalmG.op {i : Nat} {o : Oper} {v : Value} {a : Act} {w : World} {K : Act → World → Prop} (hi : ops[i]? = some o) (hy : CalmG P ops D o v a) (hw : D w) (h : K (a.put o.dst v) w) : opM P ops i K a w := by
  rcases hy with hy | ⟨hy, rfl⟩
  · exact Calm.op hi hy hw h
  · unfold opM
    simp only [hi, hy]
    exact h
theorem CalmG.same {o : Oper} {v : Value} {a a' : Act} (hy : CalmG P ops D o v a) (he : execOp a'.eval o = execOp a.eval o) (hw : Region.wanted o (yielded ops a'.tmps) = Region.wanted o (yielded ops a.tmps)) : CalmG P ops D o v a' := by
  unfold CalmG Oper.quietAt at *
  rw [he, hw]
  exact hy
/-- An operation apart from a calm one: whether the calm one's value is already there makes no difference. -/
theorem opM_putG {j : Nat} {oi oj : Oper} {v : Value} (hj : ops[j]? = some oj) (hap : oi.apart ops oj = true) (hsi : ∀ cs b, oi.op ≠ .select cs b) (hsj : ∀ cs b, oj.op ≠ .select cs b) {K : Act → World → Prop} {a : Act} {w : World}
    (hy : CalmG P ops D oi v a) (h : opM P ops j K (a.put oi.dst v) w) : opM P ops j (fun a' w' => CalmG P ops D oi v a' ∧ K (a'.put oi.dst v) w') a w := by
  obtain ⟨h1, h2, h3⟩ := Oper.apart_spec hap
  have keep : ∀ u, CalmG P ops D oi v (a.put oj.dst u) := fun u => hy.same (execOp_put oi hsi a oj.dst u h3) (wanted_put oi a oj.dst u h3)
  have keepD : ∀ ds u, CalmG P ops D oi v (({ a with defers := ds } : Act).put oj.dst u) := fun ds u => by
    rw [defers_put]
    exact (keep u).same rfl rfl
  unfold opM at *
  simp only [hj] at *
  rw [wanted_put oj a oi.dst v h1] at h
  split
  · rename_i hw
    simp only [hw, if_true] at h
    unfold Oper.wp at *
    rw [execOp_put oj hsj a oi.dst v h1] at h
    generalize (execOp a.eval oj).run P w = r at *
    cases r with
    | ok n w' =>
      cases n <;> simp only [Oper.upon] at h ⊢
      case value u => exact ⟨keep u, by rw [← Act.put_comm a v u h2]; exact h⟩
      case skip => exact ⟨keep _, by rw [← Act.put_comm a v _ h2]; exact h⟩
      case defer d =>
        refine ⟨keepD _ _, ?_⟩
        have e : (({ a with defers := d :: a.defers } : Act).put oj.dst undef).put oi.dst v = ({ a.put oi.dst v with defers := d :: (a.put oi.dst v).defers } : Act).put oj.dst undef := by
          rw [Act.put_comm _ undef v (fun x h1 h3 => h2 x h3 h1)]
          cases oi.dst <;> rfl
        rw [e]
        exact h
      case enter f args =>
        refine Calls.mono h fun e w'' he => ?_
        cases e with
        | returned u => exact ⟨keep u, by rw [← Act.put_comm a v u h2]; exact he⟩
        | panicked c => exact he
        | outgrown => exact he
      case row row args => exact Rows.mono h fun u w'' he => ⟨keep u, by rw [← Act.put_comm a v u h2]; exact he⟩
      all_goals exact h
    | halt x w' => cases x <;> simp only [Oper.upon] at h ⊢ <;> exact h.elim
  · rename_i hw
    simp only [hw] at h
    exact ⟨keep _, by rw [← Act.put_comm a v undef h2]; exact h⟩
/-- A calm operation that may come up now may be taken first. -/
theorem firstG {i : Nat} {oi : Oper} {v : Value} (hi : ops[i]? = some oi) (hsel : ∀ (j : Nat) (o : Oper) cs b, ops[j]? = some o → o.op ≠ .select cs b) (hiz : i ≠ z) (hz : ∃ oz, ops[z]? = some oz ∧ ∃ e ∈ oz.after, Region.binds md e = true ∧ e.on = i) (f : Nat) :
    ∀ (t : Array Bool) (a : Act) (w : World), D w → (∀ j oj, ops[j]? = some oj → j ≠ i → t.getD j true = false → (∀ e ∈ oj.after, Region.binds md e = true → e.on ≠ i) → oi.apart ops oj = true) →
      i ∈ Region.ready md ops t → CalmG P ops D oi v a → AnyM P md ops D Q z f (t.setIfInBounds i true) (a.put oi.dst v) w → AnyM P md ops D Q z (f + 1) t a w := by
  induction f with
  | zero =>
    intro t a w hw _ hr hy h
    refine ⟨fun e => absurd hr (by rw [e]; simp), fun j hj => ?_⟩
    by_cases e : j = i
    · rw [e]; exact hy.op hi hw ⟨fun _ => hw, h⟩
    · have := ready_mono hj e
      rw [h.1] at this
      cases this
  | succ f ih =>
    intro t a w hw hfree hr hy h
    refine ⟨fun e => absurd hr (by rw [e]; simp), fun j hj => ?_⟩
    by_cases e : j = i
    · rw [e]; exact hy.op hi hw ⟨fun _ => hw, h⟩
    · have hun := (mem_ready.1 hr).1
      obtain ⟨hju, oj, hoj, hall⟩ := mem_ready.1 hj
      have hjz : j ≠ z := by
        rintro rfl
        obtain ⟨oz, h1, ed, h2, h3, h4⟩ := hz
        rw [hoj] at h1
        cases h1
        exact not_on hun hall ed h2 h3 h4
      have h2 := opM_putG hoj (hfree j oj hoj e hju (not_on hun hall)) (fun cs b => hsel i oi cs b hi) (fun cs b => hsel j oj cs b hoj) hy (h.2 j (ready_mono hj e))
      refine opM_mono (fun a' w' h3 => ⟨fun _ => h3.2.1 hjz, ih _ a' w' (h3.2.1 hjz) ?_ (ready_mono hr (Ne.symm e)) h3.1 (by rw [Array.setIfInBounds_comm _ _ e]; exact h3.2.2)⟩) h2
      intro k ok hk hki hku hno
      refine hfree k ok hk hki ?_ hno
      by_cases ejk : j = k
      · rw [← ejk]; exact hju
      · rwa [getD_set_ne true ejk] at hku
/-! ### the walk: a schedule: calm ones (true), each at any place where it may come up; loud ones (false), each the only one that may come up. -/
def wpG (P : Program) (ops : Array Oper) (D : World → Prop) (Q : Exit → Act → World → Prop) : List (Bool × Oper) → Act → World → Prop
  | [], a, w => Q .normal a w
  | (true, o) :: rest, a, w => ∃ v, CalmG P ops D o v a ∧ wpG P ops D Q rest (a.put o.dst v) w
  | (false, o) :: rest, a, w => ∀ K : Exit → Act → World → Prop, (∀ a' w', (rest ≠ [] → D w') → wpG P ops D Q rest a' w' → K .normal a' w') → wpList P ops K [o] a w
theorem g_nil {a : Act} {w : World} (h : Q .normal a w) : wpG P ops D Q [] a w := h
theorem g_want {a : Act} {w : World} {o : Oper} {rest : List (Bool × Oper)} {v : Value} (c : Region.wanted o (yielded ops a.tmps) = true) (h : ∀ w, D w → o.quietAt P a (fun x => x = w) w v) (h2 : wpG P ops D Q rest (a.put o.dst v) w) : wpG P ops D Q ((true, o) :: rest) a w := ⟨v, .inl ⟨c, h⟩, h2⟩
theorem g_skip {a : Act} {w : World} {o : Oper} {rest : List (Bool × Oper)} (c : Region.wanted o (yielded ops a.tmps) = false) (h2 : wpG P ops D Q rest (a.put o.dst undef) w) : wpG P ops D Q ((true, o) :: rest) a w := ⟨_, .inr ⟨c, rfl⟩, h2⟩
theorem g_move {a : Act} {w : World} {o : Oper} {rest : List (Bool × Oper)} (x : Operand) (c : Region.wanted o (yielded ops a.tmps) = true) (h : o.op = .move x) (h2 : wpG P ops D Q rest (a.put o.dst (a.eval x)) w) : wpG P ops D Q ((true, o) :: rest) a w :=
  g_want c (fun w _ => by unfold Oper.quietAt; rw [BigFrame.run_move x h]; exact ⟨rfl, rfl⟩) h2
theorem g_loud {a : Act} {w : World} {o : Oper} {rest : List (Bool × Oper)} (h : ∀ K : Exit → Act → World → Prop, (∀ a' w', (rest ≠ [] → D w') → wpG P ops D Q rest a' w' → K .normal a' w') → wpList P ops K [o] a w) : wpG P ops D Q ((false, o) :: rest) a w := h
def seqG (md : Region.Mode) (ops : Array Oper) (z : Nat) : List (Bool × Nat) → Array Bool → Bool
  | [], t => (Region.ready md ops t).isEmpty
  | (true, k) :: r, t => (Region.ready md ops t).contains k && Region.free md ops t k && Region.waitsFor md ops z k && decide (k ≠ z) && seqG md ops z r (t.setIfInBounds k true)
  | (false, k) :: r, t => decide (Region.ready md ops t = [k]) && (!r.isEmpty || decide (k = z)) && seqG md ops z r (t.setIfInBounds k true)
def opsG (l : List Oper) (s : List (Bool × Nat)) : List (Bool × Oper) := s.filterMap fun p => (l[p.2]?).map fun o => (p.1, o)
theorem walkG {l : List Oper} (hsel : Region.noSelect l.toArray = true) : ∀ (s : List (Bool × Nat)) (t : Array Bool) (a : Act) (w : World), (∀ p ∈ s, p.2 < l.length) → (s ≠ [] → D w) →
    seqG md l.toArray z s t = true → wpG P l.toArray D Q (opsG l s) a w → AnyM P md l.toArray D Q z s.length t a w
  | [], t, a, w, _, _, hB, h => ⟨by simpa [seqG] using hB, h⟩
  | (true, k) :: r, t, a, w, hl, hD, hB, h => by
    have hk : k < l.length := hl (true, k) (by simp)
    have h0 : l.toArray[k]? = some l[k] := by simp [hk]
    have e : opsG l ((true, k) :: r) = (true, l[k]) :: opsG l r := by simp [opsG, hk]
    rw [e] at h
    simp only [seqG, Bool.and_eq_true, decide_eq_true_eq] at hB
    obtain ⟨⟨⟨⟨hr, hf⟩, hwf⟩, hkz⟩, hB'⟩ := hB
    obtain ⟨v, hv, hK⟩ := h
    have hw := hD (by simp)
    refine firstG h0 (Region.noSelect_spec hsel) hkz (Region.waitsFor_spec hwf) _ t a w hw (Region.free_spec h0 hf) (by simpa using hr) hv ?_
    exact walkG hsel r _ _ w (fun p hp => hl p (by simp [hp])) (fun _ => hw) hB' hK
  | (false, k) :: r, t, a, w, hl, hD, hB, h => by
    have hk : k < l.length := hl (false, k) (by simp)
    have h0 : l.toArray[k]? = some l[k] := by simp [hk]
    have e : opsG l ((false, k) :: r) = (false, l[k]) :: opsG l r := by simp [opsG, hk]
    rw [e] at h
    simp only [seqG, Bool.and_eq_true, decide_eq_true_eq] at hB
    obtain ⟨⟨hB1, hz⟩, hB2⟩ := hB
    refine ⟨fun e => (by rw [hB1] at e; cases e), fun i hi => ?_⟩
    rw [hB1] at hi
    have hik : i = k := by simpa using hi
    rw [hik]
    have hne : r ≠ [] → opsG l r ≠ [] := fun hr => by
      cases r with
      | nil => exact absurd rfl hr
      | cons p r' =>
        obtain ⟨b, q⟩ := p
        have hq : q < l.length := hl (b, q) (by simp)
        simp [opsG, hq]
    have next : ∀ a' w', ((opsG l r ≠ [] → D w') ∧ wpG P l.toArray D Q (opsG l r) a' w') → (k ≠ z → D w') ∧ AnyM P md l.toArray D Q z r.length (t.setIfInBounds k true) a' w' := fun a' w' hh => by
      refine ⟨fun hkz => hh.1 (hne ?_), walkG hsel r _ a' w' (fun p hp => hl p (by simp [hp])) (fun hr => hh.1 (hne hr)) hB2 hh.2⟩
      rintro rfl
      simp at hz
      exact hkz hz
    unfold opM
    simp only [h0]
    unfold wpG at h
    have h := h (fun e a' w' => e = .normal ∧ (opsG l r ≠ [] → D w') ∧ wpG P l.toArray D Q (opsG l r) a' w') (fun a' w' h1 h2 => ⟨rfl, h1, h2⟩)
    unfold wpList at h
    split
    · rename_i c
      simp only [c, if_true] at h
      rcases h with h | ⟨_, _, _, h⟩
      · refine ex_wp (Q := fun e a' w' => e = .normal ∧ (opsG l r ≠ [] → D w') ∧ wpG P l.toArray D Q (opsG l r) a' w') (fun e a w he hh => he hh.1) (Oper.wp_mono (fun a' w' hh => ?_) h)
        unfold wpList at hh
        exact next _ _ hh.2
      · cases h.1
    · rename_i c
      simp only [c] at h
      unfold wpList at h
      exact next _ _ h.2
/-- s: the operations' numbers, in an order that may be, each calm (true) or loud (false). -/
theorem sched_region {id : Nat} {a : Act} {w : World} {l : List Oper} (s : List (Bool × Nat)) (z : Nat) (hm : P.follows .mixedOrders = true) (hn : Region.noSelect l.toArray = true) (hB : seqG .any l.toArray z s (Array.replicate l.toArray.size false) = true) (hi : (s.all fun p => decide (p.2 < l.length)) = true) (hs : s.length = l.toArray.size) (hD : D w.drew)
    (h : wpG P l.toArray D Q (opsG l s) a w.drew) : (Code.region id l.toArray true).wp P Q a w := by
  rw [List.all_eq_true] at hi
  refine wp_region_any hm ?_
  have H := walkG (md := .any) hn s (Array.replicate l.toArray.size false) a w.drew (fun p hp => by simpa using hi p hp) (fun _ => hD) hB h
  rw [hs] at H
  exact anyM_any _ _ _ _ H
end
end Go.Proofs.Ytemaonfgledcmaa
