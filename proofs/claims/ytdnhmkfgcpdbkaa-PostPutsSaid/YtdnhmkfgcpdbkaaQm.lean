/-
  A region that draws its order, of operations of two kinds: calm ones (in every world of a class they yield one value and leave the world alone) and loud ones that stand in one forced order and keep the class, the last one waiting for all: one walk serves every order: the calm ones first, then the loud ones. Conditions: none.
-/
import Derived.Test.YtdnhmkfgcpdbkaaQt
namespace Go.Proofs.Ytdnhmkfgcpdbkaa
open Go.RowKit

section
variable {P : Program} {ops : Array Oper} {md : Region.Mode} {D : World → Prop} {Q : Exit → Act → World → Prop} {z : Nat}
/-- No way out. -/
def NoEx : Exit → Act → World → Prop := fun _ _ _ => False
def opM (P : Program) (ops : Array Oper) (i : Nat) (K : Act → World → Prop) (a : Act) (w : World) : Prop :=
  match ops[i]? with
  | none => K a w
  | some o => if Region.wanted o (yielded ops a.tmps) then o.wp P a w K NoEx else K (a.put o.dst undef) w
theorem opM_mono {i : Nat} {a : Act} {w : World} {K K' : Act → World → Prop} (h : ∀ a w, K a w → K' a w) (hh : opM P ops i K a w) : opM P ops i K' a w := by
  unfold opM at *
  split
  · rename_i e; simp only [e] at hh; exact h _ _ hh
  · rename_i o e
    simp only [e] at hh
    split
    · rename_i c; simp only [c, if_true] at hh; exact Oper.wp_mono h hh
    · rename_i c; simp only [c] at hh; exact h _ _ hh
theorem noEx_wp {o : Oper} {a : Act} {w : World} {K : Act → World → Prop} (h : o.wp P a w K NoEx) : o.wp P a w K Q := by
  unfold Oper.wp at *
  generalize (execOp a.eval o).run P w = r at *
  cases r with
  | ok n w' =>
    cases n <;> simp only [Oper.upon] at h ⊢ <;> try exact h
    exact Calls.mono h fun e w'' he => by
      cases e with
      | returned v => exact he
      | panicked c => exact he.elim
      | outgrown => obtain ⟨_, _, hf⟩ := he; exact hf.elim
  | halt x w' => cases x <;> simp only [Oper.upon] at h ⊢ <;> exact h.elim
theorem ex_wp {o : Oper} {a : Act} {w : World} {K : Act → World → Prop} (hex : ∀ e a w, e ≠ .normal → ¬ Q e a w) (h : o.wp P a w K Q) : o.wp P a w K NoEx := by
  unfold Oper.wp at *
  generalize (execOp a.eval o).run P w = r at *
  cases r with
  | ok n w' =>
    cases n <;> simp only [Oper.upon] at h ⊢ <;> try exact h
    exact Calls.mono h fun e w'' he => by
      cases e with
      | returned v => exact he
      | panicked c => exact hex _ _ _ (by simp) he
      | outgrown => obtain ⟨_, _, hf⟩ := he; exact absurd hf (hex _ _ _ (by simp))
  | halt x w' =>
    cases x <;> simp only [Oper.upon] at h ⊢
    all_goals first | exact h | exact hex _ _ _ (by simp) h
theorem opM_wp {i : Nat} {a : Act} {w : World} {K : Act → World → Prop} (h : opM P ops i K a w) : wpOp P ops Q i K a w := by
  unfold opM at h
  unfold wpOp
  split
  · rename_i e; simp only [e] at h; exact h
  · rename_i o e
    simp only [e] at h
    split
    · rename_i c; simp only [c, if_true] at h; exact .inl (noEx_wp h)
    · rename_i c; simp only [c] at h; exact h
/-- Whatever order is picked from here on; behind each operation but z the world is of the class. -/
def AnyM (P : Program) (md : Region.Mode) (ops : Array Oper) (D : World → Prop) (Q : Exit → Act → World → Prop) (z : Nat) : Nat → Array Bool → Act → World → Prop
  | 0, t, a, w => Region.ready md ops t = [] ∧ Q .normal a w
  | f + 1, t, a, w => (Region.ready md ops t = [] → Q .normal a w) ∧ ∀ i ∈ Region.ready md ops t, opM P ops i (fun a' w' => (i ≠ z → D w') ∧ AnyM P md ops D Q z f (t.setIfInBounds i true) a' w') a w
theorem anyM_any : ∀ (f : Nat) (t : Array Bool) (a : Act) (w : World), AnyM P md ops D Q z f t a w → wpAny P md ops Q f t a w
  | 0, _, _, _, h => h
  | f + 1, _, _, _, h => ⟨h.1, fun i hi => opM_wp (opM_mono (fun a' w' h' => anyM_any f _ a' w' h'.2) (h.2 i hi))⟩
/-- In frame a, in every world of the class, the operation yields v and leaves the world alone. -/
def Calm (P : Program) (ops : Array Oper) (D : World → Prop) (o : Oper) (v : Value) (a : Act) : Prop :=
  Region.wanted o (yielded ops a.tmps) = true ∧ ∀ w, D w → o.quietAt P a (fun x => x = w) w v
theorem Calm.op {i : Nat} {o : Oper} {v : Value} {a : Act} {w : World} {K : Act → World → Prop} (hi : ops[i]? = some o) (hy : Calm P ops D o v a) (hw : D w) (h : K (a.put o.dst v) w) : opM P ops i K a w := by
  unfold opM
  simp only [hi, hy.1, if_true]
  have h3 := hy.2 w hw
  unfold Oper.quietAt at h3
  unfold Oper.wp
  generalize (execOp a.eval o).run P w = r at *
  cases r with
  | ok n w' =>
    cases n <;> simp only [Oper.quietUpon] at h3 <;> simp only [Oper.upon]
    case value u => obtain ⟨e1, e2⟩ := h3; rw [e1, e2]; exact h
    case skip => obtain ⟨e1, e2⟩ := h3; rw [e1, ← e2]; exact h
    case enter f args => obtain ⟨e1, hc⟩ := h3; rw [e1]; exact hc.mono fun e w'' he => by obtain ⟨he1, he2⟩ := he; rw [he1, he2]; exact h
  | halt x w' => simp only [Oper.quietUpon] at h3
theorem Calm.same {o : Oper} {v : Value} {a a' : Act} (hy : Calm P ops D o v a) (he : execOp a'.eval o = execOp a.eval o) (hw : Region.wanted o (yielded ops a'.tmps) = Region.wanted o (yielded ops a.tmps)) : Calm P ops D o v a' := by
  unfold Calm Oper.quietAt at *
  rw [he, hw]
  exact hy
theorem defers_put (a : Act) (ds : List Deferred) (x : Option Tmp) (v : Value) : ({ a with defers := ds } : Act).put x v = { a.put x v with defers := ds } := by
  cases x <;> rfl
/-- An operation apart from a calm one: whether the calm one's value is already there makes no difference. -/
theorem opM_put {j : Nat} {oi oj : Oper} {v : Value} (hj : ops[j]? = some oj) (hap : oi.apart ops oj = true) (hsi : ∀ cs b, oi.op ≠ .select cs b) (hsj : ∀ cs b, oj.op ≠ .select cs b) {K : Act → World → Prop} {a : Act} {w : World}
    (hy : Calm P ops D oi v a) (h : opM P ops j K (a.put oi.dst v) w) : opM P ops j (fun a' w' => Calm P ops D oi v a' ∧ K (a'.put oi.dst v) w') a w := by
  obtain ⟨h1, h2, h3⟩ := Oper.apart_spec hap
  have keep : ∀ u, Calm P ops D oi v (a.put oj.dst u) := fun u => hy.same (execOp_put oi hsi a oj.dst u h3) (wanted_put oi a oj.dst u h3)
  have keepD : ∀ ds u, Calm P ops D oi v (({ a with defers := ds } : Act).put oj.dst u) := fun ds u => by
    rw [defers_put]
    exact (keep u).same rfl rfl
  unfold opM at *
  simp only [hj] at *
  rw [wanted_put oj a oi.dst v h1] at h
  split
  · rename_i hw
    simp only [hw, if_true] at h
    unfold Oper.wp at *
    rw [execOp_put oj hsj a oi.dst v h1] at h
    generalize (execOp a.eval oj).run P w = r at *
    cases r with
    | ok n w' =>
      cases n <;> simp only [Oper.upon] at h ⊢
      case value u => exact ⟨keep u, by rw [← Act.put_comm a v u h2]; exact h⟩
      case skip => exact ⟨keep _, by rw [← Act.put_comm a v _ h2]; exact h⟩
      case defer d =>
        refine ⟨keepD _ _, ?_⟩
        have e : (({ a with defers := d :: a.defers } : Act).put oj.dst undef).put oi.dst v = ({ a.put oi.dst v with defers := d :: (a.put oi.dst v).defers } : Act).put oj.dst undef := by
          rw [Act.put_comm _ undef v (fun x h1 h3 => h2 x h3 h1)]
          cases oi.dst <;> rfl
        rw [e]
        exact h
      case enter f args =>
        refine Calls.mono h fun e w'' he => ?_
        cases e with
        | returned u => exact ⟨keep u, by rw [← Act.put_comm a v u h2]; exact he⟩
        | panicked c => exact he
        | outgrown => exact he
      case row row args => exact Rows.mono h fun u w'' he => ⟨keep u, by rw [← Act.put_comm a v u h2]; exact he⟩
      all_goals exact h
    | halt x w' => cases x <;> simp only [Oper.upon] at h ⊢ <;> exact h.elim
  · rename_i hw
    simp only [hw] at h
    exact ⟨keep _, by rw [← Act.put_comm a v undef h2]; exact h⟩
/-- A calm operation that may come up now may be taken first. -/
theorem firstM {i : Nat} {oi : Oper} {v : Value} (hi : ops[i]? = some oi) (hsel : ∀ (j : Nat) (o : Oper) cs b, ops[j]? = some o → o.op ≠ .select cs b) (hiz : i ≠ z) (hz : ∃ oz, ops[z]? = some oz ∧ ∃ e ∈ oz.after, Region.binds md e = true ∧ e.on = i) (f : Nat) :
    ∀ (t : Array Bool) (a : Act) (w : World), D w → (∀ j oj, ops[j]? = some oj → j ≠ i → t.getD j true = false → (∀ e ∈ oj.after, Region.binds md e = true → e.on ≠ i) → oi.apart ops oj = true) →
      i ∈ Region.ready md ops t → Calm P ops D oi v a → AnyM P md ops D Q z f (t.setIfInBounds i true) (a.put oi.dst v) w → AnyM P md ops D Q z (f + 1) t a w := by
  induction f with
  | zero =>
    intro t a w hw _ hr hy h
    refine ⟨fun e => absurd hr (by rw [e]; simp), fun j hj => ?_⟩
    by_cases e : j = i
    · rw [e]; exact hy.op hi hw ⟨fun _ => hw, h⟩
    · have := ready_mono hj e
      rw [h.1] at this
      cases this
  | succ f ih =>
    intro t a w hw hfree hr hy h
    refine ⟨fun e => absurd hr (by rw [e]; simp), fun j hj => ?_⟩
    by_cases e : j = i
    · rw [e]; exact hy.op hi hw ⟨fun _ => hw, h⟩
    · have hun := (mem_ready.1 hr).1
      obtain ⟨hju, oj, hoj, hall⟩ := mem_ready.1 hj
      have hjz : j ≠ z := by
        rintro rfl
        obtain ⟨oz, h1, ed, h2, h3, h4⟩ := hz
        rw [hoj] at h1
        cases h1
        exact not_on hun hall ed h2 h3 h4
      have h2 := opM_put hoj (hfree j oj hoj e hju (not_on hun hall)) (fun cs b => hsel i oi cs b hi) (fun cs b => hsel j oj cs b hoj) hy (h.2 j (ready_mono hj e))
      refine opM_mono (fun a' w' h3 => ⟨fun _ => h3.2.1 hjz, ih _ a' w' (h3.2.1 hjz) ?_ (ready_mono hr (Ne.symm e)) h3.1 (by rw [Array.setIfInBounds_comm _ _ e]; exact h3.2.2)⟩) h2
      intro k ok hk hki hku hno
      refine hfree k ok hk hki ?_ hno
      by_cases ejk : j = k
      · rw [← ejk]; exact hju
      · rwa [getD_set_ne true ejk] at hku
/-! ### the walk -/
/-- The calm ones, in the order given. -/
def wpCalm (P : Program) (ops : Array Oper) (D : World → Prop) (K : Act → Prop) : List Oper → Act → Prop
  | [], a => K a
  | o :: rest, a => ∃ v, (∀ w, D w → o.quietAt P a (fun x => x = w) w v) ∧ wpCalm P ops D K rest (a.put o.dst v)
theorem calm_nil {K : Act → Prop} {a : Act} (h : K a) : wpCalm P ops D K [] a := h
theorem calm_cons {K : Act → Prop} {a : Act} {o : Oper} {rest : List Oper} {v : Value} (h : ∀ w, D w → o.quietAt P a (fun x => x = w) w v) (h2 : wpCalm P ops D K rest (a.put o.dst v)) : wpCalm P ops D K (o :: rest) a := ⟨v, h, h2⟩
theorem calm_move {K : Act → Prop} {a : Act} {o : Oper} {rest : List Oper} (x : Operand) (h : o.op = .move x) (h2 : wpCalm P ops D K rest (a.put o.dst (a.eval x))) : wpCalm P ops D K (o :: rest) a :=
  ⟨_, fun w _ => by unfold Oper.quietAt; rw [BigFrame.run_move x h]; exact ⟨rfl, rfl⟩, h2⟩
/-- The loud ones: behind each but the last the world is of the class. -/
def wpLoud (P : Program) (ops : Array Oper) (D : World → Prop) (Q : Exit → Act → World → Prop) : List Oper → Act → World → Prop
  | [], a, w => Q .normal a w
  | o :: rest, a, w => ∀ K : Exit → Act → World → Prop, (∀ a' w', (rest ≠ [] → D w') → wpLoud P ops D Q rest a' w' → K .normal a' w') → wpList P ops K [o] a w
theorem loud_cons {a : Act} {w : World} {o : Oper} {rest : List Oper} (h : ∀ K : Exit → Act → World → Prop, (∀ a' w', (rest ≠ [] → D w') → wpLoud P ops D Q rest a' w' → K .normal a' w') → wpList P ops K [o] a w) : wpLoud P ops D Q (o :: rest) a w := h
theorem loud_nil {a : Act} {w : World} (h : Q .normal a w) : wpLoud P ops D Q [] a w := h
def seqM (md : Region.Mode) (ops : Array Oper) : List Nat → Array Bool → Bool
  | [], t => (Region.ready md ops t).isEmpty
  | k :: r, t => decide (Region.ready md ops t = [k]) && seqM md ops r (t.setIfInBounds k true)
def headM (md : Region.Mode) (ops : Array Oper) (z : Nat) (tl : List Nat) : List Nat → Array Bool → Bool
  | [], t => seqM md ops tl t
  | k :: r, t => (Region.ready md ops t).contains k && Region.free md ops t k && Region.waitsFor md ops z k && decide (k ≠ z) && headM md ops z tl r (t.setIfInBounds k true)
def mixB (md : Region.Mode) (ops : Array Oper) (z : Nat) (hd tl : List Nat) : Bool :=
  Region.noSelect ops && (ops.all fun o => o.guard.isNone) && decide (hd.length + tl.length = ops.size) && decide (tl.getLast? = some z) && decide (tl.dropLast.contains z = false) && headM md ops z tl hd (Array.replicate ops.size false)
theorem loudM (hsel : Region.noSelect ops = true) : ∀ (tl : List Nat) (l : List Oper) (t : Array Bool) (a : Act) (w : World), l.length = tl.length → (∀ j (h : j < tl.length), ops[tl[j]]? = l[j]?) → (∀ j (h : j < tl.length), j + 1 = tl.length → tl[j] = z) →
    seqM md ops tl t = true → wpLoud P ops D Q l a w → AnyM P md ops D Q z tl.length t a w
  | [], l, t, a, w, hl, _, _, hB, h => by
    rw [List.length_eq_zero_iff.1 hl] at h
    exact ⟨by simpa [seqM] using hB, h⟩
  | k :: r, l, t, a, w, hl, he, hz, hB, h => by
    obtain ⟨o, l, rfl⟩ : ∃ o l', l = o :: l' := by
      cases l with
      | nil => simp at hl
      | cons o l => exact ⟨o, l, rfl⟩
    have h0 : ops[k]? = some o := by have := he 0 (by simp); simpa using this
    simp only [seqM, Bool.and_eq_true, decide_eq_true_eq] at hB
    refine ⟨fun e => (by rw [hB.1] at e; cases e), fun i hi => ?_⟩
    rw [hB.1] at hi
    have hik : i = k := by simpa using hi
    rw [hik]
    have hlen : l.length = r.length := by simpa using hl
    have next : ∀ a' w', ((l ≠ [] → D w') ∧ wpLoud P ops D Q l a' w') → (k ≠ z → D w') ∧ AnyM P md ops D Q z r.length (t.setIfInBounds k true) a' w' := fun a' w' hh => by
      refine ⟨fun hkz => hh.1 ?_, loudM hsel r l _ a' w' hlen (fun j hj => ?_) (fun j hj e => ?_) hB.2 hh.2⟩
      · rintro rfl
        have hr0 : r = [] := List.length_eq_zero_iff.1 hlen.symm
        rw [hr0] at hz
        exact hkz (hz 0 (by simp) rfl)
      · have := he (j + 1) (by simp; omega); simpa using this
      · have := hz (j + 1) (by simp; omega) (by simp; omega); simpa using this
    unfold opM
    simp only [h0]
    unfold wpLoud at h
    have h := h (fun e a' w' => e = .normal ∧ (l ≠ [] → D w') ∧ wpLoud P ops D Q l a' w') (fun a' w' h1 h2 => ⟨rfl, h1, h2⟩)
    unfold wpList at h
    split
    · rename_i c
      simp only [c, if_true] at h
      rcases h with h | ⟨_, _, _, h⟩
      · refine ex_wp (Q := fun e a' w' => e = .normal ∧ (l ≠ [] → D w') ∧ wpLoud P ops D Q l a' w') (fun e a w he hh => he hh.1) (Oper.wp_mono (fun a' w' hh => ?_) h)
        unfold wpList at hh
        exact next _ _ hh.2
      · cases h.1
    · rename_i c
      simp only [c] at h
      unfold wpList at h
      exact next _ _ h.2
theorem headL (hsel : Region.noSelect ops = true) (hgd : ∀ o ∈ ops, o.guard = none) (tl : List Nat) (lt : List Oper) (hlt : lt.length = tl.length) (htl : ∀ j (h : j < tl.length), ops[tl[j]]? = lt[j]?) (hz : ∀ j (h : j < tl.length), j + 1 = tl.length → tl[j] = z) {w : World} (hw : D w) :
    ∀ (hd : List Nat) (l : List Oper) (t : Array Bool) (a : Act), l.length = hd.length → (∀ j (h : j < hd.length), ops[hd[j]]? = l[j]?) → headM md ops z tl hd t = true → wpCalm P ops D (fun a' => wpLoud P ops D Q lt a' w) l a → AnyM P md ops D Q z (hd.length + tl.length) t a w
  | [], l, t, a, hl, _, hB, h => by
    rw [List.length_eq_zero_iff.1 hl] at h
    rw [List.length_nil, Nat.zero_add]
    exact loudM hsel tl lt t a w hlt htl hz (by simpa [headM] using hB) h
  | k :: r, l, t, a, hl, he, hB, h => by
    obtain ⟨o, l, rfl⟩ : ∃ o l', l = o :: l' := by
      cases l with
      | nil => simp at hl
      | cons o l => exact ⟨o, l, rfl⟩
    have h0 : ops[k]? = some o := by have := he 0 (by simp); simpa using this
    simp only [headM, Bool.and_eq_true, decide_eq_true_eq] at hB
    obtain ⟨⟨⟨⟨hr, hf⟩, hwf⟩, hkz⟩, hB'⟩ := hB
    obtain ⟨v, hv, hK⟩ := h
    have hwant : Region.wanted o (yielded ops a.tmps) = true := by simp [Region.wanted, hgd o (Array.mem_of_getElem? h0)]
    rw [List.length_cons, Nat.succ_add]
    refine firstM h0 (Region.noSelect_spec hsel) hkz (Region.waitsFor_spec hwf) _ t a w hw (Region.free_spec h0 hf) (by simpa using hr) ⟨hwant, hv⟩ ?_
    exact headL hsel hgd tl lt hlt htl hz hw r l _ _ (by simpa using hl) (fun j hj => by have := he (j + 1) (by simp; omega); simpa using this) hB' hK
theorem get_map (l : List Oper) (is : List Nat) (h : ∀ i ∈ is, i < l.length) : (is.filterMap (l[·]?)).length = is.length ∧ ∀ j (hj : j < is.length), l.toArray[is[j]]? = (is.filterMap (l[·]?))[j]? := by
  induction is with
  | nil => exact ⟨rfl, fun j hj => absurd hj (by simp)⟩
  | cons i r ih =>
    obtain ⟨h1, h2⟩ := ih fun k hk => h k (by simp [hk])
    have hi := h i (by simp)
    rw [List.filterMap_cons_some (b := l[i]) (by simp [hi])]
    refine ⟨by simp [h1], fun j hj => ?_⟩
    cases j with
    | zero => simp [hi]
    | succ j => have := h2 j (by simpa using hj); simpa using this
/-- hd: the calm operations' numbers, in an order that may be; tl: the loud ones'. -/
theorem mixed_region {id : Nat} {a : Act} {w : World} {l : List Oper} (hd tl : List Nat) (z : Nat) (hm : P.follows .mixedOrders = true) (hB : mixB .any l.toArray z hd tl = true) (hi : ((hd ++ tl).all fun i => decide (i < l.length)) = true) (hD : D w.drew)
    (h : wpCalm P l.toArray D (fun a' => wpLoud P l.toArray D Q (tl.filterMap (l[·]?)) a' w.drew) (hd.filterMap (l[·]?)) a) : (Code.region id l.toArray true).wp P Q a w := by
  simp only [mixB, Bool.and_eq_true, decide_eq_true_eq] at hB
  obtain ⟨⟨⟨⟨⟨h1, h2⟩, h3⟩, h4⟩, h5⟩, h6⟩ := hB
  rw [List.all_eq_true] at hi
  have hlt : ∀ i ∈ hd ++ tl, i < l.length := fun i hh => by simpa using hi i hh
  obtain ⟨e1, e2⟩ := get_map l hd fun i hh => hlt i (by simp [hh])
  obtain ⟨e3, e4⟩ := get_map l tl fun i hh => hlt i (by simp [hh])
  have hz : ∀ j (h : j < tl.length), j + 1 = tl.length → tl[j] = z := fun j hj e => by
    rw [List.getLast?_eq_getElem?, List.getElem?_eq_getElem (by omega)] at h4
    have : tl.length - 1 = j := by omega
    simp only [this] at h4
    exact Option.some.inj h4
  refine wp_region_any hm ?_
  have H := headL (md := .any) h1 (fun o ho => by
    have := Array.all_eq_true_iff_forall_mem.1 h2 o ho
    simpa using this) tl _ e3 e4 hz hD hd _ (Array.replicate l.toArray.size false) a e1 e2 h6 h
  rw [h3] at H
  exact anyM_any _ _ _ _ H
end
end Go.Proofs.Ytdnhmkfgcpdbkaa
