/-
  XQg's walk for a region that draws its order, by a TREE: calm operations, each at any place where it may come up; at a loud step several may be ready: each has its own rest. Conditions: none.
-/
import Derived.Test.YtemaonfgledcmaaQg
namespace Go.Proofs.Ytemaonfgledcmaa
open Go.RowKit

/-- A tree of schedules: alt k r m: loud k, then r; or else m's. -/
inductive Tr where
  | done
  | nil
  | calm (k : Nat) (r : Tr)
  | alt (k : Nat) (r m : Tr)
def alts : Tr → List Nat
  | .alt k _ m => k :: alts m
  | _ => []
section
variable {P : Program} {ops : Array Oper} {md : Region.Mode} {D : World → Prop} {Q : Exit → Act → World → Prop} {z : Nat}
def seqT (md : Region.Mode) (ops : Array Oper) (z : Nat) : Tr → Bool → Nat → Array Bool → Bool
  | .done, b, f, t => !b && f == 0 && (Region.ready md ops t).isEmpty
  | .nil, b, _, _ => b
  | .calm k r, b, f, t => !b && decide (0 < f) && (Region.ready md ops t).contains k && Region.free md ops t k && Region.waitsFor md ops z k && decide (k ≠ z) && decide (k < ops.size) && seqT md ops z r false (f - 1) (t.setIfInBounds k true)
  | .alt k r m, b, f, t => (b || decide (Region.ready md ops t = k :: alts m)) && decide (0 < f) && (decide (1 < f) || decide (k = z)) && decide (k < ops.size) && seqT md ops z r false (f - 1) (t.setIfInBounds k true) && seqT md ops z m true f t
def wpT (P : Program) (ops : Array Oper) (D : World → Prop) (Q : Exit → Act → World → Prop) (l : List Oper) : Tr → Act → World → Prop
  | .done, a, w => Q .normal a w
  | .nil, _, _ => True
  | .calm k r, a, w => ∃ o, l[k]? = some o ∧ ∃ v, CalmG P ops D o v a ∧ wpT P ops D Q l r (a.put o.dst v) w
  | .alt k r m, a, w => (∃ o, l[k]? = some o ∧ ∀ K : Exit → Act → World → Prop, (∀ a' w', (r ≠ .done → D w') → wpT P ops D Q l r a' w' → K .normal a' w') → wpList P ops K [o] a w) ∧ wpT P ops D Q l m a w
variable {l : List Oper} {r m : Tr} {k : Nat}
theorem t_done {a : Act} {w : World} (h : Q .normal a w) : wpT P ops D Q l .done a w := h
theorem t_nil {a : Act} {w : World} : wpT P ops D Q l .nil a w := trivial
theorem t_want {a : Act} {w : World} {o : Oper} {v : Value} (h0 : l[k]? = some o) (c : Region.wanted o (yielded ops a.tmps) = true) (h : ∀ w, D w → o.quietAt P a (fun x => x = w) w v) (h2 : wpT P ops D Q l r (a.put o.dst v) w) : wpT P ops D Q l (.calm k r) a w := ⟨o, h0, v, .inl ⟨c, h⟩, h2⟩
theorem t_skip {a : Act} {w : World} {o : Oper} (h0 : l[k]? = some o) (c : Region.wanted o (yielded ops a.tmps) = false) (h2 : wpT P ops D Q l r (a.put o.dst undef) w) : wpT P ops D Q l (.calm k r) a w := ⟨o, h0, _, .inr ⟨c, rfl⟩, h2⟩
theorem t_move {a : Act} {w : World} {o : Oper} (x : Operand) (h0 : l[k]? = some o) (c : Region.wanted o (yielded ops a.tmps) = true) (h : o.op = .move x) (h2 : wpT P ops D Q l r (a.put o.dst (a.eval x)) w) : wpT P ops D Q l (.calm k r) a w :=
  t_want h0 c (fun w _ => by unfold Oper.quietAt; rw [BigFrame.run_move x h]; exact ⟨rfl, rfl⟩) h2
theorem t_loud {a : Act} {w : World} {o : Oper} (h0 : l[k]? = some o) (h : ∀ K : Exit → Act → World → Prop, (∀ a' w', (r ≠ .done → D w') → wpT P ops D Q l r a' w' → K .normal a' w') → wpList P ops K [o] a w) (h2 : wpT P ops D Q l m a w) : wpT P ops D Q l (.alt k r m) a w := ⟨⟨o, h0, h⟩, h2⟩
theorem walkT (hsel : Region.noSelect l.toArray = true) : ∀ (x : Tr) (b : Bool) (f : Nat) (t : Array Bool) (a : Act) (w : World), (x ≠ .done → D w) → seqT md l.toArray z x b f t = true → wpT P l.toArray D Q l x a w →
    (b = false → AnyM P md l.toArray D Q z f t a w) ∧ (b = true → ∀ i ∈ alts x, opM P l.toArray i (fun a' w' => (i ≠ z → D w') ∧ AnyM P md l.toArray D Q z (f - 1) (t.setIfInBounds i true) a' w') a w)
  | .done, b, f, t, a, w, _, hB, h => by
    simp only [seqT, Bool.and_eq_true, beq_iff_eq, Bool.not_eq_true'] at hB
    obtain ⟨⟨rfl, rfl⟩, hB⟩ := hB
    exact ⟨fun _ => ⟨by simpa using hB, h⟩, fun e => by cases e⟩
  | .nil, b, f, t, a, w, _, hB, h => by
    simp only [seqT] at hB
    subst hB
    exact ⟨fun e => (by cases e), fun _ i hi => (by simp [alts] at hi)⟩
  | .calm k r, b, f, t, a, w, hD, hB, h => by
    simp only [seqT, Bool.and_eq_true, decide_eq_true_eq, Bool.not_eq_true'] at hB
    obtain ⟨⟨⟨⟨⟨⟨⟨rfl, hf0⟩, hr⟩, hf⟩, hwf⟩, hkz⟩, hk⟩, hB'⟩ := hB
    refine ⟨fun _ => ?_, fun e => by cases e⟩
    obtain ⟨o, ho, v, hv, hK⟩ := h
    have h0 : l.toArray[k]? = some o := by simpa using ho
    obtain ⟨g, rfl⟩ : ∃ g, f = g + 1 := ⟨f - 1, by omega⟩
    have hw := hD (by simp)
    refine firstG h0 (Region.noSelect_spec hsel) hkz (Region.waitsFor_spec hwf) _ t a w hw (Region.free_spec h0 hf) (by simpa using hr) hv ?_
    exact (walkT hsel r false g _ _ w (fun _ => hw) hB' hK).1 rfl
  | .alt k r m, b, f, t, a, w, hD, hB, h => by
    simp only [seqT, Bool.and_eq_true, Bool.or_eq_true, decide_eq_true_eq] at hB
    obtain ⟨⟨⟨⟨⟨hb, hf0⟩, hz⟩, hk⟩, hB1⟩, hB2⟩ := hB
    obtain ⟨⟨o, ho, hl⟩, hm⟩ := h
    have h0 : l.toArray[k]? = some o := by simpa using ho
    obtain ⟨g, rfl⟩ : ∃ g, f = g + 1 := ⟨f - 1, by omega⟩
    have hw := hD (by simp)
    have hrd : k ≠ z → r ≠ .done := by
      rintro hkz rfl
      simp only [seqT, Bool.and_eq_true, beq_iff_eq] at hB1
      obtain ⟨⟨_, e⟩, _⟩ := hB1
      rcases hz with h | h
      · omega
      · exact hkz h
    have next : ∀ a' w', ((r ≠ .done → D w') ∧ wpT P l.toArray D Q l r a' w') → (k ≠ z → D w') ∧ AnyM P md l.toArray D Q z g (t.setIfInBounds k true) a' w' := fun a' w' hh =>
      ⟨fun hkz => hh.1 (hrd hkz), (walkT hsel r false g _ a' w' hh.1 hB1 hh.2).1 rfl⟩
    have A : opM P l.toArray k (fun a' w' => (k ≠ z → D w') ∧ AnyM P md l.toArray D Q z g (t.setIfInBounds k true) a' w') a w := by
      unfold opM
      simp only [h0]
      have h := hl (fun e a' w' => e = .normal ∧ (r ≠ .done → D w') ∧ wpT P l.toArray D Q l r a' w') (fun a' w' h1 h2 => ⟨rfl, h1, h2⟩)
      unfold wpList at h
      split
      · rename_i c
        simp only [c, if_true] at h
        rcases h with h | ⟨_, _, _, h⟩
        · refine ex_wp (Q := fun e a' w' => e = .normal ∧ (r ≠ .done → D w') ∧ wpT P l.toArray D Q l r a' w') (fun e a w he hh => he hh.1) (Oper.wp_mono (fun a' w' hh => ?_) h)
          unfold wpList at hh
          exact next _ _ hh.2
        · cases h.1
      · rename_i c
        simp only [c] at h
        unfold wpList at h
        exact next _ _ h.2
    have B := (walkT hsel m true (g + 1) t a w (fun _ => hw) hB2 hm).2 rfl
    have C : ∀ i ∈ k :: alts m, opM P l.toArray i (fun a' w' => (i ≠ z → D w') ∧ AnyM P md l.toArray D Q z g (t.setIfInBounds i true) a' w') a w := by
      intro i hi
      rcases List.mem_cons.1 hi with rfl | hi
      · exact A
      · exact B i hi
    refine ⟨fun e => ?_, fun _ => C⟩
    subst e
    have hr : Region.ready md l.toArray t = k :: alts m := by simpa using hb
    refine ⟨fun e => (by rw [hr] at e; cases e), fun i hi => ?_⟩
    rw [hr] at hi
    exact C i hi
/-- x: a tree of schedules; z: the number of the operation that waits for all. -/
theorem tree_region {id : Nat} {a : Act} {w : World} (x : Tr) (z : Nat) (hm : P.follows .mixedOrders = true) (hn : Region.noSelect l.toArray = true) (hB : seqT .any l.toArray z x false l.toArray.size (Array.replicate l.toArray.size false) = true) (hD : D w.drew)
    (h : wpT P l.toArray D Q l x a w.drew) : (Code.region id l.toArray true).wp P Q a w := by
  refine wp_region_any hm ?_
  have H := (walkT (md := .any) hn x false l.toArray.size (Array.replicate l.toArray.size false) a w.drew (fun _ => hD) hB h).1 rfl
  exact anyM_any _ _ _ _ H
end
end Go.Proofs.Ytemaonfgledcmaa
