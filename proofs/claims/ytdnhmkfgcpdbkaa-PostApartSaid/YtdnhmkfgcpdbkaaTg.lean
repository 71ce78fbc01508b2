/-
  XQm's walk for a region that draws its order, with less asked: the last operation waits for each calm one, be it by way of others. Conditions: none.
-/
import Derived.Test.YtdnhmkfgcpdbkaaQm
namespace Go.Proofs.Ytdnhmkfgcpdbkaa
open Go.RowKit

section
variable {P : Program} {ops : Array Oper} {md : Region.Mode} {D : World → Prop} {Q : Exit → Act → World → Prop} {z : Nat}
/-- What is done has all done that it waits for. -/
def Clo (md : Region.Mode) (ops : Array Oper) (t : Array Bool) : Prop := ∀ j oj, t.getD j false = true → ops[j]? = some oj → ∀ e ∈ oj.after, Region.binds md e = true → t.getD e.on false = true
def waitsB (md : Region.Mode) (ops : Array Oper) (i : Nat) : Nat → Nat → Bool
  | 0, _ => false
  | f + 1, z => match ops[z]? with
    | none => false
    | some oz => oz.after.any fun e => Region.binds md e && (e.on == i || waitsB md ops i f e.on)
theorem waits_clo {t : Array Bool} (hc : Clo md ops t) {i : Nat} : ∀ (f z : Nat), waitsB md ops i f z = true → (∀ oz, ops[z]? = some oz → ∀ e ∈ oz.after, Region.binds md e = true → t.getD e.on false = true) → t.getD i false = true
  | 0, _, h, _ => by cases h
  | f + 1, z, h, hz => by
    unfold waitsB at h
    split at h
    · cases h
    · rename_i oz ho
      rw [Array.any_eq_true'] at h
      obtain ⟨e, he, h⟩ := h
      simp only [Bool.and_eq_true, Bool.or_eq_true, beq_iff_eq] at h
      obtain ⟨hb, h⟩ := h
      have h1 := hz oz ho e he hb
      rcases h with rfl | h
      · exact h1
      · exact waits_clo hc f e.on h (fun oj hoj => hc e.on oj h1 hoj)
theorem getD_setf {t : Array Bool} {j k : Nat} (e : j ≠ k) : (t.setIfInBounds j true).getD k false = t.getD k false := by
  rw [Array.getD_eq_getD_getElem?, Array.getD_eq_getD_getElem?, Array.getElem?_setIfInBounds, if_neg e]
theorem clo_set {t : Array Bool} (hc : Clo md ops t) {j : Nat} (hj : j ∈ Region.ready md ops t) : Clo md ops (t.setIfInBounds j true) := by
  obtain ⟨hju, oj, hoj, hall⟩ := mem_ready.1 hj
  have keep : ∀ k, t.getD k false = true → (t.setIfInBounds j true).getD k false = true := fun k hk => by
    by_cases e : j = k
    · subst e
      rw [Array.getD_eq_getD_getElem?] at hk ⊢
      rw [Array.getElem?_setIfInBounds]
      split
      · split
        · rfl
        · rename_i hl; rw [Array.getElem?_eq_none (by omega)] at hk; cases hk
      · exact hk
    · rw [getD_setf e]; exact hk
  intro k ok hk hok ed hed hb
  by_cases e : j = k
  · subst e
    rw [hoj] at hok
    cases hok
    refine keep _ ?_
    exact (hall ed hed hb)
  · rw [getD_setf e] at hk
    exact keep _ (hc k ok hk hok ed hed hb)
/-- A calm operation that may come up now may be taken first. -/
theorem firstW {i : Nat} {oi : Oper} {v : Value} (hi : ops[i]? = some oi) (hsel : ∀ (j : Nat) (o : Oper) cs b, ops[j]? = some o → o.op ≠ .select cs b) (hiz : i ≠ z) (hz : ∃ f, waitsB md ops i f z = true) (f : Nat) :
    ∀ (t : Array Bool) (a : Act) (w : World), D w → Clo md ops t → (∀ j oj, ops[j]? = some oj → j ≠ i → t.getD j true = false → (∀ e ∈ oj.after, Region.binds md e = true → e.on ≠ i) → oi.apart ops oj = true) →
      i ∈ Region.ready md ops t → Calm P ops D oi v a → AnyM P md ops D Q z f (t.setIfInBounds i true) (a.put oi.dst v) w → AnyM P md ops D Q z (f + 1) t a w := by
  induction f with
  | zero =>
    intro t a w hw _ _ hr hy h
    refine ⟨fun e => absurd hr (by rw [e]; simp), fun j hj => ?_⟩
    by_cases e : j = i
    · rw [e]; exact hy.op hi hw ⟨fun _ => hw, h⟩
    · have := ready_mono hj e
      rw [h.1] at this
      cases this
  | succ f ih =>
    intro t a w hw hclo hfree hr hy h
    refine ⟨fun e => absurd hr (by rw [e]; simp), fun j hj => ?_⟩
    by_cases e : j = i
    · rw [e]; exact hy.op hi hw ⟨fun _ => hw, h⟩
    · have hun := (mem_ready.1 hr).1
      obtain ⟨hju, oj, hoj, hall⟩ := mem_ready.1 hj
      have hjz : j ≠ z := by
        rintro rfl
        obtain ⟨fz, hz⟩ := hz
        have := waits_clo hclo fz _ hz (fun oz hoz e he hb => by
          rw [hoj] at hoz; cases hoz
          exact hall e he hb)
        rw [Array.getD_eq_getD_getElem?] at this hun
        cases ht : t[i]? with
        | none => rw [ht] at this; cases this
        | some v => rw [ht] at this hun; simp at this hun; rw [this] at hun; cases hun
      have h2 := opM_put hoj (hfree j oj hoj e hju (not_on hun hall)) (fun cs b => hsel i oi cs b hi) (fun cs b => hsel j oj cs b hoj) hy (h.2 j (ready_mono hj e))
      refine opM_mono (fun a' w' h3 => ⟨fun _ => h3.2.1 hjz, ih _ a' w' (h3.2.1 hjz) (clo_set hclo hj) ?_ (ready_mono hr (Ne.symm e)) h3.1 (by rw [Array.setIfInBounds_comm _ _ e]; exact h3.2.2)⟩) h2
      intro k ok hk hki hku hno
      refine hfree k ok hk hki ?_ hno
      by_cases ejk : j = k
      · rw [← ejk]; exact hju
      · rwa [getD_set_ne true ejk] at hku
def headW (md : Region.Mode) (ops : Array Oper) (z : Nat) (tl : List Nat) : List Nat → Array Bool → Bool
  | [], t => seqM md ops tl t
  | k :: r, t => (Region.ready md ops t).contains k && Region.free md ops t k && waitsB md ops k ops.size z && decide (k ≠ z) && headW md ops z tl r (t.setIfInBounds k true)
def mixW (md : Region.Mode) (ops : Array Oper) (z : Nat) (hd tl : List Nat) : Bool :=
  Region.noSelect ops && (ops.all fun o => o.guard.isNone) && decide (hd.length + tl.length = ops.size) && decide (tl.getLast? = some z) && decide (tl.dropLast.contains z = false) && headW md ops z tl hd (Array.replicate ops.size false)
theorem headLW (hsel : Region.noSelect ops = true) (hgd : ∀ o ∈ ops, o.guard = none) (tl : List Nat) (lt : List Oper) (hlt : lt.length = tl.length) (htl : ∀ j (h : j < tl.length), ops[tl[j]]? = lt[j]?) (hz : ∀ j (h : j < tl.length), j + 1 = tl.length → tl[j] = z) {w : World} (hw : D w) :
    ∀ (hd : List Nat) (l : List Oper) (t : Array Bool) (a : Act), Clo md ops t → l.length = hd.length → (∀ j (h : j < hd.length), ops[hd[j]]? = l[j]?) → headW md ops z tl hd t = true → wpCalm P ops D (fun a' => wpLoud P ops D Q lt a' w) l a → AnyM P md ops D Q z (hd.length + tl.length) t a w
  | [], l, t, a, _, hl, _, hB, h => by
    rw [List.length_eq_zero_iff.1 hl] at h
    rw [List.length_nil, Nat.zero_add]
    exact loudM hsel tl lt t a w hlt htl hz (by simpa [headW] using hB) h
  | k :: r, l, t, a, hclo, hl, he, hB, h => by
    obtain ⟨o, l, rfl⟩ : ∃ o l', l = o :: l' := by
      cases l with
      | nil => simp at hl
      | cons o l => exact ⟨o, l, rfl⟩
    have h0 : ops[k]? = some o := by have := he 0 (by simp); simpa using this
    simp only [headW, Bool.and_eq_true, decide_eq_true_eq] at hB
    obtain ⟨⟨⟨⟨hr, hf⟩, hwf⟩, hkz⟩, hB'⟩ := hB
    obtain ⟨v, hv, hK⟩ := h
    have hwant : Region.wanted o (yielded ops a.tmps) = true := by simp [Region.wanted, hgd o (Array.mem_of_getElem? h0)]
    rw [List.length_cons, Nat.succ_add]
    refine firstW h0 (Region.noSelect_spec hsel) hkz ⟨_, hwf⟩ _ t a w hw hclo (Region.free_spec h0 hf) (by simpa using hr) ⟨hwant, hv⟩ ?_
    exact headLW hsel hgd tl lt hlt htl hz hw r l _ _ (clo_set hclo (by simpa using hr)) (by simpa using hl) (fun j hj => by have := he (j + 1) (by simp; omega); simpa using this) hB' hK
/-- hd: the calm operations' numbers, in an order that may be; tl: the loud ones'. -/
theorem mixed_region2 {id : Nat} {a : Act} {w : World} {l : List Oper} (hd tl : List Nat) (z : Nat) (hm : P.follows .mixedOrders = true) (hB : mixW .any l.toArray z hd tl = true) (hi : ((hd ++ tl).all fun i => decide (i < l.length)) = true) (hD : D w.drew)
    (h : wpCalm P l.toArray D (fun a' => wpLoud P l.toArray D Q (tl.filterMap (l[·]?)) a' w.drew) (hd.filterMap (l[·]?)) a) : (Code.region id l.toArray true).wp P Q a w := by
  simp only [mixW, Bool.and_eq_true, decide_eq_true_eq] at hB
  obtain ⟨⟨⟨⟨⟨h1, h2⟩, h3⟩, h4⟩, h5⟩, h6⟩ := hB
  rw [List.all_eq_true] at hi
  have hlt : ∀ i ∈ hd ++ tl, i < l.length := fun i hh => by simpa using hi i hh
  obtain ⟨e1, e2⟩ := get_map l hd fun i hh => hlt i (by simp [hh])
  obtain ⟨e3, e4⟩ := get_map l tl fun i hh => hlt i (by simp [hh])
  have hz : ∀ j (h : j < tl.length), j + 1 = tl.length → tl[j] = z := fun j hj e => by
    rw [List.getLast?_eq_getElem?, List.getElem?_eq_getElem (by omega)] at h4
    have : tl.length - 1 = j := by omega
    simp only [this] at h4
    exact Option.some.inj h4
  refine wp_region_any hm ?_
  have H := headLW (md := .any) h1 (fun o ho => by
    have := Array.all_eq_true_iff_forall_mem.1 h2 o ho
    simpa using this) tl _ e3 e4 hz hD hd _ (Array.replicate l.toArray.size false) a (fun j oj hj => by
    rw [Array.getD_eq_getD_getElem?, Array.getElem?_replicate] at hj
    split at hj <;> cases hj) e1 e2 h6 h
  rw [h3] at H
  exact anyM_any _ _ _ _ H
end
end Go.Proofs.Ytdnhmkfgcpdbkaa
