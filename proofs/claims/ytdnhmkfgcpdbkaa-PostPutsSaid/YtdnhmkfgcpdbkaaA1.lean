/-
  Texts of mine as one, in the order in which they build: Tg, Tf, Th, Ti. Conditions: as each says.
-/
import Derived.Test.YtdnhmkfgcpdbkaaQm
import Derived.Test.YtdnhmkfgcpdbkaaA0
import Derived.Laws.MakeOwn
namespace Go.Proofs.Ytdnhmkfgcpdbkaa
open Go.RowKit

section
variable {P : Program} {ops : Array Oper} {md : Region.Mode} {D : World → Prop} {Q : Exit → Act → World → Prop} {z : Nat}
/-- What is done has all done that it waits for. -/
def Clo (md : Region.Mode) (ops : Array Oper) (t : Array Bool) : Prop := ∀ j oj, t.getD j false = true → ops[j]? = some oj → ∀ e ∈ oj.after, Region.binds md e = true → t.getD e.on false = true
def waitsB (md : Region.Mode) (ops : Array Oper) (i : Nat) : Nat → Nat → Bool
  | 0, _ => false
  | f + 1, z => match ops[z]? with
    | none => false
    | some oz => oz.after.any fun e => Region.binds md e && (e.on == i || waitsB md ops i f e.on)
theorem waits_clo {t : Array Bool} (hc : Clo md ops t) {i : Nat} : ∀ (f z : Nat), waitsB md ops i f z = true → (∀ oz, ops[z]? = some oz → ∀ e ∈ oz.after, Region.binds md e = true → t.getD e.on false = true) → t.getD i false = true
  | 0, _, h, _ => by cases h
  | f + 1, z, h, hz => by
    unfold waitsB at h
    split at h
    · cases h
    · rename_i oz ho
      rw [Array.any_eq_true'] at h
      obtain ⟨e, he, h⟩ := h
      simp only [Bool.and_eq_true, Bool.or_eq_true, beq_iff_eq] at h
      obtain ⟨hb, h⟩ := h
      have h1 := hz oz ho e he hb
      rcases h with rfl | h
      · exact h1
      · exact waits_clo hc f e.on h (fun oj hoj => hc e.on oj h1 hoj)
theorem getD_setf {t : Array Bool} {j k : Nat} (e : j ≠ k) : (t.setIfInBounds j true).getD k false = t.getD k false := by
  rw [Array.getD_eq_getD_getElem?, Array.getD_eq_getD_getElem?, Array.getElem?_setIfInBounds, if_neg e]
theorem clo_set {t : Array Bool} (hc : Clo md ops t) {j : Nat} (hj : j ∈ Region.ready md ops t) : Clo md ops (t.setIfInBounds j true) := by
  obtain ⟨hju, oj, hoj, hall⟩ := mem_ready.1 hj
  have keep : ∀ k, t.getD k false = true → (t.setIfInBounds j true).getD k false = true := fun k hk => by
    by_cases e : j = k
    · subst e
      rw [Array.getD_eq_getD_getElem?] at hk ⊢
      rw [Array.getElem?_setIfInBounds]
      split
      · split
        · rfl
        · rename_i hl; rw [Array.getElem?_eq_none (by omega)] at hk; cases hk
      · exact hk
    · rw [getD_setf e]; exact hk
  intro k ok hk hok ed hed hb
  by_cases e : j = k
  · subst e
    rw [hoj] at hok
    cases hok
    refine keep _ ?_
    exact (hall ed hed hb)
  · rw [getD_setf e] at hk
    exact keep _ (hc k ok hk hok ed hed hb)
/-- A calm operation that may come up now may be taken first. -/
theorem firstW {i : Nat} {oi : Oper} {v : Value} (hi : ops[i]? = some oi) (hsel : ∀ (j : Nat) (o : Oper) cs b, ops[j]? = some o → o.op ≠ .select cs b) (hiz : i ≠ z) (hz : ∃ f, waitsB md ops i f z = true) (f : Nat) :
    ∀ (t : Array Bool) (a : Act) (w : World), D w → Clo md ops t → (∀ j oj, ops[j]? = some oj → j ≠ i → t.getD j true = false → (∀ e ∈ oj.after, Region.binds md e = true → e.on ≠ i) → oi.apart ops oj = true) →
      i ∈ Region.ready md ops t → Calm P ops D oi v a → AnyM P md ops D Q z f (t.setIfInBounds i true) (a.put oi.dst v) w → AnyM P md ops D Q z (f + 1) t a w := by
  induction f with
  | zero =>
    intro t a w hw _ _ hr hy h
    refine ⟨fun e => absurd hr (by rw [e]; simp), fun j hj => ?_⟩
    by_cases e : j = i
    · rw [e]; exact hy.op hi hw ⟨fun _ => hw, h⟩
    · have := ready_mono hj e
      rw [h.1] at this
      cases this
  | succ f ih =>
    intro t a w hw hclo hfree hr hy h
    refine ⟨fun e => absurd hr (by rw [e]; simp), fun j hj => ?_⟩
    by_cases e : j = i
    · rw [e]; exact hy.op hi hw ⟨fun _ => hw, h⟩
    · have hun := (mem_ready.1 hr).1
      obtain ⟨hju, oj, hoj, hall⟩ := mem_ready.1 hj
      have hjz : j ≠ z := by
        rintro rfl
        obtain ⟨fz, hz⟩ := hz
        have := waits_clo hclo fz _ hz (fun oz hoz e he hb => by
          rw [hoj] at hoz; cases hoz
          exact hall e he hb)
        rw [Array.getD_eq_getD_getElem?] at this hun
        cases ht : t[i]? with
        | none => rw [ht] at this; cases this
        | some v => rw [ht] at this hun; simp at this hun; rw [this] at hun; cases hun
      have h2 := opM_put hoj (hfree j oj hoj e hju (not_on hun hall)) (fun cs b => hsel i oi cs b hi) (fun cs b => hsel j oj cs b hoj) hy (h.2 j (ready_mono hj e))
      refine opM_mono (fun a' w' h3 => ⟨fun _ => h3.2.1 hjz, ih _ a' w' (h3.2.1 hjz) (clo_set hclo hj) ?_ (ready_mono hr (Ne.symm e)) h3.1 (by rw [Array.setIfInBounds_comm _ _ e]; exact h3.2.2)⟩) h2
      intro k ok hk hki hku hno
      refine hfree k ok hk hki ?_ hno
      by_cases ejk : j = k
      · rw [← ejk]; exact hju
      · rwa [getD_set_ne true ejk] at hku
def headW (md : Region.Mode) (ops : Array Oper) (z : Nat) (tl : List Nat) : List Nat → Array Bool → Bool
  | [], t => seqM md ops tl t
  | k :: r, t => (Region.ready md ops t).contains k && Region.free md ops t k && waitsB md ops k ops.size z && decide (k ≠ z) && headW md ops z tl r (t.setIfInBounds k true)
def mixW (md : Region.Mode) (ops : Array Oper) (z : Nat) (hd tl : List Nat) : Bool :=
  Region.noSelect ops && (ops.all fun o => o.guard.isNone) && decide (hd.length + tl.length = ops.size) && decide (tl.getLast? = some z) && decide (tl.dropLast.contains z = false) && headW md ops z tl hd (Array.replicate ops.size false)
theorem headLW (hsel : Region.noSelect ops = true) (hgd : ∀ o ∈ ops, o.guard = none) (tl : List Nat) (lt : List Oper) (hlt : lt.length = tl.length) (htl : ∀ j (h : j < tl.length), ops[tl[j]]? = lt[j]?) (hz : ∀ j (h : j < tl.length), j + 1 = tl.length → tl[j] = z) {w : World} (hw : D w) :
    ∀ (hd : List Nat) (l : List Oper) (t : Array Bool) (a : Act), Clo md ops t → l.length = hd.length → (∀ j (h : j < hd.length), ops[hd[j]]? = l[j]?) → headW md ops z tl hd t = true → wpCalm P ops D (fun a' => wpLoud P ops D Q lt a' w) l a → AnyM P md ops D Q z (hd.length + tl.length) t a w
  | [], l, t, a, _, hl, _, hB, h => by
    rw [List.length_eq_zero_iff.1 hl] at h
    rw [List.length_nil, Nat.zero_add]
    exact loudM hsel tl lt t a w hlt htl hz (by simpa [headW] using hB) h
  | k :: r, l, t, a, hclo, hl, he, hB, h => by
    obtain ⟨o, l, rfl⟩ : ∃ o l', l = o :: l' := by
      cases l with
      | nil => simp at hl
      | cons o l => exact ⟨o, l, rfl⟩
    have h0 : ops[k]? = some o := by have := he 0 (by simp); simpa using this
    simp only [headW, Bool.and_eq_true, decide_eq_true_eq] at hB
    obtain ⟨⟨⟨⟨hr, hf⟩, hwf⟩, hkz⟩, hB'⟩ := hB
    obtain ⟨v, hv, hK⟩ := h
    have hwant : Region.wanted o (yielded ops a.tmps) = true := by simp [Region.wanted, hgd o (Array.mem_of_getElem? h0)]
    rw [List.length_cons, Nat.succ_add]
    refine firstW h0 (Region.noSelect_spec hsel) hkz ⟨_, hwf⟩ _ t a w hw hclo (Region.free_spec h0 hf) (by simpa using hr) ⟨hwant, hv⟩ ?_
    exact headLW hsel hgd tl lt hlt htl hz hw r l _ _ (clo_set hclo (by simpa using hr)) (by simpa using hl) (fun j hj => by have := he (j + 1) (by simp; omega); simpa using this) hB' hK
/-- hd: the calm operations' numbers, in an order that may be; tl: the loud ones'. -/
theorem mixed_region2 {id : Nat} {a : Act} {w : World} {l : List Oper} (hd tl : List Nat) (z : Nat) (hm : P.follows .mixedOrders = true) (hB : mixW .any l.toArray z hd tl = true) (hi : ((hd ++ tl).all fun i => decide (i < l.length)) = true) (hD : D w.drew)
    (h : wpCalm P l.toArray D (fun a' => wpLoud P l.toArray D Q (tl.filterMap (l[·]?)) a' w.drew) (hd.filterMap (l[·]?)) a) : (Code.region id l.toArray true).wp P Q a w := by
  simp only [mixW, Bool.and_eq_true, decide_eq_true_eq] at hB
  obtain ⟨⟨⟨⟨⟨h1, h2⟩, h3⟩, h4⟩, h5⟩, h6⟩ := hB
  rw [List.all_eq_true] at hi
  have hlt : ∀ i ∈ hd ++ tl, i < l.length := fun i hh => by simpa using hi i hh
  obtain ⟨e1, e2⟩ := get_map l hd fun i hh => hlt i (by simp [hh])
  obtain ⟨e3, e4⟩ := get_map l tl fun i hh => hlt i (by simp [hh])
  have hz : ∀ j (h : j < tl.length), j + 1 = tl.length → tl[j] = z := fun j hj e => by
    rw [List.getLast?_eq_getElem?, List.getElem?_eq_getElem (by omega)] at h4
    have : tl.length - 1 = j := by omega
    simp only [this] at h4
    exact Option.some.inj h4
  refine wp_region_any hm ?_
  have H := headLW (md := .any) h1 (fun o ho => by
    have := Array.all_eq_true_iff_forall_mem.1 h2 o ho
    simpa using this) tl _ e3 e4 hz hD hd _ (Array.replicate l.toArray.size false) a (fun j oj hj => by
    rw [Array.getD_eq_getD_getElem?, Array.getElem?_replicate] at hj
    split at hj <;> cases hj) e1 e2 h6 h
  rw [h3] at H
  exact anyM_any _ _ _ _ H
end
end Go.Proofs.Ytdnhmkfgcpdbkaa
namespace Go.Proofs.Ytdnhmkfgcpdbkaa
open Go.RowKit
set_option linter.unusedVariables false
set_option linter.unusedSimpArgs false
theorem alloc_cell (w : World) (cs : Array Value) (T : TypeId) (i : Nat) : (w.alloc (.cells cs T)).cell? ⟨w.heap.size, i, none⟩ = cs[i]? := by
  unfold World.cell?
  rw [show (⟨w.heap.size, i, none⟩ : Addr).block = w.heap.size from rfl, heap_alloc_new]
  rfl
section
variable {σ : Type} {W : Way σ} {D b B : Nat} {G : Prop} {At : World → σ → Prop}
set_option maxRecDepth 100000 in
set_option maxHeartbeats 2000000 in
theorem clWrite_any (H : WayAt W D b B G At) (w : World) (s : σ) (p o wb : Nat) (k v : ByteArray) (g : Bool) (h : At w s) (hp : Loc G b B w p) (hw : Loc G b B w wb) (hne : wb ≠ p) (hb : w.cell? ⟨wb, 0, none⟩ = some (.iface D (.pointer (some ⟨b, 0, none⟩)))) (hf : FAt w p o [.t k, .t v, .f g]) (hok : W.ok (elemW W s [.t k, .t v, .f g]).1) :
    Calls Try.prog 57 #[.pointer (some ⟨p, o, none⟩), .pointer (some ⟨wb, 0, none⟩)] w fun e w' => e = .returned (.tuple #[]) ∧ At w' (elemW W s [.t k, .t v, .f g]).1 ∧ KB b B (w.setCells p o ((elemW W s [.t k, .t v, .f g]).2.map Fld.cell)) w' := by
  have HH := Lib.hid H
  have HW := Lib.hid hw
  have HNE := Lib.hid hne
  have HBX := Lib.hid hb
  have HOK := Lib.hid hok
  have HG := Lib.hid (Pg.start (W := W) h hf hp)
  have HDL : Hid (([] : List Fld).length = 0) := Lib.hid rfl
  clear H hw hne hb hok h hf hp
  go_enter Try.func57, Try.ntmps57
  have hbx := (HG.out.box HW.out HNE.out HBX.out).1
  go_wp2_with fail
  refine mixed_region2 (D := (fun w' => w'.cell? ⟨wb, 0, none⟩ = some (.iface D (.pointer (some ⟨b, 0, none⟩))))) [0, 1, 2, 3, 4, 5, 6] [7, 8] 8 (by kernel_rfl) (by kernel_rfl) (by decide) (hbx) ?_
  simp only [List.filterMap_cons, List.filterMap_nil, List.getElem?_cons_zero, List.getElem?_cons_succ]
  repeat (
    (first
     | (refine calm_move _ rfl ?_)
     | (apply calm_cons
        · (intro w' hw'
           first | (obtain ⟨hwa', hwb', hwc'⟩ := hw') | (obtain ⟨hwa', hwb'⟩ := hw') | skip
           go_simp
           first
           | done
           | exact rfl)))
    simp only [Act.put, Act.eval, List.setIfInBounds_toArray, List.set_cons_zero, List.set_cons_succ, Array.getD_eq_getD_getElem?, List.getElem?_toArray, List.getElem?_cons_zero, List.getElem?_cons_succ, Option.getD_some])
  refine calm_nil ?_
  have hst := HH.out.lt _ _ HG.out.st
  have hnb := ((Below.refl w.heap.size w).drew.alloc (Nat.le_refl _) (.cells #[.pointer (some ⟨p, o, none⟩), .pointer (some ⟨p, o + 1, none⟩)] 101))
  have HG1 := Lib.hid (HG.out.old HH.out hnb)
  have HVA : Hid (Loc G b B (w.drew.alloc (.cells #[.pointer (some ⟨p, o, none⟩), .pointer (some ⟨p, o + 1, none⟩)] 101)) w.drew.heap.size) := Lib.hid (Loc.new hst.1 hst.2 _ _ (by decide))
  have HNP : Hid (w.drew.heap.size ≠ p) := Lib.hid (by have := HG.out.lo.2.1; show w.heap.size ≠ _; omega)
  have HC := Lib.hid (Pg.txts HH.out (l := [k, v]) HG1.out HOK.out HDL.out w.drew.heap.size 2 2 HVA.out HNP.out rfl (by omega) (fun i hi => match i, hi with | 0, _ => (alloc_cell _ _ _ 0).trans rfl | 1, _ => (alloc_cell _ _ _ 1).trans rfl))
  have HBD : Hid ((w.drew.alloc (.cells #[.pointer (some ⟨p, o, none⟩), .pointer (some ⟨p, o + 1, none⟩)] 101)).cell? ⟨wb, 0, none⟩ = some (.iface D (.pointer (some ⟨b, 0, none⟩)))) := Lib.hid (HG1.out.box HW.out HNE.out HBX.out).1
  clear hbx hnb hst
  refine loud_cons fun K hK => ?_
  go_wp2_with fail
  refine hK _ _ (fun _ => HBD.out) ?_
  clear hK K
  refine loud_cons fun K hK => ?_
  have hbx := HBD.out
  go_wp2_with fail
  refine HC.out.mono ?_
  rintro e w2 ⟨rfl, d2, s2, hd2, hg2⟩
  clear HG HDL HG1 HVA HNP HC HBD hbx
  have HG := Lib.hid hg2
  have HDL := Lib.hid hd2
  clear hg2 hd2
  go_wp2_with fail
  refine hK _ _ (fun hh => absurd rfl hh) ?_
  clear hK K
  refine loud_nil ?_
  have hbx := (HG.out.box HW.out HNE.out HBX.out).1
  go_wp2_with fail
  refine mixed_region2 (D := (fun w' => w'.cell? ⟨wb, 0, none⟩ = some (.iface D (.pointer (some ⟨b, 0, none⟩))))) [0, 1, 2, 3] [4] 4 (by kernel_rfl) (by kernel_rfl) (by decide) (hbx) ?_
  simp only [List.filterMap_cons, List.filterMap_nil, List.getElem?_cons_zero, List.getElem?_cons_succ]
  repeat (
    (first
     | (refine calm_move _ rfl ?_)
     | (apply calm_cons
        · (intro w' hw'
           first | (obtain ⟨hwa', hwb', hwc'⟩ := hw') | (obtain ⟨hwa', hwb'⟩ := hw') | skip
           go_simp
           first
           | done
           | exact rfl)))
    simp only [Act.put, Act.eval, List.setIfInBounds_toArray, List.set_cons_zero, List.set_cons_succ, Array.getD_eq_getD_getElem?, List.getElem?_toArray, List.getElem?_cons_zero, List.getElem?_cons_succ, Option.getD_some])
  refine calm_nil ?_
  have HG1 := Lib.hid (HG.out.old HH.out (Below.refl w2.heap.size w2).drew)
  have HC := Lib.hid (HG1.out.flag HH.out HOK.out HDL.out)
  clear hbx
  refine loud_cons fun K hK => ?_
  go_wp2_with fail
  refine HC.out.mono ?_
  rintro e w3 ⟨rfl, d3, s3, hd2, hg2⟩
  clear HG HDL HG1 HC
  have HG := Lib.hid hg2
  have HDL := Lib.hid hd2
  clear hg2 hd2
  go_wp2_with fail
  refine hK _ _ (fun hh => absurd rfl hh) ?_
  clear hK K
  refine loud_nil ?_
  go_wp2_with fail
  go_end0
  exact ⟨rfl, HG.out.fin⟩
set_option maxRecDepth 100000 in
set_option maxHeartbeats 2000000 in
theorem clPair_any (H : WayAt W D b B G At) (w : World) (s : σ) (p o wb : Nat) (k v : ByteArray) (h : At w s) (hp : Loc G b B w p) (hw : Loc G b B w wb) (hne : wb ≠ p) (hb : w.cell? ⟨wb, 0, none⟩ = some (.iface D (.pointer (some ⟨b, 0, none⟩)))) (hf : FAt w p o [.t k, .t v]) (hok : W.ok (elemW W s [.t k, .t v]).1) :
    Calls Try.prog 59 #[.pointer (some ⟨p, o, none⟩), .pointer (some ⟨wb, 0, none⟩)] w fun e w' => e = .returned (.tuple #[]) ∧ At w' (elemW W s [.t k, .t v]).1 ∧ KB b B (w.setCells p o ((elemW W s [.t k, .t v]).2.map Fld.cell)) w' := by
  have HH := Lib.hid H
  have HW := Lib.hid hw
  have HNE := Lib.hid hne
  have HBX := Lib.hid hb
  have HOK := Lib.hid hok
  have HG := Lib.hid (Pg.start (W := W) h hf hp)
  have HDL : Hid (([] : List Fld).length = 0) := Lib.hid rfl
  clear H hw hne hb hok h hf hp
  go_enter Try.func59, Try.ntmps59
  have hbx := (HG.out.box HW.out HNE.out HBX.out).1
  go_wp2_with fail
  refine mixed_region2 (D := (fun w' => w'.cell? ⟨wb, 0, none⟩ = some (.iface D (.pointer (some ⟨b, 0, none⟩))))) [0, 1, 2, 3, 4, 5, 6] [7, 8] 8 (by kernel_rfl) (by kernel_rfl) (by decide) (hbx) ?_
  simp only [List.filterMap_cons, List.filterMap_nil, List.getElem?_cons_zero, List.getElem?_cons_succ]
  repeat (
    (first
     | (refine calm_move _ rfl ?_)
     | (apply calm_cons
        · (intro w' hw'
           first | (obtain ⟨hwa', hwb', hwc'⟩ := hw') | (obtain ⟨hwa', hwb'⟩ := hw') | skip
           go_simp
           first
           | done
           | exact rfl)))
    simp only [Act.put, Act.eval, List.setIfInBounds_toArray, List.set_cons_zero, List.set_cons_succ, Array.getD_eq_getD_getElem?, List.getElem?_toArray, List.getElem?_cons_zero, List.getElem?_cons_succ, Option.getD_some])
  refine calm_nil ?_
  have hst := HH.out.lt _ _ HG.out.st
  have hnb := ((Below.refl w.heap.size w).drew.alloc (Nat.le_refl _) (.cells #[.pointer (some ⟨p, o, none⟩), .pointer (some ⟨p, o + 1, none⟩)] 101))
  have HG1 := Lib.hid (HG.out.old HH.out hnb)
  have HVA : Hid (Loc G b B (w.drew.alloc (.cells #[.pointer (some ⟨p, o, none⟩), .pointer (some ⟨p, o + 1, none⟩)] 101)) w.drew.heap.size) := Lib.hid (Loc.new hst.1 hst.2 _ _ (by decide))
  have HNP : Hid (w.drew.heap.size ≠ p) := Lib.hid (by have := HG.out.lo.2.1; show w.heap.size ≠ _; omega)
  have HC := Lib.hid (Pg.txts HH.out (l := [k, v]) HG1.out HOK.out HDL.out w.drew.heap.size 2 2 HVA.out HNP.out rfl (by omega) (fun i hi => match i, hi with | 0, _ => (alloc_cell _ _ _ 0).trans rfl | 1, _ => (alloc_cell _ _ _ 1).trans rfl))
  have HBD : Hid ((w.drew.alloc (.cells #[.pointer (some ⟨p, o, none⟩), .pointer (some ⟨p, o + 1, none⟩)] 101)).cell? ⟨wb, 0, none⟩ = some (.iface D (.pointer (some ⟨b, 0, none⟩)))) := Lib.hid (HG1.out.box HW.out HNE.out HBX.out).1
  clear hbx hnb hst
  refine loud_cons fun K hK => ?_
  go_wp2_with fail
  refine hK _ _ (fun _ => HBD.out) ?_
  clear hK K
  refine loud_cons fun K hK => ?_
  have hbx := HBD.out
  go_wp2_with fail
  refine HC.out.mono ?_
  rintro e w2 ⟨rfl, d2, s2, hd2, hg2⟩
  clear HG HDL HG1 HVA HNP HC HBD hbx
  have HG := Lib.hid hg2
  have HDL := Lib.hid hd2
  clear hg2 hd2
  go_wp2_with fail
  refine hK _ _ (fun hh => absurd rfl hh) ?_
  clear hK K
  refine loud_nil ?_
  go_wp2_with fail
  go_end0
  exact ⟨rfl, HG.out.fin⟩
set_option maxRecDepth 100000 in
set_option maxHeartbeats 2000000 in
theorem clShard_any (H : WayAt W D b B G At) (w : World) (s : σ) (p o wb : Nat) (i : Int) (lo hi : ByteArray) (ep nd st : Int) (h : At w s) (hp : Loc G b B w p) (hw : Loc G b B w wb) (hne : wb ≠ p) (hb : w.cell? ⟨wb, 0, none⟩ = some (.iface D (.pointer (some ⟨b, 0, none⟩)))) (hf : FAt w p o [.n 0 maxN i, .t lo, .t hi, .n 0 maxN ep, .n 0 maxN nd, .n 0 maxN st]) (hok : W.ok (elemW W s [.n 0 maxN i, .t lo, .t hi, .n 0 maxN ep, .n 0 maxN nd, .n 0 maxN st]).1) :
    Calls Try.prog 35 #[.pointer (some ⟨p, o, none⟩), .pointer (some ⟨wb, 0, none⟩)] w fun e w' => e = .returned (.tuple #[]) ∧ At w' (elemW W s [.n 0 maxN i, .t lo, .t hi, .n 0 maxN ep, .n 0 maxN nd, .n 0 maxN st]).1 ∧ KB b B (w.setCells p o ((elemW W s [.n 0 maxN i, .t lo, .t hi, .n 0 maxN ep, .n 0 maxN nd, .n 0 maxN st]).2.map Fld.cell)) w' := by
  have HH := Lib.hid H
  have HW := Lib.hid hw
  have HNE := Lib.hid hne
  have HBX := Lib.hid hb
  have HOK := Lib.hid hok
  have HG := Lib.hid (Pg.start (W := W) h hf hp)
  have HDL : Hid (([] : List Fld).length = 0) := Lib.hid rfl
  clear H hw hne hb hok h hf hp
  go_enter Try.func35, Try.ntmps35
  have hbx := (HG.out.box HW.out HNE.out HBX.out).1
  go_wp2_with fail
  refine mixed_region2 (D := (fun w' => w'.cell? ⟨wb, 0, none⟩ = some (.iface D (.pointer (some ⟨b, 0, none⟩))))) [0, 1, 2, 3] [4, 5] 5 (by kernel_rfl) (by kernel_rfl) (by decide) (hbx) ?_
  simp only [List.filterMap_cons, List.filterMap_nil, List.getElem?_cons_zero, List.getElem?_cons_succ]
  repeat (
    (first
     | (refine calm_move _ rfl ?_)
     | (apply calm_cons
        · (intro w' hw'
           first | (obtain ⟨hwa', hwb', hwc'⟩ := hw') | (obtain ⟨hwa', hwb'⟩ := hw') | skip
           go_simp
           first
           | done
           | exact rfl)))
    simp only [Act.put, Act.eval, List.setIfInBounds_toArray, List.set_cons_zero, List.set_cons_succ, Array.getD_eq_getD_getElem?, List.getElem?_toArray, List.getElem?_cons_zero, List.getElem?_cons_succ, Option.getD_some])
  refine calm_nil ?_
  have hst := HH.out.lt _ _ HG.out.st
  have hnb := ((Below.refl w.heap.size w).drew.alloc (Nat.le_refl _) (.cells #[.pointer (some ⟨p, o, none⟩)] 89))
  have HG1 := Lib.hid (HG.out.old HH.out hnb)
  have HVA : Hid (Loc G b B (w.drew.alloc (.cells #[.pointer (some ⟨p, o, none⟩)] 89)) w.drew.heap.size) := Lib.hid (Loc.new hst.1 hst.2 _ _ (by decide))
  have HNP : Hid (w.drew.heap.size ≠ p) := Lib.hid (by have := HG.out.lo.2.1; show w.heap.size ≠ _; omega)
  have HC := Lib.hid (Pg.nums HH.out (l := [i]) HG1.out HOK.out HDL.out w.drew.heap.size 1 1 HVA.out HNP.out rfl (by omega) (fun i hi => match i, hi with | 0, _ => (alloc_cell _ _ _ 0).trans rfl))
  have HBD : Hid ((w.drew.alloc (.cells #[.pointer (some ⟨p, o, none⟩)] 89)).cell? ⟨wb, 0, none⟩ = some (.iface D (.pointer (some ⟨b, 0, none⟩)))) := Lib.hid (HG1.out.box HW.out HNE.out HBX.out).1
  clear hbx hnb hst
  refine loud_cons fun K hK => ?_
  go_wp2_with fail
  refine hK _ _ (fun _ => HBD.out) ?_
  clear hK K
  refine loud_cons fun K hK => ?_
  have hbx := HBD.out
  go_wp2_with fail
  refine HC.out.mono ?_
  rintro e w2 ⟨rfl, d2, s2, hd2, hg2⟩
  clear HG HDL HG1 HVA HNP HC HBD hbx
  have HG := Lib.hid hg2
  have HDL := Lib.hid hd2
  clear hg2 hd2
  go_wp2_with fail
  refine hK _ _ (fun hh => absurd rfl hh) ?_
  clear hK K
  refine loud_nil ?_
  have hbx := (HG.out.box HW.out HNE.out HBX.out).1
  go_wp2_with fail
  refine mixed_region2 (D := (fun w' => w'.cell? ⟨wb, 0, none⟩ = some (.iface D (.pointer (some ⟨b, 0, none⟩))))) [0, 1, 2, 3, 4, 5, 6, 7, 8] [9, 10] 10 (by kernel_rfl) (by kernel_rfl) (by decide) (hbx) ?_
  simp only [List.filterMap_cons, List.filterMap_nil, List.getElem?_cons_zero, List.getElem?_cons_succ]
  repeat (
    (first
     | (refine calm_move _ rfl ?_)
     | (apply calm_cons
        · (intro w' hw'
           first | (obtain ⟨hwa', hwb', hwc'⟩ := hw') | (obtain ⟨hwa', hwb'⟩ := hw') | skip
           go_simp
           first
           | done
           | exact rfl)))
    simp only [Act.put, Act.eval, List.setIfInBounds_toArray, List.set_cons_zero, List.set_cons_succ, Array.getD_eq_getD_getElem?, List.getElem?_toArray, List.getElem?_cons_zero, List.getElem?_cons_succ, Option.getD_some])
  refine calm_nil ?_
  have hst := HH.out.lt _ _ HG.out.st
  have hnb := ((Below.refl w2.heap.size w2).drew.alloc (Nat.le_refl _) (.cells #[.pointer (some ⟨p, o + 1, none⟩), .pointer (some ⟨p, o + 2, none⟩)] 101))
  have HG1 := Lib.hid (HG.out.old HH.out hnb)
  have HVA : Hid (Loc G b B (w2.drew.alloc (.cells #[.pointer (some ⟨p, o + 1, none⟩), .pointer (some ⟨p, o + 2, none⟩)] 101)) w2.drew.heap.size) := Lib.hid (Loc.new hst.1 hst.2 _ _ (by decide))
  have HNP : Hid (w2.drew.heap.size ≠ p) := Lib.hid (by have := HG.out.lo.2.1; show w2.heap.size ≠ _; omega)
  have HC := Lib.hid (Pg.txts HH.out (l := [lo, hi]) HG1.out HOK.out HDL.out w2.drew.heap.size 2 2 HVA.out HNP.out rfl (by omega) (fun i hi => match i, hi with | 0, _ => (alloc_cell _ _ _ 0).trans rfl | 1, _ => (alloc_cell _ _ _ 1).trans rfl))
  have HBD : Hid ((w2.drew.alloc (.cells #[.pointer (some ⟨p, o + 1, none⟩), .pointer (some ⟨p, o + 2, none⟩)] 101)).cell? ⟨wb, 0, none⟩ = some (.iface D (.pointer (some ⟨b, 0, none⟩)))) := Lib.hid (HG1.out.box HW.out HNE.out HBX.out).1
  clear hbx hnb hst
  refine loud_cons fun K hK => ?_
  go_wp2_with fail
  refine hK _ _ (fun _ => HBD.out) ?_
  clear hK K
  refine loud_cons fun K hK => ?_
  have hbx := HBD.out
  go_wp2_with fail
  refine HC.out.mono ?_
  rintro e w3 ⟨rfl, d3, s3, hd2, hg2⟩
  clear HG HDL HG1 HVA HNP HC HBD hbx
  have HG := Lib.hid hg2
  have HDL := Lib.hid hd2
  clear hg2 hd2
  go_wp2_with fail
  refine hK _ _ (fun hh => absurd rfl hh) ?_
  clear hK K
  refine loud_nil ?_
  have hbx := (HG.out.box HW.out HNE.out HBX.out).1
  go_wp2_with fail
  refine mixed_region2 (D := (fun w' => w'.cell? ⟨wb, 0, none⟩ = some (.iface D (.pointer (some ⟨b, 0, none⟩))))) [0, 1, 2, 3, 4, 5, 6, 7, 8, 9] [10, 11] 11 (by kernel_rfl) (by kernel_rfl) (by decide) (hbx) ?_
  simp only [List.filterMap_cons, List.filterMap_nil, List.getElem?_cons_zero, List.getElem?_cons_succ]
  repeat (
    (first
     | (refine calm_move _ rfl ?_)
     | (apply calm_cons
        · (intro w' hw'
           first | (obtain ⟨hwa', hwb', hwc'⟩ := hw') | (obtain ⟨hwa', hwb'⟩ := hw') | skip
           go_simp
           first
           | done
           | exact rfl)))
    simp only [Act.put, Act.eval, List.setIfInBounds_toArray, List.set_cons_zero, List.set_cons_succ, Array.getD_eq_getD_getElem?, List.getElem?_toArray, List.getElem?_cons_zero, List.getElem?_cons_succ, Option.getD_some])
  refine calm_nil ?_
  have hst := HH.out.lt _ _ HG.out.st
  have hnb := ((Below.refl w3.heap.size w3).drew.alloc (Nat.le_refl _) (.cells #[.pointer (some ⟨p, o + 3, none⟩), .pointer (some ⟨p, o + 4, none⟩), .pointer (some ⟨p, o + 5, none⟩)] 89))
  have HG1 := Lib.hid (HG.out.old HH.out hnb)
  have HVA : Hid (Loc G b B (w3.drew.alloc (.cells #[.pointer (some ⟨p, o + 3, none⟩), .pointer (some ⟨p, o + 4, none⟩), .pointer (some ⟨p, o + 5, none⟩)] 89)) w3.drew.heap.size) := Lib.hid (Loc.new hst.1 hst.2 _ _ (by decide))
  have HNP : Hid (w3.drew.heap.size ≠ p) := Lib.hid (by have := HG.out.lo.2.1; show w3.heap.size ≠ _; omega)
  have HC := Lib.hid (Pg.nums HH.out (l := [ep, nd, st]) HG1.out HOK.out HDL.out w3.drew.heap.size 3 3 HVA.out HNP.out rfl (by omega) (fun i hi => match i, hi with | 0, _ => (alloc_cell _ _ _ 0).trans rfl | 1, _ => (alloc_cell _ _ _ 1).trans rfl | 2, _ => (alloc_cell _ _ _ 2).trans rfl))
  have HBD : Hid ((w3.drew.alloc (.cells #[.pointer (some ⟨p, o + 3, none⟩), .pointer (some ⟨p, o + 4, none⟩), .pointer (some ⟨p, o + 5, none⟩)] 89)).cell? ⟨wb, 0, none⟩ = some (.iface D (.pointer (some ⟨b, 0, none⟩)))) := Lib.hid (HG1.out.box HW.out HNE.out HBX.out).1
  clear hbx hnb hst
  refine loud_cons fun K hK => ?_
  go_wp2_with fail
  refine hK _ _ (fun _ => HBD.out) ?_
  clear hK K
  refine loud_cons fun K hK => ?_
  have hbx := HBD.out
  go_wp2_with fail
  refine HC.out.mono ?_
  rintro e w4 ⟨rfl, d4, s4, hd2, hg2⟩
  clear HG HDL HG1 HVA HNP HC HBD hbx
  have HG := Lib.hid hg2
  have HDL := Lib.hid hd2
  clear hg2 hd2
  go_wp2_with fail
  refine hK _ _ (fun hh => absurd rfl hh) ?_
  clear hK K
  refine loud_nil ?_
  go_wp2_with fail
  go_end0
  exact ⟨rfl, HG.out.fin⟩
set_option maxRecDepth 100000 in
set_option maxHeartbeats 2000000 in
theorem clEntry_any (H : WayAt W D b B G At) (w : World) (s : σ) (p o wb : Nat) (k v : ByteArray) (g : Bool) (q : Int) (h : At w s) (hp : Loc G b B w p) (hw : Loc G b B w wb) (hne : wb ≠ p) (hb : w.cell? ⟨wb, 0, none⟩ = some (.iface D (.pointer (some ⟨b, 0, none⟩)))) (hf : FAt w p o [.t k, .t v, .f g, .n 0 maxN q]) (hok : W.ok (elemW W s [.t k, .t v, .f g, .n 0 maxN q]).1) :
    Calls Try.prog 38 #[.pointer (some ⟨p, o, none⟩), .pointer (some ⟨wb, 0, none⟩)] w fun e w' => e = .returned (.tuple #[]) ∧ At w' (elemW W s [.t k, .t v, .f g, .n 0 maxN q]).1 ∧ KB b B (w.setCells p o ((elemW W s [.t k, .t v, .f g, .n 0 maxN q]).2.map Fld.cell)) w' := by
  have HH := Lib.hid H
  have HW := Lib.hid hw
  have HNE := Lib.hid hne
  have HBX := Lib.hid hb
  have HOK := Lib.hid hok
  have HG := Lib.hid (Pg.start (W := W) h hf hp)
  have HDL : Hid (([] : List Fld).length = 0) := Lib.hid rfl
  clear H hw hne hb hok h hf hp
  go_enter Try.func38, Try.ntmps38
  have hbx := (HG.out.box HW.out HNE.out HBX.out).1
  go_wp2_with fail
  refine mixed_region2 (D := (fun w' => w'.cell? ⟨wb, 0, none⟩ = some (.iface D (.pointer (some ⟨b, 0, none⟩))))) [0, 1, 2, 3, 4, 5, 6] [7, 8] 8 (by kernel_rfl) (by kernel_rfl) (by decide) (hbx) ?_
  simp only [List.filterMap_cons, List.filterMap_nil, List.getElem?_cons_zero, List.getElem?_cons_succ]
  repeat (
    (first
     | (refine calm_move _ rfl ?_)
     | (apply calm_cons
        · (intro w' hw'
           first | (obtain ⟨hwa', hwb', hwc'⟩ := hw') | (obtain ⟨hwa', hwb'⟩ := hw') | skip
           go_simp
           first
           | done
           | exact rfl)))
    simp only [Act.put, Act.eval, List.setIfInBounds_toArray, List.set_cons_zero, List.set_cons_succ, Array.getD_eq_getD_getElem?, List.getElem?_toArray, List.getElem?_cons_zero, List.getElem?_cons_succ, Option.getD_some])
  refine calm_nil ?_
  have hst := HH.out.lt _ _ HG.out.st
  have hnb := ((Below.refl w.heap.size w).drew.alloc (Nat.le_refl _) (.cells #[.pointer (some ⟨p, o, none⟩), .pointer (some ⟨p, o + 1, none⟩)] 101))
  have HG1 := Lib.hid (HG.out.old HH.out hnb)
  have HVA : Hid (Loc G b B (w.drew.alloc (.cells #[.pointer (some ⟨p, o, none⟩), .pointer (some ⟨p, o + 1, none⟩)] 101)) w.drew.heap.size) := Lib.hid (Loc.new hst.1 hst.2 _ _ (by decide))
  have HNP : Hid (w.drew.heap.size ≠ p) := Lib.hid (by have := HG.out.lo.2.1; show w.heap.size ≠ _; omega)
  have HC := Lib.hid (Pg.txts HH.out (l := [k, v]) HG1.out HOK.out HDL.out w.drew.heap.size 2 2 HVA.out HNP.out rfl (by omega) (fun i hi => match i, hi with | 0, _ => (alloc_cell _ _ _ 0).trans rfl | 1, _ => (alloc_cell _ _ _ 1).trans rfl))
  have HBD : Hid ((w.drew.alloc (.cells #[.pointer (some ⟨p, o, none⟩), .pointer (some ⟨p, o + 1, none⟩)] 101)).cell? ⟨wb, 0, none⟩ = some (.iface D (.pointer (some ⟨b, 0, none⟩)))) := Lib.hid (HG1.out.box HW.out HNE.out HBX.out).1
  clear hbx hnb hst
  refine loud_cons fun K hK => ?_
  go_wp2_with fail
  refine hK _ _ (fun _ => HBD.out) ?_
  clear hK K
  refine loud_cons fun K hK => ?_
  have hbx := HBD.out
  go_wp2_with fail
  refine HC.out.mono ?_
  rintro e w2 ⟨rfl, d2, s2, hd2, hg2⟩
  clear HG HDL HG1 HVA HNP HC HBD hbx
  have HG := Lib.hid hg2
  have HDL := Lib.hid hd2
  clear hg2 hd2
  go_wp2_with fail
  refine hK _ _ (fun hh => absurd rfl hh) ?_
  clear hK K
  refine loud_nil ?_
  have hbx := (HG.out.box HW.out HNE.out HBX.out).1
  go_wp2_with fail
  refine mixed_region2 (D := (fun w' => w'.cell? ⟨wb, 0, none⟩ = some (.iface D (.pointer (some ⟨b, 0, none⟩))))) [0, 1, 2, 3] [4] 4 (by kernel_rfl) (by kernel_rfl) (by decide) (hbx) ?_
  simp only [List.filterMap_cons, List.filterMap_nil, List.getElem?_cons_zero, List.getElem?_cons_succ]
  repeat (
    (first
     | (refine calm_move _ rfl ?_)
     | (apply calm_cons
        · (intro w' hw'
           first | (obtain ⟨hwa', hwb', hwc'⟩ := hw') | (obtain ⟨hwa', hwb'⟩ := hw') | skip
           go_simp
           first
           | done
           | exact rfl)))
    simp only [Act.put, Act.eval, List.setIfInBounds_toArray, List.set_cons_zero, List.set_cons_succ, Array.getD_eq_getD_getElem?, List.getElem?_toArray, List.getElem?_cons_zero, List.getElem?_cons_succ, Option.getD_some])
  refine calm_nil ?_
  have HG1 := Lib.hid (HG.out.old HH.out (Below.refl w2.heap.size w2).drew)
  have HC := Lib.hid (HG1.out.flag HH.out HOK.out HDL.out)
  clear hbx
  refine loud_cons fun K hK => ?_
  go_wp2_with fail
  refine HC.out.mono ?_
  rintro e w3 ⟨rfl, d3, s3, hd2, hg2⟩
  clear HG HDL HG1 HC
  have HG := Lib.hid hg2
  have HDL := Lib.hid hd2
  clear hg2 hd2
  go_wp2_with fail
  refine hK _ _ (fun hh => absurd rfl hh) ?_
  clear hK K
  refine loud_nil ?_
  have hbx := (HG.out.box HW.out HNE.out HBX.out).1
  go_wp2_with fail
  refine mixed_region2 (D := (fun w' => w'.cell? ⟨wb, 0, none⟩ = some (.iface D (.pointer (some ⟨b, 0, none⟩))))) [0, 1, 2, 3] [4, 5] 5 (by kernel_rfl) (by kernel_rfl) (by decide) (hbx) ?_
  simp only [List.filterMap_cons, List.filterMap_nil, List.getElem?_cons_zero, List.getElem?_cons_succ]
  repeat (
    (first
     | (refine calm_move _ rfl ?_)
     | (apply calm_cons
        · (intro w' hw'
           first | (obtain ⟨hwa', hwb', hwc'⟩ := hw') | (obtain ⟨hwa', hwb'⟩ := hw') | skip
           go_simp
           first
           | done
           | exact rfl)))
    simp only [Act.put, Act.eval, List.setIfInBounds_toArray, List.set_cons_zero, List.set_cons_succ, Array.getD_eq_getD_getElem?, List.getElem?_toArray, List.getElem?_cons_zero, List.getElem?_cons_succ, Option.getD_some])
  refine calm_nil ?_
  have hst := HH.out.lt _ _ HG.out.st
  have hnb := ((Below.refl w3.heap.size w3).drew.alloc (Nat.le_refl _) (.cells #[.pointer (some ⟨p, o + 3, none⟩)] 89))
  have HG1 := Lib.hid (HG.out.old HH.out hnb)
  have HVA : Hid (Loc G b B (w3.drew.alloc (.cells #[.pointer (some ⟨p, o + 3, none⟩)] 89)) w3.drew.heap.size) := Lib.hid (Loc.new hst.1 hst.2 _ _ (by decide))
  have HNP : Hid (w3.drew.heap.size ≠ p) := Lib.hid (by have := HG.out.lo.2.1; show w3.heap.size ≠ _; omega)
  have HC := Lib.hid (Pg.nums HH.out (l := [q]) HG1.out HOK.out HDL.out w3.drew.heap.size 1 1 HVA.out HNP.out rfl (by omega) (fun i hi => match i, hi with | 0, _ => (alloc_cell _ _ _ 0).trans rfl))
  have HBD : Hid ((w3.drew.alloc (.cells #[.pointer (some ⟨p, o + 3, none⟩)] 89)).cell? ⟨wb, 0, none⟩ = some (.iface D (.pointer (some ⟨b, 0, none⟩)))) := Lib.hid (HG1.out.box HW.out HNE.out HBX.out).1
  clear hbx hnb hst
  refine loud_cons fun K hK => ?_
  go_wp2_with fail
  refine hK _ _ (fun _ => HBD.out) ?_
  clear hK K
  refine loud_cons fun K hK => ?_
  have hbx := HBD.out
  go_wp2_with fail
  refine HC.out.mono ?_
  rintro e w4 ⟨rfl, d4, s4, hd2, hg2⟩
  clear HG HDL HG1 HVA HNP HC HBD hbx
  have HG := Lib.hid hg2
  have HDL := Lib.hid hd2
  clear hg2 hd2
  go_wp2_with fail
  refine hK _ _ (fun hh => absurd rfl hh) ?_
  clear hK K
  refine loud_nil ?_
  go_wp2_with fail
  go_end0
  exact ⟨rfl, HG.out.fin⟩
end
end Go.Proofs.Ytdnhmkfgcpdbkaa
namespace Go.Proofs.Ytdnhmkfgcpdbkaa
open Go.RowKit
set_option linter.unusedVariables false
set_option linter.unusedSimpArgs false
section
variable {σ : Type} {W : Way σ} {D b B : Nat} {G : Prop} {At : World → σ → Prop}
variable {w0 wr w' : World} {p o : Nat} {s0 s : σ} {L done rest : List Fld}
/-- A field that the way leaves alone. -/
theorem Pg.skip {v : Value} (h : Pg W At G b B w0 p o s0 L done (.r v :: rest) s wr) (hl : Loc G b B w0 p) : Pg W At G b B w0 p o s0 L (done ++ [.r v]) rest s wr := by
  obtain ⟨f1, f2⟩ := FAt.app (l := [.r v]) (r := rest) h.fa
  have hls := Loc.sets p (done.map Fld.cell) o w0 hl
  have hc : (w0.setCells p o (done.map Fld.cell)).cell? ⟨p, o + done.length, none⟩ = some v := by
    rw [← hls.cell h.kb]
    have := f1 0 (by simp)
    simpa [Fld.cell] using this
  refine ⟨h.st, ?_, ?_, h.lo, ?_⟩
  · have e := setCells_snoc p (done.map Fld.cell) o w0 v
    rw [List.length_map, set_same hc] at e
    rw [List.map_append]
    show KB b B (w0.setCells p o (done.map Fld.cell ++ [v])) wr
    rw [← e]
    exact h.kb
  · rw [List.length_append, ← Nat.add_assoc]; exact f2
  · rw [h.eq]
    have := elemW_app (W := W) s [.r v] rest
    simp only [List.cons_append, List.nil_append] at this
    rw [this]
    simp [elemW, stepsW, stepF]
set_option maxRecDepth 100000 in
set_option maxHeartbeats 2000000 in
theorem trep0_any (H : WayAt W D b B G At) (w : World) (s : σ) (p o : Nat) (er : Int) (v : ByteArray) (g : Bool) (pv : Value) (u : ByteArray) (h : At w s) (hp : Loc G b B w p) (hf : FAt w p o [.n 0 maxN er, .t v, .f g, .r pv, .t u]) (hok : W.ok (elemW W s [.n 0 maxN er, .t v, .f g, .r pv, .t u]).1) :
    Calls Try.prog 33 #[.iface D (.pointer (some ⟨b, 0, none⟩)), .pointer (some ⟨p, o, none⟩), .bool false] w fun e w' => e = .returned (.tuple #[]) ∧ At w' (elemW W s [.n 0 maxN er, .t v, .f g, .r pv, .t u]).1 ∧ KB b B (w.setCells p o ((elemW W s [.n 0 maxN er, .t v, .f g, .r pv, .t u]).2.map Fld.cell)) w' := by
  have HH := Lib.hid H
  have HOK := Lib.hid hok
  have hst := H.lt w s h
  have hb1 := (Below.refl w.heap.size w).alloc (Nat.le_refl _) (.cells #[.iface D (.pointer (some ⟨b, 0, none⟩))] 87)
  have hk0 : KB b B w (w.alloc (.cells #[.iface D (.pointer (some ⟨b, 0, none⟩))] 87)) := KB.of hb1 hst.2
  have hwl : Loc G b B (w.alloc (.cells #[.iface D (.pointer (some ⟨b, 0, none⟩))] 87)) w.heap.size := Loc.new hst.1 hst.2 _ _ (by decide)
  have hbx0 : (w.alloc (.cells #[.iface D (.pointer (some ⟨b, 0, none⟩))] 87)).cell? ⟨w.heap.size, 0, none⟩ = some (.iface D (.pointer (some ⟨b, 0, none⟩))) := (alloc_cell _ _ _ 0).trans rfl
  have hne : w.heap.size ≠ p := by have := hp.2.1; omega
  have hg := Pg.start (W := W) (H.old _ _ _ h hb1) (hf.keep hp hk0) (hp.keep hk0)
  have HPN := Lib.hid hp.1
  have HDL : Hid (([] : List Fld).length = 0) := Lib.hid rfl
  clear hst hb1 H hok h hp hf
  go_enter Try.func33, Try.ntmps33
  go_upto_region 1 with fail
  generalize (w.alloc (.cells #[.iface D (.pointer (some ⟨b, 0, none⟩))] 87)) = w1 at *
  generalize w.heap.size = wb at *
  have HW := Lib.hid hwl
  have HNE := Lib.hid hne
  have HBX := Lib.hid hbx0
  have HK0 := Lib.hid hk0
  have HPL := Lib.hid hg.lo
  have HG := Lib.hid hg
  clear hwl hne hbx0 hk0 hg
  have hbx := (HG.out.box HW.out HNE.out HBX.out).1
  go_wp2_with fail
  refine mixed_region2 (D := (fun w' => w'.cell? ⟨wb, 0, none⟩ = some (.iface D (.pointer (some ⟨b, 0, none⟩))))) [0, 1, 2, 3] [4, 5] 5 (by kernel_rfl) (by kernel_rfl) (by decide) (hbx) ?_
  simp only [List.filterMap_cons, List.filterMap_nil, List.getElem?_cons_zero, List.getElem?_cons_succ]
  repeat (
    (first
     | (refine calm_move _ rfl ?_)
     | (apply calm_cons
        · (intro w' hw'
           first | (obtain ⟨hwa', hwb', hwc'⟩ := hw') | (obtain ⟨hwa', hwb'⟩ := hw') | skip
           go_simp
           first
           | done
           | exact rfl)))
    simp only [Act.put, Act.eval, List.setIfInBounds_toArray, List.set_cons_zero, List.set_cons_succ, Array.getD_eq_getD_getElem?, List.getElem?_toArray, List.getElem?_cons_zero, List.getElem?_cons_succ, Option.getD_some])
  refine calm_nil ?_
  have hst := HH.out.lt _ _ HG.out.st
  have hnb := ((Below.refl w1.heap.size w1).drew.alloc (Nat.le_refl _) (.cells #[.pointer (some ⟨p, o, none⟩)] 89))
  have HG1 := Lib.hid (HG.out.old HH.out hnb)
  have HVA : Hid (Loc G b B (w1.drew.alloc (.cells #[.pointer (some ⟨p, o, none⟩)] 89)) w1.drew.heap.size) := Lib.hid (Loc.new hst.1 hst.2 _ _ (by decide))
  have HNP : Hid (w1.drew.heap.size ≠ p) := Lib.hid (by have := HG.out.lo.2.1; show w1.heap.size ≠ _; omega)
  have HC := Lib.hid (Pg.nums HH.out (l := [er]) HG1.out HOK.out HDL.out w1.drew.heap.size 1 1 HVA.out HNP.out rfl (by omega) (fun i hi => match i, hi with | 0, _ => (alloc_cell _ _ _ 0).trans rfl))
  have HBD : Hid ((w1.drew.alloc (.cells #[.pointer (some ⟨p, o, none⟩)] 89)).cell? ⟨wb, 0, none⟩ = some (.iface D (.pointer (some ⟨b, 0, none⟩)))) := Lib.hid (HG1.out.box HW.out HNE.out HBX.out).1
  clear hbx hnb hst
  refine loud_cons fun K hK => ?_
  go_wp2_with fail
  refine hK _ _ (fun _ => HBD.out) ?_
  clear hK K
  refine loud_cons fun K hK => ?_
  have hbx := HBD.out
  go_wp2_with fail
  refine HC.out.mono ?_
  rintro e w2 ⟨rfl, d2, s2, hd2, hg2⟩
  clear HG HDL HG1 HVA HNP HC HBD hbx
  have HG := Lib.hid hg2
  have HDL := Lib.hid hd2
  clear hg2 hd2
  go_wp2_with fail
  refine hK _ _ (fun hh => absurd rfl hh) ?_
  clear hK K
  refine loud_nil ?_
  have hbx := (HG.out.box HW.out HNE.out HBX.out).1
  go_wp2_with fail
  refine mixed_region2 (D := (fun w' => w'.cell? ⟨wb, 0, none⟩ = some (.iface D (.pointer (some ⟨b, 0, none⟩))))) [0, 1, 2, 3] [4, 5] 5 (by kernel_rfl) (by kernel_rfl) (by decide) (hbx) ?_
  simp only [List.filterMap_cons, List.filterMap_nil, List.getElem?_cons_zero, List.getElem?_cons_succ]
  repeat (
    (first
     | (refine calm_move _ rfl ?_)
     | (apply calm_cons
        · (intro w' hw'
           first | (obtain ⟨hwa', hwb', hwc'⟩ := hw') | (obtain ⟨hwa', hwb'⟩ := hw') | skip
           go_simp
           first
           | done
           | exact rfl)))
    simp only [Act.put, Act.eval, List.setIfInBounds_toArray, List.set_cons_zero, List.set_cons_succ, Array.getD_eq_getD_getElem?, List.getElem?_toArray, List.getElem?_cons_zero, List.getElem?_cons_succ, Option.getD_some])
  refine calm_nil ?_
  have hst := HH.out.lt _ _ HG.out.st
  have hnb := ((Below.refl w2.heap.size w2).drew.alloc (Nat.le_refl _) (.cells #[.pointer (some ⟨p, o + 1, none⟩)] 101))
  have HG1 := Lib.hid (HG.out.old HH.out hnb)
  have HVA : Hid (Loc G b B (w2.drew.alloc (.cells #[.pointer (some ⟨p, o + 1, none⟩)] 101)) w2.drew.heap.size) := Lib.hid (Loc.new hst.1 hst.2 _ _ (by decide))
  have HNP : Hid (w2.drew.heap.size ≠ p) := Lib.hid (by have := HG.out.lo.2.1; show w2.heap.size ≠ _; omega)
  have HC := Lib.hid (Pg.txts HH.out (l := [v]) HG1.out HOK.out HDL.out w2.drew.heap.size 1 1 HVA.out HNP.out rfl (by omega) (fun i hi => match i, hi with | 0, _ => (alloc_cell _ _ _ 0).trans rfl))
  have HBD : Hid ((w2.drew.alloc (.cells #[.pointer (some ⟨p, o + 1, none⟩)] 101)).cell? ⟨wb, 0, none⟩ = some (.iface D (.pointer (some ⟨b, 0, none⟩)))) := Lib.hid (HG1.out.box HW.out HNE.out HBX.out).1
  clear hbx hnb hst
  refine loud_cons fun K hK => ?_
  go_wp2_with fail
  refine hK _ _ (fun _ => HBD.out) ?_
  clear hK K
  refine loud_cons fun K hK => ?_
  have hbx := HBD.out
  go_wp2_with fail
  refine HC.out.mono ?_
  rintro e w3 ⟨rfl, d3, s3, hd2, hg2⟩
  clear HG HDL HG1 HVA HNP HC HBD hbx
  have HG := Lib.hid hg2
  have HDL := Lib.hid hd2
  clear hg2 hd2
  go_wp2_with fail
  refine hK _ _ (fun hh => absurd rfl hh) ?_
  clear hK K
  refine loud_nil ?_
  have hbx := (HG.out.box HW.out HNE.out HBX.out).1
  go_wp2_with fail
  refine mixed_region2 (D := (fun w' => w'.cell? ⟨wb, 0, none⟩ = some (.iface D (.pointer (some ⟨b, 0, none⟩))))) [0, 1, 2, 3] [4] 4 (by kernel_rfl) (by kernel_rfl) (by decide) (hbx) ?_
  simp only [List.filterMap_cons, List.filterMap_nil, List.getElem?_cons_zero, List.getElem?_cons_succ]
  repeat (
    (first
     | (refine calm_move _ rfl ?_)
     | (apply calm_cons
        · (intro w' hw'
           first | (obtain ⟨hwa', hwb', hwc'⟩ := hw') | (obtain ⟨hwa', hwb'⟩ := hw') | skip
           go_simp
           first
           | done
           | exact rfl)))
    simp only [Act.put, Act.eval, List.setIfInBounds_toArray, List.set_cons_zero, List.set_cons_succ, Array.getD_eq_getD_getElem?, List.getElem?_toArray, List.getElem?_cons_zero, List.getElem?_cons_succ, Option.getD_some])
  refine calm_nil ?_
  have HG1 := Lib.hid (HG.out.old HH.out (Below.refl w3.heap.size w3).drew)
  have HC := Lib.hid (HG1.out.flag HH.out HOK.out HDL.out)
  clear hbx
  refine loud_cons fun K hK => ?_
  go_wp2_with fail
  refine HC.out.mono ?_
  rintro e w4 ⟨rfl, d4, s4, hd2, hg2⟩
  clear HG HDL HG1 HC
  have HG := Lib.hid hg2
  have HDL := Lib.hid hd2
  clear hg2 hd2
  go_wp2_with fail
  refine hK _ _ (fun hh => absurd rfl hh) ?_
  clear hK K
  refine loud_nil ?_
  have HG := Lib.hid (HG.out.skip HPL.out)
  have HDL := Lib.hid (show (d4 ++ [Fld.r pv]).length = 3 + 1 by rw [List.length_append, HDL.out]; rfl)
  go_upto_region 6 with fail
  have hbx := (HG.out.box HW.out HNE.out HBX.out).1
  go_wp2_with fail
  refine mixed_region2 (D := (fun w' => w'.cell? ⟨wb, 0, none⟩ = some (.iface D (.pointer (some ⟨b, 0, none⟩))))) [0, 1, 2, 3] [4, 5] 5 (by kernel_rfl) (by kernel_rfl) (by decide) (hbx) ?_
  simp only [List.filterMap_cons, List.filterMap_nil, List.getElem?_cons_zero, List.getElem?_cons_succ]
  repeat (
    (first
     | (refine calm_move _ rfl ?_)
     | (apply calm_cons
        · (intro w' hw'
           first | (obtain ⟨hwa', hwb', hwc'⟩ := hw') | (obtain ⟨hwa', hwb'⟩ := hw') | skip
           go_simp
           first
           | done
           | exact rfl)))
    simp only [Act.put, Act.eval, List.setIfInBounds_toArray, List.set_cons_zero, List.set_cons_succ, Array.getD_eq_getD_getElem?, List.getElem?_toArray, List.getElem?_cons_zero, List.getElem?_cons_succ, Option.getD_some])
  refine calm_nil ?_
  have hst := HH.out.lt _ _ HG.out.st
  have hnb := ((Below.refl w4.heap.size w4).drew.alloc (Nat.le_refl _) (.cells #[.pointer (some ⟨p, o + 4, none⟩)] 101))
  have HG1 := Lib.hid (HG.out.old HH.out hnb)
  have HVA : Hid (Loc G b B (w4.drew.alloc (.cells #[.pointer (some ⟨p, o + 4, none⟩)] 101)) w4.drew.heap.size) := Lib.hid (Loc.new hst.1 hst.2 _ _ (by decide))
  have HNP : Hid (w4.drew.heap.size ≠ p) := Lib.hid (by have := HG.out.lo.2.1; show w4.heap.size ≠ _; omega)
  have HC := Lib.hid (Pg.txts HH.out (l := [u]) HG1.out HOK.out HDL.out w4.drew.heap.size 1 1 HVA.out HNP.out rfl (by omega) (fun i hi => match i, hi with | 0, _ => (alloc_cell _ _ _ 0).trans rfl))
  have HBD : Hid ((w4.drew.alloc (.cells #[.pointer (some ⟨p, o + 4, none⟩)] 101)).cell? ⟨wb, 0, none⟩ = some (.iface D (.pointer (some ⟨b, 0, none⟩)))) := Lib.hid (HG1.out.box HW.out HNE.out HBX.out).1
  clear hbx hnb hst
  refine loud_cons fun K hK => ?_
  go_wp2_with fail
  refine hK _ _ (fun _ => HBD.out) ?_
  clear hK K
  refine loud_cons fun K hK => ?_
  have hbx := HBD.out
  go_wp2_with fail
  refine HC.out.mono ?_
  rintro e w6 ⟨rfl, d6, s6, hd2, hg2⟩
  clear HG HDL HG1 HVA HNP HC HBD hbx
  have HG := Lib.hid hg2
  have HDL := Lib.hid hd2
  clear hg2 hd2
  go_wp2_with fail
  refine hK _ _ (fun hh => absurd rfl hh) ?_
  clear hK K
  refine loud_nil ?_
  go_wp2_with fail
  go_end0
  exact ⟨rfl, HG.out.fin.1, (KB.sets (w := w) (w' := w) p HPN.out _ _ HK0.out).trans HG.out.fin.2⟩
theorem Pg.rep0 (H : WayAt W D b B G At) {er : Int} {v : ByteArray} {g : Bool} {pv : Value} {u : ByteArray} (h : Pg W At G b B w0 p o s0 L done (.n 0 maxN er :: .t v :: .f g :: .r pv :: .t u :: rest) s wr) (hok : W.ok (elemW W s0 L).1) {c : Nat} (hd : done.length = c) :
    Calls Try.prog 33 #[.iface D (.pointer (some ⟨b, 0, none⟩)), .pointer (some ⟨p, o + c, none⟩), .bool false] wr fun e w' => e = .returned (.tuple #[]) ∧ ∃ (d' : List Fld) (s' : σ), d'.length = c + 5 ∧ Pg W At G b B w0 p o s0 L d' rest s' w' := by
  subst hd
  have h1 := h.okAll hok
  have h2 : W.ok (elemW W s [.n 0 maxN er, .t v, .f g, .r pv, .t u]).1 := by
    have := elemW_app (W := W) s [.n 0 maxN er, .t v, .f g, .r pv, .t u] rest
    simp only [List.cons_append, List.nil_append] at this
    rw [this] at h1
    exact elemW_ok h1
  refine (trep0_any H wr s p (o + done.length) er v g pv u h.st h.lo (FAt.app (l := [.n 0 maxN er, .t v, .f g, .r pv, .t u]) (r := rest) h.fa).1 h2).mono ?_
  rintro e w' ⟨rfl, h3, h4⟩
  exact ⟨rfl, done ++ _, _, by rw [List.length_append, elemW_len]; rfl, Pg.step (g := [.n 0 maxN er, .t v, .f g, .r pv, .t u]) (g' := (elemW W s [.n 0 maxN er, .t v, .f g, .r pv, .t u]).2) (s2 := (elemW W s [.n 0 maxN er, .t v, .f g, .r pv, .t u]).1) h rfl h3 h4⟩
set_option maxRecDepth 100000 in
set_option maxHeartbeats 2000000 in
theorem clSeen_any (H : WayAt W D b B G At) (w : World) (s : σ) (p o wb : Nat) (c q : Int) (er : Int) (v : ByteArray) (g : Bool) (pv : Value) (u : ByteArray) (h : At w s) (hp : Loc G b B w p) (hw : Loc G b B w wb) (hne : wb ≠ p) (hb : w.cell? ⟨wb, 0, none⟩ = some (.iface D (.pointer (some ⟨b, 0, none⟩)))) (hf : FAt w p o [.n 0 maxN c, .n 0 maxN q, .n 0 maxN er, .t v, .f g, .r pv, .t u]) (hok : W.ok (elemW W s [.n 0 maxN c, .n 0 maxN q, .n 0 maxN er, .t v, .f g, .r pv, .t u]).1) :
    Calls Try.prog 40 #[.pointer (some ⟨p, o, none⟩), .pointer (some ⟨wb, 0, none⟩)] w fun e w' => e = .returned (.tuple #[]) ∧ At w' (elemW W s [.n 0 maxN c, .n 0 maxN q, .n 0 maxN er, .t v, .f g, .r pv, .t u]).1 ∧ KB b B (w.setCells p o ((elemW W s [.n 0 maxN c, .n 0 maxN q, .n 0 maxN er, .t v, .f g, .r pv, .t u]).2.map Fld.cell)) w' := by
  have HH := Lib.hid H
  have HW := Lib.hid hw
  have HNE := Lib.hid hne
  have HBX := Lib.hid hb
  have HOK := Lib.hid hok
  have HG := Lib.hid (Pg.start (W := W) h hf hp)
  have HDL : Hid (([] : List Fld).length = 0) := Lib.hid rfl
  clear H hw hne hb hok h hf hp
  go_enter Try.func40, Try.ntmps40
  have hbx := (HG.out.box HW.out HNE.out HBX.out).1
  go_wp2_with fail
  refine mixed_region2 (D := (fun w' => w'.cell? ⟨wb, 0, none⟩ = some (.iface D (.pointer (some ⟨b, 0, none⟩))))) [0, 1, 2, 3, 4, 5, 6] [7, 8] 8 (by kernel_rfl) (by kernel_rfl) (by decide) (hbx) ?_
  simp only [List.filterMap_cons, List.filterMap_nil, List.getElem?_cons_zero, List.getElem?_cons_succ]
  repeat (
    (first
     | (refine calm_move _ rfl ?_)
     | (apply calm_cons
        · (intro w' hw'
           first | (obtain ⟨hwa', hwb', hwc'⟩ := hw') | (obtain ⟨hwa', hwb'⟩ := hw') | skip
           go_simp
           first
           | done
           | exact rfl)))
    simp only [Act.put, Act.eval, List.setIfInBounds_toArray, List.set_cons_zero, List.set_cons_succ, Array.getD_eq_getD_getElem?, List.getElem?_toArray, List.getElem?_cons_zero, List.getElem?_cons_succ, Option.getD_some])
  refine calm_nil ?_
  have hst := HH.out.lt _ _ HG.out.st
  have hnb := ((Below.refl w.heap.size w).drew.alloc (Nat.le_refl _) (.cells #[.pointer (some ⟨p, o, none⟩), .pointer (some ⟨p, o + 1, none⟩)] 89))
  have HG1 := Lib.hid (HG.out.old HH.out hnb)
  have HVA : Hid (Loc G b B (w.drew.alloc (.cells #[.pointer (some ⟨p, o, none⟩), .pointer (some ⟨p, o + 1, none⟩)] 89)) w.drew.heap.size) := Lib.hid (Loc.new hst.1 hst.2 _ _ (by decide))
  have HNP : Hid (w.drew.heap.size ≠ p) := Lib.hid (by have := HG.out.lo.2.1; show w.heap.size ≠ _; omega)
  have HC := Lib.hid (Pg.nums HH.out (l := [c, q]) HG1.out HOK.out HDL.out w.drew.heap.size 2 2 HVA.out HNP.out rfl (by omega) (fun i hi => match i, hi with | 0, _ => (alloc_cell _ _ _ 0).trans rfl | 1, _ => (alloc_cell _ _ _ 1).trans rfl))
  have HBD : Hid ((w.drew.alloc (.cells #[.pointer (some ⟨p, o, none⟩), .pointer (some ⟨p, o + 1, none⟩)] 89)).cell? ⟨wb, 0, none⟩ = some (.iface D (.pointer (some ⟨b, 0, none⟩)))) := Lib.hid (HG1.out.box HW.out HNE.out HBX.out).1
  clear hbx hnb hst
  refine loud_cons fun K hK => ?_
  go_wp2_with fail
  refine hK _ _ (fun _ => HBD.out) ?_
  clear hK K
  refine loud_cons fun K hK => ?_
  have hbx := HBD.out
  go_wp2_with fail
  refine HC.out.mono ?_
  rintro e w2 ⟨rfl, d2, s2, hd2, hg2⟩
  clear HG HDL HG1 HVA HNP HC HBD hbx
  have HG := Lib.hid hg2
  have HDL := Lib.hid hd2
  clear hg2 hd2
  go_wp2_with fail
  refine hK _ _ (fun hh => absurd rfl hh) ?_
  clear hK K
  refine loud_nil ?_
  have hbx := (HG.out.box HW.out HNE.out HBX.out).1
  go_wp2_with fail
  refine mixed_region2 (D := (fun w' => w'.cell? ⟨wb, 0, none⟩ = some (.iface D (.pointer (some ⟨b, 0, none⟩))))) [0, 1, 2, 3] [4] 4 (by kernel_rfl) (by kernel_rfl) (by decide) (hbx) ?_
  simp only [List.filterMap_cons, List.filterMap_nil, List.getElem?_cons_zero, List.getElem?_cons_succ]
  repeat (
    (first
     | (refine calm_move _ rfl ?_)
     | (apply calm_cons
        · (intro w' hw'
           first | (obtain ⟨hwa', hwb', hwc'⟩ := hw') | (obtain ⟨hwa', hwb'⟩ := hw') | skip
           go_simp
           first
           | done
           | exact rfl)))
    simp only [Act.put, Act.eval, List.setIfInBounds_toArray, List.set_cons_zero, List.set_cons_succ, Array.getD_eq_getD_getElem?, List.getElem?_toArray, List.getElem?_cons_zero, List.getElem?_cons_succ, Option.getD_some])
  refine calm_nil ?_
  have HG1 := Lib.hid (HG.out.old HH.out (Below.refl w2.heap.size w2).drew)
  have HC := Lib.hid (HG1.out.rep0 HH.out HOK.out HDL.out)
  clear hbx
  refine loud_cons fun K hK => ?_
  go_wp2_with fail
  refine HC.out.mono ?_
  rintro e w3 ⟨rfl, d3, s3, hd2, hg2⟩
  clear HG HDL HG1 HC
  have HG := Lib.hid hg2
  have HDL := Lib.hid hd2
  clear hg2 hd2
  go_wp2_with fail
  refine hK _ _ (fun hh => absurd rfl hh) ?_
  clear hK K
  refine loud_nil ?_
  go_wp2_with fail
  go_end0
  exact ⟨rfl, HG.out.fin⟩
end
end Go.Proofs.Ytdnhmkfgcpdbkaa
namespace Go.Proofs.Ytdnhmkfgcpdbkaa
open Go.RowKit
set_option linter.unusedVariables false
set_option linter.unusedSimpArgs false
section
variable {σ : Type} {W : Way σ} {D b B : Nat} {G : Prop} {At : World → σ → Prop}
def elsW (W : Way σ) (s : σ) (L : List (List Fld)) : σ × List (List Fld) := stepsW (elemW W) s L
/-- A list's elements, behind their number, which may be another one: then they are new. -/
def listW (W : Way σ) (zero : List Fld) (most : Nat) (s : σ) (L : List (List Fld)) : σ × List (List Fld) :=
  elsW W (W.num s 0 most L.length).1 (if (W.num s 0 most L.length).2 = L.length then L else List.replicate (W.num s 0 most L.length).2.toNat zero)
theorem elsW_ok {s : σ} {L : List (List Fld)} (h : W.ok (elsW W s L).1) : W.ok s := stepsW_ok (f := elemW W) (ok := W.ok) (fun _ _ hh => elemW_ok hh) L s h
theorem elsW_len (s : σ) (L : List (List Fld)) : (elsW W s L).2.length = L.length := stepsW_len _ _ _
def RowAt (w : World) (p o sz : Nat) (L : List (List Fld)) : Prop := ∀ i (h : i < L.length), FAt w p (o + i * sz) L[i]
/-- What a list's call leaves: its slice, and what it leads to. -/
def LPost (At : World → σ → Prop) (G : Prop) (b B : Nat) (w : World) (p o sz : Nat) (t : σ × List (List Fld)) (w' : World) : Prop := ∃ a' n' c', At w' t.1 ∧ KB b B (w.setCell ⟨p, o, none⟩ (.slice a' n' c')) w' ∧ t.2.length = n' ∧ (t.2 = [] ∨ ∃ rb ro, a' = some ⟨rb, ro, none⟩ ∧ Loc G b B w' rb ∧ rb ≠ p ∧ RowAt w' rb ro sz t.2)
theorem RowAt.keep {w w' : World} {p o sz : Nat} {L : List (List Fld)} (h : RowAt w p o sz L) (hp : Loc G b B w p) (hk : KB b B w w') : RowAt w' p o sz L := fun i hi => (h i hi).keep hp hk
theorem FAt.out {w : World} {p o x y : Nat} {l : List Fld} {vs : List Value} (h : FAt w p o l) (hd : p ≠ x ∨ o + l.length ≤ y ∨ y + vs.length ≤ o) : FAt (w.setCells x y vs) p o l := fun i hi => by
  rw [World.cell?_setCells_out _ _ _ _ _ (fun e _ => ?_)]
  · exact h i hi
  · simp only at e ⊢
    rcases hd with hd | hd | hd
    · exact absurd e hd
    · exact .inl (by omega)
    · exact .inr (by omega)
theorem FAt.ins {w : World} {p o : Nat} {l l' : List Fld} (h : FAt w p o l) (hl : l'.length = l.length) : FAt (w.setCells p o (l'.map Fld.cell)) p o l' := fun i hi => by
  rw [World.cell?_setCells_in p (l'.map Fld.cell) o w (fun j hj => by rw [h j (by simpa [hl] using hj)]; rfl) i (by simpa using hi)]
  simp
theorem sets_same {w : World} {p : Nat} : ∀ {l : List Fld} {o : Nat}, FAt w p o l → w.setCells p o (l.map Fld.cell) = w
  | [], _, _ => rfl
  | x :: r, o, h => by
    have h0 := h 0 (by simp)
    show (w.setCell ⟨p, o, none⟩ x.cell).setCells p (o + 1) (r.map Fld.cell) = w
    rw [set_same (by simpa using h0)]
    exact sets_same (fun i hi => by
      have := h (i + 1) (by simpa using hi)
      rw [show o + 1 + i = o + (i + 1) by omega]
      simpa using this)
theorem stepF_g (H : WayAt W D b B G At) (hG : G) (s : σ) (x : Fld) : (stepF W s x).2 = x := by
  cases x with
  | n lo hi x => show Fld.n lo hi _ = _; rw [H.gnum hG]
  | t x => show Fld.t _ = _; rw [H.gtxt hG]
  | f x => show Fld.f (decide (_ = 1)) = _; rw [H.gnum hG]; cases x <;> rfl
  | r v => rfl
theorem elemW_g (H : WayAt W D b B G At) (hG : G) : ∀ (l : List Fld) (s : σ), (elemW W s l).2 = l
  | [], _ => rfl
  | x :: r, s => by
    show (stepF W s x).2 :: (elemW W (stepF W s x).1 r).2 = _
    rw [stepF_g H hG, elemW_g H hG r]
theorem sets_fresh {w : World} {rb : Nat} : ∀ (l : List Value) (o : Nat) {wr : World}, KB b B w wr → w.heap.size ≤ rb → B ≤ rb → KB b B w (wr.setCells rb o l)
  | [], _, _, h, _, _ => h
  | v :: r, o, wr, h, h1, h2 => by
    refine sets_fresh r (o + 1) (wr := wr.setCell ⟨rb, o, none⟩ v) ⟨⟨fun x cs T fr hx hc hT => ?_, by simpa using h.size⟩, h.l.setCell (p := ⟨rb, o, none⟩) h2 v⟩ h1 h2
    have hlt := heap_lt hc
    rw [Below.heap_setCell _ _ _ _ (by show x ≠ rb; omega)]
    exact h.t.1 x cs T fr hx hc hT
theorem row_mid {w : World} {p o sz k : Nat} {x : List Fld} {d R : List (List Fld)} (h : RowAt w p o sz (d ++ x :: R)) (hd : d.length = k) : FAt w p (o + k * sz) x := by
  subst hd
  have := h d.length (by simp)
  simpa using this
/-- One element more of a row. -/
theorem Row.step (H : WayAt W D b B G At) {base wr w2 : World} {rb ro sz k : Nat} {s : σ} {x : List Fld} {d R : List (List Fld)} (hG : G ∨ base.heap.size ≤ rb) (hB : ¬ G → B ≤ rb) (hk : KB b B base wr) (hrow : RowAt wr rb ro sz (d ++ x :: R)) (hd : d.length = k) (hsz : ∀ y ∈ d ++ x :: R, y.length = sz)
    (hl : Loc G b B wr rb) (h2 : KB b B (wr.setCells rb (ro + k * sz) ((elemW W s x).2.map Fld.cell)) w2) : KB b B base w2 ∧ RowAt w2 rb ro sz (d ++ (elemW W s x).2 :: R) ∧ Loc G b B w2 rb := by
  subst hd
  have hx : FAt wr rb (ro + d.length * sz) x := by
    have := hrow d.length (by simp)
    simpa using this
  have hls := Loc.sets rb ((elemW W s x).2.map Fld.cell) (ro + d.length * sz) wr hl
  refine ⟨?_, ?_, hls.keep h2⟩
  · by_cases g : G
    · have e : wr.setCells rb (ro + d.length * sz) ((elemW W s x).2.map Fld.cell) = wr := by rw [elemW_g H g]; exact sets_same hx
      rw [e] at h2
      exact hk.trans h2
    · exact (sets_fresh _ _ hk (hG.resolve_left g) (hB g)).trans h2
  · refine RowAt.keep (w := wr.setCells rb (ro + d.length * sz) ((elemW W s x).2.map Fld.cell)) ?_ hls h2
    have hxl : x.length = sz := hsz x (by simp)
    intro i hi
    by_cases e : i = d.length
    · subst e
      simp only [List.getElem_append_right (Nat.le_refl _), Nat.sub_self, List.getElem_cons_zero]
      exact hx.ins (elemW_len _ _)
    · have hil : i < (d ++ x :: R).length := by simpa using hi
      have e2 : (d ++ (elemW W s x).2 :: R)[i] = (d ++ x :: R)[i] := by
        by_cases q : i < d.length
        · rw [List.getElem_append_left q, List.getElem_append_left q]
        · obtain ⟨j, rfl⟩ : ∃ j, i = d.length + (j + 1) := ⟨i - d.length - 1, by omega⟩
          rw [List.getElem_append_right (by omega), List.getElem_append_right (by omega)]
          simp
      rw [e2]
      refine (hrow i hil).out (.inr ?_)
      have hyl : ((d ++ x :: R)[i]).length = sz := hsz _ (List.getElem_mem hil)
      rw [hyl, List.length_map, elemW_len, hxl]
      rcases Nat.lt_or_ge i d.length with q | q
      · left
        have : (i + 1) * sz ≤ d.length * sz := Nat.mul_le_mul_right _ q
        rw [Nat.add_mul] at this; omega
      · right
        have : (d.length + 1) * sz ≤ i * sz := Nat.mul_le_mul_right _ (by omega)
        rw [Nat.add_mul] at this; omega
theorem made_row (w : World) (Z : Array Value) (T : TypeId) (n sz : Nat) (zero : List Fld) (hz : Z.toList = zero.map Fld.cell) (hl : zero.length = sz) (h0 : 0 < sz) : RowAt (w.alloc (.cells (madeCells Z (n * sz)) T)) w.heap.size 0 sz (List.replicate n zero) := by
  intro i hi j hj
  have hin : i < n := by simpa using hi
  have e : (List.replicate n zero)[i] = zero := by simp
  simp only [e] at hj ⊢
  rw [Nat.zero_add, alloc_cell]
  have hlt : i * sz + j < n * sz := by
    have : (i + 1) * sz ≤ n * sz := Nat.mul_le_mul_right _ hin
    rw [Nat.add_mul] at this; omega
  have hZ : Z.size = sz := by rw [← Array.length_toList, hz, List.length_map, hl]
  unfold madeCells
  rw [Array.getElem?_map, Array.getElem?_range, if_pos hlt]
  simp only [Option.map_some, hZ]
  rw [Nat.mul_add_mod', Nat.mod_eq_of_lt (by omega)]
  congr 1
  have : Z[j]? = some zero[j].cell := by
    rw [← Array.getElem?_toList, hz]; simp [hj]
  rw [Array.getElem!_eq_getD, Array.getD_eq_getD_getElem?, this]
  rfl
end
end Go.Proofs.Ytdnhmkfgcpdbkaa
