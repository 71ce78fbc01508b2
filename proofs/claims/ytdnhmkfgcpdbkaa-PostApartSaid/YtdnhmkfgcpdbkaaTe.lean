/-
  Layer 16 (post): fields that lie one behind the other, and how a way goes over them. Conditions: as each says.
-/
import Derived.Test.YtdnhmkfgcpdbkaaTd
namespace Go.Proofs.Ytdnhmkfgcpdbkaa
open Go.RowKit
set_option linter.unusedVariables false
set_option linter.unusedSimpArgs false

/-- A field: a number (least, most, it), a text, what is true or false, or one that is left alone. -/
inductive Fld where
  | n (lo hi x : Int)
  | t (x : ByteArray)
  | f (x : Bool)
  | r (v : Value)
def Fld.cell : Fld → Value
  | .n _ _ x => .int .i64 x
  | .t x => .string x
  | .f x => .bool x
  | .r v => v
section
variable {σ : Type} {W : Way σ} {D b B : Nat} {G : Prop} {At : World → σ → Prop}
def stepF (W : Way σ) (s : σ) : Fld → σ × Fld
  | .n lo hi x => ((W.num s lo hi x).1, .n lo hi (W.num s lo hi x).2)
  | .t x => ((W.txt s x).1, .t (W.txt s x).2)
  | .f x => ((flagW W s x).1, .f (flagW W s x).2)
  | .r v => (s, .r v)
def elemW (W : Way σ) (s : σ) (l : List Fld) : σ × List Fld := stepsW (stepF W) s l
theorem stepF_ok (W : Way σ) (s : σ) (x : Fld) (h : W.ok (stepF W s x).1) : W.ok s := by
  cases x with
  | n lo hi x => exact W.mono _ _ _ _ h
  | t x => exact W.monot _ _ h
  | f x => exact W.mono _ _ _ _ h
  | r v => exact h
theorem elemW_ok {s : σ} {l : List Fld} (h : W.ok (elemW W s l).1) : W.ok s := stepsW_ok (fun s x hh => stepF_ok W s x hh) l s h
theorem elemW_len (s : σ) (l : List Fld) : (elemW W s l).2.length = l.length := stepsW_len _ _ _
theorem elemW_app (s : σ) : ∀ (l r : List Fld), elemW W s (l ++ r) = ((elemW W (elemW W s l).1 r).1, (elemW W s l).2 ++ (elemW W (elemW W s l).1 r).2)
  | [], r => rfl
  | x :: l, r => by
    have := elemW_app (stepF W s x).1 l r
    unfold elemW at this ⊢
    simp only [List.cons_append, stepsW]
    rw [this]
theorem elemW_nums (s : σ) : ∀ (l : List Int), elemW W s (l.map (Fld.n 0 maxN)) = ((numsW W s l).1, (numsW W s l).2.map (Fld.n 0 maxN))
  | [] => rfl
  | x :: l => by
    have := elemW_nums (W.num s 0 maxN x).1 l
    unfold elemW numsW at this ⊢
    simp only [List.map_cons, stepsW, stepF]
    rw [this]
theorem elemW_txts (s : σ) : ∀ (l : List ByteArray), elemW W s (l.map Fld.t) = ((txtsW W s l).1, (txtsW W s l).2.map Fld.t)
  | [] => rfl
  | x :: l => by
    have := elemW_txts (W.txt s x).1 l
    unfold elemW txtsW at this ⊢
    simp only [List.map_cons, stepsW, stepF]
    rw [this]
/-- Fields one behind the other from a place on. -/
def FAt (w : World) (p o : Nat) (l : List Fld) : Prop := ∀ i (h : i < l.length), w.cell? ⟨p, o + i, none⟩ = some l[i].cell
theorem FAt.app {w : World} {p o : Nat} {l r : List Fld} (h : FAt w p o (l ++ r)) : FAt w p o l ∧ FAt w p (o + l.length) r := by
  refine ⟨fun i hi => ?_, fun i hi => ?_⟩
  · have := h i (by simp; omega)
    rw [List.getElem_append_left hi] at this
    exact this
  · have := h (l.length + i) (by simp; omega)
    rw [List.getElem_append_right (by omega)] at this
    simp only [Nat.add_sub_cancel_left] at this
    rw [Nat.add_assoc]
    exact this
theorem FAt.mk {w : World} {p o : Nat} {l r : List Fld} (h : FAt w p o l) (h2 : FAt w p (o + l.length) r) : FAt w p o (l ++ r) := fun i hi => by
  by_cases q : i < l.length
  · rw [List.getElem_append_left q]; exact h i q
  · rw [List.getElem_append_right (by omega)]
    have := h2 (i - l.length) (by simp at hi; omega)
    rw [Nat.add_assoc, show l.length + (i - l.length) = i by omega] at this
    exact this
theorem FAt.keep {w w' : World} {p o : Nat} {l : List Fld} (h : FAt w p o l) (hp : Loc G b B w p) (hk : KB b B w w') : FAt w' p o l := fun i hi => (hp.cell hk _).trans (h i hi)
theorem KB.sets {w w' : World} (p : Nat) (hp : p ≠ b) : ∀ (l : List Value) (o : Nat) {w w' : World}, KB b B w w' → KB b B (w.setCells p o l) (w'.setCells p o l)
  | [], _, _, _, h => h
  | v :: r, o, _, _, h => KB.sets (w := w) (w' := w') p hp r (o + 1) (h.set ⟨p, o, none⟩ v hp)
theorem setCells_app (p : Nat) : ∀ (l r : List Value) (o : Nat) (w : World), w.setCells p o (l ++ r) = (w.setCells p o l).setCells p (o + l.length) r
  | [], r, o, w => rfl
  | v :: l, r, o, w => by
    show (w.setCell ⟨p, o, none⟩ v).setCells p (o + 1) (l ++ r) = ((w.setCell ⟨p, o, none⟩ v).setCells p (o + 1) l).setCells p (o + (l.length + 1)) r
    rw [setCells_app p l r, show o + 1 + l.length = o + (l.length + 1) by omega]
theorem at_sets {s : σ} (H : WayAt W D b B G At) (p : Nat) : ∀ (l : List Value) (o : Nat) (w : World), Loc G b B w p → At w s → At (w.setCells p o l) s
  | [], _, _, _, h => h
  | v :: r, o, w, hp, h => at_sets H p r (o + 1) _ (hp.set ⟨p, o, none⟩ v) (H.set w s p o v h hp)
/-- How far a way has gone over the fields L from a place on: done, as they are now; rest. -/
structure Pg (W : Way σ) (At : World → σ → Prop) (G : Prop) (b B : Nat) (w0 : World) (p o : Nat) (s0 : σ) (L : List Fld) (done rest : List Fld) (s : σ) (wr : World) : Prop where
  st : At wr s
  kb : KB b B (w0.setCells p o (done.map Fld.cell)) wr
  fa : FAt wr p (o + done.length) rest
  lo : Loc G b B wr p
  eq : elemW W s0 L = ((elemW W s rest).1, done ++ (elemW W s rest).2)
variable {w0 wr w' : World} {p o : Nat} {s0 s : σ} {L done rest : List Fld}
theorem Pg.start (h : At w0 s0) (hf : FAt w0 p o L) (hp : Loc G b B w0 p) : Pg W At G b B w0 p o s0 L [] L s0 w0 := ⟨h, KB.refl _ _ _, by simpa using hf, hp, by simp⟩
theorem Pg.old (H : WayAt W D b B G At) (h : Pg W At G b B w0 p o s0 L done rest s wr) (hb : Below wr.heap.size wr w') : Pg W At G b B w0 p o s0 L done rest s w' := by
  have hk : KB b B wr w' := KB.of hb (H.lt wr s h.st).2
  exact ⟨H.old _ _ _ h.st hb, h.kb.trans hk, h.fa.keep h.lo hk, h.lo.keep hk, h.eq⟩
theorem Pg.okAll (h : Pg W At G b B w0 p o s0 L done rest s wr) (hok : W.ok (elemW W s0 L).1) : W.ok (elemW W s rest).1 := by rw [h.eq] at hok; exact hok
/-- One group of fields more. -/
theorem Pg.step {g g' : List Fld} {s2 : σ} {w2 : World} (h : Pg W At G b B w0 p o s0 L done (g ++ rest) s wr) (he : elemW W s g = (s2, g')) (h2 : At w2 s2) (hk : KB b B (wr.setCells p (o + done.length) (g'.map Fld.cell)) w2) :
    Pg W At G b B w0 p o s0 L (done ++ g') rest s2 w2 := by
  have hl : g'.length = g.length := by rw [← elemW_len (W := W) s g, he]
  obtain ⟨f1, f2⟩ := h.fa.app
  have hls := Loc.sets p (g'.map Fld.cell) (o + done.length) wr h.lo
  refine ⟨h2, ?_, ?_, hls.keep hk, ?_⟩
  · rw [List.map_append, setCells_app, List.length_map]
    exact (KB.sets (w := wr) (w' := wr) p h.lo.1 (g'.map Fld.cell) (o + done.length) h.kb).trans hk
  · refine FAt.keep (w := wr.setCells p (o + done.length) (g'.map Fld.cell)) ?_ hls hk
    intro i hi
    rw [World.cell?_setCells_out _ _ _ _ _ (fun _ _ => .inr (by simp [hl]; omega))]
    have := f2 i hi
    rw [List.length_append, hl]
    rw [show o + (done.length + g.length) + i = o + done.length + g.length + i by omega]
    exact this
  · rw [h.eq, elemW_app, he]
    simp
theorem Pg.nums (H : WayAt W D b B G At) {l : List Int} (h : Pg W At G b B w0 p o s0 L done (l.map (Fld.n 0 maxN) ++ rest) s wr) (hok : W.ok (elemW W s0 L).1) {c : Nat} (hd : done.length = c) (va n cap : Nat) (hv : Loc G b B wr va) (hvp : va ≠ p) (hn : l.length = n) (hm : n ≤ 1000)
    (hs : ∀ i, i < n → wr.cell? ⟨va, i, none⟩ = some (.pointer (some ⟨p, o + c + i, none⟩))) :
    Calls Try.prog 30 #[.iface D (.pointer (some ⟨b, 0, none⟩)), .slice (some ⟨va, 0, none⟩) n cap] wr fun e w' => e = .returned (.tuple #[]) ∧ ∃ (d' : List Fld) (s' : σ), d'.length = c + n ∧ Pg W At G b B w0 p o s0 L d' rest s' w' := by
  subst hd
  have h1 := h.okAll hok
  rw [elemW_app] at h1
  have h2 := elemW_ok h1
  rw [elemW_nums] at h2
  refine (tnums_any H wr s va n cap p (o + done.length) l h.st h.lo hv hvp hn hm (fun i hi => ?_) hs h2).mono ?_
  · have := h.fa.app.1 i (by simpa using hi)
    simpa [Fld.cell] using this
  · rintro e w' ⟨rfl, h3, h4⟩
    refine ⟨rfl, done ++ (numsW W s l).2.map (Fld.n 0 maxN), (numsW W s l).1, by rw [List.length_append, List.length_map, ← hn]; congr 1; exact stepsW_len _ _ _, h.step (elemW_nums s l) h3 ?_⟩
    rw [List.map_map]
    exact h4
theorem Pg.txts (H : WayAt W D b B G At) {l : List ByteArray} (h : Pg W At G b B w0 p o s0 L done (l.map Fld.t ++ rest) s wr) (hok : W.ok (elemW W s0 L).1) {c : Nat} (hd : done.length = c) (va n cap : Nat) (hv : Loc G b B wr va) (hvp : va ≠ p) (hn : l.length = n) (hm : n ≤ 1000)
    (hs : ∀ i, i < n → wr.cell? ⟨va, i, none⟩ = some (.pointer (some ⟨p, o + c + i, none⟩))) :
    Calls Try.prog 36 #[.iface D (.pointer (some ⟨b, 0, none⟩)), .slice (some ⟨va, 0, none⟩) n cap] wr fun e w' => e = .returned (.tuple #[]) ∧ ∃ (d' : List Fld) (s' : σ), d'.length = c + n ∧ Pg W At G b B w0 p o s0 L d' rest s' w' := by
  subst hd
  have h1 := h.okAll hok
  rw [elemW_app] at h1
  have h2 := elemW_ok h1
  rw [elemW_txts] at h2
  refine (ttxts_any H wr s va n cap p (o + done.length) l h.st h.lo hv hvp hn hm (fun i hi => ?_) hs h2).mono ?_
  · have := h.fa.app.1 i (by simpa using hi)
    simpa [Fld.cell] using this
  · rintro e w' ⟨rfl, h3, h4⟩
    refine ⟨rfl, done ++ (txtsW W s l).2.map Fld.t, (txtsW W s l).1, by rw [List.length_append, List.length_map, ← hn]; congr 1; exact stepsW_len _ _ _, h.step (elemW_txts s l) h3 ?_⟩
    rw [List.map_map]
    exact h4
theorem Pg.flag (H : WayAt W D b B G At) {x : Bool} (h : Pg W At G b B w0 p o s0 L done (Fld.f x :: rest) s wr) (hok : W.ok (elemW W s0 L).1) {c : Nat} (hd : done.length = c) :
    Calls Try.prog 31 #[.iface D (.pointer (some ⟨b, 0, none⟩)),   .pointer (some ⟨p, o + c, none⟩)] wr fun e w' => e = .returned (.tuple #[]) ∧ ∃ (d' : List Fld) (s' : σ), d'.length = c + 1 ∧ Pg W At G b B w0 p o s0 L d' rest s' w' := by
  subst hd
  have h1 := h.okAll hok
  have h2 : W.ok (flagW W s x).1 := elemW_ok (l := rest) h1
  refine (tflag_any H wr s p (o + done.length) x h.st h.lo (by have := h.fa 0 (by simp); simpa [Fld.cell] using this) h2).mono ?_
  rintro e w' ⟨rfl, h3, h4⟩
  exact ⟨rfl, done ++ [Fld.f (flagW W s x).2], _, by simp, Pg.step (g := [Fld.f x]) (g' := [Fld.f (flagW W s x).2]) (s2 := (flagW W s x).1) h rfl h3 h4⟩
theorem Pg.fin (h : Pg W At G b B w0 p o s0 L done [] s wr) : At wr (elemW W s0 L).1 ∧ KB b B (w0.setCells p o ((elemW W s0 L).2.map Fld.cell)) wr := by
  have e := h.eq
  simp only [elemW, stepsW, List.append_nil] at e
  rw [show elemW W s0 L = (s, done) from e]
  exact ⟨h.st, h.kb⟩
theorem Pg.box (h : Pg W At G b B w0 p o s0 L done rest s wr) {wb : Nat} {v : Value} (hw : Loc G b B w0 wb) (hwp : wb ≠ p) (hv : w0.cell? ⟨wb, 0, none⟩ = some v) : wr.cell? ⟨wb, 0, none⟩ = some v ∧ Loc G b B wr wb := by
  have hl := Loc.sets p (done.map Fld.cell) o w0 hw
  refine ⟨(hl.cell h.kb 0).trans ((World.cell?_setCells_out _ _ _ _ _ (fun e _ => absurd e hwp)).trans hv), hl.keep h.kb⟩
end
end Go.Proofs.Ytdnhmkfgcpdbkaa
