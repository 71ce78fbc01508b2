/-
  Layer 16 (post): rows of elements, and how a way goes over them. Conditions: as each says.
-/
import Derived.Test.YtdnhmkfgcpdbkaaTh
import Derived.Laws.MakeOwn
namespace Go.Proofs.Ytdnhmkfgcpdbkaa
open Go.RowKit
set_option linter.unusedVariables false
set_option linter.unusedSimpArgs false
section
variable {σ : Type} {W : Way σ} {D b B : Nat} {G : Prop} {At : World → σ → Prop}
def elsW (W : Way σ) (s : σ) (L : List (List Fld)) : σ × List (List Fld) := stepsW (elemW W) s L
/-- A list's elements, behind their number, which may be another one: then they are new. -/
def listW (W : Way σ) (zero : List Fld) (most : Nat) (s : σ) (L : List (List Fld)) : σ × List (List Fld) :=
  elsW W (W.num s 0 most L.length).1 (if (W.num s 0 most L.length).2 = L.length then L else List.replicate (W.num s 0 most L.length).2.toNat zero)
theorem elsW_ok {s : σ} {L : List (List Fld)} (h : W.ok (elsW W s L).1) : W.ok s := stepsW_ok (f := elemW W) (ok := W.ok) (fun _ _ hh => elemW_ok hh) L s h
theorem elsW_len (s : σ) (L : List (List Fld)) : (elsW W s L).2.length = L.length := stepsW_len _ _ _
def RowAt (w : World) (p o sz : Nat) (L : List (List Fld)) : Prop := ∀ i (h : i < L.length), FAt w p (o + i * sz) L[i]
/-- What a list's call leaves: its slice, and what it leads to. -/
def LPost (At : World → σ → Prop) (G : Prop) (b B : Nat) (w : World) (p o sz : Nat) (t : σ × List (List Fld)) (w' : World) : Prop := ∃ a' n' c', At w' t.1 ∧ KB b B (w.setCell ⟨p, o, none⟩ (.slice a' n' c')) w' ∧ t.2.length = n' ∧ (t.2 = [] ∨ ∃ rb ro, a' = some ⟨rb, ro, none⟩ ∧ Loc G b B w' rb ∧ rb ≠ p ∧ RowAt w' rb ro sz t.2)
theorem RowAt.keep {w w' : World} {p o sz : Nat} {L : List (List Fld)} (h : RowAt w p o sz L) (hp : Loc G b B w p) (hk : KB b B w w') : RowAt w' p o sz L := fun i hi => (h i hi).keep hp hk
theorem FAt.out {w : World} {p o x y : Nat} {l : List Fld} {vs : List Value} (h : FAt w p o l) (hd : p ≠ x ∨ o + l.length ≤ y ∨ y + vs.length ≤ o) : FAt (w.setCells x y vs) p o l := fun i hi => by
  rw [World.cell?_setCells_out _ _ _ _ _ (fun e _ => ?_)]
  · exact h i hi
  · simp only at e ⊢
    rcases hd with hd | hd | hd
    · exact absurd e hd
    · exact .inl (by omega)
    · exact .inr (by omega)
theorem FAt.ins {w : World} {p o : Nat} {l l' : List Fld} (h : FAt w p o l) (hl : l'.length = l.length) : FAt (w.setCells p o (l'.map Fld.cell)) p o l' := fun i hi => by
  rw [World.cell?_setCells_in p (l'.map Fld.cell) o w (fun j hj => by rw [h j (by simpa [hl] using hj)]; rfl) i (by simpa using hi)]
  simp
theorem sets_same {w : World} {p : Nat} : ∀ {l : List Fld} {o : Nat}, FAt w p o l → w.setCells p o (l.map Fld.cell) = w
  | [], _, _ => rfl
  | x :: r, o, h => by
    have h0 := h 0 (by simp)
    show (w.setCell ⟨p, o, none⟩ x.cell).setCells p (o + 1) (r.map Fld.cell) = w
    rw [set_same (by simpa using h0)]
    exact sets_same (fun i hi => by
      have := h (i + 1) (by simpa using hi)
      rw [show o + 1 + i = o + (i + 1) by omega]
      simpa using this)
theorem stepF_g (H : WayAt W D b B G At) (hG : G) (s : σ) (x : Fld) : (stepF W s x).2 = x := by
  cases x with
  | n lo hi x => show Fld.n lo hi _ = _; rw [H.gnum hG]
  | t x => show Fld.t _ = _; rw [H.gtxt hG]
  | f x => show Fld.f (decide (_ = 1)) = _; rw [H.gnum hG]; cases x <;> rfl
  | r v => rfl
theorem elemW_g (H : WayAt W D b B G At) (hG : G) : ∀ (l : List Fld) (s : σ), (elemW W s l).2 = l
  | [], _ => rfl
  | x :: r, s => by
    show (stepF W s x).2 :: (elemW W (stepF W s x).1 r).2 = _
    rw [stepF_g H hG, elemW_g H hG r]
theorem sets_fresh {w : World} {rb : Nat} : ∀ (l : List Value) (o : Nat) {wr : World}, KB b B w wr → w.heap.size ≤ rb → B ≤ rb → KB b B w (wr.setCells rb o l)
  | [], _, _, h, _, _ => h
  | v :: r, o, wr, h, h1, h2 => by
    refine sets_fresh r (o + 1) (wr := wr.setCell ⟨rb, o, none⟩ v) ⟨⟨fun x cs T fr hx hc hT => ?_, by simpa using h.size⟩, h.l.setCell (p := ⟨rb, o, none⟩) h2 v⟩ h1 h2
    have hlt := heap_lt hc
    rw [Below.heap_setCell _ _ _ _ (by show x ≠ rb; omega)]
    exact h.t.1 x cs T fr hx hc hT
theorem row_mid {w : World} {p o sz k : Nat} {x : List Fld} {d R : List (List Fld)} (h : RowAt w p o sz (d ++ x :: R)) (hd : d.length = k) : FAt w p (o + k * sz) x := by
  subst hd
  have := h d.length (by simp)
  simpa using this
/-- One element more of a row. -/
theorem Row.step (H : WayAt W D b B G At) {base wr w2 : World} {rb ro sz k : Nat} {s : σ} {x : List Fld} {d R : List (List Fld)} (hG : G ∨ base.heap.size ≤ rb) (hB : ¬ G → B ≤ rb) (hk : KB b B base wr) (hrow : RowAt wr rb ro sz (d ++ x :: R)) (hd : d.length = k) (hsz : ∀ y ∈ d ++ x :: R, y.length = sz)
    (hl : Loc G b B wr rb) (h2 : KB b B (wr.setCells rb (ro + k * sz) ((elemW W s x).2.map Fld.cell)) w2) : KB b B base w2 ∧ RowAt w2 rb ro sz (d ++ (elemW W s x).2 :: R) ∧ Loc G b B w2 rb := by
  subst hd
  have hx : FAt wr rb (ro + d.length * sz) x := by
    have := hrow d.length (by simp)
    simpa using this
  have hls := Loc.sets rb ((elemW W s x).2.map Fld.cell) (ro + d.length * sz) wr hl
  refine ⟨?_, ?_, hls.keep h2⟩
  · by_cases g : G
    · have e : wr.setCells rb (ro + d.length * sz) ((elemW W s x).2.map Fld.cell) = wr := by rw [elemW_g H g]; exact sets_same hx
      rw [e] at h2
      exact hk.trans h2
    · exact (sets_fresh _ _ hk (hG.resolve_left g) (hB g)).trans h2
  · refine RowAt.keep (w := wr.setCells rb (ro + d.length * sz) ((elemW W s x).2.map Fld.cell)) ?_ hls h2
    have hxl : x.length = sz := hsz x (by simp)
    intro i hi
    by_cases e : i = d.length
    · subst e
      simp only [List.getElem_append_right (Nat.le_refl _), Nat.sub_self, List.getElem_cons_zero]
      exact hx.ins (elemW_len _ _)
    · have hil : i < (d ++ x :: R).length := by simpa using hi
      have e2 : (d ++ (elemW W s x).2 :: R)[i] = (d ++ x :: R)[i] := by
        by_cases q : i < d.length
        · rw [List.getElem_append_left q, List.getElem_append_left q]
        · obtain ⟨j, rfl⟩ : ∃ j, i = d.length + (j + 1) := ⟨i - d.length - 1, by omega⟩
          rw [List.getElem_append_right (by omega), List.getElem_append_right (by omega)]
          simp
      rw [e2]
      refine (hrow i hil).out (.inr ?_)
      have hyl : ((d ++ x :: R)[i]).length = sz := hsz _ (List.getElem_mem hil)
      rw [hyl, List.length_map, elemW_len, hxl]
      rcases Nat.lt_or_ge i d.length with q | q
      · left
        have : (i + 1) * sz ≤ d.length * sz := Nat.mul_le_mul_right _ q
        rw [Nat.add_mul] at this; omega
      · right
        have : (d.length + 1) * sz ≤ i * sz := Nat.mul_le_mul_right _ (by omega)
        rw [Nat.add_mul] at this; omega
theorem made_row (w : World) (Z : Array Value) (T : TypeId) (n sz : Nat) (zero : List Fld) (hz : Z.toList = zero.map Fld.cell) (hl : zero.length = sz) (h0 : 0 < sz) : RowAt (w.alloc (.cells (madeCells Z (n * sz)) T)) w.heap.size 0 sz (List.replicate n zero) := by
  intro i hi j hj
  have hin : i < n := by simpa using hi
  have e : (List.replicate n zero)[i] = zero := by simp
  simp only [e] at hj ⊢
  rw [Nat.zero_add, alloc_cell]
  have hlt : i * sz + j < n * sz := by
    have : (i + 1) * sz ≤ n * sz := Nat.mul_le_mul_right _ hin
    rw [Nat.add_mul] at this; omega
  have hZ : Z.size = sz := by rw [← Array.length_toList, hz, List.length_map, hl]
  unfold madeCells
  rw [Array.getElem?_map, Array.getElem?_range, if_pos hlt]
  simp only [Option.map_some, hZ]
  rw [Nat.mul_add_mod', Nat.mod_eq_of_lt (by omega)]
  congr 1
  have : Z[j]? = some zero[j].cell := by
    rw [← Array.getElem?_toList, hz]; simp [hj]
  rw [Array.getElem!_eq_getD, Array.getD_eq_getD_getElem?, this]
  rfl
end
end Go.Proofs.Ytdnhmkfgcpdbkaa
