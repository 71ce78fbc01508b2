/-
  Texts of mine as one, in the order in which they build: Ta, Tb, Tc, Td, Te. Conditions: as each says.
-/
import Derived.Test.YtdnhmkfgcpdbkaaWl
import Derived.Test.YtdnhmkfgcpdbkaaRows
import Derived.Shelf.Strings.Builder1
import Derived.Deep.RegionHeld3
import Derived.Lib.Hide
import Derived.Laws.IdiomCopy
import Derived.Test.YtdnhmkfgcpdbkaaQm
import Derived.Handy
import Derived.Deep.Cut
namespace Go.Proofs.Ytdnhmkfgcpdbkaa
set_option maxRecDepth 100000
open Go.RowKit
set_option linter.unusedVariables false
set_option linter.unusedSimpArgs false

theorem Try.infoU8k : (Try.prog.info? 5).map (fun i => (i.zero, i.size, i.bytes)) = some (some (.int .u8 0), 1, 1) := by kernel_rfl
theorem Try.sizeBld : (Try.prog.info? 62).map (·.size) = some 2 := by kernel_rfl
/-- A builder in block b that holds the bytes l. -/
def Bld (B b : Nat) (l : List UInt8) (w : World) : Prop := Lib.IsBuilder 64 5 B b (Lib.byteCells l) w
/-- All blocks but b, and but rows of bytes, are as they were. -/
def KeepT (b : Nat) (w w' : World) : Prop := (∀ x cs T fr, x ≠ b → w.heap[x]? = some (.cells cs T fr) → T ≠ 5 → w'.heap[x]? = some (.cells cs T fr)) ∧ w.heap.size ≤ w'.heap.size
theorem heap_lt {w : World} {x : Nat} {o : Obj} (h : w.heap[x]? = some o) : x < w.heap.size := by
  rcases Nat.lt_or_ge x w.heap.size with h' | h'
  · exact h'
  · simp [Array.getElem?_eq_none h'] at h
theorem KeepT.of {b : Nat} {w w' : World} (h : Below w.heap.size w w') : KeepT b w w' := ⟨fun x cs T fr _ hx _ => (h.block x (heap_lt hx)).trans hx, h.size⟩
theorem KeepT.refl (b : Nat) (w : World) : KeepT b w w := ⟨fun _ _ _ _ _ h _ => h, Nat.le_refl _⟩
theorem KeepT.trans {b : Nat} {w w' w'' : World} (h : KeepT b w w') (k : KeepT b w' w'') : KeepT b w w'' := ⟨fun x cs T fr hb hx hT => k.1 x cs T fr hb (h.1 x cs T fr hb hx hT) hT, Nat.le_trans h.2 k.2⟩
theorem KeepT.set (b i : Nat) (w : World) (v : Value) : KeepT b w (w.setCell ⟨b, i, none⟩ v) :=
  ⟨fun x cs T fr hb hx _ => by rw [Below.heap_setCell _ _ _ _ hb]; exact hx, by simp⟩
set_option maxRecDepth 100000 in
theorem bcheck_used (b : Nat) (w : World) (h0 : w.cell? ⟨b, 0, none⟩ = some (.pointer (some ⟨b, 0, none⟩))) :
    Calls Try.prog 91 #[.pointer (some ⟨b, 0, none⟩)] w fun e w' => e = .returned (.tuple #[]) ∧ w' = w := by
  obtain ⟨j, hj, _⟩ := Option.map_eq_some_iff.1 Try.sizeBld
  go_enter Try.func91, Try.ntmps91
  go_wp2
  rw [Lib.run_neq_ptr_same w _ Try.underlying60 hj]
  go_wp2
  go_end0
  exact ⟨rfl, rfl⟩
set_option maxHeartbeats 1000000 in
set_option maxRecDepth 100000 in
theorem bcheck_new (b : Nat) (w : World) (h0 : w.cell? ⟨b, 0, none⟩ = some (.pointer none)) (hsh : w.shape? b = some (64, 2)) (hfz : w.frozen? ⟨b, 0, none⟩ = false) :
    Calls Try.prog 91 #[.pointer (some ⟨b, 0, none⟩)] w fun e w' => e = .returned (.tuple #[]) ∧ w' = w.setCell ⟨b, 0, none⟩ (.pointer (some ⟨b, 0, none⟩)) := by
  obtain ⟨j, hj, hjs⟩ := Option.map_eq_some_iff.1 Try.sizeBld
  go_enter Try.func91, Try.ntmps91
  go_wp2
  rw [Lib.run_to_unsafe w ⟨b, 0, none⟩ Try.underlying60 Try.underlying169 hj (by rw [hjs]; decide) hsh (Nat.zero_lt_succ 1)]
  simp only [Result.andThen]
  rw [Oper.upon_value]
  go_wp2
  rw [run_callFunc_extern Try.func93 (by kernel_rfl) (by kernel_rfl) (by kernel_rfl) (e := Extern.AbiNoEscape.same) (by kernel_rfl)]
  rw [Lib.run_noEscape]
  simp only [Result.andThen]
  rw [Oper.upon_value]
  go_wp2
  rw [Lib.run_from_unsafe w ⟨b, 0, none⟩ Try.underlying169 Try.underlying60 hj hsh (by kernel_rfl)]
  simp only [Result.andThen]
  rw [Oper.upon_value]
  go_wp2
  go_end0
  exact ⟨rfl, rfl⟩
theorem bcheck_any (B b : Nat) (l : List UInt8) (w : World) (h : Bld B b l w) :
    Calls Try.prog 91 #[.pointer (some ⟨b, 0, none⟩)] w fun e w' => e = .returned (.tuple #[]) ∧ Lib.BuilderAt 64 5 B b (.pointer (some ⟨b, 0, none⟩)) (Lib.byteCells l) w' ∧ Below B w w' ∧ KeepT b w w' := by
  rcases h with h | h
  · refine (bcheck_new b w h.cell0 h.shape h.frozen0).mono ?_
    rintro e w' ⟨rfl, rfl⟩
    exact ⟨rfl, h.used _, (Below.refl B w).setCell (p := ⟨b, 0, none⟩) h.1 _, KeepT.set b 0 w _⟩
  · refine (bcheck_used b w h.cell0).mono ?_
    rintro e w' ⟨rfl, rfl⟩
    exact ⟨rfl, h, Below.refl B _, KeepT.refl b _⟩
theorem bcells (l : List UInt8) (s : ByteArray) : Lib.byteCells l ++ Lib.strCells s = Lib.byteCells (l ++ s.data.toList) := by
  simp [Lib.byteCells, Lib.strCells]
set_option maxHeartbeats 1000000 in
set_option maxRecDepth 100000 in
theorem bwrite_any (B b : Nat) (l : List UInt8) (s : ByteArray) (w : World) (h : Bld B b l w) (hlen : l.length + s.size ≤ 140737488355328) (hBw : B ≤ w.heap.size) :
    Calls Try.prog 88 #[.pointer (some ⟨b, 0, none⟩), .string s] w fun e w' => e = .returned (.tuple #[.int .i64 s.size, .nilIface]) ∧ Bld B b (l ++ s.data.toList) w' ∧ Below B w w' ∧ KeepT b w w' := by
  obtain ⟨i0, hi, hz0, hz1, hz2⟩ := info_parts Try.infoU8k
  go_enter Try.func88, Try.ntmps88
  go_wp2_with (go_at_call 91; refine (bcheck_any B b l _ h).mono ?_)
  rintro e w1 ⟨rfl, h1, hb1, hk1⟩
  obtain ⟨hB, v, hbk, hown, hne⟩ := h1
  have c0 : w1.cell? ⟨b, 0, none⟩ = some (.pointer (some ⟨b, 0, none⟩)) := by rw [Lib.cell_of_heap hbk]; rfl
  have c1 : w1.cell? ⟨b, 1, none⟩ = some v := by rw [Lib.cell_of_heap hbk]; rfl
  have hll := Lib.byteCells_length l
  rw [hll] at hown
  go_wp2_with (at_builtin; refine Lib.wpList_append_own_string _ rfl _ _ 46 9 rfl B 5 i0 Try.underlying46 Try.underlying9 hi hz0 hz1 hz2 _ _ _ rfl hown s rfl ?c3 ?c4 ?c5 ?_)
  case c3 => unfold maxLen; omega
  case c4 => omega
  case c5 => have := hb1.size; omega
  intro v' w2 hown' hgrow _
  have hlt : b < w1.heap.size := by
    rcases Nat.lt_or_ge b w1.heap.size with h' | h'
    · exact h'
    · simp [Array.getElem?_eq_none h'] at hbk
  have hb2 : w2.heap[b]? = some (.cells #[.pointer (some ⟨b, 0, none⟩), v] 64 (0, 0)) := by
    rw [hgrow.block b hlt (fun e => hne e.symm)]
    exact hbk
  have d0 : w2.cell? ⟨b, 0, none⟩ = some (.pointer (some ⟨b, 0, none⟩)) := by rw [Lib.cell_of_heap hb2]; rfl
  have d1 : w2.cell? ⟨b, 1, none⟩ = some v := by rw [Lib.cell_of_heap hb2]; rfl
  have f1 : w2.frozen? ⟨b, 1, none⟩ = false := Lib.frozen_of_heap hb2 1
  obtain ⟨ao, n', cap, rfl⟩ : ∃ ao n' cap, v' = .slice ao n' cap := by
    rcases hown'.2 with ⟨hv, _⟩ | ⟨g, cap, cur, hv, _⟩
    · exact ⟨_, _, _, hv⟩
    · exact ⟨_, _, _, hv⟩
  have hlen2 : (Lib.byteCells l ++ Lib.strCells s).length = l.length + s.size := by rw [List.length_append, hll, Lib.strCells_length]
  have HB : Hid (Bld B b (l ++ s.data.toList) (w2.setCell ⟨b, 1, none⟩ (.slice ao n' cap))) := by
    have h2 := Lib.BuilderAt.put (T := 64) (e := 5) hB hb2 (bs' := Lib.byteCells l ++ Lib.strCells s) (by rw [hlen2]; exact hown') (by decide)
    rw [bcells] at h2
    exact Lib.hid (Or.inr h2)
  have HW : Hid (Below B w (w2.setCell ⟨b, 1, none⟩ (.slice ao n' cap))) := Lib.hid ((hb1.grown hgrow (by have := hb1.size; omega) (fun k hk => (hown.lt k hk).1)).setCell (p := ⟨b, 1, none⟩) hB _)
  have HKp : Hid (KeepT b w (w2.setCell ⟨b, 1, none⟩ (.slice ao n' cap))) := by
    refine Lib.hid ((hk1.trans ⟨fun x cs T fr hx h0 hT => ?_, hgrow.size⟩).trans (KeepT.set b 1 w2 _))
    rw [hgrow.block x (heap_lt h0) (fun e => ?_)]
    · exact h0
    · rcases hown.2 with ⟨rfl, _⟩ | ⟨g, c, cur, rfl, _, hg, _⟩
      · simp [Value.ownBlock] at e
      · simp only [Value.ownBlock, Option.some.injEq] at e
        subst e
        rw [hg] at h0
        simp only [Option.some.injEq, Obj.cells.injEq] at h0
        exact hT h0.2.1.symm
  clear hown hown' hgrow hb1 hll hlen2 hk1
  go_wp2
  go_ret2
  exact ⟨rfl, HB.out, HW.out, HKp.out⟩
theorem Bld.lt {B b : Nat} {l : List UInt8} {w : World} (h : Bld B b l w) : b < w.heap.size := by
  rcases h with h | h
  · exact h.lt
  · exact h.lt
theorem Bld.old {B b : Nat} {l : List UInt8} {w w' : World} (h : Bld B b l w) (hb : Below w.heap.size w w') : Bld B b l w' := by
  have go : ∀ p, Lib.BuilderAt 64 5 B b p (Lib.byteCells l) w → Lib.BuilderAt 64 5 B b p (Lib.byteCells l) w' := by
    rintro p ⟨hB, v, hbk, hown, hne⟩
    refine ⟨hB, v, ?_, below_own hown hb, hne⟩
    have hlt := Lib.BuilderAt.lt (⟨hB, v, hbk, hown, hne⟩ : Lib.BuilderAt 64 5 B b p (Lib.byteCells l) w)
    exact (hb.block b hlt).trans hbk
  rcases h with h | h
  · exact .inl (go _ h)
  · exact .inr (go _ h)
theorem Bld.new (w : World) : Bld w.heap.size w.heap.size [] (w.alloc (.cells #[.pointer none, .slice none 0 0] 64)) := Lib.fresh_isBuilder _ _ w

/-! ### String -/
set_option maxHeartbeats 2000000 in
set_option maxRecDepth 100000 in
theorem bstring_any (B b : Nat) (l : List UInt8) (w : World) (h : Bld B b l w) (h0 : l ≠ []) :
    Calls Try.prog 19 #[.pointer (some ⟨b, 0, none⟩)] w fun e w' => e = .returned (.string ⟨l.toArray⟩) ∧ Below B w w' := by
  obtain ⟨p, hB, v, hbk, hown, hne⟩ : ∃ p, Lib.BuilderAt 64 5 B b p (Lib.byteCells l) w := by
    rcases h with h | h
    · exact ⟨_, h⟩
    · exact ⟨_, h⟩
  have hl0 : l.length ≠ 0 := by simpa using h0
  rw [Lib.byteCells_length] at hown
  obtain ⟨g, cap, cur, rfl, hbg, hg, hnc, hcm, hcs, htake⟩ : ∃ g cap cur, v = .slice (some ⟨g, 0, none⟩) l.length cap ∧ B ≤ g ∧ w.heap[g]? = some (.cells cur 5 (0, 0)) ∧ l.length ≤ cap ∧ cap ≤ maxLen ∧ cur.size = cap * 1 ∧ True := by
    rcases hown.2 with ⟨_, hz⟩ | ⟨g, cap, cur, hv, r⟩
    · exact absurd hz hl0
    · exact ⟨g, cap, cur, hv, r.1, r.2.1, r.2.2.1, r.2.2.2.1, r.2.2.2.2.1, trivial⟩
  have c1 : w.drew.cell? ⟨b, 1, none⟩ = some (.slice (some ⟨g, 0, none⟩) l.length cap) := by
    have : w.drew.heap[b]? = some (.cells #[p, .slice (some ⟨g, 0, none⟩) l.length cap] 64 (0, 0)) := hbk
    rw [Lib.cell_of_heap this]; rfl
  have hSD : (Builtin.unsafeSliceData_ #[46] 111 #[.slice (some ⟨g, 0, none⟩) l.length cap]).run Try.prog w.drew = .ok (.pointer (some ⟨g, 0, none⟩)) w.drew :=
    Lib.run_unsafeSliceData_row _ _ _ _ _ _ (by omega)
  have hUS : (Builtin.unsafeString_ #[111, 3] 9 #[.pointer (some ⟨g, 0, none⟩), .int .i64 l.length]).run Try.prog w.drew = .ok (.string ⟨l.toArray⟩) (w.drew.freeze ⟨g, 0, none⟩ l.length) := by
    refine Lib.run_unsafeString_row w.drew 111 3 9 5 Try.underlying111 (by kernel_rfl) g cur.size (by have hg' : w.drew.heap[g]? = some (.cells cur 5 (0, 0)) := hg; simp [World.shape?, hg']) l h0 (by omega) (by unfold maxLen at hcm; omega) ?_
    intro j x hx
    have := hown.cells (g := g) rfl j (.int .u8 x.toNat) (by simp [Lib.byteCells, hx])
    exact this
  have mixed : Try.prog.follows .mixedOrders = true := by kernel_rfl
  go_enter Try.func19, Try.ntmps19
  go_wp2
  go_region_o
  all_goals (go_wp2; go_ret; exact ⟨rfl, Lib.below_freeze (Below.drew (Below.refl B w)) (p := ⟨g, 0, none⟩) hbg _⟩)
end Go.Proofs.Ytdnhmkfgcpdbkaa
namespace Go.Proofs.Ytdnhmkfgcpdbkaa
open Go.RowKit
set_option linter.unusedVariables false
set_option linter.unusedSimpArgs false

theorem heap_set (w : World) (p : Addr) (v : Value) : (w.setCell p v).heap[p.block]? = (w.heap[p.block]?).map fun
      | .cells c elem frozen => .cells (if p.spot.isSome then c else c.setIfInBounds p.off v) elem frozen
      | o => o := by
  simp only [World.setCell, Array.getElem?_modify, if_true]
  cases w.heap[p.block]? with
  | none => rfl
  | some o => cases o <;> rfl
structure KB (b B : Nat) (w w' : World) : Prop where
  t : KeepT b w w'
  l : Below B w w'
theorem KB.refl (b B : Nat) (w : World) : KB b B w w := ⟨KeepT.refl b w, Below.refl B w⟩
theorem KB.trans {b B : Nat} {w w' w'' : World} (h : KB b B w w') (k : KB b B w' w'') : KB b B w w'' := ⟨h.t.trans k.t, h.l.trans k.l⟩
theorem KB.of {b B : Nat} {w w' : World} (h : Below w.heap.size w w') (hB : B ≤ w.heap.size) : KB b B w w' := ⟨KeepT.of h, h.mono hB⟩
theorem KB.size {b B : Nat} {w w' : World} (h : KB b B w w') : w.heap.size ≤ w'.heap.size := h.t.2
theorem KB.drew {b B : Nat} {w w' : World} (h : KB b B w w') : KB b B w w'.drew := ⟨h.t, h.l.drew⟩
theorem KB.alloc {b B : Nat} {w w' : World} (h : KB b B w w') (hB : B ≤ w'.heap.size) (o : Obj) : KB b B w (w'.alloc o) := h.trans (KB.of ((Below.refl _ w').alloc (Nat.le_refl _) o) hB)
theorem KB.own {b B : Nat} {w w' : World} (h : KB b B w w') (i : Nat) (hb : B ≤ b) (v : Value) : KB b B w (w'.setCell ⟨b, i, none⟩ v) :=
  ⟨h.t.trans (KeepT.set b i w' v), h.l.setCell (p := ⟨b, i, none⟩) hb v⟩
theorem KB.set {b B : Nat} {w w' : World} (h : KB b B w w') (p : Addr) (v : Value) (hp : p.block ≠ b) : KB b B (w.setCell p v) (w'.setCell p v) := by
  refine ⟨⟨fun x cs T fr hx hc hT => ?_, by simpa using h.size⟩, ?_⟩
  · by_cases e : x = p.block
    · subst e
      rw [heap_set] at hc ⊢
      cases ho : w.heap[p.block]? with
      | none => rw [ho] at hc; cases hc
      | some o =>
        rw [ho] at hc
        cases o with
        | cells c T' fr' =>
          simp only [Option.map_some, Option.some.injEq, Obj.cells.injEq] at hc
          obtain ⟨h1, h2, h3⟩ := hc
          subst h2
          rw [h.t.1 p.block c T' fr' hx ho hT]
          simp only [Option.map_some, Option.some.injEq, Obj.cells.injEq]
          exact ⟨h1, trivial, h3⟩
        | _ => simp at hc
    · rw [Below.heap_setCell _ _ _ _ e] at hc ⊢
      exact h.t.1 x cs T fr hx hc hT
  · refine ⟨h.l.os, h.l.tape, h.l.output, by simpa using h.size, fun k hk => ?_⟩
    by_cases e : k = p.block
    · subst e
      rw [heap_set, heap_set, h.l.block _ hk]
    · rw [Below.heap_setCell _ _ _ _ e, Below.heap_setCell _ _ _ _ e]
      exact h.l.block k hk
/-- What is stored where it is already changes nothing. -/
theorem set_same {w : World} {p : Addr} {v : Value} (h : w.cell? p = some v) : w.setCell p v = w := by
  unfold World.cell? at h
  have hh : (w.setCell p v).heap = w.heap := by
    refine Array.ext_getElem? fun i => ?_
    by_cases e : i = p.block
    · subst e
      rw [heap_set]
      cases ho : w.heap[p.block]? with
      | none => rfl
      | some o =>
        cases o with
        | cells c T fr =>
          rw [ho] at h
          simp only at h
          by_cases hs : p.spot.isSome = true
          · rw [if_pos hs] at h; cases h
          · rw [if_neg hs] at h
            simp only [Option.map_some, hs, Bool.false_eq_true, if_false]
            congr 2
            refine Array.ext_getElem? fun j => ?_
            rw [Array.getElem?_setIfInBounds]
            split
            · rename_i e2
              subst e2
              split
              · exact h.symm
              · rename_i hl
                rw [Array.getElem?_eq_none (by omega)] at h
                cases h
            · rfl
        | _ => rfl
    · rw [Below.heap_setCell _ _ _ _ e]
  cases w
  unfold World.setCell at hh ⊢
  simp only at hh ⊢
  rw [hh]
/-- A block that a way of its own block b (its row of bytes at B or behind) leaves alone; G: nothing is stored at all. -/
def Loc (G : Prop) (b B : Nat) (w : World) (x : Nat) : Prop := x ≠ b ∧ x < w.heap.size ∧ ((x < B ∧ G) ∨ (B ≤ x ∧ ∃ cs T, w.heap[x]? = some (.cells cs T (0, 0)) ∧ T ≠ 5))
theorem Loc.heap {G : Prop} {b B x : Nat} {w w' : World} (h : Loc G b B w x) (hk : KB b B w w') : w'.heap[x]? = w.heap[x]? := by
  obtain ⟨h1, h2, h3 | ⟨h3, cs, T, h4, h5⟩⟩ := h
  · exact hk.l.block x h3.1
  · rw [h4]; exact hk.t.1 x cs T _ h1 h4 h5
theorem Loc.cell {G : Prop} {b B x : Nat} {w w' : World} (h : Loc G b B w x) (hk : KB b B w w') (i : Nat) : w'.cell? ⟨x, i, none⟩ = w.cell? ⟨x, i, none⟩ := World.cell?_of_block (w := w) (h.heap hk)
theorem Loc.keep {G : Prop} {b B x : Nat} {w w' : World} (h : Loc G b B w x) (hk : KB b B w w') : Loc G b B w' x := by
  have e := h.heap hk
  obtain ⟨h1, h2, h3⟩ := h
  refine ⟨h1, Nat.lt_of_lt_of_le h2 hk.size, ?_⟩
  rw [e]
  exact h3
theorem Loc.set {G : Prop} {b B x : Nat} {w : World} (h : Loc G b B w x) (p : Addr) (v : Value) : Loc G b B (w.setCell p v) x := by
  obtain ⟨h1, h2, h3⟩ := h
  refine ⟨h1, by simpa using h2, ?_⟩
  rcases h3 with h3 | ⟨h3, cs, T, h4, h5⟩
  · exact .inl h3
  · refine .inr ⟨h3, ?_⟩
    by_cases e : x = p.block
    · subst e
      rw [heap_set, h4]
      exact ⟨_, T, rfl, h5⟩
    · rw [Below.heap_setCell _ _ _ _ e]
      exact ⟨cs, T, h4, h5⟩
theorem Loc.frozen {G : Prop} {b B x : Nat} {w : World} (h : Loc G b B w x) (hB : B ≤ x) (i : Nat) : w.frozen? ⟨x, i, none⟩ = false := by
  obtain ⟨h1, h2, h3 | ⟨h3, cs, T, h4, h5⟩⟩ := h
  · omega
  · unfold World.frozen?
    simp [h4]
theorem Loc.new {G : Prop} {b B : Nat} {w : World} (hb : b < w.heap.size) (hB : B ≤ w.heap.size) (cs : Array Value) (T : TypeId) (hT : T ≠ 5) : Loc G b B (w.alloc (.cells cs T)) w.heap.size :=
  ⟨by omega, by simp, .inr ⟨hB, cs, T, heap_alloc_new w _, hT⟩⟩
theorem Loc.old {G : Prop} {b B x : Nat} {w w' : World} (h : Loc G b B w x) (hk : Below w.heap.size w w') : Loc G b B w' x := by
  have e := hk.block x h.2.1
  obtain ⟨h1, h2, h3⟩ := h
  refine ⟨h1, Nat.lt_of_lt_of_le h2 hk.size, ?_⟩
  rw [e]
  exact h3
end Go.Proofs.Ytdnhmkfgcpdbkaa
namespace Go.Proofs.Ytdnhmkfgcpdbkaa
open Go.RowKit
set_option linter.unusedVariables false
set_option linter.unusedSimpArgs false

/-- What a way does, plainly: with a number (least, most, it), with a text; ok: none of it was more than the way can. -/
structure Way (σ : Type) where
  num : σ → Int → Int → Int → σ × Int
  txt : σ → ByteArray → σ × ByteArray
  ok : σ → Prop
  mono : ∀ s lo hi x, ok (num s lo hi x).1 → ok s
  monot : ∀ s t, ok (txt s t).1 → ok s
/-- The way W lies in block b, its dynamic type is D: its state is told by At; G: nothing is ever stored. -/
structure WayAt {σ : Type} (W : Way σ) (D b B : Nat) (G : Prop) (At : World → σ → Prop) : Prop where
  gnum : G → ∀ s lo hi x, (W.num s lo hi x).2 = x
  gtxt : G → ∀ s t, (W.txt s t).2 = t
  rng : ∀ s lo hi x, (W.num s lo hi x).2 = x ∨ (lo ≤ (W.num s lo hi x).2 ∧ (W.num s lo hi x).2 ≤ hi)
  old : ∀ w w' s, At w s → Below w.heap.size w w' → At w' s
  set : ∀ w s p (o : Nat) v, At w s → Loc G b B w p → At (w.setCell ⟨p, o, none⟩ v) s
  nah : ∀ k w, (nilAhead (k + 1) D (.pointer (some ⟨b, 0, none⟩)) "sorrel/post.number").run Try.prog w = .ok (some false) w
  lt : ∀ w s, At w s → b < w.heap.size ∧ B ≤ w.heap.size
  num : ∃ f r, (∀ k w, (method (k + 1) D (.pointer (some ⟨b, 0, none⟩)) "sorrel/post.number").run Try.prog w = .ok (f, r) w) ∧ (∀ args w, (callFunc f args).run Try.prog w = .ok (.enter f args) w) ∧
    ∀ w s p o lo hi x, At w s → Loc G b B w p → w.cell? ⟨p, o, none⟩ = some (.int .i64 x) → W.ok (W.num s lo hi x).1 → Calls Try.prog f #[r, .pointer (some ⟨p, o, none⟩), .int .i64 lo, .int .i64 hi] w fun e w' => e = .returned (.tuple #[]) ∧ At w' (W.num s lo hi x).1 ∧ KB b B (w.setCell ⟨p, o, none⟩ (.int .i64 (W.num s lo hi x).2)) w'
  txt : ∃ f r, (∀ k w, (method (k + 1) D (.pointer (some ⟨b, 0, none⟩)) "sorrel/post.text").run Try.prog w = .ok (f, r) w) ∧ (∀ args w, (callFunc f args).run Try.prog w = .ok (.enter f args) w) ∧
    ∀ w s p o t, At w s → Loc G b B w p → w.cell? ⟨p, o, none⟩ = some (.string t) → W.ok (W.txt s t).1 → Calls Try.prog f #[r, .pointer (some ⟨p, o, none⟩)] w fun e w' => e = .returned (.tuple #[]) ∧ At w' (W.txt s t).1 ∧ KB b B (w.setCell ⟨p, o, none⟩ (.string (W.txt s t).2)) w'
section
variable {σ : Type} {W : Way σ} {D b B : Nat} {G : Prop} {At : World → σ → Prop}
def flagW (W : Way σ) (s : σ) (x : Bool) : σ × Bool := ((W.num s 0 1 (if x = true then 1 else 0)).1, decide ((W.num s 0 1 (if x = true then 1 else 0)).2 = 1))
theorem Loc.le {G : Prop} {b B x : Nat} {w : World} (h : Loc G b B w x) (hg : ¬ G) : B ≤ x := by
  obtain ⟨_, _, h | h⟩ := h
  · exact absurd h.2 hg
  · exact h.1
set_option maxRecDepth 100000 in
theorem tflag_any (H : WayAt W D b B G At) (w : World) (s : σ) (p o : Nat) (x : Bool) (h : At w s) (hp : Loc G b B w p) (hx : w.cell? ⟨p, o, none⟩ = some (.bool x)) (hok : W.ok (flagW W s x).1) :
    Calls Try.prog 31 #[.iface D (.pointer (some ⟨b, 0, none⟩)), .pointer (some ⟨p, o, none⟩)] w fun e w' => e = .returned (.tuple #[]) ∧ At w' (flagW W s x).1 ∧ KB b B (w.setCell ⟨p, o, none⟩ (.bool (flagW W s x).2)) w' := by
  obtain ⟨f, r, hm0, hcf, hn⟩ := H.num
  have hm : ∀ w, (method 274 D (.pointer (some ⟨b, 0, none⟩)) "sorrel/post.number").run Try.prog w = .ok (f, r) w := hm0 273
  clear hm0
  have HH := Lib.hid H
  obtain ⟨hbl, hBl⟩ := H.lt w s h
  have hpl := hp.2.1
  have HP := Lib.hid hp
  obtain ⟨z, hz⟩ : ∃ z : Int, z = if x = true then 1 else 0 := ⟨_, rfl⟩
  obtain ⟨s', z', ht⟩ : ∃ s' z', W.num s 0 1 z = (s', z') := ⟨_, _, rfl⟩
  have hfl : flagW W s x = (s', decide (z' = 1)) := by unfold flagW; rw [← hz, ht]
  rw [hfl] at hok ⊢
  have HG : Hid (G → decide (z' = 1) = x) := Lib.hid fun hG => by
    have := H.gnum hG s 0 1 z
    rw [ht] at this
    rw [show z' = z from this, hz]
    cases x <;> simp
  have hN1 : ∀ z0 : Value, Below w.heap.size w (w.alloc (.cells #[z0] 3)) := fun z0 => (Below.refl _ w).alloc (Nat.le_refl _) _
  have HC : Hid (Calls Try.prog f #[r, .pointer (some ⟨w.heap.size, 0, none⟩), .int .i64 0, .int .i64 1] (w.alloc (.cells #[.int .i64 z] 3)) fun e w' => e = .returned (.tuple #[]) ∧ At w' s' ∧ w'.cell? ⟨w.heap.size, 0, none⟩ = some (.int .i64 z') ∧ KB b B w w') := Lib.hid (by
    have hloc : Loc G b B (w.alloc (.cells #[.int .i64 z] 3)) w.heap.size := Loc.new hbl hBl _ _ (by decide)
    refine (hn _ s w.heap.size 0 0 1 z (H.old _ _ _ h (hN1 _)) hloc (by simp) (by rw [ht]; exact hok)).mono ?_
    rintro e w' ⟨h1, h2, h3⟩
    rw [ht] at h2 h3
    refine ⟨h1, h2, ?_, KB.trans (KB.of ((hN1 _).setCell (p := ⟨w.heap.size, 0, none⟩) (Nat.le_refl _) _) hBl) h3⟩
    rw [(hloc.set ⟨w.heap.size, 0, none⟩ (.int .i64 z')).cell h3 0]
    exact World.cell?_setCell_same' _ _ _ (by simp))
  have HPL : Hid (∀ w', KB b B w w' → w'.cell? ⟨p, o, none⟩ = some (.bool x) ∧ Loc G b B w' p) := Lib.hid fun w' hk => ⟨(hp.cell hk o).trans hx, hp.keep hk⟩
  have HS : Hid (w.setCell ⟨p, o, none⟩ (.bool x) = w) := Lib.hid (set_same hx)
  clear hn hN1 hfl ht h hok H hp
  obtain ⟨q, hq⟩ : ∃ q, q = decide (z' = 1) := ⟨_, rfl⟩
  have hzb : (z' == 1) = q := by rw [hq]; rfl
  rw [← hq] at HG ⊢
  clear hq
  cases x
  all_goals
    simp only [if_true, if_false, Bool.false_eq_true] at hz
    subst hz
    go_enter Try.func31, Try.ntmps31
    go_upto_region 3 with fail
    go_wp2_with fail
    refine HC.out.mono ?_
    rintro e w2 ⟨rfl, hat, hz, hk⟩
    obtain ⟨hc2, hl2⟩ := HPL.out w2 hk
    have hpl2 := hl2.2.1
    have hs2 := hk.size
    have HA := Lib.hid hat
    have HK := Lib.hid hk
    have HL2 := Lib.hid hl2
    clear hat hk HC HPL hl2
    cases q
  · go_wp2_with fail
    go_end0
    exact ⟨rfl, HA.out, by rw [HS.out]; exact HK.out⟩
  · have hfz := HL2.out.frozen (HP.out.le fun hg => by have := HG.out hg; cases this) o
    go_wp2_with fail
    go_end0
    exact ⟨rfl, HH.out.set _ _ _ _ _ HA.out HL2.out, HK.out.set _ _ HP.out.1⟩
  · have hfz := HL2.out.frozen (HP.out.le fun hg => by have := HG.out hg; cases this) o
    go_wp2_with fail
    go_end0
    exact ⟨rfl, HH.out.set _ _ _ _ _ HA.out HL2.out, HK.out.set _ _ HP.out.1⟩
  · go_wp2_with fail
    go_end0
    exact ⟨rfl, HA.out, by rw [HS.out]; exact HK.out⟩
end
end Go.Proofs.Ytdnhmkfgcpdbkaa
namespace Go.Proofs.Ytdnhmkfgcpdbkaa
open Go.RowKit
set_option linter.unusedVariables false
set_option linter.unusedSimpArgs false

theorem setCells_snoc (p : Nat) : ∀ (l : List Value) (o : Nat) (w : World) (v : Value), (w.setCells p o l).setCell ⟨p, o + l.length, none⟩ v = w.setCells p o (l ++ [v])
  | [], _, _, _ => rfl
  | u :: r, o, w, v => by
    have := setCells_snoc p r (o + 1) (w.setCell ⟨p, o, none⟩ u) v
    rw [show o + 1 + r.length = o + (u :: r).length by simp; omega] at this
    exact this
theorem Loc.sets {G : Prop} {b B x : Nat} (p : Nat) : ∀ (l : List Value) (o : Nat) (w : World), Loc G b B w x → Loc G b B (w.setCells p o l) x
  | [], _, _, h => h
  | u :: r, o, w, h => Loc.sets p r (o + 1) _ (h.set ⟨p, o, none⟩ u)
theorem sets_size (p : Nat) : ∀ (l : List Value) (o : Nat) (w : World), (w.setCells p o l).heap.size = w.heap.size
  | [], _, _ => rfl
  | u :: r, o, w => by
    show ((w.setCell ⟨p, o, none⟩ u).setCells p (o + 1) r).heap.size = _
    rw [sets_size p r]
    simp
def stepsW {σ α : Type} (f : σ → α → σ × α) : σ → List α → σ × List α
  | s, [] => (s, [])
  | s, x :: r => ((stepsW f (f s x).1 r).1, (f s x).2 :: (stepsW f (f s x).1 r).2)
theorem stepsW_ok {σ α : Type} {f : σ → α → σ × α} {ok : σ → Prop} (hf : ∀ s x, ok (f s x).1 → ok s) : ∀ (l : List α) (s : σ), ok (stepsW f s l).1 → ok s
  | [], _, h => h
  | x :: r, s, h => hf s x (stepsW_ok hf r _ h)
theorem stepsW_len {σ α : Type} (f : σ → α → σ × α) : ∀ (l : List α) (s : σ), (stepsW f s l).2.length = l.length
  | [], _ => rfl
  | x :: r, s => by show _ + 1 = _ + 1; rw [stepsW_len f r]
section
variable {σ : Type} {W : Way σ} {D b B : Nat} {G : Prop} {At : World → σ → Prop}
abbrev maxN : Int := 1099511627775
def numsW (W : Way σ) (s : σ) (l : List Int) : σ × List Int := stepsW (fun s x => W.num s 0 maxN x) s l
def txtsW (W : Way σ) (s : σ) (l : List ByteArray) : σ × List ByteArray := stepsW W.txt s l
set_option maxRecDepth 100000 in
theorem tnums_any (H : WayAt W D b B G At) (w : World) (s : σ) (va n cap p o : Nat) (l : List Int) (h : At w s) (hp : Loc G b B w p) (hv : Loc G b B w va) (hvp : va ≠ p) (hn : l.length = n) (hm : n ≤ 1000)
    (hc : ∀ i (h : i < l.length), w.cell? ⟨p, o + i, none⟩ = some (.int .i64 l[i])) (hs : ∀ i, i < n → w.cell? ⟨va, i, none⟩ = some (.pointer (some ⟨p, o + i, none⟩))) (hok : W.ok (numsW W s l).1) :
    Calls Try.prog 30 #[.iface D (.pointer (some ⟨b, 0, none⟩)), .slice (some ⟨va, 0, none⟩) n cap] w fun e w' => e = .returned (.tuple #[]) ∧ At w' (numsW W s l).1 ∧ KB b B (w.setCells p o ((numsW W s l).2.map fun z => .int .i64 z)) w' := by
  obtain ⟨f, r, hm0, hcf, hN⟩ := H.num
  have hmt : ∀ w, (method 274 D (.pointer (some ⟨b, 0, none⟩)) "sorrel/post.number").run Try.prog w = .ok (f, r) w := hm0 273
  clear hm0
  have HN := Lib.hid hN
  have HP := Lib.hid hp
  have HV := Lib.hid hv
  have HC := Lib.hid hc
  have HS := Lib.hid hs
  have HL := Lib.hid hn
  have HA := Lib.hid h
  have HO := Lib.hid hok
  clear hN hp hv hc hs h hn hok
  go_enter Try.func30, Try.ntmps30
  go_wp2_with fail
  go_loopw [5, 8] (fun _ i wr => ∃ (k : Nat) (s' : σ) (d : List Int), i = .int .i64 k ∧ k ≤ n ∧ Hid (d.length = k) ∧ Hid (numsW W s l = ((numsW W s' (l.drop k)).1, d ++ (numsW W s' (l.drop k)).2)) ∧ Hid (At wr s') ∧ Hid (KB b B (w.setCells p o (d.map fun z => .int .i64 z)) wr)) (fun _ i _ => n - (intOf i).toNat)
  case atStart => exact ⟨0, s, [], by first | rfl | go_num, by omega, Lib.hid rfl, Lib.hid rfl, HA, Lib.hid (KB.refl _ _ _)⟩
  case round =>
    obtain ⟨k, s', d, rfl, hk, HD, HR, HT, HK⟩ := hrel
    by_cases hlt : k < n
    · have hki : (k : Int) < (n : Int) := by omega
      have hkl : k < l.length := by rw [HL.out]; exact hlt
      obtain ⟨x, hx⟩ : ∃ x, x = l[k] := ⟨_, rfl⟩
      have hpl := ((HP.out.sets p (d.map fun z => .int .i64 z) o).keep HK.out)
      have hcx : wr.cell? ⟨p, o + k, none⟩ = some (.int .i64 x) := by
        rw [(HP.out.sets p (d.map fun z => .int .i64 z) o).cell HK.out, World.cell?_setCells_out _ _ _ _ _ (fun _ _ => .inr (by simp [HD.out])), HC.out k hkl, hx]
      have hcs : wr.cell? ⟨va, k, none⟩ = some (.pointer (some ⟨p, o + k, none⟩)) := by
        rw [(HV.out.sets p (d.map fun z => .int .i64 z) o).cell HK.out, World.cell?_setCells_out _ _ _ _ _ (fun e _ => absurd e hvp), HS.out k hlt]
      have hdr : l.drop k = x :: l.drop (k + 1) := by rw [hx]; exact List.drop_eq_getElem_cons hkl
      have HR' := HR.out
      rw [hdr] at HR'
      obtain ⟨s2, x2, ht⟩ : ∃ s2 x2, W.num s' 0 maxN x = (s2, x2) := ⟨_, _, rfl⟩
      have e1 : numsW W s' (x :: l.drop (k + 1)) = ((numsW W s2 (l.drop (k + 1))).1, x2 :: (numsW W s2 (l.drop (k + 1))).2) := by
        show ((stepsW _ (W.num s' 0 maxN x).1 _).1, (W.num s' 0 maxN x).2 :: (stepsW _ (W.num s' 0 maxN x).1 _).2) = _
        rw [ht]; rfl
      rw [e1] at HR'
      have hok2 : W.ok s2 := by
        refine stepsW_ok (f := fun s x => W.num s 0 maxN x) (fun s x hh => W.mono s 0 maxN x hh) (l.drop (k + 1)) s2 ?_
        have := HO.out
        rw [HR'] at this
        exact this
      have HC2 := Lib.hid (HN.out wr s' p (o + k) 0 maxN x HT.out hpl hcx (by rw [ht]; exact hok2))
      rw [ht] at HC2
      have HR2 : Hid (numsW W s l = ((numsW W s2 (l.drop (k + 1))).1, (d ++ [x2]) ++ (numsW W s2 (l.drop (k + 1))).2)) := Lib.hid (by rw [HR']; simp)
      have HD2 : Hid ((d ++ [x2]).length = k + 1) := Lib.hid (by rw [List.length_append, HD.out]; rfl)
      have HE : Hid ((w.setCells p o (d.map fun z => .int .i64 z)).setCell ⟨p, o + k, none⟩ (.int .i64 x2) = w.setCells p o ((d ++ [x2]).map fun z => .int .i64 z)) := Lib.hid (by
        have := setCells_snoc p (d.map fun z => .int .i64 z) o w (.int .i64 x2)
        rw [List.length_map, HD.out] at this
        rw [this, List.map_append]; rfl)
      have hva := ((HV.out.sets p (d.map fun z => .int .i64 z) o).keep HK.out).2.1
      clear hx hdr HR' e1 ht hok2 hkl HR hpl hcx
      go_wp2_with fail
      refine HC2.out.mono ?_
      rintro e w2 ⟨rfl, h1, h2⟩
      have HT2 := Lib.hid h1
      have HK2 : Hid (KB b B (w.setCells p o ((d ++ [x2]).map fun z => .int .i64 z)) w2) := Lib.hid (by rw [← HE.out]; exact (HK.out.set _ _ HP.out.1).trans h2)
      clear h1 h2 HC2 HE hcs hva
      go_wp2_with fail
      go_roundw
      case rel => exact ⟨k + 1, s2, d ++ [x2], by go_num, by omega, HD2, HR2, HT2, HK2⟩
      case measure => simp [intOf]; omega
    · obtain rfl : k = n := by omega
      have hki : ¬ (k : Int) < (k : Int) := by omega
      have HE : Hid (numsW W s l = (s', d)) := Lib.hid (by
        rw [HR.out, ← HL.out, List.drop_length]
        show (s', d ++ []) = _
        rw [List.append_nil])
      clear hlt hk
      go_wp2_with fail
      go_end0
      exact ⟨rfl, by rw [HE.out]; exact HT.out, by rw [HE.out]; exact HK.out⟩
set_option maxRecDepth 100000 in
theorem ttxts_any (H : WayAt W D b B G At) (w : World) (s : σ) (va n cap p o : Nat) (l : List ByteArray) (h : At w s) (hp : Loc G b B w p) (hv : Loc G b B w va) (hvp : va ≠ p) (hn : l.length = n) (hm : n ≤ 1000)
    (hc : ∀ i (h : i < l.length), w.cell? ⟨p, o + i, none⟩ = some (.string l[i])) (hs : ∀ i, i < n → w.cell? ⟨va, i, none⟩ = some (.pointer (some ⟨p, o + i, none⟩))) (hok : W.ok (txtsW W s l).1) :
    Calls Try.prog 36 #[.iface D (.pointer (some ⟨b, 0, none⟩)), .slice (some ⟨va, 0, none⟩) n cap] w fun e w' => e = .returned (.tuple #[]) ∧ At w' (txtsW W s l).1 ∧ KB b B (w.setCells p o ((txtsW W s l).2.map fun z => .string z)) w' := by
  obtain ⟨f, r, hm0, hcf, hN⟩ := H.txt
  have hmt : ∀ w, (method 274 D (.pointer (some ⟨b, 0, none⟩)) "sorrel/post.text").run Try.prog w = .ok (f, r) w := hm0 273
  clear hm0
  have HN := Lib.hid hN
  have HP := Lib.hid hp
  have HV := Lib.hid hv
  have HC := Lib.hid hc
  have HS := Lib.hid hs
  have HL := Lib.hid hn
  have HA := Lib.hid h
  have HO := Lib.hid hok
  clear hN hp hv hc hs h hn hok
  go_enter Try.func36, Try.ntmps36
  go_wp2_with fail
  go_loopw [5, 8] (fun _ i wr => ∃ (k : Nat) (s' : σ) (d : List ByteArray), i = .int .i64 k ∧ k ≤ n ∧ Hid (d.length = k) ∧ Hid (txtsW W s l = ((txtsW W s' (l.drop k)).1, d ++ (txtsW W s' (l.drop k)).2)) ∧ Hid (At wr s') ∧ Hid (KB b B (w.setCells p o (d.map fun z => .string z)) wr)) (fun _ i _ => n - (intOf i).toNat)
  case atStart => exact ⟨0, s, [], by first | rfl | go_num, by omega, Lib.hid rfl, Lib.hid rfl, HA, Lib.hid (KB.refl _ _ _)⟩
  case round =>
    obtain ⟨k, s', d, rfl, hk, HD, HR, HT, HK⟩ := hrel
    by_cases hlt : k < n
    · have hki : (k : Int) < (n : Int) := by omega
      have hkl : k < l.length := by rw [HL.out]; exact hlt
      obtain ⟨x, hx⟩ : ∃ x, x = l[k] := ⟨_, rfl⟩
      have hpl := ((HP.out.sets p (d.map fun z => .string z) o).keep HK.out)
      have hcx : wr.cell? ⟨p, o + k, none⟩ = some (.string x) := by
        rw [(HP.out.sets p (d.map fun z => .string z) o).cell HK.out, World.cell?_setCells_out _ _ _ _ _ (fun _ _ => .inr (by simp [HD.out])), HC.out k hkl, hx]
      have hcs : wr.cell? ⟨va, k, none⟩ = some (.pointer (some ⟨p, o + k, none⟩)) := by
        rw [(HV.out.sets p (d.map fun z => .string z) o).cell HK.out, World.cell?_setCells_out _ _ _ _ _ (fun e _ => absurd e hvp), HS.out k hlt]
      have hdr : l.drop k = x :: l.drop (k + 1) := by rw [hx]; exact List.drop_eq_getElem_cons hkl
      have HR' := HR.out
      rw [hdr] at HR'
      obtain ⟨s2, x2, ht⟩ : ∃ s2 x2, W.txt s' x = (s2, x2) := ⟨_, _, rfl⟩
      have e1 : txtsW W s' (x :: l.drop (k + 1)) = ((txtsW W s2 (l.drop (k + 1))).1, x2 :: (txtsW W s2 (l.drop (k + 1))).2) := by
        show ((stepsW _ (W.txt s' x).1 _).1, (W.txt s' x).2 :: (stepsW _ (W.txt s' x).1 _).2) = _
        rw [ht]; rfl
      rw [e1] at HR'
      have hok2 : W.ok s2 := by
        refine stepsW_ok (f := W.txt) (fun s x hh => W.monot s x hh) (l.drop (k + 1)) s2 ?_
        have := HO.out
        rw [HR'] at this
        exact this
      have HC2 := Lib.hid (HN.out wr s' p (o + k) x HT.out hpl hcx (by rw [ht]; exact hok2))
      rw [ht] at HC2
      have HR2 : Hid (txtsW W s l = ((txtsW W s2 (l.drop (k + 1))).1, (d ++ [x2]) ++ (txtsW W s2 (l.drop (k + 1))).2)) := Lib.hid (by rw [HR']; simp)
      have HD2 : Hid ((d ++ [x2]).length = k + 1) := Lib.hid (by rw [List.length_append, HD.out]; rfl)
      have HE : Hid ((w.setCells p o (d.map fun z => .string z)).setCell ⟨p, o + k, none⟩ (.string x2) = w.setCells p o ((d ++ [x2]).map fun z => .string z)) := Lib.hid (by
        have := setCells_snoc p (d.map fun z => .string z) o w (.string x2)
        rw [List.length_map, HD.out] at this
        rw [this, List.map_append]; rfl)
      have hva := ((HV.out.sets p (d.map fun z => .string z) o).keep HK.out).2.1
      clear hx hdr HR' e1 ht hok2 hkl HR hpl hcx
      go_wp2_with fail
      refine HC2.out.mono ?_
      rintro e w2 ⟨rfl, h1, h2⟩
      have HT2 := Lib.hid h1
      have HK2 : Hid (KB b B (w.setCells p o ((d ++ [x2]).map fun z => .string z)) w2) := Lib.hid (by rw [← HE.out]; exact (HK.out.set _ _ HP.out.1).trans h2)
      clear h1 h2 HC2 HE hcs hva
      go_wp2_with fail
      go_roundw
      case rel => exact ⟨k + 1, s2, d ++ [x2], by go_num, by omega, HD2, HR2, HT2, HK2⟩
      case measure => simp [intOf]; omega
    · obtain rfl : k = n := by omega
      have hki : ¬ (k : Int) < (k : Int) := by omega
      have HE : Hid (txtsW W s l = (s', d)) := Lib.hid (by
        rw [HR.out, ← HL.out, List.drop_length]
        show (s', d ++ []) = _
        rw [List.append_nil])
      clear hlt hk
      go_wp2_with fail
      go_end0
      exact ⟨rfl, by rw [HE.out]; exact HT.out, by rw [HE.out]; exact HK.out⟩
end
end Go.Proofs.Ytdnhmkfgcpdbkaa
namespace Go.Proofs.Ytdnhmkfgcpdbkaa
open Go.RowKit
set_option linter.unusedVariables false
set_option linter.unusedSimpArgs false

/-- A field: a number (least, most, it), a text, what is true or false, or one that is left alone. -/
inductive Fld where
  | n (lo hi x : Int)
  | t (x : ByteArray)
  | f (x : Bool)
  | r (v : Value)
def Fld.cell : Fld → Value
  | .n _ _ x => .int .i64 x
  | .t x => .string x
  | .f x => .bool x
  | .r v => v
section
variable {σ : Type} {W : Way σ} {D b B : Nat} {G : Prop} {At : World → σ → Prop}
def stepF (W : Way σ) (s : σ) : Fld → σ × Fld
  | .n lo hi x => ((W.num s lo hi x).1, .n lo hi (W.num s lo hi x).2)
  | .t x => ((W.txt s x).1, .t (W.txt s x).2)
  | .f x => ((flagW W s x).1, .f (flagW W s x).2)
  | .r v => (s, .r v)
def elemW (W : Way σ) (s : σ) (l : List Fld) : σ × List Fld := stepsW (stepF W) s l
theorem stepF_ok (W : Way σ) (s : σ) (x : Fld) (h : W.ok (stepF W s x).1) : W.ok s := by
  cases x with
  | n lo hi x => exact W.mono _ _ _ _ h
  | t x => exact W.monot _ _ h
  | f x => exact W.mono _ _ _ _ h
  | r v => exact h
theorem elemW_ok {s : σ} {l : List Fld} (h : W.ok (elemW W s l).1) : W.ok s := stepsW_ok (fun s x hh => stepF_ok W s x hh) l s h
theorem elemW_len (s : σ) (l : List Fld) : (elemW W s l).2.length = l.length := stepsW_len _ _ _
theorem elemW_app (s : σ) : ∀ (l r : List Fld), elemW W s (l ++ r) = ((elemW W (elemW W s l).1 r).1, (elemW W s l).2 ++ (elemW W (elemW W s l).1 r).2)
  | [], r => rfl
  | x :: l, r => by
    have := elemW_app (stepF W s x).1 l r
    unfold elemW at this ⊢
    simp only [List.cons_append, stepsW]
    rw [this]
theorem elemW_nums (s : σ) : ∀ (l : List Int), elemW W s (l.map (Fld.n 0 maxN)) = ((numsW W s l).1, (numsW W s l).2.map (Fld.n 0 maxN))
  | [] => rfl
  | x :: l => by
    have := elemW_nums (W.num s 0 maxN x).1 l
    unfold elemW numsW at this ⊢
    simp only [List.map_cons, stepsW, stepF]
    rw [this]
theorem elemW_txts (s : σ) : ∀ (l : List ByteArray), elemW W s (l.map Fld.t) = ((txtsW W s l).1, (txtsW W s l).2.map Fld.t)
  | [] => rfl
  | x :: l => by
    have := elemW_txts (W.txt s x).1 l
    unfold elemW txtsW at this ⊢
    simp only [List.map_cons, stepsW, stepF]
    rw [this]
/-- Fields one behind the other from a place on. -/
def FAt (w : World) (p o : Nat) (l : List Fld) : Prop := ∀ i (h : i < l.length), w.cell? ⟨p, o + i, none⟩ = some l[i].cell
theorem FAt.app {w : World} {p o : Nat} {l r : List Fld} (h : FAt w p o (l ++ r)) : FAt w p o l ∧ FAt w p (o + l.length) r := by
  refine ⟨fun i hi => ?_, fun i hi => ?_⟩
  · have := h i (by simp; omega)
    rw [List.getElem_append_left hi] at this
    exact this
  · have := h (l.length + i) (by simp; omega)
    rw [List.getElem_append_right (by omega)] at this
    simp only [Nat.add_sub_cancel_left] at this
    rw [Nat.add_assoc]
    exact this
theorem FAt.mk {w : World} {p o : Nat} {l r : List Fld} (h : FAt w p o l) (h2 : FAt w p (o + l.length) r) : FAt w p o (l ++ r) := fun i hi => by
  by_cases q : i < l.length
  · rw [List.getElem_append_left q]; exact h i q
  · rw [List.getElem_append_right (by omega)]
    have := h2 (i - l.length) (by simp at hi; omega)
    rw [Nat.add_assoc, show l.length + (i - l.length) = i by omega] at this
    exact this
theorem FAt.keep {w w' : World} {p o : Nat} {l : List Fld} (h : FAt w p o l) (hp : Loc G b B w p) (hk : KB b B w w') : FAt w' p o l := fun i hi => (hp.cell hk _).trans (h i hi)
theorem KB.sets {w w' : World} (p : Nat) (hp : p ≠ b) : ∀ (l : List Value) (o : Nat) {w w' : World}, KB b B w w' → KB b B (w.setCells p o l) (w'.setCells p o l)
  | [], _, _, _, h => h
  | v :: r, o, _, _, h => KB.sets (w := w) (w' := w') p hp r (o + 1) (h.set ⟨p, o, none⟩ v hp)
theorem setCells_app (p : Nat) : ∀ (l r : List Value) (o : Nat) (w : World), w.setCells p o (l ++ r) = (w.setCells p o l).setCells p (o + l.length) r
  | [], r, o, w => rfl
  | v :: l, r, o, w => by
    show (w.setCell ⟨p, o, none⟩ v).setCells p (o + 1) (l ++ r) = ((w.setCell ⟨p, o, none⟩ v).setCells p (o + 1) l).setCells p (o + (l.length + 1)) r
    rw [setCells_app p l r, show o + 1 + l.length = o + (l.length + 1) by omega]
theorem at_sets {s : σ} (H : WayAt W D b B G At) (p : Nat) : ∀ (l : List Value) (o : Nat) (w : World), Loc G b B w p → At w s → At (w.setCells p o l) s
  | [], _, _, _, h => h
  | v :: r, o, w, hp, h => at_sets H p r (o + 1) _ (hp.set ⟨p, o, none⟩ v) (H.set w s p o v h hp)
/-- How far a way has gone over the fields L from a place on: done, as they are now; rest. -/
structure Pg (W : Way σ) (At : World → σ → Prop) (G : Prop) (b B : Nat) (w0 : World) (p o : Nat) (s0 : σ) (L : List Fld) (done rest : List Fld) (s : σ) (wr : World) : Prop where
  st : At wr s
  kb : KB b B (w0.setCells p o (done.map Fld.cell)) wr
  fa : FAt wr p (o + done.length) rest
  lo : Loc G b B wr p
  eq : elemW W s0 L = ((elemW W s rest).1, done ++ (elemW W s rest).2)
variable {w0 wr w' : World} {p o : Nat} {s0 s : σ} {L done rest : List Fld}
theorem Pg.start (h : At w0 s0) (hf : FAt w0 p o L) (hp : Loc G b B w0 p) : Pg W At G b B w0 p o s0 L [] L s0 w0 := ⟨h, KB.refl _ _ _, by simpa using hf, hp, by simp⟩
theorem Pg.old (H : WayAt W D b B G At) (h : Pg W At G b B w0 p o s0 L done rest s wr) (hb : Below wr.heap.size wr w') : Pg W At G b B w0 p o s0 L done rest s w' := by
  have hk : KB b B wr w' := KB.of hb (H.lt wr s h.st).2
  exact ⟨H.old _ _ _ h.st hb, h.kb.trans hk, h.fa.keep h.lo hk, h.lo.keep hk, h.eq⟩
theorem Pg.okAll (h : Pg W At G b B w0 p o s0 L done rest s wr) (hok : W.ok (elemW W s0 L).1) : W.ok (elemW W s rest).1 := by rw [h.eq] at hok; exact hok
/-- One group of fields more. -/
theorem Pg.step {g g' : List Fld} {s2 : σ} {w2 : World} (h : Pg W At G b B w0 p o s0 L done (g ++ rest) s wr) (he : elemW W s g = (s2, g')) (h2 : At w2 s2) (hk : KB b B (wr.setCells p (o + done.length) (g'.map Fld.cell)) w2) :
    Pg W At G b B w0 p o s0 L (done ++ g') rest s2 w2 := by
  have hl : g'.length = g.length := by rw [← elemW_len (W := W) s g, he]
  obtain ⟨f1, f2⟩ := h.fa.app
  have hls := Loc.sets p (g'.map Fld.cell) (o + done.length) wr h.lo
  refine ⟨h2, ?_, ?_, hls.keep hk, ?_⟩
  · rw [List.map_append, setCells_app, List.length_map]
    exact (KB.sets (w := wr) (w' := wr) p h.lo.1 (g'.map Fld.cell) (o + done.length) h.kb).trans hk
  · refine FAt.keep (w := wr.setCells p (o + done.length) (g'.map Fld.cell)) ?_ hls hk
    intro i hi
    rw [World.cell?_setCells_out _ _ _ _ _ (fun _ _ => .inr (by simp [hl]; omega))]
    have := f2 i hi
    rw [List.length_append, hl]
    rw [show o + (done.length + g.length) + i = o + done.length + g.length + i by omega]
    exact this
  · rw [h.eq, elemW_app, he]
    simp
theorem Pg.nums (H : WayAt W D b B G At) {l : List Int} (h : Pg W At G b B w0 p o s0 L done (l.map (Fld.n 0 maxN) ++ rest) s wr) (hok : W.ok (elemW W s0 L).1) {c : Nat} (hd : done.length = c) (va n cap : Nat) (hv : Loc G b B wr va) (hvp : va ≠ p) (hn : l.length = n) (hm : n ≤ 1000)
    (hs : ∀ i, i < n → wr.cell? ⟨va, i, none⟩ = some (.pointer (some ⟨p, o + c + i, none⟩))) :
    Calls Try.prog 30 #[.iface D (.pointer (some ⟨b, 0, none⟩)), .slice (some ⟨va, 0, none⟩) n cap] wr fun e w' => e = .returned (.tuple #[]) ∧ ∃ (d' : List Fld) (s' : σ), d'.length = c + n ∧ Pg W At G b B w0 p o s0 L d' rest s' w' := by
  subst hd
  have h1 := h.okAll hok
  rw [elemW_app] at h1
  have h2 := elemW_ok h1
  rw [elemW_nums] at h2
  refine (tnums_any H wr s va n cap p (o + done.length) l h.st h.lo hv hvp hn hm (fun i hi => ?_) hs h2).mono ?_
  · have := h.fa.app.1 i (by simpa using hi)
    simpa [Fld.cell] using this
  · rintro e w' ⟨rfl, h3, h4⟩
    refine ⟨rfl, done ++ (numsW W s l).2.map (Fld.n 0 maxN), (numsW W s l).1, by rw [List.length_append, List.length_map, ← hn]; congr 1; exact stepsW_len _ _ _, h.step (elemW_nums s l) h3 ?_⟩
    rw [List.map_map]
    exact h4
theorem Pg.txts (H : WayAt W D b B G At) {l : List ByteArray} (h : Pg W At G b B w0 p o s0 L done (l.map Fld.t ++ rest) s wr) (hok : W.ok (elemW W s0 L).1) {c : Nat} (hd : done.length = c) (va n cap : Nat) (hv : Loc G b B wr va) (hvp : va ≠ p) (hn : l.length = n) (hm : n ≤ 1000)
    (hs : ∀ i, i < n → wr.cell? ⟨va, i, none⟩ = some (.pointer (some ⟨p, o + c + i, none⟩))) :
    Calls Try.prog 36 #[.iface D (.pointer (some ⟨b, 0, none⟩)), .slice (some ⟨va, 0, none⟩) n cap] wr fun e w' => e = .returned (.tuple #[]) ∧ ∃ (d' : List Fld) (s' : σ), d'.length = c + n ∧ Pg W At G b B w0 p o s0 L d' rest s' w' := by
  subst hd
  have h1 := h.okAll hok
  rw [elemW_app] at h1
  have h2 := elemW_ok h1
  rw [elemW_txts] at h2
  refine (ttxts_any H wr s va n cap p (o + done.length) l h.st h.lo hv hvp hn hm (fun i hi => ?_) hs h2).mono ?_
  · have := h.fa.app.1 i (by simpa using hi)
    simpa [Fld.cell] using this
  · rintro e w' ⟨rfl, h3, h4⟩
    refine ⟨rfl, done ++ (txtsW W s l).2.map Fld.t, (txtsW W s l).1, by rw [List.length_append, List.length_map, ← hn]; congr 1; exact stepsW_len _ _ _, h.step (elemW_txts s l) h3 ?_⟩
    rw [List.map_map]
    exact h4
theorem Pg.flag (H : WayAt W D b B G At) {x : Bool} (h : Pg W At G b B w0 p o s0 L done (Fld.f x :: rest) s wr) (hok : W.ok (elemW W s0 L).1) {c : Nat} (hd : done.length = c) :
    Calls Try.prog 31 #[.iface D (.pointer (some ⟨b, 0, none⟩)),   .pointer (some ⟨p, o + c, none⟩)] wr fun e w' => e = .returned (.tuple #[]) ∧ ∃ (d' : List Fld) (s' : σ), d'.length = c + 1 ∧ Pg W At G b B w0 p o s0 L d' rest s' w' := by
  subst hd
  have h1 := h.okAll hok
  have h2 : W.ok (flagW W s x).1 := elemW_ok (l := rest) h1
  refine (tflag_any H wr s p (o + done.length) x h.st h.lo (by have := h.fa 0 (by simp); simpa [Fld.cell] using this) h2).mono ?_
  rintro e w' ⟨rfl, h3, h4⟩
  exact ⟨rfl, done ++ [Fld.f (flagW W s x).2], _, by simp, Pg.step (g := [Fld.f x]) (g' := [Fld.f (flagW W s x).2]) (s2 := (flagW W s x).1) h rfl h3 h4⟩
theorem Pg.fin (h : Pg W At G b B w0 p o s0 L done [] s wr) : At wr (elemW W s0 L).1 ∧ KB b B (w0.setCells p o ((elemW W s0 L).2.map Fld.cell)) wr := by
  have e := h.eq
  simp only [elemW, stepsW, List.append_nil] at e
  rw [show elemW W s0 L = (s, done) from e]
  exact ⟨h.st, h.kb⟩
theorem Pg.box (h : Pg W At G b B w0 p o s0 L done rest s wr) {wb : Nat} {v : Value} (hw : Loc G b B w0 wb) (hwp : wb ≠ p) (hv : w0.cell? ⟨wb, 0, none⟩ = some v) : wr.cell? ⟨wb, 0, none⟩ = some v ∧ Loc G b B wr wb := by
  have hl := Loc.sets p (done.map Fld.cell) o w0 hw
  refine ⟨(hl.cell h.kb 0).trans ((World.cell?_setCells_out _ _ _ _ _ (fun e _ => absurd e hwp)).trans hv), hl.keep h.kb⟩
end
end Go.Proofs.Ytdnhmkfgcpdbkaa
