/-
  Texts of mine as one, in the order in which they build: Dm, Dw, Dk, Dc, Dp. Conditions: as each says.
-/
import Derived.Test.YtkfmjkcomjmedaaGreatWl
import Derived.Maps.OwnSet
import Derived.Sort.KeysCollected
import Derived.Below
import Derived.Test.YtkfmjkcomjmedaaGreatRows
import Derived.Lib.AppendStr
import Derived.Lib.Hide
import Derived.Test.YtkfmjkcomjmedaaGreatSv
import Derived.Maps.OwnOps
import Derived.LaidEqlPtr
namespace Go.Proofs.YtkfmjkcomjmedaaGreat
open Go.RowKit

section
variable {α β : Type}
def insL (k : List UInt8) (v : α) : List (List UInt8 × α) → List (List UInt8 × α)
  | [] => [(k, v)]
  | y :: r => if bytesBefore k y.1 then (k, v) :: y :: r else y :: insL k v r
def delL (k : List UInt8) (l : List (List UInt8 × α)) : List (List UInt8 × α) := l.filter fun p => !(p.1 == k)
def putL (k : List UInt8) (v : α) (l : List (List UInt8 × α)) : List (List UInt8 × α) := insL k v (delL k l)
def getL (k : List UInt8) (l : List (List UInt8 × α)) : Option α := (l.find? fun p => p.1 == k).map (·.2)
def setL (k : List UInt8) (v : α) (l : List (List UInt8 × α)) : List (List UInt8 × α) := l.map fun p => if p.1 == k then (p.1, v) else p
def mapL (f : α → β) (l : List (List UInt8 × α)) : List (List UInt8 × β) := l.map fun p => (p.1, f p.2)
def Srt (l : List (List UInt8 × α)) : Prop := l.Pairwise fun p q => bytesBefore p.1 q.1 = true

theorem mapL_insL (f : α → β) (k : List UInt8) (v : α) : ∀ l, mapL f (insL k v l) = insL k (f v) (mapL f l)
  | [] => rfl
  | y :: r => by
    have ih := mapL_insL f k v r
    by_cases h : bytesBefore k y.1 = true
    · simp [insL, mapL, h]
    · simp only [mapL] at ih
      simp [insL, mapL, h, ih]
theorem mapL_delL (f : α → β) (k : List UInt8) (l : List (List UInt8 × α)) : mapL f (delL k l) = delL k (mapL f l) := by
  unfold mapL delL
  rw [List.filter_map]
  rfl
theorem mapL_putL (f : α → β) (k : List UInt8) (v : α) (l : List (List UInt8 × α)) : mapL f (putL k v l) = putL k (f v) (mapL f l) := by
  unfold putL; rw [mapL_insL, mapL_delL]
theorem getL_mapL (f : α → β) (k : List UInt8) (l : List (List UInt8 × α)) : getL k (mapL f l) = (getL k l).map f := by
  unfold getL mapL
  rw [List.find?_map]
  simp only [Option.map_map]
  congr 1
theorem mapL_setL (f : α → β) (k : List UInt8) (v : α) (l : List (List UInt8 × α)) : mapL f (setL k v l) = setL k (f v) (mapL f l) := by
  unfold setL mapL
  simp only [List.map_map]
  refine List.map_congr_left fun p _ => ?_
  simp only [Function.comp]
  split <;> simp
theorem mapL_keys (f : α → β) (l : List (List UInt8 × α)) : (mapL f l).map (·.1) = l.map (·.1) := by
  unfold mapL; simp [List.map_map, Function.comp_def]
theorem insL_perm (k : List UInt8) (v : α) : ∀ l, (insL k v l).Perm ((k, v) :: l)
  | [] => .refl _
  | y :: r => by
    unfold insL
    split
    · exact .refl _
    · exact ((insL_perm k v r).cons y).trans (.swap _ _ _)
theorem mem_insL {k : List UInt8} {v : α} {l : List (List UInt8 × α)} {p : List UInt8 × α} : p ∈ insL k v l ↔ p = (k, v) ∨ p ∈ l := by
  rw [(insL_perm k v l).mem_iff, List.mem_cons]
theorem mem_delL {k : List UInt8} {l : List (List UInt8 × α)} {p : List UInt8 × α} : p ∈ delL k l ↔ p ∈ l ∧ p.1 ≠ k := by
  unfold delL; simp
theorem mem_putL {k : List UInt8} {v : α} {l : List (List UInt8 × α)} {p : List UInt8 × α} : p ∈ putL k v l ↔ p = (k, v) ∨ (p ∈ l ∧ p.1 ≠ k) := by
  unfold putL; rw [mem_insL, mem_delL]
theorem srt_ne {l : List (List UInt8 × α)} (h : Srt l) : l.Pairwise fun p q => p.1 ≠ q.1 :=
  List.Pairwise.imp (fun {a b} hab e => by rw [e, WideAt.bytes_irrefl] at hab; cases hab) h
theorem srt_delL {k : List UInt8} {l : List (List UInt8 × α)} (h : Srt l) : Srt (delL k l) := List.Pairwise.sublist List.filter_sublist h
theorem srt_insL {k : List UInt8} {v : α} : ∀ {l : List (List UInt8 × α)}, Srt l → (∀ p ∈ l, p.1 ≠ k) → Srt (insL k v l)
  | [], _, _ => List.pairwise_singleton _ _
  | y :: r, h, hk => by
    obtain ⟨h1, h2⟩ := List.pairwise_cons.1 h
    unfold insL
    split
    · rename_i hb
      refine List.pairwise_cons.2 ⟨fun p hp => ?_, h⟩
      rcases List.mem_cons.1 hp with rfl | hp
      · exact hb
      · exact WideShapes.bytes_trans _ _ _ hb (h1 p hp)
    · rename_i hb
      refine List.pairwise_cons.2 ⟨fun p hp => ?_, srt_insL h2 fun p hp => hk p (List.mem_cons_of_mem _ hp)⟩
      rcases mem_insL.1 hp with rfl | hp
      · rcases WideAt.bytes_total y.1 k (hk y (List.mem_cons_self ..)) with h | h
        · exact h
        · exact absurd h hb
      · exact h1 p hp
theorem srt_putL {k : List UInt8} {v : α} {l : List (List UInt8 × α)} (h : Srt l) : Srt (putL k v l) :=
  srt_insL (srt_delL h) fun _ hp => (mem_delL.1 hp).2
theorem srt_mapL (f : α → β) {l : List (List UInt8 × α)} : Srt (mapL f l) ↔ Srt l := by
  unfold Srt mapL; rw [List.pairwise_map]
theorem srt_setL {k : List UInt8} {v : α} {l : List (List UInt8 × α)} (h : Srt l) : Srt (setL k v l) := by
  unfold Srt setL
  rw [List.pairwise_map]
  refine List.Pairwise.imp (fun {a b} hab => ?_) h
  split <;> split <;> exact hab
/-- What a key has, where keys are apart. -/
theorem getL_iff {k : List UInt8} {v : α} : ∀ {l : List (List UInt8 × α)}, Srt l → (getL k l = some v ↔ (k, v) ∈ l)
  | [], _ => by simp [getL]
  | y :: r, h => by
    obtain ⟨h1, h2⟩ := List.pairwise_cons.1 h
    have ih := getL_iff (k := k) (v := v) h2
    unfold getL at *
    rw [List.find?_cons]
    by_cases e : y.1 = k
    · subst e
      simp only [beq_self_eq_true, Option.map_some, Option.some.injEq, List.mem_cons]
      constructor
      · rintro rfl; exact .inl rfl
      · rintro (e | hm)
        · rw [← e]
        · have := h1 _ hm
          rw [WideAt.bytes_irrefl] at this; cases this
    · rw [show (y.1 == k) = false by simpa using e]
      simp only [List.mem_cons]
      rw [ih]
      constructor
      · exact .inr
      · rintro (e' | hm)
        · exact absurd (by rw [← e']) e
        · exact hm
theorem getL_none {k : List UInt8} {l : List (List UInt8 × α)} : getL k l = none ↔ ∀ p ∈ l, p.1 ≠ k := by
  unfold getL; simp
theorem getL_putL {k k' : List UInt8} {v : α} {l : List (List UInt8 × α)} (h : Srt l) : getL k' (putL k v l) = if k' = k then some v else getL k' l := by
  split
  · rename_i e; subst e
    exact (getL_iff (srt_putL h)).2 (mem_putL.2 (.inl rfl))
  · rename_i e
    cases hg : getL k' l with
    | none =>
      rw [getL_none] at hg ⊢
      intro p hp
      rcases mem_putL.1 hp with rfl | ⟨hp, _⟩
      · exact fun e' => e e'.symm
      · exact hg p hp
    | some x => exact (getL_iff (srt_putL h)).2 (mem_putL.2 (.inr ⟨(getL_iff h).1 hg, e⟩))
theorem getL_delL {k k' : List UInt8} {l : List (List UInt8 × α)} (h : Srt l) : getL k' (delL k l) = if k' = k then none else getL k' l := by
  split
  · rename_i e; subst e
    exact getL_none.2 fun p hp => (mem_delL.1 hp).2
  · rename_i e
    cases hg : getL k' l with
    | none =>
      rw [getL_none] at hg ⊢
      exact fun p hp => hg p (mem_delL.1 hp).1
    | some x => exact (getL_iff (srt_delL h)).2 (mem_delL.2 ⟨(getL_iff h).1 hg, e⟩)
theorem getL_setL {k k' : List UInt8} {v : α} (l : List (List UInt8 × α)) : getL k' (setL k v l) = if k' = k then (getL k l).map fun _ => v else getL k' l := by
  unfold getL setL
  rw [List.find?_map]
  have e1 : ((fun p : List UInt8 × α => p.1 == k') ∘ fun p => if (p.1 == k) = true then (p.1, v) else p) = fun p => p.1 == k' := by
    funext p; simp only [Function.comp]; split <;> rfl
  rw [e1]
  split
  · rename_i e; subst e
    cases hf : l.find? fun p => p.1 == k' with
    | none => rfl
    | some p =>
      have := List.find?_some hf
      simp only [Option.map_some]
      rw [if_pos this]
  · rename_i e
    cases hf : l.find? fun p => p.1 == k' with
    | none => rfl
    | some p =>
      have h1 := List.find?_some hf
      have h2 : ¬ (p.1 == k) = true := by
        intro h3
        exact e ((beq_iff_eq.1 h1).symm.trans (beq_iff_eq.1 h3))
      simp only [Option.map_some]
      rw [if_neg h2]
theorem length_insL (k : List UInt8) (v : α) (l : List (List UInt8 × α)) : (insL k v l).length = l.length + 1 := by
  have := (insL_perm k v l).length_eq; simpa using this
theorem delL_none {k : List UInt8} {l : List (List UInt8 × α)} (h : getL k l = none) : delL k l = l := by
  unfold delL
  rw [List.filter_eq_self]
  intro p hp
  simpa using getL_none.1 h p hp
theorem length_delL_le (k : List UInt8) (l : List (List UInt8 × α)) : (delL k l).length ≤ l.length := List.length_filter_le _ _
theorem length_delL {k : List UInt8} {v : α} : ∀ {l : List (List UInt8 × α)}, Srt l → getL k l = some v → (delL k l).length + 1 = l.length
  | [], _, h => by simp [getL] at h
  | y :: r, h, hg => by
    obtain ⟨h1, h2⟩ := List.pairwise_cons.1 h
    by_cases e : y.1 = k
    · subst e
      have hn : getL y.1 r = none := getL_none.2 fun p hp e => by
        have := h1 p hp
        rw [e, WideAt.bytes_irrefl] at this; cases this
      have := delL_none hn
      unfold delL at this ⊢
      rw [List.filter_cons]
      simp [this]
    · have hg' : getL k r = some v := by
        unfold getL at hg ⊢
        rw [List.find?_cons, show (y.1 == k) = false by simpa using e] at hg
        exact hg
      have ih := length_delL h2 hg'
      unfold delL at ih ⊢
      rw [List.filter_cons, if_pos (by simpa using e)]
      simp only [List.length_cons]
      omega
theorem length_putL_new {k : List UInt8} {v : α} {l : List (List UInt8 × α)} (h : getL k l = none) : (putL k v l).length = l.length + 1 := by
  unfold putL; rw [length_insL, delL_none h]
theorem length_putL_le (k : List UInt8) (v : α) (l : List (List UInt8 × α)) : (putL k v l).length ≤ l.length + 1 := by
  unfold putL; rw [length_insL]; have := length_delL_le k l; omega
theorem length_setL (k : List UInt8) (v : α) (l : List (List UInt8 × α)) : (setL k v l).length = l.length := by simp [setL]
theorem length_mapL (f : α → β) (l : List (List UInt8 × α)) : (mapL f l).length = l.length := by simp [mapL]
theorem mem_setL {k : List UInt8} {v : α} {l : List (List UInt8 × α)} {p : List UInt8 × α} : p ∈ setL k v l → (p.1 = k ∧ p.2 = v) ∨ (p ∈ l ∧ p.1 ≠ k) := by
  unfold setL
  rw [List.mem_map]
  rintro ⟨q, hq, rfl⟩
  split
  · rename_i e; exact .inl ⟨by simpa using e, rfl⟩
  · rename_i e; exact .inr ⟨hq, by simpa using e⟩
end

/-! ### as the datum of a map of pointers -/
/-- How a pointer that a map holds reads: as its block's number. -/
def fR : Value → Option (DataW Unit × List MemPlace)
  | .pointer none => some (.nil, [])
  | .pointer (some ⟨b, 0, none⟩) => some (.lit (.int .i64 (b : Int)), [])
  | _ => none
def fD (G : List (List UInt8 × Nat)) : DataW Unit := .map (G.map fun p => (Lit.string p.1, DataW.lit (.int .i64 (p.2 : Int))))
theorem fR_inv {v : Value} {b : Nat} {ps : List MemPlace} (h : fR v = some (.lit (.int .i64 (b : Int)), ps)) : v = .pointer (some ⟨b, 0, none⟩) := by
  unfold fR at h
  split at h
  · simp at h
  · simp at h
    obtain ⟨h, _⟩ := h
    have h := Int.ofNat_inj.1 h
    rw [h]
  · cases h
theorem fR_inv_nil {v : Value} {ps : List MemPlace} (h : fR v = some (.nil, ps)) : v = .pointer none := by
  unfold fR at h
  split at h
  · rfl
  · simp at h
  · cases h
theorem fD_nil : fD [] = .map [] := rfl
theorem fD_ins (k : List UInt8) (b : Nat) : ∀ G : List (List UInt8 × Nat), DataW.insert (Lit.string k, DataW.lit (.int .i64 (b : Int))) (G.map fun p => (Lit.string p.1, (DataW.lit (.int .i64 (p.2 : Int)) : DataW Unit))) = (insL k b G).map fun p => (Lit.string p.1, DataW.lit (.int .i64 (p.2 : Int)))
  | [] => rfl
  | y :: r => by
    have ih := fD_ins k b r
    unfold insL DataW.insert
    simp only [List.map_cons, Lit.before]
    by_cases h : bytesBefore k y.1 = true
    · simp [h]
    · simp [h, ih]
theorem fD_filter (k : List UInt8) (G : List (List UInt8 × Nat)) : ((G.map fun p => (Lit.string p.1, (DataW.lit (.int .i64 (p.2 : Int)) : DataW Unit))).filter fun p => !p.1.sameKey (.string k)) = (delL k G).map fun p => (Lit.string p.1, DataW.lit (.int .i64 (p.2 : Int))) := by
  unfold delL
  rw [List.filter_map]
  rfl
theorem fD_put (k : List UInt8) (b : Nat) (G : List (List UInt8 × Nat)) : (fD G).put (.string k) (.lit (.int .i64 (b : Int))) = fD (putL k b G) := by
  unfold fD DataW.put putL
  simp only [fD_filter, fD_ins]
theorem fD_del (k : List UInt8) (G : List (List UInt8 × Nat)) : (fD G).del (.string k) = fD (delL k G) := by
  unfold fD DataW.del
  simp only [fD_filter]
theorem fD_has (k : List UInt8) (G : List (List UInt8 × Nat)) : Maps.has (fD G) (.string k) = (getL k G).isSome := by
  unfold fD getL
  rw [Maps.has_eq, List.any_map]
  simp only [Option.isSome_map]
  rw [List.isSome_find?]
  rfl
theorem fD_at (k : List UInt8) (G : List (List UInt8 × Nat)) (z : DataW Unit) : (fD G).atKey (.string k) z = match getL k G with | some b => .lit (.int .i64 (b : Int)) | none => z := by
  unfold fD getL DataW.atKey
  simp only [List.find?_map]
  have e : ((fun p : Lit × DataW Unit => p.1.sameKey (.string k)) ∘ fun p : List UInt8 × Nat => (Lit.string p.1, (DataW.lit (.int .i64 (p.2 : Int)) : DataW Unit))) = fun p => p.1 == k := by
    funext p; rfl
  rw [e]
  cases G.find? fun p => p.1 == k <;> rfl
theorem fD_size (G : List (List UInt8 × Nat)) : Maps.size (fD G) = G.length := by simp [fD, Maps.size_eq]
theorem fD_keys (G : List (List UInt8 × Nat)) : strKeys (fD G) = G.map (·.1) := by
  show List.map (fun p : Lit × DataW Unit => strOf p.1) _ = _
  rw [List.map_map]
  rfl
theorem before_le : ∀ {a b : List UInt8}, bytesBefore a b = true → a ≤ b
  | [], _, _ => List.nil_le _
  | _ :: _, [], h => by simp [bytesBefore] at h
  | x :: a, y :: b, h => by
    simp only [bytesBefore, Bool.or_eq_true, decide_eq_true_eq, Bool.and_eq_true, beq_iff_eq] at h
    rw [List.cons_le_cons_iff]
    rcases h with h | ⟨rfl, h⟩
    · exact .inl h
    · exact .inr ⟨rfl, before_le h⟩
theorem sorted_keys {α : Type} {G : List (List UInt8 × α)} (h : Srt G) {ss : List (List UInt8)} (hp : ss.Perm (G.map (·.1))) : (ss.mergeSort fun x y => decide (x ≤ y)) = G.map (·.1) := by
  have h1 := mergeSort_of_perm hp
  change ss.mergeSort (fun x y => decide (x ≤ y)) = _ at h1
  rw [h1]
  refine List.mergeSort_of_pairwise ?_
  rw [List.pairwise_map]
  exact List.Pairwise.imp (fun hab => by simpa using before_le hab) h
end Go.Proofs.YtkfmjkcomjmedaaGreat
namespace Go.Proofs.YtkfmjkcomjmedaaGreat
open Go.RowKit Go.Lib
set_option linter.unusedVariables false

/-! ### what stays -/
/-- The blocks of 'own' hold what they held; nothing else is said. -/
structure Keeps (own : Nat → Prop) (w w' : World) : Prop where
  os : w'.os = w.os
  tape : w'.tape = w.tape
  output : w'.output = w.output
  size : w.heap.size ≤ w'.heap.size
  block : ∀ b, own b → w'.heap[b]? = w.heap[b]?
theorem Keeps.refl (own : Nat → Prop) (w : World) : Keeps own w w := ⟨rfl, rfl, rfl, Nat.le_refl _, fun _ _ => rfl⟩
theorem Keeps.trans {own : Nat → Prop} {a b c : World} (h : Keeps own a b) (k : Keeps own b c) : Keeps own a c :=
  ⟨k.os.trans h.os, k.tape.trans h.tape, k.output.trans h.output, Nat.le_trans h.size k.size, fun i hi => (k.block i hi).trans (h.block i hi)⟩
theorem Keeps.mono {own own' : Nat → Prop} {w w' : World} (h : Keeps own w w') (ho : ∀ b, own' b → own b) : Keeps own' w w' := ⟨h.os, h.tape, h.output, h.size, fun b hb => h.block b (ho b hb)⟩
theorem Keeps.below {own : Nat → Prop} {w w' : World} (h : Keeps own w w') {B : Nat} (ho : ∀ b, b < B → own b) : Below B w w' := ⟨h.os, h.tape, h.output, h.size, fun b hb => h.block b (ho b hb)⟩
theorem Keeps.of_below {own : Nat → Prop} {w w' : World} {B : Nat} (h : Below B w w') (ho : ∀ b, own b → b < B) : Keeps own w w' := ⟨h.os, h.tape, h.output, h.size, fun b hb => h.block b (ho b hb)⟩
theorem Keeps.of_grown {own : Nat → Prop} {w w' : World} {row : Option Nat} (h : w.grownBy w' row) (ho : ∀ b, own b → b < w.heap.size ∧ some b ≠ row) : Keeps own w w' :=
  ⟨h.os, h.tape, h.output, h.size, fun b hb => h.block b (ho b hb).1 (ho b hb).2⟩
theorem Keeps.setCell {own : Nat → Prop} {w : World} (a : Addr) (u : Value) (ho : ∀ b, own b → b ≠ a.block) : Keeps own w (w.setCell a u) :=
  ⟨rfl, rfl, rfl, by simp [World.setCell], fun b hb => Below.heap_setCell _ _ _ _ (ho b hb)⟩
theorem Keeps.alloc {own : Nat → Prop} (w : World) (o : Obj) (ho : ∀ b, own b → b < w.heap.size) : Keeps own w (w.alloc o) :=
  ⟨rfl, rfl, rfl, by simp, fun b hb => Below.heap_alloc _ _ _ (ho b hb)⟩
theorem Keeps.drew {own : Nat → Prop} {a w : World} (h : Keeps own a w) : Keeps own a w.drew := ⟨h.os, h.tape, h.output, h.size, h.block⟩
theorem Keeps.cell {own : Nat → Prop} {w w' : World} (h : Keeps own w w') : ∀ b o, own b → w'.cell? ⟨b, o, none⟩ = w.cell? ⟨b, o, none⟩ := fun b o hb => World.cell?_of_block (w := w) (h.block b hb)
theorem Keeps.frozen {own : Nat → Prop} {w w' : World} (h : Keeps own w w') : ∀ b o, own b → w'.frozen? ⟨b, o, none⟩ = w.frozen? ⟨b, o, none⟩ := fun b o hb => World.frozen?_of_block (w := w) (h.block b hb)

/-! ### plain -/
structure Fl where
  bytes : List UInt8
  sure : Nat
structure Gf where
  fl : Fl
  blk : Nat
  row : Option Nat
structure Ds where
  files : List (List UInt8 × Fl)
  fuse : Int
  off : Bool

/-! ### in memory -/
def FileAt (w : World) (g : Gf) : Prop :=
  ∃ v, w.heap[g.blk]? = some (.cells #[v, .int .i64 (g.fl.sure : Int)] 108 (0, 0)) ∧ w.ownsRow 0 5 1 v g.fl.bytes.length (bv g.fl.bytes) ∧ v.ownBlock = g.row ∧ g.fl.sure ≤ g.fl.bytes.length ∧ g.fl.bytes.length ≤ 4194304
structure Dsk (own : Nat → Prop) (w : World) (d m : Nat) (G : List (List UInt8 × Gf)) (fuse : Int) (off : Bool) : Prop where
  db : w.heap[d]? = some (.cells #[.pointer (some ⟨d, 0, none⟩), .map (some m), .int .i64 fuse, .bool off] 49 (0, 0))
  mp : w.ownsMap Tryz.prog 9 fR m G.length (fD (mapL Gf.blk G))
  srt : Srt G
  file : ∀ p ∈ G, FileAt w p.2
  blk : ∀ p ∈ G, ∀ q ∈ G, p.2.blk = q.2.blk → p.1 = q.1
  row : ∀ p ∈ G, ∀ q ∈ G, ∀ r, p.2.row = some r → q.2.row = some r → p.1 = q.1
  len : G.length ≤ 256
  fz : -9223372036854775808 ≤ fuse ∧ fuse ≤ 9223372036854775807
  own : ∀ b, own b → b < w.heap.size ∧ b ≠ d ∧ b ≠ m ∧ ∀ p ∈ G, b ≠ p.2.blk ∧ p.2.row ≠ some b
def DiskAt (own : Nat → Prop) (w : World) (d : Nat) (S : Ds) : Prop := ∃ m G, Dsk own w d m G S.fuse S.off ∧ mapL Gf.fl G = S.files

theorem heap_lt {w : World} {b : Nat} {o : Obj} (h : w.heap[b]? = some o) : b < w.heap.size := (Array.getElem?_eq_some_iff.1 h).1
theorem FileAt.lt {w : World} {g : Gf} (h : FileAt w g) : g.blk < w.heap.size := by obtain ⟨v, h, _⟩ := h; exact heap_lt h
theorem FileAt.rowAt {w : World} {g : Gf} (h : FileAt w g) {r : Nat} (hr : g.row = some r) : ∃ cur fz, w.heap[r]? = some (.cells cur 5 fz) := by
  obtain ⟨v, _, ho, hv, _⟩ := h
  rw [hr] at hv
  rcases ho.2 with ⟨rfl, _⟩ | ⟨b, cap, cur, rfl, _, hh, _⟩
  · simp [Value.ownBlock] at hv
  · simp [Value.ownBlock] at hv
    subst hv
    exact ⟨cur, _, hh⟩
theorem FileAt.row_lt {w : World} {g : Gf} (h : FileAt w g) {r : Nat} (hr : g.row = some r) : r < w.heap.size := by obtain ⟨c, f, h⟩ := h.rowAt hr; exact heap_lt h
theorem own_same {w w' : World} {base t size n : Nat} {v : Value} {xs : List Value} (h : w.ownsRow base t size v n xs) (hr : ∀ r, v.ownBlock = some r → w'.heap[r]? = w.heap[r]?) : w'.ownsRow base t size v n xs := by
  rcases h.2 with h2 | ⟨g, cap, cur, hv, hbg, hh, h3⟩
  · exact ⟨h.1, .inl h2⟩
  · exact ⟨h.1, .inr ⟨g, cap, cur, hv, hbg, by rw [hr g (by rw [hv]; rfl)]; exact hh, h3⟩⟩
theorem FileAt.same {w w' : World} {g : Gf} (h : FileAt w g) (hb : w'.heap[g.blk]? = w.heap[g.blk]?) (hr : ∀ r, g.row = some r → w'.heap[r]? = w.heap[r]?) : FileAt w' g := by
  obtain ⟨v, h1, h2, h3, h4⟩ := h
  exact ⟨v, hb.trans h1, own_same h2 (by rw [h3]; exact hr), h3, h4⟩
theorem map_same {P : Program} {k : TypeId} {R : Value → Option (DataW Unit × List MemPlace)} {w w' : World} {b n : Nat} {D : DataW Unit} (h : w.ownsMap P k R b n D) (hb : w'.heap[b]? = w.heap[b]?) : w'.ownsMap P k R b n D := by
  obtain ⟨es, clock, h1, h2⟩ := h
  exact ⟨es, clock, hb.trans h1, h2⟩
theorem map_exact {P : Program} {k : TypeId} {R : Value → Option (DataW Unit × List MemPlace)} {w : World} {b n : Nat} {D : DataW Unit} (h : w.ownsMap P k R b n D) : w.ownsMap P k R b (Maps.size D) D := by
  obtain ⟨es, clock, h1, h2, h3, rfl⟩ := h
  exact ⟨es, clock, h1, h2, by simp [Maps.size, length_sorted], rfl⟩

section
variable {own : Nat → Prop} {w w' : World} {d m : Nat} {G : List (List UInt8 × Gf)} {fuse : Int} {off : Bool}
theorem Dsk.d_lt (h : Dsk own w d m G fuse off) : d < w.heap.size := heap_lt h.db
theorem Dsk.m_lt (h : Dsk own w d m G fuse off) : m < w.heap.size := h.mp.lt
theorem Dsk.m_obj (h : Dsk own w d m G fuse off) : ∃ es c, w.heap[m]? = some (.map es c) := by obtain ⟨es, c, h, _⟩ := h.mp; exact ⟨es, c, h⟩
theorem Dsk.dm (h : Dsk own w d m G fuse off) : d ≠ m := by
  rintro rfl
  obtain ⟨es, c, h2⟩ := h.m_obj
  rw [h.db] at h2; cases h2
theorem FileAt.not_map {g : Gf} (hf : FileAt w g) {es : Array MapEntry} {c : Nat} (hm : w.heap[m]? = some (.map es c)) : g.blk ≠ m ∧ g.row ≠ some m := by
  constructor
  · rintro rfl
    obtain ⟨v, h1, _⟩ := hf
    rw [hm] at h1; cases h1
  · intro hr
    obtain ⟨cur, fz, h1⟩ := hf.rowAt hr
    rw [hm] at h1; cases h1
theorem FileAt.not_disk {g : Gf} (hf : FileAt w g) {cs : Array Value} {fz : Nat × Nat} (hm : w.heap[d]? = some (.cells cs 49 fz)) : g.blk ≠ d ∧ g.row ≠ some d := by
  constructor
  · rintro rfl
    obtain ⟨v, h1, _⟩ := hf
    rw [hm] at h1; cases h1
  · intro hr
    obtain ⟨cur, fz, h1⟩ := hf.rowAt hr
    rw [hm] at h1; cases h1
theorem FileAt.apart {g g' : Gf} (hf : FileAt w g) (hg : FileAt w g') : g'.row ≠ some g.blk := by
  intro hr
  obtain ⟨cur, fz, h1⟩ := hg.rowAt hr
  obtain ⟨v, h2, _⟩ := hf
  rw [h2] at h1; cases h1
/-- The disk stays while its own blocks do. -/
theorem Dsk.same (h : Dsk own w d m G fuse off) (hd : w'.heap[d]? = w.heap[d]?) (hm : w'.heap[m]? = w.heap[m]?) (hf : ∀ p ∈ G, w'.heap[p.2.blk]? = w.heap[p.2.blk]?) (hr : ∀ p ∈ G, ∀ r, p.2.row = some r → w'.heap[r]? = w.heap[r]?) (hsz : w.heap.size ≤ w'.heap.size) : Dsk own w' d m G fuse off :=
  ⟨hd.trans h.db, map_same h.mp hm, h.srt, fun p hp => (h.file p hp).same (hf p hp) (hr p hp), h.blk, h.row, h.len, h.fz, fun b hb => ⟨Nat.lt_of_lt_of_le (h.own b hb).1 hsz, (h.own b hb).2⟩⟩
theorem Dsk.below (h : Dsk own w d m G fuse off) (hb : Below w.heap.size w w') : Dsk own w' d m G fuse off :=
  h.same (hb.block _ h.d_lt) (hb.block _ h.m_lt) (fun p hp => hb.block _ (h.file p hp).lt) (fun p hp r hr => hb.block _ ((h.file p hp).row_lt hr)) hb.size
theorem Dsk.weaken (h : Dsk own w d m G fuse off) {own' : Nat → Prop} (ho : ∀ b, own' b → own b) : Dsk own' w d m G fuse off :=
  ⟨h.db, h.mp, h.srt, h.file, h.blk, h.row, h.len, h.fz, fun b hb => h.own b (ho b hb)⟩
/-- A block that was made since is nobody's. -/
theorem Dsk.fresh (h : Dsk own w d m G fuse off) (hb : Below w.heap.size w w') : Dsk (fun b => own b ∨ (w.heap.size ≤ b ∧ b < w'.heap.size)) w' d m G fuse off := by
  have h' := h.below hb
  refine ⟨h'.db, h'.mp, h'.srt, h'.file, h'.blk, h'.row, h'.len, h'.fz, fun b ho => ?_⟩
  rcases ho with ho | ⟨h1, h2⟩
  · exact h'.own b ho
  · have := h.d_lt
    have := h.m_lt
    refine ⟨h2, by omega, by omega, fun p hp => ⟨?_, fun hr => ?_⟩⟩
    · have := (h.file p hp).lt; omega
    · have := (h.file p hp).row_lt hr; omega
theorem setCell_at {w : World} {b i : Nat} {cs : Array Value} {t : TypeId} {fz : Nat × Nat} (h : w.heap[b]? = some (.cells cs t fz)) (u : Value) : (w.setCell ⟨b, i, none⟩ u).heap[b]? = some (.cells (cs.setIfInBounds i u) t fz) := by
  simp [World.setCell, Array.getElem?_modify, h]
/-- Its own block is written. -/
theorem Dsk.reDisk (h : Dsk own w d m G fuse off) {f' : Int} {off' : Bool} (hd : w'.heap[d]? = some (.cells #[.pointer (some ⟨d, 0, none⟩), .map (some m), .int .i64 f', .bool off'] 49 (0, 0)))
    (hf : -9223372036854775808 ≤ f' ∧ f' ≤ 9223372036854775807) (hs : ∀ b, b ≠ d → w'.heap[b]? = w.heap[b]?) (hsz : w.heap.size ≤ w'.heap.size) : Dsk own w' d m G f' off' :=
  ⟨hd, map_same h.mp (hs _ h.dm.symm), h.srt, fun p hp => (h.file p hp).same (hs _ ((h.file p hp).not_disk h.db).1) (fun r hr => hs _ (fun e => ((h.file p hp).not_disk h.db).2 (e ▸ hr))), h.blk, h.row, h.len, hf, fun b hb => ⟨Nat.lt_of_lt_of_le (h.own b hb).1 hsz, (h.own b hb).2⟩⟩
theorem Dsk.setFuse (h : Dsk own w d m G fuse off) (f' : Int) (hf : -9223372036854775808 ≤ f' ∧ f' ≤ 9223372036854775807) : Dsk own (w.setCell ⟨d, 2, none⟩ (.int .i64 f')) d m G f' off :=
  h.reDisk (by rw [setCell_at h.db]; rfl) hf (fun b hb => Below.heap_setCell _ _ _ _ hb) (by simp [World.setCell])
theorem Dsk.setOff (h : Dsk own w d m G fuse off) (o' : Bool) : Dsk own (w.setCell ⟨d, 3, none⟩ (.bool o')) d m G fuse o' :=
  h.reDisk (by rw [setCell_at h.db]; rfl) h.fz (fun b hb => Below.heap_setCell _ _ _ _ hb) (by simp [World.setCell])
theorem Dsk.keepsCell (h : Dsk own w d m G fuse off) (i : Nat) (u : Value) : Keeps own w (w.setCell ⟨d, i, none⟩ u) := Keeps.setCell _ _ fun b hb => (h.own b hb).2.1
/-- A file is written. -/
theorem Dsk.reFile (h : Dsk own w d m G fuse off) {k : List UInt8} {g g' : Gf} (hg : getL k G = some g) (hb : g'.blk = g.blk) (hf : FileAt w' g') (hs : ∀ b, b < w.heap.size → b ≠ g.blk → g.row ≠ some b → w'.heap[b]? = w.heap[b]?)
    (hr : ∀ r, g'.row = some r → g.row = some r ∨ w.heap.size ≤ r) (hsz : w.heap.size ≤ w'.heap.size) : Dsk own w' d m (setL k g' G) fuse off := by
  have hm := (getL_iff h.srt).1 hg
  have hgf := h.file _ hm
  obtain ⟨es, c, ho⟩ := h.m_obj
  have n1 := hgf.not_disk h.db
  have n2 := hgf.not_map ho
  refine ⟨(hs _ h.d_lt n1.1.symm n1.2).trans h.db, ?_, srt_setL h.srt, ?_, ?_, ?_, by rw [length_setL]; exact h.len, h.fz, ?_⟩
  · have e : mapL Gf.blk (setL k g' G) = mapL Gf.blk G := by
      unfold mapL setL
      rw [List.map_map]
      refine List.map_congr_left fun p hp => ?_
      simp only [Function.comp]
      split
      · rename_i e
        have e : p.1 = k := by simpa using e
        have : (k, p.2) ∈ G := by rw [← e]; exact hp
        have := (getL_iff h.srt).2 this
        rw [hg] at this
        cases this
        rw [hb]
      · rfl
    rw [e, length_setL]
    exact map_same h.mp (hs _ h.m_lt n2.1.symm n2.2)
  · intro p hp
    rcases mem_setL hp with ⟨h1, h2⟩ | ⟨h1, h2⟩
    · rw [h2]; exact hf
    · have hpf := h.file _ h1
      refine hpf.same (hs _ hpf.lt (fun e => h2 (h.blk _ h1 _ hm e)) (hpf.apart hgf)) fun r hr' => ?_
      exact hs _ (hpf.row_lt hr') (fun e => hgf.apart hpf (e ▸ hr')) (fun e => h2 (h.row _ h1 _ hm r hr' e))
  · intro p hp q hq e
    rcases mem_setL hp with ⟨h1, h2⟩ | ⟨h1, h2⟩
    · rcases mem_setL hq with ⟨h3, h4⟩ | ⟨h3, h4⟩
      · rw [h1, h3]
      · rw [h2, hb] at e
        exact absurd (h.blk _ hm _ h3 e) (fun e => h4 e.symm)
    · rcases mem_setL hq with ⟨h3, h4⟩ | ⟨h3, h4⟩
      · rw [h4, hb] at e
        exact absurd (h.blk _ h1 _ hm e) h2
      · exact h.blk _ h1 _ h3 e
  · intro p hp q hq r e1 e2
    rcases mem_setL hp with ⟨h1, h2⟩ | ⟨h1, h2⟩
    · rcases mem_setL hq with ⟨h3, h4⟩ | ⟨h3, h4⟩
      · rw [h1, h3]
      · rw [h2] at e1
        rcases hr r e1 with e | e
        · exact absurd (h.row _ hm _ h3 r e e2) (fun e => h4 e.symm)
        · have := (h.file _ h3).row_lt e2; omega
    · rcases mem_setL hq with ⟨h3, h4⟩ | ⟨h3, h4⟩
      · rw [h4] at e2
        rcases hr r e2 with e | e
        · exact absurd (h.row _ h1 _ hm r e1 e) h2
        · have := (h.file _ h1).row_lt e1; omega
      · exact h.row _ h1 _ h3 r e1 e2
  · intro b ho
    obtain ⟨o1, o2, o3, o4⟩ := h.own b ho
    refine ⟨Nat.lt_of_lt_of_le o1 hsz, o2, o3, fun p hp => ?_⟩
    rcases mem_setL hp with ⟨h1, h2⟩ | ⟨h1, h2⟩
    · rw [h2, hb]
      refine ⟨(o4 _ hm).1, fun e => ?_⟩
      rcases hr b e with e | e
      · exact (o4 _ hm).2 e
      · omega
    · exact o4 _ h1
theorem Dsk.reFile_keeps (h : Dsk own w d m G fuse off) {k : List UInt8} {g : Gf} (hg : getL k G = some g) (hos : w'.os = w.os) (htp : w'.tape = w.tape) (hou : w'.output = w.output) (hsz : w.heap.size ≤ w'.heap.size)
    (hs : ∀ b, b < w.heap.size → b ≠ g.blk → g.row ≠ some b → w'.heap[b]? = w.heap[b]?) : Keeps own w w' :=
  ⟨hos, htp, hou, hsz, fun b hb => hs b (h.own b hb).1 ((h.own b hb).2.2.2 _ ((getL_iff h.srt).1 hg)).1 ((h.own b hb).2.2.2 _ ((getL_iff h.srt).1 hg)).2⟩
/-- A file is put under a name. -/
theorem Dsk.putFile (h : Dsk own w d m G fuse off) {k : List UInt8} {g : Gf} {n : Nat} (hf : FileAt w g) (hg : w.grownBy w' (some m)) (hm : w'.ownsMap Tryz.prog 9 fR m n (fD (putL k g.blk (mapL Gf.blk G))))
    (hb : ∀ p ∈ G, p.1 ≠ k → p.2.blk ≠ g.blk) (hr : ∀ p ∈ G, p.1 ≠ k → ∀ r, p.2.row = some r → g.row ≠ some r) (ho : ∀ b, own b → b ≠ g.blk ∧ g.row ≠ some b) (hl : (putL k g G).length ≤ 256) : Dsk own w' d m (putL k g G) fuse off := by
  obtain ⟨es, c, hmo⟩ := h.m_obj
  have hs : ∀ b, b < w.heap.size → b ≠ m → w'.heap[b]? = w.heap[b]? := fun b hb hne => hg.block b hb (fun e => hne (Option.some.inj e))
  have keepF : ∀ g', FileAt w g' → FileAt w' g' := fun g' hf' =>
    hf'.same (hs _ hf'.lt (hf'.not_map hmo).1) fun r hr' => hs _ (hf'.row_lt hr') (fun e => (hf'.not_map hmo).2 (e ▸ hr'))
  refine ⟨(hs _ h.d_lt h.dm).trans h.db, ?_, srt_putL h.srt, ?_, ?_, ?_, hl, h.fz, ?_⟩
  · have h1 := map_exact hm
    rw [fD_size] at h1
    rw [mapL_putL, ← length_mapL Gf.blk (putL k g G), mapL_putL]
    exact h1
  · intro p hp
    rcases mem_putL.1 hp with rfl | ⟨h1, h2⟩
    · exact keepF _ hf
    · exact keepF _ (h.file _ h1)
  · intro p hp q hq e
    rcases mem_putL.1 hp with rfl | ⟨h1, h2⟩ <;> rcases mem_putL.1 hq with rfl | ⟨h3, h4⟩
    · rfl
    · exact absurd e.symm (hb _ h3 h4)
    · exact absurd e (hb _ h1 h2)
    · exact h.blk _ h1 _ h3 e
  · intro p hp q hq r e1 e2
    rcases mem_putL.1 hp with rfl | ⟨h1, h2⟩ <;> rcases mem_putL.1 hq with rfl | ⟨h3, h4⟩
    · rfl
    · exact absurd e1 (hr _ h3 h4 r e2)
    · exact absurd e2 (hr _ h1 h2 r e1)
    · exact h.row _ h1 _ h3 r e1 e2
  · intro b hbo
    obtain ⟨o1, o2, o3, o4⟩ := h.own b hbo
    refine ⟨Nat.lt_of_lt_of_le o1 hg.size, o2, o3, fun p hp => ?_⟩
    rcases mem_putL.1 hp with rfl | ⟨h1, h2⟩
    · exact ho b hbo
    · exact o4 _ h1
theorem Dsk.mapKeeps (h : Dsk own w d m G fuse off) (hg : w.grownBy w' (some m)) : Keeps own w w' := Keeps.of_grown hg fun b hb => ⟨(h.own b hb).1, fun e => (h.own b hb).2.2.1 (Option.some.inj e)⟩
/-- A file is taken away. -/
theorem Dsk.delFile (h : Dsk own w d m G fuse off) {k : List UInt8} {n : Nat} (hg : w.grownBy w' (some m)) (hm : w'.ownsMap Tryz.prog 9 fR m n (fD (delL k (mapL Gf.blk G)))) : Dsk own w' d m (delL k G) fuse off := by
  obtain ⟨es, c, hmo⟩ := h.m_obj
  have hs : ∀ b, b < w.heap.size → b ≠ m → w'.heap[b]? = w.heap[b]? := fun b hb hne => hg.block b hb (fun e => hne (Option.some.inj e))
  have keepF : ∀ g', FileAt w g' → FileAt w' g' := fun g' hf' =>
    hf'.same (hs _ hf'.lt (hf'.not_map hmo).1) fun r hr' => hs _ (hf'.row_lt hr') (fun e => (hf'.not_map hmo).2 (e ▸ hr'))
  refine ⟨(hs _ h.d_lt h.dm).trans h.db, ?_, srt_delL h.srt, ?_, ?_, ?_, Nat.le_trans (length_delL_le k G) h.len, h.fz, ?_⟩
  · have h1 := map_exact hm
    rw [fD_size] at h1
    rw [mapL_delL, ← length_mapL Gf.blk (delL k G), mapL_delL]
    exact h1
  · intro p hp; exact keepF _ (h.file _ (mem_delL.1 hp).1)
  · intro p hp q hq e; exact h.blk _ (mem_delL.1 hp).1 _ (mem_delL.1 hq).1 e
  · intro p hp q hq r e1 e2; exact h.row _ (mem_delL.1 hp).1 _ (mem_delL.1 hq).1 r e1 e2
  · intro b hbo
    obtain ⟨o1, o2, o3, o4⟩ := h.own b hbo
    exact ⟨Nat.lt_of_lt_of_le o1 hg.size, o2, o3, fun p hp => o4 _ (mem_delL.1 hp).1⟩
end

/-! ### bytes behind a row of one's own: which block the row then lies in -/
theorem str_own {P : Program} (w : World) (t u ty e : TypeId) (i : TypeInfo) (ht : P.underlying t = some (.slice e)) (hu : P.underlying u = some .string) (hi : P.info? e = some i) (hz : i.zero = some (.int .u8 0))
    (hsize : i.size = 1) (hby : i.bytes = 1) (v : Value) (n : Nat) (xs : List Value) (hown : w.ownsRow 0 e 1 v n xs) (s : ByteArray) (h63 : n + s.size ≤ maxLen) (hbytes : n + s.size ≤ 140737488355328) :
    ∃ v' w', (Builtin.append_ #[t, u] ty #[v, .string s]).run P w = .ok v' w' ∧ w'.ownsRow 0 e 1 v' (n + s.size) (xs ++ strCells s) ∧ w.grownBy w' v.ownBlock ∧ ∀ r, v'.ownBlock = some r → v.ownBlock = some r ∨ w.heap.size ≤ r := by
  rcases hown.2 with ⟨rfl, rfl⟩ | ⟨g, cap, cur, rfl, hbg, hg, hnc, hcm, hcs, htake⟩
  · have hx : xs = [] := List.eq_nil_of_length_eq_zero (by simpa using hown.1)
    subst hx
    obtain ⟨v', w', h1, h2, h3, h4⟩ := run_append_own_string (P := P) w w.heap.size t u ty e i ht hu hi hz hsize hby (.slice none 0 0) 0 [] (World.ownsRow_nil ..) s h63 hbytes (Nat.le_refl _)
    refine ⟨v', w', h1, ⟨h2.1, ?_⟩, h3, fun r hr => .inr (h2.lt r hr).1⟩
    rcases h2.2 with h | ⟨g, cap, cur, hv, hb, h⟩
    · exact .inl h
    · exact .inr ⟨g, cap, cur, hv, Nat.zero_le _, h⟩
  · have hsmall : n + s.size ≤ 9223372036854775807 := by simp only [maxLen] at h63; omega
    have hxl : xs.length = n := by simpa using hown.1
    have hlen : (xs ++ strCells s).length = (n + s.size) * 1 := by rw [List.length_append, hxl, strCells_length, Nat.mul_one]
    by_cases hroom : n + s.size ≤ cap
    · have hcs' : cur.size = cap := by simpa using hcs
      have hr := run_append_room_string (P := P) w t u ty e i ht hu hi hsize g n cap cur hg s hroom (by omega)
      refine ⟨_, _, hr, ⟨hlen, .inr ⟨g, cap, _, rfl, hbg, setRow_heap w g cur _ e _ hg, hroom, hcm, ?_, ?_⟩⟩, ⟨rfl, rfl, rfl, by simp, fun k _ hk => setRow_other w g k _ (fun e => hk (by simp [Value.ownBlock, e]))⟩, fun r hr => .inl hr⟩
      · simp only [List.size_toArray, List.length_append, List.length_take, List.length_drop, Array.length_toList, strCells_length]
        omega
      · have ht' : cur.toList.take n = xs := by simpa using htake
        rw [ht', ← hlen]
        exact List.take_left
    · have holds : ∀ j u, xs[j]? = some u → w.cell? ((⟨g, 0, none⟩ : Addr).add j) = some u := hown.cells (g := g) rfl
      have hr := run_append_grow_string (P := P) w t u ty e i (.int .u8 0) ht hu hi hz ⟨g, 0, none⟩ n cap xs (by rw [hsize]; simpa using hxl) holds s (by omega) (by omega) (by rw [hby]; exact growslice_fits (by omega) (by omega))
      have hge := grownCap_ge w (n + s.size) cap e
      have hcm2 : grownCap w (n + s.size) cap e ≤ maxLen := grownCap_le_maxLen w (n + s.size) cap e h63
      refine ⟨_, _, hr, ⟨hlen, .inr ⟨w.heap.size, _, _, rfl, Nat.zero_le _, heap_alloc_new w.drew _, hge, hcm2, ?_, ?_⟩⟩, ⟨rfl, rfl, rfl, by simp, fun k hk _ => Below.heap_alloc w.drew _ k hk⟩, fun r hr => .inr (by simp [Value.ownBlock] at hr; omega)⟩
      · have hz1 : (Value.int IntKind.u8 0).cells.size = 1 := rfl
        simp only [Array.size_append, List.size_toArray, size_zeroCells, hz1, hxl, strCells_length]
        omega
      · simp only [Array.toList_append, List.append_assoc]
        rw [← List.append_assoc, ← hlen]
        exact List.take_left
theorem wpList_str_own {P : Program} {w : World} {ops : Array Oper} {rest : List Oper} {o : Oper} {a : Act} {Q : Exit → Act → World → Prop} (hgd : o.guard = none) (sl x : Operand) (t u : TypeId)
    (ho : o.op = .call { callee := .builtin .append, args := #[sl, x], argTypes := #[t, u] })
    (e : TypeId) (i : TypeInfo) (ht : P.underlying t = some (.slice e)) (hu : P.underlying u = some .string) (hi : P.info? e = some i) (hz : i.zero = some (.int .u8 0))
    (hsize : i.size = 1) (hby : i.bytes = 1)
    (v : Value) (n : Nat) (xs : List Value) (hs : a.eval sl = v) (hown : w.ownsRow 0 e 1 v n xs) (s : ByteArray) (hx : a.eval x = .string s)
    (h63 : n + s.size ≤ maxLen) (hbytes : n + s.size ≤ 140737488355328)
    (h : ∀ v' w', w'.ownsRow 0 e 1 v' (n + s.size) (xs ++ strCells s) → w.grownBy w' v.ownBlock → (∀ r, v'.ownBlock = some r → v.ownBlock = some r ∨ w.heap.size ≤ r) → wpList P ops Q rest (a.put o.dst v') w') : wpList P ops Q (o :: rest) a w := by
  refine wpList_plain hgd fun K hK => ?_
  obtain ⟨v', w', hr, h2, h3, h4⟩ := str_own (P := P) w t u o.type e i ht hu hi hz hsize hby v n xs hown s h63 hbytes
  unfold Oper.wp execOp
  simp only [ho, resolve, invoke, builtin, Sem.run_bind, Sem.run_pure, Result.andThen_ok, List.map_toArray, List.map_cons, List.map_nil, hs, hx, hr]
  exact hK _ _ (h v' w' h2 h3 h4)
theorem strCells_bv (s : ByteArray) : strCells s = bv s.data.toList := rfl
/-- A row cut shorter. -/
theorem own_cut {w : World} {base t n cap : Nat} {a : Option Addr} {xs : List Value} (h : w.ownsRow base t 1 (.slice a n cap) n xs) (j : Nat) (hj : j ≤ n) : w.ownsRow base t 1 (.slice a j cap) j (xs.take j) := by
  have h1 : xs.length = n := by simpa using h.1
  refine ⟨by rw [List.length_take]; omega, ?_⟩
  rcases h.2 with ⟨hv, hn⟩ | ⟨g, cap', cur, hv, hbg, hh, h2, h3, h4, h5⟩
  · cases hv
    obtain rfl : j = 0 := by omega
    exact .inl ⟨rfl, rfl⟩
  · cases hv
    refine .inr ⟨g, cap, cur, rfl, hbg, hh, by omega, h3, h4, ?_⟩
    rw [← h5, List.take_take]
    congr 1
    omega
end Go.Proofs.YtkfmjkcomjmedaaGreat
namespace Go.Proofs.YtkfmjkcomjmedaaGreat
open Go.RowKit
set_option linter.unusedVariables false

/-- May a byte be in a name? -/
def namB (b : UInt8) : Bool := (decide (97 ≤ (b.toNat : Int)) && decide ((b.toNat : Int) ≤ 122)) || (decide (48 ≤ (b.toNat : Int)) && decide ((b.toNat : Int) ≤ 57)) || decide ((b.toNat : Int) = 46) || decide ((b.toNat : Int) = 45)
/-- May a name be? -/
def namL (s : List UInt8) : Bool := decide (0 < s.length) && decide (s.length ≤ 32) && s.all namB

theorem ret_b {a b : Bool} (h : a = b) : Ending.returned (.bool a) = .returned (.bool b) := by rw [h]
theorem ret_i {a b : Int} (h : a = b) : Ending.returned (.int .i64 a) = .returned (.int .i64 b) := by rw [h]
theorem named_any (b : UInt8) (w : World) : Calls Tryz.prog 114 #[.int .u8 (b.toNat : Int)] w fun e w' => e = .returned (.bool (namB b)) ∧ w = w' := by
  have hb := b.toNat_lt
  go_enter Tryz.func114, Tryz.ntmps114
  go_wp2
  all_goals (go_ret; exact ⟨ret_b (by rw [Bool.eq_iff_iff]; simp [namB]; omega), rfl⟩)
theorem take_all_snoc {α : Type} (f : α → Bool) (l : List α) (j : Nat) (h : j < l.length) : (l.take (j + 1)).all f = ((l.take j).all f && f l[j]) := by
  rw [List.take_succ_eq_append_getElem h, List.all_append]; simp
theorem all_false_at {α : Type} (f : α → Bool) (l : List α) (j : Nat) (h : j < l.length) (hf : f l[j] = false) : l.all f = false := by
  cases hh : l.all f with
  | false => rfl
  | true => rw [List.all_eq_true] at hh; rw [hh _ (List.getElem_mem h)] at hf; cases hf
/-- The texts that may be, so far. -/
def AllN (ts : List (List UInt8)) (k : Nat) : Prop := (ts.take k).all namL = true
def AllB (t : List UInt8) (j : Nat) : Prop := (t.take j).all namB = true
set_option maxRecDepth 100000 in
set_option maxHeartbeats 1000000 in
theorem mayBe_any (a : Option Addr) (cap : Nat) (ts : List (List UInt8)) (w : World) (h : Rd w a ts) (hl : ts.length ≤ maxLen) (hs : ∀ t ∈ ts, t.length ≤ maxLen) :
    Calls Tryz.prog 96 #[.slice a ts.length cap] w fun e w' => e = .returned (.bool (ts.all namL)) ∧ w = w' := by
  unfold maxLen at hl
  have HS := Lib.hid hs
  have HR := Lib.hid h
  clear hs h
  go_enter Tryz.func96, Tryz.ntmps96
  go_wp2
  go_loop [8] (fun i => ∃ k : Nat, k ≤ ts.length ∧ i = .int .i64 k ∧ AllN ts k) (fun i => ts.length - (intOf i).toNat)
  case atStart => exact ⟨0, Nat.zero_le _, rfl, rfl⟩
  case round =>
    obtain ⟨k, hk, rfl, hA⟩ := hrel
    by_cases hlt : k < ts.length
    · obtain ⟨b, off, rfl, hb, hc⟩ : ∃ b off, a = some ⟨b, off, none⟩ ∧ b < w.heap.size ∧ w.cell? ⟨b, off + k, none⟩ = some (.string ⟨ts[k].toArray⟩) := by
        rcases HR.out with rfl | ⟨b, off, h1, h2, h3⟩
        · simp at hlt
        · exact ⟨b, off, h1, h2, h3 k hlt⟩
      have hz : (⟨ts[k].toArray⟩ : ByteArray).size = ts[k].length := size_mkl _
      have hm := HS.out _ (List.getElem_mem hlt)
      unfold maxLen at hm
      generalize hT : ts[k] = t at hz hm hc
      have HT := Lib.hid hT
      clear hT
      have bad : namL t = false → ts.all namL = false := fun hf => all_false_at namL ts k hlt (by rw [HT.out]; exact hf)
      have BAD := Lib.hid bad
      have HA := Lib.hid hA
      clear bad hA
      by_cases h0 : t.length = 0
      · have hz0 : ((t.length : Int) == 0) = true := by simpa using h0
        clear hz
        go_wp2
        go_ret
        exact ⟨ret_b (BAD.out (by unfold namL; rw [h0]; rfl)).symm, rfl⟩
      · by_cases h32 : 32 < t.length
        · have hz1 : 32 < (t.length : Int) := by omega
          have hz0 : ((t.length : Int) == 0) = false := by simpa using h0
          clear hz
          go_wp2
          go_ret
          exact ⟨ret_b (BAD.out (by unfold namL; rw [decide_eq_false (show ¬ t.length ≤ 32 by omega)]; simp)).symm, rfl⟩
        · have hz1 : (t.length : Int) ≤ 32 := by omega
          have hz0 : ((t.length : Int) == 0) = false := by simpa using h0
          have HZ := Lib.hid hz
          clear hz
          go_wp2
          go_loop [22] (fun i => ∃ j : Nat, j ≤ t.length ∧ i = .int .i64 j ∧ AllB t j) (fun i => t.length - (intOf i).toNat)
          case atStart => exact ⟨0, Nat.zero_le _, rfl, rfl⟩
          case round =>
            obtain ⟨j, hj, rfl, hB⟩ := hrel
            by_cases hjt : j < t.length
            · have hjs : (j : Int) < (t.length : Int) := by omega
              cases hn : namB t[j] with
              | true =>
                have C := named_any t[j]
                rw [hn] at C
                go_wp2_with (go_at_call 114; refine (C _).mono ?_; rintro e w' ⟨rfl, rfl⟩)
                go_round
                case rel => exact ⟨j + 1, by omega, by go_num, by unfold AllB at hB ⊢; rw [take_all_snoc namB t j hjt, hB, hn]; rfl⟩
                case measure => simp [intOf]; omega
              | false =>
                have C := named_any t[j]
                rw [hn] at C
                go_wp2_with (go_at_call 114; refine (C _).mono ?_; rintro e w' ⟨rfl, rfl⟩)
                go_ret
                exact ⟨ret_b (BAD.out (by unfold namL; rw [all_false_at namB t j hjt hn]; simp)).symm, rfl⟩
            · have hje : j = t.length := by omega
              have HJ := Lib.hid hje
              clear hje
              have hjs : ¬ (j : Int) < (t.length : Int) := by omega
              go_wp2
              go_round
              case rel =>
                refine ⟨k + 1, by omega, by go_num, ?_⟩
                have h1 := HA.out
                unfold AllN AllB at *
                rw [take_all_snoc namL ts k hlt, h1, HT.out]
                rw [HJ.out, List.take_length] at hB
                unfold namL
                rw [hB, decide_eq_true (show 0 < t.length by omega), decide_eq_true (show t.length ≤ 32 by omega)]
                rfl
              case measure => simp [intOf]; omega
    · have hke : k = ts.length := by omega
      have HK := Lib.hid hke
      clear hke
      go_wp2
      go_ret
      refine ⟨ret_b ?_, rfl⟩
      unfold AllN at hA
      rw [HK.out, List.take_length] at hA
      exact hA.symm
end Go.Proofs.YtkfmjkcomjmedaaGreat
namespace Go.Proofs.YtkfmjkcomjmedaaGreat
open Go.RowKit
set_option linter.unusedVariables false

theorem cell_of {w : World} {b : Nat} {cs : Array Value} {t : TypeId} {fz : Nat × Nat} (h : w.heap[b]? = some (.cells cs t fz)) (i : Nat) : w.cell? ⟨b, i, none⟩ = cs[i]? := by simp [World.cell?, h]
theorem frozen_of {w : World} {b : Nat} {cs : Array Value} {t : TypeId} (h : w.heap[b]? = some (.cells cs t (0, 0))) (i : Nat) : w.frozen? ⟨b, i, none⟩ = false := by simp [World.frozen?, h]
structure DCells (w : World) (d m : Nat) (fuse : Int) (off : Bool) : Prop where
  c0 : w.cell? ⟨d, 0, none⟩ = some (.pointer (some ⟨d, 0, none⟩))
  c1 : w.cell? ⟨d, 1, none⟩ = some (.map (some m))
  c2 : w.cell? ⟨d, 2, none⟩ = some (.int .i64 fuse)
  c3 : w.cell? ⟨d, 3, none⟩ = some (.bool off)
  f2 : w.frozen? ⟨d, 2, none⟩ = false
  f3 : w.frozen? ⟨d, 3, none⟩ = false
  lt : d < w.heap.size
theorem Dsk.cells {own : Nat → Prop} {w : World} {d m : Nat} {G : List (List UInt8 × Gf)} {fuse : Int} {off : Bool} (h : Dsk own w d m G fuse off) : DCells w d m fuse off :=
  ⟨cell_of h.db 0, cell_of h.db 1, cell_of h.db 2, cell_of h.db 3, frozen_of h.db 2, frozen_of h.db 3, h.d_lt⟩

theorem infoDisk : (Tryz.prog.info? 49).map (·.size) = some 4 := by kernel_rfl
theorem ptr_same (a : Addr) (w : World) : (binOp .eql 24 (.pointer (some a)) (.pointer (some a))).run Tryz.prog w = .ok (.bool true) w := by
  obtain ⟨j, hj, _⟩ := Option.map_eq_some_iff.1 infoDisk
  exact run_eql_ptr_same w a Tryz.underlying24 hj
theorem ptr_nil_left (a : Addr) (w : World) : (binOp .eql 24 (.pointer none) (.pointer (some a))).run Tryz.prog w = .ok (.bool false) w := by
  have h : ∀ d : Nat, (Op.equalIn (d + 1) 24 (.pointer none) (.pointer (some a))).run Tryz.prog w = .ok false w := fun d => by
    simp [Op.equalIn, run_underlying Tryz.underlying24]
  simp only [binOp]
  simp [Op.equal, Op.maxDepth, h 9999]
theorem given_yes (d : Nat) (w : World) (h : w.cell? ⟨d, 0, none⟩ = some (.pointer (some ⟨d, 0, none⟩))) : Calls Tryz.prog 33 #[.pointer (some ⟨d, 0, none⟩)] w fun e w' => e = .returned (.bool true) ∧ w = w' := by
  have E := ptr_same ⟨d, 0, none⟩
  go_enter Tryz.func33, Tryz.ntmps33
  go_wp2
  go_ret
  exact ⟨rfl, rfl⟩
theorem given_nil (w : World) : Calls Tryz.prog 33 #[.pointer none] w fun e w' => e = .returned (.bool false) ∧ w = w' := by
  go_enter Tryz.func33, Tryz.ntmps33
  go_wp2
  go_ret
  exact ⟨rfl, rfl⟩
theorem given_no (d : Nat) (w : World) (h : w.cell? ⟨d, 0, none⟩ = some (.pointer none)) : Calls Tryz.prog 33 #[.pointer (some ⟨d, 0, none⟩)] w fun e w' => e = .returned (.bool false) ∧ w = w' := by
  have E := ptr_nil_left ⟨d, 0, none⟩
  go_enter Tryz.func33, Tryz.ntmps33
  go_wp2
  go_ret
  exact ⟨rfl, rfl⟩
/-- What ask answers. -/
def askE (ok off : Bool) : Int := if ok = true then (if off = true then 50 else 0) else 1
theorem ask_nil (p : Option Addr) (hp : ∀ w : World, ∀ b, w = b → True) (v : Value) (w : World) (h : Calls Tryz.prog 33 #[.pointer p] w fun e w' => e = .returned (.bool false) ∧ w = w') :
    Calls Tryz.prog 80 #[.pointer p, v] w fun e w' => e = .returned (.int .i64 1) ∧ w = w' := by
  go_enter Tryz.func80, Tryz.ntmps80
  go_wp2_with (go_at_call 33; refine h.mono ?_; rintro e w' ⟨rfl, rfl⟩)
  go_ret
  exact ⟨rfl, rfl⟩
set_option maxHeartbeats 1000000 in
theorem ask_any (d m : Nat) (fuse : Int) (off : Bool) (a : Option Addr) (cap : Nat) (ts : List (List UInt8)) (w : World) (hd : DCells w d m fuse off) (h : Rd w a ts) (hl : ts.length ≤ maxLen) (hs : ∀ t ∈ ts, t.length ≤ maxLen) :
    Calls Tryz.prog 80 #[.pointer (some ⟨d, 0, none⟩), .slice a ts.length cap] w fun e w' => e = .returned (.int .i64 (askE (ts.all namL) off)) ∧ w = w' := by
  have A := given_yes d w hd.c0
  have B := mayBe_any a cap ts w h hl hs
  have c3 := hd.c3
  clear hd h hl hs
  cases hok : ts.all namL with
  | false =>
    rw [hok] at B
    go_enter Tryz.func80, Tryz.ntmps80
    go_wp2_with (first
      | (go_at_call 33; refine A.mono ?_; rintro e w' ⟨rfl, rfl⟩)
      | (go_at_call 96; refine B.mono ?_; rintro e w' ⟨rfl, rfl⟩))
    go_ret
    exact ⟨rfl, rfl⟩
  | true =>
    rw [hok] at B
    cases off with
    | false =>
      go_enter Tryz.func80, Tryz.ntmps80
      go_wp2_with (first
        | (go_at_call 33; refine A.mono ?_; rintro e w' ⟨rfl, rfl⟩)
        | (go_at_call 96; refine B.mono ?_; rintro e w' ⟨rfl, rfl⟩))
      go_ret
      exact ⟨rfl, rfl⟩
    | true =>
      go_enter Tryz.func80, Tryz.ntmps80
      go_wp2_with (first
        | (go_at_call 33; refine A.mono ?_; rintro e w' ⟨rfl, rfl⟩)
        | (go_at_call 96; refine B.mono ?_; rintro e w' ⟨rfl, rfl⟩))
      go_ret
      exact ⟨rfl, rfl⟩

/-! ### begin -/
def begE (ok : Bool) (fuse : Int) (off : Bool) : Int := if ok = true then (if off = true then 50 else if fuse = 0 then 50 else 0) else 1
def begF (ok : Bool) (fuse : Int) (off : Bool) : Int := if ok = true ∧ off = false ∧ 0 < fuse then fuse - 1 else fuse
def begO (ok : Bool) (fuse : Int) (off : Bool) : Bool := if ok = true ∧ fuse = 0 then true else off
theorem begE_cases (ok : Bool) (fuse : Int) (off : Bool) : begE ok fuse off = 0 ∨ begE ok fuse off = 1 ∨ begE ok fuse off = 50 := by
  unfold begE; split <;> (try split) <;> (try split) <;> simp
section
variable {own : Nat → Prop} {w : World} {d m : Nat} {G : List (List UInt8 × Gf)} {fuse : Int} {off : Bool}
set_option maxHeartbeats 1000000 in
theorem begin_any (h : Dsk own w d m G fuse off) (a : Option Addr) (cap : Nat) (ts : List (List UInt8)) (hr : Rd w a ts) (hl : ts.length ≤ maxLen) (hs : ∀ t ∈ ts, t.length ≤ maxLen) :
    Calls Tryz.prog 85 #[.pointer (some ⟨d, 0, none⟩), .slice a ts.length cap] w fun e w' => e = .returned (.int .i64 (begE (ts.all namL) fuse off)) ∧ Dsk own w' d m G (begF (ts.all namL) fuse off) (begO (ts.all namL) fuse off) ∧ Keeps own w w' := by
  have A := ask_any d m fuse off a cap ts w h.cells hr hl hs
  obtain ⟨_, _, c2, c3, f2, f3, lt⟩ := h.cells
  have hfz := h.fz
  have H := Lib.hid h
  clear h hr hl hs
  cases hok : ts.all namL with
  | false =>
    rw [hok] at A
    simp only [askE] at A
    go_enter Tryz.func85, Tryz.ntmps85
    go_wp2_with (go_at_call 80; refine A.mono ?_; rintro e w' ⟨rfl, rfl⟩)
    go_ret
    exact ⟨rfl, by simpa [begF, begO] using H.out, Keeps.refl _ _⟩
  | true =>
    rw [hok] at A
    cases off with
    | true =>
      simp only [askE] at A
      go_enter Tryz.func85, Tryz.ntmps85
      go_wp2_with (go_at_call 80; refine A.mono ?_; rintro e w' ⟨rfl, rfl⟩)
      go_ret
      exact ⟨rfl, by simpa [begF, begO] using H.out, Keeps.refl _ _⟩
    | false =>
      simp only [askE] at A
      by_cases h0 : fuse = 0
      · subst h0
        go_enter Tryz.func85, Tryz.ntmps85
        go_wp2_with (go_at_call 80; refine A.mono ?_; rintro e w' ⟨rfl, rfl⟩)
        go_ret
        exact ⟨rfl, by simpa [begF, begO] using H.out.setOff true, H.out.keepsCell _ _⟩
      · have hne : (fuse == 0) = false := by simpa using h0
        by_cases h1 : 0 < fuse
        · go_enter Tryz.func85, Tryz.ntmps85
          go_wp2_with (go_at_call 80; refine A.mono ?_; rintro e w' ⟨rfl, rfl⟩)
          go_ret
          have e1 : begF true fuse false = fuse - 1 := by unfold begF; rw [if_pos ⟨rfl, rfl, h1⟩]
          have e2 : begO true fuse false = false := by unfold begO; rw [if_neg (fun e => h0 e.2)]
          rw [e1, e2]
          exact ⟨by simp [begE, h0], H.out.setFuse (fuse - 1) (by omega), H.out.keepsCell _ _⟩
        · go_enter Tryz.func85, Tryz.ntmps85
          go_wp2_with (go_at_call 80; refine A.mono ?_; rintro e w' ⟨rfl, rfl⟩)
          go_ret
          have e1 : begF true fuse false = fuse := by unfold begF; rw [if_neg (fun e => absurd e.2.2 (by omega))]
          have e2 : begO true fuse false = false := by unfold begO; rw [if_neg (fun e => h0 e.2)]
          rw [e1, e2]
          exact ⟨by simp [begE, h0], H.out, Keeps.refl _ _⟩

/-! ### find -/
def findP (o : Option Gf) : Value := match o with | some g => .pointer (some ⟨g.blk, 0, none⟩) | none => .pointer none
def findE (o : Option Gf) : Int := match o with | some _ => 0 | none => 3
set_option maxHeartbeats 1000000 in
theorem find_any (h : Dsk own w d m G fuse off) (name : ByteArray) (hn : name.size ≤ maxLen) :
    Calls Tryz.prog 81 #[.pointer (some ⟨d, 0, none⟩), .string name] w fun e w' => e = .returned (.tuple #[findP (getL name.data.toList G), .int .i64 (findE (getL name.data.toList G))]) ∧ w = w' := by
  obtain ⟨c0, c1, c2, c3, f2, f3, lt⟩ := h.cells
  have HM := Lib.hid h.mp
  have hkey : keyOf Tryz.prog 9 (.string name) = some (.string name.data.toList) := WideMaps.keyOf_string_mk Tryz.underlying9 hn
  have HK := Lib.hid hkey
  have hhas := fD_has name.data.toList (mapL Gf.blk G)
  have hat := fD_at name.data.toList (mapL Gf.blk G) .nil
  rw [getL_mapL] at hhas hat
  clear h hn hkey
  cases hg : getL name.data.toList G with
  | none =>
    rw [hg] at hhas hat
    have HA := Lib.hid hat
    have HH := Lib.hid hhas
    clear hg hhas hat
    go_enter Tryz.func81, Tryz.ntmps81
    go_wp2_with (at_lookup; refine wpList_lookup_own_ok _ rfl _ _ 47 rfl 9 83 (Maps.string_keyed Tryz.underlying9) Tryz.underlying47 fR (Tryz.zeroValue83 _) .nil [] rfl m _ _ rfl HM.out _ _ rfl HK.out ?_; intro v ps hv; rw [HA.out] at hv; obtain rfl := fR_inv_nil hv; clear hv; rw [HH.out])
    go_ret2
    exact ⟨rfl, rfl⟩
  | some g =>
    rw [hg] at hhas hat
    have HA := Lib.hid hat
    have HH := Lib.hid hhas
    clear hg hhas hat
    go_enter Tryz.func81, Tryz.ntmps81
    go_wp2_with (at_lookup; refine wpList_lookup_own_ok _ rfl _ _ 47 rfl 9 83 (Maps.string_keyed Tryz.underlying9) Tryz.underlying47 fR (Tryz.zeroValue83 _) .nil [] rfl m _ _ rfl HM.out _ _ rfl HK.out ?_; intro v ps hv; rw [HA.out] at hv; obtain rfl := fR_inv hv; clear hv; rw [HH.out])
    go_ret2
    exact ⟨rfl, rfl⟩

/-! ### change, look -/
def chgP (E : Int) (o : Option Gf) : Value := if E = 0 then findP o else .pointer none
def chgE (E : Int) (o : Option Gf) : Int := if E = 0 then findE o else E
set_option maxHeartbeats 1000000 in
theorem change_any (h : Dsk own w d m G fuse off) (name : ByteArray) (rest : List (List UInt8)) (b n cap : Nat) (hb : own b) (hn : name.size ≤ maxLen) (hr : Rd w (some ⟨b, 0, none⟩) (name.data.toList :: rest)) (hl : n = rest.length + 1) (hm : n ≤ maxLen) (hs : ∀ t ∈ rest, t.length ≤ maxLen) (E : Int) (hE : begE ((name.data.toList :: rest).all namL) fuse off = E) :
    Calls Tryz.prog 72 #[.pointer (some ⟨d, 0, none⟩), .slice (some ⟨b, 0, none⟩) n cap] w fun e w' => e = .returned (.tuple #[chgP E (getL name.data.toList G), .int .i64 (chgE E (getL name.data.toList G))]) ∧
      Dsk own w' d m G (begF ((name.data.toList :: rest).all namL) fuse off) (begO ((name.data.toList :: rest).all namL) fuse off) ∧ Keeps own w w' := by
  subst hl
  have hs' : ∀ t ∈ name.data.toList :: rest, t.length ≤ maxLen := by
    intro t ht
    rcases List.mem_cons.1 ht with rfl | ht
    · rw [Array.length_toList]; exact hn
    · exact hs t ht
  have A := begin_any h (some ⟨b, 0, none⟩) cap (name.data.toList :: rest) hr hm hs'
  have hc : w.cell? ⟨b, 0, none⟩ = some (.string name) := by
    rcases hr with hr | ⟨b', o, e, _, hc⟩
    · cases hr
    · cases e
      exact hc 0 (by simp)
  rw [hE] at A
  rw [List.length_cons] at A
  have hc3 := begE_cases ((name.data.toList :: rest).all namL) fuse off
  rw [hE] at hc3
  generalize (name.data.toList :: rest).all namL = ok at A ⊢
  have HC := Lib.hid hc
  unfold maxLen at hm
  clear hE hr hs hs' hc h
  by_cases h0 : E = 0
  · subst h0
    go_enter Tryz.func72, Tryz.ntmps72
    go_wp2_with fail
    refine A.mono ?_
    rintro e w1 ⟨rfl, h1, k1⟩
    have C := find_any h1 name hn
    have hc1 : w1.cell? ⟨b, 0, none⟩ = some (.string name) := (k1.cell b 0 hb).trans HC.out
    have H1 := Lib.hid h1
    have K1 := Lib.hid k1
    clear h1 k1
    go_wp2_with (go_at_call 81; refine C.mono ?_; rintro e w' ⟨rfl, rfl⟩)
    go_ret2
    exact ⟨rfl, H1.out, K1.out⟩
  · have hE : E = 1 ∨ E = 50 := by omega
    rcases hE with rfl | rfl
    all_goals
      go_enter Tryz.func72, Tryz.ntmps72
      go_wp2_with fail
      refine A.mono ?_
      rintro e w1 ⟨rfl, h1, k1⟩
      have H1 := Lib.hid h1
      have K1 := Lib.hid k1
      clear h1 k1
      go_wp2
      go_ret2
      exact ⟨rfl, H1.out, K1.out⟩
set_option maxHeartbeats 1000000 in
theorem look_any (h : Dsk own w d m G fuse off) (name : ByteArray) (hn : name.size ≤ maxLen) (E : Int) (hE : askE (namL name.data.toList) off = E) :
    Calls Tryz.prog 56 #[.pointer (some ⟨d, 0, none⟩), .string name] w fun e w' => e = .returned (.tuple #[chgP E (getL name.data.toList G), .int .i64 (chgE E (getL name.data.toList G))]) ∧ Dsk own w' d m G fuse off ∧ Below w.heap.size w w' := by
  have hb : Below w.heap.size w (w.alloc (.cells #[.string name] 9)) := (Below.refl _ _).alloc (Nat.le_refl _) _
  have h1 := h.below hb
  have hr : Rd (w.alloc (.cells #[.string name] 9)) (some ⟨w.heap.size, 0, none⟩) [name.data.toList] := by
    refine .inr ⟨_, _, rfl, by simp, fun i hi => ?_⟩
    obtain rfl : i = 0 := by simp at hi; omega
    simp [go_sem]
  have A := ask_any d m fuse off (some ⟨w.heap.size, 0, none⟩) 1 [name.data.toList] _ h1.cells hr (by simp [maxLen]) (by intro t ht; simp at ht; subst ht; rw [Array.length_toList]; exact hn)
  have C := find_any h1 name hn
  have eall : [name.data.toList].all namL = namL name.data.toList := by simp
  rw [eall, hE] at A
  rw [List.length_singleton] at A
  have hc : E = 0 ∨ E = 1 ∨ E = 50 := by
    rw [← hE]; unfold askE; split <;> (try split) <;> simp
  have H1 := Lib.hid h1
  have HB := Lib.hid hb
  clear h h1 hb hr eall hE
  rcases hc with rfl | rfl | rfl
  · go_enter Tryz.func56, Tryz.ntmps56
    go_wp2_with (first
      | (go_at_call 80; refine A.mono ?_; rintro e w' ⟨rfl, rfl⟩)
      | (go_at_call 81; refine C.mono ?_; rintro e w' ⟨rfl, rfl⟩))
    go_ret2
    exact ⟨rfl, H1.out, HB.out⟩
  all_goals
    go_enter Tryz.func56, Tryz.ntmps56
    go_wp2_with (go_at_call 80; refine A.mono ?_; rintro e w' ⟨rfl, rfl⟩)
    go_ret2
    exact ⟨rfl, H1.out, HB.out⟩
end
end Go.Proofs.YtkfmjkcomjmedaaGreat
namespace Go.Proofs.YtkfmjkcomjmedaaGreat
open Go.RowKit Go.Lib
set_option linter.unusedVariables false

/-! ### plain -/
def Ds.begin (S : Ds) (ok : Bool) : Ds := ⟨S.files, begF ok S.fuse S.off, begO ok S.fuse S.off⟩
def fE {α : Type} (o : Option α) : Int := match o with | some _ => 0 | none => 3
def Ds.chgE (S : Ds) (ok : Bool) (n : List UInt8) : Int := if begE ok S.fuse S.off = 0 then fE (getL n S.files) else begE ok S.fuse S.off
def Ds.make (S : Ds) (n : List UInt8) : Ds × Int :=
  if begE (namL n) S.fuse S.off = 0 then
    match getL n S.files with
    | some _ => (S.begin (namL n), 1)
    | none => if 256 ≤ S.files.length then (S.begin (namL n), 2) else (⟨putL n ⟨[], 0⟩ S.files, (S.begin (namL n)).fuse, (S.begin (namL n)).off⟩, 0)
  else (S.begin (namL n), begE (namL n) S.fuse S.off)
def Ds.append (S : Ds) (n s : List UInt8) : Ds × Int :=
  if S.chgE (namL n) n = 0 then
    match getL n S.files with
    | some f => if 4194304 < f.bytes.length + s.length then (S.begin (namL n), 2) else (⟨setL n ⟨f.bytes ++ s, f.sure⟩ S.files, (S.begin (namL n)).fuse, (S.begin (namL n)).off⟩, 0)
    | none => (S.begin (namL n), 3)
  else (S.begin (namL n), S.chgE (namL n) n)
def Ds.sync (S : Ds) (n : List UInt8) : Ds × Int :=
  if S.chgE (namL n) n = 0 then
    match getL n S.files with
    | some f => (⟨setL n ⟨f.bytes, f.bytes.length⟩ S.files, (S.begin (namL n)).fuse, (S.begin (namL n)).off⟩, 0)
    | none => (S.begin (namL n), 3)
  else (S.begin (namL n), S.chgE (namL n) n)
def Ds.rename (S : Ds) (n k : List UInt8) : Ds × Int :=
  if S.chgE (namL n && namL k) n = 0 then
    match getL n S.files with
    | some f => (⟨putL k f (delL n S.files), (S.begin (namL n && namL k)).fuse, (S.begin (namL n && namL k)).off⟩, 0)
    | none => (S.begin (namL n && namL k), 3)
  else (S.begin (namL n && namL k), S.chgE (namL n && namL k) n)
def Ds.remove (S : Ds) (n : List UInt8) : Ds × Int :=
  if S.chgE (namL n) n = 0 then (⟨delL n S.files, (S.begin (namL n)).fuse, (S.begin (namL n)).off⟩, 0)
  else (S.begin (namL n), S.chgE (namL n) n)

theorem infoF : (Tryz.prog.info? 5).map (fun i => (i.zero, i.size, i.bytes)) = some (some (.int .u8 0), 1, 1) := by kernel_rfl

section
variable {own : Nat → Prop} {w : World} {d m : Nat} {G : List (List UInt8 × Gf)} {fuse : Int} {off : Bool}
/-- A slice of one name, of two, that a caller builds. -/
theorem names1 (w : World) (name : ByteArray) : Rd (w.alloc (.cells #[.string name] 9)) (some ⟨w.heap.size, 0, none⟩) [name.data.toList] := by
  refine .inr ⟨_, _, rfl, by simp, fun i hi => ?_⟩
  obtain rfl : i = 0 := by simp at hi; omega
  simp [go_sem]
theorem names2 (w : World) (name to : ByteArray) : Rd (w.alloc (.cells #[.string name, .string to] 9)) (some ⟨w.heap.size, 0, none⟩) [name.data.toList, to.data.toList] := by
  refine .inr ⟨_, _, rfl, by simp, fun i hi => ?_⟩
  simp only [List.length_cons, List.length_nil] at hi
  match i, hi with
  | 0, _ => simp [go_sem]
  | 1, _ => simp [go_sem]
theorem all1 (n : List UInt8) : [n].all namL = namL n := by simp
theorem all2 (n k : List UInt8) : [n, k].all namL = (namL n && namL k) := by simp
/-- The caller's block is nobody's, so a callee keeps it; what comes back of it. -/
theorem Dsk.lent (h : Dsk own w d m G fuse off) (o : Obj) : Dsk (fun b => own b ∨ b = w.heap.size) (w.alloc o) d m G fuse off :=
  (h.fresh ((Below.refl _ _).alloc (Nat.le_refl _) o)).weaken fun b hb => by
    rcases hb with hb | rfl
    · exact .inl hb
    · exact .inr ⟨Nat.le_refl _, by simp⟩
theorem Dsk.lent_back {w1 : World} (h : Dsk own w d m G fuse off) (o : Obj) (hk : Keeps (fun b => own b ∨ b = w.heap.size) (w.alloc o) w1) : Keeps own w w1 :=
  (Keeps.alloc w o fun b hb => (h.own b hb).1).trans (hk.mono fun b hb => .inl hb)
theorem Dsk.ours (h : Dsk own w d m G fuse off) (own' : Nat → Prop) (ho : ∀ b, own' b → own b) : Dsk own' w d m G fuse off := h.weaken ho
/-- An empty file under a new name. -/
theorem Dsk.makeFile {w' : World} (h : Dsk own w d m G fuse off) {k : List UInt8} {n : Nat} (hl : G.length < 256) (hg : (w.alloc (.cells #[.slice none 0 0, .int .i64 0] 108)).grownBy w' (some m))
    (hm : w'.ownsMap Tryz.prog 9 fR m n ((fD (mapL Gf.blk G)).put (.string k) (.lit (.int .i64 ((w.heap.size : Nat) : Int))))) : Dsk own w' d m (putL k ⟨⟨[], 0⟩, w.heap.size, none⟩ G) fuse off ∧ Keeps own w w' := by
  have hb : Below w.heap.size w (w.alloc (.cells #[.slice none 0 0, .int .i64 0] 108)) := (Below.refl _ _).alloc (Nat.le_refl _) _
  have h1 := h.below hb
  rw [fD_put] at hm
  have hf : FileAt (w.alloc (.cells #[.slice none 0 0, .int .i64 0] 108)) ⟨⟨[], 0⟩, w.heap.size, none⟩ :=
    ⟨.slice none 0 0, heap_alloc_new w _, World.ownsRow_nil .., rfl, Nat.le_refl _, Nat.zero_le _⟩
  refine ⟨h1.putFile hf hg hm (fun p hp _ => ?_) (fun p hp _ r hr => ?_) (fun b hb => ⟨?_, by simp⟩) ?_, (Keeps.alloc w _ fun b hb => (h.own b hb).1).trans (h1.mapKeeps hg)⟩
  · have := (h.file p hp).lt; show p.2.blk ≠ w.heap.size; omega
  · simp
  · have := (h.own b hb).1; show b ≠ w.heap.size; omega
  · have := length_putL_le k (⟨⟨[], 0⟩, w.heap.size, none⟩ : Gf) G; omega
end

set_option maxRecDepth 100000 in
set_option maxHeartbeats 2000000 in
theorem make_any {own : Nat → Prop} {w : World} {d : Nat} {S : Ds} (h : DiskAt own w d S) (name : ByteArray) (hn : name.size ≤ maxLen) :
    Calls Tryz.prog 65 #[.pointer (some ⟨d, 0, none⟩), .string name] w fun e w' => e = .returned (.int .i64 (S.make name.data.toList).2) ∧ DiskAt own w' d (S.make name.data.toList).1 ∧ Keeps own w w' := by
  obtain ⟨m, G, h, hF⟩ := h
  have hG : getL name.data.toList S.files = (getL name.data.toList G).map Gf.fl := by rw [← hF, getL_mapL]
  have hL : S.files.length = G.length := by rw [← hF, length_mapL]
  have A := begin_any (h.lent (.cells #[.string name] 9)) (some ⟨w.heap.size, 0, none⟩) 1 [name.data.toList] (names1 w name) (by simp [maxLen]) (by intro t ht; simp at ht; subst ht; rw [Array.length_toList]; exact hn)
  rw [all1, List.length_singleton] at A
  have hkey : keyOf Tryz.prog 9 (.string name) = some (.string name.data.toList) := WideMaps.keyOf_string_mk Tryz.underlying9 hn
  have HK := Lib.hid hkey
  have h3 := begE_cases (namL name.data.toList) S.fuse S.off
  have H := Lib.hid h
  have HF := Lib.hid hF
  clear h hF hkey
  unfold Ds.make
  by_cases h0 : begE (namL name.data.toList) S.fuse S.off = 0
  · rw [if_pos h0]
    rw [h0] at A
    clear h0 h3
    have A := Lib.hid A
    cases hg : getL name.data.toList G with
    | some g =>
      rw [hG, hg]
      simp only [Option.map_some]
      have HG := Lib.hid hg
      clear hg hG hL
      go_enter Tryz.func65, Tryz.ntmps65
      go_wp2_with fail
      refine A.out.mono ?_
      rintro e w1 ⟨rfl, h1, k1⟩
      have C := find_any h1 name hn
      rw [HG.out] at C
      simp only [findP, findE] at C
      have H1 := Lib.hid h1
      have K1 := Lib.hid k1
      clear h1 k1
      go_wp2_with (go_at_call 81; refine C.mono ?_; rintro e w' ⟨rfl, rfl⟩)
      go_ret
      exact ⟨rfl, ⟨m, G, H1.out.weaken fun b hb => .inl hb, HF.out⟩, H.out.lent_back _ K1.out⟩
    | none =>
      rw [hG, hg, hL]
      have HG := Lib.hid hg
      clear hg hG hL
      by_cases hl : 256 ≤ G.length
      · have hlen : (256 : Int) ≤ (G.length : Int) := by omega
        simp only [Option.map_none, if_pos hl]
        have hl' := Lib.hid hl
        clear hl
        go_enter Tryz.func65, Tryz.ntmps65
        go_wp2_with fail
        refine A.out.mono ?_
        rintro e w1 ⟨rfl, h1, k1⟩
        have C := find_any h1 name hn
        rw [HG.out] at C
        simp only [findP, findE] at C
        obtain ⟨c0, c1, c2, c3, f2, f3, lt⟩ := h1.cells
        have HM := Lib.hid h1.mp
        have H1 := Lib.hid h1
        have K1 := Lib.hid k1
        clear h1 k1
        go_wp2_with (first
          | (go_at_call 81; refine C.mono ?_; rintro e w' ⟨rfl, rfl⟩)
          | (at_len; refine wpList_len_own _ rfl _ 47 rfl 9 83 Tryz.underlying47 fR m _ _ rfl HM.out ?_; rw [fD_size, length_mapL]))
        go_ret
        exact ⟨rfl, ⟨m, G, H1.out.weaken fun b hb => .inl hb, HF.out⟩, H.out.lent_back _ K1.out⟩
      · have hlen : ¬ (256 : Int) ≤ (G.length : Int) := by omega
        simp only [Option.map_none, if_neg hl]
        have hl' := Lib.hid hl
        clear hl
        go_enter Tryz.func65, Tryz.ntmps65
        go_wp2_with fail
        refine A.out.mono ?_
        rintro e w1 ⟨rfl, h1, k1⟩
        have C := find_any h1 name hn
        rw [HG.out] at C
        simp only [findP, findE] at C
        obtain ⟨c0, c1, c2, c3, f2, f3, lt⟩ := h1.cells
        have HM := Lib.hid h1.mp
        have H1 := Lib.hid h1
        have K1 := Lib.hid k1
        clear h1 k1
        go_wp2_with (first
          | (go_at_call 81; refine C.mono ?_; rintro e w' ⟨rfl, rfl⟩)
          | (at_len; refine wpList_len_own _ rfl _ 47 rfl 9 83 Tryz.underlying47 fR m _ _ rfl HM.out ?_; rw [fD_size, length_mapL])
          | (at_mapUpdate; refine wpList_mapUpdate_own _ rfl _ _ _ 47 rfl 9 83 (Maps.string_keyed Tryz.underlying9) Tryz.underlying47 fR m _ _ rfl (HM.out.alloc _) (by unfold maxLen; have := H.out.len; omega) _ _ _ rfl rfl HK.out (.lit (.int .i64 ((w1.heap.size : Nat) : Int))) [] rfl ?_; intro w4 o4 g4))
        go_ret
        obtain ⟨h5, k5⟩ := (H1.out.weaken (own' := own) fun b hb => .inl hb).makeFile (by have := hl'.out; omega) g4 o4
        exact ⟨rfl, ⟨m, _, h5, by rw [mapL_putL, HF.out]⟩, (H.out.lent_back _ K1.out).trans k5⟩
  · rw [if_neg h0]
    have hE : begE (namL name.data.toList) S.fuse S.off = 1 ∨ begE (namL name.data.toList) S.fuse S.off = 50 := by omega
    clear h3 h0 hG hL
    rcases hE with hE | hE
    all_goals
      rw [hE] at A ⊢
      clear hE
      go_enter Tryz.func65, Tryz.ntmps65
      go_wp2_with fail
      refine A.mono ?_
      rintro e w1 ⟨rfl, h1, k1⟩
      have H1 := Lib.hid h1
      have K1 := Lib.hid k1
      clear h1 k1 A
      go_wp2
      go_ret
      exact ⟨rfl, ⟨m, G, H1.out.weaken fun b hb => .inl hb, HF.out⟩, H.out.lent_back _ K1.out⟩
end Go.Proofs.YtkfmjkcomjmedaaGreat
