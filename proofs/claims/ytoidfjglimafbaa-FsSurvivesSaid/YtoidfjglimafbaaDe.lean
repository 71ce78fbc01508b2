/-
  Layer 5 (fs): three files in plain, and what the law FsSurvives keeps of them, for that law. Conditions: none.
-/
import Derived.Test.YtoidfjglimafbaaDx
namespace Go.Proofs.Ytoidfjglimafbaa
open Go.RowKit Go.Lib
set_option linter.unusedVariables false

def nk (k : Nat) : List UInt8 := if k = 0 then [97] else if k = 1 then [98] else [99]
def upd {α : Type} (f : Nat → α) (k : Nat) (v : α) : Nat → α := fun j => if j = k then v else f j
theorem upd_same {α : Type} (f : Nat → α) (k : Nat) (v : α) : upd f k v k = v := by unfold upd; rw [if_pos rfl]
theorem upd_other {α : Type} (f : Nat → α) (k j : Nat) (v : α) (h : j ≠ k) : upd f k v j = f j := by unfold upd; rw [if_neg h]
def F3 (A : Nat → List UInt8) (Sr : Nat → Nat) : List (List UInt8 × Fl) := [([97], ⟨A 0, Sr 0⟩), ([98], ⟨A 1, Sr 1⟩), ([99], ⟨A 2, Sr 2⟩)]
def MK (k : Nat) : List (List UInt8 × Fl) := if k = 0 then [] else if k = 1 then [([97], ⟨[], 0⟩)] else if k = 2 then [([97], ⟨[], 0⟩), ([98], ⟨[], 0⟩)] else F3 (fun _ => []) (fun _ => 0)
theorem mk_make0 : (calm (MK 0)).make (nk 0) = (calm (MK 1), 0) := by kernel_rfl
theorem mk_make1 : (calm (MK 1)).make (nk 1) = (calm (MK 2), 0) := by kernel_rfl
theorem mk_make2 : (calm (MK 2)).make (nk 2) = (calm (MK 3), 0) := by kernel_rfl
theorem mk_make (k : Nat) (h : k < 3) : (calm (MK k)).make (nk k) = (calm (MK (k + 1)), 0) := by
  have : k = 0 ∨ k = 1 ∨ k = 2 := by omega
  rcases this with rfl | rfl | rfl
  · exact mk_make0
  · exact mk_make1
  · exact mk_make2
theorem f3_append (A : Nat → List UInt8) (Sr : Nat → Nat) (k : Nat) (hk : k < 3) (t : List UInt8) (h : (A k).length + t.length ≤ 4194304) : (calm (F3 A Sr)).append (nk k) t = (calm (F3 (upd A k (A k ++ t)) Sr), 0) := by
  have : k = 0 ∨ k = 1 ∨ k = 2 := by omega
  rcases this with rfl | rfl | rfl
  · exact append_calm (n := [97]) (F := F3 A Sr) (f := ⟨A 0, Sr 0⟩) rfl rfl h
  · exact append_calm (n := [98]) (F := F3 A Sr) (f := ⟨A 1, Sr 1⟩) rfl rfl h
  · exact append_calm (n := [99]) (F := F3 A Sr) (f := ⟨A 2, Sr 2⟩) rfl rfl h
theorem f3_sync (A : Nat → List UInt8) (Sr : Nat → Nat) (k : Nat) (hk : k < 3) : (calm (F3 A Sr)).sync (nk k) = (calm (F3 A (upd Sr k (A k).length)), 0) := by
  have : k = 0 ∨ k = 1 ∨ k = 2 := by omega
  rcases this with rfl | rfl | rfl
  · exact sync_calm (n := [97]) (F := F3 A Sr) (f := ⟨A 0, Sr 0⟩) rfl rfl
  · exact sync_calm (n := [98]) (F := F3 A Sr) (f := ⟨A 1, Sr 1⟩) rfl rfl
  · exact sync_calm (n := [99]) (F := F3 A Sr) (f := ⟨A 2, Sr 2⟩) rfl rfl
def mk3 (ks : List Int) (A : Nat → List UInt8) (Sr : Nat → Nat) (j : Nat) : Nat := keepN (keepAt ks j) ⟨A j, Sr j⟩
theorem f3_crash (A : Nat → List UInt8) (Sr : Nat → Nat) (ks : List Int) : (calm (F3 A Sr)).crash ks = calm (F3 (fun j => (A j).take (mk3 ks A Sr j)) (mk3 ks A Sr)) := by
  unfold Ds.crash calm F3 mk3
  rfl
theorem f3_read (A : Nat → List UInt8) (Sr : Nat → Nat) (k : Nat) (hk : k < 3) : (calm (F3 A Sr)).bytesOf (nk k) = A k ∧ (calm (F3 A Sr)).lookE (nk k) = 0 ∧ (calm (F3 A Sr)).sureOf (nk k) = Sr k := by
  have : k = 0 ∨ k = 1 ∨ k = 2 := by omega
  rcases this with rfl | rfl | rfl
  · exact ⟨bytes_calm (n := [97]) (F := F3 A Sr) (f := ⟨A 0, Sr 0⟩) rfl rfl, look_calm (n := [97]) (F := F3 A Sr) rfl, sure_calm (n := [97]) (F := F3 A Sr) (f := ⟨A 0, Sr 0⟩) rfl rfl⟩
  · exact ⟨bytes_calm (n := [98]) (F := F3 A Sr) (f := ⟨A 1, Sr 1⟩) rfl rfl, look_calm (n := [98]) (F := F3 A Sr) rfl, sure_calm (n := [98]) (F := F3 A Sr) (f := ⟨A 1, Sr 1⟩) rfl rfl⟩
  · exact ⟨bytes_calm (n := [99]) (F := F3 A Sr) (f := ⟨A 2, Sr 2⟩) rfl rfl, look_calm (n := [99]) (F := F3 A Sr) rfl, sure_calm (n := [99]) (F := F3 A Sr) (f := ⟨A 2, Sr 2⟩) rfl rfl⟩
/-- What is sure, what there is: bounds. -/
def Bd (A : Nat → List UInt8) (Sr : Nat → Nat) (N : Nat) : Prop := ∀ j < 3, Sr j ≤ (A j).length ∧ (A j).length ≤ N
theorem Bd.app {A : Nat → List UInt8} {Sr : Nat → Nat} {N : Nat} (h : Bd A Sr N) (k : Nat) (t : List UInt8) (ht : t.length ≤ 40) : Bd (upd A k (A k ++ t)) Sr (N + 40) := by
  intro j hj
  obtain ⟨h1, h2⟩ := h j hj
  by_cases e : j = k
  · subst e
    rw [upd_same, List.length_append]
    omega
  · rw [upd_other _ _ _ _ e]; omega
theorem Bd.syn {A : Nat → List UInt8} {Sr : Nat → Nat} {N : Nat} (h : Bd A Sr N) (k : Nat) : Bd A (upd Sr k (A k).length) N := by
  intro j hj
  obtain ⟨h1, h2⟩ := h j hj
  by_cases e : j = k
  · subst e
    rw [upd_same]; omega
  · rw [upd_other _ _ _ _ e]; omega
/-- What the law holds of its own: the names, all texts, what was sure of them. -/
def Cl (nb sb ab : Nat) (w : World) (A : Nat → List UInt8) (Sr : Nat → Nat) : Prop :=
  (∀ j < 3, w.cell? ⟨nb, j, none⟩ = some (.string ⟨(nk j).toArray⟩)) ∧ (∀ j < 3, w.cell? ⟨ab, j, none⟩ = some (.string ⟨(A j).toArray⟩) ∧ w.frozen? ⟨ab, j, none⟩ = false) ∧
  (∀ j < 3, w.cell? ⟨sb, j, none⟩ = some (.string ⟨((A j).take (Sr j)).toArray⟩) ∧ w.frozen? ⟨sb, j, none⟩ = false)
theorem Cl.keeps {own : Nat → Prop} {nb sb ab : Nat} {w w' : World} {A : Nat → List UInt8} {Sr : Nat → Nat} (h : Cl nb sb ab w A Sr) (k : Keeps own w w') (h1 : own nb) (h2 : own sb) (h3 : own ab) : Cl nb sb ab w' A Sr :=
  ⟨fun j hj => (k.cell nb j h1).trans (h.1 j hj), fun j hj => ⟨(k.cell ab j h3).trans (h.2.1 j hj).1, (k.frozen ab j h3).trans (h.2.1 j hj).2⟩, fun j hj => ⟨(k.cell sb j h2).trans (h.2.2 j hj).1, (k.frozen sb j h2).trans (h.2.2 j hj).2⟩⟩
theorem Cl.drew {nb sb ab : Nat} {w : World} {A : Nat → List UInt8} {Sr : Nat → Nat} (h : Cl nb sb ab w A Sr) : Cl nb sb ab w.drew A Sr := h
theorem addr_ne {b b' i j : Nat} (h : b ≠ b' ∨ i ≠ j) : (⟨b, i, none⟩ : Addr) ≠ ⟨b', j, none⟩ := by
  intro e
  simp only [Addr.mk.injEq] at e
  omega
theorem Cl.setAll {nb sb ab : Nat} {w : World} {A : Nat → List UInt8} {Sr : Nat → Nat} (h : Cl nb sb ab w A Sr) (hn : nb ≠ ab) (hs : sb ≠ ab) (k : Nat) (hk : k < 3) (t : List UInt8) (hb : Sr k ≤ (A k).length) :
    Cl nb sb ab (w.setCell ⟨ab, k, none⟩ (.string ⟨(A k ++ t).toArray⟩)) (upd A k (A k ++ t)) Sr := by
  refine ⟨fun j hj => ?_, fun j hj => ⟨?_, ?_⟩, fun j hj => ⟨?_, ?_⟩⟩
  · rw [World.cell?_setCell_other _ _ _ _ (addr_ne (.inl (Ne.symm hn)))]; exact h.1 j hj
  · by_cases e : j = k
    · subst e
      rw [upd_same, World.cell?_setCell_same _ _ _ (h.2.1 j hj).1]
    · rw [upd_other _ _ _ _ e, World.cell?_setCell_other _ _ _ _ (addr_ne (.inr (Ne.symm e)))]; exact (h.2.1 j hj).1
  · rw [World.frozen?_setCell]; exact (h.2.1 j hj).2
  · rw [World.cell?_setCell_other _ _ _ _ (addr_ne (.inl (Ne.symm hs)))]
    by_cases e : j = k
    · subst e
      rw [upd_same, List.take_append_of_le_length hb]; exact (h.2.2 j hj).1
    · rw [upd_other _ _ _ _ e]; exact (h.2.2 j hj).1
  · rw [World.frozen?_setCell]; exact (h.2.2 j hj).2
theorem Cl.setSure {nb sb ab : Nat} {w : World} {A : Nat → List UInt8} {Sr : Nat → Nat} (h : Cl nb sb ab w A Sr) (hn : nb ≠ sb) (hs : ab ≠ sb) (k : Nat) (hk : k < 3) :
    Cl nb sb ab (w.setCell ⟨sb, k, none⟩ (.string ⟨(A k).toArray⟩)) A (upd Sr k (A k).length) := by
  refine ⟨fun j hj => ?_, fun j hj => ⟨?_, ?_⟩, fun j hj => ⟨?_, ?_⟩⟩
  · rw [World.cell?_setCell_other _ _ _ _ (addr_ne (.inl (Ne.symm hn)))]; exact h.1 j hj
  · rw [World.cell?_setCell_other _ _ _ _ (addr_ne (.inl (Ne.symm hs)))]; exact (h.2.1 j hj).1
  · rw [World.frozen?_setCell]; exact (h.2.1 j hj).2
  · by_cases e : j = k
    · subst e
      rw [upd_same, World.cell?_setCell_same _ _ _ (h.2.2 j hj).1, List.take_length]
    · rw [upd_other _ _ _ _ e, World.cell?_setCell_other _ _ _ _ (addr_ne (.inr (Ne.symm e)))]; exact (h.2.2 j hj).1
  · rw [World.frozen?_setCell]; exact (h.2.2 j hj).2
end Go.Proofs.Ytoidfjglimafbaa
