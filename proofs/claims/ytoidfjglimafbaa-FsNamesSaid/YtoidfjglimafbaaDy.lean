/-
  Layer 5 (fs): two files in plain, for the law FsNames. Conditions: none.
-/
import Derived.Test.YtoidfjglimafbaaDx
namespace Go.Proofs.Ytoidfjglimafbaa
open Go.RowKit Go.Lib
set_option linter.unusedVariables false

/-- Two files, in whichever order. -/
def Two (F : List (List UInt8 × Fl)) (a : List UInt8) (f : Fl) (b : List UInt8) (g : Fl) : Prop := F = [(a, f), (b, g)] ∨ F = [(b, g), (a, f)]
section
variable {F : List (List UInt8 × Fl)} {a b : List UInt8} {f g : Fl}
theorem Two.getA (h : Two F a f b g) (hne : a ≠ b) : getL a F = some f := by
  have h2 : (b == a) = false := by simpa using fun e : b = a => hne e.symm
  rcases h with rfl | rfl <;> simp [getL, List.find?, h2]
theorem Two.getB (h : Two F a f b g) (hne : a ≠ b) : getL b F = some g := by
  have h2 : (a == b) = false := by simpa using hne
  rcases h with rfl | rfl <;> simp [getL, List.find?, h2]
theorem Two.setA (h : Two F a f b g) (hne : a ≠ b) (f' : Fl) : Two (setL a f' F) a f' b g := by
  have h2 : ¬ b = a := fun e => hne e.symm
  rcases h with rfl | rfl
  · exact .inl (by simp [setL, h2])
  · exact .inr (by simp [setL, h2])
theorem Two.setB (h : Two F a f b g) (hne : a ≠ b) (g' : Fl) : Two (setL b g' F) a f b g' := by
  rcases h with rfl | rfl
  · exact .inl (by simp [setL, hne])
  · exact .inr (by simp [setL, hne])
theorem Two.ren (h : Two F a f b g) (hne : a ≠ b) : putL b f (delL a F) = [(b, f)] := by
  have h2 : ¬ b = a := fun e => hne e.symm
  rcases h with rfl | rfl <;> simp [delL, putL, insL, h2]
theorem two_make (a b : List UInt8) (f g : Fl) (hne : a ≠ b) : Two (putL b g [(a, f)]) a f b g := by
  unfold putL delL
  have h2 : (!(a == b)) = true := by simpa using hne
  simp only [List.filter, h2]
  unfold insL insL
  split
  · exact .inr rfl
  · exact .inl rfl
end
theorem names_plain (a b s t : List UInt8) (hne : a ≠ b) (ha : namL a = true) (hb : namL b = true) (hs : s.length ≤ 1024) (ht : t.length ≤ 1024) : ∃ F2 F3 F4 F5 : List (List UInt8 × Fl),
    (calm []).make a = (calm [(a, ⟨[], 0⟩)], 0) ∧ (calm [(a, ⟨[], 0⟩)]).make b = (calm F2, 0) ∧ (calm F2).make a = (calm F2, 1) ∧ (calm F2).append a s = (calm F3, 0) ∧ (calm F3).append b t = (calm F4, 0) ∧ (calm F4).sync a = (calm F5, 0) ∧
    (calm F5).rename a b = (calm [(b, ⟨s, s.length⟩)], 0) ∧ (calm [(b, ⟨s, s.length⟩)]).rename a b = (calm [(b, ⟨s, s.length⟩)], 3) ∧ (calm [(b, ⟨s, s.length⟩)]).crash [] = calm [(b, ⟨s, s.length⟩)] ∧
    (calm [(b, ⟨s, s.length⟩)]).bytesOf b = s ∧ (calm [(b, ⟨s, s.length⟩)]).lookE b = 0 ∧ (calm [(b, ⟨s, s.length⟩)]).lookE a = 3 ∧ (calm [(b, ⟨s, s.length⟩)]).remove b = (calm [], 0) := by
  have h2 := two_make a b ⟨[], 0⟩ ⟨[], 0⟩ hne
  have h3 := h2.setA hne ⟨[] ++ s, 0⟩
  have h4 := h3.setB hne ⟨[] ++ t, 0⟩
  have h5 := h4.setA hne ⟨[] ++ s, ([] ++ s).length⟩
  have hna : getL a [(b, (⟨s, s.length⟩ : Fl))] = none := getL_none.2 (by intro p hp; simp at hp; subst hp; exact fun e => hne e.symm)
  have hnb : getL b [(a, (⟨[], 0⟩ : Fl))] = none := getL_none.2 (by intro p hp; simp at hp; subst hp; exact hne)
  have hbb : getL b [(b, (⟨s, s.length⟩ : Fl))] = some ⟨s, s.length⟩ := by simp [getL]
  refine ⟨_, _, _, _, make_new ha rfl (by decide), make_new hb hnb (by simp), make_old ha (h2.getA hne), append_calm ha (h2.getA hne) (by simp; omega), append_calm hb (h3.getB hne) (by simp; omega), sync_calm ha (h4.getA hne), ?_, rename_none ha hb hna, ?_, bytes_calm hb hbb, ?_, ?_, ?_⟩
  · rw [rename_calm ha hb (h5.getA hne), h5.ren hne]; rfl
  · rw [crash_none, mapIdx_map]
    simp only [mapL, List.map_cons, List.map_nil]
    rw [cut_zero (Nat.le_refl _), List.take_length]
  · rw [look_calm hb, hbb]; rfl
  · rw [look_calm ha, hna]; rfl
  · rw [remove_calm hb hbb]; simp [delL]
end Go.Proofs.Ytoidfjglimafbaa
