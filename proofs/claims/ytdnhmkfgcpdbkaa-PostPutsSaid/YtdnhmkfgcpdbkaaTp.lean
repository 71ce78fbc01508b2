/-
  Layer 16 (post): the way of parts that are looked at, and the way into a text. Conditions: as each says.
-/
import Derived.Test.YtdnhmkfgcpdbkaaA0
import Derived.Test.YtdnhmkfgcpdbkaaVx
namespace Go.Proofs.Ytdnhmkfgcpdbkaa
open Go.RowKit
set_option linter.unusedVariables false
set_option linter.unusedSimpArgs false

/-! ### looks -/
def lkB (s : Bool) (lo hi x : Int) : Bool := s || decide (x < lo) || decide (hi < x)
def lkT (s : Bool) (t : ByteArray) : Bool := s || decide (256 < t.size)
def looksW : Way Bool := ⟨fun s lo hi x => (lkB s lo hi x, x), fun s t => (lkT s t, t), fun _ => True, fun _ _ _ _ _ => trivial, fun _ _ _ => trivial⟩
set_option maxRecDepth 100000 in
theorem looksNum_any (b p o : Nat) (s : Bool) (lo hi x : Int) (w : World) (h0 : w.cell? ⟨b, 0, none⟩ = some (.bool s)) (hf : w.frozen? ⟨b, 0, none⟩ = false) (hb : b < w.heap.size) (hx : w.cell? ⟨p, o, none⟩ = some (.int .i64 x)) (hp : p < w.heap.size) :
    Calls Try.prog 97 #[.pointer (some ⟨b, 0, none⟩), .pointer (some ⟨p, o, none⟩), .int .i64 lo, .int .i64 hi] w fun e w' => e = .returned (.tuple #[]) ∧ w' = w.setCell ⟨b, 0, none⟩ (.bool (lkB s lo hi x)) := by
  unfold lkB
  cases s
  · by_cases h1 : x < lo
    · go_enter Try.func97, Try.ntmps97
      go_wp2_with fail
      go_end0
      exact ⟨rfl, by first | rfl | (rw [decide_eq_true (show x < lo by omega)]; rfl)⟩
    · by_cases h2 : hi < x
      all_goals
        go_enter Try.func97, Try.ntmps97
        go_wp2_with fail
        go_end0
        exact ⟨rfl, by first | rfl | (rw [decide_eq_false (show ¬ x < lo by omega), decide_eq_false (show ¬ hi < x by omega)]; rfl) | (rw [decide_eq_false (show ¬ hi < x by omega)]; rfl)⟩
  · go_enter Try.func97, Try.ntmps97
    go_wp2_with fail
    go_end0
    exact ⟨rfl, by first | rfl | simp⟩
set_option maxRecDepth 100000 in
theorem looksTxt_any (b p o : Nat) (s : Bool) (t : ByteArray) (w : World) (h0 : w.cell? ⟨b, 0, none⟩ = some (.bool s)) (hf : w.frozen? ⟨b, 0, none⟩ = false) (hb : b < w.heap.size) (hx : w.cell? ⟨p, o, none⟩ = some (.string t)) (hp : p < w.heap.size) :
    Calls Try.prog 98 #[.pointer (some ⟨b, 0, none⟩), .pointer (some ⟨p, o, none⟩)] w fun e w' => e = .returned (.tuple #[]) ∧ w' = w.setCell ⟨b, 0, none⟩ (.bool (lkT s t)) := by
  unfold lkT
  cases s
  · by_cases h2 : 256 < t.size
    · have h2i : (256 : Int) < (t.size : Int) := by omega
      go_enter Try.func98, Try.ntmps98
      go_wp2_with fail
      go_end0
      exact ⟨rfl, by first | rfl | (rw [decide_eq_true (show 256 < t.size by omega)]; rfl) | (rw [decide_eq_false (show ¬ 256 < t.size by omega)]; rfl)⟩
    · have h2i : ¬ (256 : Int) < (t.size : Int) := by omega
      go_enter Try.func98, Try.ntmps98
      go_wp2_with fail
      go_end0
      exact ⟨rfl, by first | rfl | (rw [decide_eq_true (show 256 < t.size by omega)]; rfl) | (rw [decide_eq_false (show ¬ 256 < t.size by omega)]; rfl)⟩
  · go_enter Try.func98, Try.ntmps98
    go_wp2_with fail
    go_end0
    exact ⟨rfl, by first | rfl | simp⟩
def AtL (b B : Nat) (w : World) (s : Bool) : Prop := w.cell? ⟨b, 0, none⟩ = some (.bool s) ∧ w.frozen? ⟨b, 0, none⟩ = false ∧ b < w.heap.size ∧ B ≤ w.heap.size
theorem looks_way (b B : Nat) (hB : B ≤ b) : WayAt looksW 71 b B True (AtL b B) where
  gnum := fun _ _ _ _ _ => rfl
  gtxt := fun _ _ _ => rfl
  rng := fun _ _ _ _ => .inl rfl
  old := fun w w' s h hb => ⟨(hb.cell (p := ⟨b, 0, none⟩) h.2.2.1).trans h.1, (hb.frozen (p := ⟨b, 0, none⟩) h.2.2.1).trans h.2.1, Nat.lt_of_lt_of_le h.2.2.1 hb.size, Nat.le_trans h.2.2.2 hb.size⟩
  set := fun w s p o v h hp => ⟨(World.cell?_setCell_other _ _ _ _ (fun e => hp.1 (by injection e))).trans h.1, by rw [World.frozen?_setCell]; exact h.2.1, by simpa using h.2.2.1, by simpa using h.2.2.2⟩
  nah := fun k w => by kernel_rfl
  lt := fun w s h => ⟨h.2.2.1, h.2.2.2⟩
  num := ⟨97, .pointer (some ⟨b, 0, none⟩), fun k w => by kernel_rfl, fun args w => by kernel_rfl, fun w s p o lo hi x h hp hx _ => by
    refine (looksNum_any b p o s lo hi x w h.1 h.2.1 h.2.2.1 hx hp.2.1).mono ?_
    rintro e w' ⟨rfl, rfl⟩
    refine ⟨rfl, ⟨World.cell?_setCell_same' _ _ _ (by rw [h.1]; rfl), by rw [World.frozen?_setCell]; exact h.2.1, by simpa using h.2.2.1, by simpa using h.2.2.2⟩, ?_⟩
    show KB b B (w.setCell ⟨p, o, none⟩ (.int .i64 x)) _
    rw [set_same hx]
    exact (KB.refl b B w).own 0 hB _⟩
  txt := ⟨98, .pointer (some ⟨b, 0, none⟩), fun k w => by kernel_rfl, fun args w => by kernel_rfl, fun w s p o t h hp hx _ => by
    refine (looksTxt_any b p o s t w h.1 h.2.1 h.2.2.1 hx hp.2.1).mono ?_
    rintro e w' ⟨rfl, rfl⟩
    refine ⟨rfl, ⟨World.cell?_setCell_same' _ _ _ (by rw [h.1]; rfl), by rw [World.frozen?_setCell]; exact h.2.1, by simpa using h.2.2.1, by simpa using h.2.2.2⟩, ?_⟩
    show KB b B (w.setCell ⟨p, o, none⟩ (.string t)) _
    rw [set_same hx]
    exact (KB.refl b B w).own 0 hB _⟩
/-! ### puts -/
def putsW : Way (List UInt8 × Bool) where
  num := fun s lo hi x => ((s.1 ++ vL x.toNat, s.2 && decide (0 ≤ x ∧ x ≤ maxN ∧ s.1.length ≤ 70368744177664)), x)
  txt := fun s t => ((s.1 ++ txL t.data.toList, s.2 && decide (t.size ≤ 256 ∧ s.1.length ≤ 70368744177664)), t)
  ok := fun s => s.2 = true
  mono := fun s lo hi x h => by simp only [Bool.and_eq_true] at h; exact h.1
  monot := fun s t h => by simp only [Bool.and_eq_true] at h; exact h.1
def AtP (b B : Nat) (w : World) (s : List UInt8 × Bool) : Prop := Bld B b s.1 w ∧ B ≤ w.heap.size
theorem Bld.set {B b p o : Nat} {l : List UInt8} {w : World} {v : Value} {G : Prop} (h : Bld B b l w) (hp : Loc G b B w p) : Bld B b l (w.setCell ⟨p, o, none⟩ v) := by
  have go : ∀ q, Lib.BuilderAt 64 5 B b q (Lib.byteCells l) w → Lib.BuilderAt 64 5 B b q (Lib.byteCells l) (w.setCell ⟨p, o, none⟩ v) := by
    rintro q ⟨hB, u, hbk, hown, hne⟩
    refine ⟨hB, u, ?_, ?_, hne⟩
    · rw [Below.heap_setCell _ _ _ _ (fun e => hp.1 e.symm)]; exact hbk
    · have hnp : u.ownBlock ≠ some p := by
        rcases hp.2.2 with ⟨h1, _⟩ | ⟨h1, cs, T, h4, h5⟩
        · intro e
          have := (hown.lt p e).1
          omega
        · exact Lib.ownBlock_ne hown h4 h5
      exact hown.kept (row := some p) ⟨rfl, rfl, rfl, by simp [World.setCell], fun k _ hk => Below.heap_setCell _ _ _ _ (fun e => hk (by simp [e]))⟩ (Or.inr hnp)
  rcases h with h | h
  · exact .inl (go _ h)
  · exact .inr (go _ h)
set_option maxRecDepth 100000 in
theorem putsNum_any (b B p o : Nat) (l : List UInt8) (lo hi : Int) (x : Nat) (w : World) (h : Bld B b l w) (hB : B ≤ w.heap.size) (hbB : B ≤ b) (hx : w.cell? ⟨p, o, none⟩ = some (.int .i64 x)) (hp : p < w.heap.size) (h1 : (x : Int) ≤ maxN) (h2 : l.length ≤ 70368744177664) :
    Calls Try.prog 85 #[.pointer (some ⟨b, 0, none⟩), .pointer (some ⟨p, o, none⟩), .int .i64 lo, .int .i64 hi] w fun e w' => e = .returned (.tuple #[]) ∧ Bld B b (l ++ vL x) w' ∧ KB b B w w' := by
  unfold maxN at h1
  have HH := Lib.hid h
  have hl9 := vL_len9 (n := x) (by omega)
  have HP := Lib.hid (put_code x w (by omega))
  clear h
  go_enter Try.func85, Try.ntmps85
  go_wp2_with fail
  refine HP.out.mono ?_
  rintro e w1 ⟨rfl, hb⟩
  have HW := Lib.hid (bwrite_any B b l ⟨(vL x).toArray⟩ w1 (HH.out.old hb) (by show l.length + (vL x).toArray.size ≤ _; rw [List.size_toArray]; omega) (Nat.le_trans hB hb.size))
  have HK := Lib.hid (KB.of (b := b) hb hB)
  clear hb HP
  go_wp2_with fail
  refine HW.out.mono ?_
  rintro e w2 ⟨rfl, g1, g2, g3⟩
  have HF := Lib.hid (And.intro g1 (HK.out.trans ⟨g3, g2⟩))
  clear g1 g2 g3 HW HK
  go_wp2_with fail
  go_end0
  exact ⟨rfl, by simpa using HF.out.1, HF.out.2⟩
set_option maxRecDepth 100000 in
theorem putsTxt_any (b B p o : Nat) (l : List UInt8) (t : ByteArray) (w : World) (h : Bld B b l w) (hB : B ≤ w.heap.size) (hbB : B ≤ b) (hx : w.cell? ⟨p, o, none⟩ = some (.string t)) (hp : p < w.heap.size) (h1 : t.size ≤ 256) (h2 : l.length ≤ 70368744177664) :
    Calls Try.prog 86 #[.pointer (some ⟨b, 0, none⟩), .pointer (some ⟨p, o, none⟩)] w fun e w' => e = .returned (.tuple #[]) ∧ Bld B b (l ++ txL t.data.toList) w' ∧ KB b B w w' := by
  have HH := Lib.hid h
  have hl9 := vL_len9 (n := t.size) (by omega)
  have hlt : (txL t.data.toList).length ≤ 300 := by unfold txL; rw [List.length_append, size_list]; omega
  have HP := Lib.hid (text_code t w (by omega))
  clear h
  go_enter Try.func86, Try.ntmps86
  go_wp2_with fail
  refine HP.out.mono ?_
  rintro e w1 ⟨rfl, hb⟩
  have HW := Lib.hid (bwrite_any B b l ⟨(txL t.data.toList).toArray⟩ w1 (HH.out.old hb) (by show l.length + (txL t.data.toList).toArray.size ≤ _; rw [List.size_toArray]; omega) (Nat.le_trans hB hb.size))
  have HK := Lib.hid (KB.of (b := b) hb hB)
  clear hb HP
  go_wp2_with fail
  refine HW.out.mono ?_
  rintro e w2 ⟨rfl, g1, g2, g3⟩
  have HF := Lib.hid (And.intro g1 (HK.out.trans ⟨g3, g2⟩))
  clear g1 g2 g3 HW HK
  go_wp2_with fail
  go_end0
  exact ⟨rfl, by simpa using HF.out.1, HF.out.2⟩
theorem puts_way (b B : Nat) (hB : B ≤ b) : WayAt putsW 59 b B True (AtP b B) where
  gnum := fun _ _ _ _ _ => rfl
  gtxt := fun _ _ _ => rfl
  rng := fun _ _ _ _ => .inl rfl
  old := fun w w' s h hb => ⟨h.1.old hb, Nat.le_trans h.2 hb.size⟩
  set := fun w s p o v h hp => ⟨h.1.set hp, by simpa using h.2⟩
  nah := fun k w => by kernel_rfl
  lt := fun w s h => ⟨h.1.lt, h.2⟩
  num := ⟨85, .pointer (some ⟨b, 0, none⟩), fun k w => by kernel_rfl, fun args w => by kernel_rfl, fun w s p o lo hi x h hp hx hok => by
    obtain ⟨l, g⟩ := s
    have h2 : (g && decide (0 ≤ x ∧ x ≤ maxN ∧ l.length ≤ 70368744177664)) = true := hok
    simp only [Bool.and_eq_true, decide_eq_true_eq] at h2
    obtain ⟨_, h3, h4, h5⟩ := h2
    obtain ⟨n, rfl⟩ : ∃ n : Nat, x = n := ⟨x.toNat, by omega⟩
    refine (putsNum_any b B p o l lo hi n w h.1 h.2 hB hx hp.2.1 h4 h5).mono ?_
    rintro e w' ⟨rfl, g1, g2⟩
    refine ⟨rfl, ⟨g1, Nat.le_trans h.2 g2.size⟩, ?_⟩
    show KB b B (w.setCell ⟨p, o, none⟩ (.int .i64 n)) _
    rw [set_same hx]
    exact g2⟩
  txt := ⟨86, .pointer (some ⟨b, 0, none⟩), fun k w => by kernel_rfl, fun args w => by kernel_rfl, fun w s p o t h hp hx hok => by
    obtain ⟨l, g⟩ := s
    have h2 : (g && decide (t.size ≤ 256 ∧ l.length ≤ 70368744177664)) = true := hok
    simp only [Bool.and_eq_true, decide_eq_true_eq] at h2
    obtain ⟨_, h4, h5⟩ := h2
    refine (putsTxt_any b B p o l t w h.1 h.2 hB hx hp.2.1 h4 h5).mono ?_
    rintro e w' ⟨rfl, g1, g2⟩
    refine ⟨rfl, ⟨g1, Nat.le_trans h.2 g2.size⟩, ?_⟩
    show KB b B (w.setCell ⟨p, o, none⟩ (.string t)) _
    rw [set_same hx]
    exact g2⟩
end Go.Proofs.Ytdnhmkfgcpdbkaa
