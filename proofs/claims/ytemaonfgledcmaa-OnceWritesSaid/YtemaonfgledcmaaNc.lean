/-
  Layer 14 (once): contracts of set, list, of the code. Conditions: places in a block.
-/
import Derived.Test.YtemaonfgledcmaaNb
namespace Go.Proofs.Ytemaonfgledcmaa
open Go.RowKit
set_option linter.unusedVariables false
set_option linter.unusedSimpArgs false

/-- All blocks but b are as they were. -/
def KpB (b : Nat) (w w' : World) : Prop := w.heap.size ≤ w'.heap.size ∧ ∀ a : Addr, a.block < w.heap.size → ¬ a.block = b → w'.cell? a = w.cell? a ∧ w'.frozen? a = w.frozen? a
theorem cell_setCells_off (b : Nat) : ∀ (vs : List Value) (o : Nat) (w : World) (x : Addr), ¬ x.block = b → (w.setCells b o vs).cell? x = w.cell? x
  | [], _, _, _, _ => rfl
  | v :: r, o, w, x, h => by
    rw [World.setCells, cell_setCells_off b r (o + 1) _ x h]
    exact World.cell?_setCell_other _ _ _ _ (fun e => h (by rw [← e]))
/-- What a client did last in a block of its own. -/
def SBox (w : World) (b : Nat) (x : Sn) : Prop := w.cell? ⟨b, 0, none⟩ = some (.int .i64 x.c) ∧ w.cell? ⟨b, 1, none⟩ = some (.int .i64 x.s) ∧ w.cell? ⟨b, 2, none⟩ = some (.int .i64 x.e) ∧ w.cell? ⟨b, 3, none⟩ = some (.string x.v) ∧ w.cell? ⟨b, 4, none⟩ = some (.bool x.h) ∧ w.cell? ⟨b, 5, none⟩ = some (.slice x.p x.n x.k) ∧ w.cell? ⟨b, 6, none⟩ = some (.string x.u) ∧ b < w.heap.size
theorem SBox.new (w : World) (t : TypeId) (x : Sn) : SBox (w.alloc (.cells #[.int .i64 x.c, .int .i64 x.s, .int .i64 x.e, .string x.v, .bool x.h, .slice x.p x.n x.k, .string x.u] t)) w.heap.size x :=
  ⟨by simp, by simp, by simp, by simp, by simp, by simp, by simp, by simp⟩
theorem SBox.below {w w' : World} {b : Nat} {x : Sn} (h : SBox w b x) (hb : Below w.heap.size w w') : SBox w' b x := by
  obtain ⟨h0, h1, h2, h3, h4, h5, h6, hl⟩ := h
  exact ⟨(hb.cell (p := ⟨b, 0, none⟩) hl).trans h0, (hb.cell (p := ⟨b, 1, none⟩) hl).trans h1, (hb.cell (p := ⟨b, 2, none⟩) hl).trans h2, (hb.cell (p := ⟨b, 3, none⟩) hl).trans h3, (hb.cell (p := ⟨b, 4, none⟩) hl).trans h4, (hb.cell (p := ⟨b, 5, none⟩) hl).trans h5, (hb.cell (p := ⟨b, 6, none⟩) hl).trans h6, Nat.lt_of_lt_of_le hl hb.size⟩
theorem SBox.low {w w' : World} {B b : Nat} {x : Sn} (h : SBox w b x) (hl : b < B) (hb : Below B w w') : SBox w' b x := by
  obtain ⟨h0, h1, h2, h3, h4, h5, h6, hz⟩ := h
  exact ⟨(hb.cell (p := ⟨b, 0, none⟩) hl).trans h0, (hb.cell (p := ⟨b, 1, none⟩) hl).trans h1, (hb.cell (p := ⟨b, 2, none⟩) hl).trans h2, (hb.cell (p := ⟨b, 3, none⟩) hl).trans h3, (hb.cell (p := ⟨b, 4, none⟩) hl).trans h4, (hb.cell (p := ⟨b, 5, none⟩) hl).trans h5, (hb.cell (p := ⟨b, 6, none⟩) hl).trans h6, Nat.lt_of_lt_of_le hz hb.size⟩
theorem SBox.kpb {w w' : World} {b c : Nat} {x : Sn} (h : SBox w b x) (hb : KpB c w w') (hn : ¬ b = c) : SBox w' b x := by
  obtain ⟨h0, h1, h2, h3, h4, h5, h6, hl⟩ := h
  exact ⟨(hb.2 ⟨b, 0, none⟩ hl hn).1.trans h0, (hb.2 ⟨b, 1, none⟩ hl hn).1.trans h1, (hb.2 ⟨b, 2, none⟩ hl hn).1.trans h2, (hb.2 ⟨b, 3, none⟩ hl hn).1.trans h3, (hb.2 ⟨b, 4, none⟩ hl hn).1.trans h4, (hb.2 ⟨b, 5, none⟩ hl hn).1.trans h5, (hb.2 ⟨b, 6, none⟩ hl hn).1.trans h6, Nat.lt_of_lt_of_le hl hb.1⟩
theorem size_setCells (b : Nat) : ∀ (vs : List Value) (o : Nat) (w : World), (w.setCells b o vs).heap.size = w.heap.size
  | [], _, _ => rfl
  | v :: vs, o, w => by rw [World.setCells, size_setCells b vs]; simp
theorem below_setCells {B b : Nat} {w0 : World} : ∀ (vs : List Value) (o : Nat) (w : World), Below B w0 w → B ≤ b → Below B w0 (w.setCells b o vs)
  | [], _, _, h, _ => h
  | v :: vs, o, w, h, hb => by rw [World.setCells]; exact below_setCells vs (o + 1) _ (h.setCell hb _) hb
set_option maxRecDepth 100000 in
set_option maxHeartbeats 2000000 in
theorem set14_any (b : Nat) (p : Pl) (x : Sn) (hx : 0 ≤ x.c ∧ x.c ≤ 7) (hv : x.v.size = 0) (hn : x.u.size = 0) (w : World) (h : PL w b p) :
    Calls Try.prog 50 #[.pointer (some ⟨b, 0, none⟩), sa x] w fun e w' => e = .returned (.tuple #[]) ∧ PL w' b (setP p x) ∧ KpB b w w' ∧ Below b w w' := by
  obtain ⟨c, s, e, v, hs, pa, n, k, u⟩ := x
  obtain rfl := str_empty hv
  obtain rfl := str_empty hn
  simp only at hx
  clear hv hn
  obtain ⟨i, rfl⟩ : ∃ i : Nat, c = (i : Int) := ⟨c.toNat, by omega⟩
  have hi : i < 8 := by omega
  have hlt := h.lt
  have HP0 := Lib.hid h
  have hii : (i : Int) < 8 := by omega
  clear h hx
  go_enter Try.func50, Try.ntmps50
  go_wp2_with fail
  obtain ⟨o, ho⟩ : ∃ o, o = Obj.cells #[.int .i64 i, .int .i64 s, .int .i64 e, .string ⟨#[]⟩, .bool hs, .slice none 0 0, .string ⟨#[]⟩] 39 := ⟨_, rfl⟩
  have hB := SBox.new w 39 (normS ⟨i, s, e, ⟨#[]⟩, hs, pa, n, k, ⟨#[]⟩⟩)
  have hB2 : SBox (w.alloc o) w.heap.size (normS ⟨i, s, e, ⟨#[]⟩, hs, pa, n, k, ⟨#[]⟩⟩) := by rw [ho]; exact hB
  have HB0 := Lib.hid (box_bel14 w o)
  have HP := Lib.hid (HP0.out.below HB0.out)
  rw [← ho]
  clear hB ho HP0
  have hbx : ¬ b = w.heap.size := by omega
  have HSZ := Lib.hid (show w.heap.size ≤ (w.alloc o).heap.size by simp)
  have HKO := Lib.hid (fun (a : Addr) (ha : a.block < w.heap.size) => And.intro (HB0.out.cell (p := a) ha) (HB0.out.frozen (p := a) ha))
  obtain ⟨x, hx⟩ : ∃ x, x = w.heap.size := ⟨_, rfl⟩
  have HX := Lib.hid hx
  rw [← hx] at hB2 hlt hbx ⊢
  clear hx
  generalize w.alloc o = W at *
  have HBX := Lib.hid hB2
  obtain ⟨q0, q1, q2, q3, q4, q5, q6, q7⟩ := hB2
  simp only [normS] at q0 q1 q2 q3 q4 q5 q6
  have hbW : b < W.heap.size := HP.out.lt
  have HPC := Lib.hid (HP.out.cells hi)
  obtain ⟨r0, r1, r2, r3, r4, r5, r6⟩ := HP.out.cells hi
  have hfr : ∀ j, j < 7 → W.frozen? ⟨b, i * 7 + j, none⟩ = false := fun j hj => by
    have := (HP.out.wr (i * 7 + j) (by omega)).2
    rwa [Nat.zero_add] at this
  have f0 := hfr 0 (by omega)
  have f1 := hfr 1 (by omega)
  have f2 := hfr 2 (by omega)
  have f3 := hfr 3 (by omega)
  have f4 := hfr 4 (by omega)
  have f5 := hfr 5 (by omega)
  have f6 := hfr 6 (by omega)
  rw [Nat.add_zero] at f0
  clear hfr
  go_still_tail 6, (by kernel_rfl)
  change wpList _ _ _ _ _ W.drew
  go_wp2_with fail
  go_end0
  have hs2 : setP p ⟨i, s, e, ⟨#[]⟩, hs, pa, n, k, ⟨#[]⟩⟩ i = normS ⟨i, s, e, ⟨#[]⟩, hs, pa, n, k, ⟨#[]⟩⟩ := by unfold setP; rw [if_pos rfl]
  have hs3 : ∀ j, ¬ j = i → setP p ⟨i, s, e, ⟨#[]⟩, hs, pa, n, k, ⟨#[]⟩⟩ j = p j := fun j hj => by unfold setP; rw [if_neg (by show ¬ (j : Int) = (i : Int); omega)]
  have HPP := HP.out.put hi hs2 hs3
  have hsz := size_setCells b (cv (normS ⟨i, s, e, ⟨#[]⟩, hs, pa, n, k, ⟨#[]⟩⟩)) (i * 7) W
  have hfz := fun a => World.frozen?_setCells b (cv (normS ⟨i, s, e, ⟨#[]⟩, hs, pa, n, k, ⟨#[]⟩⟩)) (i * 7) W a
  have hoff := cell_setCells_off b (cv (normS ⟨i, s, e, ⟨#[]⟩, hs, pa, n, k, ⟨#[]⟩⟩)) (i * 7) W
  have hbw : Below b w W := HB0.out.mono (by rw [← HX.out]; omega)
  have hbl := below_setCells (cv (normS ⟨i, s, e, ⟨#[]⟩, hs, pa, n, k, ⟨#[]⟩⟩)) (i * 7) W hbw (Nat.le_refl b)
  have hbd := HPP.below ((Below.refl _ _).drew)
  have e : W.setCells b (i * 7) (cv (normS ⟨i, s, e, ⟨#[]⟩, hs, pa, n, k, ⟨#[]⟩⟩)) = W.setCells b (i * 7) (cv (normS ⟨i, s, e, ⟨#[]⟩, hs, pa, n, k, ⟨#[]⟩⟩)) := rfl
  conv at e => rhs; simp only [cv, normS, World.setCells, Nat.add_assoc, Nat.reduceAdd]
  rw [← e]
  clear e
  generalize W.setCells b (i * 7) (cv (normS ⟨i, s, e, ⟨#[]⟩, hs, pa, n, k, ⟨#[]⟩⟩)) = Z at *
  have hd := (Below.refl Z.heap.size Z).drew
  refine ⟨rfl, hbd, ⟨?_, fun a ha hab => ?_⟩, hbl.drew⟩
  · refine Nat.le_trans HSZ.out ?_
    rw [← hsz]; exact hd.size
  · have hz := Nat.lt_of_lt_of_le ha HSZ.out
    rw [← hsz] at hz
    rw [hd.cell (p := a) hz, hd.frozen (p := a) hz, hoff a hab, hfz a]; exact HKO.out a ha
/-- Cells of what clients did last, one behind the other. -/
def cvs (l : List Sn) : List Value := l.flatMap cv
theorem cvs_length (l : List Sn) : (cvs l).length = l.length * 7 := by
  induction l with
  | nil => rfl
  | cons x l ih =>
    show (cv x ++ cvs l).length = _
    rw [List.length_append, ih, List.length_cons, cv_length]
    omega
theorem cvs_app (a b : List Sn) : cvs a ++ cvs b = cvs (a ++ b) := by simp [cvs]
theorem cvs_snoc (a : List Sn) (x : Sn) : cvs a ++ cv x = cvs (a ++ [x]) := by simp [cvs]
theorem cvs_one (l : List Sn) : ∀ u ∈ cvs l, u.oneCell' = true := by
  intro u hu
  simp only [cvs, List.mem_flatMap] at hu
  obtain ⟨x, _, hx⟩ := hu
  exact cv_one x u hx
theorem cvs_get (l : List Sn) : ∀ (i j : Nat) (h : i < l.length), j < 7 → (cvs l)[i * 7 + j]? = (cv l[i])[j]? := by
  induction l with
  | nil => intro i j h; simp at h
  | cons x l ih =>
    intro i j h hj
    have e0 : cvs (x :: l) = cv x ++ cvs l := rfl
    rw [e0]
    cases i with
    | zero => rw [List.getElem?_append_left (by rw [cv_length]; omega)]; simp
    | succ i =>
      rw [List.getElem?_append_right (by rw [cv_length]; omega), cv_length, show (i + 1) * 7 + j - 7 = i * 7 + j by omega, ih i j (by simpa using h) hj]
      simp
/-- They lie one behind the other. -/
def SnAt (w : World) (b off : Nat) (l : List Sn) : Prop := ∀ i (h : i < l.length), w.cell? ⟨b, off + i * 7, none⟩ = some (.int .i64 l[i].c) ∧ w.cell? ⟨b, off + i * 7 + 1, none⟩ = some (.int .i64 l[i].s) ∧ w.cell? ⟨b, off + i * 7 + 2, none⟩ = some (.int .i64 l[i].e) ∧ w.cell? ⟨b, off + i * 7 + 3, none⟩ = some (.string l[i].v) ∧ w.cell? ⟨b, off + i * 7 + 4, none⟩ = some (.bool l[i].h) ∧ w.cell? ⟨b, off + i * 7 + 5, none⟩ = some (.slice l[i].p l[i].n l[i].k) ∧ w.cell? ⟨b, off + i * 7 + 6, none⟩ = some (.string l[i].u)
theorem SnAt.old {w w' : World} {b off : Nat} {l : List Sn} (h : SnAt w b off l) (hb : b < w.heap.size) (hw : Below w.heap.size w w') : SnAt w' b off l := by
  intro i hi
  obtain ⟨h0, h1, h2, h3, h4, h5, h6⟩ := h i hi
  exact ⟨(hw.cell (p := ⟨b, off + i * 7, none⟩) hb).trans h0, (hw.cell (p := ⟨b, off + i * 7 + 1, none⟩) hb).trans h1, (hw.cell (p := ⟨b, off + i * 7 + 2, none⟩) hb).trans h2, (hw.cell (p := ⟨b, off + i * 7 + 3, none⟩) hb).trans h3, (hw.cell (p := ⟨b, off + i * 7 + 4, none⟩) hb).trans h4, (hw.cell (p := ⟨b, off + i * 7 + 5, none⟩) hb).trans h5, (hw.cell (p := ⟨b, off + i * 7 + 6, none⟩) hb).trans h6⟩
theorem SnAt.low {w w' : World} {B b off : Nat} {l : List Sn} (h : SnAt w b off l) (hb : b < B) (hw : Below B w w') : SnAt w' b off l := by
  intro i hi
  obtain ⟨h0, h1, h2, h3, h4, h5, h6⟩ := h i hi
  exact ⟨(hw.cell (p := ⟨b, off + i * 7, none⟩) hb).trans h0, (hw.cell (p := ⟨b, off + i * 7 + 1, none⟩) hb).trans h1, (hw.cell (p := ⟨b, off + i * 7 + 2, none⟩) hb).trans h2, (hw.cell (p := ⟨b, off + i * 7 + 3, none⟩) hb).trans h3, (hw.cell (p := ⟨b, off + i * 7 + 4, none⟩) hb).trans h4, (hw.cell (p := ⟨b, off + i * 7 + 5, none⟩) hb).trans h5, (hw.cell (p := ⟨b, off + i * 7 + 6, none⟩) hb).trans h6⟩
def RdN (w : World) (a : Option Addr) (l : List Sn) : Prop := l = [] ∨ ∃ b off, a = some ⟨b, off, none⟩ ∧ b < w.heap.size ∧ SnAt w b off l
theorem RdN.old {w w' : World} {a : Option Addr} {l : List Sn} (h : RdN w a l) (hb : Below w.heap.size w w') : RdN w' a l := by
  rcases h with rfl | ⟨b, off, rfl, hlt, hc⟩
  · exact .inl rfl
  · exact .inr ⟨b, off, rfl, Nat.lt_of_lt_of_le hlt hb.size, hc.old hlt hb⟩
theorem RdN.at_ {w : World} {a : Option Addr} {l : List Sn} (h : RdN w a l) : ∃ b off, (0 < l.length → a = some ⟨b, off, none⟩) ∧ (0 < l.length → b < w.heap.size) ∧ SnAt w b off l := by
  rcases h with rfl | ⟨b, off, rfl, hb, hc⟩
  · exact ⟨0, 0, fun h => by simp at h, fun h => by simp at h, fun i hi => by simp at hi⟩
  · exact ⟨b, off, fun _ => rfl, fun _ => hb, hc⟩
/-- A slice of what clients did last. -/
def SS (w : World) (a : Option Addr) (n cap : Nat) (l : List Sn) : Prop := l.length = n ∧ RdN w a l ∧ n ≤ cap ∧ cap ≤ maxLen
theorem SS.old {w w' : World} {a : Option Addr} {n cap : Nat} {l : List Sn} (h : SS w a n cap l) (hb : Below w.heap.size w w') : SS w' a n cap l := ⟨h.1, h.2.1.old hb, h.2.2⟩
theorem SS.none (w : World) : SS w none 0 0 [] := ⟨rfl, .inl rfl, Nat.le_refl _, Nat.zero_le _⟩
theorem own_form14 {w : World} {base size n : Nat} {t : TypeId} {v : Value} {xs : List Value} (h : w.ownsRow base t size v n xs) (hs : 0 < size) : ∃ a cap, v = .slice a n cap := by
  rcases h.2 with ⟨rfl, hnil⟩ | ⟨g, cap, cur, rfl, _⟩
  · have h1 := h.1
    rw [hnil] at h1
    have : n = 0 := by
      rcases Nat.eq_zero_or_pos n with h0 | h0
      · exact h0
      · have := Nat.mul_pos h0 hs
        simp at h1
        omega
    subst this
    exact ⟨_, _, rfl⟩
  · exact ⟨_, _, rfl⟩
theorem own_rdn {w : World} {base n cap : Nat} {t : TypeId} {a : Option Addr} {l : List Sn} (h : w.ownsRow base t 7 (.slice a n cap) n (cvs l)) (hn : l.length = n) : RdN w a l := by
  subst hn
  by_cases h0 : l = []
  · exact .inl h0
  · obtain ⟨g, hA⟩ : ∃ g, a = some ⟨g, 0, none⟩ := by
      rcases h.2 with ⟨_, hn⟩ | ⟨g, c, cur, hv, _⟩
      · exact absurd (List.length_eq_zero_iff.1 hn) h0
      · injection hv with hA
        exact ⟨g, hA⟩
    subst hA
    have hlt := (h.lt g rfl).2
    refine .inr ⟨g, 0, rfl, hlt, fun i hi => ?_⟩
    have hc := h.cells (g := g) rfl
    have e' : ∀ j, (⟨g, 0, none⟩ : Addr).add j = ⟨g, 0 + j, none⟩ := by intro j; unfold Addr.add; split <;> simp_all
    have hg : ∀ j u, j < 7 → (cv l[i])[j]? = some u → w.cell? ⟨g, 0 + (i * 7 + j), none⟩ = some u := fun j u hj hu => by
      have := hc _ _ ((cvs_get l i j hi hj).trans hu)
      rwa [e'] at this
    exact ⟨hg 0 _ (by omega) rfl, hg 1 _ (by omega) rfl, hg 2 _ (by omega) rfl, hg 3 _ (by omega) rfl, hg 4 _ (by omega) rfl, hg 5 _ (by omega) rfl, hg 6 _ (by omega) rfl⟩
theorem own_ss {w : World} {base n : Nat} {v : Value} {l : List Sn} (h : w.ownsRow base 39 7 v n (cvs l)) (hn : l.length = n) : ∃ a cap, v = .slice a n cap ∧ SS w a n cap l := by
  rcases h.2 with ⟨rfl, hnil⟩ | ⟨g, cap, cur, rfl, hbg, hh, hnc, hcm, _⟩
  · have h0 : l = [] := List.length_eq_zero_iff.1 (hn.trans hnil)
    subst h0
    have : n = 0 := by simpa using hn.symm
    subst this
    exact ⟨none, 0, rfl, rfl, .inl rfl, Nat.le_refl _, Nat.zero_le _⟩
  · exact ⟨_, cap, rfl, hn, own_rdn h hn, hnc, hcm⟩
theorem Try.infoSn : (Try.prog.info? 39).map (fun i => (i.zero, i.size, i.bytes)) = some (some (.agg #[.int .i64 0, .int .i64 0, .int .i64 0, .string ⟨#[]⟩, .bool false, .slice none 0 0, .string ⟨#[]⟩]), 7, 88) := by kernel_rfl
theorem Try.size8 : (Try.prog.info? 69).map (·.size) = some 56 := by kernel_rfl
theorem cell_new7 (w : World) (x : Sn) (t : TypeId) : ∀ j u, (cv x)[j]? = some u → (w.alloc (.cells #[.int .i64 x.c, .int .i64 x.s, .int .i64 x.e, .string x.v, .bool x.h, .slice x.p x.n x.k, .string x.u] t)).cell? ((⟨w.heap.size, 0, none⟩ : Addr).add j) = some u := by
  intro j u hj
  have e' : ∀ j, (⟨w.heap.size, 0, none⟩ : Addr).add j = ⟨w.heap.size, 0 + j, none⟩ := by intro j; unfold Addr.add; split <;> simp_all
  rw [e']
  match j, hj with
  | 0, hj => simp [cv] at hj; subst hj; simp
  | 1, hj => simp [cv] at hj; subst hj; simp
  | 2, hj => simp [cv] at hj; subst hj; simp
  | 3, hj => simp [cv] at hj; subst hj; simp
  | 4, hj => simp [cv] at hj; subst hj; simp
  | 5, hj => simp [cv] at hj; subst hj; simp
  | 6, hj => simp [cv] at hj; subst hj; simp
  | j + 7, hj => simp [cv] at hj
end Go.Proofs.Ytemaonfgledcmaa
