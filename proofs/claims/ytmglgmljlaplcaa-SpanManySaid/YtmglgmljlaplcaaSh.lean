/-
  Layer 4 (span): the contract of the document's own Meet. Conditions: texts within the form's reach.
-/
import Derived.Test.YtmglgmljlaplcaaSi
import Derived.Deep.DeepCutAuto
namespace Go.Proofs.Ytmglgmljlaplcaa
open Go.RowKit

theorem below_box4 {w w' : World} {o p q r : Obj} (h : Below ((((w.alloc o).alloc p).alloc q).alloc r).heap.size ((((w.alloc o).alloc p).alloc q).alloc r) w') : Below w.heap.size w w' := below_box (below_box3 h)
/-- Four boxes behind a call. -/
theorem cells4 {w w1 : World} {p q p' q' r s x y : ByteArray} {t t' t'' u : TypeId}
    (b1 : Below ((((w.alloc (.cells #[.string p, .string q] t)).alloc (.cells #[.string p', .string q'] t')).alloc (.cells #[.string r, .string s] t'')).alloc (.cells #[.string x, .string y] u)).heap.size ((((w.alloc (.cells #[.string p, .string q] t)).alloc (.cells #[.string p', .string q'] t')).alloc (.cells #[.string r, .string s] t'')).alloc (.cells #[.string x, .string y] u)) w1) :
    w1.cell? ⟨w.heap.size + 1, 0, none⟩ = some (.string p') ∧ w1.cell? ⟨w.heap.size + 1, 1, none⟩ = some (.string q') ∧
    w1.cell? ⟨w.heap.size + 1 + 1, 0, none⟩ = some (.string r) ∧ w1.cell? ⟨w.heap.size + 1 + 1, 1, none⟩ = some (.string s) ∧ w1.frozen? ⟨w.heap.size + 1 + 1, 0, none⟩ = false ∧ w1.frozen? ⟨w.heap.size + 1 + 1, 1, none⟩ = false ∧
    w1.cell? ⟨w.heap.size + 1 + 1 + 1, 0, none⟩ = some (.string x) ∧ w1.cell? ⟨w.heap.size + 1 + 1 + 1, 1, none⟩ = some (.string y) ∧ w.heap.size + 3 < w1.heap.size := by
  obtain ⟨hc, hf⟩ := bcell b1
  have hz := b1.size
  refine ⟨?_, ?_, ?_, ?_, ?_, ?_, ?_, ?_, by simp at hz; omega⟩
  · rw [hc _ _ (by simp; try omega)]; simp [go_sem]
  · rw [hc _ _ (by simp; try omega)]; simp [go_sem]
  · rw [hc _ _ (by simp; try omega)]; simp [go_sem]
  · rw [hc _ _ (by simp; try omega)]; simp [go_sem]
  · rw [hf _ _ (by simp; try omega)]; simp [go_sem]
  · rw [hf _ _ (by simp; try omega)]; simp [go_sem]
  · rw [hc _ _ (by simp; try omega)]; simp [go_sem]
  · rw [hc _ _ (by simp; try omega)]; simp [go_sem]
/-- What a range's greater beginning is, by the document's own test. -/
theorem max_three (a b : ByteArray) : (maxS a b = b ∧ Op.bytesLess b.toList a.toList = false ∧ (b.toList == a.toList) = false) ∨ (maxS a b = a ∧ Op.bytesLess b.toList a.toList = true) ∨ (maxS a b = a ∧ Op.bytesLess b.toList a.toList = false ∧ (b.toList == a.toList) = true) := by
  cases h : ltB a b with
  | true =>
    refine .inl ⟨by unfold maxS; rw [if_pos h], ltB_asymm h, ?_⟩
    rw [beq_eq_false_iff_ne]
    intro e
    rw [ba_ext e, ltB_irr] at h
    cases h
  | false =>
    have e : maxS a b = a := by unfold maxS; rw [h]; rfl
    cases k : ltB b a with
    | true => exact .inr (.inl ⟨e, k⟩)
    | false => exact .inr (.inr ⟨e, k, by rw [ltB_total h k]; simp⟩)
theorem end_four (a b : ByteArray) : (endS a b = b ∧ a.toList = []) ∨ (endS a b = a ∧ (¬ a.toList = []) ∧ a.toList.isEmpty = false ∧ b.toList = []) ∨
    (endS a b = b ∧ (¬ a.toList = []) ∧ a.toList.isEmpty = false ∧ (¬ b.toList = []) ∧ b.toList.isEmpty = false ∧ Op.bytesLess b.toList a.toList = true) ∨
    (endS a b = a ∧ (¬ a.toList = []) ∧ a.toList.isEmpty = false ∧ (¬ b.toList = []) ∧ b.toList.isEmpty = false ∧ Op.bytesLess b.toList a.toList = false) := by
  cases ha : emB a with
  | true => exact .inl ⟨by unfold endS; rw [if_pos ha], List.isEmpty_iff.1 ha⟩
  | false =>
    have ha' : ¬ a.toList = [] := fun k => by rw [emB, k] at ha; cases ha
    cases hb : emB b with
    | true => exact .inr (.inl ⟨by unfold endS; rw [ha, hb]; rfl, ha', ha, List.isEmpty_iff.1 hb⟩)
    | false =>
      have hb' : ¬ b.toList = [] := fun k => by rw [emB, k] at hb; cases hb
      cases hl : ltB b a with
      | true => exact .inr (.inr (.inl ⟨by unfold endS; rw [ha, hb, hl]; rfl, ha', ha, hb', hb, hl⟩))
      | false => exact .inr (.inr (.inr ⟨by unfold endS; rw [ha, hb, hl]; rfl, ha', ha, hb', hb, hl⟩))
set_option maxHeartbeats 2000000 in
theorem rmeet_any (lo hi lo' hi' M E : ByteArray) (c1 c2 c3 : Bool) (m1 : mayB lo hi = c1) (m2 : mayB lo' hi' = c2) (m3 : mayB M E = c3) (hM : maxS lo lo' = M) (hE : endS hi hi' = E) (h1 : okS lo) (h2 : okS hi) (h3 : okS lo') (h4 : okS hi') (h5 : okS M) (h6 : okS E) (w : World) :
    Calls Try.prog 22 #[.agg #[.string lo, .string hi], .agg #[.string lo', .string hi']] w fun x w' => x = .returned (if (c1 && c2 && c3) = true then .tuple #[.agg #[.string M, .string E], .bool true] else .tuple #[sp0, .bool false]) ∧ Below w.heap.size w w' := by
  have H1 := Lib.hid fun w => rmay_any lo hi _ m1 h1 h2 w
  have H2 := Lib.hid fun w => rmay_any lo' hi' _ m2 h3 h4 w
  have H3 := Lib.hid fun w => rmay_any M E _ m3 h5 h6 w
  have HM := Lib.hid hM
  have HE := Lib.hid hE
  clear m1 m2 m3 hM hE h1 h2 h3 h4 h5 h6
  go_enter Try.func22, Try.ntmps22
  go_upto_region 2 with fail
  go_cut [12] (fun s12 wx => (∃ c : Bool, s12 = .bool c ∧ Hid ((c = true ∧ M = lo') ∨ (c = false ∧ M = lo))) ∧ wx = (((w.alloc (.cells #[.string lo, .string hi] 23)).alloc (.cells #[.string lo', .string hi'] 23)).alloc (.cells #[.string ⟨#[]⟩, .string ⟨#[]⟩] 23)).alloc (.cells #[.string lo, .string hi] 23))
  case first =>
    rcases max_three lo lo' with ⟨e, d1, d2⟩ | ⟨e, d1⟩ | ⟨e, d1, d2⟩
    all_goals
      have HN := Lib.hid (HM.out.symm.trans e)
      clear e
      go_wp2_with fail
      go_meet
      case rel => exact ⟨⟨_, rfl, Lib.hid (by first | exact .inl ⟨rfl, HN.out⟩ | exact .inr ⟨rfl, HN.out⟩)⟩, rfl⟩
  case rest =>
    obtain ⟨⟨c, rfl, HC⟩, rfl⟩ := hcut
    go_upto_if 12 with fail
    go_cut [] (fun wx => wx = (((w.alloc (.cells #[.string lo, .string hi] 23)).alloc (.cells #[.string lo', .string hi'] 23)).alloc (.cells #[.string ⟨#[]⟩, .string ⟨#[]⟩] 23)).alloc (.cells #[.string M, .string hi] 23))
    case first =>
      rcases HC.out with ⟨rfl, e⟩ | ⟨rfl, e⟩
      all_goals
        subst e
        clear HM HC
        go_wp2_with fail
        go_meet
        case rel => rfl
    case rest =>
    obtain rfl := hcut
    clear HC
    go_upto_region 4 with fail
    go_cut [30] (fun s30 wx => (∃ c : Bool, s30 = .bool c ∧ Hid ((c = true ∧ E = hi') ∨ (c = false ∧ E = hi))) ∧ wx = (((w.alloc (.cells #[.string lo, .string hi] 23)).alloc (.cells #[.string lo', .string hi'] 23)).alloc (.cells #[.string ⟨#[]⟩, .string ⟨#[]⟩] 23)).alloc (.cells #[.string M, .string hi] 23))
    case first =>
      rcases end_four hi hi' with ⟨e, d1⟩ | ⟨e, d1, d2, d3⟩ | ⟨e, d1, d2, d3, d4, d5⟩ | ⟨e, d1, d2, d3, d4, d5⟩
      all_goals
        have HN := Lib.hid (HE.out.symm.trans e)
        clear e
        go_wp2_with fail
        go_meet
        case rel => exact ⟨⟨_, rfl, Lib.hid (by first | exact .inl ⟨rfl, HN.out⟩ | exact .inr ⟨rfl, HN.out⟩)⟩, rfl⟩
    case rest =>
      obtain ⟨⟨c, rfl, HC⟩, rfl⟩ := hcut
      go_upto_if 30 with fail
      go_cut [] (fun wx => wx = (((w.alloc (.cells #[.string lo, .string hi] 23)).alloc (.cells #[.string lo', .string hi'] 23)).alloc (.cells #[.string ⟨#[]⟩, .string ⟨#[]⟩] 23)).alloc (.cells #[.string M, .string E] 23))
      case first =>
        rcases HC.out with ⟨rfl, e⟩ | ⟨rfl, e⟩
        all_goals
          subst e
          clear HE HC
          go_wp2_with fail
          go_meet
          case rel => rfl
      case rest =>
      obtain rfl := hcut
      clear HC
      cases c1 with
      | false =>
        go_wp2_with fail
        refine (H1.out _).mono ?_
        rintro e w1 ⟨rfl, b1⟩
        obtain ⟨y0, y1, r0, r1, f0, f1, x0, x1, hz⟩ := cells4 b1
        go_wp2
        exact bodyPost_ret (v := .tuple #[sp0, .bool false]) (by simp [results, Try.results22, go_sem, r0, r1]) rfl ⟨rfl, ((below_box4 b1).setCell (by simp; try omega) _).setCell (by simp; try omega) _⟩
      | true =>
        go_wp2_with fail
        refine (H1.out _).mono ?_
        rintro e w1 ⟨rfl, b1⟩
        obtain ⟨y0, y1, r0, r1, f0, f1, x0, x1, hz⟩ := cells4 b1
        cases c2 with
        | false =>
          go_wp2_with fail
          refine (H2.out _).mono ?_
          rintro e w2 ⟨rfl, b2⟩
          obtain ⟨hc2, hf2⟩ := bcell b2
          have HB := Lib.hid ((below_box4 b1).trans (b2.mono (by omega)))
          have hz2 : w.heap.size + 3 < w2.heap.size := by have := b2.size; omega
          rw [← hc2 _ _ (by omega)] at x0 x1 y0 y1 r0 r1
          rw [← hf2 _ _ (by omega)] at f0 f1
          clear hc2 hf2 b1 b2 hz H1 H2
          go_wp2
          exact bodyPost_ret (v := .tuple #[sp0, .bool false]) (by simp [results, Try.results22, go_sem, r0, r1]) rfl ⟨rfl, (HB.out.setCell (by simp; try omega) _).setCell (by simp; try omega) _⟩
        | true =>
          go_wp2_with fail
          refine (H2.out _).mono ?_
          rintro e w2 ⟨rfl, b2⟩
          obtain ⟨hc2, hf2⟩ := bcell b2
          have HB := Lib.hid ((below_box4 b1).trans (b2.mono (by omega)))
          have hz2 : w.heap.size + 3 < w2.heap.size := by have := b2.size; omega
          rw [← hc2 _ _ (by omega)] at x0 x1 y0 y1 r0 r1
          rw [← hf2 _ _ (by omega)] at f0 f1
          clear hc2 hf2 b1 b2 hz H1 H2
          go_wp2_with fail
          refine (H3.out _).mono ?_
          rintro e w3 ⟨rfl, b3⟩
          obtain ⟨hc3, hf3⟩ := bcell b3
          have HC := Lib.hid (HB.out.trans (b3.mono (by omega)))
          have hz3 : w.heap.size + 3 < w3.heap.size := by have := b3.size; omega
          rw [← hc3 _ _ (by omega)] at x0 x1 y0 y1 r0 r1
          rw [← hf3 _ _ (by omega)] at f0 f1
          clear hc3 hf3 b3 hz2 H3
          cases c3 with
          | false =>
            go_wp2
            exact bodyPost_ret (v := .tuple #[sp0, .bool false]) (by simp [results, Try.results22, go_sem, r0, r1]) rfl ⟨rfl, (HC.out.setCell (by simp; try omega) _).setCell (by simp; try omega) _⟩
          | true =>
            go_wp2
            exact bodyPost_ret (v := .tuple #[.agg #[.string M, .string E], .bool true]) (by simp [results, Try.results22, go_sem, r0, r1]) rfl ⟨rfl, (HC.out.setCell (by simp; try omega) _).setCell (by simp; try omega) _⟩
end Go.Proofs.Ytmglgmljlaplcaa
