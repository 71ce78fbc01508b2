/-
  Layer 9 (block): the walk of the law BlockOrder. Conditions: none.
-/
import Derived.Test.YtjneigejcaahiaaKw
import Derived.Test.YtjneigejcaahiaaKz
namespace Go.Proofs.Ytjneigejcaahiaa
open Go.RowKit
set_option linter.unusedVariables false
set_option linter.unusedSimpArgs false

def eAg (k v : ByteArray) (g : Bool) (q : Int) : Value := .agg #[.string k, .string v, .bool g, .int .i64 q]
abbrev eOb (k v : ByteArray) (g : Bool) (q : Int) : Obj := .cells #[.string k, .string v, .bool g, .int .i64 q] 36
/-- One of three: ahead, behind, alike. -/
theorem less_three (a b : Ent) : (lessE a b = true ∧ lessE b a = false ∧ ¬ (a.1 = b.1 ∧ a.2.2.2 = b.2.2.2)) ∨ (lessE a b = false ∧ lessE b a = true ∧ ¬ (a.1 = b.1 ∧ a.2.2.2 = b.2.2.2)) ∨ (lessE a b = false ∧ lessE b a = false ∧ a.1 = b.1 ∧ a.2.2.2 = b.2.2.2) := by
  cases h1 : lessE a b with
  | true =>
    refine .inl ⟨rfl, lessE_asymm h1, ?_⟩
    rintro ⟨e1, e2⟩
    rw [less_same e1, e2, decide_eq_true_eq] at h1
    omega
  | false =>
    cases h2 : lessE b a with
    | true =>
      refine .inr (.inl ⟨rfl, rfl, ?_⟩)
      rintro ⟨e1, e2⟩
      rw [less_same e1.symm, e2, decide_eq_true_eq] at h2
      omega
    | false => exact .inr (.inr ⟨rfl, rfl, lessE_total h1 h2⟩)
set_option maxRecDepth 100000 in
set_option maxHeartbeats 4000000 in
theorem walk_BlockOrder (ka va : ByteArray) (ga : Bool) (qa : Int) (kb vb : ByteArray) (gb : Bool) (qb : Int) (kc vc : ByteArray) (gc : Bool) (qc : Int) (w : World) :
    Calls Try.prog 8 #[.agg #[.string ka, .string va, .bool ga, .int .i64 qa], .agg #[.string kb, .string vb, .bool gb, .int .i64 qb], .agg #[.string kc, .string vc, .bool gc, .int .i64 qc]] w fun e w' => e = .returned (.bool true) ∧ Below w.heap.size w w' := by
  have HAw := Lib.hid fun w => awake9_any w
  have Haa := Lib.hid fun w => less_any ka va ga qa ka va ga qa false (lessE_irr (ka, va, ga, qa)) w
  have HX0 : Hid (EBox (((w.alloc (eOb ka va ga qa)).alloc (eOb kb vb gb qb)).alloc (eOb kc vc gc qc)) w.heap.size ka va ga qa ∧ EBox (((w.alloc (eOb ka va ga qa)).alloc (eOb kb vb gb qb)).alloc (eOb kc vc gc qc)) (w.heap.size + 1) kb vb gb qb ∧ EBox (((w.alloc (eOb ka va ga qa)).alloc (eOb kb vb gb qb)).alloc (eOb kc vc gc qc)) (w.heap.size + 1 + 1) kc vc gc qc ∧ Below w.heap.size w (((w.alloc (eOb ka va ga qa)).alloc (eOb kb vb gb qb)).alloc (eOb kc vc gc qc))) := by
    refine Lib.hid ⟨((EBox.new w _ _ _ _ _).alloc _).alloc _, (EBox.new2 w _ _ _ _ _ _).alloc _, ?_, (((Below.refl _ _).alloc (Nat.le_refl _) _).alloc (by simp) _).alloc (by simp; omega) _⟩
    have h := EBox.new2 (w.alloc (eOb ka va ga qa)) (eOb kb vb gb qb) 36 kc vc gc qc
    rw [show (w.alloc (eOb ka va ga qa)).heap.size = w.heap.size + 1 by simp] at h
    exact h
  rcases less_three (ka, va, ga, qa) (kb, vb, gb, qb) with ⟨h1, h2, h3⟩ | ⟨h1, h2, h3⟩ | ⟨h1, h2, h3, h4⟩
  · have Hab := Lib.hid fun w => less_any ka va ga qa kb vb gb qb true h1 w
    have Hba := Lib.hid fun w => less_any kb vb gb qb ka va ga qa false h2 w
    obtain ⟨r, hr⟩ : ∃ r, lessE (kb, vb, gb, qb) (kc, vc, gc, qc) = r := ⟨_, rfl⟩
    have Hbc := Lib.hid fun w => less_any kb vb gb qb kc vc gc qc r hr w
    have hac : r = true → lessE (ka, va, ga, qa) (kc, vc, gc, qc) = true := fun e => lessE_trans h1 (hr.trans e)
    simp only at h3
    by_cases hk : ka = kb
    · subst hk
      have hq : ((qa : Int) == qb) = false := by simp; exact fun e => h3 ⟨rfl, e⟩
      clear h1 h2 h3 hr
      cases r with
      | false =>
        clear hac
        go_enter Try.func8, Try.ntmps8
        go_wp2_with fail
        refine (Haa.out _).mono ?_
        rintro e w1 ⟨rfl, b⟩
        have HX1 := Lib.hid (And.intro (HX0.out.1.below b) (And.intro (HX0.out.2.1.below b) (And.intro (HX0.out.2.2.1.below b) (HX0.out.2.2.2.trans (b.mono HX0.out.2.2.2.size)))))
        clear b
        obtain ⟨⟨x0, x1, x2, x3, x4⟩, ⟨y0, y1, y2, y3, y4⟩, ⟨z0, z1, z2, z3, z4⟩, hw⟩ := HX1.out
        clear hw
        go_wp2_with fail
        refine (Hab.out _).mono ?_
        rintro e w2 ⟨rfl, b⟩
        have HX2 := Lib.hid (And.intro (HX1.out.1.below b) (And.intro (HX1.out.2.1.below b) (And.intro (HX1.out.2.2.1.below b) (HX1.out.2.2.2.trans (b.mono HX1.out.2.2.2.size)))))
        clear b x0 x1 x2 x3 x4 y0 y1 y2 y3 y4 z0 z1 z2 z3 z4
        obtain ⟨⟨x0, x1, x2, x3, x4⟩, ⟨y0, y1, y2, y3, y4⟩, ⟨z0, z1, z2, z3, z4⟩, hw⟩ := HX2.out
        clear hw
        go_wp2_with fail
        refine (Hba.out _).mono ?_
        rintro e w3 ⟨rfl, b⟩
        have HX3 := Lib.hid (And.intro (HX2.out.1.below b) (And.intro (HX2.out.2.1.below b) (And.intro (HX2.out.2.2.1.below b) (HX2.out.2.2.2.trans (b.mono HX2.out.2.2.2.size)))))
        clear b x0 x1 x2 x3 x4 y0 y1 y2 y3 y4 z0 z1 z2 z3 z4
        obtain ⟨⟨x0, x1, x2, x3, x4⟩, ⟨y0, y1, y2, y3, y4⟩, ⟨z0, z1, z2, z3, z4⟩, hw⟩ := HX3.out
        clear hw
        go_wp2_with fail
        refine (Hab.out _).mono ?_
        rintro e w4 ⟨rfl, b⟩
        have HX4 := Lib.hid (And.intro (HX3.out.1.below b) (And.intro (HX3.out.2.1.below b) (And.intro (HX3.out.2.2.1.below b) (HX3.out.2.2.2.trans (b.mono HX3.out.2.2.2.size)))))
        clear b x0 x1 x2 x3 x4 y0 y1 y2 y3 y4 z0 z1 z2 z3 z4
        obtain ⟨⟨x0, x1, x2, x3, x4⟩, ⟨y0, y1, y2, y3, y4⟩, ⟨z0, z1, z2, z3, z4⟩, hw⟩ := HX4.out
        clear hw
        go_wp2_with fail
        refine (Hab.out _).mono ?_
        rintro e w5 ⟨rfl, b⟩
        have HX5 := Lib.hid (And.intro (HX4.out.1.below b) (And.intro (HX4.out.2.1.below b) (And.intro (HX4.out.2.2.1.below b) (HX4.out.2.2.2.trans (b.mono HX4.out.2.2.2.size)))))
        clear b x0 x1 x2 x3 x4 y0 y1 y2 y3 y4 z0 z1 z2 z3 z4
        obtain ⟨⟨x0, x1, x2, x3, x4⟩, ⟨y0, y1, y2, y3, y4⟩, ⟨z0, z1, z2, z3, z4⟩, hw⟩ := HX5.out
        clear hw
        go_wp2_with fail
        refine (Hbc.out _).mono ?_
        rintro e w6 ⟨rfl, b⟩
        have HX6 := Lib.hid (And.intro (HX5.out.1.below b) (And.intro (HX5.out.2.1.below b) (And.intro (HX5.out.2.2.1.below b) (HX5.out.2.2.2.trans (b.mono HX5.out.2.2.2.size)))))
        clear b x0 x1 x2 x3 x4 y0 y1 y2 y3 y4 z0 z1 z2 z3 z4
        obtain ⟨⟨x0, x1, x2, x3, x4⟩, ⟨y0, y1, y2, y3, y4⟩, ⟨z0, z1, z2, z3, z4⟩, hw⟩ := HX6.out
        clear hw
        go_wp2_with fail
        refine (HAw.out _).mono ?_
        rintro e w7 ⟨rfl, b⟩
        have HX7 := Lib.hid (And.intro (HX6.out.1.below b) (And.intro (HX6.out.2.1.below b) (And.intro (HX6.out.2.2.1.below b) (HX6.out.2.2.2.trans (b.mono HX6.out.2.2.2.size)))))
        clear b x0 x1 x2 x3 x4 y0 y1 y2 y3 y4 z0 z1 z2 z3 z4
        go_wp2
        go_ret
        exact ⟨rfl, HX7.out.2.2.2⟩
      | true =>
        have Hac := Lib.hid fun w => less_any ka va ga qa kc vc gc qc true (hac rfl) w
        clear hac
        go_enter Try.func8, Try.ntmps8
        go_wp2_with fail
        refine (Haa.out _).mono ?_
        rintro e w1 ⟨rfl, b⟩
        have HX1 := Lib.hid (And.intro (HX0.out.1.below b) (And.intro (HX0.out.2.1.below b) (And.intro (HX0.out.2.2.1.below b) (HX0.out.2.2.2.trans (b.mono HX0.out.2.2.2.size)))))
        clear b
        obtain ⟨⟨x0, x1, x2, x3, x4⟩, ⟨y0, y1, y2, y3, y4⟩, ⟨z0, z1, z2, z3, z4⟩, hw⟩ := HX1.out
        clear hw
        go_wp2_with fail
        refine (Hab.out _).mono ?_
        rintro e w2 ⟨rfl, b⟩
        have HX2 := Lib.hid (And.intro (HX1.out.1.below b) (And.intro (HX1.out.2.1.below b) (And.intro (HX1.out.2.2.1.below b) (HX1.out.2.2.2.trans (b.mono HX1.out.2.2.2.size)))))
        clear b x0 x1 x2 x3 x4 y0 y1 y2 y3 y4 z0 z1 z2 z3 z4
        obtain ⟨⟨x0, x1, x2, x3, x4⟩, ⟨y0, y1, y2, y3, y4⟩, ⟨z0, z1, z2, z3, z4⟩, hw⟩ := HX2.out
        clear hw
        go_wp2_with fail
        refine (Hba.out _).mono ?_
        rintro e w3 ⟨rfl, b⟩
        have HX3 := Lib.hid (And.intro (HX2.out.1.below b) (And.intro (HX2.out.2.1.below b) (And.intro (HX2.out.2.2.1.below b) (HX2.out.2.2.2.trans (b.mono HX2.out.2.2.2.size)))))
        clear b x0 x1 x2 x3 x4 y0 y1 y2 y3 y4 z0 z1 z2 z3 z4
        obtain ⟨⟨x0, x1, x2, x3, x4⟩, ⟨y0, y1, y2, y3, y4⟩, ⟨z0, z1, z2, z3, z4⟩, hw⟩ := HX3.out
        clear hw
        go_wp2_with fail
        refine (Hab.out _).mono ?_
        rintro e w4 ⟨rfl, b⟩
        have HX4 := Lib.hid (And.intro (HX3.out.1.below b) (And.intro (HX3.out.2.1.below b) (And.intro (HX3.out.2.2.1.below b) (HX3.out.2.2.2.trans (b.mono HX3.out.2.2.2.size)))))
        clear b x0 x1 x2 x3 x4 y0 y1 y2 y3 y4 z0 z1 z2 z3 z4
        obtain ⟨⟨x0, x1, x2, x3, x4⟩, ⟨y0, y1, y2, y3, y4⟩, ⟨z0, z1, z2, z3, z4⟩, hw⟩ := HX4.out
        clear hw
        go_wp2_with fail
        refine (Hab.out _).mono ?_
        rintro e w5 ⟨rfl, b⟩
        have HX5 := Lib.hid (And.intro (HX4.out.1.below b) (And.intro (HX4.out.2.1.below b) (And.intro (HX4.out.2.2.1.below b) (HX4.out.2.2.2.trans (b.mono HX4.out.2.2.2.size)))))
        clear b x0 x1 x2 x3 x4 y0 y1 y2 y3 y4 z0 z1 z2 z3 z4
        obtain ⟨⟨x0, x1, x2, x3, x4⟩, ⟨y0, y1, y2, y3, y4⟩, ⟨z0, z1, z2, z3, z4⟩, hw⟩ := HX5.out
        clear hw
        go_wp2_with fail
        refine (Hbc.out _).mono ?_
        rintro e w6 ⟨rfl, b⟩
        have HX6 := Lib.hid (And.intro (HX5.out.1.below b) (And.intro (HX5.out.2.1.below b) (And.intro (HX5.out.2.2.1.below b) (HX5.out.2.2.2.trans (b.mono HX5.out.2.2.2.size)))))
        clear b x0 x1 x2 x3 x4 y0 y1 y2 y3 y4 z0 z1 z2 z3 z4
        obtain ⟨⟨x0, x1, x2, x3, x4⟩, ⟨y0, y1, y2, y3, y4⟩, ⟨z0, z1, z2, z3, z4⟩, hw⟩ := HX6.out
        clear hw
        go_wp2_with fail
        refine (Hac.out _).mono ?_
        rintro e w7 ⟨rfl, b⟩
        have HX7 := Lib.hid (And.intro (HX6.out.1.below b) (And.intro (HX6.out.2.1.below b) (And.intro (HX6.out.2.2.1.below b) (HX6.out.2.2.2.trans (b.mono HX6.out.2.2.2.size)))))
        clear b x0 x1 x2 x3 x4 y0 y1 y2 y3 y4 z0 z1 z2 z3 z4
        obtain ⟨⟨x0, x1, x2, x3, x4⟩, ⟨y0, y1, y2, y3, y4⟩, ⟨z0, z1, z2, z3, z4⟩, hw⟩ := HX7.out
        clear hw
        go_wp2_with fail
        refine (HAw.out _).mono ?_
        rintro e w8 ⟨rfl, b⟩
        have HX8 := Lib.hid (And.intro (HX7.out.1.below b) (And.intro (HX7.out.2.1.below b) (And.intro (HX7.out.2.2.1.below b) (HX7.out.2.2.2.trans (b.mono HX7.out.2.2.2.size)))))
        clear b x0 x1 x2 x3 x4 y0 y1 y2 y3 y4 z0 z1 z2 z3 z4
        go_wp2
        go_ret
        exact ⟨rfl, HX8.out.2.2.2⟩
    · have hkb := str_ne hk
      clear h1 h2 h3 hr
      cases r with
      | false =>
        clear hac
        go_enter Try.func8, Try.ntmps8
        go_wp2_with fail
        refine (Haa.out _).mono ?_
        rintro e w1 ⟨rfl, b⟩
        have HX1 := Lib.hid (And.intro (HX0.out.1.below b) (And.intro (HX0.out.2.1.below b) (And.intro (HX0.out.2.2.1.below b) (HX0.out.2.2.2.trans (b.mono HX0.out.2.2.2.size)))))
        clear b
        obtain ⟨⟨x0, x1, x2, x3, x4⟩, ⟨y0, y1, y2, y3, y4⟩, ⟨z0, z1, z2, z3, z4⟩, hw⟩ := HX1.out
        clear hw
        go_wp2_with fail
        refine (Hab.out _).mono ?_
        rintro e w2 ⟨rfl, b⟩
        have HX2 := Lib.hid (And.intro (HX1.out.1.below b) (And.intro (HX1.out.2.1.below b) (And.intro (HX1.out.2.2.1.below b) (HX1.out.2.2.2.trans (b.mono HX1.out.2.2.2.size)))))
        clear b x0 x1 x2 x3 x4 y0 y1 y2 y3 y4 z0 z1 z2 z3 z4
        obtain ⟨⟨x0, x1, x2, x3, x4⟩, ⟨y0, y1, y2, y3, y4⟩, ⟨z0, z1, z2, z3, z4⟩, hw⟩ := HX2.out
        clear hw
        go_wp2_with fail
        refine (Hba.out _).mono ?_
        rintro e w3 ⟨rfl, b⟩
        have HX3 := Lib.hid (And.intro (HX2.out.1.below b) (And.intro (HX2.out.2.1.below b) (And.intro (HX2.out.2.2.1.below b) (HX2.out.2.2.2.trans (b.mono HX2.out.2.2.2.size)))))
        clear b x0 x1 x2 x3 x4 y0 y1 y2 y3 y4 z0 z1 z2 z3 z4
        obtain ⟨⟨x0, x1, x2, x3, x4⟩, ⟨y0, y1, y2, y3, y4⟩, ⟨z0, z1, z2, z3, z4⟩, hw⟩ := HX3.out
        clear hw
        go_wp2_with fail
        refine (Hab.out _).mono ?_
        rintro e w4 ⟨rfl, b⟩
        have HX4 := Lib.hid (And.intro (HX3.out.1.below b) (And.intro (HX3.out.2.1.below b) (And.intro (HX3.out.2.2.1.below b) (HX3.out.2.2.2.trans (b.mono HX3.out.2.2.2.size)))))
        clear b x0 x1 x2 x3 x4 y0 y1 y2 y3 y4 z0 z1 z2 z3 z4
        obtain ⟨⟨x0, x1, x2, x3, x4⟩, ⟨y0, y1, y2, y3, y4⟩, ⟨z0, z1, z2, z3, z4⟩, hw⟩ := HX4.out
        clear hw
        go_wp2_with fail
        refine (Hab.out _).mono ?_
        rintro e w5 ⟨rfl, b⟩
        have HX5 := Lib.hid (And.intro (HX4.out.1.below b) (And.intro (HX4.out.2.1.below b) (And.intro (HX4.out.2.2.1.below b) (HX4.out.2.2.2.trans (b.mono HX4.out.2.2.2.size)))))
        clear b x0 x1 x2 x3 x4 y0 y1 y2 y3 y4 z0 z1 z2 z3 z4
        obtain ⟨⟨x0, x1, x2, x3, x4⟩, ⟨y0, y1, y2, y3, y4⟩, ⟨z0, z1, z2, z3, z4⟩, hw⟩ := HX5.out
        clear hw
        go_wp2_with fail
        refine (Hbc.out _).mono ?_
        rintro e w6 ⟨rfl, b⟩
        have HX6 := Lib.hid (And.intro (HX5.out.1.below b) (And.intro (HX5.out.2.1.below b) (And.intro (HX5.out.2.2.1.below b) (HX5.out.2.2.2.trans (b.mono HX5.out.2.2.2.size)))))
        clear b x0 x1 x2 x3 x4 y0 y1 y2 y3 y4 z0 z1 z2 z3 z4
        obtain ⟨⟨x0, x1, x2, x3, x4⟩, ⟨y0, y1, y2, y3, y4⟩, ⟨z0, z1, z2, z3, z4⟩, hw⟩ := HX6.out
        clear hw
        go_wp2_with fail
        refine (HAw.out _).mono ?_
        rintro e w7 ⟨rfl, b⟩
        have HX7 := Lib.hid (And.intro (HX6.out.1.below b) (And.intro (HX6.out.2.1.below b) (And.intro (HX6.out.2.2.1.below b) (HX6.out.2.2.2.trans (b.mono HX6.out.2.2.2.size)))))
        clear b x0 x1 x2 x3 x4 y0 y1 y2 y3 y4 z0 z1 z2 z3 z4
        go_wp2
        go_ret
        exact ⟨rfl, HX7.out.2.2.2⟩
      | true =>
        have Hac := Lib.hid fun w => less_any ka va ga qa kc vc gc qc true (hac rfl) w
        clear hac
        go_enter Try.func8, Try.ntmps8
        go_wp2_with fail
        refine (Haa.out _).mono ?_
        rintro e w1 ⟨rfl, b⟩
        have HX1 := Lib.hid (And.intro (HX0.out.1.below b) (And.intro (HX0.out.2.1.below b) (And.intro (HX0.out.2.2.1.below b) (HX0.out.2.2.2.trans (b.mono HX0.out.2.2.2.size)))))
        clear b
        obtain ⟨⟨x0, x1, x2, x3, x4⟩, ⟨y0, y1, y2, y3, y4⟩, ⟨z0, z1, z2, z3, z4⟩, hw⟩ := HX1.out
        clear hw
        go_wp2_with fail
        refine (Hab.out _).mono ?_
        rintro e w2 ⟨rfl, b⟩
        have HX2 := Lib.hid (And.intro (HX1.out.1.below b) (And.intro (HX1.out.2.1.below b) (And.intro (HX1.out.2.2.1.below b) (HX1.out.2.2.2.trans (b.mono HX1.out.2.2.2.size)))))
        clear b x0 x1 x2 x3 x4 y0 y1 y2 y3 y4 z0 z1 z2 z3 z4
        obtain ⟨⟨x0, x1, x2, x3, x4⟩, ⟨y0, y1, y2, y3, y4⟩, ⟨z0, z1, z2, z3, z4⟩, hw⟩ := HX2.out
        clear hw
        go_wp2_with fail
        refine (Hba.out _).mono ?_
        rintro e w3 ⟨rfl, b⟩
        have HX3 := Lib.hid (And.intro (HX2.out.1.below b) (And.intro (HX2.out.2.1.below b) (And.intro (HX2.out.2.2.1.below b) (HX2.out.2.2.2.trans (b.mono HX2.out.2.2.2.size)))))
        clear b x0 x1 x2 x3 x4 y0 y1 y2 y3 y4 z0 z1 z2 z3 z4
        obtain ⟨⟨x0, x1, x2, x3, x4⟩, ⟨y0, y1, y2, y3, y4⟩, ⟨z0, z1, z2, z3, z4⟩, hw⟩ := HX3.out
        clear hw
        go_wp2_with fail
        refine (Hab.out _).mono ?_
        rintro e w4 ⟨rfl, b⟩
        have HX4 := Lib.hid (And.intro (HX3.out.1.below b) (And.intro (HX3.out.2.1.below b) (And.intro (HX3.out.2.2.1.below b) (HX3.out.2.2.2.trans (b.mono HX3.out.2.2.2.size)))))
        clear b x0 x1 x2 x3 x4 y0 y1 y2 y3 y4 z0 z1 z2 z3 z4
        obtain ⟨⟨x0, x1, x2, x3, x4⟩, ⟨y0, y1, y2, y3, y4⟩, ⟨z0, z1, z2, z3, z4⟩, hw⟩ := HX4.out
        clear hw
        go_wp2_with fail
        refine (Hab.out _).mono ?_
        rintro e w5 ⟨rfl, b⟩
        have HX5 := Lib.hid (And.intro (HX4.out.1.below b) (And.intro (HX4.out.2.1.below b) (And.intro (HX4.out.2.2.1.below b) (HX4.out.2.2.2.trans (b.mono HX4.out.2.2.2.size)))))
        clear b x0 x1 x2 x3 x4 y0 y1 y2 y3 y4 z0 z1 z2 z3 z4
        obtain ⟨⟨x0, x1, x2, x3, x4⟩, ⟨y0, y1, y2, y3, y4⟩, ⟨z0, z1, z2, z3, z4⟩, hw⟩ := HX5.out
        clear hw
        go_wp2_with fail
        refine (Hbc.out _).mono ?_
        rintro e w6 ⟨rfl, b⟩
        have HX6 := Lib.hid (And.intro (HX5.out.1.below b) (And.intro (HX5.out.2.1.below b) (And.intro (HX5.out.2.2.1.below b) (HX5.out.2.2.2.trans (b.mono HX5.out.2.2.2.size)))))
        clear b x0 x1 x2 x3 x4 y0 y1 y2 y3 y4 z0 z1 z2 z3 z4
        obtain ⟨⟨x0, x1, x2, x3, x4⟩, ⟨y0, y1, y2, y3, y4⟩, ⟨z0, z1, z2, z3, z4⟩, hw⟩ := HX6.out
        clear hw
        go_wp2_with fail
        refine (Hac.out _).mono ?_
        rintro e w7 ⟨rfl, b⟩
        have HX7 := Lib.hid (And.intro (HX6.out.1.below b) (And.intro (HX6.out.2.1.below b) (And.intro (HX6.out.2.2.1.below b) (HX6.out.2.2.2.trans (b.mono HX6.out.2.2.2.size)))))
        clear b x0 x1 x2 x3 x4 y0 y1 y2 y3 y4 z0 z1 z2 z3 z4
        obtain ⟨⟨x0, x1, x2, x3, x4⟩, ⟨y0, y1, y2, y3, y4⟩, ⟨z0, z1, z2, z3, z4⟩, hw⟩ := HX7.out
        clear hw
        go_wp2_with fail
        refine (HAw.out _).mono ?_
        rintro e w8 ⟨rfl, b⟩
        have HX8 := Lib.hid (And.intro (HX7.out.1.below b) (And.intro (HX7.out.2.1.below b) (And.intro (HX7.out.2.2.1.below b) (HX7.out.2.2.2.trans (b.mono HX7.out.2.2.2.size)))))
        clear b x0 x1 x2 x3 x4 y0 y1 y2 y3 y4 z0 z1 z2 z3 z4
        go_wp2
        go_ret
        exact ⟨rfl, HX8.out.2.2.2⟩
  · have Hab := Lib.hid fun w => less_any ka va ga qa kb vb gb qb false h1 w
    have Hba := Lib.hid fun w => less_any kb vb gb qb ka va ga qa true h2 w
    simp only at h3
    by_cases hk : ka = kb
    · subst hk
      have hq : ((qa : Int) == qb) = false := by simp; exact fun e => h3 ⟨rfl, e⟩
      clear h1 h2 h3
      go_enter Try.func8, Try.ntmps8
      go_wp2_with fail
      refine (Haa.out _).mono ?_
      rintro e w1 ⟨rfl, b⟩
      have HX1 := Lib.hid (And.intro (HX0.out.1.below b) (And.intro (HX0.out.2.1.below b) (And.intro (HX0.out.2.2.1.below b) (HX0.out.2.2.2.trans (b.mono HX0.out.2.2.2.size)))))
      clear b
      obtain ⟨⟨x0, x1, x2, x3, x4⟩, ⟨y0, y1, y2, y3, y4⟩, ⟨z0, z1, z2, z3, z4⟩, hw⟩ := HX1.out
      clear hw
      go_wp2_with fail
      refine (Hab.out _).mono ?_
      rintro e w2 ⟨rfl, b⟩
      have HX2 := Lib.hid (And.intro (HX1.out.1.below b) (And.intro (HX1.out.2.1.below b) (And.intro (HX1.out.2.2.1.below b) (HX1.out.2.2.2.trans (b.mono HX1.out.2.2.2.size)))))
      clear b x0 x1 x2 x3 x4 y0 y1 y2 y3 y4 z0 z1 z2 z3 z4
      obtain ⟨⟨x0, x1, x2, x3, x4⟩, ⟨y0, y1, y2, y3, y4⟩, ⟨z0, z1, z2, z3, z4⟩, hw⟩ := HX2.out
      clear hw
      go_wp2_with fail
      refine (Hab.out _).mono ?_
      rintro e w3 ⟨rfl, b⟩
      have HX3 := Lib.hid (And.intro (HX2.out.1.below b) (And.intro (HX2.out.2.1.below b) (And.intro (HX2.out.2.2.1.below b) (HX2.out.2.2.2.trans (b.mono HX2.out.2.2.2.size)))))
      clear b x0 x1 x2 x3 x4 y0 y1 y2 y3 y4 z0 z1 z2 z3 z4
      obtain ⟨⟨x0, x1, x2, x3, x4⟩, ⟨y0, y1, y2, y3, y4⟩, ⟨z0, z1, z2, z3, z4⟩, hw⟩ := HX3.out
      clear hw
      go_wp2_with fail
      refine (Hba.out _).mono ?_
      rintro e w4 ⟨rfl, b⟩
      have HX4 := Lib.hid (And.intro (HX3.out.1.below b) (And.intro (HX3.out.2.1.below b) (And.intro (HX3.out.2.2.1.below b) (HX3.out.2.2.2.trans (b.mono HX3.out.2.2.2.size)))))
      clear b x0 x1 x2 x3 x4 y0 y1 y2 y3 y4 z0 z1 z2 z3 z4
      obtain ⟨⟨x0, x1, x2, x3, x4⟩, ⟨y0, y1, y2, y3, y4⟩, ⟨z0, z1, z2, z3, z4⟩, hw⟩ := HX4.out
      clear hw
      go_wp2_with fail
      refine (Hab.out _).mono ?_
      rintro e w5 ⟨rfl, b⟩
      have HX5 := Lib.hid (And.intro (HX4.out.1.below b) (And.intro (HX4.out.2.1.below b) (And.intro (HX4.out.2.2.1.below b) (HX4.out.2.2.2.trans (b.mono HX4.out.2.2.2.size)))))
      clear b x0 x1 x2 x3 x4 y0 y1 y2 y3 y4 z0 z1 z2 z3 z4
      obtain ⟨⟨x0, x1, x2, x3, x4⟩, ⟨y0, y1, y2, y3, y4⟩, ⟨z0, z1, z2, z3, z4⟩, hw⟩ := HX5.out
      clear hw
      go_wp2_with fail
      refine (HAw.out _).mono ?_
      rintro e w6 ⟨rfl, b⟩
      have HX6 := Lib.hid (And.intro (HX5.out.1.below b) (And.intro (HX5.out.2.1.below b) (And.intro (HX5.out.2.2.1.below b) (HX5.out.2.2.2.trans (b.mono HX5.out.2.2.2.size)))))
      clear b x0 x1 x2 x3 x4 y0 y1 y2 y3 y4 z0 z1 z2 z3 z4
      go_wp2
      go_ret
      exact ⟨rfl, HX6.out.2.2.2⟩
    · have hkb := str_ne hk
      clear h1 h2 h3
      go_enter Try.func8, Try.ntmps8
      go_wp2_with fail
      refine (Haa.out _).mono ?_
      rintro e w1 ⟨rfl, b⟩
      have HX1 := Lib.hid (And.intro (HX0.out.1.below b) (And.intro (HX0.out.2.1.below b) (And.intro (HX0.out.2.2.1.below b) (HX0.out.2.2.2.trans (b.mono HX0.out.2.2.2.size)))))
      clear b
      obtain ⟨⟨x0, x1, x2, x3, x4⟩, ⟨y0, y1, y2, y3, y4⟩, ⟨z0, z1, z2, z3, z4⟩, hw⟩ := HX1.out
      clear hw
      go_wp2_with fail
      refine (Hab.out _).mono ?_
      rintro e w2 ⟨rfl, b⟩
      have HX2 := Lib.hid (And.intro (HX1.out.1.below b) (And.intro (HX1.out.2.1.below b) (And.intro (HX1.out.2.2.1.below b) (HX1.out.2.2.2.trans (b.mono HX1.out.2.2.2.size)))))
      clear b x0 x1 x2 x3 x4 y0 y1 y2 y3 y4 z0 z1 z2 z3 z4
      obtain ⟨⟨x0, x1, x2, x3, x4⟩, ⟨y0, y1, y2, y3, y4⟩, ⟨z0, z1, z2, z3, z4⟩, hw⟩ := HX2.out
      clear hw
      go_wp2_with fail
      refine (Hab.out _).mono ?_
      rintro e w3 ⟨rfl, b⟩
      have HX3 := Lib.hid (And.intro (HX2.out.1.below b) (And.intro (HX2.out.2.1.below b) (And.intro (HX2.out.2.2.1.below b) (HX2.out.2.2.2.trans (b.mono HX2.out.2.2.2.size)))))
      clear b x0 x1 x2 x3 x4 y0 y1 y2 y3 y4 z0 z1 z2 z3 z4
      obtain ⟨⟨x0, x1, x2, x3, x4⟩, ⟨y0, y1, y2, y3, y4⟩, ⟨z0, z1, z2, z3, z4⟩, hw⟩ := HX3.out
      clear hw
      go_wp2_with fail
      refine (Hba.out _).mono ?_
      rintro e w4 ⟨rfl, b⟩
      have HX4 := Lib.hid (And.intro (HX3.out.1.below b) (And.intro (HX3.out.2.1.below b) (And.intro (HX3.out.2.2.1.below b) (HX3.out.2.2.2.trans (b.mono HX3.out.2.2.2.size)))))
      clear b x0 x1 x2 x3 x4 y0 y1 y2 y3 y4 z0 z1 z2 z3 z4
      obtain ⟨⟨x0, x1, x2, x3, x4⟩, ⟨y0, y1, y2, y3, y4⟩, ⟨z0, z1, z2, z3, z4⟩, hw⟩ := HX4.out
      clear hw
      go_wp2_with fail
      refine (Hab.out _).mono ?_
      rintro e w5 ⟨rfl, b⟩
      have HX5 := Lib.hid (And.intro (HX4.out.1.below b) (And.intro (HX4.out.2.1.below b) (And.intro (HX4.out.2.2.1.below b) (HX4.out.2.2.2.trans (b.mono HX4.out.2.2.2.size)))))
      clear b x0 x1 x2 x3 x4 y0 y1 y2 y3 y4 z0 z1 z2 z3 z4
      obtain ⟨⟨x0, x1, x2, x3, x4⟩, ⟨y0, y1, y2, y3, y4⟩, ⟨z0, z1, z2, z3, z4⟩, hw⟩ := HX5.out
      clear hw
      go_wp2_with fail
      refine (HAw.out _).mono ?_
      rintro e w6 ⟨rfl, b⟩
      have HX6 := Lib.hid (And.intro (HX5.out.1.below b) (And.intro (HX5.out.2.1.below b) (And.intro (HX5.out.2.2.1.below b) (HX5.out.2.2.2.trans (b.mono HX5.out.2.2.2.size)))))
      clear b x0 x1 x2 x3 x4 y0 y1 y2 y3 y4 z0 z1 z2 z3 z4
      go_wp2
      go_ret
      exact ⟨rfl, HX6.out.2.2.2⟩
  · have Hab := Lib.hid fun w => less_any ka va ga qa kb vb gb qb false h1 w
    have Hba := Lib.hid fun w => less_any kb vb gb qb ka va ga qa false h2 w
    simp only at h3 h4
    clear h1 h2
    subst h3 h4
    go_enter Try.func8, Try.ntmps8
    go_wp2_with fail
    refine (Haa.out _).mono ?_
    rintro e w1 ⟨rfl, b⟩
    have HX1 := Lib.hid (And.intro (HX0.out.1.below b) (And.intro (HX0.out.2.1.below b) (And.intro (HX0.out.2.2.1.below b) (HX0.out.2.2.2.trans (b.mono HX0.out.2.2.2.size)))))
    clear b
    obtain ⟨⟨x0, x1, x2, x3, x4⟩, ⟨y0, y1, y2, y3, y4⟩, ⟨z0, z1, z2, z3, z4⟩, hw⟩ := HX1.out
    clear hw
    go_wp2_with fail
    refine (Hab.out _).mono ?_
    rintro e w2 ⟨rfl, b⟩
    have HX2 := Lib.hid (And.intro (HX1.out.1.below b) (And.intro (HX1.out.2.1.below b) (And.intro (HX1.out.2.2.1.below b) (HX1.out.2.2.2.trans (b.mono HX1.out.2.2.2.size)))))
    clear b x0 x1 x2 x3 x4 y0 y1 y2 y3 y4 z0 z1 z2 z3 z4
    obtain ⟨⟨x0, x1, x2, x3, x4⟩, ⟨y0, y1, y2, y3, y4⟩, ⟨z0, z1, z2, z3, z4⟩, hw⟩ := HX2.out
    clear hw
    go_wp2_with fail
    refine (Hab.out _).mono ?_
    rintro e w3 ⟨rfl, b⟩
    have HX3 := Lib.hid (And.intro (HX2.out.1.below b) (And.intro (HX2.out.2.1.below b) (And.intro (HX2.out.2.2.1.below b) (HX2.out.2.2.2.trans (b.mono HX2.out.2.2.2.size)))))
    clear b x0 x1 x2 x3 x4 y0 y1 y2 y3 y4 z0 z1 z2 z3 z4
    obtain ⟨⟨x0, x1, x2, x3, x4⟩, ⟨y0, y1, y2, y3, y4⟩, ⟨z0, z1, z2, z3, z4⟩, hw⟩ := HX3.out
    clear hw
    go_wp2_with fail
    refine (Hba.out _).mono ?_
    rintro e w4 ⟨rfl, b⟩
    have HX4 := Lib.hid (And.intro (HX3.out.1.below b) (And.intro (HX3.out.2.1.below b) (And.intro (HX3.out.2.2.1.below b) (HX3.out.2.2.2.trans (b.mono HX3.out.2.2.2.size)))))
    clear b x0 x1 x2 x3 x4 y0 y1 y2 y3 y4 z0 z1 z2 z3 z4
    obtain ⟨⟨x0, x1, x2, x3, x4⟩, ⟨y0, y1, y2, y3, y4⟩, ⟨z0, z1, z2, z3, z4⟩, hw⟩ := HX4.out
    clear hw
    go_wp2_with fail
    refine (Hab.out _).mono ?_
    rintro e w5 ⟨rfl, b⟩
    have HX5 := Lib.hid (And.intro (HX4.out.1.below b) (And.intro (HX4.out.2.1.below b) (And.intro (HX4.out.2.2.1.below b) (HX4.out.2.2.2.trans (b.mono HX4.out.2.2.2.size)))))
    clear b x0 x1 x2 x3 x4 y0 y1 y2 y3 y4 z0 z1 z2 z3 z4
    obtain ⟨⟨x0, x1, x2, x3, x4⟩, ⟨y0, y1, y2, y3, y4⟩, ⟨z0, z1, z2, z3, z4⟩, hw⟩ := HX5.out
    clear hw
    go_wp2_with fail
    refine (HAw.out _).mono ?_
    rintro e w6 ⟨rfl, b⟩
    have HX6 := Lib.hid (And.intro (HX5.out.1.below b) (And.intro (HX5.out.2.1.below b) (And.intro (HX5.out.2.2.1.below b) (HX5.out.2.2.2.trans (b.mono HX5.out.2.2.2.size)))))
    clear b x0 x1 x2 x3 x4 y0 y1 y2 y3 y4 z0 z1 z2 z3 z4
    go_wp2
    go_ret
    exact ⟨rfl, HX6.out.2.2.2⟩
end Go.Proofs.Ytjneigejcaahiaa
