/-
  Layer 9 (block), contracts of Find, of the code and of the document's answer. Conditions: texts within the reach.
-/
import Derived.Test.YtjneigejcaahiaaKi
namespace Go.Proofs.Ytjneigejcaahiaa
open Go.RowKit
set_option linter.unusedVariables false
set_option linter.unusedSimpArgs false

abbrev zObj : Obj := .cells #[.string ⟨#[]⟩, .string ⟨#[]⟩, .bool false, .int .i64 0] 36
set_option maxHeartbeats 4000000 in
theorem find9_no (a : Option Addr) (n cap : Nat) (es : List Ent) (key : ByteArray) (at_ : Int) (w : World) (hn : n ≤ 9223372036854775807) (hl : es.length = n) (h : RdE w a es) (hok : okV es) (hr : okB es = false) :
    Calls Try.prog 19 #[.slice a n cap, .string key, .int .i64 at_] w fun e w' => e = .returned (fnd (FB es key at_)) ∧ Below w.heap.size w w' := by
  have hw0 : Below w.heap.size w ((w.alloc (.cells #[.slice a n cap] 22)).alloc zObj) := ((Below.refl _ _).alloc (Nat.le_refl _) _).alloc (by simp) _
  have HC := Lib.hid (chk9_any a n cap es ((w.alloc (.cells #[.slice a n cap] 22)).alloc zObj) hn hl (h.old hw0) hok _ hr)
  have HR : Hid (FB es key at_ = none) := Lib.hid (by unfold FB; rw [hr]; rfl)
  have HZ := Lib.hid (And.intro (EBox.new2 w (.cells #[.slice a n cap] 22) 36 ⟨#[]⟩ ⟨#[]⟩ false 0) hw0)
  clear hl h hok hr hw0
  go_enter Try.func19, Try.ntmps19
  go_wp2_with fail
  refine HC.out.mono ?_
  rintro e w1 ⟨rfl, b1⟩
  rw [show chkV false = 1 from rfl]
  obtain ⟨z0, z1, z2, z3, z4⟩ := HZ.out.1.below b1
  have f0 := (b1.frozen (p := ⟨w.heap.size + 1, 0, none⟩) (by simp)).trans (by simp : _ = false)
  have f1 := (b1.frozen (p := ⟨w.heap.size + 1, 1, none⟩) (by simp)).trans (by simp : _ = false)
  have f2 := (b1.frozen (p := ⟨w.heap.size + 1, 2, none⟩) (by simp)).trans (by simp : _ = false)
  have f3 := (b1.frozen (p := ⟨w.heap.size + 1, 3, none⟩) (by simp)).trans (by simp : _ = false)
  have HB := Lib.hid (HZ.out.2.trans (b1.mono (by simp; omega)))
  clear b1
  go_wp2
  exact bodyPost_ret (v := .tuple #[.agg #[.string ⟨#[]⟩, .string ⟨#[]⟩, .bool false, .int .i64 0], .bool false]) (by simp [results, Try.results19, go_sem, z0, z1, z2, z3, z4]) rfl ⟨by rw [HR.out]; rfl, below_put HB.out (Nat.le_succ _) _ _ _ _⟩
set_option maxRecDepth 100000 in
set_option maxHeartbeats 4000000 in
theorem find9_yes (b off n cap : Nat) (es : List Ent) (key : ByteArray) (at_ : Int) (w : World) (hl : es.length = n) (hb : 0 < n → b < w.heap.size) (hc : EAt w b off es) (a : Option Addr) (ha : 0 < n → a = some ⟨b, off, none⟩) (h : RdE w a es) (hok : okV es) (hr : okB es = true) :
    Calls Try.prog 19 #[.slice a n cap, .string key, .int .i64 at_] w fun e w' => e = .returned (fnd (FB es key at_)) ∧ Below w.heap.size w w' := by
  have hn : n ≤ 4096 ∧ chainE zE es = true := by
    unfold okB at hr
    simp only [Bool.and_eq_true, decide_eq_true_eq] at hr
    exact ⟨by omega, hr.2⟩
  obtain ⟨hn, hch⟩ := hn
  have hw0 : Below w.heap.size w ((w.alloc (.cells #[.slice a n cap] 22)).alloc zObj) := ((Below.refl _ _).alloc (Nat.le_refl _) _).alloc (by simp) _
  have HC := Lib.hid (chk9_any a n cap es ((w.alloc (.cells #[.slice a n cap] 22)).alloc zObj) (by omega) hl (h.old hw0) hok _ hr)
  have HR : Hid (FB es key at_ = findB es key at_) := Lib.hid (by unfold FB; rw [hr]; rfl)
  have hcl : ((w.alloc (.cells #[.slice a n cap] 22)).alloc zObj).cell? ⟨w.heap.size, 0, none⟩ = some (.slice a n cap) := by simp [go_sem]
  have HZ := Lib.hid (And.intro (EBox.new2 w (.cells #[.slice a n cap] 22) 36 ⟨#[]⟩ ⟨#[]⟩ false 0) (And.intro hw0 hcl))
  have HL := Lib.hid hl
  have HE := Lib.hid hc
  have HCH := Lib.hid hch
  clear h hok hr hw0 hcl hl hc hch
  go_enter Try.func19, Try.ntmps19
  go_wp2_with fail
  refine HC.out.mono ?_
  rintro e w1 ⟨rfl, b1⟩
  rw [show chkV true = 0 from rfl]
  have hs1 : w.heap.size + 2 ≤ w1.heap.size := by have := b1.size; simpa using this
  have HZ1 := Lib.hid (HZ.out.1.below b1)
  have HF1 : Hid (EFree w1 (w.heap.size + 1)) := Lib.hid ⟨(b1.frozen (p := ⟨w.heap.size + 1, 0, none⟩) (by simp)).trans (by simp), (b1.frozen (p := ⟨w.heap.size + 1, 1, none⟩) (by simp)).trans (by simp), (b1.frozen (p := ⟨w.heap.size + 1, 2, none⟩) (by simp)).trans (by simp), (b1.frozen (p := ⟨w.heap.size + 1, 3, none⟩) (by simp)).trans (by simp)⟩
  have c0 : w1.cell? ⟨w.heap.size, 0, none⟩ = some (.slice a n cap) := (b1.cell (p := ⟨w.heap.size, 0, none⟩) (by simp; omega)).trans HZ.out.2.2
  have HB1 := Lib.hid (HZ.out.2.1.trans (b1.mono (by simp; omega)))
  have HCx := Lib.hid c0
  clear b1 HC
  have HQ : Hid (FQ w.heap.size w1.heap.size (w1.alloc (.cells #[.string key, .string ⟨#[]⟩, .bool false, .int .i64 at_] 36)) a n cap key at_) :=
    Lib.hid ⟨(World.cell?_alloc_lt w1 _ ⟨w.heap.size, 0, none⟩ (by show w.heap.size < _; omega)).trans c0, EBox.new w1 _ _ _ _ _, by simp; omega⟩
  obtain ⟨p, hp⟩ : ∃ p : Nat → Bool, p = fun i => if h : i < es.length then !lessE es[i] (key, ⟨#[]⟩, false, at_) else true := ⟨_, rfl⟩
  have hpa : ∀ i (h : i < es.length), p i = !lessE es[i] (key, ⟨#[]⟩, false, at_) := fun i h => by rw [hp]; simp only [h, dif_pos]
  have HPA := Lib.hid hpa
  have HSe := Lib.hid (search9_any w.heap.size w1.heap.size n p (w1.alloc (.cells #[.string key, .string ⟨#[]⟩, .bool false, .int .i64 at_] 36)) (by omega)
    (fun wx hx i hi => by
      have h1 : Below w.heap.size w wx := HB1.out.trans ((((Below.refl _ w1).alloc (Nat.le_refl _) _).trans (hx.mono (by simp))).mono HB1.out.size)
      have hq := HQ.out.old hx
      rw [ha (by omega)] at hq
      exact fclo_any w.heap.size w1.heap.size b off n cap es key at_ HL.out wx hq (Nat.lt_of_lt_of_le (hb (by omega)) h1.size) (HE.out.old (hb (by omega)) h1) i hi _ (hpa i (by rw [HL.out]; exact hi)).symm)
    (fun x y hxy hy hpx => by
      have hyl : y < es.length := by rw [HL.out]; exact hy
      rw [hpa y hyl]
      rw [hpa x (by omega)] at hpx
      rcases Nat.lt_or_eq_of_le hxy with hlt | rfl
      · cases hly : lessE es[y] (key, ⟨#[]⟩, false, at_) with
        | false => rfl
        | true =>
          have h1 := chain_ahead (chain_drop x (by omega) HCH.out) es[y] (by
            have : es[y] = (es.drop (x + 1))[y - (x + 1)]'(by rw [List.length_drop]; omega) := by rw [List.getElem_drop]; congr 1; omega
            rw [this]
            exact List.getElem_mem _)
          rw [lessE_trans h1 hly] at hpx
          cases hpx
      · exact hpx))
  have cq := HQ.out.1
  have hlt1 : w.heap.size < w1.heap.size := by omega
  clear hp hpa HQ
  have hne1 : ¬ w.heap.size = w1.heap.size := by omega
  go_wp2_with fail
  refine HSe.out.mono ?_
  rintro e w2 ⟨i, rfl, hi, hlo, hhi, b2⟩
  have hb12 : Below w1.heap.size w1 w2 := below_al b2
  clear c0 cq
  have HB2 := Lib.hid (HB1.out.trans (hb12.mono HB1.out.size))
  have c0 : w2.cell? ⟨w.heap.size, 0, none⟩ = some (.slice a n cap) := (hb12.cell (p := ⟨w.heap.size, 0, none⟩) (by show w.heap.size < _; omega)).trans HCx.out
  obtain ⟨z0, z1, z2, z3, z4⟩ := HZ1.out.below hb12
  obtain ⟨f0, f1, f2, f3⟩ := HF1.out.below (by omega) hb12
  have HFA := Lib.hid (find_at (key := key) (at_ := at_) HCH.out i (by rw [HL.out]; exact hi)
    (fun j h hj => by have := hlo j hj; rw [HPA.out j h] at this; simpa using this)
    (fun h => by have := hhi i (Nat.le_refl _) (by rw [← HL.out]; exact h); rw [HPA.out i h] at this; simpa using this))
  clear hlo hhi b2 hb12 HSe
  by_cases hin : i = n
  · subst hin
    have HN : Hid (FB es key at_ = none) := Lib.hid (by rw [HR.out, HFA.out, dif_neg (by rw [HL.out]; omega)])
    go_wp2
    exact bodyPost_ret (v := .tuple #[.agg #[.string ⟨#[]⟩, .string ⟨#[]⟩, .bool false, .int .i64 0], .bool false]) (by simp [results, Try.results19, go_sem, z0, z1, z2, z3, z4]) rfl ⟨by rw [HN.out]; rfl, below_put HB2.out (Nat.le_succ _) _ _ _ _⟩
  · obtain rfl := ha (by omega)
    have hbw := hb (by omega)
    have hkl : i < es.length := by rw [HL.out]; omega
    have hii : (i : Int) < (n : Int) := by omega
    have hinb : ((i : Int) == (n : Int)) = false := by simp; omega
    obtain ⟨g0, g1, g2, g3⟩ := HE.out.old hbw HB2.out i hkl
    have hfa := HFA.out
    rw [dif_pos hkl] at hfa
    obtain ⟨E, hEq⟩ : ∃ E, E = es[i] := ⟨_, rfl⟩
    rw [← hEq] at g0 g1 g2 g3 hfa
    obtain ⟨ek, evl, eg, eq⟩ := E
    have hbz : ¬ b = w.heap.size + 1 := by omega
    have hzb : ¬ w.heap.size + 1 = b := by omega
    by_cases hk : ek = key
    · subst hk
      rw [if_pos rfl] at hfa
      have HN : Hid (FB es ek at_ = some (ek, evl, eg, eq)) := Lib.hid (by rw [HR.out, hfa])
      clear hfa hEq
      go_wp2
      exact bodyPost_ret (v := .tuple #[.agg #[.string ek, .string evl, .bool eg, .int .i64 eq], .bool true]) (by simp [results, Try.results19, go_sem, z0, z1, z2, z3, z4]) rfl ⟨by rw [HN.out]; rfl, below_put HB2.out (Nat.le_succ _) _ _ _ _⟩
    · rw [if_neg hk] at hfa
      have HN : Hid (FB es key at_ = none) := Lib.hid (by rw [HR.out, hfa])
      have hkb := str_ne hk
      clear hfa hEq hk
      go_wp2
      exact bodyPost_ret (v := .tuple #[.agg #[.string ⟨#[]⟩, .string ⟨#[]⟩, .bool false, .int .i64 0], .bool false]) (by simp [results, Try.results19, go_sem, z0, z1, z2, z3, z4]) rfl ⟨by rw [HN.out]; rfl, below_put HB2.out (Nat.le_succ _) _ _ _ _⟩
theorem find9_any (a : Option Addr) (n cap : Nat) (es : List Ent) (key : ByteArray) (at_ : Int) (w : World) (hn : n ≤ 9223372036854775807) (hl : es.length = n) (h : RdE w a es) (hok : okV es) :
    Calls Try.prog 19 #[.slice a n cap, .string key, .int .i64 at_] w fun e w' => e = .returned (fnd (FB es key at_)) ∧ Below w.heap.size w w' := by
  cases hr : okB es with
  | false => exact find9_no a n cap es key at_ w hn hl h hok hr
  | true =>
    obtain ⟨b, off, h1, h2, h3⟩ := h.at_
    rw [hl] at h1 h2
    exact find9_yes b off n cap es key at_ w hl h2 h3 a h1 h hok hr
end Go.Proofs.Ytjneigejcaahiaa
