/-
  Layer 9 (block), contracts of sort.Search at the code's closure, and of Find, of the code and of the document's answer. Conditions: texts within the reach.
-/
import Derived.Test.YtjneigejcaahiaaKh
namespace Go.Proofs.Ytjneigejcaahiaa
open Go.RowKit
set_option linter.unusedVariables false
set_option linter.unusedSimpArgs false

set_option maxHeartbeats 2000000 in
theorem search9_any (L K n : Nat) (p : Nat → Bool) (w : World) (hsz : n < 4611686018427387904)
    (hf : ∀ wx, Below w.heap.size w wx → ∀ i, i < n → Calls Try.prog 45 #[.int .i64 (i : Nat), .pointer (some ⟨L, 0, none⟩), .pointer (some ⟨K, 0, none⟩)] wx fun e w' => e = .returned (.bool (p i)) ∧ Below wx.heap.size wx w')
    (hmono : ∀ a b, a ≤ b → b < n → p a = true → p b = true) :
    Calls Try.prog 44 #[.int .i64 (n : Nat), .func (.func 45) #[] #[.pointer (some ⟨L, 0, none⟩), .pointer (some ⟨K, 0, none⟩)]] w fun e w' =>
      ∃ i : Nat, e = .returned (.int .i64 (i : Nat)) ∧ i ≤ n ∧ (∀ j, j < i → p j = false) ∧ (∀ j, i ≤ j → j < n → p j = true) ∧ Below w.heap.size w w' := by
  have HF := Lib.hid hf
  have M := Lib.hid hmono
  clear hf hmono
  go_enter Try.func44, Try.ntmps44
  go_wp2
  go_loopw [5, 6] (fun s5 s6 wr => ∃ (lo hi : Nat), s5 = .int .i64 lo ∧ s6 = .int .i64 hi ∧ lo ≤ hi ∧ hi ≤ n ∧ Hid (Below w.heap.size w wr) ∧ Hid ((∀ t, t < lo → p t = false) ∧ (∀ t, hi ≤ t → t < n → p t = true))) (fun a b _ => (intOf b).toNat - (intOf a).toNat)
  case atStart => exact ⟨0, n, rfl, rfl, Nat.zero_le _, Nat.le_refl _, Lib.hid (Below.refl _ _), Lib.hid ⟨fun t ht => absurd ht (Nat.not_lt_zero _), fun t h1 h2 => by omega⟩⟩
  case round =>
    obtain ⟨lo, hi, rfl, rfl, hlh, hin, HW, I⟩ := hrel
    by_cases hlt : lo < hi
    · have hli : (lo : Int) < (hi : Int) := by omega
      have hc := HF.out wr HW.out ((lo + hi) / 2) (by omega)
      rw [show (((lo + hi) / 2 : Nat) : Int) = ((lo : Int) + (hi : Int)) / 2 by omega] at hc
      have HC := Lib.hid hc
      obtain ⟨pm, hp⟩ : ∃ pm, p ((lo + hi) / 2) = pm := ⟨_, rfl⟩
      rw [hp] at HC
      have HP := Lib.hid hp
      clear hc hp
      have hb1 : (0 : Int) ≤ ((lo : Int) + (hi : Int)) / 2 := by omega
      have hb2 : ((lo : Int) + (hi : Int)) / 2 ≤ 4611686018427387904 := by omega
      go_wp2_with fail
      refine HC.out.mono ?_
      rintro e w2 ⟨rfl, b2⟩
      have HW2 := Lib.hid (HW.out.trans (b2.mono HW.out.size))
      clear b2
      cases pm with
      | false =>
        have I2 : Hid ((∀ t, t < (lo + hi) / 2 + 1 → p t = false) ∧ (∀ t, hi ≤ t → t < n → p t = true)) := Lib.hid ⟨fun t ht => (by
            cases h : p t with
            | false => rfl
            | true => have := M.out t ((lo + hi) / 2) (by omega) (by omega) h; rw [HP.out] at this; cases this), I.out.2⟩
        go_wp2
        go_roundw
        case rel => exact ⟨(lo + hi) / 2 + 1, hi, by rw [show ((lo : Int) + (hi : Int)) / 2 + 1 = (((lo + hi) / 2 + 1 : Nat) : Int) by omega], rfl, by omega, hin, HW2, I2⟩
        case measure => simp [intOf]; omega
      | true =>
        have I2 : Hid ((∀ t, t < lo → p t = false) ∧ (∀ t, (lo + hi) / 2 ≤ t → t < n → p t = true)) := Lib.hid ⟨I.out.1, fun t ht htn => M.out ((lo + hi) / 2) t ht htn HP.out⟩
        go_wp2
        go_roundw
        case rel => exact ⟨lo, (lo + hi) / 2, rfl, by rw [show ((lo : Int) + (hi : Int)) / 2 = (((lo + hi) / 2 : Nat) : Int) by omega], by omega, by omega, HW2, I2⟩
        case measure => simp [intOf]; omega
    · obtain rfl : hi = lo := by omega
      go_wp2
      go_ret
      exact ⟨hi, rfl, hin, I.out.1, I.out.2, HW.out⟩

/-- What Find looks at: the slice's box, what is asked for. -/
def FQ (L K : Nat) (w : World) (a : Option Addr) (n cap : Nat) (key : ByteArray) (at_ : Int) : Prop :=
  w.cell? ⟨L, 0, none⟩ = some (.slice a n cap) ∧ EBox w K key ⟨#[]⟩ false at_ ∧ L < w.heap.size
theorem FQ.old {L K : Nat} {w w' : World} {a : Option Addr} {n cap : Nat} {key : ByteArray} {at_ : Int} (h : FQ L K w a n cap key at_) (hb : Below w.heap.size w w') : FQ L K w' a n cap key at_ :=
  ⟨(hb.cell (p := ⟨L, 0, none⟩) h.2.2).trans h.1, h.2.1.below hb, Nat.lt_of_lt_of_le h.2.2 hb.size⟩
set_option maxRecDepth 100000 in
set_option maxHeartbeats 2000000 in
theorem fclo_any (L K b off n cap : Nat) (es : List Ent) (key : ByteArray) (at_ : Int) (hl : es.length = n) (w : World) (hq : FQ L K w (some ⟨b, off, none⟩) n cap key at_) (hb : b < w.heap.size) (hc : EAt w b off es) (i : Nat) (hi : i < n) (r : Bool) (hr : (!lessE (es[i]'(by omega)) (key, ⟨#[]⟩, false, at_)) = r) :
    Calls Try.prog 45 #[.int .i64 (i : Nat), .pointer (some ⟨L, 0, none⟩), .pointer (some ⟨K, 0, none⟩)] w fun e w' => e = .returned (.bool r) ∧ Below w.heap.size w w' := by
  have hkl : i < es.length := by omega
  obtain ⟨g0, g1, g2, g3⟩ := hc i hkl
  obtain ⟨E, hE⟩ : ∃ E, E = es[i] := ⟨_, rfl⟩
  rw [← hE] at g0 g1 g2 g3 hr
  obtain ⟨ek, evl, eg, eq⟩ := E
  obtain ⟨c0, ⟨x0, x1, x2, x3, x4⟩, x5⟩ := hq
  obtain ⟨s, hs⟩ : ∃ s, lessE (ek, evl, eg, eq) (key, ⟨#[]⟩, false, at_) = s := ⟨_, rfl⟩
  have HLs := Lib.hid fun w => less_any ek evl eg eq key ⟨#[]⟩ false at_ s hs w
  obtain rfl : r = !s := by rw [← hr, hs]
  have hii : (i : Int) < (n : Int) := by omega
  clear hs hr hE hc hl hkl
  go_enter Try.func45, Try.ntmps45
  go_wp2
  refine wp_region_below (by kernel_rfl) (by kernel_rfl) ?_
  repeat (first
    | go_big_quiet_skip
    | (go_big_quiet_want
       first
       | (refine BigFrame.quiet_move _ rfl ?_)
       | (refine BigFrame.quiet_assign _ rfl ?_)
       | (unfold Oper.quiet
          apply Exists.intro
          refine ⟨fun w' hw' => ?_, ?_⟩
          · (obtain ⟨hc', hf'⟩ := bcell hw'
             go_simp
             first
             | done
             | exact rfl
             | (go_at_call 21; (with_reducible refine (HLs.out _).mono ?_); rintro e w'' ⟨rfl, bb⟩; exact ⟨rfl, by first | exact bt hw' bb | simpa using bt hw' bb⟩)))
       go_big_quiet_on
       simp only [Act.put, Act.eval, List.setIfInBounds_toArray, List.set_cons_zero, List.set_cons_succ, Array.getD_eq_getD_getElem?, List.getElem?_toArray, List.getElem?_cons_zero, List.getElem?_cons_succ, Option.getD_some]))
  refine wpQuiet_nil ?_
  intro w' hw'
  go_wp2
  go_ret
  exact ⟨rfl, hw'⟩
/-- What Find answers. -/
def fnd (o : Option Ent) : Value := match o with
  | some (k, v, g, q) => .tuple #[.agg #[.string k, .string v, .bool g, .int .i64 q], .bool true]
  | none => .tuple #[.agg #[.string ⟨#[]⟩, .string ⟨#[]⟩, .bool false, .int .i64 0], .bool false]
def FB (es : List Ent) (key : ByteArray) (at_ : Int) : Option Ent := if okB es = true then findB es key at_ else none
end Go.Proofs.Ytjneigejcaahiaa
