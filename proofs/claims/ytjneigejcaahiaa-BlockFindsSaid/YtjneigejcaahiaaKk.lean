/-
  Layer 9 (block), the contract of the document's own Find. Conditions: texts within the reach.
-/
import Derived.Test.YtjneigejcaahiaaKj
namespace Go.Proofs.Ytjneigejcaahiaa
open Go.RowKit
set_option linter.unusedVariables false
set_option linter.unusedSimpArgs false

theorem find_snoc {es : List Ent} {key : ByteArray} {at_ : Int} {k : Nat} (h : k < es.length) (hp : (es.take k).find? (isE key at_) = none) : (es.take (k + 1)).find? (isE key at_) = if isE key at_ es[k] = true then some es[k] else none := by
  rw [List.take_succ_eq_append_getElem h, List.find?_append, hp]
  simp only [Option.none_or, List.find?_cons, List.find?_nil]
  cases isE key at_ es[k] <;> rfl
theorem find_took {es : List Ent} {f : Ent → Bool} {k : Nat} {e : Ent} (h : (es.take k).find? f = some e) : es.find? f = some e := by
  rw [← List.take_append_drop k es, List.find?_append, h]
  rfl
set_option maxHeartbeats 4000000 in
theorem rfind9_no (a : Option Addr) (n cap : Nat) (es : List Ent) (key : ByteArray) (at_ : Int) (w : World) (hn : n ≤ 9223372036854775807) (hl : es.length = n) (h : RdE w a es) (hok : okV es) (hr : okB es = false) :
    Calls Try.prog 20 #[.slice a n cap, .string key, .int .i64 at_] w fun e w' => e = .returned (fnd (FB es key at_)) ∧ Below w.heap.size w w' := by
  have hw0 : Below w.heap.size w (w.alloc zObj) := (Below.refl _ _).alloc (Nat.le_refl _) _
  have HC := Lib.hid (rchk9_any a n cap es (w.alloc zObj) hn hl (h.old hw0) hok _ hr)
  have HR : Hid (FB es key at_ = none) := Lib.hid (by unfold FB; rw [hr]; rfl)
  have HZ := Lib.hid (And.intro (EBox.new w 36 ⟨#[]⟩ ⟨#[]⟩ false 0) (And.intro (EFree.new w ⟨#[]⟩ ⟨#[]⟩ false 0 36) hw0))
  clear hl h hok hr hw0
  go_enter Try.func20, Try.ntmps20
  go_wp2_with fail
  refine HC.out.mono ?_
  rintro e w1 ⟨rfl, b1⟩
  rw [show chkV false = 1 from rfl]
  obtain ⟨z0, z1, z2, z3, z4⟩ := HZ.out.1.below b1
  obtain ⟨f0, f1, f2, f3⟩ := HZ.out.2.1.below HZ.out.1.2.2.2.2 b1
  have HB := Lib.hid (HZ.out.2.2.trans (b1.mono HZ.out.2.2.size))
  clear b1
  go_wp2
  exact bodyPost_ret (v := .tuple #[.agg #[.string ⟨#[]⟩, .string ⟨#[]⟩, .bool false, .int .i64 0], .bool false]) (by simp [results, Try.results20, go_sem, z0, z1, z2, z3, z4]) rfl ⟨by rw [HR.out]; rfl, below_put HB.out (Nat.le_refl _) _ _ _ _⟩
set_option maxRecDepth 100000 in
set_option maxHeartbeats 4000000 in
theorem rfind9_yes (b off n cap : Nat) (es : List Ent) (key : ByteArray) (at_ : Int) (w : World) (hl : es.length = n) (hb : 0 < n → b < w.heap.size) (hc : EAt w b off es) (a : Option Addr) (ha : 0 < n → a = some ⟨b, off, none⟩) (h : RdE w a es) (hok : okV es) (hr : okB es = true) :
    Calls Try.prog 20 #[.slice a n cap, .string key, .int .i64 at_] w fun e w' => e = .returned (fnd (FB es key at_)) ∧ Below w.heap.size w w' := by
  have hn : n ≤ 4096 := by
    unfold okB at hr
    simp only [Bool.and_eq_true, decide_eq_true_eq] at hr
    omega
  have hw0 : Below w.heap.size w (w.alloc zObj) := (Below.refl _ _).alloc (Nat.le_refl _) _
  have HC := Lib.hid (rchk9_any a n cap es (w.alloc zObj) (by omega) hl (h.old hw0) hok _ hr)
  have HR : Hid (FB es key at_ = findB es key at_) := Lib.hid (by unfold FB; rw [hr]; rfl)
  have HZ := Lib.hid (And.intro (EBox.new w 36 ⟨#[]⟩ ⟨#[]⟩ false 0) (And.intro (EFree.new w ⟨#[]⟩ ⟨#[]⟩ false 0 36) hw0))
  have HL := Lib.hid hl
  have HE := Lib.hid hc
  clear h hok hr hw0 hl hc
  go_enter Try.func20, Try.ntmps20
  go_wp2_with fail
  refine HC.out.mono ?_
  rintro e w1 ⟨rfl, b1⟩
  rw [show chkV true = 0 from rfl]
  have HZ1 := Lib.hid (And.intro (HZ.out.1.below b1) (And.intro (HZ.out.2.1.below HZ.out.1.2.2.2.2 b1) (HZ.out.2.2.trans (b1.mono HZ.out.2.2.size))))
  clear b1 HC HZ
  go_wp2
  go_loopw [8] (fun i wr => ∃ k : Nat, i = .int .i64 k ∧ k ≤ n ∧ Hid ((es.take k).find? (isE key at_) = none) ∧ Hid (EBox wr w.heap.size ⟨#[]⟩ ⟨#[]⟩ false 0 ∧ EFree wr w.heap.size ∧ Below w.heap.size w wr)) (fun i _ => n - (intOf i).toNat)
  case atStart => exact ⟨0, rfl, by omega, Lib.hid (by simp), HZ1⟩
  case round =>
    clear HZ1
    obtain ⟨k, rfl, hk, HN, HZ1⟩ := hrel
    obtain ⟨⟨z0, z1, z2, z3, z4⟩, ⟨f0, f1, f2, f3⟩, hzb⟩ := HZ1.out
    have HB := Lib.hid hzb
    have hbs := hzb.size
    clear hzb
    by_cases hlt : k < n
    · obtain rfl := ha (by omega)
      have hbw := hb (by omega)
      have hkl : k < es.length := by rw [HL.out]; exact hlt
      have hki : (k : Int) < (n : Int) := by omega
      obtain ⟨g0, g1, g2, g3⟩ := HE.out.old hbw HB.out k hkl
      have hsn := find_snoc hkl HN.out
      obtain ⟨E, hEq⟩ : ∃ E, E = es[k] := ⟨_, rfl⟩
      rw [← hEq] at g0 g1 g2 g3 hsn
      obtain ⟨ek, evl, eg, eq⟩ := E
      have hbr : b < wr.heap.size := Nat.lt_of_lt_of_le hbw hbs
      have hbz : ¬ b = w.heap.size := by omega
      have hzb : ¬ w.heap.size = b := by omega
      by_cases hke : ek = key
      · subst hke
        by_cases hq : eq ≤ at_
        · rw [if_pos (show isE ek at_ (ek, evl, eg, eq) = true from isE_iff.2 ⟨rfl, hq⟩)] at hsn
          have HN2 : Hid (FB es ek at_ = some (ek, evl, eg, eq)) := Lib.hid (by rw [HR.out]; exact find_took hsn)
          clear hsn hEq
          go_wp2
          exact bodyPost_ret (v := .tuple #[.agg #[.string ek, .string evl, .bool eg, .int .i64 eq], .bool true]) (by simp [results, Try.results20, go_sem, z0, z1, z2, z3, z4]) rfl ⟨by rw [HN2.out]; rfl, below_put HB.out (Nat.le_refl _) _ _ _ _⟩
        · rw [if_neg (show ¬ isE ek at_ (ek, evl, eg, eq) = true from fun h => hq (isE_iff.1 h).2)] at hsn
          have HN2 := Lib.hid hsn
          have hqf : decide (eq ≤ at_) = false := by simpa using hq
          clear hsn hEq
          go_wp2
          go_roundw
          case rel => exact ⟨k + 1, by go_num, by omega, HN2, HZ1⟩
          case measure => simp [intOf]; omega
      · rw [if_neg (show ¬ isE key at_ (ek, evl, eg, eq) = true from fun h => hke (isE_iff.1 h).1)] at hsn
        have HN2 := Lib.hid hsn
        have hkb := str_ne hke
        clear hsn hEq hke
        go_wp2
        go_roundw
        case rel => exact ⟨k + 1, by go_num, by omega, HN2, HZ1⟩
        case measure => simp [intOf]; omega
    · obtain rfl : k = n := by omega
      have hh := HN.out
      rw [← HL.out, List.take_length] at hh
      have HN2 : Hid (FB es key at_ = none) := Lib.hid (by rw [HR.out]; exact hh)
      clear hh
      go_wp2
      exact bodyPost_ret (v := .tuple #[.agg #[.string ⟨#[]⟩, .string ⟨#[]⟩, .bool false, .int .i64 0], .bool false]) (by simp [results, Try.results20, go_sem, z0, z1, z2, z3, z4]) rfl ⟨by rw [HN2.out]; rfl, below_put HB.out (Nat.le_refl _) _ _ _ _⟩
theorem rfind9_any (a : Option Addr) (n cap : Nat) (es : List Ent) (key : ByteArray) (at_ : Int) (w : World) (hn : n ≤ 9223372036854775807) (hl : es.length = n) (h : RdE w a es) (hok : okV es) :
    Calls Try.prog 20 #[.slice a n cap, .string key, .int .i64 at_] w fun e w' => e = .returned (fnd (FB es key at_)) ∧ Below w.heap.size w w' := by
  cases hr : okB es with
  | false => exact rfind9_no a n cap es key at_ w hn hl h hok hr
  | true =>
    obtain ⟨b, off, h1, h2, h3⟩ := h.at_
    rw [hl] at h1 h2
    exact rfind9_yes b off n cap es key at_ w hl h2 h3 a h1 h hok hr
end Go.Proofs.Ytjneigejcaahiaa
