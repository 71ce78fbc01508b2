/-
  Layer 4 (span): the contract of the document's own Covers. Conditions: texts within the form's reach.
-/
import Derived.Test.YtmglgmljlaplcaaSs
import Derived.IntWalk
namespace Go.Proofs.Ytmglgmljlaplcaa
open Go.RowKit

set_option maxHeartbeats 1000000 in
theorem rcovers_none (a : Option Addr) (cap : Nat) (w : World) :
    Calls Try.prog 24 #[.slice a 0 cap] w fun e w' => e = .returned (.bool false) ∧ Below w.heap.size w w' := by
  go_enter Try.func24, Try.ntmps24
  go_wp2
  refine wp_loop_rounds 1 ?_
  rw [rounds_succ]
  go_wp2
  go_ret
  exact ⟨rfl, Below.refl _ _⟩
/-- Where ranges behind one another stand, as the document looks at it. -/
def At (xs : List Rng) (k : Nat) : Prop := ∃ f o, cov (xs.take k) = some (f, o) ∧ (k = 0 → f = ⟨#[]⟩ ∧ o = true) ∧ ∀ p (h : p < xs.length), k = p + 1 → f = xs[p].2 ∧ o = !emB f
theorem At.zero (xs : List Rng) : At xs 0 := ⟨⟨#[]⟩, true, rfl, fun _ => ⟨rfl, rfl⟩, fun p _ h => by omega⟩
theorem At.may_no {xs : List Rng} {k : Nat} (h : At xs k) (hk : k < xs.length) (hm : mayB xs[k].1 xs[k].2 = false) : coversB xs = false := by
  obtain ⟨f, o, hc, _, _⟩ := h
  exact cov_no hk hc (by rw [hm, Bool.and_false])
theorem At.first_no {xs : List Rng} (h : At xs 0) (hk : 0 < xs.length) (he : emB xs[0].1 = false) : coversB xs = false := by
  obtain ⟨f, o, hc, h0, _⟩ := h
  obtain ⟨rfl, rfl⟩ := h0 rfl
  refine cov_no hk hc ?_
  have : (xs[0].1.toList == (⟨#[]⟩ : ByteArray).toList) = false := by
    rw [beq_eq_false_iff_ne]
    intro e
    rw [ba_ext e] at he
    rw [show emB (⟨#[]⟩ : ByteArray) = true from emB_iff.2 rfl] at he
    cases he
  rw [this]
  rfl
theorem At.next {xs : List Rng} {k : Nat} (hk : k < xs.length) (h : cov (xs.take (k + 1)) = some (xs[k].2, !emB xs[k].2)) : At xs (k + 1) :=
  ⟨_, _, h, fun h => by omega, fun p hp e => by
    obtain rfl : k = p := by omega
    exact ⟨rfl, rfl⟩⟩
theorem At.first_yes {xs : List Rng} (h : At xs 0) (hk : 0 < xs.length) (hm : mayB xs[0].1 xs[0].2 = true) (he : emB xs[0].1 = true) : At xs 1 := by
  obtain ⟨f, o, hc, h0, _⟩ := h
  obtain ⟨rfl, rfl⟩ := h0 rfl
  exact At.next hk (cov_ok hk hc (emB_iff.1 he) hm)
theorem At.em_no {xs : List Rng} {p : Nat} (h : At xs (p + 1)) (hk : p + 1 < xs.length) (he : emB xs[p + 1].1 = true) : coversB xs = false := by
  obtain ⟨f, o, hc, _, h1⟩ := h
  obtain ⟨_, rfl⟩ := h1 p (by omega) rfl
  refine cov_no hk hc ?_
  cases hf : emB f with
  | true => rfl
  | false =>
    have : (xs[p + 1].1.toList == f.toList) = false := by
      rw [beq_eq_false_iff_ne]
      intro e
      rw [ba_ext e, hf] at he
      cases he
    rw [this]
    rfl
theorem At.eq_no {xs : List Rng} {p : Nat} (h : At xs (p + 1)) (hk : p + 1 < xs.length) (hp : p < xs.length) (he : (xs[p].2.toList == xs[p + 1].1.toList) = false) : coversB xs = false := by
  obtain ⟨f, o, hc, _, h1⟩ := h
  obtain ⟨rfl, rfl⟩ := h1 p hp rfl
  refine cov_no hk hc ?_
  have : (xs[p + 1].1.toList == xs[p].2.toList) = false := by
    rw [beq_eq_false_iff_ne] at he ⊢
    exact fun e => he e.symm
  rw [this]
  simp
theorem At.yes {xs : List Rng} {p : Nat} (h : At xs (p + 1)) (hk : p + 1 < xs.length) (hp : p < xs.length) (hm : mayB xs[p + 1].1 xs[p + 1].2 = true) (hn : emB xs[p + 1].1 = false) (he : (xs[p].2.toList == xs[p + 1].1.toList) = true) : At xs (p + 1 + 1) := by
  obtain ⟨f, o, hc, _, h1⟩ := h
  obtain ⟨rfl, rfl⟩ := h1 p hp rfl
  have e : xs[p].2 = xs[p + 1].1 := ba_ext (by simpa using he)
  rw [e, hn] at hc
  exact At.next hk (cov_ok hk hc rfl hm)
theorem At.end_ {xs : List Rng} {p : Nat} (h : At xs (p + 1)) (hl : xs.length = p + 1) : coversB xs = emB (xs[p]'(by omega)).2 := by
  obtain ⟨f, o, hc, _, h1⟩ := h
  obtain ⟨hf, rfl⟩ := h1 p (by omega) rfl
  rw [List.take_of_length_le (by omega)] at hc
  rw [covers_last f _ hc, hf, Bool.not_not]
theorem At.em_no' {xs : List Rng} {k p : Nat} (h : At xs k) (e : k = p + 1) (hk : k < xs.length) (he : emB xs[k].1 = true) : coversB xs = false := by
  subst e
  exact h.em_no hk he
theorem At.eq_no' {xs : List Rng} {k p : Nat} (h : At xs k) (e : k = p + 1) (hk : k < xs.length) (hp : p < xs.length) (he : (xs[p].2.toList == xs[k].1.toList) = false) : coversB xs = false := by
  subst e
  exact h.eq_no hk hp he
theorem At.yes' {xs : List Rng} {k p : Nat} (h : At xs k) (e : k = p + 1) (hk : k < xs.length) (hp : p < xs.length) (hm : mayB xs[k].1 xs[k].2 = true) (hn : emB xs[k].1 = false) (he : (xs[p].2.toList == xs[k].1.toList) = true) : At xs (k + 1) := by
  subst e
  exact h.yes hk hp hm hn he
theorem At.end_' {xs : List Rng} {k p : Nat} (h : At xs k) (e : k = p + 1) (hl : xs.length = p + 1) (f : ByteArray) (hf : f = (xs[p]'(by omega)).2) : coversB xs = emB f := by
  subst e hf
  exact h.end_ hl
set_option maxHeartbeats 800000 in
theorem rcovers_some (b off n cap : Nat) (xs : List Rng) (w : World) (hn : n < 9223372036854775808) (hl : xs.length = n) (h0 : 0 < n) (hb : b < w.heap.size) (hok : okL xs)
    (hc : ∀ i (h : i < xs.length), w.cell? ⟨b, off + i * 2, none⟩ = some (.string xs[i].1) ∧ w.cell? ⟨b, off + i * 2 + 1, none⟩ = some (.string xs[i].2)) :
    Calls Try.prog 24 #[.slice (some ⟨b, off, none⟩) n cap] w fun e w' => e = .returned (.bool (coversB xs)) ∧ Below w.heap.size w w' := by
  have HC := Lib.hid hc
  have HL := Lib.hid hl
  have HO := Lib.hid hok
  clear hc hl hok
  go_enter Try.func24, Try.ntmps24
  go_wp2
  go_loopw [3] (fun i wr => ∃ k : Nat, i = .int .i64 k ∧ k ≤ n ∧ Hid (At xs k) ∧ Below w.heap.size w wr) (fun i _ => n - (intOf i).toNat)
  case atStart => exact ⟨0, rfl, by omega, Lib.hid (At.zero xs), Below.refl _ _⟩
  case round =>
    obtain ⟨k, rfl, hk, HV, hbel⟩ := hrel
    by_cases hlt : k < n
    · have hkl : k < xs.length := by rw [HL.out]; exact hlt
      have hx := HC.out k hkl
      have hx1 := (hbel.cell (p := ⟨b, off + k * 2, none⟩) hb).trans hx.1
      have hx2 := (hbel.cell (p := ⟨b, off + k * 2 + 1, none⟩) hb).trans hx.2
      have hbs : b < wr.heap.size := Nat.lt_of_lt_of_le hb hbel.size
      obtain ⟨o1, o2⟩ := HO.out _ (List.getElem_mem hkl)
      have N1 := At.may_no HV.out hkl
      obtain ⟨lo, hlo⟩ : ∃ x, x = xs[k].1 := ⟨_, rfl⟩
      obtain ⟨hi, hhi⟩ : ∃ x, x = xs[k].2 := ⟨_, rfl⟩
      rw [← hlo] at hx1 o1 N1
      rw [← hhi] at hx2 o2 N1
      cases hm : mayB lo hi with
      | false =>
        have HN := Lib.hid (N1 hm)
        have HM := Lib.hid fun w => rmay_any lo hi _ hm o1 o2 w
        clear N1 hm o1 o2 hx hlo hhi
        go_wp2_with fail
        refine wp_region_below (by kernel_rfl) (by kernel_rfl) ?_
        repeat (first
          | go_big_quiet_skip
          | (go_big_quiet_want
             first
             | (refine BigFrame.quiet_move _ rfl ?_)
             | (refine BigFrame.quiet_assign _ rfl ?_)
             | (unfold Oper.quiet
                apply Exists.intro
                refine ⟨fun w' hw' => ?_, ?_⟩
                · (obtain ⟨hc', hf'⟩ := bcell hw'
                   go_simp
                   first
                   | done
                   | exact rfl
                   | (go_at_call 29; refine (HM.out _).mono ?_; rintro e w'' ⟨rfl, bb⟩; exact ⟨rfl, bt hw' bb⟩)))
             go_big_quiet_on
             simp only [Act.put, Act.eval, List.setIfInBounds_toArray, List.set_cons_zero, List.set_cons_succ, Array.getD_eq_getD_getElem?, List.getElem?_toArray, List.getElem?_cons_zero, List.getElem?_cons_succ, Option.getD_some]))
        refine wpQuiet_nil ?_
        intro w' hw'
        go_wp2
        go_ret
        exact ⟨by rw [HN.out]; rfl, hbel.trans (hw'.mono hbel.size)⟩
      | true =>
        have HM := Lib.hid fun w => rmay_any lo hi _ hm o1 o2 w
        by_cases hk0 : k = 0
        · subst hk0
          cases he : emB lo with
          | false =>
            have HN := Lib.hid (At.first_no HV.out hkl (by rw [← hlo]; exact he))
            have e1 : ¬ lo.toList = [] := fun k => by rw [emB, k] at he; cases he
            have e2 : lo.toList.isEmpty = false := he
            simp only [Nat.zero_mul, Nat.add_zero] at hx1 hx2
            clear N1 hm o1 o2 hx hlo hhi he
            go_wp2_with fail
            refine wp_region_below (by kernel_rfl) (by kernel_rfl) ?_
            repeat (first
              | go_big_quiet_skip
              | (go_big_quiet_want
                 first
                 | (refine BigFrame.quiet_move _ rfl ?_)
                 | (refine BigFrame.quiet_assign _ rfl ?_)
                 | (unfold Oper.quiet
                    apply Exists.intro
                    refine ⟨fun w' hw' => ?_, ?_⟩
                    · (obtain ⟨hc', hf'⟩ := bcell hw'
                       go_simp
                       first
                       | done
                       | exact rfl
                       | (go_at_call 29; refine (HM.out _).mono ?_; rintro e w'' ⟨rfl, bb⟩; exact ⟨rfl, bt hw' bb⟩)))
                 go_big_quiet_on
                 simp only [Act.put, Act.eval, List.setIfInBounds_toArray, List.set_cons_zero, List.set_cons_succ, Array.getD_eq_getD_getElem?, List.getElem?_toArray, List.getElem?_cons_zero, List.getElem?_cons_succ, Option.getD_some]))
            refine wpQuiet_nil ?_
            intro w' hw'
            go_wp2
            go_ret
            exact ⟨by rw [HN.out]; rfl, hbel.trans (hw'.mono hbel.size)⟩
          | true =>
            have HN := Lib.hid (At.first_yes HV.out hkl (by rw [← hlo, ← hhi]; exact hm) (by rw [← hlo]; exact he))
            have e1 : lo.toList = [] := List.isEmpty_iff.1 he
            simp only [Nat.zero_mul, Nat.add_zero] at hx1 hx2
            clear N1 hm o1 o2 hx hlo hhi he
            go_wp2_with fail
            refine wp_region_below (by kernel_rfl) (by kernel_rfl) ?_
            repeat (first
              | go_big_quiet_skip
              | (go_big_quiet_want
                 first
                 | (refine BigFrame.quiet_move _ rfl ?_)
                 | (refine BigFrame.quiet_assign _ rfl ?_)
                 | (unfold Oper.quiet
                    apply Exists.intro
                    refine ⟨fun w' hw' => ?_, ?_⟩
                    · (obtain ⟨hc', hf'⟩ := bcell hw'
                       go_simp
                       first
                       | done
                       | exact rfl
                       | (go_at_call 29; refine (HM.out _).mono ?_; rintro e w'' ⟨rfl, bb⟩; exact ⟨rfl, bt hw' bb⟩)))
                 go_big_quiet_on
                 simp only [Act.put, Act.eval, List.setIfInBounds_toArray, List.set_cons_zero, List.set_cons_succ, Array.getD_eq_getD_getElem?, List.getElem?_toArray, List.getElem?_cons_zero, List.getElem?_cons_succ, Option.getD_some]))
            refine wpQuiet_nil ?_
            intro w' hw'
            go_wp2
            go_roundw
            case rel => exact ⟨1, by go_num, by omega, HN, hbel.trans (hw'.mono hbel.size)⟩
            case measure => simp [intOf]; omega
        · obtain ⟨p, hp⟩ : ∃ p, k = p + 1 := ⟨k - 1, by omega⟩
          have hpl : p < xs.length := by omega
          have hpn : p < n := by omega
          have hpi : (p : Int) < (n : Int) := by omega
          have hk1 : 0 < k := by omega
          have hkb : ((k : Int) == 0) = false := by rw [beq_eq_false_iff_ne]; omega
          have hkg : (0 : Int) < (k : Int) := by omega
          have hwr : IntKind.i64.wrap ((k : Int) - 1) = (p : Int) := by rw [IntWalk.i64_in _ (by omega)]; omega
          have hx3 := (hbel.cell (p := ⟨b, off + p * 2 + 1, none⟩) hb).trans (HC.out p hpl).2
          obtain ⟨h, hh⟩ : ∃ x, x = xs[p].2 := ⟨_, rfl⟩
          rw [← hh] at hx3
          have HP := Lib.hid hp
          cases he : emB lo with
          | true =>
            have HN := Lib.hid (At.em_no' HV.out HP.out hkl (by rw [← hlo]; exact he))
            have e1 : lo.toList = [] := List.isEmpty_iff.1 he
            clear N1 hm o1 o2 hx hlo hhi he hp hh hx3 hwr hpl
            go_wp2_with fail
            refine wp_region_below (by kernel_rfl) (by kernel_rfl) ?_
            repeat (first
              | go_big_quiet_skip
              | (go_big_quiet_want
                 first
                 | (refine BigFrame.quiet_move _ rfl ?_)
                 | (refine BigFrame.quiet_assign _ rfl ?_)
                 | (unfold Oper.quiet
                    apply Exists.intro
                    refine ⟨fun w' hw' => ?_, ?_⟩
                    · (obtain ⟨hc', hf'⟩ := bcell hw'
                       go_simp
                       first
                       | done
                       | exact rfl
                       | (go_at_call 29; refine (HM.out _).mono ?_; rintro e w'' ⟨rfl, bb⟩; exact ⟨rfl, bt hw' bb⟩)))
                 go_big_quiet_on
                 simp only [Act.put, Act.eval, List.setIfInBounds_toArray, List.set_cons_zero, List.set_cons_succ, Array.getD_eq_getD_getElem?, List.getElem?_toArray, List.getElem?_cons_zero, List.getElem?_cons_succ, Option.getD_some]))
            refine wpQuiet_nil ?_
            intro w' hw'
            go_wp2
            go_ret
            exact ⟨by rw [HN.out]; rfl, hbel.trans (hw'.mono hbel.size)⟩
          | false =>
            have e1 : ¬ lo.toList = [] := fun k => by rw [emB, k] at he; cases he
            have e2 : lo.toList.isEmpty = false := he
            cases hq : (h.toList == lo.toList) with
            | false =>
              have HN := Lib.hid (At.eq_no' HV.out HP.out hkl hpl (by rw [← hlo, ← hh]; exact hq))
              clear N1 hm o1 o2 hx hlo hhi he hp hh hpl
              go_wp2_with fail
              refine wp_region_below (by kernel_rfl) (by kernel_rfl) ?_
              repeat (first
                | go_big_quiet_skip
                | (go_big_quiet_want
                   first
                   | (refine BigFrame.quiet_move _ rfl ?_)
                   | (refine BigFrame.quiet_assign _ rfl ?_)
                   | (unfold Oper.quiet
                      apply Exists.intro
                      refine ⟨fun w' hw' => ?_, ?_⟩
                      · (obtain ⟨hc', hf'⟩ := bcell hw'
                         go_simp
                         first
                         | done
                         | exact rfl
                         | (go_at_call 29; refine (HM.out _).mono ?_; rintro e w'' ⟨rfl, bb⟩; exact ⟨rfl, bt hw' bb⟩)))
                   go_big_quiet_on
                   simp only [Act.put, Act.eval, List.setIfInBounds_toArray, List.set_cons_zero, List.set_cons_succ, Array.getD_eq_getD_getElem?, List.getElem?_toArray, List.getElem?_cons_zero, List.getElem?_cons_succ, Option.getD_some]))
              refine wpQuiet_nil ?_
              intro w' hw'
              go_wp2
              go_ret
              exact ⟨by rw [HN.out]; rfl, hbel.trans (hw'.mono hbel.size)⟩
            | true =>
              have HN := Lib.hid (At.yes' HV.out HP.out hkl hpl (by rw [← hlo, ← hhi]; exact hm) (by rw [← hlo]; exact he) (by rw [← hlo, ← hh]; exact hq))
              clear N1 hm o1 o2 hx hlo hhi he hp hh hpl
              go_wp2_with fail
              refine wp_region_below (by kernel_rfl) (by kernel_rfl) ?_
              repeat (first
                | go_big_quiet_skip
                | (go_big_quiet_want
                   first
                   | (refine BigFrame.quiet_move _ rfl ?_)
                   | (refine BigFrame.quiet_assign _ rfl ?_)
                   | (unfold Oper.quiet
                      apply Exists.intro
                      refine ⟨fun w' hw' => ?_, ?_⟩
                      · (obtain ⟨hc', hf'⟩ := bcell hw'
                         go_simp
                         first
                         | done
                         | exact rfl
                         | (go_at_call 29; refine (HM.out _).mono ?_; rintro e w'' ⟨rfl, bb⟩; exact ⟨rfl, bt hw' bb⟩)))
                   go_big_quiet_on
                   simp only [Act.put, Act.eval, List.setIfInBounds_toArray, List.set_cons_zero, List.set_cons_succ, Array.getD_eq_getD_getElem?, List.getElem?_toArray, List.getElem?_cons_zero, List.getElem?_cons_succ, Option.getD_some]))
              refine wpQuiet_nil ?_
              intro w' hw'
              clear hwr
              go_wp2
              go_roundw
              case rel => exact ⟨k + 1, by go_num, by omega, HN, hbel.trans (hw'.mono hbel.size)⟩
              case measure => simp [intOf]; omega
    · obtain rfl : k = n := by omega
      obtain ⟨p, hp⟩ : ∃ p, k = p + 1 := ⟨k - 1, by omega⟩
      have hpl : p < xs.length := by rw [HL.out]; omega
      have hx3 := (hbel.cell (p := ⟨b, off + p * 2 + 1, none⟩) hb).trans (HC.out p hpl).2
      have hbs : b < wr.heap.size := Nat.lt_of_lt_of_le hb hbel.size
      obtain ⟨h, hh⟩ : ∃ x, x = xs[p].2 := ⟨_, rfl⟩
      rw [← hh] at hx3
      have HN := Lib.hid (At.end_' HV.out hp (HL.out.trans hp) h hh)
      rw [show p = k - 1 by omega] at hx3
      clear hp hh hpl
      go_wp2
      go_ret
      exact ⟨by rw [HN.out]; rfl, hbel⟩
theorem rcovers_any (a : Option Addr) (cap : Nat) (xs : List Rng) (w : World) (h : RdS w a xs) (hok : okL xs) (hn : xs.length < 9223372036854775808) :
    Calls Try.prog 24 #[.slice a xs.length cap] w fun e w' => e = .returned (.bool (coversB xs)) ∧ Below w.heap.size w w' := by
  by_cases h0 : xs = []
  · subst h0
    exact rcovers_none a cap w
  · obtain ⟨b, off, rfl, hb, hc⟩ := h.resolve_left h0
    exact rcovers_some b off xs.length cap xs w hn rfl (List.length_pos_iff.2 h0) hb hok hc
end Go.Proofs.Ytmglgmljlaplcaa
