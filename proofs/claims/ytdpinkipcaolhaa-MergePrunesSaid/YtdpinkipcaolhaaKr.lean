/-
  Layer 9 (block), the contract of the document's own Check. Conditions: texts within the reach.
-/
import Derived.Test.YtdpinkipcaolhaaKc
namespace Go.Proofs.Ytdpinkipcaolhaa
set_option maxRecDepth 100000
open Go.RowKit
set_option linter.unusedVariables false
set_option linter.unusedSimpArgs false

set_option maxHeartbeats 1000000 in
theorem rchk9_long (a : Option Addr) (n cap : Nat) (w : World) (h : 4096 < n) (hn : n ≤ 9223372036854775807) :
    Calls Try.prog 25 #[.slice a n cap] w fun e w' => e = .returned (.int .i64 1) ∧ Below w.heap.size w w' := by
  have h' : (4096 : Int) < (n : Int) := by omega
  go_enter Try.func25, Try.ntmps25
  go_wp2
  go_ret
  exact ⟨rfl, Below.refl _ _⟩
set_option maxRecDepth 100000 in
set_option maxHeartbeats 4000000 in
theorem rchk9_some (b off n cap : Nat) (es : List Ent) (w : World) (hn : n ≤ 4096) (hl : es.length = n) (hb : 0 < n → b < w.heap.size) (hok : okV es) (hc : EAt w b off es) (r : Bool) (hr : chainE zE es = r) (a : Option Addr) (ha : 0 < n → a = some ⟨b, off, none⟩) :
    Calls Try.prog 25 #[.slice a n cap] w fun e w' => e = .returned (.int .i64 (chkV r)) ∧ Below w.heap.size w w' := by
  have h' : (n : Int) ≤ 4096 := by omega
  have HC := Lib.hid hc
  have HL := Lib.hid hl
  have HO := Lib.hid hok
  have HR := Lib.hid hr
  clear hc hl hok hr
  go_enter Try.func25, Try.ntmps25
  go_wp2
  go_loopw [3] (fun i wr => ∃ k : Nat, i = .int .i64 k ∧ k ≤ n ∧ Hid (chainE zE (es.take k) = true) ∧ Below w.heap.size w wr) (fun i _ => n - (intOf i).toNat)
  case atStart => exact ⟨0, rfl, by omega, Lib.hid rfl, Below.refl _ _⟩
  case round =>
    obtain ⟨k, rfl, hk, HH, hbel⟩ := hrel
    by_cases hlt : k < n
    · obtain rfl := ha (by omega)
      have hbw := hb (by omega)
      have hkl : k < es.length := by rw [HL.out]; exact hlt
      have hki : (k : Int) < (n : Int) := by omega
      obtain ⟨g0, g1, g2, g3⟩ := HC.out k hkl
      have o1 := HO.out _ (List.getElem_mem hkl)
      have hnx := chain_next hkl HH.out
      obtain ⟨E, hE⟩ : ∃ E, E = es[k] := ⟨_, rfl⟩
      rw [← hE] at g0 g1 g2 g3 o1 hnx
      obtain ⟨ek, evl, eg, eq⟩ := E
      have hcell : ∀ j, wr.cell? ⟨b, j, none⟩ = w.cell? ⟨b, j, none⟩ := fun j => hbel.cell (p := ⟨b, j, none⟩) hbw
      rw [← hcell] at g0 g1 g2 g3
      have hbr : b < wr.heap.size := Nat.lt_of_lt_of_le hbw hbel.size
      obtain ⟨m, hm⟩ : ∃ m, mayE (ek, evl, eg, eq) = m := ⟨_, rfl⟩
      have HM := Lib.hid fun w => rmay09_any ek evl eg eq m hm o1.1 o1.2 w
      clear hE o1
      cases m with
      | false =>
        rw [hm, Bool.false_and] at hnx
        have HE := Lib.hid (chain_false (k + 1) hnx)
        clear hcell hnx hm
        go_wp2
        refine wp_region_below (by kernel_rfl) (by kernel_rfl) ?_
        repeat (first
          | go_big_quiet_skip
          | (go_big_quiet_want
             first
             | (refine BigFrame.quiet_move _ rfl ?_)
             | (refine BigFrame.quiet_assign _ rfl ?_)
             | (unfold Oper.quiet
                apply Exists.intro
                refine ⟨fun w' hw' => ?_, ?_⟩
                · (obtain ⟨hc', hf'⟩ := bcell hw'
                   go_simp
                   first
                   | done
                   | exact rfl
                   | (go_at_call 40; (with_reducible refine (HM.out _).mono ?_); rintro e w'' ⟨rfl, bb⟩; exact ⟨rfl, by first | exact bt hw' bb | simpa using bt hw' bb⟩)))
             go_big_quiet_on
             simp only [Act.put, Act.eval, List.setIfInBounds_toArray, List.set_cons_zero, List.set_cons_succ, Array.getD_eq_getD_getElem?, List.getElem?_toArray, List.getElem?_cons_zero, List.getElem?_cons_succ, Option.getD_some]))
        refine wpQuiet_nil ?_
        intro w' hw'
        have HW := Lib.hid (hbel.trans (hw'.mono hbel.size))
        go_wp2
        go_ret
        exact ⟨by rw [← HR.out, HE.out]; rfl, HW.out⟩
      | true =>
        rw [hm, Bool.true_and] at hnx
        by_cases h0 : k = 0
        · subst h0
          have hn1 : Hid (chainE zE (es.take (0 + 1)) = true) := Lib.hid (by rw [hnx]; exact zE_less hm)
          clear hcell hnx hm
          simp only [Nat.zero_mul, Nat.add_zero] at g0 g1 g2 g3
          go_wp2
          refine wp_region_below (by kernel_rfl) (by kernel_rfl) ?_
          repeat (first
            | go_big_quiet_skip
            | (go_big_quiet_want
               first
               | (refine BigFrame.quiet_move _ rfl ?_)
               | (refine BigFrame.quiet_assign _ rfl ?_)
               | (unfold Oper.quiet
                  apply Exists.intro
                  refine ⟨fun w' hw' => ?_, ?_⟩
                  · (obtain ⟨hc', hf'⟩ := bcell hw'
                     go_simp
                     first
                     | done
                     | exact rfl
                     | (go_at_call 40; (with_reducible refine (HM.out _).mono ?_); rintro e w'' ⟨rfl, bb⟩; exact ⟨rfl, by first | exact bt hw' bb | simpa using bt hw' bb⟩)))
               go_big_quiet_on
               simp only [Act.put, Act.eval, List.setIfInBounds_toArray, List.set_cons_zero, List.set_cons_succ, Array.getD_eq_getD_getElem?, List.getElem?_toArray, List.getElem?_cons_zero, List.getElem?_cons_succ, Option.getD_some]))
          refine wpQuiet_nil ?_
          intro w' hw'
          have HW := Lib.hid (hbel.trans (hw'.mono hbel.size))
          go_wp2
          go_roundw
          case rel => exact ⟨0 + 1, by go_num, by omega, hn1, HW.out⟩
          case measure => simp [intOf]; omega
        · obtain ⟨p, hp⟩ : ∃ p, k = p + 1 := ⟨k - 1, by omega⟩
          have hpl : p < es.length := by omega
          have hla : lastE zE (es.take k) = es[p] := by subst hp; exact last_next hpl
          obtain ⟨c0, c1, c2, c3⟩ := HC.out p hpl
          obtain ⟨F, hF⟩ : ∃ F, F = es[p] := ⟨_, rfl⟩
          rw [← hF] at c0 c1 c2 c3 hla
          rw [hla] at hnx
          obtain ⟨pk, pv, pg, pq⟩ := F
          rw [← hcell] at c0 c1 c2 c3
          obtain ⟨r1, hr1⟩ : ∃ r1, chainE zE (es.take (k + 1)) = r1 := ⟨_, rfl⟩
          rw [hr1] at hnx
          have HLs := Lib.hid fun w => rless_any pk pv pg pq ek evl eg eq r1 hnx.symm w
          have hwr : IntKind.i64.wrap ((k : Int) - 1) = (p : Int) := by rw [IntWalk.i64_in _ (by omega)]; omega
          have hk0 : (0 : Int) < (k : Int) := by omega
          have hk1 : 0 < k := by omega
          have hpn : (p : Int) < (n : Int) := by omega
          have HR1 := Lib.hid hr1
          clear hcell hnx hm hF hla hr1 hp hpl
          cases r1 with
          | false =>
            have HE := Lib.hid (chain_false (k + 1) HR1.out)
            go_wp2
            refine wp_region_below (by kernel_rfl) (by kernel_rfl) ?_
            repeat (first
              | go_big_quiet_skip
              | (go_big_quiet_want
                 first
                 | (refine BigFrame.quiet_move _ rfl ?_)
                 | (refine BigFrame.quiet_assign _ rfl ?_)
                 | (unfold Oper.quiet
                    apply Exists.intro
                    refine ⟨fun w' hw' => ?_, ?_⟩
                    · (obtain ⟨hc', hf'⟩ := bcell hw'
                       go_simp
                       first
                       | done
                       | exact rfl
                       | (go_at_call 40; (with_reducible refine (HM.out _).mono ?_); rintro e w'' ⟨rfl, bb⟩; exact ⟨rfl, by first | exact bt hw' bb | simpa using bt hw' bb⟩)
                       | (go_at_call 41; (with_reducible refine (HLs.out _).mono ?_); rintro e w'' ⟨rfl, bb⟩; exact ⟨rfl, by first | exact bt hw' bb | simpa using bt hw' bb⟩)))
                 go_big_quiet_on
                 simp only [Act.put, Act.eval, List.setIfInBounds_toArray, List.set_cons_zero, List.set_cons_succ, Array.getD_eq_getD_getElem?, List.getElem?_toArray, List.getElem?_cons_zero, List.getElem?_cons_succ, Option.getD_some]))
            refine wpQuiet_nil ?_
            intro w' hw'
            have HW := Lib.hid (hbel.trans (hw'.mono hbel.size))
            go_wp2
            go_ret
            exact ⟨by rw [← HR.out, HE.out]; rfl, HW.out⟩
          | true =>
            go_wp2
            refine wp_region_below (by kernel_rfl) (by kernel_rfl) ?_
            repeat (first
              | go_big_quiet_skip
              | (go_big_quiet_want
                 first
                 | (refine BigFrame.quiet_move _ rfl ?_)
                 | (refine BigFrame.quiet_assign _ rfl ?_)
                 | (unfold Oper.quiet
                    apply Exists.intro
                    refine ⟨fun w' hw' => ?_, ?_⟩
                    · (obtain ⟨hc', hf'⟩ := bcell hw'
                       go_simp
                       first
                       | done
                       | exact rfl
                       | (go_at_call 40; (with_reducible refine (HM.out _).mono ?_); rintro e w'' ⟨rfl, bb⟩; exact ⟨rfl, by first | exact bt hw' bb | simpa using bt hw' bb⟩)
                       | (go_at_call 41; (with_reducible refine (HLs.out _).mono ?_); rintro e w'' ⟨rfl, bb⟩; exact ⟨rfl, by first | exact bt hw' bb | simpa using bt hw' bb⟩)))
                 go_big_quiet_on
                 simp only [Act.put, Act.eval, List.setIfInBounds_toArray, List.set_cons_zero, List.set_cons_succ, Array.getD_eq_getD_getElem?, List.getElem?_toArray, List.getElem?_cons_zero, List.getElem?_cons_succ, Option.getD_some]))
            refine wpQuiet_nil ?_
            intro w' hw'
            have HW := Lib.hid (hbel.trans (hw'.mono hbel.size))
            go_wp2
            go_roundw
            case rel => exact ⟨k + 1, by go_num, by omega, HR1, HW.out⟩
            case measure => simp [intOf]; omega
    · obtain rfl : k = n := by omega
      have HE := HH.out
      rw [← HL.out, List.take_length] at HE
      have HE2 := Lib.hid (HR.out.symm.trans HE)
      clear HE
      go_wp2
      go_ret
      exact ⟨by rw [HE2.out]; rfl, hbel⟩
theorem rchk9_any (a : Option Addr) (n cap : Nat) (es : List Ent) (w : World) (hn : n ≤ 9223372036854775807) (hl : es.length = n) (h : RdE w a es) (hok : okV es) (r : Bool) (hr : okB es = r) :
    Calls Try.prog 25 #[.slice a n cap] w fun e w' => e = .returned (.int .i64 (chkV r)) ∧ Below w.heap.size w w' := by
  unfold okB at hr
  by_cases h4 : 4096 < n
  · rw [hl, decide_eq_false (by omega), Bool.false_and] at hr
    subst hr
    exact rchk9_long a n cap w h4 hn
  · rw [hl, decide_eq_true (by omega), Bool.true_and] at hr
    obtain ⟨b, off, h1, h2, h3⟩ := h.at_
    rw [hl] at h1 h2
    exact rchk9_some b off n cap es w (by omega) hl h2 hok h3 r hr a h1
end Go.Proofs.Ytdpinkipcaolhaa
