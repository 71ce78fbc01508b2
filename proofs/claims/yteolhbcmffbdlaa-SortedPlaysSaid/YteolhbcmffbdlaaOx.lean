/-
  Layer 7 (sorted): a tree of values (int): the contracts of find, put, last. Conditions: fewer keys than 2^40, keys within the reach.
-/
import Derived.Test.YteolhbcmffbdlaaOw
namespace Go.Proofs.Yteolhbcmffbdlaa.TI
open Go.RowKit
set_option linter.unusedVariables false
set_option linter.unusedSimpArgs false

/-- How many keys the tree has at which a pointer points, read off its cell. -/
def ms (p : Value) (w : World) : Nat :=
  match p with
  | .pointer (some a) => match w.cell? ⟨a.block, 4, none⟩ with
    | some (.int _ n) => n.toNat
    | _ => 0
  | _ => 0
theorem ms_eq {w : World} {p : Option Addr} {t : BT Int} (h : IsT w p t) : ms (.pointer p) w = t.cnt := by
  cases t with
  | nil => obtain rfl : p = none := h; rfl
  | node l k v r =>
    obtain ⟨b, pl, pr, rfl, hlt, h0, h1, h2, h3, h4, hl, hr⟩ := h
    unfold ms
    simp only [h4]
    omega
/-- A node, or none. -/
def FindR (w : World) (g : Option Int) (e : Ending) (w' : World) : Prop := ∃ q, e = .returned (.pointer q) ∧ Below w.heap.size w w' ∧ ((g = none ∧ q = none) ∨ ∃ b v, g = some v ∧ q = some ⟨b, 0, none⟩ ∧ w'.cell? ⟨b, 1, none⟩ = some (.int .i64 v))
def FindI (w : World) (g : Option Int) (k : Ky) (p : Value) (wr : World) : Prop := ∃ q t, p = .pointer q ∧ IsT wr q t ∧ Rise t.all ∧ getA k t.all = g ∧ Below w.heap.size w wr
set_option maxRecDepth 100000 in
set_option maxHeartbeats 1000000 in
theorem find_any {w : World} {p : Option Addr} {t : BT Int} (h : IsT w p t) (hr : Rise t.all) (k : Ky) :
    Calls Try.prog 33 #[.pointer p, .string ⟨k.toArray⟩] w (FindR w (getA k t.all)) := by
  obtain ⟨g, hg⟩ : ∃ g, g = getA k t.all := ⟨_, rfl⟩
  rw [← hg]
  have HI := Lib.hid (⟨p, t, rfl, h, hr, hg.symm, Below.refl _ _⟩ : FindI w g k (.pointer p) w)
  clear h hr hg t
  go_enter Try.func33, Try.ntmps33
  go_wp2
  go_loopw [0] (fun p wr => FindI w g k p wr) (fun p wr => ms p wr)
  case atStart => exact HI.out
  case round =>
    obtain ⟨q, t, rfl, hi, hr, hg, hb⟩ := hrel
    cases t with
    | nil =>
      obtain rfl : q = none := hi
      have HB := Lib.hid hb
      have HG := Lib.hid hg
      clear hb hg hr HI
      go_wp2
      go_ret
      exact ⟨none, rfl, HB.out, .inl ⟨HG.out.symm, rfl⟩⟩
    | node l k2 v2 r =>
      have HH := Lib.hid hi
      obtain ⟨b, pl, pr, rfl, hlt, h0, h1, h2, h3, h4, hl, hr2⟩ := hi
      by_cases hk : k2 = k
      · subst hk
        have HG := Lib.hid (hg.symm.trans (getA_at hr))
        have HB := Lib.hid hb
        clear hb hg hr hl hr2 HI
        go_wp2
        go_ret
        exact ⟨some ⟨b, 0, none⟩, rfl, HB.out, .inr ⟨b, v2, HG.out, rfl, h1⟩⟩
      · have hne : (k2 == k) = false := by simpa using hk
        cases hs : Op.bytesLess k k2 with
        | true =>
          have HG := Lib.hid ((getA_less hr hs).symm.trans hg)
          have HR := Lib.hid (rise_parts.1 hr).1
          have HB := Lib.hid hb
          have HS := Lib.hid hs
          have H0 := Lib.hid h0
          have HL := Lib.hid hl
          clear hb hg hr hl hr2 HI hs hk
          go_wp2
          refine wp_region_below (by kernel_rfl) (by kernel_rfl) ?_
          repeat (first
            | go_big_quiet_skip
            | (go_big_quiet_want
               first
               | (refine BigFrame.quiet_move _ rfl ?_)
               | (refine BigFrame.quiet_assign _ rfl ?_)
               | (unfold Oper.quiet
                  apply Exists.intro
                  refine ⟨fun w' hw' => ?_, ?_⟩
                  · (obtain ⟨hc', hf'⟩ := bcell hw'
                     go_simp
                     first
                     | done
                     | exact rfl
                     | (go_at_call 44; (with_reducible refine (side_less (((bcell hw').1 _ _ hlt).trans H0.out) HS.out).mono ?_); rintro e w'' ⟨rfl, bb⟩; exact ⟨rfl, by first | exact bt hw' bb | simpa using bt hw' bb⟩)))
               go_big_quiet_on
               simp only [Act.put, Act.eval, List.setIfInBounds_toArray, List.set_cons_zero, List.set_cons_succ, Array.getD_eq_getD_getElem?, List.getElem?_toArray, List.getElem?_cons_zero, List.getElem?_cons_succ, Option.getD_some]))
          refine wpQuiet_nil ?_
          intro w' hw'
          have HW := Lib.hid hw'
          clear hw'
          go_wp2
          go_roundw
          case rel => exact ⟨pl, l, rfl, HL.out.below HW.out, HR.out, HG.out, bt HB.out HW.out⟩
          case measure => rw [ms_eq (HL.out.below HW.out), ms_eq HH.out, BT.cnt_node]; omega
        | false =>
          have hs2 : Op.bytesLess k2 k = true := by
            cases hx : Op.bytesLess k2 k with
            | true => rfl
            | false => exact absurd (less_total _ _ hx hs) hk
          have HG := Lib.hid ((getA_more hr hs2).symm.trans hg)
          have HR := Lib.hid (rise_parts.1 hr).2.1
          have HB := Lib.hid hb
          have HS := Lib.hid hs
          have H0 := Lib.hid h0
          have HL := Lib.hid hr2
          clear hb hg hr hl hr2 HI hs hk hs2
          go_wp2
          refine wp_region_below (by kernel_rfl) (by kernel_rfl) ?_
          repeat (first
            | go_big_quiet_skip
            | (go_big_quiet_want
               first
               | (refine BigFrame.quiet_move _ rfl ?_)
               | (refine BigFrame.quiet_assign _ rfl ?_)
               | (unfold Oper.quiet
                  apply Exists.intro
                  refine ⟨fun w' hw' => ?_, ?_⟩
                  · (obtain ⟨hc', hf'⟩ := bcell hw'
                     go_simp
                     first
                     | done
                     | exact rfl
                     | (go_at_call 44; (with_reducible refine (side_more (((bcell hw').1 _ _ hlt).trans H0.out) HS.out).mono ?_); rintro e w'' ⟨rfl, bb⟩; exact ⟨rfl, by first | exact bt hw' bb | simpa using bt hw' bb⟩)))
               go_big_quiet_on
               simp only [Act.put, Act.eval, List.setIfInBounds_toArray, List.set_cons_zero, List.set_cons_succ, Array.getD_eq_getD_getElem?, List.getElem?_toArray, List.getElem?_cons_zero, List.getElem?_cons_succ, Option.getD_some]))
          refine wpQuiet_nil ?_
          intro w' hw'
          have HW := Lib.hid hw'
          clear hw'
          go_wp2
          go_roundw
          case rel => exact ⟨pr, r, rfl, HL.out.below HW.out, HR.out, HG.out, bt HB.out HW.out⟩
          case measure => rw [ms_eq (HL.out.below HW.out), ms_eq HH.out, BT.cnt_node]; omega

def Last_left (w : World) (T : BT Int) (e : Ending) (w' : World) : Prop := ∃ q u k2 v2 a, e = .returned (.pointer q) ∧ Below w.heap.size w w' ∧ IsT w' q (.node .nil k2 v2 u) ∧ u.cnt < T.cnt ∧ T.all = (k2, v2) :: a
def LastI_left (w : World) (T : BT Int) (p : Value) (wr : World) : Prop := ∃ q t a, p = .pointer q ∧ IsT wr q t ∧ 0 < t.cnt ∧ t.cnt ≤ T.cnt ∧ T.all = t.all ++ a ∧ Below w.heap.size w wr
set_option maxHeartbeats 1000000 in
theorem last_left {w : World} {p : Option Addr} {T : BT Int} (h : IsT w p T) (hn : 0 < T.cnt) :
    Calls Try.prog 57 #[.pointer p, .int .i64 0] w (Last_left w T) := by
  have HI := Lib.hid (⟨p, T, [], rfl, h, hn, Nat.le_refl _, by simp, Below.refl _ _⟩ : LastI_left w T (.pointer p) w)
  clear h hn
  go_enter Try.func57, Try.ntmps57
  go_wp2
  go_loopw [0] (fun p wr => LastI_left w T p wr) (fun p wr => ms p wr)
  case atStart => exact HI.out
  case round =>
    obtain ⟨q, t, a, rfl, hi, hpos, hle, ha, hb⟩ := hrel
    obtain ⟨l, k2, v2, r, rfl⟩ := BT.of_cnt hpos
    have HH := Lib.hid hi
    have HA := Lib.hid ha
    have HB := Lib.hid hb
    have HLE := Lib.hid hle
    obtain ⟨b, pl, pr, rfl, hlt, h0, h1, h2, h3, h4, hl, hr⟩ := hi
    cases l with
    | nil =>
      obtain rfl : pl = none := hl
      clear hr HI ha hb hle hpos
      go_wp2
      go_ret
      refine ⟨_, r, k2, v2, r.all ++ a, rfl, HB.out, HH.out, ?_, by rw [HA.out]; simp [BT.all]⟩
      have := HLE.out
      rw [BT.cnt_node] at this
      omega
    | node l3 k3 v3 r3 =>
      have HC := Lib.hid hl
      obtain ⟨b3, ql, qr, rfl, hlt3, -⟩ := hl
      clear hr HI ha hb hle hpos
      go_wp2
      go_roundw
      case rel =>
        refine ⟨_, _, (k2, v2) :: r.all ++ a, rfl, HC.out, by rw [BT.cnt_node]; omega, ?_, by rw [HA.out]; simp [BT.all], HB.out⟩
        have := HLE.out
        rw [BT.cnt_node] at this
        omega
      case measure => rw [ms_eq HC.out, ms_eq HH.out, BT.cnt_node (.node l3 k3 v3 r3) k2 v2 r]; omega

def Last_right (w : World) (T : BT Int) (e : Ending) (w' : World) : Prop := ∃ q u k2 v2 a, e = .returned (.pointer q) ∧ Below w.heap.size w w' ∧ IsT w' q (.node u k2 v2 .nil) ∧ u.cnt < T.cnt ∧ T.all = a ++ [(k2, v2)]
def LastI_right (w : World) (T : BT Int) (p : Value) (wr : World) : Prop := ∃ q t a, p = .pointer q ∧ IsT wr q t ∧ 0 < t.cnt ∧ t.cnt ≤ T.cnt ∧ T.all = a ++ t.all ∧ Below w.heap.size w wr
set_option maxHeartbeats 1000000 in
theorem last_right {w : World} {p : Option Addr} {T : BT Int} (h : IsT w p T) (hn : 0 < T.cnt) :
    Calls Try.prog 57 #[.pointer p, .int .i64 1] w (Last_right w T) := by
  have HI := Lib.hid (⟨p, T, [], rfl, h, hn, Nat.le_refl _, by simp, Below.refl _ _⟩ : LastI_right w T (.pointer p) w)
  clear h hn
  go_enter Try.func57, Try.ntmps57
  go_wp2
  go_loopw [0] (fun p wr => LastI_right w T p wr) (fun p wr => ms p wr)
  case atStart => exact HI.out
  case round =>
    obtain ⟨q, t, a, rfl, hi, hpos, hle, ha, hb⟩ := hrel
    obtain ⟨l, k2, v2, r, rfl⟩ := BT.of_cnt hpos
    have HH := Lib.hid hi
    have HA := Lib.hid ha
    have HB := Lib.hid hb
    have HLE := Lib.hid hle
    obtain ⟨b, pl, pr, rfl, hlt, h0, h1, h2, h3, h4, hl, hr⟩ := hi
    cases r with
    | nil =>
      obtain rfl : pr = none := hr
      clear hl HI ha hb hle hpos
      go_wp2
      go_ret
      refine ⟨_, l, k2, v2, a ++ l.all, rfl, HB.out, HH.out, ?_, by rw [HA.out]; simp [BT.all]⟩
      have := HLE.out
      rw [BT.cnt_node] at this
      omega
    | node l3 k3 v3 r3 =>
      have HC := Lib.hid hr
      obtain ⟨b3, ql, qr, rfl, hlt3, -⟩ := hr
      clear hl HI ha hb hle hpos
      go_wp2
      go_roundw
      case rel =>
        refine ⟨_, _, a ++ (l.all ++ [(k2, v2)]), rfl, HC.out, by rw [BT.cnt_node]; omega, ?_, by rw [HA.out]; simp [BT.all], HB.out⟩
        have := HLE.out
        rw [BT.cnt_node] at this
        omega
      case measure => rw [ms_eq HC.out, ms_eq HH.out, BT.cnt_node l k2 v2 (.node l3 k3 v3 r3)]; omega

theorem putA_le {l : List (Ky × Int)} (h : Rise l) (k : Ky) (v : Int) : (putA k v l).length ≤ l.length + 1 := by
  rw [putA_len h]; split <;> omega
set_option maxRecDepth 100000 in
set_option maxHeartbeats 2000000 in
theorem put_any (k : Ky) (hk : k.length ≤ 281474976710656) (v : Int) (t : BT Int) : ∀ (w : World) (p : Option Addr), IsT w p t → Rise t.all → t.cnt + 1 < lim →
    Calls Try.prog 32 #[.pointer p, .string ⟨k.toArray⟩, .int .i64 v] w (TreeR w fun t' => t'.all = putA k v t.all) := by
  induction t with
  | nil =>
    intro w p h _ _
    obtain rfl : p = none := h
    have HK := Lib.hid (show (⟨k.toArray⟩ : ByteArray).size ≤ 281474976710656 by rw [size_mkl]; exact hk)
    clear hk
    go_enter Try.func32, Try.ntmps32
    go_wp2_with fail
    refine (clone_any _ _ HK.out).mono ?_
    rintro e w1 ⟨rfl, b1⟩
    have B1 := Lib.hid b1
    clear b1
    go_wp2_with fail
    go_ret
    exact ⟨_, .node .nil k v .nil, rfl, B1.out.alloc B1.out.size _, ⟨w1.heap.size, none, none, rfl, by simp, by simp, by simp, by simp, by simp, by simp [BT.cnt_node, BT.cnt_nil], rfl, rfl⟩, rfl⟩
  | node l k2 v2 r ihl ihr =>
    intro w p h hr hn
    have HH := Lib.hid h
    have HK := Lib.hid hk
    have HR := Lib.hid hr
    have HN := Lib.hid hn
    have IHL := Lib.hid ihl
    have IHR := Lib.hid ihr
    obtain ⟨b, pl, pr, rfl, hlt, h0, h1, h2, h3, h4, hl, hr2⟩ := h
    have HL := Lib.hid hl
    have HR2 := Lib.hid hr2
    have H0 := Lib.hid h0
    clear hl hr2 ihl ihr hk hn hr
    by_cases hk : k2 = k
    · subst hk
      have hne : (k2 == k2) = true := by simp
      go_enter Try.func32, Try.ntmps32
      go_wp2_with fail
      go_ret
      have hB : Below w.heap.size w (w.alloc (.cells #[.string ⟨k2.toArray⟩, .int .i64 v, .pointer pl, .pointer pr, .int .i64 ((BT.node l k2 v2 r).cnt : Nat)] 70)) := (Below.refl _ _).alloc (Nat.le_refl _) _
      exact ⟨_, .node l k2 v r, rfl, hB, ⟨w.heap.size, pl, pr, rfl, by simp, by simp, by simp, by simp, by simp, by simp [BT.cnt_node], HL.out.below hB, HR2.out.below hB⟩, (putA_at HR.out).symm⟩
    · have hne : (k2 == k) = false := by simpa using hk
      cases hs : Op.bytesLess k k2 with
      | true =>
        have HS := Lib.hid hs
        clear hs hk
        go_enter Try.func32, Try.ntmps32
        go_wp2_with fail
        refine (side_less H0.out HS.out).mono ?_
        rintro e w1 ⟨rfl, b1⟩
        have B1 := Lib.hid b1
        obtain ⟨hc, hf⟩ := bcell b1
        clear b1
        go_wp2_with fail
        refine (IHL.out _ _ (HL.out.below B1.out) (rise_parts.1 HR.out).1 (by have := HN.out; rw [BT.cnt_node] at this; omega)).mono ?_
        rintro e w2 ⟨q2, t2, rfl, b2, i2, a2⟩
        have B2 := Lib.hid (bt B1.out b2)
        have I2 := Lib.hid i2
        have A2 := Lib.hid a2
        have HC2 : (BT.node t2 k2 v2 r).cnt < lim := by
          have h1 := HN.out
          have h2 := putA_le (rise_parts.1 HR.out).1 k v
          rw [BT.cnt_node] at h1 ⊢
          unfold BT.cnt at h1 ⊢
          rw [A2.out]
          omega
        have HC2 := Lib.hid HC2
        clear b2 i2 a2
        go_wp2_with fail
        refine (with_left (HH.out.below B2.out) I2.out HC2.out).mono ?_
        rintro e w3 ⟨rfl, b3, i3⟩
        have B3 := Lib.hid (bt B2.out b3)
        have I3 := Lib.hid i3
        clear b3 i3
        go_wp2_with fail
        refine (balanced_any I3.out HC2.out).mono ?_
        rintro e w4 ⟨q4, t4, rfl, b4, i4, a4⟩
        have B4 := Lib.hid (bt B3.out b4)
        have I4 := Lib.hid i4
        have A4 := Lib.hid a4
        clear b4 i4 a4
        go_wp2_with fail
        go_ret
        exact ⟨_, t4, rfl, B4.out, I4.out, A4.out.trans ((putA_less HR.out HS.out).trans (by rw [← A2.out]; rfl)).symm⟩
      | false =>
        have hs2 : Op.bytesLess k2 k = true := by
          cases hx : Op.bytesLess k2 k with
          | true => rfl
          | false => exact absurd (less_total _ _ hx hs) hk
        have HS := Lib.hid hs
        have HS2 := Lib.hid hs2
        clear hs hk hs2
        go_enter Try.func32, Try.ntmps32
        go_wp2_with fail
        refine (side_more H0.out HS.out).mono ?_
        rintro e w1 ⟨rfl, b1⟩
        have B1 := Lib.hid b1
        obtain ⟨hc, hf⟩ := bcell b1
        clear b1
        go_wp2_with fail
        refine (IHR.out _ _ (HR2.out.below B1.out) (rise_parts.1 HR.out).2.1 (by have := HN.out; rw [BT.cnt_node] at this; omega)).mono ?_
        rintro e w2 ⟨q2, t2, rfl, b2, i2, a2⟩
        have B2 := Lib.hid (bt B1.out b2)
        have I2 := Lib.hid i2
        have A2 := Lib.hid a2
        have HC2 : (BT.node l k2 v2 t2).cnt < lim := by
          have h1 := HN.out
          have h2 := putA_le (rise_parts.1 HR.out).2.1 k v
          rw [BT.cnt_node] at h1 ⊢
          unfold BT.cnt at h1 ⊢
          rw [A2.out]
          omega
        have HC2 := Lib.hid HC2
        clear b2 i2 a2
        go_wp2_with fail
        refine (with_right (HH.out.below B2.out) I2.out HC2.out).mono ?_
        rintro e w3 ⟨rfl, b3, i3⟩
        have B3 := Lib.hid (bt B2.out b3)
        have I3 := Lib.hid i3
        clear b3 i3
        go_wp2_with fail
        refine (balanced_any I3.out HC2.out).mono ?_
        rintro e w4 ⟨q4, t4, rfl, b4, i4, a4⟩
        have B4 := Lib.hid (bt B3.out b4)
        have I4 := Lib.hid i4
        have A4 := Lib.hid a4
        clear b4 i4 a4
        go_wp2_with fail
        go_ret
        exact ⟨_, t4, rfl, B4.out, I4.out, A4.out.trans ((putA_more HR.out HS2.out).trans (by rw [← A2.out]; rfl)).symm⟩
end Go.Proofs.Yteolhbcmffbdlaa.TI
