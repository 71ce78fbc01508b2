/-
  Layer 7 (sorted): the walk of the law SortedRises. Conditions: texts within the form's reach.
-/
import Derived.Test.YteolhbcmffbdlaaOq
import Derived.Laws.Cover1
namespace Go.Proofs.Yteolhbcmffbdlaa
open Go.RowKit
set_option linter.unusedVariables false
set_option linter.unusedSimpArgs false

theorem rise_fillI (ts : List Ky) : Rise (fillI ts) := rise_fill _ ts
/-- The last place from i on, i + d left out, that has the key of place i. -/
def lastW (ts : List Ky) (i : Nat) : Nat → Nat
  | 0 => i
  | d + 1 => if ts[i + d]? = ts[i]? then i + d else lastW ts i d
theorem last_get {ts : List Ky} {i : Nat} (hi : i < ts.length) : ∀ d, i + d + 1 ≤ ts.length → getA ts[i] (fillI (ts.take (i + d + 1))) = some (lastW ts i (d + 1) : Int)
  | 0, h => by
    rw [Nat.add_zero, take_snoc hi, fillI_snoc, getA_putA (rise_fillI _), if_pos rfl, List.length_take, Nat.min_eq_left (by omega)]
    simp [lastW]
  | d + 1, h => by
    have hk : i + (d + 1) < ts.length := by omega
    rw [take_snoc hk, fillI_snoc, getA_putA (rise_fillI _), List.length_take, Nat.min_eq_left (by omega)]
    have ih := last_get hi d (by omega)
    by_cases e : ts[i] = ts[i + (d + 1)]
    · rw [if_pos e]
      have : lastW ts i (d + 1 + 1) = i + (d + 1) := by
        unfold lastW
        rw [if_pos (by rw [List.getElem?_eq_getElem hk, List.getElem?_eq_getElem hi, e])]
      rw [this]
    · rw [if_neg e]
      have : lastW ts i (d + 1 + 1) = lastW ts i (d + 1) := by
        rw [lastW, if_neg (by rw [List.getElem?_eq_getElem hk, List.getElem?_eq_getElem hi]; intro h; exact e (Option.some.inj h).symm)]
      rw [this, show i + (d + 1) = i + d + 1 by omega]
      exact ih
theorem last_all {ts : List Ky} {i : Nat} (hi : i < ts.length) : getA ts[i] (fillI ts) = some (lastW ts i (ts.length - i) : Int) := by
  have h := last_get hi (ts.length - i - 1) (by omega)
  rw [show i + (ts.length - i - 1) + 1 = ts.length by omega, List.take_length, show ts.length - i - 1 + 1 = ts.length - i by omega] at h
  exact h
theorem last_step {ts : List Ky} {i d : Nat} (hi : i < ts.length) (hd : i + d < ts.length) {c : Bool} (hc : (ts[i + d] == ts[i]) = c) : lastW ts i (d + 1) = if c = true then i + d else lastW ts i d := by
  rw [lastW, List.getElem?_eq_getElem hd, List.getElem?_eq_getElem hi]
  by_cases e : ts[i + d] = ts[i]
  · rw [if_pos (by rw [e])]
    rw [beq_iff_eq.2 e] at hc
    subst hc; simp
  · rw [if_neg (by intro h; exact e (Option.some.inj h))]
    rw [beq_eq_false_iff_ne.2 e] at hc
    subst hc; simp
theorem rise_step {l : List (Ky × Int)} (h : Rise l) {k : Nat} (hk : k + 1 < (l.map (·.1)).length) : Op.bytesLess (l.map (·.1))[k] (l.map (·.1))[k + 1] = true := by
  have hk' : k + 1 < l.length := by simpa using hk
  have := List.pairwise_iff_getElem.1 h k (k + 1) (by omega) hk' (by omega)
  simpa using this
set_option maxRecDepth 100000 in
set_option maxHeartbeats 8000000 in
theorem rises_main (a : Option Addr) (cap : Nat) (ts : List Ky) (w : World) (hr : Rd w a ts) (hc : ts.length ≤ cap) (hl : ts.length ≤ 100) :
    Calls Try.prog 5 #[.slice a ts.length cap] w fun e w' => e = .returned (.bool true) ∧ Below w.heap.size w w' := by
  have HR := Lib.hid hr
  obtain ⟨n, hn⟩ : ∃ n, n = ts.length := ⟨_, rfl⟩
  rw [← hn] at hc hl ⊢
  have HN := Lib.hid hn
  clear hr hn
  go_enter Try.func5, Try.ntmps5
  go_wp2_with fail
  go_loopw [3] (fun i wr => ∃ k : Nat, i = .int .i64 k ∧ k ≤ n ∧ Hid (∀ j (h : j < ts.length), j < k → ts[j].length ≤ 512) ∧ Below w.heap.size w wr) (fun i _ => n - (intOf i).toNat)
  case atStart => exact ⟨0, rfl, by omega, Lib.hid (fun j h hj => by omega), Below.refl _ _⟩
  case round =>
    obtain ⟨k, rfl, hkn, HS, bw⟩ := hrel
    have BW := Lib.hid bw
    clear bw
    by_cases hlt : k < n
    · have hkl : k < ts.length := by rw [← HN.out]; exact hlt
      obtain ⟨b, off, rfl, hbl, c0, hbw, cw⟩ := rd_at2 HR.out BW.out hkl
      obtain ⟨x, hx⟩ : ∃ x, x = ts[k] := ⟨_, rfl⟩
      rw [← hx] at c0
      have HX := Lib.hid hx
      have hxs : (⟨x.toArray⟩ : ByteArray).size = x.length := size_mkl x
      clear hx cw hbw
      by_cases hxl : x.length ≤ 512
      · go_wp2_with fail
        go_roundw
        case rel => exact ⟨k + 1, by go_num, hlt, Lib.hid (fun j h hj => by
          by_cases e : j = k
          · subst e; rw [← HX.out]; exact hxl
          · exact HS.out j h (by omega)), BW.out⟩
        case measure => simp [intOf]; omega
      · go_wp2_with fail
        refine (TI.awake_any _).mono ?_
        rintro e w5 ⟨rfl, b5⟩
        have B5 := Lib.hid (BW.out.trans (b5.mono BW.out.size))
        clear b5
        go_wp2_with fail
        go_ret
        exact ⟨rfl, B5.out⟩
    · obtain rfl : k = n := by omega
      have HKA : Hid (∀ t ∈ ts, t.length ≤ 512) := Lib.hid (fun t ht => by
        obtain ⟨j, hj, rfl⟩ := List.getElem_of_mem ht
        exact HS.out j hj (by have := HN.out; omega))
      have HRW := Lib.hid (HR.out.old BW.out)
      clear HS
      have HFC := Lib.hid (filled_any a cap ts wr (HR.out.old BW.out) (by have := HN.out; omega) (by have := HN.out; omega) HKA.out)
      rw [← HN.out] at HFC
      go_wp2_with fail
      refine HFC.out.mono ?_
      rintro e w1 ⟨m, q, rfl, hm, m1, r1, b1⟩
      have B1 := Lib.hid (BW.out.trans (b1.mono BW.out.size))
      have M1 := Lib.hid m1
      obtain ⟨qa, qc, qva, qvc, rfl, -⟩ := r1
      clear b1 m1 hm HFC
      go_wp2_with fail
      have bq : Below w1.heap.size w1 (w1.alloc (.cells #[.slice qa (fillI ts).length qc, .slice qva (fillI ts).length qvc] 28)) := (Below.refl _ _).alloc (Nat.le_refl _) _
      have M2 := Lib.hid (M1.out.below bq)
      have ho := TI.over_map_any M2.out []
      rw [TI.fromA_nil] at ho
      refine (TI.keys_over [] ho 1000 (by decide) (by decide)).mono ?_
      rintro e w3 ⟨la, lcap, rfl, b3, r3, l3⟩
      have hlen : (fillI ts).length ≤ 100 := Nat.le_trans (fill_len _ ts) (by have := HN.out; omega)
      have htk : ((fillI ts).map (·.1)).take (1000 : Int).toNat = (fillI ts).map (·.1) := List.take_of_length_le (by simp; omega)
      rw [htk] at r3 l3 ⊢
      have B3 := Lib.hid (B1.out.trans ((bq.trans (b3.mono (by simp))).mono B1.out.size))
      have M3 := Lib.hid (M2.out.below b3)
      have R3 := Lib.hid r3
      obtain ⟨ln, hln⟩ : ∃ ln, ln = ((fillI ts).map (·.1)).length := ⟨_, rfl⟩
      have hlf : (fillI ts).length = ln := by rw [hln]; simp
      rw [← hln] at l3 ⊢
      have hln2 : ln ≤ 100 := by omega
      have HLN := Lib.hid hln
      have HLF := Lib.hid hlf
      have HLEN := Lib.hid hlen
      clear bq ho b3 r3 htk hln hlf hlen HKA BW hkn
      obtain ⟨lf, hlf⟩ : ∃ lf, lf = (fillI ts).length := ⟨_, rfl⟩
      rw [← hlf]
      clear hlf
      go_wp2_with fail
      go_loopw [8] (fun i wr => ∃ k : Nat, i = .int .i64 k ∧ k ≤ ln ∧ Below w3.heap.size w3 wr) (fun i _ => ln - (intOf i).toNat)
      case atStart => exact ⟨0, rfl, by omega, Below.refl _ _⟩
      case round =>
        obtain ⟨j, rfl, hj, b4⟩ := hrel
        have B4 := Lib.hid b4
        clear b4
        by_cases hlt2 : j < ln
        · by_cases hj0 : j = 0
          · subst hj0
            go_wp2_with fail
            go_quiet (fail)
            go_wp2_with fail
            go_roundw
            case rel => exact ⟨1, by go_num, by omega, below_drewN B4.out _⟩
            case measure => simp [intOf]; omega
          · obtain ⟨p, hp⟩ : ∃ p, j = p + 1 := ⟨j - 1, by omega⟩
            have hpl : p + 1 < ((fillI ts).map (·.1)).length := by rw [← HLN.out]; omega
            have hle := rise_step (rise_fillI ts) hpl
            obtain ⟨lb, loff, rfl, hlb, hlc⟩ := R3.out.resolve_left (by intro e; rw [e] at hpl; cases hpl)
            have d1 := (B4.out.cell (p := ⟨lb, loff + p, none⟩) hlb).trans (hlc p (by omega))
            have d2 := (B4.out.cell (p := ⟨lb, loff + (p + 1), none⟩) hlb).trans (hlc (p + 1) hpl)
            obtain ⟨x, hx⟩ : ∃ x, x = ((fillI ts).map (·.1))[p] := ⟨_, rfl⟩
            obtain ⟨y, hy⟩ : ∃ y, y = ((fillI ts).map (·.1))[p + 1] := ⟨_, rfl⟩
            rw [← hx] at d1 hle
            rw [← hy] at d2 hle
            rw [← hp] at d2
            have hlb2 : lb < wr.heap.size := Nat.lt_of_lt_of_le hlb B4.out.size
            have hsub : IntKind.i64.wrap ((j : Int) - 1) = (p : Int) := by rw [IntWalk.i64_in _ (by omega)]; omega
            have hp1 : p < ln := by omega
            have hp2 : (p : Int) < (ln : Int) := by omega
            have hp0 : (0 : Int) ≤ (p : Int) := by omega
            have hj1 : 0 < j := by omega
            have hj2 : (0 : Int) < (j : Int) := by omega
            have HJP := Lib.hid hp
            clear hp hx hy hlc hlb hpl hj0
            go_wp2_with fail
            go_quiet (fail)
            go_wp2_with fail
            go_roundw
            case rel => exact ⟨j + 1, by go_num, hlt2, below_drewN B4.out _⟩
            case measure => simp [intOf]; omega
        · obtain rfl : j = ln := by omega
          go_wp2_with fail
          go_loopw [9, 10, 11, 12, 13] (fun i _ _ _ _ wx => ∃ i0 : Nat, i = .int .i64 i0 ∧ i0 ≤ k ∧ Below w3.heap.size w3 wx) (fun i _ _ _ _ _ => k - (intOf i).toNat)
          case atStart => exact ⟨0, rfl, by omega, B4.out⟩
          case round =>
            obtain ⟨i0, rfl, hi0, b5⟩ := hrel
            have B5 := Lib.hid (B3.out.trans (b5.mono B3.out.size))
            have M5 := Lib.hid (M3.out.below b5)
            have C5 := Lib.hid b5
            clear b5
            by_cases hlt3 : i0 < k
            · have hil : i0 < ts.length := by rw [← HN.out]; exact hlt3
              obtain ⟨b, off, rfl, hbl, c0, hbw, cw⟩ := rd_at2 HR.out B5.out hil
              obtain ⟨x, hx⟩ : ∃ x, x = ts[i0] := ⟨_, rfl⟩
              rw [← hx] at c0 cw
              have HX := Lib.hid hx
              have HBW := Lib.hid hbw
              have CW := Lib.hid cw
              clear hx hbw cw hbl
              go_wp2_with fail
              go_loopw [11, 10] (fun s11 s10 wy => ∃ d : Nat, s11 = .int .i64 ((i0 + d : Nat) : Int) ∧ i0 + d ≤ k ∧ s10 = .int .i64 ((lastW ts i0 d : Nat) : Int) ∧ Below wr.heap.size wr wy) (fun s11 _ _ => k - (intOf s11).toNat)
              case atStart => exact ⟨0, rfl, by omega, rfl, Below.refl _ _⟩
              case round =>
                obtain ⟨d, rfl, hd, rfl, b6⟩ := hrel
                have B6 := Lib.hid (B5.out.trans (b6.mono B5.out.size))
                have M6 := Lib.hid (M5.out.below b6)
                have C6 := Lib.hid b6
                clear b6
                obtain ⟨kk, hkk⟩ : ∃ kk, kk = i0 + d := ⟨_, rfl⟩
                rw [← hkk] at hd ⊢
                have HKK := Lib.hid hkk
                have d1 := (B6.out.cell (p := ⟨b, off + i0, none⟩) HBW.out).trans CW.out
                have hb6 : b < wr.heap.size := Nat.lt_of_lt_of_le HBW.out B6.out.size
                by_cases hlt4 : kk < k
                · have hkl2 : i0 + d < ts.length := by rw [← HN.out, ← hkk]; exact hlt4
                  obtain ⟨b', off', e, hbl', c0', hbw', cw'⟩ := rd_at2 HR.out B6.out hkl2
                  cases e
                  obtain ⟨y, hy⟩ : ∃ y, y = ts[i0 + d] := ⟨_, rfl⟩
                  rw [← hy, ← hkk] at c0'
                  obtain ⟨c, hcc⟩ : ∃ c, c = (y == x) := ⟨_, rfl⟩
                  have hst := last_step hil hkl2 (c := c) (by rw [hcc, hy, HX.out])
                  have HST := Lib.hid hst
                  have hce : (y == x) = c := hcc.symm
                  obtain ⟨lw, hlw⟩ : ∃ lw, lw = lastW ts i0 d := ⟨_, rfl⟩
                  have HLW := Lib.hid hlw
                  rw [← hlw] at HST ⊢
                  clear hst hcc hy hbw' cw' hkk hlw
                  cases c with
                  | true =>
                    go_wp2_with fail
                    go_quiet (fail)
                    go_wp2_with fail
                    go_roundw
                    case rel => exact ⟨d + 1, by rw [HKK.out]; go_num, by have := HKK.out; omega, by rw [HST.out]; rw [if_pos trivial, HKK.out], below_drewN C6.out _⟩
                    case measure => simp [intOf]; omega
                  | false =>
                    go_wp2_with fail
                    go_quiet (fail)
                    go_wp2_with fail
                    go_roundw
                    case rel => exact ⟨d + 1, by rw [HKK.out]; go_num, by have := HKK.out; omega, by rw [HST.out]; rfl, below_drewN C6.out _⟩
                    case measure => simp [intOf]; omega
                · obtain rfl : kk = k := by omega
                  have hgg := last_all hil
                  rw [← HN.out, show kk - i0 = d by omega, ← HX.out] at hgg
                  obtain ⟨lw, hlw⟩ : ∃ lw, lw = lastW ts i0 d := ⟨_, rfl⟩
                  rw [← hlw] at hgg ⊢
                  have HGG := Lib.hid hgg
                  clear hgg hlw hkk
                  go_wp2_with fail
                  refine (TI.get_some M6.out HGG.out).mono ?_
                  rintro e w7 ⟨rfl, b7⟩
                  have B7 := Lib.hid ((C5.out.trans (C6.out.mono C5.out.size)).trans (b7.mono (C5.out.trans (C6.out.mono C5.out.size)).size))
                  clear b7
                  go_wp2_with fail
                  go_roundw
                  case rel => exact ⟨i0 + 1, by go_num, by omega, B7.out⟩
                  case measure => simp [intOf]; omega
            · obtain rfl : i0 = k := by omega
              go_wp2_with fail
              refine (TI.len_any M5.out).mono ?_
              rintro e w6 ⟨rfl, b6⟩
              rw [HLF.out]
              have B6 := Lib.hid (B5.out.trans (b6.mono B5.out.size))
              clear b6
              go_wp2_with fail
              refine (TI.keys_few _ [] (-1) (by decide) (by decide)).mono ?_
              rintro e w7 ⟨xa, xcap, rfl, b7, r7, l7⟩
              have B7 := Lib.hid (B6.out.trans (b7.mono B6.out.size))
              clear b7 r7
              go_wp2_with fail
              refine (TI.awake_any _).mono ?_
              rintro e w8 ⟨rfl, b8⟩
              have B8 := Lib.hid (B7.out.trans (b8.mono B7.out.size))
              clear b8
              go_wp2_with fail
              go_ret
              exact ⟨rfl, B8.out⟩
theorem rises_long (a : Option Addr) (n cap : Nat) (w : World) (hm : n ≤ maxLen) (hl : 100 < n) :
    Calls Try.prog 5 #[.slice a n cap] w fun e w' => e = .returned (.bool true) ∧ Below w.heap.size w w' := by
  unfold maxLen at hm
  go_enter Try.func5, Try.ntmps5
  go_wp2_with fail
  refine (TI.awake_any _).mono ?_
  rintro e w1 ⟨rfl, b1⟩
  have B1 := Lib.hid b1
  clear b1
  go_wp2_with fail
  go_ret
  exact ⟨rfl, B1.out⟩
theorem walk_SortedRises (a : Option Addr) (cap : Nat) (ts : List (List UInt8)) (w : World) (hr : Rd w a ts) (hm : ts.length ≤ maxLen) (hc : ts.length ≤ cap) :
    Calls Try.prog 5 #[.slice a ts.length cap] w fun e w' => e = .returned (.bool true) ∧ Below w.heap.size w w' := by
  by_cases h : ts.length ≤ 100
  · exact rises_main a cap ts w hr hc h
  · exact rises_long a ts.length cap w hm (by omega)
end Go.Proofs.Yteolhbcmffbdlaa
