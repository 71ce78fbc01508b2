/-
  Layer 7 (sorted): the walk of the law SortedTypes. Conditions: texts within the form's reach.
-/
import Derived.Test.YteolhbcmffbdlaaUm
import Derived.Test.YteolhbcmffbdlaaOh
import Derived.Test.YteolhbcmffbdlaaOj
namespace Go.Proofs.Yteolhbcmffbdlaa.TS
open Go.RowKit
set_option linter.unusedVariables false
set_option linter.unusedSimpArgs false

/-- A text with '!' behind. -/
def bang (t : Ky) : Ky := t ++ [33]
def fillS (ts : List Ky) : List (Ky × Ky) := fill (fun _ t => bang t) ts
theorem fillS_snoc (ts : List Ky) (t : Ky) : fillS (ts ++ [t]) = putA t (bang t) (fillS ts) := fill_snoc _ _ _
/-- The loop. -/
def TyI (w : World) (ts : List Ky) (key : Ky) (i th : Value) (wr : World) : Prop := ∃ k : Nat, i = .int .i64 k ∧ k ≤ ts.length ∧ th = .bool (inT (ts.take k) key) ∧ MapAt wr w.heap.size (fillS (ts.take k)) ∧ Below w.heap.size w wr
theorem bang_eq (x : Ky) : ((⟨x.toArray⟩ : ByteArray) ++ (⟨#[33]⟩ : ByteArray)) = ⟨(bang x).toArray⟩ := by
  apply ByteArray.ext
  simp [bang]
theorem rd_at {w wr : World} {a : Option Addr} {ts : List Ky} (h : Rd w a ts) (hb : Below w.heap.size w wr) {k : Nat} (hk : k < ts.length) : ∃ b off, a = some ⟨b, off, none⟩ ∧ b < wr.heap.size ∧ wr.cell? ⟨b, off + k, none⟩ = some (.string ⟨ts[k].toArray⟩) ∧ b < w.heap.size ∧ w.cell? ⟨b, off + k, none⟩ = some (.string ⟨ts[k].toArray⟩) := by
  rcases h with rfl | ⟨b, off, rfl, hlt, hc⟩
  · cases hk
  · exact ⟨b, off, rfl, Nat.lt_of_lt_of_le hlt hb.size, (hb.cell (p := ⟨b, off + k, none⟩) hlt).trans (hc k hk), hlt, hc k hk⟩
set_option maxRecDepth 100000 in
set_option maxHeartbeats 4000000 in
theorem types_main (a : Option Addr) (cap : Nat) (ts : List Ky) (key : Ky) (w : World) (hr : Rd w a ts) (hm : ts.length ≤ maxLen) (hc : ts.length ≤ cap) (hl : ts.length ≤ 60) (hk : key.length ≤ 512) :
    Calls Try.prog 6 #[.slice a ts.length cap, .string ⟨key.toArray⟩] w fun e w' => e = .returned (.bool true) ∧ Below w.heap.size w w' := by
  unfold maxLen at hm
  have HR := Lib.hid hr
  have HK := Lib.hid hk
  have hksz : (⟨key.toArray⟩ : ByteArray).size = key.length := size_mkl key
  obtain ⟨n, hn⟩ : ∃ n, n = ts.length := ⟨_, rfl⟩
  rw [← hn]
  rw [← hn] at hm hc hl
  have HN := Lib.hid hn
  clear hr hn
  go_enter Try.func6, Try.ntmps6
  go_wp2_with fail
  refine (new_any _).mono ?_
  rintro e w1 ⟨rfl, b1, m1⟩
  have B1 := Lib.hid b1
  have M1 := Lib.hid m1
  clear b1 m1
  go_wp2_with fail
  go_loopw [7, 6] (fun i th wr => TyI w ts key i th wr) (fun i _ _ => n - (intOf i).toNat)
  case atStart => exact ⟨0, rfl, by omega, rfl, M1.out, B1.out⟩
  case round =>
    obtain ⟨k, rfl, hkn, rfl, mw, bw⟩ := hrel
    have BW := Lib.hid bw
    have MW := Lib.hid mw
    clear bw mw
    by_cases hlt : k < n
    · have hkl : k < ts.length := by rw [← HN.out]; exact hlt
      obtain ⟨b, off, rfl, hbl, c0, hbw, cw⟩ := rd_at HR.out BW.out hkl
      obtain ⟨x, hx⟩ : ∃ x, x = ts[k] := ⟨_, rfl⟩
      rw [← hx] at c0 cw
      have HBW := Lib.hid hbw
      have CW := Lib.hid cw
      clear hbw cw
      have HX := Lib.hid hx
      have hxs : (⟨x.toArray⟩ : ByteArray).size = x.length := size_mkl x
      clear hx
      by_cases hxl : x.length ≤ 512
      · have hx1 : ¬ 9223372036854775807 < x.length + 1 := by omega
        have hxb : ((⟨x.toArray⟩ : ByteArray) ++ (⟨#[33]⟩ : ByteArray)) = ⟨(bang x).toArray⟩ := bang_eq x
        go_wp2_with fail
        refine below_tail 10 (by kernel_rfl) (by kernel_rfl) ?_
        simp only [List.take_succ_cons, List.take_zero, List.drop_succ_cons, List.drop_zero]
        repeat (first
          | go_big_quiet_skip
          | (go_big_quiet_want
             first
             | (refine BigFrame.quiet_move _ rfl ?_)
             | (refine BigFrame.quiet_assign _ rfl ?_)
             | (unfold Oper.quiet
                apply Exists.intro
                refine ⟨fun w' hw' => ?_, ?_⟩
                · (obtain ⟨hc', hf'⟩ := bcell hw'
                   go_simp
                   first
                   | done
                   | exact rfl))
             go_big_quiet_on
             simp only [Act.put, Act.eval, List.setIfInBounds_toArray, List.set_cons_zero, List.set_cons_succ, Array.getD_eq_getD_getElem?, List.getElem?_toArray, List.getElem?_cons_zero, List.getElem?_cons_succ, Option.getD_some]))
        refine wpQuiet_nil ?_
        intro w' hw'
        have BW2 := Lib.hid (BW.out.trans (hw'.mono BW.out.size))
        have MW2 := Lib.hid (MW.out.below hw')
        have hc2 := ((bcell hw').1 b (off + k) hbl).trans c0
        have hbl2 : b < w'.heap.size := Nat.lt_of_lt_of_le hbl hw'.size
        clear hw'
        clear hxb hx1
        have hlen : (fillS (ts.take k)).length + 1 < 1073741824 := by
          have := fill_len (fun _ t => bang t) (ts.take k)
          rw [List.length_take] at this
          unfold fillS
          omega
        have HLEN := Lib.hid hlen
        clear hlen
        obtain ⟨q, hq⟩ : ∃ q, q = inT (ts.take k) key := ⟨_, rfl⟩
        obtain ⟨c, hcc⟩ : ∃ c, c = (x == key) := ⟨_, rfl⟩
        have hq2 : inT (ts.take (k + 1)) key = (q || c) := by rw [take_snoc hkl, inT_snoc, hq, hcc, HX.out]
        have hf2 : putA x (bang x) (fillS (ts.take k)) = fillS (ts.take (k + 1)) := by rw [take_snoc hkl, fillS_snoc, HX.out]
        rw [← hq]
        have HQ2 := Lib.hid hq2
        have HF2 := Lib.hid hf2
        have HXL := Lib.hid hxl
        have hce : (x == key) = c := hcc.symm
        clear hq hq2 hf2 hcc
        go_wp2_with fail
        refine (put_map MW2.out x (by have := HXL.out; omega) (bang x) HLEN.out).mono ?_
        rintro e w3 ⟨rfl, k3, m3⟩
        rw [HF2.out] at m3
        have B3 := Lib.hid (BW2.out.trans (k3.below (B := w.heap.size) (Nat.le_refl _) BW2.out.size))
        have M3 := Lib.hid m3
        have c3 := (B3.out.cell (p := ⟨b, off + k, none⟩) HBW.out).trans CW.out
        have hb3 : b < w3.heap.size := Nat.lt_of_lt_of_le HBW.out B3.out.size
        clear k3 m3 c0 hbl hc2 hbl2
        cases q with
        | true =>
          go_wp2_with fail
          go_roundw
          case rel => exact ⟨k + 1, by go_num, hkl, by rw [HQ2.out]; rfl, M3.out, B3.out⟩
          case measure => simp [intOf]; omega
        | false =>
          cases c with
          | true =>
            go_wp2_with fail
            go_roundw
            case rel => exact ⟨k + 1, by go_num, hkl, by rw [HQ2.out]; rfl, M3.out, B3.out⟩
            case measure => simp [intOf]; omega
          | false =>
            go_wp2_with fail
            go_roundw
            case rel => exact ⟨k + 1, by go_num, hkl, by rw [HQ2.out]; rfl, M3.out, B3.out⟩
            case measure => simp [intOf]; omega
      · go_wp2_with fail
        refine (TI.awake_any _).mono ?_
        rintro e w5 ⟨rfl, b5⟩
        have B5 := Lib.hid (BW.out.trans (b5.mono BW.out.size))
        clear b5
        go_wp2_with fail
        go_ret
        exact ⟨rfl, B5.out⟩
    · obtain rfl : k = n := by have := HN.out; omega
      have ht : ts.take k = ts := List.take_of_length_le (by rw [HN.out]; exact Nat.le_refl _)
      rw [ht]
      rw [ht] at MW
      clear ht
      obtain ⟨q, hq⟩ : ∃ q, q = inT ts key := ⟨_, rfl⟩
      have hg := fill_get bang ts key
      rw [← hq] at hg ⊢
      have HQ := Lib.hid hq
      have HG : Hid (getA key (fillS ts) = if q = true then some (bang key) else none) := Lib.hid hg
      clear hg hq
      have hkb : ((⟨key.toArray⟩ : ByteArray) ++ (⟨#[33]⟩ : ByteArray)) = ⟨(bang key).toArray⟩ := bang_eq key
      have hkl1 : ¬ 9223372036854775807 < key.length + 1 := by omega
      cases q with
      | true =>
        go_wp2_with fail
        refine (get_some MW.out HG.out).mono ?_
        rintro e w5 ⟨rfl, b5⟩
        have B5 := Lib.hid (BW.out.trans (b5.mono BW.out.size))
        have M5 := Lib.hid (MW.out.below b5)
        clear b5
        go_wp2_with fail
        refine (drop_some M5.out HG.out).mono ?_
        rintro e w6 ⟨rfl, k6, m6⟩
        have B6 := Lib.hid (B5.out.trans (k6.below (Nat.le_refl _) B5.out.size))
        have M6 := Lib.hid m6
        clear k6 m6
        go_wp2_with fail
        refine (drop_none M6.out (getA_delA M5.out.rise key)).mono ?_
        rintro e w7 ⟨rfl, k7, m7⟩
        have B7 := Lib.hid (B6.out.trans (k7.below (Nat.le_refl _) B6.out.size))
        clear k7 m7
        go_wp2_with fail
        refine (TI.awake_any _).mono ?_
        rintro e w8 ⟨rfl, b8⟩
        have B8 := Lib.hid (B7.out.trans (b8.mono B7.out.size))
        clear b8
        go_wp2_with fail
        go_ret
        exact ⟨rfl, B8.out⟩
      | false =>
        go_wp2_with fail
        refine (get_none MW.out HG.out).mono ?_
        rintro e w5 ⟨rfl, b5⟩
        have B5 := Lib.hid (BW.out.trans (b5.mono BW.out.size))
        have M5 := Lib.hid (MW.out.below b5)
        clear b5
        go_wp2_with fail
        refine (drop_none M5.out HG.out).mono ?_
        rintro e w6 ⟨rfl, k6, m6⟩
        have B6 := Lib.hid (B5.out.trans (k6.below (Nat.le_refl _) B5.out.size))
        have M6 := Lib.hid m6
        clear k6 m6
        go_wp2_with fail
        refine (drop_none M6.out HG.out).mono ?_
        rintro e w7 ⟨rfl, k7, m7⟩
        have B7 := Lib.hid (B6.out.trans (k7.below (Nat.le_refl _) B6.out.size))
        clear k7 m7
        go_wp2_with fail
        refine (TI.awake_any _).mono ?_
        rintro e w8 ⟨rfl, b8⟩
        have B8 := Lib.hid (B7.out.trans (b8.mono B7.out.size))
        clear b8
        go_wp2_with fail
        go_ret
        exact ⟨rfl, B8.out⟩
set_option maxRecDepth 100000 in
set_option maxHeartbeats 1000000 in
theorem types_long (a : Option Addr) (n cap : Nat) (key : Ky) (w : World) (hm : n ≤ maxLen) (hl : 60 < n ∨ 512 < key.length) (hkl : key.length ≤ 140737488351232) :
    Calls Try.prog 6 #[.slice a n cap, .string ⟨key.toArray⟩] w fun e w' => e = .returned (.bool true) ∧ Below w.heap.size w w' := by
  unfold maxLen at hm
  have hksz : (⟨key.toArray⟩ : ByteArray).size = key.length := size_mkl key
  by_cases h1 : 60 < n
  · clear hl
    go_enter Try.func6, Try.ntmps6
    go_wp2_with fail
    refine (TI.awake_any _).mono ?_
    rintro e w1 ⟨rfl, b1⟩
    have B1 := Lib.hid b1
    clear b1
    go_wp2_with fail
    go_ret
    exact ⟨rfl, B1.out⟩
  · have h2 := hl.resolve_left h1
    clear hl
    go_enter Try.func6, Try.ntmps6
    go_wp2_with fail
    refine (TI.awake_any _).mono ?_
    rintro e w1 ⟨rfl, b1⟩
    have B1 := Lib.hid b1
    clear b1
    go_wp2_with fail
    go_ret
    exact ⟨rfl, B1.out⟩
end Go.Proofs.Yteolhbcmffbdlaa.TS
namespace Go.Proofs.Yteolhbcmffbdlaa
open Go.RowKit
theorem kyT (s : ByteArray) : ∃ k : Ky, s = ⟨k.toArray⟩ ∧ k.length = s.size := ⟨s.data.toList, by simp, by simp⟩
theorem walk_SortedTypes (a : Option Addr) (cap : Nat) (ts : List (List UInt8)) (s : ByteArray) (hs : s.size ≤ 140737488351232) (w : World) (hr : Rd w a ts) (hm : ts.length ≤ maxLen) (hc : ts.length ≤ cap) :
    Calls Try.prog 6 #[.slice a ts.length cap, .string s] w fun e w' => e = .returned (.bool true) ∧ Below w.heap.size w w' := by
  obtain ⟨k, rfl, hk⟩ := kyT s
  by_cases h : ts.length ≤ 60 ∧ k.length ≤ 512
  · exact TS.types_main a cap ts k w hr hm hc h.1 h.2
  · exact TS.types_long a ts.length cap k w hm (by omega) (by omega)
end Go.Proofs.Yteolhbcmffbdlaa
