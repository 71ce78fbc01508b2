/-
  Layer 12 (manifest): edits in memory; contracts of numbered, counted, mayBe, Check, of the document's number, tab, May, Check. Conditions: texts within the reach.
-/
import Derived.Test.YthmkalnbdocdcaaYd
namespace Go.Proofs.Ythmkalnbdocdcaa
set_option maxRecDepth 100000
open Go.RowKit
set_option linter.unusedVariables false
set_option linter.unusedSimpArgs false

def iv (zs : List Int) : List Value := zs.map fun z => .int .i64 z
def ZAt (w : World) (b off : Nat) (zs : List Int) : Prop := ∀ i (h : i < zs.length), w.cell? ⟨b, off + i, none⟩ = some (.int .i64 zs[i])
theorem ZAt.old {w w' : World} {b off : Nat} {zs : List Int} (h : ZAt w b off zs) (hb : b < w.heap.size) (hw : Below w.heap.size w w') : ZAt w' b off zs := fun i hi => (hw.cell (p := ⟨b, off + i, none⟩) hb).trans (h i hi)
/-- A slice's first elements are the numbers zs. -/
def RdZ (w : World) (a : Option Addr) (zs : List Int) : Prop := zs = [] ∨ ∃ b off, a = some ⟨b, off, none⟩ ∧ b < w.heap.size ∧ ZAt w b off zs
theorem RdZ.old {w w' : World} {a : Option Addr} {zs : List Int} (h : RdZ w a zs) (hb : Below w.heap.size w w') : RdZ w' a zs := by
  rcases h with rfl | ⟨b, off, rfl, hlt, hc⟩
  · exact .inl rfl
  · exact .inr ⟨b, off, rfl, Nat.lt_of_lt_of_le hlt hb.size, hc.old hlt hb⟩
theorem RdZ.at_ {w : World} {a : Option Addr} {zs : List Int} (h : RdZ w a zs) : ∃ b off, (0 < zs.length → a = some ⟨b, off, none⟩) ∧ (0 < zs.length → b < w.heap.size) ∧ ZAt w b off zs := by
  rcases h with rfl | ⟨b, off, rfl, hb, hc⟩
  · exact ⟨0, 0, fun h => by simp at h, fun h => by simp at h, fun i hi => by simp at hi⟩
  · exact ⟨b, off, fun _ => rfl, fun _ => hb, hc⟩
def SZ (w : World) (a : Option Addr) (n cap : Nat) (zs : List Int) : Prop := zs.length = n ∧ RdZ w a zs ∧ n ≤ cap ∧ cap ≤ maxLen
theorem SZ.old {w w' : World} {a : Option Addr} {n cap : Nat} {zs : List Int} (h : SZ w a n cap zs) (hb : Below w.heap.size w w') : SZ w' a n cap zs := ⟨h.1, h.2.1.old hb, h.2.2⟩
/-- A value is an edit. -/
def EV (w : World) (V : Value) (e : Ed) : Prop := ∃ aa an ac da dn dc, V = .agg #[.slice aa an ac, .slice da dn dc, .int .i64 e.2.2.1, .int .i64 e.2.2.2] ∧ ST w aa an ac e.1 ∧ SZ w da dn dc e.2.1 ∧ okT e.1
theorem EV.old {w w' : World} {V : Value} {e : Ed} (h : EV w V e) (hb : Below w.heap.size w w') : EV w' V e := by
  obtain ⟨aa, an, ac, da, dn, dc, h1, h2, h3, h4⟩ := h
  exact ⟨aa, an, ac, da, dn, dc, h1, h2.old hb, h3.old hb, h4⟩
theorem numb_any (n : Int) (b : Bool) (h : numB n 1 = b) (w : World) : Calls Try.prog 41 #[.int .i64 n] w fun x w' => x = .returned (.bool b) ∧ w' = w := by
  by_cases h1 : 1 ≤ n
  · by_cases h2 : n ≤ 1073741824
    · obtain rfl : b = true := by rw [← h]; unfold numB; simp [h1, h2]
      clear h
      go_enter Try.func41, Try.ntmps41
      go_wp2
      go_ret
      exact ⟨rfl, rfl⟩
    · obtain rfl : b = false := by rw [← h]; unfold numB; simp [h2]
      clear h
      go_enter Try.func41, Try.ntmps41
      go_wp2
      go_ret
      exact ⟨rfl, rfl⟩
  · obtain rfl : b = false := by rw [← h]; unfold numB; simp [h1]
    clear h
    go_enter Try.func41, Try.ntmps41
    go_wp2
    go_ret
    exact ⟨rfl, rfl⟩
theorem cntd_any (n : Int) (b : Bool) (h : numB n 0 = b) (w : World) : Calls Try.prog 39 #[.int .i64 n] w fun x w' => x = .returned (.bool b) ∧ w' = w := by
  by_cases h1 : 0 ≤ n
  · by_cases h2 : n ≤ 1073741824
    · obtain rfl : b = true := by rw [← h]; unfold numB; simp [h1, h2]
      clear h
      go_enter Try.func39, Try.ntmps39
      go_wp2
      go_ret
      exact ⟨rfl, rfl⟩
    · obtain rfl : b = false := by rw [← h]; unfold numB; simp [h2]
      clear h
      go_enter Try.func39, Try.ntmps39
      go_wp2
      go_ret
      exact ⟨rfl, rfl⟩
  · obtain rfl : b = false := by rw [← h]; unfold numB; simp [h1]
    clear h
    go_enter Try.func39, Try.ntmps39
    go_wp2
    go_ret
    exact ⟨rfl, rfl⟩
theorem rnum_any (n least : Int) (b : Bool) (h : numB n least = b) (w : World) : Calls Try.prog 52 #[.int .i64 n, .int .i64 least] w fun x w' => x = .returned (.bool b) ∧ w' = w := by
  by_cases h1 : least ≤ n
  · by_cases h2 : n ≤ 1073741824
    · obtain rfl : b = true := by rw [← h]; unfold numB; simp [h1, h2]
      clear h
      go_enter Try.func52, Try.ntmps52
      go_wp2
      go_ret
      exact ⟨rfl, rfl⟩
    · obtain rfl : b = false := by rw [← h]; unfold numB; simp [h2]
      clear h
      go_enter Try.func52, Try.ntmps52
      go_wp2
      go_ret
      exact ⟨rfl, rfl⟩
  · obtain rfl : b = false := by rw [← h]; unfold numB; simp [h1]
    clear h
    go_enter Try.func52, Try.ntmps52
    go_wp2
    go_ret
    exact ⟨rfl, rfl⟩
theorem box_bel (w : World) (o : Obj) : Below w.heap.size w (w.alloc o) := (Below.refl _ w).alloc (Nat.le_refl _) o
set_option maxHeartbeats 4000000 in
theorem mayt_any (i l : Int) (lo hi : ByteArray) (b : Bool) (h : mayT (i, l, lo, hi) = b) (h1 : okS lo) (h2 : okS hi) (w : World) :
    Calls Try.prog 40 #[.agg #[.int .i64 i, .int .i64 l, .string lo, .string hi]] w fun x w' => x = .returned (.bool b) ∧ Below w.heap.size w w' := by
  obtain ⟨n0, hn0⟩ : ∃ n0, numB i 1 = n0 := ⟨_, rfl⟩
  obtain ⟨k1, hk1⟩ : ∃ k, keyB lo = k := ⟨_, rfl⟩
  obtain ⟨k2, hk2⟩ : ∃ k, keyB hi = k := ⟨_, rfl⟩
  obtain ⟨l0, hl0⟩ : ∃ k, ltB hi lo = k := ⟨_, rfl⟩
  have hb : b = (n0 && (decide (0 ≤ l) && decide (l ≤ 2)) && k1 && k2 && !l0) := by rw [← h, ← hn0, ← hk1, ← hk2, ← hl0]; rfl
  have C1 := Lib.hid (numb_any i n0 hn0)
  have C2 := Lib.hid (key_eq lo k1 hk1 h1)
  have C3 := Lib.hid (key_eq hi k2 hk2 h2)
  have HB := Lib.hid (box_bel w (.cells #[.int .i64 i, .int .i64 l, .string lo, .string hi] 49))
  have H0 : Hid (l0 = true → Op.bytesLess lo.toList hi.toList = false ∧ (lo.toList == hi.toList) = false) := Lib.hid fun q => by
    rw [q] at hl0
    exact ⟨ltB_asymm hl0, str_ne (fun e => by rw [e, ltB_irr] at hl0; cases hl0)⟩
  have H00 : Hid (l0 = false → Op.bytesLess lo.toList hi.toList = true ∨ (Op.bytesLess lo.toList hi.toList = false ∧ (lo.toList == hi.toList) = true)) := Lib.hid fun q => by
    rw [q] at hl0
    cases e : ltB lo hi with
    | true => exact .inl e
    | false => exact .inr ⟨e, by rw [ltB_total e hl0]; simp⟩
  clear h h1 h2 hn0 hk1 hk2 hl0
  cases n0 with
  | false =>
    obtain rfl : b = false := by rw [hb]; simp
    clear hb
    go_enter Try.func40, Try.ntmps40
    go_wp2_with fail
    refine (C1.out _).mono ?_
    rintro e w1 ⟨rfl, rfl⟩
    go_wp2_with fail
    go_ret
    exact ⟨rfl, HB.out⟩
  | true =>
    by_cases hl1 : 0 ≤ l
    case neg =>
      have hl1' : l < 0 := by omega
      obtain rfl : b = false := by rw [hb]; simp [hl1]
      clear hb
      go_enter Try.func40, Try.ntmps40
      go_wp2_with fail
      refine (C1.out _).mono ?_
      rintro e w1 ⟨rfl, rfl⟩
      go_wp2_with fail
      go_ret
      exact ⟨rfl, HB.out⟩
    by_cases hl2 : l ≤ 2
    case neg =>
      have hl2' : 3 ≤ l := by omega
      have hl1' : ¬ l < 0 := by omega
      obtain rfl : b = false := by rw [hb]; simp [hl2]
      clear hb
      go_enter Try.func40, Try.ntmps40
      go_wp2_with fail
      refine (C1.out _).mono ?_
      rintro e w1 ⟨rfl, rfl⟩
      go_wp2_with fail
      go_ret
      exact ⟨rfl, HB.out⟩
    have hl2' : ¬ 3 ≤ l := by omega
    have hl1' : ¬ l < 0 := by omega
    obtain rfl : b = (k1 && k2 && !l0) := by rw [hb]; simp [hl1, hl2]
    clear hb
    cases k1 with
    | false =>
      go_enter Try.func40, Try.ntmps40
      go_wp2_with fail
      refine (C1.out _).mono ?_
      rintro e w1 ⟨rfl, rfl⟩
      go_wp2_with fail
      refine (C2.out _).mono ?_
      rintro e w1 ⟨rfl, rfl⟩
      go_wp2_with fail
      go_ret
      exact ⟨rfl, HB.out⟩
    | true =>
      cases k2 with
      | false =>
        go_enter Try.func40, Try.ntmps40
        go_wp2_with fail
        refine (C1.out _).mono ?_
        rintro e w1 ⟨rfl, rfl⟩
        go_wp2_with fail
        refine (C2.out _).mono ?_
        rintro e w1 ⟨rfl, rfl⟩
        go_wp2_with fail
        refine (C3.out _).mono ?_
        rintro e w1 ⟨rfl, rfl⟩
        go_wp2_with fail
        go_ret
        exact ⟨rfl, HB.out⟩
      | true =>
        have three : (l0 = true ∧ Op.bytesLess lo.toList hi.toList = false ∧ (lo.toList == hi.toList) = false) ∨ (l0 = false ∧ Op.bytesLess lo.toList hi.toList = true) ∨ (l0 = false ∧ Op.bytesLess lo.toList hi.toList = false ∧ (lo.toList == hi.toList) = true) := by
          cases l0 with
          | true => exact .inl ⟨rfl, H0.out rfl⟩
          | false => rcases H00.out rfl with q | q
                     · exact .inr (.inl ⟨rfl, q⟩)
                     · exact .inr (.inr ⟨rfl, q⟩)
        rcases three with ⟨rfl, q1, q2⟩ | ⟨rfl, q1⟩ | ⟨rfl, q1, q2⟩
        all_goals
          go_enter Try.func40, Try.ntmps40
          go_wp2_with fail
          refine (C1.out _).mono ?_
          rintro e w1 ⟨rfl, rfl⟩
          go_wp2_with fail
          refine (C2.out _).mono ?_
          rintro e w1 ⟨rfl, rfl⟩
          go_wp2_with fail
          refine (C3.out _).mono ?_
          rintro e w1 ⟨rfl, rfl⟩
          go_wp2_with fail
          go_ret
          exact ⟨rfl, HB.out⟩
set_option maxHeartbeats 4000000 in
theorem rtab_any (i l : Int) (lo hi : ByteArray) (b : Bool) (h : mayT (i, l, lo, hi) = b) (h1 : okS lo) (h2 : okS hi) (w : World) :
    Calls Try.prog 51 #[.agg #[.int .i64 i, .int .i64 l, .string lo, .string hi]] w fun x w' => x = .returned (.bool b) ∧ Below w.heap.size w w' := by
  obtain ⟨n0, hn0⟩ : ∃ n0, numB i 1 = n0 := ⟨_, rfl⟩
  obtain ⟨k1, hk1⟩ : ∃ k, keyB lo = k := ⟨_, rfl⟩
  obtain ⟨k2, hk2⟩ : ∃ k, keyB hi = k := ⟨_, rfl⟩
  obtain ⟨l0, hl0⟩ : ∃ k, ltB hi lo = k := ⟨_, rfl⟩
  have hb : b = (n0 && (decide (0 ≤ l) && decide (l ≤ 2)) && k1 && k2 && !l0) := by rw [← h, ← hn0, ← hk1, ← hk2, ← hl0]; rfl
  have C1 := Lib.hid (rnum_any i 1 n0 hn0)
  have C2 := Lib.hid (rkey_eq lo k1 hk1 h1)
  have C3 := Lib.hid (rkey_eq hi k2 hk2 h2)
  have HB := Lib.hid (box_bel w (.cells #[.int .i64 i, .int .i64 l, .string lo, .string hi] 49))
  have H0 : Hid (l0 = true → Op.bytesLess lo.toList hi.toList = false ∧ (lo.toList == hi.toList) = false) := Lib.hid fun q => by
    rw [q] at hl0
    exact ⟨ltB_asymm hl0, str_ne (fun e => by rw [e, ltB_irr] at hl0; cases hl0)⟩
  have H00 : Hid (l0 = false → Op.bytesLess lo.toList hi.toList = true ∨ (Op.bytesLess lo.toList hi.toList = false ∧ (lo.toList == hi.toList) = true)) := Lib.hid fun q => by
    rw [q] at hl0
    cases e : ltB lo hi with
    | true => exact .inl e
    | false => exact .inr ⟨e, by rw [ltB_total e hl0]; simp⟩
  clear h h1 h2 hn0 hk1 hk2 hl0
  cases n0 with
  | false =>
    obtain rfl : b = false := by rw [hb]; simp
    clear hb
    go_enter Try.func51, Try.ntmps51
    go_wp2_with fail
    refine (C1.out _).mono ?_
    rintro e w1 ⟨rfl, rfl⟩
    go_wp2_with fail
    go_ret
    exact ⟨rfl, HB.out⟩
  | true =>
    by_cases hl1 : 0 ≤ l
    case neg =>
      have hl1' : l < 0 := by omega
      obtain rfl : b = false := by rw [hb]; simp [hl1]
      clear hb
      go_enter Try.func51, Try.ntmps51
      go_wp2_with fail
      refine (C1.out _).mono ?_
      rintro e w1 ⟨rfl, rfl⟩
      go_wp2_with fail
      go_ret
      exact ⟨rfl, HB.out⟩
    by_cases hl2 : l ≤ 2
    case neg =>
      have hl2' : 3 ≤ l := by omega
      have hl1' : ¬ l < 0 := by omega
      obtain rfl : b = false := by rw [hb]; simp [hl2]
      clear hb
      go_enter Try.func51, Try.ntmps51
      go_wp2_with fail
      refine (C1.out _).mono ?_
      rintro e w1 ⟨rfl, rfl⟩
      go_wp2_with fail
      go_ret
      exact ⟨rfl, HB.out⟩
    have hl2' : ¬ 3 ≤ l := by omega
    have hl1' : ¬ l < 0 := by omega
    obtain rfl : b = (k1 && k2 && !l0) := by rw [hb]; simp [hl1, hl2]
    clear hb
    cases k1 with
    | false =>
      go_enter Try.func51, Try.ntmps51
      go_wp2_with fail
      refine (C1.out _).mono ?_
      rintro e w1 ⟨rfl, rfl⟩
      go_wp2_with fail
      refine (C2.out _).mono ?_
      rintro e w1 ⟨rfl, rfl⟩
      go_wp2_with fail
      go_ret
      exact ⟨rfl, HB.out⟩
    | true =>
      cases k2 with
      | false =>
        go_enter Try.func51, Try.ntmps51
        go_wp2_with fail
        refine (C1.out _).mono ?_
        rintro e w1 ⟨rfl, rfl⟩
        go_wp2_with fail
        refine (C2.out _).mono ?_
        rintro e w1 ⟨rfl, rfl⟩
        go_wp2_with fail
        refine (C3.out _).mono ?_
        rintro e w1 ⟨rfl, rfl⟩
        go_wp2_with fail
        go_ret
        exact ⟨rfl, HB.out⟩
      | true =>
        have three : (l0 = true ∧ Op.bytesLess lo.toList hi.toList = false ∧ (lo.toList == hi.toList) = false) ∨ (l0 = false ∧ Op.bytesLess lo.toList hi.toList = true) ∨ (l0 = false ∧ Op.bytesLess lo.toList hi.toList = false ∧ (lo.toList == hi.toList) = true) := by
          cases l0 with
          | true => exact .inl ⟨rfl, H0.out rfl⟩
          | false => rcases H00.out rfl with q | q
                     · exact .inr (.inl ⟨rfl, q⟩)
                     · exact .inr (.inr ⟨rfl, q⟩)
        rcases three with ⟨rfl, q1, q2⟩ | ⟨rfl, q1⟩ | ⟨rfl, q1, q2⟩
        all_goals
          go_enter Try.func51, Try.ntmps51
          go_wp2_with fail
          refine (C1.out _).mono ?_
          rintro e w1 ⟨rfl, rfl⟩
          go_wp2_with fail
          refine (C2.out _).mono ?_
          rintro e w1 ⟨rfl, rfl⟩
          go_wp2_with fail
          refine (C3.out _).mono ?_
          rintro e w1 ⟨rfl, rfl⟩
          go_wp2_with fail
          go_ret
          exact ⟨rfl, HB.out⟩
end Go.Proofs.Ythmkalnbdocdcaa
