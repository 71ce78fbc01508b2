/-
  Texts of mine as one, in the order in which they build: Ye, Yf, Yc, Yg. Conditions: as each says.
-/
import Derived.Test.YtkpemlgolpihiaaRA
import Derived.Test.YtkpemlgolpihiaaVq
import Derived.Test.YtkpemlgolpihiaaKb
import Derived.Test.YtkpemlgolpihiaaVx
namespace Go.Proofs.Ytkpemlgolpihiaa
set_option maxRecDepth 100000
open Go.RowKit
set_option linter.unusedVariables false
set_option linter.unusedSimpArgs false

def iv (zs : List Int) : List Value := zs.map fun z => .int .i64 z
def ZAt (w : World) (b off : Nat) (zs : List Int) : Prop := ∀ i (h : i < zs.length), w.cell? ⟨b, off + i, none⟩ = some (.int .i64 zs[i])
theorem ZAt.old {w w' : World} {b off : Nat} {zs : List Int} (h : ZAt w b off zs) (hb : b < w.heap.size) (hw : Below w.heap.size w w') : ZAt w' b off zs := fun i hi => (hw.cell (p := ⟨b, off + i, none⟩) hb).trans (h i hi)
/-- A slice's first elements are the numbers zs. -/
def RdZ (w : World) (a : Option Addr) (zs : List Int) : Prop := zs = [] ∨ ∃ b off, a = some ⟨b, off, none⟩ ∧ b < w.heap.size ∧ ZAt w b off zs
theorem RdZ.old {w w' : World} {a : Option Addr} {zs : List Int} (h : RdZ w a zs) (hb : Below w.heap.size w w') : RdZ w' a zs := by
  rcases h with rfl | ⟨b, off, rfl, hlt, hc⟩
  · exact .inl rfl
  · exact .inr ⟨b, off, rfl, Nat.lt_of_lt_of_le hlt hb.size, hc.old hlt hb⟩
theorem RdZ.at_ {w : World} {a : Option Addr} {zs : List Int} (h : RdZ w a zs) : ∃ b off, (0 < zs.length → a = some ⟨b, off, none⟩) ∧ (0 < zs.length → b < w.heap.size) ∧ ZAt w b off zs := by
  rcases h with rfl | ⟨b, off, rfl, hb, hc⟩
  · exact ⟨0, 0, fun h => by simp at h, fun h => by simp at h, fun i hi => by simp at hi⟩
  · exact ⟨b, off, fun _ => rfl, fun _ => hb, hc⟩
def SZ (w : World) (a : Option Addr) (n cap : Nat) (zs : List Int) : Prop := zs.length = n ∧ RdZ w a zs ∧ n ≤ cap ∧ cap ≤ maxLen
theorem SZ.old {w w' : World} {a : Option Addr} {n cap : Nat} {zs : List Int} (h : SZ w a n cap zs) (hb : Below w.heap.size w w') : SZ w' a n cap zs := ⟨h.1, h.2.1.old hb, h.2.2⟩
/-- A value is an edit. -/
def EV (w : World) (V : Value) (e : Ed) : Prop := ∃ aa an ac da dn dc, V = .agg #[.slice aa an ac, .slice da dn dc, .int .i64 e.2.2.1, .int .i64 e.2.2.2] ∧ ST w aa an ac e.1 ∧ SZ w da dn dc e.2.1 ∧ okT e.1
theorem EV.old {w w' : World} {V : Value} {e : Ed} (h : EV w V e) (hb : Below w.heap.size w w') : EV w' V e := by
  obtain ⟨aa, an, ac, da, dn, dc, h1, h2, h3, h4⟩ := h
  exact ⟨aa, an, ac, da, dn, dc, h1, h2.old hb, h3.old hb, h4⟩
theorem numb_any (n : Int) (b : Bool) (h : numB n 1 = b) (w : World) : Calls Try.prog 41 #[.int .i64 n] w fun x w' => x = .returned (.bool b) ∧ w' = w := by
  by_cases h1 : 1 ≤ n
  · by_cases h2 : n ≤ 1073741824
    · obtain rfl : b = true := by rw [← h]; unfold numB; simp [h1, h2]
      clear h
      go_enter Try.func41, Try.ntmps41
      go_wp2
      go_ret
      exact ⟨rfl, rfl⟩
    · obtain rfl : b = false := by rw [← h]; unfold numB; simp [h2]
      clear h
      go_enter Try.func41, Try.ntmps41
      go_wp2
      go_ret
      exact ⟨rfl, rfl⟩
  · obtain rfl : b = false := by rw [← h]; unfold numB; simp [h1]
    clear h
    go_enter Try.func41, Try.ntmps41
    go_wp2
    go_ret
    exact ⟨rfl, rfl⟩
theorem cntd_any (n : Int) (b : Bool) (h : numB n 0 = b) (w : World) : Calls Try.prog 39 #[.int .i64 n] w fun x w' => x = .returned (.bool b) ∧ w' = w := by
  by_cases h1 : 0 ≤ n
  · by_cases h2 : n ≤ 1073741824
    · obtain rfl : b = true := by rw [← h]; unfold numB; simp [h1, h2]
      clear h
      go_enter Try.func39, Try.ntmps39
      go_wp2
      go_ret
      exact ⟨rfl, rfl⟩
    · obtain rfl : b = false := by rw [← h]; unfold numB; simp [h2]
      clear h
      go_enter Try.func39, Try.ntmps39
      go_wp2
      go_ret
      exact ⟨rfl, rfl⟩
  · obtain rfl : b = false := by rw [← h]; unfold numB; simp [h1]
    clear h
    go_enter Try.func39, Try.ntmps39
    go_wp2
    go_ret
    exact ⟨rfl, rfl⟩
theorem rnum_any (n least : Int) (b : Bool) (h : numB n least = b) (w : World) : Calls Try.prog 52 #[.int .i64 n, .int .i64 least] w fun x w' => x = .returned (.bool b) ∧ w' = w := by
  by_cases h1 : least ≤ n
  · by_cases h2 : n ≤ 1073741824
    · obtain rfl : b = true := by rw [← h]; unfold numB; simp [h1, h2]
      clear h
      go_enter Try.func52, Try.ntmps52
      go_wp2
      go_ret
      exact ⟨rfl, rfl⟩
    · obtain rfl : b = false := by rw [← h]; unfold numB; simp [h2]
      clear h
      go_enter Try.func52, Try.ntmps52
      go_wp2
      go_ret
      exact ⟨rfl, rfl⟩
  · obtain rfl : b = false := by rw [← h]; unfold numB; simp [h1]
    clear h
    go_enter Try.func52, Try.ntmps52
    go_wp2
    go_ret
    exact ⟨rfl, rfl⟩
theorem box_bel (w : World) (o : Obj) : Below w.heap.size w (w.alloc o) := (Below.refl _ w).alloc (Nat.le_refl _) o
set_option maxHeartbeats 4000000 in
theorem mayt_any (i l : Int) (lo hi : ByteArray) (b : Bool) (h : mayT (i, l, lo, hi) = b) (h1 : okS lo) (h2 : okS hi) (w : World) :
    Calls Try.prog 40 #[.agg #[.int .i64 i, .int .i64 l, .string lo, .string hi]] w fun x w' => x = .returned (.bool b) ∧ Below w.heap.size w w' := by
  obtain ⟨n0, hn0⟩ : ∃ n0, numB i 1 = n0 := ⟨_, rfl⟩
  obtain ⟨k1, hk1⟩ : ∃ k, keyB lo = k := ⟨_, rfl⟩
  obtain ⟨k2, hk2⟩ : ∃ k, keyB hi = k := ⟨_, rfl⟩
  obtain ⟨l0, hl0⟩ : ∃ k, ltB hi lo = k := ⟨_, rfl⟩
  have hb : b = (n0 && (decide (0 ≤ l) && decide (l ≤ 2)) && k1 && k2 && !l0) := by rw [← h, ← hn0, ← hk1, ← hk2, ← hl0]; rfl
  have C1 := Lib.hid (numb_any i n0 hn0)
  have C2 := Lib.hid (key_eq lo k1 hk1 h1)
  have C3 := Lib.hid (key_eq hi k2 hk2 h2)
  have HB := Lib.hid (box_bel w (.cells #[.int .i64 i, .int .i64 l, .string lo, .string hi] 49))
  have H0 : Hid (l0 = true → Op.bytesLess lo.toList hi.toList = false ∧ (lo.toList == hi.toList) = false) := Lib.hid fun q => by
    rw [q] at hl0
    exact ⟨ltB_asymm hl0, str_ne (fun e => by rw [e, ltB_irr] at hl0; cases hl0)⟩
  have H00 : Hid (l0 = false → Op.bytesLess lo.toList hi.toList = true ∨ (Op.bytesLess lo.toList hi.toList = false ∧ (lo.toList == hi.toList) = true)) := Lib.hid fun q => by
    rw [q] at hl0
    cases e : ltB lo hi with
    | true => exact .inl e
    | false => exact .inr ⟨e, by rw [ltB_total e hl0]; simp⟩
  clear h h1 h2 hn0 hk1 hk2 hl0
  cases n0 with
  | false =>
    obtain rfl : b = false := by rw [hb]; simp
    clear hb
    go_enter Try.func40, Try.ntmps40
    go_wp2_with fail
    refine (C1.out _).mono ?_
    rintro e w1 ⟨rfl, rfl⟩
    go_wp2_with fail
    go_ret
    exact ⟨rfl, HB.out⟩
  | true =>
    by_cases hl1 : 0 ≤ l
    case neg =>
      have hl1' : l < 0 := by omega
      obtain rfl : b = false := by rw [hb]; simp [hl1]
      clear hb
      go_enter Try.func40, Try.ntmps40
      go_wp2_with fail
      refine (C1.out _).mono ?_
      rintro e w1 ⟨rfl, rfl⟩
      go_wp2_with fail
      go_ret
      exact ⟨rfl, HB.out⟩
    by_cases hl2 : l ≤ 2
    case neg =>
      have hl2' : 3 ≤ l := by omega
      have hl1' : ¬ l < 0 := by omega
      obtain rfl : b = false := by rw [hb]; simp [hl2]
      clear hb
      go_enter Try.func40, Try.ntmps40
      go_wp2_with fail
      refine (C1.out _).mono ?_
      rintro e w1 ⟨rfl, rfl⟩
      go_wp2_with fail
      go_ret
      exact ⟨rfl, HB.out⟩
    have hl2' : ¬ 3 ≤ l := by omega
    have hl1' : ¬ l < 0 := by omega
    obtain rfl : b = (k1 && k2 && !l0) := by rw [hb]; simp [hl1, hl2]
    clear hb
    cases k1 with
    | false =>
      go_enter Try.func40, Try.ntmps40
      go_wp2_with fail
      refine (C1.out _).mono ?_
      rintro e w1 ⟨rfl, rfl⟩
      go_wp2_with fail
      refine (C2.out _).mono ?_
      rintro e w1 ⟨rfl, rfl⟩
      go_wp2_with fail
      go_ret
      exact ⟨rfl, HB.out⟩
    | true =>
      cases k2 with
      | false =>
        go_enter Try.func40, Try.ntmps40
        go_wp2_with fail
        refine (C1.out _).mono ?_
        rintro e w1 ⟨rfl, rfl⟩
        go_wp2_with fail
        refine (C2.out _).mono ?_
        rintro e w1 ⟨rfl, rfl⟩
        go_wp2_with fail
        refine (C3.out _).mono ?_
        rintro e w1 ⟨rfl, rfl⟩
        go_wp2_with fail
        go_ret
        exact ⟨rfl, HB.out⟩
      | true =>
        have three : (l0 = true ∧ Op.bytesLess lo.toList hi.toList = false ∧ (lo.toList == hi.toList) = false) ∨ (l0 = false ∧ Op.bytesLess lo.toList hi.toList = true) ∨ (l0 = false ∧ Op.bytesLess lo.toList hi.toList = false ∧ (lo.toList == hi.toList) = true) := by
          cases l0 with
          | true => exact .inl ⟨rfl, H0.out rfl⟩
          | false => rcases H00.out rfl with q | q
                     · exact .inr (.inl ⟨rfl, q⟩)
                     · exact .inr (.inr ⟨rfl, q⟩)
        rcases three with ⟨rfl, q1, q2⟩ | ⟨rfl, q1⟩ | ⟨rfl, q1, q2⟩
        all_goals
          go_enter Try.func40, Try.ntmps40
          go_wp2_with fail
          refine (C1.out _).mono ?_
          rintro e w1 ⟨rfl, rfl⟩
          go_wp2_with fail
          refine (C2.out _).mono ?_
          rintro e w1 ⟨rfl, rfl⟩
          go_wp2_with fail
          refine (C3.out _).mono ?_
          rintro e w1 ⟨rfl, rfl⟩
          go_wp2_with fail
          go_ret
          exact ⟨rfl, HB.out⟩
set_option maxHeartbeats 4000000 in
theorem rtab_any (i l : Int) (lo hi : ByteArray) (b : Bool) (h : mayT (i, l, lo, hi) = b) (h1 : okS lo) (h2 : okS hi) (w : World) :
    Calls Try.prog 51 #[.agg #[.int .i64 i, .int .i64 l, .string lo, .string hi]] w fun x w' => x = .returned (.bool b) ∧ Below w.heap.size w w' := by
  obtain ⟨n0, hn0⟩ : ∃ n0, numB i 1 = n0 := ⟨_, rfl⟩
  obtain ⟨k1, hk1⟩ : ∃ k, keyB lo = k := ⟨_, rfl⟩
  obtain ⟨k2, hk2⟩ : ∃ k, keyB hi = k := ⟨_, rfl⟩
  obtain ⟨l0, hl0⟩ : ∃ k, ltB hi lo = k := ⟨_, rfl⟩
  have hb : b = (n0 && (decide (0 ≤ l) && decide (l ≤ 2)) && k1 && k2 && !l0) := by rw [← h, ← hn0, ← hk1, ← hk2, ← hl0]; rfl
  have C1 := Lib.hid (rnum_any i 1 n0 hn0)
  have C2 := Lib.hid (rkey_eq lo k1 hk1 h1)
  have C3 := Lib.hid (rkey_eq hi k2 hk2 h2)
  have HB := Lib.hid (box_bel w (.cells #[.int .i64 i, .int .i64 l, .string lo, .string hi] 49))
  have H0 : Hid (l0 = true → Op.bytesLess lo.toList hi.toList = false ∧ (lo.toList == hi.toList) = false) := Lib.hid fun q => by
    rw [q] at hl0
    exact ⟨ltB_asymm hl0, str_ne (fun e => by rw [e, ltB_irr] at hl0; cases hl0)⟩
  have H00 : Hid (l0 = false → Op.bytesLess lo.toList hi.toList = true ∨ (Op.bytesLess lo.toList hi.toList = false ∧ (lo.toList == hi.toList) = true)) := Lib.hid fun q => by
    rw [q] at hl0
    cases e : ltB lo hi with
    | true => exact .inl e
    | false => exact .inr ⟨e, by rw [ltB_total e hl0]; simp⟩
  clear h h1 h2 hn0 hk1 hk2 hl0
  cases n0 with
  | false =>
    obtain rfl : b = false := by rw [hb]; simp
    clear hb
    go_enter Try.func51, Try.ntmps51
    go_wp2_with fail
    refine (C1.out _).mono ?_
    rintro e w1 ⟨rfl, rfl⟩
    go_wp2_with fail
    go_ret
    exact ⟨rfl, HB.out⟩
  | true =>
    by_cases hl1 : 0 ≤ l
    case neg =>
      have hl1' : l < 0 := by omega
      obtain rfl : b = false := by rw [hb]; simp [hl1]
      clear hb
      go_enter Try.func51, Try.ntmps51
      go_wp2_with fail
      refine (C1.out _).mono ?_
      rintro e w1 ⟨rfl, rfl⟩
      go_wp2_with fail
      go_ret
      exact ⟨rfl, HB.out⟩
    by_cases hl2 : l ≤ 2
    case neg =>
      have hl2' : 3 ≤ l := by omega
      have hl1' : ¬ l < 0 := by omega
      obtain rfl : b = false := by rw [hb]; simp [hl2]
      clear hb
      go_enter Try.func51, Try.ntmps51
      go_wp2_with fail
      refine (C1.out _).mono ?_
      rintro e w1 ⟨rfl, rfl⟩
      go_wp2_with fail
      go_ret
      exact ⟨rfl, HB.out⟩
    have hl2' : ¬ 3 ≤ l := by omega
    have hl1' : ¬ l < 0 := by omega
    obtain rfl : b = (k1 && k2 && !l0) := by rw [hb]; simp [hl1, hl2]
    clear hb
    cases k1 with
    | false =>
      go_enter Try.func51, Try.ntmps51
      go_wp2_with fail
      refine (C1.out _).mono ?_
      rintro e w1 ⟨rfl, rfl⟩
      go_wp2_with fail
      refine (C2.out _).mono ?_
      rintro e w1 ⟨rfl, rfl⟩
      go_wp2_with fail
      go_ret
      exact ⟨rfl, HB.out⟩
    | true =>
      cases k2 with
      | false =>
        go_enter Try.func51, Try.ntmps51
        go_wp2_with fail
        refine (C1.out _).mono ?_
        rintro e w1 ⟨rfl, rfl⟩
        go_wp2_with fail
        refine (C2.out _).mono ?_
        rintro e w1 ⟨rfl, rfl⟩
        go_wp2_with fail
        refine (C3.out _).mono ?_
        rintro e w1 ⟨rfl, rfl⟩
        go_wp2_with fail
        go_ret
        exact ⟨rfl, HB.out⟩
      | true =>
        have three : (l0 = true ∧ Op.bytesLess lo.toList hi.toList = false ∧ (lo.toList == hi.toList) = false) ∨ (l0 = false ∧ Op.bytesLess lo.toList hi.toList = true) ∨ (l0 = false ∧ Op.bytesLess lo.toList hi.toList = false ∧ (lo.toList == hi.toList) = true) := by
          cases l0 with
          | true => exact .inl ⟨rfl, H0.out rfl⟩
          | false => rcases H00.out rfl with q | q
                     · exact .inr (.inl ⟨rfl, q⟩)
                     · exact .inr (.inr ⟨rfl, q⟩)
        rcases three with ⟨rfl, q1, q2⟩ | ⟨rfl, q1⟩ | ⟨rfl, q1, q2⟩
        all_goals
          go_enter Try.func51, Try.ntmps51
          go_wp2_with fail
          refine (C1.out _).mono ?_
          rintro e w1 ⟨rfl, rfl⟩
          go_wp2_with fail
          refine (C2.out _).mono ?_
          rintro e w1 ⟨rfl, rfl⟩
          go_wp2_with fail
          refine (C3.out _).mono ?_
          rintro e w1 ⟨rfl, rfl⟩
          go_wp2_with fail
          go_ret
          exact ⟨rfl, HB.out⟩
end Go.Proofs.Ytkpemlgolpihiaa
namespace Go.Proofs.Ytkpemlgolpihiaa
set_option maxRecDepth 100000
open Go.RowKit
set_option linter.unusedVariables false
set_option linter.unusedSimpArgs false

/-- The box of an edit. -/
def EdBox (w : World) (x : Nat) (A D : Value) (lg nx : Int) : Prop := w.cell? ⟨x, 0, none⟩ = some A ∧ w.cell? ⟨x, 1, none⟩ = some D ∧ w.cell? ⟨x, 2, none⟩ = some (.int .i64 lg) ∧ w.cell? ⟨x, 3, none⟩ = some (.int .i64 nx) ∧ x < w.heap.size
theorem EdBox.below {w w' : World} {x : Nat} {A D : Value} {lg nx : Int} (h : EdBox w x A D lg nx) (hb : Below w.heap.size w w') : EdBox w' x A D lg nx :=
  ⟨(hb.cell (p := ⟨x, 0, none⟩) h.2.2.2.2).trans h.1, (hb.cell (p := ⟨x, 1, none⟩) h.2.2.2.2).trans h.2.1, (hb.cell (p := ⟨x, 2, none⟩) h.2.2.2.2).trans h.2.2.1, (hb.cell (p := ⟨x, 3, none⟩) h.2.2.2.2).trans h.2.2.2.1, Nat.lt_of_lt_of_le h.2.2.2.2 hb.size⟩
theorem EdBox.new (w : World) (T : TypeId) (A D : Value) (lg nx : Int) : EdBox (w.alloc (.cells #[A, D, .int .i64 lg, .int .i64 nx] T)) w.heap.size A D lg nx :=
  ⟨by simp, by simp, by simp, by simp, by simp⟩
def edN (e : Ed) : Int := if mayEd e = true then 0 else 1
theorem edN_no {e : Ed} (h : ¬ mayEd e = true) : edN e = 1 := by unfold edN; rw [if_neg h]
theorem edN_yes {e : Ed} (h : mayEd e = true) : edN e = 0 := by unfold edN; rw [if_pos h]
set_option maxHeartbeats 8000000 in
theorem chk12_any (V : Value) (e : Ed) (w : World) (h : EV w V e) : Calls Try.prog 16 #[V] w fun x w' => x = .returned (.int .i64 (edN e)) ∧ Below w.heap.size w w' := by
  obtain ⟨aa, an, ac, da, dn, dc, rfl, hst, hsz, hok⟩ := h
  obtain ⟨ts, zs, lg, nx⟩ := e
  obtain ⟨b, off, ha, hb, hc⟩ := hst.2.1.at_
  obtain ⟨b2, off2, ha2, hb2, hc2⟩ := hsz.2.1.at_
  simp only at *
  have hl := hst.1
  have hl2 := hsz.1
  rw [hl] at ha hb
  rw [hl2] at ha2 hb2
  obtain ⟨r, hr⟩ : ∃ r, edN (ts, zs, lg, nx) = r := ⟨_, rfl⟩
  rw [hr]
  obtain ⟨c1, hc1⟩ : ∃ c, numB lg 0 = c := ⟨_, rfl⟩
  obtain ⟨c2, hc2'⟩ : ∃ c, numB nx 0 = c := ⟨_, rfl⟩
  have D1 := Lib.hid (cntd_any lg c1 hc1)
  have D2 := Lib.hid (cntd_any nx c2 hc2')
  have HNO : Hid (¬ (an ≤ 128 ∧ dn ≤ 128 ∧ c1 = true ∧ c2 = true ∧ (∀ t ∈ ts, mayT t = true) ∧ (∀ x ∈ zs, numB x 1 = true)) → r = 1) := Lib.hid fun h => by
    rw [← hr]
    refine edN_no fun hm => h ?_
    obtain ⟨m1, m2, m3, m4, m5, m6⟩ := mayEd_iff.1 hm
    exact ⟨by rw [← hl]; exact m1, by rw [← hl2]; exact m2, by rw [← hc1]; exact numB_iff.2 m5, by rw [← hc2']; exact numB_iff.2 m6, m3, fun x hx => numB_iff.2 (m4 x hx)⟩
  have HYES : Hid ((an ≤ 128 ∧ dn ≤ 128 ∧ c1 = true ∧ c2 = true ∧ (∀ t ∈ ts, mayT t = true) ∧ (∀ x ∈ zs, numB x 1 = true)) → r = 0) := Lib.hid fun h => by
    obtain ⟨m1, m2, m3, m4, m5, m6⟩ := h
    rw [← hr]
    exact edN_yes (mayEd_iff.2 ⟨by show ts.length ≤ 128; omega, by show zs.length ≤ 128; omega, m5, fun x hx => numB_iff.1 (m6 x hx), numB_iff.1 (by rw [hc1]; exact m3), numB_iff.1 (by rw [hc2']; exact m4)⟩)
  have HC := Lib.hid hc
  have HC2 := Lib.hid hc2
  have HL := Lib.hid hl
  have HL2 := Lib.hid hl2
  have HOK := Lib.hid hok
  have HB0 := Lib.hid (box_bel w (.cells #[.slice aa an ac, .slice da dn dc, .int .i64 lg, .int .i64 nx] 25))
  clear hr hc1 hc2' hc hc2 hl hl2 hok hst hsz
  by_cases h1 : an ≤ 128
  case neg =>
    have h1z : (128 : Int) < (an : Int) := by omega
    obtain rfl := HNO.out (fun q => h1 q.1)
    go_enter Try.func16, Try.ntmps16
    go_wp2_with fail
    go_ret
    exact ⟨rfl, HB0.out⟩
  have h1z : ¬ (128 : Int) < (an : Int) := by omega
  by_cases h2 : dn ≤ 128
  case neg =>
    have h2z : (128 : Int) < (dn : Int) := by omega
    obtain rfl := HNO.out (fun q => h2 q.2.1)
    go_enter Try.func16, Try.ntmps16
    go_wp2_with fail
    go_ret
    exact ⟨rfl, HB0.out⟩
  have h2z : ¬ (128 : Int) < (dn : Int) := by omega
  cases c1 with
  | false =>
    obtain rfl := HNO.out (fun q => by have := q.2.2.1; cases this)
    go_enter Try.func16, Try.ntmps16
    go_wp2_with fail
    refine (D1.out _).mono ?_
    rintro e w1 ⟨rfl, rfl⟩
    go_wp2_with fail
    go_ret
    exact ⟨rfl, HB0.out⟩
  | true =>
  cases c2 with
  | false =>
    obtain rfl := HNO.out (fun q => by have := q.2.2.2.1; cases this)
    go_enter Try.func16, Try.ntmps16
    go_wp2_with fail
    refine (D1.out _).mono ?_
    rintro e w1 ⟨rfl, rfl⟩
    go_wp2_with fail
    refine (D2.out _).mono ?_
    rintro e w1 ⟨rfl, rfl⟩
    go_wp2_with fail
    go_ret
    exact ⟨rfl, HB0.out⟩
  | true =>
  have bx := EdBox.new w 25 (.slice aa an ac) (.slice da dn dc) lg nx
  go_enter Try.func16, Try.ntmps16
  go_wp2_with fail
  refine (D1.out _).mono ?_
  rintro e w1 ⟨rfl, rfl⟩
  go_wp2_with fail
  refine (D2.out _).mono ?_
  rintro e w1 ⟨rfl, rfl⟩
  go_wp2_with fail
  obtain ⟨wb, hwb⟩ : ∃ wb, wb = w.alloc (.cells #[.slice aa an ac, .slice da dn dc, .int .i64 lg, .int .i64 nx] 25) := ⟨_, rfl⟩
  rw [← hwb] at HB0 bx ⊢
  obtain ⟨xb, hxb⟩ : ∃ xb, xb = w.heap.size := ⟨_, rfl⟩
  rw [← hxb] at bx ⊢
  have BX := Lib.hid bx
  have HXB := Lib.hid hxb
  clear bx hwb hxb D1 D2
  go_loopw [4, 32] (fun _ i wr => ∃ k : Nat, i = .int .i64 k ∧ k ≤ an ∧ Hid (∀ j (h : j < ts.length), j < k → mayT ts[j] = true) ∧ Hid (Below wb.heap.size wb wr)) (fun _ i _ => an - (intOf i).toNat)
  case atStart => exact ⟨0, rfl, by omega, Lib.hid (fun j h hj => by omega), Lib.hid (Below.refl _ _)⟩
  case round =>
    obtain ⟨k, rfl, hk, HK, HW⟩ := hrel
    have HWW := Lib.hid (HB0.out.trans (HW.out.mono HB0.out.size))
    by_cases hlt : k < an
    · have hki : (k : Int) < (an : Int) := by omega
      obtain rfl := ha (by omega)
      have hbw := hb (by omega)
      have hkl : k < ts.length := by rw [HL.out]; exact hlt
      obtain ⟨g0, g1, g2, g3⟩ := HC.out.old hbw HWW.out k hkl
      have hbr : b < wr.heap.size := Nat.lt_of_lt_of_le hbw HWW.out.size
      have hin := List.getElem_mem hkl
      have hokt := HOK.out _ hin
      obtain ⟨E, hE⟩ : ∃ E, E = ts[k] := ⟨_, rfl⟩
      rw [← hE] at g0 g1 g2 g3 hin hokt
      obtain ⟨m, hm⟩ : ∃ m, mayT E = m := ⟨_, rfl⟩
      obtain ⟨x1, x2, x3, x4⟩ := E
      have CM := Lib.hid (mayt_any x1 x2 x3 x4 m hm hokt.1 hokt.2)
      cases m with
      | false =>
        obtain rfl := HNO.out (fun q => by have := q.2.2.2.2.1 _ hin; rw [hm] at this; cases this)
        clear hE hin hm hokt
        go_wp2_with fail
        refine (CM.out _).mono ?_
        rintro e w2 ⟨rfl, b2⟩
        have HB2 := Lib.hid (HWW.out.trans ((below_box b2).mono HWW.out.size))
        clear b2
        go_wp2_with fail
        go_ret
        exact ⟨rfl, HB2.out⟩
      | true =>
        have HN : Hid (∀ j (h : j < ts.length), j < k + 1 → mayT ts[j] = true) := Lib.hid fun j h hj => by
          by_cases e : j = k
          · subst e; rw [← hE]; exact hm
          · exact HK.out j h (by omega)
        clear hE hin hm hokt
        go_wp2_with fail
        refine (CM.out _).mono ?_
        rintro e w2 ⟨rfl, b2⟩
        have HB2 := Lib.hid (HW.out.trans ((below_box b2).mono HW.out.size))
        clear b2
        go_wp2_with fail
        go_roundw
        case rel => exact ⟨k + 1, by go_num, by omega, HN, HB2⟩
        case measure => simp [intOf]; omega
    · obtain rfl : k = an := by omega
      have HALL : Hid (∀ t ∈ ts, mayT t = true) := Lib.hid fun t ht => by
        obtain ⟨j, hj, rfl⟩ := List.getElem_of_mem ht
        exact HK.out j hj (by have := HL.out; omega)
      have HWB := HW
      obtain ⟨y0, y1, y2, y3, y4⟩ := BX.out.below HW.out
      clear HK HW
      go_wp2_with fail
      rename World => wo
      go_loopw [6, 43] (fun _ i wr => ∃ k : Nat, i = .int .i64 k ∧ k ≤ dn ∧ wr = wo ∧ Hid (∀ j (h : j < zs.length), j < k → numB zs[j] 1 = true)) (fun _ i _ => dn - (intOf i).toNat)
      case atStart => exact ⟨0, rfl, by omega, by first | rfl | trivial, Lib.hid (fun j h hj => by omega)⟩
      case round =>
        obtain ⟨k, rfl, hk2, rfl, HK⟩ := hrel
        by_cases hlt2 : k < dn
        · have hki : (k : Int) < (dn : Int) := by omega
          obtain rfl := ha2 (by omega)
          have hbw := hb2 (by omega)
          have hkl : k < zs.length := by rw [HL2.out]; exact hlt2
          have g0 := HC2.out.old hbw HWW.out k hkl
          have hbr : b2 < wr.heap.size := Nat.lt_of_lt_of_le hbw HWW.out.size
          have hin := List.getElem_mem hkl
          obtain ⟨E, hE⟩ : ∃ E, E = zs[k] := ⟨_, rfl⟩
          rw [← hE] at g0 hin
          obtain ⟨m, hm⟩ : ∃ m, numB E 1 = m := ⟨_, rfl⟩
          have CM := Lib.hid (numb_any E m hm)
          cases m with
          | false =>
            obtain rfl := HNO.out (fun q => by have := q.2.2.2.2.2 _ hin; rw [hm] at this; cases this)
            clear hE hin hm
            go_wp2_with fail
            refine (CM.out _).mono ?_
            rintro e w2 ⟨rfl, rfl⟩
            go_wp2_with fail
            go_ret
            exact ⟨rfl, HWW.out⟩
          | true =>
            have HN : Hid (∀ j (h : j < zs.length), j < k + 1 → numB zs[j] 1 = true) := Lib.hid fun j h hj => by
              by_cases e : j = k
              · subst e; rw [← hE]; exact hm
              · exact HK.out j h (by omega)
            clear hE hin hm
            go_wp2_with fail
            refine (CM.out _).mono ?_
            rintro e w2 ⟨rfl, rfl⟩
            go_wp2_with fail
            go_roundw
            case rel => exact ⟨k + 1, by go_num, by omega, by first | rfl | trivial, HN⟩
            case measure => simp [intOf]; omega
        · obtain rfl : k = dn := by omega
          obtain rfl := HYES.out ⟨h1, h2, by simp, by simp, HALL.out, fun x hx => by
            obtain ⟨j, hj, rfl⟩ := List.getElem_of_mem hx
            exact HK.out j hj (by have := HL2.out; omega)⟩
          go_wp2_with fail
          go_ret
          exact ⟨rfl, HWW.out⟩
set_option maxHeartbeats 8000000 in
theorem rmay12_any (V : Value) (e : Ed) (w : World) (h : EV w V e) : Calls Try.prog 32 #[V] w fun x w' => x = .returned (.bool (mayEd e)) ∧ Below w.heap.size w w' := by
  obtain ⟨aa, an, ac, da, dn, dc, rfl, hst, hsz, hok⟩ := h
  obtain ⟨ts, zs, lg, nx⟩ := e
  obtain ⟨b, off, ha, hb, hc⟩ := hst.2.1.at_
  obtain ⟨b2, off2, ha2, hb2, hc2⟩ := hsz.2.1.at_
  simp only at *
  have hl := hst.1
  have hl2 := hsz.1
  rw [hl] at ha hb
  rw [hl2] at ha2 hb2
  obtain ⟨r, hr⟩ : ∃ r, mayEd (ts, zs, lg, nx) = r := ⟨_, rfl⟩
  rw [hr]
  obtain ⟨c1, hc1⟩ : ∃ c, numB lg 0 = c := ⟨_, rfl⟩
  obtain ⟨c2, hc2'⟩ : ∃ c, numB nx 0 = c := ⟨_, rfl⟩
  have D1 := Lib.hid (rnum_any lg 0 c1 hc1)
  have D2 := Lib.hid (rnum_any nx 0 c2 hc2')
  have HNO : Hid (¬ (an ≤ 128 ∧ dn ≤ 128 ∧ (∀ t ∈ ts, mayT t = true) ∧ (∀ x ∈ zs, numB x 1 = true)) → r = false) := Lib.hid fun h => by
    rw [← hr, Bool.eq_false_iff]
    intro hm
    refine h ?_
    obtain ⟨m1, m2, m3, m4, m5, m6⟩ := mayEd_iff.1 hm
    exact ⟨by rw [← hl]; exact m1, by rw [← hl2]; exact m2, m3, fun x hx => numB_iff.2 (m4 x hx)⟩
  have HYES : Hid ((an ≤ 128 ∧ dn ≤ 128 ∧ (∀ t ∈ ts, mayT t = true) ∧ (∀ x ∈ zs, numB x 1 = true)) → r = (c1 && c2)) := Lib.hid fun h => by
    obtain ⟨m1, m2, m5, m6⟩ := h
    rw [← hr, Bool.eq_iff_iff, mayEd_iff, Bool.and_eq_true, ← hc1, ← hc2', numB_iff, numB_iff]
    exact ⟨fun q => ⟨q.2.2.2.2.1, q.2.2.2.2.2⟩, fun q => ⟨by show ts.length ≤ 128; omega, by show zs.length ≤ 128; omega, m5, fun x hx => numB_iff.1 (m6 x hx), q.1, q.2⟩⟩
  have HC := Lib.hid hc
  have HC2 := Lib.hid hc2
  have HL := Lib.hid hl
  have HL2 := Lib.hid hl2
  have HOK := Lib.hid hok
  have HB0 := Lib.hid (box_bel w (.cells #[.slice aa an ac, .slice da dn dc, .int .i64 lg, .int .i64 nx] 25))
  clear hr hc1 hc2' hc hc2 hl hl2 hok hst hsz
  by_cases h1 : an ≤ 128
  case neg =>
    have h1z : (128 : Int) < (an : Int) := by omega
    obtain rfl := HNO.out (fun q => h1 q.1)
    go_enter Try.func32, Try.ntmps32
    go_wp2_with fail
    go_ret
    exact ⟨rfl, HB0.out⟩
  have h1z : ¬ (128 : Int) < (an : Int) := by omega
  by_cases h2 : dn ≤ 128
  case neg =>
    have h2z : (128 : Int) < (dn : Int) := by omega
    obtain rfl := HNO.out (fun q => h2 q.2.1)
    go_enter Try.func32, Try.ntmps32
    go_wp2_with fail
    go_ret
    exact ⟨rfl, HB0.out⟩
  have h2z : ¬ (128 : Int) < (dn : Int) := by omega
  have bx := EdBox.new w 25 (.slice aa an ac) (.slice da dn dc) lg nx
  go_enter Try.func32, Try.ntmps32
  go_wp2_with fail
  obtain ⟨wb, hwb⟩ : ∃ wb, wb = w.alloc (.cells #[.slice aa an ac, .slice da dn dc, .int .i64 lg, .int .i64 nx] 25) := ⟨_, rfl⟩
  rw [← hwb] at HB0 bx ⊢
  obtain ⟨xb, hxb⟩ : ∃ xb, xb = w.heap.size := ⟨_, rfl⟩
  rw [← hxb] at bx ⊢
  have BX := Lib.hid bx
  have HXB := Lib.hid hxb
  clear bx hwb hxb
  go_loopw [3] (fun i wr => ∃ k : Nat, i = .int .i64 k ∧ k ≤ an ∧ Hid (∀ j (h : j < ts.length), j < k → mayT ts[j] = true) ∧ Hid (Below wb.heap.size wb wr)) (fun i _ => an - (intOf i).toNat)
  case atStart => exact ⟨0, rfl, by omega, Lib.hid (fun j h hj => by omega), Lib.hid (Below.refl _ _)⟩
  case round =>
    obtain ⟨k, rfl, hk, HK, HW⟩ := hrel
    have HWW := Lib.hid (HB0.out.trans (HW.out.mono HB0.out.size))
    obtain ⟨y0, y1, y2, y3, y4⟩ := BX.out.below HW.out
    by_cases hlt : k < an
    · have hki : (k : Int) < (an : Int) := by omega
      obtain rfl := ha (by omega)
      have hbw := hb (by omega)
      have hkl : k < ts.length := by rw [HL.out]; exact hlt
      obtain ⟨g0, g1, g2, g3⟩ := HC.out.old hbw HWW.out k hkl
      have hbr : b < wr.heap.size := Nat.lt_of_lt_of_le hbw HWW.out.size
      have hin := List.getElem_mem hkl
      have hokt := HOK.out _ hin
      obtain ⟨E, hE⟩ : ∃ E, E = ts[k] := ⟨_, rfl⟩
      rw [← hE] at g0 g1 g2 g3 hin hokt
      obtain ⟨m, hm⟩ : ∃ m, mayT E = m := ⟨_, rfl⟩
      obtain ⟨x1, x2, x3, x4⟩ := E
      have CM := Lib.hid (rtab_any x1 x2 x3 x4 m hm hokt.1 hokt.2)
      cases m with
      | false =>
        obtain rfl := HNO.out (fun q => by have := q.2.2.1 _ hin; rw [hm] at this; cases this)
        clear hE hin hm hokt
        go_wp2_with fail
        refine (CM.out _).mono ?_
        rintro e w2 ⟨rfl, b2⟩
        have HB2 := Lib.hid (HWW.out.trans (b2.mono HWW.out.size))
        clear b2
        go_wp2_with fail
        go_ret
        exact ⟨rfl, HB2.out⟩
      | true =>
        have HN : Hid (∀ j (h : j < ts.length), j < k + 1 → mayT ts[j] = true) := Lib.hid fun j h hj => by
          by_cases e : j = k
          · subst e; rw [← hE]; exact hm
          · exact HK.out j h (by omega)
        clear hE hin hm hokt
        go_wp2_with fail
        refine (CM.out _).mono ?_
        rintro e w2 ⟨rfl, b2⟩
        have HB2 := Lib.hid (HW.out.trans (b2.mono HW.out.size))
        clear b2
        go_wp2_with fail
        go_roundw
        case rel => exact ⟨k + 1, by go_num, by omega, HN, HB2⟩
        case measure => simp [intOf]; omega
    · obtain rfl : k = an := by omega
      have HALL : Hid (∀ t ∈ ts, mayT t = true) := Lib.hid fun t ht => by
        obtain ⟨j, hj, rfl⟩ := List.getElem_of_mem ht
        exact HK.out j hj (by have := HL.out; omega)
      clear HK HW
      go_wp2_with fail
      rename World => wo
      go_loopw [4] (fun i wr => ∃ k : Nat, i = .int .i64 k ∧ k ≤ dn ∧ wr = wo ∧ Hid (∀ j (h : j < zs.length), j < k → numB zs[j] 1 = true)) (fun i _ => dn - (intOf i).toNat)
      case atStart => exact ⟨0, rfl, by omega, by first | rfl | trivial, Lib.hid (fun j h hj => by omega)⟩
      case round =>
        obtain ⟨k, rfl, hk2, rfl, HK⟩ := hrel
        by_cases hlt2 : k < dn
        · have hki : (k : Int) < (dn : Int) := by omega
          obtain rfl := ha2 (by omega)
          have hbw := hb2 (by omega)
          have hkl : k < zs.length := by rw [HL2.out]; exact hlt2
          have g0 := HC2.out.old hbw HWW.out k hkl
          have hbr : b2 < wr.heap.size := Nat.lt_of_lt_of_le hbw HWW.out.size
          have hin := List.getElem_mem hkl
          obtain ⟨E, hE⟩ : ∃ E, E = zs[k] := ⟨_, rfl⟩
          rw [← hE] at g0 hin
          obtain ⟨m, hm⟩ : ∃ m, numB E 1 = m := ⟨_, rfl⟩
          have CM := Lib.hid (rnum_any E 1 m hm)
          cases m with
          | false =>
            obtain rfl := HNO.out (fun q => by have := q.2.2.2 _ hin; rw [hm] at this; cases this)
            clear hE hin hm
            go_wp2_with fail
            refine (CM.out _).mono ?_
            rintro e w2 ⟨rfl, rfl⟩
            go_wp2_with fail
            go_ret
            exact ⟨rfl, HWW.out⟩
          | true =>
            have HN : Hid (∀ j (h : j < zs.length), j < k + 1 → numB zs[j] 1 = true) := Lib.hid fun j h hj => by
              by_cases e : j = k
              · subst e; rw [← hE]; exact hm
              · exact HK.out j h (by omega)
            clear hE hin hm
            go_wp2_with fail
            refine (CM.out _).mono ?_
            rintro e w2 ⟨rfl, rfl⟩
            go_wp2_with fail
            go_roundw
            case rel => exact ⟨k + 1, by go_num, by omega, by first | rfl | trivial, HN⟩
            case measure => simp [intOf]; omega
        · obtain rfl : k = dn := by omega
          have hrr := HYES.out ⟨h1, h2, HALL.out, fun x hx => by
            obtain ⟨j, hj, rfl⟩ := List.getElem_of_mem hx
            exact HK.out j hj (by have := HL2.out; omega)⟩
          have HRR := Lib.hid hrr
          clear hrr
          go_wp2_with fail
          refine (D1.out _).mono ?_
          rintro e w2 ⟨rfl, rfl⟩
          cases c1 with
          | false =>
            obtain rfl := HRR.out
            go_wp2_with fail
            go_ret
            exact ⟨rfl, HWW.out⟩
          | true =>
            go_wp2_with fail
            refine (D2.out _).mono ?_
            rintro e w2 ⟨rfl, rfl⟩
            obtain rfl := HRR.out
            go_wp2_with fail
            go_ret
            exact ⟨rfl, HWW.out⟩
set_option maxHeartbeats 4000000 in
theorem rchk12_any (V : Value) (e : Ed) (w : World) (h : EV w V e) : Calls Try.prog 17 #[V] w fun x w' => x = .returned (.int .i64 (edN e)) ∧ Below w.heap.size w w' := by
  have CC := Lib.hid fun (wx : World) (hx : Below w.heap.size w wx) => rmay12_any V e wx (h.old hx)
  obtain ⟨aa, an, ac, da, dn, dc, rfl, hst, hsz, hok⟩ := h
  obtain ⟨ts, zs, lg, nx⟩ := e
  simp only at *
  obtain ⟨r, hr⟩ : ∃ r, edN (ts, zs, lg, nx) = r := ⟨_, rfl⟩
  rw [hr]
  have HR : Hid (r = if mayEd (ts, zs, lg, nx) = true then 0 else 1) := Lib.hid (by rw [← hr]; rfl)
  obtain ⟨m, hm⟩ : ∃ m, mayEd (ts, zs, lg, nx) = m := ⟨_, rfl⟩
  rw [hm] at CC HR
  have HB0 := Lib.hid (box_bel w (.cells #[.slice aa an ac, .slice da dn dc, .int .i64 lg, .int .i64 nx] 25))
  clear hr hm hst hsz hok
  go_enter Try.func17, Try.ntmps17
  go_wp2_with fail
  refine (CC.out _ HB0.out).mono ?_
  rintro e w2 ⟨rfl, b2⟩
  have HB2 := Lib.hid (below_box b2)
  clear b2
  cases m with
  | false =>
    obtain rfl := HR.out
    go_wp2_with fail
    go_ret
    exact ⟨rfl, HB2.out⟩
  | true =>
    obtain rfl := HR.out
    go_wp2_with fail
    go_ret
    exact ⟨rfl, HB2.out⟩
end Go.Proofs.Ytkpemlgolpihiaa
namespace Go.Proofs.Ytkpemlgolpihiaa
set_option linter.unusedVariables false
set_option linter.unusedSimpArgs false

def tabB (t : Tb) : List UInt8 := vL t.1.toNat ++ vL t.2.1.toNat ++ txL t.2.2.1.data.toList ++ txL t.2.2.2.data.toList
def tabsB (ts : List Tb) : List UInt8 := ts.flatMap tabB
def intsB (zs : List Int) : List UInt8 := zs.flatMap fun z => vL z.toNat
def edB (e : Ed) : List UInt8 := vL e.1.length ++ tabsB e.1 ++ vL e.2.1.length ++ intsB e.2.1 ++ vL e.2.2.1.toNat ++ vL e.2.2.2.toNat
theorem tabsB_snoc (ts : List Tb) (t : Tb) : tabsB (ts ++ [t]) = tabsB ts ++ tabB t := by simp [tabsB]
theorem intsB_snoc (zs : List Int) (z : Int) : intsB (zs ++ [z]) = intsB zs ++ vL z.toNat := by simp [intsB]
theorem tabB_len {t : Tb} (h : mayT t = true) : (tabB t).length ≤ 600000 := by
  obtain ⟨h1, h2, h3, h4, -⟩ := mayT_iff.1 h
  have a1 := vL_len9 (n := t.1.toNat) (by omega)
  have a2 := vL_len9 (n := t.2.1.toNat) (by omega)
  have a3 := txL_size t.2.2.1.data.toList (by rw [size_list]; have := (keyB_iff.1 h3).2; omega)
  have a4 := txL_size t.2.2.2.data.toList (by rw [size_list]; have := (keyB_iff.1 h4).2; omega)
  unfold tabB
  simp only [List.length_append]
  omega
theorem tabsB_len : ∀ {ts : List Tb}, (∀ t ∈ ts, mayT t = true) → (tabsB ts).length ≤ 600000 * ts.length
  | [], _ => by simp [tabsB]
  | t :: ts, h => by
    have a := tabB_len (h t (by simp))
    have b := tabsB_len (ts := ts) (fun x hx => h x (by simp [hx]))
    have e : tabsB (t :: ts) = tabB t ++ tabsB ts := rfl
    rw [e, List.length_append, List.length_cons]
    omega
theorem intsB_len : ∀ {zs : List Int}, (∀ x ∈ zs, 1 ≤ x ∧ x ≤ 1073741824) → (intsB zs).length ≤ 9 * zs.length
  | [], _ => by simp [intsB]
  | z :: zs, h => by
    have a := vL_len9 (n := z.toNat) (by have := h z (by simp); omega)
    have b := intsB_len (zs := zs) (fun x hx => h x (by simp [hx]))
    have e : intsB (z :: zs) = vL z.toNat ++ intsB zs := rfl
    rw [e, List.length_append, List.length_cons]
    omega
/-- The number that bytes begin with, and what is left. -/
def rdN (l : List UInt8) : Option (Nat × List UInt8) := if (tk l 0 0).2.2 = 0 then some ((tk l 0 0).1, l.drop (tk l 0 0).2.1) else none
def rdS (l : List UInt8) : Option (List UInt8 × List UInt8) := if (ttR l).2.2 = 0 then some ((ttR l).1, l.drop (ttR l).2.1) else none
def rdT (l : List UInt8) : Option (Tb × List UInt8) :=
  (rdN l).bind fun p => (rdN p.2).bind fun q => (rdS q.2).bind fun r => (rdS r.2).bind fun s => some ((((p.1 : Nat) : Int), ((q.1 : Nat) : Int), ⟨r.1.toArray⟩, ⟨s.1.toArray⟩), s.2)
def rdTs : Nat → List UInt8 → Option (List Tb × List UInt8)
  | 0, l => some ([], l)
  | n + 1, l => (rdT l).bind fun p => (rdTs n p.2).bind fun q => some (p.1 :: q.1, q.2)
def rdZs : Nat → List UInt8 → Option (List Int × List UInt8)
  | 0, l => some ([], l)
  | n + 1, l => (rdN l).bind fun p => (rdZs n p.2).bind fun q => some (((p.1 : Nat) : Int) :: q.1, q.2)
def rdE (l : List UInt8) : Option Ed :=
  (rdN l).bind fun n => if n.1 ≤ 128 then (rdTs n.1 n.2).bind fun ts => (rdN ts.2).bind fun m => if m.1 ≤ 128 then (rdZs m.1 m.2).bind fun zs => (rdN zs.2).bind fun a => (rdN a.2).bind fun b => if b.2 = [] then some (ts.1, zs.1, ((a.1 : Nat) : Int), ((b.1 : Nat) : Int)) else none else none else none
/-- The edit that a text says. -/
def takE (l : List UInt8) : Option Ed := (rdE l).bind fun e => if mayEd e = true then some e else none
theorem rdN_put (n : Nat) (hn : n ≤ 4611686018427387904) (t : List UInt8) : rdN (vL n ++ t) = some (n, t) := by
  have h := tk_put t n 0 0 (by omega) (fun _ => rfl) (by have := vL_len9 hn; omega)
  unfold rdN
  rw [h]
  simp
theorem rdS_put (l : List UInt8) (hl : l.length ≤ 262144) (t : List UInt8) : rdS (txL l ++ t) = some (l, t) := by
  unfold rdS
  rw [ttR_back l t hl]
  simp
theorem rdT_put {t : Tb} (h : mayT t = true) (u : List UInt8) : rdT (tabB t ++ u) = some (t, u) := by
  obtain ⟨h1, h2, h3, h4, -⟩ := mayT_iff.1 h
  obtain ⟨i, l, lo, hi⟩ := t
  unfold rdT tabB
  simp only [List.append_assoc] at *
  rw [rdN_put _ (by omega)]
  simp only [Option.bind_some]
  rw [rdN_put _ (by omega)]
  simp only [Option.bind_some]
  rw [rdS_put _ (by rw [size_list]; have := (keyB_iff.1 h3).2; omega)]
  simp only [Option.bind_some]
  rw [rdS_put _ (by rw [size_list]; have := (keyB_iff.1 h4).2; omega)]
  simp only [Option.bind_some]
  have e1 : ((i.toNat : Nat) : Int) = i := by omega
  have e2 : ((l.toNat : Nat) : Int) = l := by omega
  rw [e1, e2]
theorem rdTs_put : ∀ {ts : List Tb} (_ : ∀ t ∈ ts, mayT t = true) (u : List UInt8), rdTs ts.length (tabsB ts ++ u) = some (ts, u)
  | [], _, u => rfl
  | t :: ts, h, u => by
    have e : tabsB (t :: ts) = tabB t ++ tabsB ts := rfl
    rw [e, List.append_assoc, List.length_cons, rdTs, rdT_put (h t (by simp))]
    simp only [Option.bind_some]
    rw [rdTs_put (fun x hx => h x (by simp [hx]))]
    rfl
theorem rdZs_put : ∀ {zs : List Int} (_ : ∀ x ∈ zs, 1 ≤ x ∧ x ≤ 1073741824) (u : List UInt8), rdZs zs.length (intsB zs ++ u) = some (zs, u)
  | [], _, u => rfl
  | z :: zs, h, u => by
    have e : intsB (z :: zs) = vL z.toNat ++ intsB zs := rfl
    have hz := h z (by simp)
    rw [e, List.append_assoc, List.length_cons, rdZs, rdN_put _ (by omega)]
    simp only [Option.bind_some]
    rw [rdZs_put (fun x hx => h x (by simp [hx]))]
    have e1 : ((z.toNat : Nat) : Int) = z := by omega
    rw [e1]
    rfl
/-- There and back. -/
theorem takE_put {e : Ed} (h : mayEd e = true) : takE (edB e) = some e := by
  obtain ⟨h1, h2, h3, h4, h5, h6⟩ := mayEd_iff.1 h
  obtain ⟨ts, zs, lg, nx⟩ := e
  have hr : rdE (edB (ts, zs, lg, nx)) = some (ts, zs, lg, nx) := by
    unfold rdE edB
    simp only [List.append_assoc] at *
    rw [rdN_put _ (by omega)]
    simp only [Option.bind_some]
    rw [if_pos h1, rdTs_put h3]
    simp only [Option.bind_some]
    rw [rdN_put _ (by omega)]
    simp only [Option.bind_some]
    rw [if_pos h2, rdZs_put h4]
    simp only [Option.bind_some]
    rw [rdN_put _ (by omega)]
    simp only [Option.bind_some]
    have h7 := rdN_put nx.toNat (by omega) []
    rw [List.append_nil] at h7
    rw [h7]
    simp only [Option.bind_some]
    rw [if_pos trivial]
    have e1 : ((lg.toNat : Nat) : Int) = lg := by omega
    have e2 : ((nx.toNat : Nat) : Int) = nx := by omega
    rw [e1, e2]
  unfold takE
  rw [hr, Option.bind_some, if_pos h]
theorem rdN_some {l r : List UInt8} {n : Nat} (h : rdN l = some (n, r)) : n ≤ 4611686018427387904 ∧ r.length ≤ l.length := by
  unfold rdN at h
  rcases tk_cases l with h1 | ⟨m, k, h1, h2, h3, h4⟩
  · rw [if_neg (by omega)] at h; cases h
  · rw [h1] at h
    simp at h
    obtain ⟨rfl, rfl⟩ := h
    exact ⟨h4, by rw [List.length_drop]; omega⟩
/-- A text that is an edit's is that one's alone. -/
theorem takE_may {l : List UInt8} {e : Ed} (h : takE l = some e) : mayEd e = true := by
  unfold takE at h
  cases hr : rdE l with
  | none => rw [hr] at h; cases h
  | some x =>
    rw [hr, Option.bind_some] at h
    split at h
    · cases h; assumption
    · cases h
end Go.Proofs.Ytkpemlgolpihiaa
namespace Go.Proofs.Ytkpemlgolpihiaa
set_option maxRecDepth 100000
open Go.RowKit
set_option linter.unusedVariables false
set_option linter.unusedSimpArgs false

/-- A table's box, as a block. -/
def TBlk (w : World) (x : Nat) (t : Tb) : Prop := w.heap[x]? = some (.cells #[.int .i64 t.1, .int .i64 t.2.1, .string t.2.2.1, .string t.2.2.2] 49 (0, 0))
theorem TBlk.new (w : World) (t : Tb) : TBlk (w.alloc (.cells #[.int .i64 t.1, .int .i64 t.2.1, .string t.2.2.1, .string t.2.2.2] 49)) w.heap.size t := heap_alloc_new w _
theorem TBlk.box {w : World} {x : Nat} {t : Tb} (h : TBlk w x t) : TBox w x t :=
  ⟨by rw [Lib.cell_of_heap h]; rfl, by rw [Lib.cell_of_heap h]; rfl, by rw [Lib.cell_of_heap h]; rfl, by rw [Lib.cell_of_heap h]; rfl, heap_lt h⟩
theorem TBlk.keep {w w' : World} {b x : Nat} {t : Tb} (h : TBlk w x t) (hx : x ≠ b) (hk : KeepT b w w') : TBlk w' x t := hk.1 x _ _ _ hx h (by decide)
theorem pnum_any (B b : Nat) (l : List UInt8) (z : Int) (n : Nat) (hz : z = (n : Int)) (hn : n ≤ 4611686018427387904) (w : World) (h : Bld B b l w) (hl : l.length ≤ 100000000) (hB : B ≤ w.heap.size) :
    Calls Try.prog 26 #[.int .i64 z, .pointer (some ⟨b, 0, none⟩)] w fun e w' => e = .returned (.tuple #[]) ∧ Bld B b (l ++ vL n) w' ∧ Below B w w' ∧ KeepT b w w' := by
  subst hz
  have h9 := vL_len9 hn
  have H := Lib.hid h
  clear h
  go_enter Try.func26, Try.ntmps26
  go_wp2_with fail
  refine (put_code n _ hn).mono ?_
  rintro e w1 ⟨rfl, b1⟩
  have hB1 : B ≤ w1.heap.size := Nat.le_trans hB b1.size
  have HO := Lib.hid (H.out.old b1)
  have HB1 := Lib.hid (And.intro (b1.mono hB) (KeepT.of (b := b) b1))
  clear b1
  go_wp2_with fail
  refine (bwrite_any B b l ⟨(vL n).toArray⟩ _ HO.out (by rw [mk_size]; omega) hB1).mono ?_
  rintro e w2 ⟨rfl, b2, hb2, hk2⟩
  have HW := Lib.hid (And.intro (HB1.out.1.trans hb2) (HB1.out.2.trans hk2))
  have HD := Lib.hid b2
  clear b2 hb2 hk2
  go_wp2
  go_end0
  exact ⟨rfl, HD.out, HW.out.1, HW.out.2⟩
theorem ptext_any (B b : Nat) (l : List UInt8) (s : ByteArray) (hs : s.size ≤ 262144) (w : World) (h : Bld B b l w) (hl : l.length ≤ 100000000) (hB : B ≤ w.heap.size) :
    Calls Try.prog 29 #[.string s, .pointer (some ⟨b, 0, none⟩)] w fun e w' => e = .returned (.tuple #[]) ∧ Bld B b (l ++ txL s.data.toList) w' ∧ Below B w w' ∧ KeepT b w w' := by
  have h9 := txL_size s.data.toList (by rw [size_list]; exact hs)
  have H := Lib.hid h
  clear h
  go_enter Try.func29, Try.ntmps29
  go_wp2_with fail
  refine (text_code s _ hs).mono ?_
  rintro e w1 ⟨rfl, b1⟩
  have hB1 : B ≤ w1.heap.size := Nat.le_trans hB b1.size
  have HO := Lib.hid (H.out.old b1)
  have HB1 := Lib.hid (And.intro (b1.mono hB) (KeepT.of (b := b) b1))
  clear b1
  go_wp2_with fail
  refine (bwrite_any B b l ⟨(txL s.data.toList).toArray⟩ _ HO.out (by rw [mk_size]; omega) hB1).mono ?_
  rintro e w2 ⟨rfl, b2, hb2, hk2⟩
  have HW := Lib.hid (And.intro (HB1.out.1.trans hb2) (HB1.out.2.trans hk2))
  have HD := Lib.hid b2
  clear b2 hb2 hk2
  go_wp2
  go_end0
  exact ⟨rfl, HD.out, HW.out.1, HW.out.2⟩
/-- What Put leaves. -/
def PUe (d : Ed) (w : World) (e : Ending) (w' : World) : Prop :=
  e = .returned (if mayEd d = true then .tuple #[.string ⟨(edB d).toArray⟩, .int .i64 0] else .tuple #[.string ⟨#[]⟩, .int .i64 1]) ∧ Below w.heap.size w w'
theorem PUe.yes {d : Ed} {w w' : World} {e : Ending} (h : mayEd d = true) (he : e = .returned (.tuple #[.string ⟨(edB d).toArray⟩, .int .i64 0])) (hb : Below w.heap.size w w') : PUe d w e w' := by
  unfold PUe
  rw [if_pos h]
  exact ⟨he, hb⟩
theorem PUe.no {d : Ed} {w w' : World} {e : Ending} (h : ¬ mayEd d = true) (he : e = .returned (.tuple #[.string ⟨#[]⟩, .int .i64 1])) (hb : Below w.heap.size w w') : PUe d w e w' := by
  unfold PUe
  rw [if_neg h]
  exact ⟨he, hb⟩
theorem below_al {B : Nat} {w w' : World} {o : Obj} (h : Below (w.alloc o).heap.size (w.alloc o) w') : Below w.heap.size w w' := below_box h
set_option maxHeartbeats 16000000 in
theorem put12_any (V : Value) (d : Ed) (w : World) (h : EV w V d) : Calls Try.prog 11 #[V] w (PUe d w) := by
  have CK := Lib.hid fun (wx : World) (hx : Below w.heap.size w wx) => chk12_any V d wx (h.old hx)
  obtain ⟨aa, an, ac, da, dn, dc, rfl, hst, hsz, hok⟩ := h
  obtain ⟨ts, zs, lg, nx⟩ := d
  obtain ⟨b, off, ha, hb, hc⟩ := hst.2.1.at_
  obtain ⟨b2, off2, ha2, hb2, hc2⟩ := hsz.2.1.at_
  simp only at *
  have hl := hst.1
  have hl2 := hsz.1
  rw [hl] at ha hb
  rw [hl2] at ha2 hb2
  have HB0 := Lib.hid (box_bel w (.cells #[.slice aa an ac, .slice da dn dc, .int .i64 lg, .int .i64 nx] 25))
  have bx := EdBox.new w 25 (.slice aa an ac) (.slice da dn dc) lg nx
  have HC := Lib.hid hc
  have HC2 := Lib.hid hc2
  have HL := Lib.hid hl
  have HL2 := Lib.hid hl2
  have BX := Lib.hid bx
  obtain ⟨m, hm⟩ : ∃ m, mayEd (ts, zs, lg, nx) = m := ⟨_, rfl⟩
  have HM := Lib.hid hm
  have hed : edN (ts, zs, lg, nx) = if m = true then 0 else 1 := by unfold edN; rw [hm]
  rw [hed] at CK
  clear hm hed hc hc2 hl hl2 bx hok hst hsz
  go_enter Try.func11, Try.ntmps11
  go_wp2_with fail
  refine (CK.out _ HB0.out).mono ?_
  rintro e w1 ⟨rfl, b1⟩
  have HB1 := Lib.hid (HB0.out.trans (b1.mono HB0.out.size))
  have BX1 := Lib.hid (BX.out.below b1)
  clear b1 CK
  cases m with
  | false =>
    rw [if_neg (by decide)]
    go_wp2_with fail
    go_ret2
    exact PUe.no (by rw [HM.out]; decide) rfl HB1.out
  | true =>
    rw [if_pos rfl]
    obtain ⟨m1, m2, m3, m4, m5, m6⟩ := mayEd_iff.1 HM.out
    simp only at m1 m2 m3 m4 m5 m6
    rw [HL.out] at m1
    rw [HL2.out] at m2
    have HMT := Lib.hid m3
    have HMZ := Lib.hid m4
    clear m3 m4
    obtain ⟨y0, y1, y2, y3, y4⟩ := BX1.out
    go_wp2_with fail
    refine (pnum_any w1.heap.size w1.heap.size [] an an rfl (by omega) _ (Bld.new w1) (by simp) (by simp)).mono ?_
    rintro e w2 ⟨rfl, d2, b2', _⟩
    have HD2 := Lib.hid d2
    have HB2 := Lib.hid ((Below.refl _ w1).alloc (Nat.le_refl _) (.cells #[.pointer none, .slice none 0 0] 57) |>.trans b2')
    clear d2 b2' y0 y1 y2 y3 y4
    obtain ⟨y0, y1, y2, y3, y4⟩ := BX1.out.below HB2.out
    go_wp2
    go_loopw [8, 24] (fun _ i wr => ∃ k : Nat, i = .int .i64 k ∧ k ≤ an ∧ Hid (Bld w1.heap.size w1.heap.size (vL an ++ tabsB (ts.take k)) wr) ∧ Hid (Below w1.heap.size w1 wr)) (fun _ i _ => an - (intOf i).toNat)
    case atStart => exact ⟨0, rfl, by omega, Lib.hid (by simpa [tabsB] using HD2.out), HB2⟩
    case round =>
      clear y0 y1 y2 y3 y4
      obtain ⟨k, rfl, hk, HD, HW⟩ := hrel
      obtain ⟨y0, y1, y2, y3, y4⟩ := BX1.out.below HW.out
      by_cases hlt : k < an
      · obtain rfl := ha (by omega)
        have hbw := hb (by omega)
        have hkl : k < ts.length := by rw [HL.out]; exact hlt
        have hki : (k : Int) < (an : Int) := by omega
        have hB1s := HB1.out.size
        have hWs := HW.out.size
        have hbr : b < wr.heap.size := by omega
        obtain ⟨g0, g1, g2, g3⟩ := (HC.out.old hbw HB1.out).old (by omega : b < w1.heap.size) HW.out k hkl
        have hmt := HMT.out _ (List.getElem_mem hkl)
        have hbody := tabsB_snoc (ts.take k) ts[k]
        rw [← List.take_succ_eq_append_getElem hkl] at hbody
        have hlen := tabsB_len (ts := ts.take k) (fun e he => HMT.out e (List.mem_of_mem_take he))
        rw [List.length_take] at hlen
        obtain ⟨E, hE⟩ : ∃ E, E = ts[k] := ⟨_, rfl⟩
        rw [← hE] at g0 g1 g2 g3 hmt hbody
        have htl := tabB_len hmt
        obtain ⟨x1, x2, x3, x4⟩ := E
        obtain ⟨⟨i1, i2⟩, ⟨v1, v2⟩, k1, k2, -⟩ := mayT_iff.1 hmt
        simp only at i1 i2 v1 v2 k1 k2
        have hk1 := (keyB_iff.1 k1).2
        have hk2 := (keyB_iff.1 k2).2
        obtain ⟨L, hL⟩ : ∃ L, L = vL an ++ tabsB (ts.take k) := ⟨_, rfl⟩
        have hLs : L.length ≤ 80000000 := by
          rw [hL, List.length_append]
          have := vL_len9 (n := an) (by omega)
          have : min k ts.length ≤ 128 := by omega
          omega
        rw [← hL] at HD
        have HBody : Hid (vL an ++ tabsB (ts.take (k + 1)) = L ++ vL x1.toNat ++ vL x2.toNat ++ txL x3.data.toList ++ txL x4.data.toList) := Lib.hid (by
          rw [hbody, ← List.append_assoc, ← hL]
          unfold tabB
          simp only [List.append_assoc])
        have q1 := vL_len9 (n := x1.toNat) (by omega)
        have q2 := vL_len9 (n := x2.toNat) (by omega)
        have q3 := txL_size x3.data.toList (by rw [size_list]; omega)
        have hxb : wr.heap.size ≠ w1.heap.size := by have := HD.out.lt; omega
        have HT0 := Lib.hid (TBlk.new wr (x1, x2, x3, x4))
        have HD0 := Lib.hid (HD.out.old (box_bel wr (.cells #[.int .i64 x1, .int .i64 x2, .string x3, .string x4] 49)))
        have HW0 := Lib.hid (HW.out.trans ((box_bel wr (.cells #[.int .i64 x1, .int .i64 x2, .string x3, .string x4] 49)).mono hWs))
        obtain ⟨xb, hxbe⟩ : ∃ xb, xb = wr.heap.size := ⟨_, rfl⟩
        clear hbody hlen hL hE hmt htl k1 k2 HD HW
        go_wp2_with fail
        rw [← hxbe] at HT0 hxb ⊢
        have HXB := Lib.hid hxbe
        clear hxbe g0 g1 g2 g3
        generalize wr.alloc (.cells #[.int .i64 x1, .int .i64 x2, .string x3, .string x4] 49) = wa at *
        have hs0 := HW0.out.size
        clear y0 y1 y2 y3 y4
        refine (pnum_any w1.heap.size w1.heap.size L x1 x1.toNat (by omega) (by omega) _ HD0.out (by omega) hs0).mono ?_
        rintro e w4 ⟨rfl, d4, b4, k4⟩
        have HT4 := Lib.hid (HT0.out.keep hxb k4)
        have HD4 := Lib.hid d4
        have HW4 := Lib.hid (HW0.out.trans b4)
        have hs4 := HW4.out.size
        obtain ⟨z0, z1, z2, z3, z4⟩ := HT4.out.box
        clear d4 b4 k4 HT0 HD0 HW0 hs0
        go_wp2_with fail
        refine (pnum_any w1.heap.size w1.heap.size (L ++ vL x1.toNat) x2 x2.toNat (by omega) (by omega) _ HD4.out (by rw [List.length_append]; omega) hs4).mono ?_
        rintro e w5 ⟨rfl, d5, b5, k5⟩
        have HT5 := Lib.hid (HT4.out.keep hxb k5)
        have HD5 := Lib.hid d5
        have HW5 := Lib.hid (HW4.out.trans b5)
        have hs5 := HW5.out.size
        clear z0 z1 z2 z3 z4 d5 b5 k5 HT4 HD4 HW4 hs4
        obtain ⟨z0, z1, z2, z3, z4⟩ := HT5.out.box
        go_wp2_with fail
        refine (ptext_any w1.heap.size w1.heap.size (L ++ vL x1.toNat ++ vL x2.toNat) x3 (by omega) _ HD5.out (by simp only [List.length_append]; omega) hs5).mono ?_
        rintro e w6 ⟨rfl, d6, b6, k6⟩
        have HT6 := Lib.hid (HT5.out.keep hxb k6)
        have HD6 := Lib.hid d6
        have HW6 := Lib.hid (HW5.out.trans b6)
        have hs6 := HW6.out.size
        clear z0 z1 z2 z3 z4 d6 b6 k6 HT5 HD5 HW5 hs5
        obtain ⟨z0, z1, z2, z3, z4⟩ := HT6.out.box
        go_wp2_with fail
        refine (ptext_any w1.heap.size w1.heap.size (L ++ vL x1.toNat ++ vL x2.toNat ++ txL x3.data.toList) x4 (by omega) _ HD6.out (by simp only [List.length_append]; omega) hs6).mono ?_
        rintro e w7 ⟨rfl, d7, b7, k7⟩
        have HD7 : Hid (Bld w1.heap.size w1.heap.size (vL an ++ tabsB (ts.take (k + 1))) w7) := Lib.hid (by rw [HBody.out]; exact d7)
        have HW7 := Lib.hid (HW6.out.trans b7)
        clear z0 z1 z2 z3 z4 d7 b7 k7 HT6 HD6 HW6 hs6
        go_wp2_with fail
        go_roundw
        case rel => exact ⟨k + 1, by go_num, by omega, HD7, HW7⟩
        case measure => simp [intOf]; omega
      · obtain rfl : k = an := by omega
        have hh := HD.out
        rw [← HL.out, List.take_length, HL.out] at hh
        obtain ⟨L, hL⟩ : ∃ L, L = vL k ++ tabsB ts := ⟨_, rfl⟩
        have hLs : L.length ≤ 80000000 := by
          rw [hL, List.length_append]
          have := vL_len9 (n := k) (by omega)
          have := tabsB_len HMT.out
          have := HL.out
          omega
        rw [← hL] at hh
        have HLE := Lib.hid hL
        have HD0 := Lib.hid hh
        have hs0 := HW.out.size
        clear hh hL HD
        go_wp2_with fail
        refine (pnum_any w1.heap.size w1.heap.size L dn dn rfl (by omega) _ HD0.out (by omega) hs0).mono ?_
        rintro e w3 ⟨rfl, d3, b3, -⟩
        have HD3 := Lib.hid d3
        have HW3 := Lib.hid (HW.out.trans b3)
        clear d3 b3 HD0 hs0 HW
        clear y0 y1 y2 y3 y4
        obtain ⟨y0, y1, y2, y3, y4⟩ := BX1.out.below HW3.out
        have q1 := vL_len9 (n := dn) (by omega)
        go_wp2
        go_loopw [10, 53] (fun _ i wr => ∃ j : Nat, i = .int .i64 j ∧ j ≤ dn ∧ Hid (Bld w1.heap.size w1.heap.size (L ++ vL dn ++ intsB (zs.take j)) wr) ∧ Hid (Below w1.heap.size w1 wr)) (fun _ i _ => dn - (intOf i).toNat)
        case atStart => exact ⟨0, rfl, by omega, Lib.hid (by simpa [intsB] using HD3.out), HW3⟩
        case round =>
          clear y0 y1 y2 y3 y4
          obtain ⟨j, rfl, hj, HD, HW⟩ := hrel
          obtain ⟨y0, y1, y2, y3, y4⟩ := BX1.out.below HW.out
          have hlen := intsB_len (zs := zs.take j) (fun e he => HMZ.out e (List.mem_of_mem_take he))
          rw [List.length_take] at hlen
          have hws := HW.out.size
          by_cases hlt2 : j < dn
          · obtain rfl := ha2 (by omega)
            have hbw := hb2 (by omega)
            have hkl : j < zs.length := by rw [HL2.out]; exact hlt2
            have hki : (j : Int) < (dn : Int) := by omega
            have hB1s := HB1.out.size
            have hbr : b2 < wr.heap.size := by omega
            have g0 := (HC2.out.old hbw HB1.out).old (by omega : b2 < w1.heap.size) HW.out j hkl
            have hmz := HMZ.out _ (List.getElem_mem hkl)
            have hbody := intsB_snoc (zs.take j) zs[j]
            rw [← List.take_succ_eq_append_getElem hkl] at hbody
            obtain ⟨E, hE⟩ : ∃ E, E = zs[j] := ⟨_, rfl⟩
            rw [← hE] at g0 hmz hbody
            obtain ⟨M, hM⟩ : ∃ M, M = L ++ vL dn ++ intsB (zs.take j) := ⟨_, rfl⟩
            have hMl : M.length ≤ 90000000 := by rw [hM]; simp only [List.length_append]; omega
            have HBody : Hid (L ++ vL dn ++ intsB (zs.take (j + 1)) = M ++ vL E.toNat) := Lib.hid (by rw [hbody, ← List.append_assoc, ← hM])
            rw [← hM] at HD
            clear hM hbody hE hlen
            go_wp2_with fail
            refine (pnum_any w1.heap.size w1.heap.size M E E.toNat (by omega) (by omega) _ HD.out (by omega) hws).mono ?_
            rintro e w4 ⟨rfl, d4, b4, -⟩
            have HD4 : Hid (Bld w1.heap.size w1.heap.size (L ++ vL dn ++ intsB (zs.take (j + 1))) w4) := Lib.hid (by rw [HBody.out]; exact d4)
            have HW4 := Lib.hid (HW.out.trans b4)
            clear d4 b4
            go_wp2_with fail
            go_roundw
            case rel => exact ⟨j + 1, by go_num, by omega, HD4, HW4⟩
            case measure => simp [intOf]; omega
          · obtain rfl : j = dn := by omega
            have hh := HD.out
            rw [← HL2.out, List.take_length, HL2.out] at hh
            obtain ⟨M, hM⟩ : ∃ M, M = L ++ vL j ++ intsB zs := ⟨_, rfl⟩
            have hMl : M.length ≤ 90000000 := by rw [hM]; simp only [List.length_append]; have := intsB_len HMZ.out; have := HL2.out; omega
            rw [← hM] at hh
            have HME := Lib.hid hM
            have HD0 := Lib.hid hh
            clear hh hM HD hlen
            have q2 := vL_len9 (n := lg.toNat) (by omega)
            have q3 := vL_len9 (n := nx.toNat) (by omega)
            go_wp2_with fail
            refine (pnum_any w1.heap.size w1.heap.size M lg lg.toNat (by omega) (by omega) _ HD0.out (by omega) hws).mono ?_
            rintro e w4 ⟨rfl, d4, b4, -⟩
            have HD4 := Lib.hid d4
            have HW4 := Lib.hid (HW.out.trans b4)
            have hs4 := HW4.out.size
            clear d4 b4 HD0 HW hws y0 y1 y2 y3 y4
            obtain ⟨y0, y1, y2, y3, y4⟩ := BX1.out.below HW4.out
            go_wp2_with fail
            refine (pnum_any w1.heap.size w1.heap.size (M ++ vL lg.toNat) nx nx.toNat (by omega) (by omega) _ HD4.out (by rw [List.length_append]; omega) hs4).mono ?_
            rintro e w5 ⟨rfl, d5, b5, -⟩
            have HD5 := Lib.hid d5
            have HW5 := Lib.hid (HW4.out.trans b5)
            have hs5 := HW5.out.size
            clear d5 b5 HD4 HW4 hs4
            go_wp2_with fail
            refine (bstring_any _ _ _ _ HD5.out hs5).mono ?_
            rintro e w6 ⟨rfl, b6⟩
            have HW6 := Lib.hid (HB1.out.trans ((HW5.out.trans b6).mono HB1.out.size))
            clear b6
            go_wp2_with fail
            go_ret2
            refine PUe.yes HM.out ?_ HW6.out
            have he : M ++ vL lg.toNat ++ vL nx.toNat = edB (ts, zs, lg, nx) := by
              rw [HME.out, HLE.out]
              unfold edB
              rw [HL.out, HL2.out]
            rw [List.append_assoc] at he
            have he2 : (⟨(M ++ (vL lg.toNat ++ vL nx.toNat)).toArray⟩ : ByteArray) = ⟨(edB (ts, zs, lg, nx)).toArray⟩ := by rw [he]
            exact congrArg Ending.returned (congrArg (fun x => Value.tuple #[.string x, .int .i64 0]) he2)
end Go.Proofs.Ytkpemlgolpihiaa
