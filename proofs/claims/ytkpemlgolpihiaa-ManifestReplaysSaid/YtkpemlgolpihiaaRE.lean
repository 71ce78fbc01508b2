/-
  Texts of mine as one, in the order in which they build: Yr, Yw, Yx. Conditions: as each says.
-/
import Derived.Test.YtkpemlgolpihiaaRB
import Derived.Laws.StructEq
import Derived.Deep.QuietTactic
import Derived.Deep.DeepCutAuto
import Derived.Deep.CutRange
import Derived.Test.YtkpemlgolpihiaaRA
import Derived.Laws.Cover1
import Derived.Deep.RegionHeld3
import Derived.Test.YtkpemlgolpihiaaVm
namespace Go.Proofs.Ytkpemlgolpihiaa
set_option maxRecDepth 100000
open Go.RowKit
set_option linter.unusedVariables false
set_option linter.unusedSimpArgs false

/-- A state: tables, the first log that counts, the next number. -/
abbrev St := List Tb × Int × Int
def SV (w : World) (V : Value) (s : St) : Prop := ∃ a n cap, V = .agg #[.slice a n cap, .int .i64 s.2.1, .int .i64 s.2.2] ∧ ST w a n cap s.1 ∧ okT s.1
theorem SV.old {w w' : World} {V : Value} {s : St} (h : SV w V s) (hb : Below w.heap.size w w') : SV w' V s := by
  obtain ⟨a, n, cap, h1, h2, h3⟩ := h
  exact ⟨a, n, cap, h1, h2.old hb, h3⟩
theorem SV.zero (w : World) : SV w (.agg #[.slice none 0 0, .int .i64 0, .int .i64 0]) ([], 0, 0) := ⟨none, 0, 0, rfl, ⟨rfl, .inl rfl, Nat.le_refl _, Nat.zero_le _⟩, fun t ht => by simp at ht⟩
set_option maxHeartbeats 2000000 in
theorem samei_any (a b : Option Addr) (n ca cb : Nat) (es : List Int) (w : World) (ha : RdZ w a es) (hb : RdZ w b es) (hn : n < 9223372036854775808) (hl : es.length = n) :
    Calls Try.prog 38 #[.slice a n ca, .slice b n cb] w fun e w' => e = .returned (.bool true) ∧ Below w.heap.size w w' := by
  obtain ⟨b1, o1, e1, l1, p1⟩ := ha.at_
  obtain ⟨b2, o2, e2, l2, p2⟩ := hb.at_
  rw [hl] at e1 l1 e2 l2
  have HC1 := Lib.hid p1
  have HC2 := Lib.hid p2
  have HL := Lib.hid hl
  clear p1 p2 hl ha hb
  go_enter Try.func38, Try.ntmps38
  go_wp2_with fail
  go_loopw [5] (fun i wr => ∃ (k d : Nat), k ≤ n ∧ i = .int .i64 k ∧ wr = w.drewN d) (fun i _ => n - (intOf i).toNat)
  case atStart => exact ⟨0, 0, by omega, rfl, rfl⟩
  case round =>
    obtain ⟨k, d, hk, rfl, rfl⟩ := hrel
    by_cases hlt : k < n
    · have hkl : k < es.length := by rw [HL.out]; exact hlt
      have hki : (k : Int) < (n : Int) := by omega
      obtain rfl := e1 (by omega)
      obtain rfl := e2 (by omega)
      have l1 := l1 (by omega)
      have l2 := l2 (by omega)
      have g0 := HC1.out k hkl
      have h0 := HC2.out k hkl
      obtain ⟨E, hE⟩ : ∃ E, E = es[k] := ⟨_, rfl⟩
      rw [← hE] at g0 h0
      clear hE
      go_wp2_with fail
      go_quiet (fail)
      go_wp2_with fail
      go_roundw
      case rel => exact ⟨k + 1, _, by omega, by go_num, rfl⟩
      case measure => simp [intOf]; omega
    · obtain rfl : k = n := by omega
      go_wp2_with fail
      go_ret
      exact ⟨rfl, below_drewN (Below.refl _ _) _⟩
set_option maxHeartbeats 2000000 in
theorem samet_any (a b : Option Addr) (n ca cb : Nat) (es : List Tb) (w : World) (ha : RdT w a es) (hb : RdT w b es) (hn : n < 9223372036854775808) (hl : es.length = n) :
    Calls Try.prog 21 #[.slice a n ca, .slice b n cb] w fun e w' => e = .returned (.bool true) ∧ Below w.heap.size w w' := by
  obtain ⟨b1, o1, e1, l1, p1⟩ := ha.at_
  obtain ⟨b2, o2, e2, l2, p2⟩ := hb.at_
  rw [hl] at e1 l1 e2 l2
  have HC1 := Lib.hid p1
  have HC2 := Lib.hid p2
  have HL := Lib.hid hl
  clear p1 p2 hl ha hb
  go_enter Try.func21, Try.ntmps21
  go_wp2_with fail
  go_loopw [5] (fun i wr => ∃ (k d : Nat), k ≤ n ∧ i = .int .i64 k ∧ wr = w.drewN d) (fun i _ => n - (intOf i).toNat)
  case atStart => exact ⟨0, 0, by omega, rfl, rfl⟩
  case round =>
    obtain ⟨k, d, hk, rfl, rfl⟩ := hrel
    by_cases hlt : k < n
    · have hkl : k < es.length := by rw [HL.out]; exact hlt
      have hki : (k : Int) < (n : Int) := by omega
      obtain rfl := e1 (by omega)
      obtain rfl := e2 (by omega)
      have l1 := l1 (by omega)
      have l2 := l2 (by omega)
      obtain ⟨g0, g1, g2, g3⟩ := HC1.out k hkl
      obtain ⟨h0, h1, h2, h3⟩ := HC2.out k hkl
      obtain ⟨E, hE⟩ : ∃ E, E = es[k] := ⟨_, rfl⟩
      rw [← hE] at g0 g1 g2 g3 h0 h1 h2 h3
      obtain ⟨x1, x2, x3, x4⟩ := E
      clear hE
      go_wp2_with fail
      go_quiet (fail)
      go_wp2_with fail
      go_roundw
      case rel => exact ⟨k + 1, _, by omega, by go_num, rfl⟩
      case measure => simp [intOf]; omega
    · obtain rfl : k = n := by omega
      go_wp2_with fail
      go_ret
      exact ⟨rfl, below_drewN (Below.refl _ _) _⟩
set_option maxHeartbeats 4000000 in
theorem sameed_any (V V' : Value) (d : Ed) (w : World) (h : EV w V d) (h' : EV w V' d) : Calls Try.prog 15 #[V, V'] w fun e w' => e = .returned (.bool true) ∧ Below w.heap.size w w' := by
  obtain ⟨aa, an, ac, da, dn, dc, rfl, hst, hsz, -⟩ := h
  obtain ⟨aa', an', ac', da', dn', dc', rfl, hst', hsz', -⟩ := h'
  obtain ⟨ts, zs, lg, nx⟩ := d
  simp only at *
  obtain rfl : an = an' := hst.1.symm.trans hst'.1
  obtain rfl : dn = dn' := hsz.1.symm.trans hsz'.1
  have hb1 : an < 9223372036854775808 := by have := hst.2.2.1; have := hst.2.2.2; unfold maxLen at this; omega
  have hb2 : dn < 9223372036854775808 := by have := hsz.2.2.1; have := hsz.2.2.2; unfold maxLen at this; omega
  have C1 := Lib.hid fun (wx : World) (hx : Below w.heap.size w wx) => samet_any aa aa' an ac ac' ts wx (hst.2.1.old hx) (hst'.2.1.old hx) hb1 hst.1
  have C2 := Lib.hid fun (wx : World) (hx : Below w.heap.size w wx) => samei_any da da' dn dc dc' zs wx (hsz.2.1.old hx) (hsz'.2.1.old hx) hb2 hsz.1
  clear hst hst' hsz hsz' hb1 hb2
  have hx := EdBox.new w 25 (.slice aa an ac) (.slice da dn dc) lg nx
  have hb0 := box_bel w (.cells #[.slice aa an ac, .slice da dn dc, .int .i64 lg, .int .i64 nx] 25)
  go_enter Try.func15, Try.ntmps15
  go_wp2_with fail
  have hz : (w.alloc (.cells #[.slice aa an ac, .slice da dn dc, .int .i64 lg, .int .i64 nx] 25)).heap.size = w.heap.size + 1 := by simp
  generalize w.alloc (.cells #[.slice aa an ac, .slice da dn dc, .int .i64 lg, .int .i64 nx] 25) = wa at *
  have hx2 := hx.below (box_bel wa (.cells #[.slice aa' an ac', .slice da' dn dc', .int .i64 lg, .int .i64 nx] 25))
  have hy2 := EdBox.new wa 25 (.slice aa' an ac') (.slice da' dn dc') lg nx
  have hb2 := hb0.trans ((box_bel wa (.cells #[.slice aa' an ac', .slice da' dn dc', .int .i64 lg, .int .i64 nx] 25)).mono hb0.size)
  have HB2 := Lib.hid hb2
  rw [hz] at hy2
  have HX2 := Lib.hid (And.intro hx2 hy2)
  clear hx hb0 hx2 hy2 hb2 hz
  generalize wa.alloc (.cells #[.slice aa' an ac', .slice da' dn dc', .int .i64 lg, .int .i64 nx] 25) = wq at *
  refine (C1.out _ HB2.out).mono ?_
  rintro e w3 ⟨rfl, b3⟩
  have HB3 := Lib.hid (HB2.out.trans (b3.mono HB2.out.size))
  have HX3 := Lib.hid (And.intro (HX2.out.1.below b3) (HX2.out.2.below b3))
  obtain ⟨x0, x1, x2, x3, x4⟩ := HX3.out.1
  obtain ⟨y0, y1, y2, y3, y4⟩ := HX3.out.2
  clear b3 HX2 C1
  go_wp2_with fail
  refine (C2.out _ HB3.out).mono ?_
  rintro e w4 ⟨rfl, b4⟩
  have HB4 := Lib.hid (HB3.out.trans (b4.mono HB3.out.size))
  have HX4 := Lib.hid (And.intro (HX3.out.1.below b4) (HX3.out.2.below b4))
  clear b4 C2 x0 x1 x2 x3 x4 y0 y1 y2 y3 y4 HX3
  obtain ⟨x0, x1, x2, x3, x4⟩ := HX4.out.1
  obtain ⟨y0, y1, y2, y3, y4⟩ := HX4.out.2
  go_wp2_with fail
  go_ret
  exact ⟨rfl, HB4.out⟩
/-- The box of a state. -/
def SBox (w : World) (x : Nat) (A : Value) (lg nx : Int) : Prop := w.cell? ⟨x, 0, none⟩ = some A ∧ w.cell? ⟨x, 1, none⟩ = some (.int .i64 lg) ∧ w.cell? ⟨x, 2, none⟩ = some (.int .i64 nx) ∧ x < w.heap.size
theorem SBox.below {w w' : World} {x : Nat} {A : Value} {lg nx : Int} (h : SBox w x A lg nx) (hb : Below w.heap.size w w') : SBox w' x A lg nx :=
  ⟨(hb.cell (p := ⟨x, 0, none⟩) h.2.2.2).trans h.1, (hb.cell (p := ⟨x, 1, none⟩) h.2.2.2).trans h.2.1, (hb.cell (p := ⟨x, 2, none⟩) h.2.2.2).trans h.2.2.1, Nat.lt_of_lt_of_le h.2.2.2 hb.size⟩
theorem SBox.new (w : World) (T : TypeId) (A : Value) (lg nx : Int) : SBox (w.alloc (.cells #[A, .int .i64 lg, .int .i64 nx] T)) w.heap.size A lg nx := ⟨by simp, by simp, by simp, by simp⟩
set_option maxHeartbeats 4000000 in
theorem samest_any (V V' : Value) (s : St) (w : World) (h : SV w V s) (h' : SV w V' s) : Calls Try.prog 20 #[V, V'] w fun e w' => e = .returned (.bool true) ∧ Below w.heap.size w w' := by
  obtain ⟨aa, an, ac, rfl, hst, -⟩ := h
  obtain ⟨aa', an', ac', rfl, hst', -⟩ := h'
  obtain ⟨ts, lg, nx⟩ := s
  simp only at *
  obtain rfl : an = an' := hst.1.symm.trans hst'.1
  have hb1 : an < 9223372036854775808 := by have := hst.2.2.1; have := hst.2.2.2; unfold maxLen at this; omega
  have C1 := Lib.hid fun (wx : World) (hx : Below w.heap.size w wx) => samet_any aa aa' an ac ac' ts wx (hst.2.1.old hx) (hst'.2.1.old hx) hb1 hst.1
  clear hst hst' hb1
  have hx := SBox.new w 38 (.slice aa an ac) lg nx
  have hb0 := box_bel w (.cells #[.slice aa an ac, .int .i64 lg, .int .i64 nx] 38)
  go_enter Try.func20, Try.ntmps20
  go_wp2_with fail
  have hz : (w.alloc (.cells #[.slice aa an ac, .int .i64 lg, .int .i64 nx] 38)).heap.size = w.heap.size + 1 := by simp
  generalize w.alloc (.cells #[.slice aa an ac, .int .i64 lg, .int .i64 nx] 38) = wa at *
  have hx2 := hx.below (box_bel wa (.cells #[.slice aa' an ac', .int .i64 lg, .int .i64 nx] 38))
  have hy2 := SBox.new wa 38 (.slice aa' an ac') lg nx
  have hb2 := hb0.trans ((box_bel wa (.cells #[.slice aa' an ac', .int .i64 lg, .int .i64 nx] 38)).mono hb0.size)
  have HB2 := Lib.hid hb2
  rw [hz] at hy2
  have HX2 := Lib.hid (And.intro hx2 hy2)
  clear hx hb0 hx2 hy2 hb2 hz
  generalize wa.alloc (.cells #[.slice aa' an ac', .int .i64 lg, .int .i64 nx] 38) = wq at *
  refine (C1.out _ HB2.out).mono ?_
  rintro e w3 ⟨rfl, b3⟩
  have HB3 := Lib.hid (HB2.out.trans (b3.mono HB2.out.size))
  obtain ⟨x0, x1, x2, x3⟩ := HX2.out.1.below b3
  obtain ⟨y0, y1, y2, y3⟩ := HX2.out.2.below b3
  clear b3 HX2 C1
  go_wp2_with fail
  go_ret
  exact ⟨rfl, HB3.out⟩
/-- Has an edit few tables, of keys of few bytes? -/
def liteEd (d : Ed) : Bool := (decide (d.1.length ≤ 140) && decide (d.2.1.length ≤ 140)) && (d.1.take 140).all fun t => decide (t.2.2.1.size ≤ 100) && decide (t.2.2.2.size ≤ 100)
theorem liteEd_iff {d : Ed} : liteEd d = true ↔ (d.1.length ≤ 140 ∧ d.2.1.length ≤ 140) ∧ ∀ t ∈ d.1.take 140, t.2.2.1.size ≤ 100 ∧ t.2.2.2.size ≤ 100 := by unfold liteEd; simp
set_option maxHeartbeats 8000000 in
theorem light12_any (V : Value) (d : Ed) (w : World) (h : EV w V d) : Calls Try.prog 9 #[V] w fun e w' => e = .returned (.bool (liteEd d)) ∧ Below w.heap.size w w' := by
  obtain ⟨aa, an, ac, da, dn, dc, rfl, hst, hsz, hok⟩ := h
  obtain ⟨ts, zs, lg, nx⟩ := d
  obtain ⟨b, off, ha, hb, hc⟩ := hst.2.1.at_
  simp only at *
  have hl := hst.1
  have hl2 := hsz.1
  rw [hl] at ha hb
  obtain ⟨r, hr⟩ : ∃ r, liteEd (ts, zs, lg, nx) = r := ⟨_, rfl⟩
  rw [hr]
  have HNO : Hid (¬ ((an ≤ 140 ∧ dn ≤ 140) ∧ ∀ t ∈ ts.take 140, t.2.2.1.size ≤ 100 ∧ t.2.2.2.size ≤ 100) → r = false) := Lib.hid fun h => by
    rw [← hr, Bool.eq_false_iff]
    intro hm
    obtain ⟨⟨m1, m2⟩, m3⟩ := liteEd_iff.1 hm
    exact h ⟨⟨by rw [← hl]; exact m1, by rw [← hl2]; exact m2⟩, m3⟩
  have HYES : Hid (((an ≤ 140 ∧ dn ≤ 140) ∧ ∀ t ∈ ts.take 140, t.2.2.1.size ≤ 100 ∧ t.2.2.2.size ≤ 100) → r = true) := Lib.hid fun h => by
    rw [← hr]
    exact liteEd_iff.2 ⟨⟨by show ts.length ≤ 140; omega, by show zs.length ≤ 140; omega⟩, h.2⟩
  have HC := Lib.hid hc
  have HL := Lib.hid hl
  have HOK := Lib.hid hok
  have HB0 := Lib.hid (box_bel w (.cells #[.slice aa an ac, .slice da dn dc, .int .i64 lg, .int .i64 nx] 25))
  have bx := EdBox.new w 25 (.slice aa an ac) (.slice da dn dc) lg nx
  clear hr hc hl hl2 hst hsz hok
  go_enter Try.func9, Try.ntmps9
  go_wp2_with fail
  obtain ⟨xb, hxb⟩ : ∃ xb, xb = w.heap.size := ⟨_, rfl⟩
  rw [← hxb] at bx ⊢
  have HXB := Lib.hid hxb
  clear hxb
  generalize w.alloc (.cells #[.slice aa an ac, .slice da dn dc, .int .i64 lg, .int .i64 nx] 25) = wb at *
  obtain ⟨y0, y1, y2, y3, y4⟩ := bx
  go_loopw [3] (fun i wr => ∃ k : Nat, i = .int .i64 k ∧ k ≤ an ∧ k ≤ 140 ∧ wr = wb ∧ Hid (∀ j (h : j < ts.length), j < k → ts[j].2.2.1.size ≤ 100 ∧ ts[j].2.2.2.size ≤ 100)) (fun i _ => an - (intOf i).toNat)
  case atStart => exact ⟨0, rfl, by omega, by omega, rfl, Lib.hid (fun j h hj => by omega)⟩
  case round =>
    obtain ⟨k, rfl, hk, hk2, rfl, HK⟩ := hrel
    have fin : (¬ k < an ∨ ¬ k < 140) → ∀ t ∈ ts.take 140, t.2.2.1.size ≤ 100 ∧ t.2.2.2.size ≤ 100 := fun h t ht => by
      obtain ⟨j, hj, rfl⟩ := List.getElem_of_mem ht
      rw [List.length_take] at hj
      rw [List.getElem_take]
      exact HK.out j (by omega) (by have := HL.out; omega)
    have FIN := Lib.hid fin
    clear fin
    by_cases hlt : k < an
    · have hki : (k : Int) < (an : Int) := by omega
      by_cases h140 : k < 140
      · have h140z : (k : Int) < 140 := by omega
        obtain rfl := ha (by omega)
        have hbw := hb (by omega)
        have hkl : k < ts.length := by rw [HL.out]; exact hlt
        obtain ⟨g0, g1, g2, g3⟩ := HC.out.old hbw HB0.out k hkl
        have hbr : b < wr.heap.size := Nat.lt_of_lt_of_le hbw HB0.out.size
        have hin : ts[k] ∈ ts.take 140 := by
          rw [List.mem_take_iff_getElem]
          exact ⟨k, by omega, rfl⟩
        obtain ⟨E, hE⟩ : ∃ E, E = ts[k] := ⟨_, rfl⟩
        rw [← hE] at g0 g1 g2 g3 hin
        obtain ⟨x1, x2, x3, x4⟩ := E
        by_cases s1 : x3.size ≤ 100
        · have s1z : ¬ (100 : Int) < (x3.size : Int) := by omega
          by_cases s2 : x4.size ≤ 100
          · have s2z : ¬ (100 : Int) < (x4.size : Int) := by omega
            have HN : Hid (∀ j (h : j < ts.length), j < k + 1 → ts[j].2.2.1.size ≤ 100 ∧ ts[j].2.2.2.size ≤ 100) := Lib.hid fun j h hj => by
              by_cases e : j = k
              · subst e; rw [← hE]; exact ⟨s1, s2⟩
              · exact HK.out j h (by omega)
            clear hE hin s1 s2
            go_wp2_with fail
            go_roundw
            case rel => exact ⟨k + 1, by go_num, by omega, by omega, by first | rfl | trivial, HN⟩
            case measure => simp [intOf]; omega
          · have s2z : (100 : Int) < (x4.size : Int) := by omega
            obtain rfl := HNO.out (fun q => s2 (q.2 _ hin).2)
            clear hE hin s1 s2
            go_wp2_with fail
            go_ret
            exact ⟨rfl, HB0.out⟩
        · have s1z : (100 : Int) < (x3.size : Int) := by omega
          obtain rfl := HNO.out (fun q => s1 (q.2 _ hin).1)
          clear hE hin s1
          go_wp2_with fail
          go_ret
          exact ⟨rfl, HB0.out⟩
      · have h140z : ¬ (k : Int) < 140 := by omega
        have hnz : ¬ (an : Int) ≤ 140 := by omega
        obtain rfl := HNO.out (fun q => by omega)
        go_wp2_with fail
        go_ret
        exact ⟨rfl, HB0.out⟩
    · have hki : ¬ (k : Int) < (an : Int) := by omega
      have h1z : (an : Int) ≤ 140 := by omega
      have hall := FIN.out (.inl hlt)
      by_cases h2 : dn ≤ 140
      · have h2z : (dn : Int) ≤ 140 := by omega
        obtain rfl := HYES.out ⟨⟨by omega, h2⟩, hall⟩
        clear hall
        go_wp2_with fail
        go_ret
        exact ⟨rfl, HB0.out⟩
      · have h2z : ¬ (dn : Int) ≤ 140 := by omega
        obtain rfl := HNO.out (fun q => h2 q.1.2)
        clear hall
        go_wp2_with fail
        go_ret
        refine ⟨?_, HB0.out⟩
        first | rfl | (congr 2; exact decide_eq_false h2z)
end Go.Proofs.Ytkpemlgolpihiaa
namespace Go.Proofs.Ytkpemlgolpihiaa
set_option maxRecDepth 100000
open Go.RowKit
set_option linter.unusedVariables false
set_option linter.unusedSimpArgs false

def ovP (v : Int) (lo hi : ByteArray) (t : Tb) : Bool := decide (t.2.1 = v) && !ltB t.2.2.2 lo && !ltB hi t.2.2.1
/-- The tables of a level that have keys from lo to hi. -/
def ovT (ts : List Tb) (v : Int) (lo hi : ByteArray) : List Tb := ts.filter (ovP v lo hi)
theorem tb_snoc (P : Tb → Bool) (es : List Tb) (e : Tb) : (es ++ [e]).filter P = es.filter P ++ (if P e = true then [e] else []) := by
  rw [List.filter_append]
  congr 1
  cases h : P e with
  | false => simp [h]
  | true => simp [h]
theorem cmp3 (a b : ByteArray) : (Op.bytesLess a.toList b.toList = true ∧ Op.bytesLess b.toList a.toList = false ∧ (a.toList == b.toList) = false ∧ (b.toList == a.toList) = false) ∨ (Op.bytesLess a.toList b.toList = false ∧ Op.bytesLess b.toList a.toList = true ∧ (a.toList == b.toList) = false ∧ (b.toList == a.toList) = false) ∨ (Op.bytesLess a.toList b.toList = false ∧ Op.bytesLess b.toList a.toList = false ∧ (a.toList == b.toList) = true ∧ (b.toList == a.toList) = true) := by
  have ne : ∀ {x y : ByteArray}, Op.bytesLess x.toList y.toList = true → (x.toList == y.toList) = false := fun h => by
    rw [beq_eq_false_iff_ne]
    intro e
    rw [e, less_irr] at h
    cases h
  cases h1 : Op.bytesLess a.toList b.toList with
  | true => exact .inl ⟨rfl, less_asymm _ _ h1, ne h1, by rw [Bool.eq_false_iff]; intro e; have := ne h1; rw [beq_iff_eq] at e; rw [e] at this; simp at this⟩
  | false =>
    cases h2 : Op.bytesLess b.toList a.toList with
    | true => exact .inr (.inl ⟨rfl, rfl, by rw [Bool.eq_false_iff]; intro e; have := ne h2; rw [beq_iff_eq] at e; rw [e] at this; simp at this, ne h2⟩)
    | false =>
      have e := less_total _ _ h1 h2
      rw [e]
      simp
set_option maxRecDepth 1000000 in
set_option maxHeartbeats 16000000 in
theorem rov_any (V : Value) (s : St) (v : Int) (lo hi : ByteArray) (w : World) (h : SV w V s) (hlen : s.1.length ≤ 50000) :
    Calls Try.prog 23 #[V, .int .i64 v, .string lo, .string hi] w (PT (ovT s.1 v lo hi) w) := by
  obtain ⟨i0, hi0, hz0, hz1, hz2⟩ := info_parts Try.infoTab
  obtain ⟨a, n, cap, rfl, hst, hok⟩ := h
  obtain ⟨ts, lg, nx'⟩ := s
  obtain ⟨b, off, ha, hb, hc⟩ := hst.2.1.at_
  simp only at *
  have hl := hst.1
  rw [hl] at ha hb hlen
  obtain ⟨PP, hPP⟩ : ∃ PP : Tb → Bool, PP = ovP v lo hi := ⟨_, rfl⟩
  have hR : ovT ts v lo hi = ts.filter PP := by rw [hPP]; rfl
  rw [hR]
  have HPP := Lib.hid hPP

  have HC := Lib.hid hc
  have HL := Lib.hid hl
  have HB0 := Lib.hid (box_bel w (.cells #[.slice a n cap, .int .i64 lg, .int .i64 nx'] 38))
  have bx := SBox.new w 38 (.slice a n cap) lg nx'
  clear hst hok hc hl hR hPP
  go_enter Try.func23, Try.ntmps23
  go_wp2_with fail
  obtain ⟨xb, hxb⟩ : ∃ xb, xb = w.heap.size := ⟨_, rfl⟩
  rw [← hxb] at bx ⊢
  have HXB := Lib.hid hxb
  clear hxb
  generalize w.alloc (.cells #[.slice a n cap, .int .i64 lg, .int .i64 nx'] 38) = wb at *
  have BX := Lib.hid bx
  clear bx
  go_loopw [9, 10, 11] (fun l i _ wr => ∃ (k m : Nat), i = .int .i64 k ∧ k ≤ n ∧ m ≤ k ∧ Hid (m = ((ts.take k).filter PP).length ∧ wr.ownsRow wb.heap.size 49 4 l m (tv4 ((ts.take k).filter PP))) ∧ Hid (Below wb.heap.size wb wr)) (fun _ i _ _ => n - (intOf i).toNat)
  case atStart => exact ⟨0, 0, by first | rfl | go_num, by omega, by omega, Lib.hid ⟨rfl, World.ownsRow_nil _ _ _ _⟩, Lib.hid (Below.refl _ _)⟩
  case round =>
    obtain ⟨k, m, rfl, hk, hm, HM, HW⟩ := hrel
    obtain ⟨y0, y1, y2, y3⟩ := BX.out.below HW.out
    have hws : wb.heap.size ≤ wr.heap.size := HW.out.size
    by_cases hlt : k < n
    · have hki : (k : Int) < (n : Int) := by omega
      obtain rfl := ha (by omega)
      have hbw := hb (by omega)
      have hkl : k < ts.length := by rw [HL.out]; exact hlt
      have hbel : Below w.heap.size w wr := HB0.out.trans (HW.out.mono HB0.out.size)
      obtain ⟨g0, g1, g2, g3⟩ := HC.out.old hbw hbel k hkl
      have hbr : b < wr.heap.size := Nat.lt_of_lt_of_le hbw hbel.size
      have hs := tb_snoc PP (ts.take k) ts[k]
      rw [← List.take_succ_eq_append_getElem hkl] at hs
      obtain ⟨E, hE⟩ : ∃ E, E = ts[k] := ⟨_, rfl⟩
      rw [← hE] at g0 g1 g2 g3 hs
      obtain ⟨x1, x2, x3, x4⟩ := E
      obtain ⟨c, hcc⟩ : ∃ c, PP (x1, x2, x3, x4) = c := ⟨_, rfl⟩
      rw [hcc] at hs
      have hce : c = (decide (x2 = v) && !ltB x4 lo && !ltB hi x3) := by rw [← hcc, HPP.out]; rfl
      have HN := Lib.hid hs
      have HT := Lib.hid (TBox.new wr 49 (x1, x2, x3, x4))
      have HAL := Lib.hid (box_bel wr (.cells #[.int .i64 x1, .int .i64 x2, .string x3, .string x4] 49))
      have HROW := Lib.hid (And.intro HM.out.1 (HM.out.2.alloc (.cells #[.int .i64 x1, .int .i64 x2, .string x3, .string x4] 49)))
      obtain ⟨tb, htb⟩ : ∃ tb, tb = wr.heap.size := ⟨_, rfl⟩
      clear hE hs hcc HM hbel
      go_upto_region 6 with fail
      rw [← htb] at HT ⊢
      clear htb y0 y1 y2 y3 g0 g1 g2 g3 hbr
      have hwa := HAL.out.size
      generalize wr.alloc (.cells #[.int .i64 x1, .int .i64 x2, .string x3, .string x4] 49) = wa at *
      obtain ⟨t0, t1, t2, t3, t4⟩ := HT.out
      go_cut [39] from 24 to 39 (fun s9 wx => s9 = .bool c ∧ wx = wa)
      case first =>
        by_cases hv : x2 = v
        case neg =>
          obtain rfl : c = false := by rw [hce]; simp [hv]
          clear hce
          go_wp2_with fail
          go_meet
          case rel => exact ⟨rfl, rfl⟩
        case pos =>
        subst hv
        rcases cmp3 x4 lo with ⟨p1, p2, p3, p4⟩ | ⟨p1, p2, p3, p4⟩ | ⟨p1, p2, p3, p4⟩
        · obtain rfl : c = false := by rw [hce, show ltB x4 lo = true from p1]; simp
          clear hce
          go_wp2_with fail
          go_meet
          case rel => exact ⟨rfl, rfl⟩
        all_goals
          rcases cmp3 hi x3 with ⟨q1, q2, q3, q4⟩ | ⟨q1, q2, q3, q4⟩ | ⟨q1, q2, q3, q4⟩
          all_goals
            have hc2 : c = !ltB hi x3 := by rw [hce, show ltB x4 lo = false from p1]; simp
            have hc3 : ltB hi x3 = Op.bytesLess hi.toList x3.toList := rfl
            rw [hc3, q1] at hc2
            simp only [Bool.not_true, Bool.not_false] at hc2
            subst hc2
            clear hce hc3
            go_wp2_with fail
            go_meet
            case rel => exact ⟨rfl, rfl⟩
      case rest =>
      obtain ⟨rfl, rfl⟩ := hcut
      clear hce
      cases c with
      | true =>
        have HNT := Lib.hid (show (ts.take (k + 1)).filter PP = (ts.take k).filter PP ++ [(x1, x2, x3, x4)] by rw [HN.out]; rfl)
        go_wp2_with (at_builtin; generalize hG : wpList _ _ _ _ _ _ = G)
        rw [← hG]
        clear hG
        refine wpList_append_own _ rfl (.tmp 40) (.tmp 42) 22 rfl wb.heap.size 49 i0 (.agg #[.int .i64 0, .int .i64 0, .string ⟨#[]⟩, .string ⟨#[]⟩]) 4 48 Try.underlying22 hi0 hz0 hz1 hz2 rfl (by decide) _ _ _ rfl (HROW.out.2.alloc _) ⟨wc.heap.size, 0, none⟩ 1 1 (tv (x1, x2, x3, x4)) rfl rfl ?c1 ?c2 ?c3 ?c4 ?c5 ?_
        case c1 => exact cell_new4 _ _ _ _ _ _
        case c2 => intro u hu; simp [tv] at hu; rcases hu with rfl | rfl | rfl | rfl <;> rfl
        case c3 => unfold maxLen; omega
        case c4 => omega
        case c5 => simp [go_sem]; omega
        intro v' w3 hown3 hgrow _
        have HB3 := Lib.hid (HW.out.trans ((HAL.out.mono hws).trans (((Below.refl wb.heap.size wc).alloc (by omega) _).grown hgrow (by simp [go_sem]; omega) (fun k hk => (HROW.out.2.lt k hk).1))))
        rw [tv4_snoc, ← HNT.out] at hown3
        have HR3 := Lib.hid (And.intro (show m + 1 = ((ts.take (k + 1)).filter PP).length by rw [HNT.out, List.length_append, ← HROW.out.1]; rfl) hown3)
        clear hown3 hgrow
        go_wp2_with fail
        go_roundw
        case rel => exact ⟨k + 1, m + 1, by go_num, by omega, by omega, HR3, HB3⟩
        case measure => simp [intOf]; omega
      | false =>
        have HNT := Lib.hid (show (ts.take (k + 1)).filter PP = (ts.take k).filter PP by rw [HN.out]; simp)
        have HB3 := Lib.hid (HW.out.trans (HAL.out.mono hws))
        go_wp2_with fail
        go_roundw
        case rel => exact ⟨k + 1, m, by go_num, by omega, by omega, Lib.hid ⟨by rw [HNT.out]; exact HROW.out.1, by rw [HNT.out]; exact HROW.out.2⟩, HB3⟩
        case measure => simp [intOf]; omega
    · obtain rfl : k = n := by omega
      have HE := HM.out
      rw [← HL.out, List.take_length] at HE
      obtain ⟨a', cap', rfl, hsp⟩ := own_st HE.2 (by rw [← HE.1])
      have HSP := Lib.hid hsp
      clear HE HM hsp
      go_wp2_with fail
      go_ret
      exact ⟨a', _, cap', rfl, HSP.out, HB0.out.trans (HW.out.mono HB0.out.size)⟩
set_option maxRecDepth 1000000 in
set_option maxHeartbeats 16000000 in
theorem ov_any (V : Value) (s : St) (v : Int) (lo hi : ByteArray) (w : World) (h : SV w V s) (hlen : s.1.length ≤ 50000) (nx : Int) (hs : OkT s.1 nx) :
    Calls Try.prog 22 #[V, .int .i64 v, .string lo, .string hi] w (PT (ovT s.1 v lo hi) w) := by
  obtain ⟨i0, hi0, hz0, hz1, hz2⟩ := info_parts Try.infoTab
  obtain ⟨a, n, cap, rfl, hst, hok⟩ := h
  obtain ⟨ts, lg, nx'⟩ := s
  obtain ⟨b, off, ha, hb, hc⟩ := hst.2.1.at_
  simp only at *
  have hl := hst.1
  rw [hl] at ha hb hlen
  obtain ⟨PP, hPP⟩ : ∃ PP : Tb → Bool, PP = ovP v lo hi := ⟨_, rfl⟩
  have hR : ovT ts v lo hi = ts.filter PP := by rw [hPP]; rfl
  rw [hR]
  have HPP := Lib.hid hPP
  have HS := Lib.hid hs
  have HC := Lib.hid hc
  have HL := Lib.hid hl
  have HB0 := Lib.hid (box_bel w (.cells #[.slice a n cap, .int .i64 lg, .int .i64 nx'] 38))
  have bx := SBox.new w 38 (.slice a n cap) lg nx'
  clear hst hok hc hl hR hPP hs
  go_enter Try.func22, Try.ntmps22
  go_wp2_with fail
  obtain ⟨xb, hxb⟩ : ∃ xb, xb = w.heap.size := ⟨_, rfl⟩
  rw [← hxb] at bx ⊢
  have HXB := Lib.hid hxb
  clear hxb
  generalize w.alloc (.cells #[.slice a n cap, .int .i64 lg, .int .i64 nx'] 38) = wb at *
  have BX := Lib.hid bx
  clear bx
  go_loopw [9, 11, 15] (fun l _ i wr => ∃ (k m : Nat), i = .int .i64 k ∧ k ≤ n ∧ m ≤ k ∧ Hid (m = ((ts.take k).filter PP).length ∧ wr.ownsRow wb.heap.size 49 4 l m (tv4 ((ts.take k).filter PP))) ∧ Hid (Below wb.heap.size wb wr)) (fun _ _ i _ => n - (intOf i).toNat)
  case atStart => exact ⟨0, 0, by first | rfl | go_num, by omega, by omega, Lib.hid ⟨rfl, World.ownsRow_nil _ _ _ _⟩, Lib.hid (Below.refl _ _)⟩
  case round =>
    obtain ⟨k, m, rfl, hk, hm, HM, HW⟩ := hrel
    obtain ⟨y0, y1, y2, y3⟩ := BX.out.below HW.out
    have hws : wb.heap.size ≤ wr.heap.size := HW.out.size
    by_cases hlt : k < n
    · have hki : (k : Int) < (n : Int) := by omega
      obtain rfl := ha (by omega)
      have hbw := hb (by omega)
      have hkl : k < ts.length := by rw [HL.out]; exact hlt
      have hbel : Below w.heap.size w wr := HB0.out.trans (HW.out.mono HB0.out.size)
      obtain ⟨g0, g1, g2, g3⟩ := HC.out.old hbw hbel k hkl
      have hbr : b < wr.heap.size := Nat.lt_of_lt_of_le hbw hbel.size
      have hs := tb_snoc PP (ts.take k) ts[k]
      rw [← List.take_succ_eq_append_getElem hkl] at hs
      obtain ⟨E, hE⟩ : ∃ E, E = ts[k] := ⟨_, rfl⟩
      rw [← hE] at g0 g1 g2 g3 hs
      obtain ⟨x1, x2, x3, x4⟩ := E
      obtain ⟨c, hcc⟩ : ∃ c, PP (x1, x2, x3, x4) = c := ⟨_, rfl⟩
      rw [hcc] at hs
      have hce : c = (decide (x2 = v) && !ltB x4 lo && !ltB hi x3) := by rw [← hcc, HPP.out]; rfl
      have HN := Lib.hid hs
      have HT := Lib.hid (TBox.new wr 49 (x1, x2, x3, x4))
      have HAL := Lib.hid (box_bel wr (.cells #[.int .i64 x1, .int .i64 x2, .string x3, .string x4] 49))
      have HROW := Lib.hid (And.intro HM.out.1 (HM.out.2.alloc (.cells #[.int .i64 x1, .int .i64 x2, .string x3, .string x4] 49)))
      obtain ⟨tb, htb⟩ : ∃ tb, tb = wr.heap.size := ⟨_, rfl⟩
      clear hE hs hcc HM hbel
      go_upto_region 5 with fail
      rw [← htb] at HT ⊢
      clear htb y0 y1 y2 y3 g0 g1 g2 g3 hbr
      have hwa := HAL.out.size
      generalize wr.alloc (.cells #[.int .i64 x1, .int .i64 x2, .string x3, .string x4] 49) = wa at *
      obtain ⟨t0, t1, t2, t3, t4⟩ := HT.out
      go_cut [34] from 19 to 34 (fun s9 wx => s9 = .bool c ∧ wx = wa)
      case first =>
        by_cases hv : x2 = v
        case neg =>
          obtain rfl : c = false := by rw [hce]; simp [hv]
          clear hce
          go_wp2_with fail
          go_meet
          case rel => exact ⟨rfl, rfl⟩
        case pos =>
        subst hv
        rcases cmp3 x4 lo with ⟨p1, p2, p3, p4⟩ | ⟨p1, p2, p3, p4⟩ | ⟨p1, p2, p3, p4⟩
        · obtain rfl : c = false := by rw [hce, show ltB x4 lo = true from p1]; simp
          clear hce
          go_wp2_with fail
          go_meet
          case rel => exact ⟨rfl, rfl⟩
        all_goals
          rcases cmp3 hi x3 with ⟨q1, q2, q3, q4⟩ | ⟨q1, q2, q3, q4⟩ | ⟨q1, q2, q3, q4⟩
          all_goals
            have hc2 : c = !ltB hi x3 := by rw [hce, show ltB x4 lo = false from p1]; simp
            have hc3 : ltB hi x3 = Op.bytesLess hi.toList x3.toList := rfl
            rw [hc3, q1] at hc2
            simp only [Bool.not_true, Bool.not_false] at hc2
            subst hc2
            clear hce hc3
            go_wp2_with fail
            go_meet
            case rel => exact ⟨rfl, rfl⟩
      case rest =>
      obtain ⟨rfl, rfl⟩ := hcut
      clear hce
      cases c with
      | true =>
        have HNT := Lib.hid (show (ts.take (k + 1)).filter PP = (ts.take k).filter PP ++ [(x1, x2, x3, x4)] by rw [HN.out]; rfl)
        go_wp2_with (at_builtin; generalize hG : wpList _ _ _ _ _ _ = G)
        rw [← hG]
        clear hG
        refine wpList_append_own _ rfl (.tmp 35) (.tmp 37) 22 rfl wb.heap.size 49 i0 (.agg #[.int .i64 0, .int .i64 0, .string ⟨#[]⟩, .string ⟨#[]⟩]) 4 48 Try.underlying22 hi0 hz0 hz1 hz2 rfl (by decide) _ _ _ rfl (HROW.out.2.alloc _) ⟨wc.heap.size, 0, none⟩ 1 1 (tv (x1, x2, x3, x4)) rfl rfl ?c1 ?c2 ?c3 ?c4 ?c5 ?_
        case c1 => exact cell_new4 _ _ _ _ _ _
        case c2 => intro u hu; simp [tv] at hu; rcases hu with rfl | rfl | rfl | rfl <;> rfl
        case c3 => unfold maxLen; omega
        case c4 => omega
        case c5 => simp [go_sem]; omega
        intro v' w3 hown3 hgrow _
        have HB3 := Lib.hid (HW.out.trans ((HAL.out.mono hws).trans (((Below.refl wb.heap.size wc).alloc (by omega) _).grown hgrow (by simp [go_sem]; omega) (fun k hk => (HROW.out.2.lt k hk).1))))
        rw [tv4_snoc, ← HNT.out] at hown3
        have HR3 := Lib.hid (And.intro (show m + 1 = ((ts.take (k + 1)).filter PP).length by rw [HNT.out, List.length_append, ← HROW.out.1]; rfl) hown3)
        clear hown3 hgrow
        go_wp2_with fail
        go_roundw
        case rel => exact ⟨k + 1, m + 1, by go_num, by omega, by omega, HR3, HB3⟩
        case measure => simp [intOf]; omega
      | false =>
        have HNT := Lib.hid (show (ts.take (k + 1)).filter PP = (ts.take k).filter PP by rw [HN.out]; simp)
        have HB3 := Lib.hid (HW.out.trans (HAL.out.mono hws))
        go_wp2_with fail
        go_roundw
        case rel => exact ⟨k + 1, m, by go_num, by omega, by omega, Lib.hid ⟨by rw [HNT.out]; exact HROW.out.1, by rw [HNT.out]; exact HROW.out.2⟩, HB3⟩
        case measure => simp [intOf]; omega
    · obtain rfl : k = n := by omega
      have HE := HM.out
      rw [← HL.out, List.take_length] at HE
      obtain ⟨hml, hrow⟩ := HE
      rw [hml] at hrow
      obtain ⟨a', cap', rfl, hcall⟩ := sortTab_any wb.heap.size _ (ts.filter PP) wr hws (by have := List.length_filter_le PP ts; have := HL.out; omega) hrow
      have HCALL := Lib.hid hcall
      have HML := Lib.hid hml
      rw [← hml] at HCALL ⊢
      clear hrow hml hcall HM
      go_wp2_with fail
      refine HCALL.out.mono ?_
      rintro e w4 ⟨rfl, L, hp, hw, hst, hb4⟩
      have hLe : L = ts.filter PP := by
        have hsub : (ts.filter PP).Sublist ts := List.filter_sublist
        exact wk_eq hw (sr_wk (HS.out.sr.sublist hsub)) hp (fun t ht => HS.out.may t (hsub.subset (hp.mem_iff.1 ht))) ((hp.map _).nodup_iff.2 ((hsub.map _).nodup HS.out.ids)) ((Apt.perm hp).2 (HS.out.apt.sublist hsub))
      subst hLe
      have HST := Lib.hid hst
      have HB4 := Lib.hid (HB0.out.trans ((HW.out.trans hb4).mono HB0.out.size))
      clear hp hw hst hb4 HCALL
      go_wp2_with fail
      go_ret
      exact ⟨_, _, _, rfl, HST.out, HB4.out⟩
end Go.Proofs.Ytkpemlgolpihiaa
namespace Go.Proofs.Ytkpemlgolpihiaa
set_option maxRecDepth 100000
open Go.RowKit
set_option linter.unusedVariables false
set_option linter.unusedSimpArgs false

theorem near_split : ∀ (l : List Tb) (k : Nat) (h : k + 1 < l.length), nearT (l.drop k) = (!(decide (0 < l[k + 1].2.1) && decide (l[k + 1].2.1 = l[k].2.1) && !ltB l[k].2.2.2 l[k + 1].2.2.1) && nearT (l.drop (k + 1))) := by
  intro l k h
  rw [List.drop_eq_getElem_cons (show k < l.length by omega), List.drop_eq_getElem_cons h]
  rfl
theorem near_end {l : List Tb} {k : Nat} (h : l.length ≤ k + 1) : nearT (l.drop k) = true := by
  by_cases hk : k < l.length
  · rw [List.drop_eq_getElem_cons hk, List.drop_eq_nil_of_le (by omega)]; rfl
  · rw [List.drop_eq_nil_of_le (by omega)]; rfl
theorem keep8 {w w' : World} {b x0 x1 x2 x3 y0 y1 y2 y3 : Nat} {u0 u1 u2 u3 v0 v1 v2 v3 : Value} (h : w.cell? ⟨b, x0, none⟩ = some u0 ∧ w.cell? ⟨b, x1, none⟩ = some u1 ∧ w.cell? ⟨b, x2, none⟩ = some u2 ∧ w.cell? ⟨b, x3, none⟩ = some u3 ∧ w.cell? ⟨b, y0, none⟩ = some v0 ∧ w.cell? ⟨b, y1, none⟩ = some v1 ∧ w.cell? ⟨b, y2, none⟩ = some v2 ∧ w.cell? ⟨b, y3, none⟩ = some v3) (hw : Below w.heap.size w w') :
    w'.cell? ⟨b, x0, none⟩ = some u0 ∧ w'.cell? ⟨b, x1, none⟩ = some u1 ∧ w'.cell? ⟨b, x2, none⟩ = some u2 ∧ w'.cell? ⟨b, x3, none⟩ = some u3 ∧ w'.cell? ⟨b, y0, none⟩ = some v0 ∧ w'.cell? ⟨b, y1, none⟩ = some v1 ∧ w'.cell? ⟨b, y2, none⟩ = some v2 ∧ w'.cell? ⟨b, y3, none⟩ = some v3 := by
  obtain ⟨h0, h1, h2, h3, h4, h5, h6, h7⟩ := h
  have hb : b < w.heap.size := cell_lt h0
  have k : ∀ (x : Nat) (u : Value), w.cell? ⟨b, x, none⟩ = some u → w'.cell? ⟨b, x, none⟩ = some u := fun x u h => (hw.cell (p := ⟨b, x, none⟩) hb).trans h
  exact ⟨k _ _ h0, k _ _ h1, k _ _ h2, k _ _ h3, k _ _ h4, k _ _ h5, k _ _ h6, k _ _ h7⟩
theorem two_box (w : World) (T : TypeId) (s t : Tb) : Below w.heap.size w (((w.alloc (.cells #[.int .i64 s.1, .int .i64 s.2.1, .string s.2.2.1, .string s.2.2.2] T)).alloc (.cells #[.int .i64 t.1, .int .i64 t.2.1, .string t.2.2.1, .string t.2.2.2] T)).drew)
    ∧ TBox (((w.alloc (.cells #[.int .i64 s.1, .int .i64 s.2.1, .string s.2.2.1, .string s.2.2.2] T)).alloc (.cells #[.int .i64 t.1, .int .i64 t.2.1, .string t.2.2.1, .string t.2.2.2] T)).drew) w.heap.size s
    ∧ TBox (((w.alloc (.cells #[.int .i64 s.1, .int .i64 s.2.1, .string s.2.2.1, .string s.2.2.2] T)).alloc (.cells #[.int .i64 t.1, .int .i64 t.2.1, .string t.2.2.1, .string t.2.2.2] T)).drew) (w.heap.size + 1) t := by
  refine ⟨?_, ?_, ?_⟩
  · exact (((Below.refl _ w).alloc (by omega) _).alloc (by simp [go_sem]) _).drew
  · exact ⟨by simp [go_sem], by simp [go_sem], by simp [go_sem], by simp [go_sem], by simp [go_sem]⟩
  · exact ⟨by simp [go_sem], by simp [go_sem], by simp [go_sem], by simp [go_sem], by simp [go_sem]⟩
set_option maxRecDepth 1000000 in
set_option maxHeartbeats 16000000 in
theorem apart_any (a : Option Addr) (n cap : Nat) (ts : List Tb) (w : World) (hst : ST w a n cap ts) (hn : n ≤ 100000) :
    Calls Try.prog 45 #[.slice a n cap] w fun e w' => e = .returned (.bool (nearT ts)) ∧ Below w.heap.size w w' := by
  obtain ⟨b, off, ha, hb, hc⟩ := hst.2.1.at_
  have hl := hst.1
  rw [hl] at ha hb
  obtain ⟨r, hr⟩ : ∃ r, nearT ts = r := ⟨_, rfl⟩
  rw [hr]
  have HC := Lib.hid hc
  have HL := Lib.hid hl
  have HR := Lib.hid hr
  clear hst hc hl hr
  go_enter Try.func45, Try.ntmps45
  go_wp2_with fail
  go_loopw [3, 4, 5] (fun i _ _ wr => ∃ k : Nat, i = .int .i64 (k + 1 : Nat) ∧ k ≤ n ∧ Hid (nearT (ts.drop k) = r) ∧ Hid (Below w.heap.size w wr)) (fun i _ _ _ => n + 1 - (intOf i).toNat)
  case atStart => exact ⟨0, rfl, by omega, HR, Lib.hid (Below.refl _ _)⟩
  case round =>
    obtain ⟨k, rfl, hk, HK, HW⟩ := hrel
    by_cases hlt : k + 1 < n
    · have hki : ((k + 1 : Nat) : Int) < (n : Int) := by omega
      have hki2 : (k : Int) + 1 < (n : Int) := by omega
      have hki3 : (k : Int) < (n : Int) := by omega
      have hq1 : (0 : Int) ≤ (k : Int) + 1 := by omega
      have hq2 : ((k : Int) + 1).toNat = k + 1 := by omega
      have hq3 : ¬ ((k : Int) + 1 < 0) := by omega
      have hwk : IntKind.i64.wrap (k : Int) = (k : Int) := i64_wrap_nat k (by omega)
      obtain rfl := ha (by omega)
      have hbw := hb (by omega)
      have hkl : k < ts.length := by rw [HL.out]; omega
      have hkl2 : k + 1 < ts.length := by rw [HL.out]; omega
      have hat := HC.out.old hbw HW.out
      obtain ⟨g0, g1, g2, g3⟩ := hat k hkl
      obtain ⟨h0, h1, h2, h3⟩ := hat (k + 1) hkl2
      have hbr : b < wr.heap.size := Nat.lt_of_lt_of_le hbw HW.out.size
      have hsp := near_split ts k hkl2
      rw [HK.out] at hsp
      obtain ⟨E, hE⟩ : ∃ E, E = ts[k] := ⟨_, rfl⟩
      obtain ⟨F, hF⟩ : ∃ F, F = ts[k + 1] := ⟨_, rfl⟩
      rw [← hE] at g0 g1 g2 g3 hsp
      rw [← hF] at h0 h1 h2 h3 hsp
      obtain ⟨x1, x2, x3, x4⟩ := E
      obtain ⟨y1, y2, y3, y4⟩ := F
      have HSP := Lib.hid hsp
      have e1 : off + (k + 1) * 4 = off + k * 4 + 4 := by omega
      rw [e1] at h0 h1 h2 h3
      have HG := Lib.hid (And.intro g0 (And.intro g1 (And.intro g2 (And.intro g3 (And.intro h0 (And.intro h1 (And.intro h2 h3)))))))
      clear hE hF hsp hat HK
      go_upto_region 4 with fail
      go_cut [4, 5] (fun s4 s5 wx => ∃ p q, s4 = .pointer (some ⟨p, 0, none⟩) ∧ s5 = .pointer (some ⟨q, 0, none⟩) ∧ Hid (Below wr.heap.size wr wx ∧ TBox wx p (x1, x2, x3, x4) ∧ TBox wx q (y1, y2, y3, y4)))
      case first =>
        go_region_held3 (fun w' => w'.cell? ⟨b, off + k * 4, none⟩ = some (.int .i64 x1) ∧ w'.cell? ⟨b, off + k * 4 + 1, none⟩ = some (.int .i64 x2) ∧ w'.cell? ⟨b, off + k * 4 + 2, none⟩ = some (.string x3) ∧ w'.cell? ⟨b, off + k * 4 + 3, none⟩ = some (.string x4) ∧ w'.cell? ⟨b, off + k * 4 + 4, none⟩ = some (.int .i64 y1) ∧ w'.cell? ⟨b, off + k * 4 + 4 + 1, none⟩ = some (.int .i64 y2) ∧ w'.cell? ⟨b, off + k * 4 + 4 + 2, none⟩ = some (.string y3) ∧ w'.cell? ⟨b, off + k * 4 + 4 + 3, none⟩ = some (.string y4))
          (first
            | assumption
            | exact ⟨g0, g1, g2, g3, h0, h1, h2, h3⟩
            | (refine keep8 HG.out ?_
               repeat (first | assumption | exact Below.refl _ _ | (refine Below.alloc ?_ ?_ _) | (refine Below.setCell ?_ ?_ _) | (refine Below.drew ?_))
               all_goals (first | omega | (simp; done) | (simp; omega))))
          (first | fail)
        all_goals
          go_wp2_with fail
          go_meet
          first
            | exact ⟨_, _, rfl, rfl, Lib.hid (two_box wr 49 (x1, x2, x3, x4) (y1, y2, y3, y4))⟩
            | exact ⟨_, _, rfl, rfl, Lib.hid ⟨(two_box wr 49 (y1, y2, y3, y4) (x1, x2, x3, x4)).1, (two_box wr 49 (y1, y2, y3, y4) (x1, x2, x3, x4)).2.2, (two_box wr 49 (y1, y2, y3, y4) (x1, x2, x3, x4)).2.1⟩⟩
      case rest =>
      obtain ⟨p, q, rfl, rfl, HB⟩ := hcut
      obtain ⟨a0, a1, a2, a3, a4⟩ := HB.out.2.1
      obtain ⟨b0, b1, b2, b3, b4⟩ := HB.out.2.2
      simp only at a0 a1 a2 a3 b0 b1 b2 b3
      have HBW := Lib.hid (HW.out.trans (HB.out.1.mono HW.out.size))
      have hwz := HBW.out.size
      obtain ⟨c, hce⟩ : ∃ c, c = (decide (0 < y2) && decide (y2 = x2) && !ltB x4 y3) := ⟨_, rfl⟩
      have HSQ := Lib.hid (show r = (!c && nearT (ts.drop (k + 1))) by rw [hce]; exact HSP.out)
      clear g0 g1 g2 g3 h0 h1 h2 h3 HG HSP hbr hbw HB HC
      go_upto_region 5 with fail
      go_cut [37] from 21 to 37 (fun s9 wx => s9 = .bool c ∧ wx = wc)
      case first =>
        by_cases hv : 0 < y2
        case neg =>
          obtain rfl : c = false := by rw [hce]; simp [hv]
          clear hce HSQ
          go_wp2_with fail
          go_meet
          case rel => exact ⟨rfl, rfl⟩
        case pos =>
        by_cases hu : y2 = x2
        case neg =>
          obtain rfl : c = false := by rw [hce]; simp [hu]
          clear hce HSQ
          go_wp2_with fail
          go_meet
          case rel => exact ⟨rfl, rfl⟩
        case pos =>
        subst hu
        rcases cmp3 x4 y3 with ⟨p1, p2, p3, p4⟩ | ⟨p1, p2, p3, p4⟩ | ⟨p1, p2, p3, p4⟩
        all_goals
          have hc2 : c = !ltB x4 y3 := by rw [hce]; simp [hv]
          have hc3 : ltB x4 y3 = Op.bytesLess x4.toList y3.toList := rfl
          rw [hc3, p1] at hc2
          simp only [Bool.not_true, Bool.not_false] at hc2
          subst hc2
          clear hce hc3 HSQ
          go_wp2_with fail
          go_meet
          case rel => exact ⟨rfl, rfl⟩
      case rest =>
      obtain ⟨rfl, rfl⟩ := hcut
      clear hce a0 a1 a2 a3 b0 b1 b2 b3
      cases c with
      | true =>
        obtain rfl : r = false := by rw [HSQ.out]; rfl
        clear HSQ HR
        go_wp2_with fail
        go_ret
        exact ⟨rfl, HBW.out⟩
      | false =>
        have HNX := Lib.hid (show nearT (ts.drop (k + 1)) = r by rw [HSQ.out]; rfl)
        clear HSQ
        go_wp2_with fail
        go_roundw
        case rel => exact ⟨k + 1, by go_num, by omega, HNX, HBW⟩
        case measure => simp [intOf]; omega
    · obtain rfl : r = true := by rw [← HK.out]; exact near_end (by rw [HL.out]; omega)
      clear HK HR
      have hki : ¬ ((k + 1 : Nat) : Int) < (n : Int) := by omega
      have hki2 : ¬ ((k : Int) + 1 < (n : Int)) := by omega
      go_wp2_with fail
      go_ret
      exact ⟨rfl, HW.out⟩
end Go.Proofs.Ytkpemlgolpihiaa
