/-
  Layer 12 (manifest): states in memory; contracts of SameInts, SameTabs, SameEdit, Same at equal data, of light. Conditions: texts within the reach.
-/
import Derived.Test.YthmkalnbdocdcaaYf
import Derived.Laws.StructEq
import Derived.Deep.QuietTactic
import Derived.Deep.DeepCutAuto
import Derived.Deep.CutRange
namespace Go.Proofs.Ythmkalnbdocdcaa
set_option maxRecDepth 100000
open Go.RowKit
set_option linter.unusedVariables false
set_option linter.unusedSimpArgs false

/-- A state: tables, the first log that counts, the next number. -/
abbrev St := List Tb × Int × Int
def SV (w : World) (V : Value) (s : St) : Prop := ∃ a n cap, V = .agg #[.slice a n cap, .int .i64 s.2.1, .int .i64 s.2.2] ∧ ST w a n cap s.1 ∧ okT s.1
theorem SV.old {w w' : World} {V : Value} {s : St} (h : SV w V s) (hb : Below w.heap.size w w') : SV w' V s := by
  obtain ⟨a, n, cap, h1, h2, h3⟩ := h
  exact ⟨a, n, cap, h1, h2.old hb, h3⟩
theorem SV.zero (w : World) : SV w (.agg #[.slice none 0 0, .int .i64 0, .int .i64 0]) ([], 0, 0) := ⟨none, 0, 0, rfl, ⟨rfl, .inl rfl, Nat.le_refl _, Nat.zero_le _⟩, fun t ht => by simp at ht⟩
set_option maxHeartbeats 2000000 in
theorem samei_any (a b : Option Addr) (n ca cb : Nat) (es : List Int) (w : World) (ha : RdZ w a es) (hb : RdZ w b es) (hn : n < 9223372036854775808) (hl : es.length = n) :
    Calls Try.prog 38 #[.slice a n ca, .slice b n cb] w fun e w' => e = .returned (.bool true) ∧ Below w.heap.size w w' := by
  obtain ⟨b1, o1, e1, l1, p1⟩ := ha.at_
  obtain ⟨b2, o2, e2, l2, p2⟩ := hb.at_
  rw [hl] at e1 l1 e2 l2
  have HC1 := Lib.hid p1
  have HC2 := Lib.hid p2
  have HL := Lib.hid hl
  clear p1 p2 hl ha hb
  go_enter Try.func38, Try.ntmps38
  go_wp2_with fail
  go_loopw [5] (fun i wr => ∃ (k d : Nat), k ≤ n ∧ i = .int .i64 k ∧ wr = w.drewN d) (fun i _ => n - (intOf i).toNat)
  case atStart => exact ⟨0, 0, by omega, rfl, rfl⟩
  case round =>
    obtain ⟨k, d, hk, rfl, rfl⟩ := hrel
    by_cases hlt : k < n
    · have hkl : k < es.length := by rw [HL.out]; exact hlt
      have hki : (k : Int) < (n : Int) := by omega
      obtain rfl := e1 (by omega)
      obtain rfl := e2 (by omega)
      have l1 := l1 (by omega)
      have l2 := l2 (by omega)
      have g0 := HC1.out k hkl
      have h0 := HC2.out k hkl
      obtain ⟨E, hE⟩ : ∃ E, E = es[k] := ⟨_, rfl⟩
      rw [← hE] at g0 h0
      clear hE
      go_wp2_with fail
      go_quiet (fail)
      go_wp2_with fail
      go_roundw
      case rel => exact ⟨k + 1, _, by omega, by go_num, rfl⟩
      case measure => simp [intOf]; omega
    · obtain rfl : k = n := by omega
      go_wp2_with fail
      go_ret
      exact ⟨rfl, below_drewN (Below.refl _ _) _⟩
set_option maxHeartbeats 2000000 in
theorem samet_any (a b : Option Addr) (n ca cb : Nat) (es : List Tb) (w : World) (ha : RdT w a es) (hb : RdT w b es) (hn : n < 9223372036854775808) (hl : es.length = n) :
    Calls Try.prog 21 #[.slice a n ca, .slice b n cb] w fun e w' => e = .returned (.bool true) ∧ Below w.heap.size w w' := by
  obtain ⟨b1, o1, e1, l1, p1⟩ := ha.at_
  obtain ⟨b2, o2, e2, l2, p2⟩ := hb.at_
  rw [hl] at e1 l1 e2 l2
  have HC1 := Lib.hid p1
  have HC2 := Lib.hid p2
  have HL := Lib.hid hl
  clear p1 p2 hl ha hb
  go_enter Try.func21, Try.ntmps21
  go_wp2_with fail
  go_loopw [5] (fun i wr => ∃ (k d : Nat), k ≤ n ∧ i = .int .i64 k ∧ wr = w.drewN d) (fun i _ => n - (intOf i).toNat)
  case atStart => exact ⟨0, 0, by omega, rfl, rfl⟩
  case round =>
    obtain ⟨k, d, hk, rfl, rfl⟩ := hrel
    by_cases hlt : k < n
    · have hkl : k < es.length := by rw [HL.out]; exact hlt
      have hki : (k : Int) < (n : Int) := by omega
      obtain rfl := e1 (by omega)
      obtain rfl := e2 (by omega)
      have l1 := l1 (by omega)
      have l2 := l2 (by omega)
      obtain ⟨g0, g1, g2, g3⟩ := HC1.out k hkl
      obtain ⟨h0, h1, h2, h3⟩ := HC2.out k hkl
      obtain ⟨E, hE⟩ : ∃ E, E = es[k] := ⟨_, rfl⟩
      rw [← hE] at g0 g1 g2 g3 h0 h1 h2 h3
      obtain ⟨x1, x2, x3, x4⟩ := E
      clear hE
      go_wp2_with fail
      go_quiet (fail)
      go_wp2_with fail
      go_roundw
      case rel => exact ⟨k + 1, _, by omega, by go_num, rfl⟩
      case measure => simp [intOf]; omega
    · obtain rfl : k = n := by omega
      go_wp2_with fail
      go_ret
      exact ⟨rfl, below_drewN (Below.refl _ _) _⟩
set_option maxHeartbeats 4000000 in
theorem sameed_any (V V' : Value) (d : Ed) (w : World) (h : EV w V d) (h' : EV w V' d) : Calls Try.prog 15 #[V, V'] w fun e w' => e = .returned (.bool true) ∧ Below w.heap.size w w' := by
  obtain ⟨aa, an, ac, da, dn, dc, rfl, hst, hsz, -⟩ := h
  obtain ⟨aa', an', ac', da', dn', dc', rfl, hst', hsz', -⟩ := h'
  obtain ⟨ts, zs, lg, nx⟩ := d
  simp only at *
  obtain rfl : an = an' := hst.1.symm.trans hst'.1
  obtain rfl : dn = dn' := hsz.1.symm.trans hsz'.1
  have hb1 : an < 9223372036854775808 := by have := hst.2.2.1; have := hst.2.2.2; unfold maxLen at this; omega
  have hb2 : dn < 9223372036854775808 := by have := hsz.2.2.1; have := hsz.2.2.2; unfold maxLen at this; omega
  have C1 := Lib.hid fun (wx : World) (hx : Below w.heap.size w wx) => samet_any aa aa' an ac ac' ts wx (hst.2.1.old hx) (hst'.2.1.old hx) hb1 hst.1
  have C2 := Lib.hid fun (wx : World) (hx : Below w.heap.size w wx) => samei_any da da' dn dc dc' zs wx (hsz.2.1.old hx) (hsz'.2.1.old hx) hb2 hsz.1
  clear hst hst' hsz hsz' hb1 hb2
  have hx := EdBox.new w 25 (.slice aa an ac) (.slice da dn dc) lg nx
  have hb0 := box_bel w (.cells #[.slice aa an ac, .slice da dn dc, .int .i64 lg, .int .i64 nx] 25)
  go_enter Try.func15, Try.ntmps15
  go_wp2_with fail
  have hz : (w.alloc (.cells #[.slice aa an ac, .slice da dn dc, .int .i64 lg, .int .i64 nx] 25)).heap.size = w.heap.size + 1 := by simp
  generalize w.alloc (.cells #[.slice aa an ac, .slice da dn dc, .int .i64 lg, .int .i64 nx] 25) = wa at *
  have hx2 := hx.below (box_bel wa (.cells #[.slice aa' an ac', .slice da' dn dc', .int .i64 lg, .int .i64 nx] 25))
  have hy2 := EdBox.new wa 25 (.slice aa' an ac') (.slice da' dn dc') lg nx
  have hb2 := hb0.trans ((box_bel wa (.cells #[.slice aa' an ac', .slice da' dn dc', .int .i64 lg, .int .i64 nx] 25)).mono hb0.size)
  have HB2 := Lib.hid hb2
  rw [hz] at hy2
  have HX2 := Lib.hid (And.intro hx2 hy2)
  clear hx hb0 hx2 hy2 hb2 hz
  generalize wa.alloc (.cells #[.slice aa' an ac', .slice da' dn dc', .int .i64 lg, .int .i64 nx] 25) = wq at *
  refine (C1.out _ HB2.out).mono ?_
  rintro e w3 ⟨rfl, b3⟩
  have HB3 := Lib.hid (HB2.out.trans (b3.mono HB2.out.size))
  have HX3 := Lib.hid (And.intro (HX2.out.1.below b3) (HX2.out.2.below b3))
  obtain ⟨x0, x1, x2, x3, x4⟩ := HX3.out.1
  obtain ⟨y0, y1, y2, y3, y4⟩ := HX3.out.2
  clear b3 HX2 C1
  go_wp2_with fail
  refine (C2.out _ HB3.out).mono ?_
  rintro e w4 ⟨rfl, b4⟩
  have HB4 := Lib.hid (HB3.out.trans (b4.mono HB3.out.size))
  have HX4 := Lib.hid (And.intro (HX3.out.1.below b4) (HX3.out.2.below b4))
  clear b4 C2 x0 x1 x2 x3 x4 y0 y1 y2 y3 y4 HX3
  obtain ⟨x0, x1, x2, x3, x4⟩ := HX4.out.1
  obtain ⟨y0, y1, y2, y3, y4⟩ := HX4.out.2
  go_wp2_with fail
  go_ret
  exact ⟨rfl, HB4.out⟩
/-- The box of a state. -/
def SBox (w : World) (x : Nat) (A : Value) (lg nx : Int) : Prop := w.cell? ⟨x, 0, none⟩ = some A ∧ w.cell? ⟨x, 1, none⟩ = some (.int .i64 lg) ∧ w.cell? ⟨x, 2, none⟩ = some (.int .i64 nx) ∧ x < w.heap.size
theorem SBox.below {w w' : World} {x : Nat} {A : Value} {lg nx : Int} (h : SBox w x A lg nx) (hb : Below w.heap.size w w') : SBox w' x A lg nx :=
  ⟨(hb.cell (p := ⟨x, 0, none⟩) h.2.2.2).trans h.1, (hb.cell (p := ⟨x, 1, none⟩) h.2.2.2).trans h.2.1, (hb.cell (p := ⟨x, 2, none⟩) h.2.2.2).trans h.2.2.1, Nat.lt_of_lt_of_le h.2.2.2 hb.size⟩
theorem SBox.new (w : World) (T : TypeId) (A : Value) (lg nx : Int) : SBox (w.alloc (.cells #[A, .int .i64 lg, .int .i64 nx] T)) w.heap.size A lg nx := ⟨by simp, by simp, by simp, by simp⟩
set_option maxHeartbeats 4000000 in
theorem samest_any (V V' : Value) (s : St) (w : World) (h : SV w V s) (h' : SV w V' s) : Calls Try.prog 20 #[V, V'] w fun e w' => e = .returned (.bool true) ∧ Below w.heap.size w w' := by
  obtain ⟨aa, an, ac, rfl, hst, -⟩ := h
  obtain ⟨aa', an', ac', rfl, hst', -⟩ := h'
  obtain ⟨ts, lg, nx⟩ := s
  simp only at *
  obtain rfl : an = an' := hst.1.symm.trans hst'.1
  have hb1 : an < 9223372036854775808 := by have := hst.2.2.1; have := hst.2.2.2; unfold maxLen at this; omega
  have C1 := Lib.hid fun (wx : World) (hx : Below w.heap.size w wx) => samet_any aa aa' an ac ac' ts wx (hst.2.1.old hx) (hst'.2.1.old hx) hb1 hst.1
  clear hst hst' hb1
  have hx := SBox.new w 38 (.slice aa an ac) lg nx
  have hb0 := box_bel w (.cells #[.slice aa an ac, .int .i64 lg, .int .i64 nx] 38)
  go_enter Try.func20, Try.ntmps20
  go_wp2_with fail
  have hz : (w.alloc (.cells #[.slice aa an ac, .int .i64 lg, .int .i64 nx] 38)).heap.size = w.heap.size + 1 := by simp
  generalize w.alloc (.cells #[.slice aa an ac, .int .i64 lg, .int .i64 nx] 38) = wa at *
  have hx2 := hx.below (box_bel wa (.cells #[.slice aa' an ac', .int .i64 lg, .int .i64 nx] 38))
  have hy2 := SBox.new wa 38 (.slice aa' an ac') lg nx
  have hb2 := hb0.trans ((box_bel wa (.cells #[.slice aa' an ac', .int .i64 lg, .int .i64 nx] 38)).mono hb0.size)
  have HB2 := Lib.hid hb2
  rw [hz] at hy2
  have HX2 := Lib.hid (And.intro hx2 hy2)
  clear hx hb0 hx2 hy2 hb2 hz
  generalize wa.alloc (.cells #[.slice aa' an ac', .int .i64 lg, .int .i64 nx] 38) = wq at *
  refine (C1.out _ HB2.out).mono ?_
  rintro e w3 ⟨rfl, b3⟩
  have HB3 := Lib.hid (HB2.out.trans (b3.mono HB2.out.size))
  obtain ⟨x0, x1, x2, x3⟩ := HX2.out.1.below b3
  obtain ⟨y0, y1, y2, y3⟩ := HX2.out.2.below b3
  clear b3 HX2 C1
  go_wp2_with fail
  go_ret
  exact ⟨rfl, HB3.out⟩
/-- Has an edit few tables, of keys of few bytes? -/
def liteEd (d : Ed) : Bool := (decide (d.1.length ≤ 140) && decide (d.2.1.length ≤ 140)) && (d.1.take 140).all fun t => decide (t.2.2.1.size ≤ 100) && decide (t.2.2.2.size ≤ 100)
theorem liteEd_iff {d : Ed} : liteEd d = true ↔ (d.1.length ≤ 140 ∧ d.2.1.length ≤ 140) ∧ ∀ t ∈ d.1.take 140, t.2.2.1.size ≤ 100 ∧ t.2.2.2.size ≤ 100 := by unfold liteEd; simp
set_option maxHeartbeats 8000000 in
theorem light12_any (V : Value) (d : Ed) (w : World) (h : EV w V d) : Calls Try.prog 9 #[V] w fun e w' => e = .returned (.bool (liteEd d)) ∧ Below w.heap.size w w' := by
  obtain ⟨aa, an, ac, da, dn, dc, rfl, hst, hsz, hok⟩ := h
  obtain ⟨ts, zs, lg, nx⟩ := d
  obtain ⟨b, off, ha, hb, hc⟩ := hst.2.1.at_
  simp only at *
  have hl := hst.1
  have hl2 := hsz.1
  rw [hl] at ha hb
  obtain ⟨r, hr⟩ : ∃ r, liteEd (ts, zs, lg, nx) = r := ⟨_, rfl⟩
  rw [hr]
  have HNO : Hid (¬ ((an ≤ 140 ∧ dn ≤ 140) ∧ ∀ t ∈ ts.take 140, t.2.2.1.size ≤ 100 ∧ t.2.2.2.size ≤ 100) → r = false) := Lib.hid fun h => by
    rw [← hr, Bool.eq_false_iff]
    intro hm
    obtain ⟨⟨m1, m2⟩, m3⟩ := liteEd_iff.1 hm
    exact h ⟨⟨by rw [← hl]; exact m1, by rw [← hl2]; exact m2⟩, m3⟩
  have HYES : Hid (((an ≤ 140 ∧ dn ≤ 140) ∧ ∀ t ∈ ts.take 140, t.2.2.1.size ≤ 100 ∧ t.2.2.2.size ≤ 100) → r = true) := Lib.hid fun h => by
    rw [← hr]
    exact liteEd_iff.2 ⟨⟨by show ts.length ≤ 140; omega, by show zs.length ≤ 140; omega⟩, h.2⟩
  have HC := Lib.hid hc
  have HL := Lib.hid hl
  have HOK := Lib.hid hok
  have HB0 := Lib.hid (box_bel w (.cells #[.slice aa an ac, .slice da dn dc, .int .i64 lg, .int .i64 nx] 25))
  have bx := EdBox.new w 25 (.slice aa an ac) (.slice da dn dc) lg nx
  clear hr hc hl hl2 hst hsz hok
  go_enter Try.func9, Try.ntmps9
  go_wp2_with fail
  obtain ⟨xb, hxb⟩ : ∃ xb, xb = w.heap.size := ⟨_, rfl⟩
  rw [← hxb] at bx ⊢
  have HXB := Lib.hid hxb
  clear hxb
  generalize w.alloc (.cells #[.slice aa an ac, .slice da dn dc, .int .i64 lg, .int .i64 nx] 25) = wb at *
  obtain ⟨y0, y1, y2, y3, y4⟩ := bx
  go_loopw [3] (fun i wr => ∃ k : Nat, i = .int .i64 k ∧ k ≤ an ∧ k ≤ 140 ∧ wr = wb ∧ Hid (∀ j (h : j < ts.length), j < k → ts[j].2.2.1.size ≤ 100 ∧ ts[j].2.2.2.size ≤ 100)) (fun i _ => an - (intOf i).toNat)
  case atStart => exact ⟨0, rfl, by omega, by omega, rfl, Lib.hid (fun j h hj => by omega)⟩
  case round =>
    obtain ⟨k, rfl, hk, hk2, rfl, HK⟩ := hrel
    have fin : (¬ k < an ∨ ¬ k < 140) → ∀ t ∈ ts.take 140, t.2.2.1.size ≤ 100 ∧ t.2.2.2.size ≤ 100 := fun h t ht => by
      obtain ⟨j, hj, rfl⟩ := List.getElem_of_mem ht
      rw [List.length_take] at hj
      rw [List.getElem_take]
      exact HK.out j (by omega) (by have := HL.out; omega)
    have FIN := Lib.hid fin
    clear fin
    by_cases hlt : k < an
    · have hki : (k : Int) < (an : Int) := by omega
      by_cases h140 : k < 140
      · have h140z : (k : Int) < 140 := by omega
        obtain rfl := ha (by omega)
        have hbw := hb (by omega)
        have hkl : k < ts.length := by rw [HL.out]; exact hlt
        obtain ⟨g0, g1, g2, g3⟩ := HC.out.old hbw HB0.out k hkl
        have hbr : b < wr.heap.size := Nat.lt_of_lt_of_le hbw HB0.out.size
        have hin : ts[k] ∈ ts.take 140 := by
          rw [List.mem_take_iff_getElem]
          exact ⟨k, by omega, rfl⟩
        obtain ⟨E, hE⟩ : ∃ E, E = ts[k] := ⟨_, rfl⟩
        rw [← hE] at g0 g1 g2 g3 hin
        obtain ⟨x1, x2, x3, x4⟩ := E
        by_cases s1 : x3.size ≤ 100
        · have s1z : ¬ (100 : Int) < (x3.size : Int) := by omega
          by_cases s2 : x4.size ≤ 100
          · have s2z : ¬ (100 : Int) < (x4.size : Int) := by omega
            have HN : Hid (∀ j (h : j < ts.length), j < k + 1 → ts[j].2.2.1.size ≤ 100 ∧ ts[j].2.2.2.size ≤ 100) := Lib.hid fun j h hj => by
              by_cases e : j = k
              · subst e; rw [← hE]; exact ⟨s1, s2⟩
              · exact HK.out j h (by omega)
            clear hE hin s1 s2
            go_wp2_with fail
            go_roundw
            case rel => exact ⟨k + 1, by go_num, by omega, by omega, by first | rfl | trivial, HN⟩
            case measure => simp [intOf]; omega
          · have s2z : (100 : Int) < (x4.size : Int) := by omega
            obtain rfl := HNO.out (fun q => s2 (q.2 _ hin).2)
            clear hE hin s1 s2
            go_wp2_with fail
            go_ret
            exact ⟨rfl, HB0.out⟩
        · have s1z : (100 : Int) < (x3.size : Int) := by omega
          obtain rfl := HNO.out (fun q => s1 (q.2 _ hin).1)
          clear hE hin s1
          go_wp2_with fail
          go_ret
          exact ⟨rfl, HB0.out⟩
      · have h140z : ¬ (k : Int) < 140 := by omega
        have hnz : ¬ (an : Int) ≤ 140 := by omega
        obtain rfl := HNO.out (fun q => by omega)
        go_wp2_with fail
        go_ret
        exact ⟨rfl, HB0.out⟩
    · have hki : ¬ (k : Int) < (an : Int) := by omega
      have h1z : (an : Int) ≤ 140 := by omega
      have hall := FIN.out (.inl hlt)
      by_cases h2 : dn ≤ 140
      · have h2z : (dn : Int) ≤ 140 := by omega
        obtain rfl := HYES.out ⟨⟨by omega, h2⟩, hall⟩
        clear hall
        go_wp2_with fail
        go_ret
        exact ⟨rfl, HB0.out⟩
      · have h2z : ¬ (dn : Int) ≤ 140 := by omega
        obtain rfl := HNO.out (fun q => h2 q.1.2)
        clear hall
        go_wp2_with fail
        go_ret
        refine ⟨?_, HB0.out⟩
        first | rfl | (congr 2; exact decide_eq_false h2z)
end Go.Proofs.Ythmkalnbdocdcaa
