/-
  Texts of mine as one, in the order in which they build: Ze, Zf, Zh, Zj, Zk, Zl. Conditions: as each says.
-/
import Derived.Test.YtkpemlgolpihiaaRF
import Derived.Test.YtkpemlgolpihiaaRD
import Derived.Lib.SmallJoins
import Derived.ProofKit
import Derived.ChangeSlices
import Derived.Deep.Slices
import Derived.Deep.Fields
import Derived.Test.YtkpemlgolpihiaaQt
import Derived.Deep.Quiet
import Derived.Deep.DeepCutAuto
import Derived.Deep.CutRange
namespace Go.Proofs.Ytkpemlgolpihiaa
set_option maxRecDepth 100000
open Go.RowKit
set_option linter.unusedVariables false
set_option linter.unusedSimpArgs false

def t0 : Tb := (1, 0, ⟨#[97]⟩, ⟨#[99]⟩)
def e0 : Ed := ([t0], [], 2, 3)
theorem e0_may : mayEd e0 = true := by kernel_rfl
theorem e0_len : (edB e0).length = 10 := by kernel_rfl
theorem e0_app : appT [] 0 0 e0 = some [t0] := by kernel_rfl
theorem e0_ov : ovT [t0] 0 ⟨#[99]⟩ ⟨#[100]⟩ = [t0] := by kernel_rfl
set_option maxRecDepth 1000000 in
set_option maxHeartbeats 16000000 in
theorem awake12_any (w : World) : Calls Try.prog 10 #[] w fun x w' => x = .returned (.bool true) ∧ Below w.heap.size w w' := by
  have tb : TBox (w.alloc (.cells #[.int .i64 1, .int .i64 0, .string ⟨#[97]⟩, .string ⟨#[99]⟩] 49)) w.heap.size t0 := TBox.new w _ t0
  have k1 : (w.alloc (.cells #[.int .i64 1, .int .i64 0, .string ⟨#[97]⟩, .string ⟨#[99]⟩] 49)).heap.size = w.heap.size + 1 := by simp [go_sem]
  have b1 := box_bel w (.cells #[.int .i64 1, .int .i64 0, .string ⟨#[97]⟩, .string ⟨#[99]⟩] 49)
  generalize hw1 : w.alloc (.cells #[.int .i64 1, .int .i64 0, .string ⟨#[97]⟩, .string ⟨#[99]⟩] 49) = w1 at *
  have bx := EdBox.new w1 25 (.slice (some ⟨w.heap.size, 0, none⟩) 1 1) (.slice none 0 0) 2 3
  have b2 := box_bel w1 (.cells #[.slice (some ⟨w.heap.size, 0, none⟩) 1 1, .slice none 0 0, .int .i64 2, .int .i64 3] 25)
  generalize hw2 : w1.alloc (.cells #[.slice (some ⟨w.heap.size, 0, none⟩) 1 1, .slice none 0 0, .int .i64 2, .int .i64 3] 25) = w2 at *
  have hst : ST w2 (some ⟨w.heap.size, 0, none⟩) 1 1 [t0] := ⟨rfl, .inr ⟨_, _, rfl, Nat.lt_of_lt_of_le tb.2.2.2.2 b2.size, fun i hi => by
    have h0 : i = 0 := by simp at hi; exact hi
    subst h0
    obtain ⟨q0, q1, q2, q3, -⟩ := tb.below b2
    exact ⟨q0, q1, q2, q3⟩⟩, Nat.le_refl _, by decide⟩
  have hev : EV w2 (.agg #[.slice (some ⟨w.heap.size, 0, none⟩) 1 1, .slice none 0 0, .int .i64 2, .int .i64 3]) e0 := ⟨_, _, _, _, _, _, rfl, hst, ⟨rfl, .inl rfl, Nat.le_refl _, Nat.zero_le _⟩, fun t ht => by
    obtain rfl := List.mem_singleton.1 ht
    exact okTb_may (by kernel_rfl)⟩
  have HB2 := Lib.hid (b1.trans (b2.mono b1.size))
  have HEV := Lib.hid hev
  have HBX := Lib.hid bx
  obtain ⟨xa, hxa⟩ : ∃ xa, xa = w.heap.size := ⟨_, rfl⟩
  obtain ⟨xb, hxb⟩ : ∃ xb, xb = w1.heap.size := ⟨_, rfl⟩
  rw [← hxb, ← hxa] at HBX
  rw [← hxa] at HEV
  have HX := Lib.hid (And.intro hxa hxb)
  clear tb k1 b1 bx b2 hst hev
  go_enter Try.func10, Try.ntmps10
  go_upto_region 2 with fail
  rw [← hxb, ← hxa]
  clear hw1 hw2 hxa hxb
  have HPU := Lib.hid (put12_any _ _ _ HEV.out)
  obtain ⟨y0, y1, y2, y3, y4⟩ := HBX.out
  obtain ⟨sA, hsA⟩ : ∃ s : ByteArray, s = ⟨(edB e0).toArray⟩ := ⟨_, rfl⟩
  have HSA := Lib.hid hsA
  have hsz : sA.size = 10 := by rw [hsA]; exact e0_len
  have HTK := Lib.hid (tk_yes (s := sA) (d := e0) (by rw [hsA]; exact takE_put e0_may))
  clear hsA
  go_upto_region 3 with (go_at_call 11; refine HPU.out.mono ?_; rintro e w3 ⟨he, hb3⟩; rw [if_pos e0_may, ← HSA.out] at he; subst he; have HB3 := Lib.hid hb3; clear hb3)
  clear y0 y1 y2 y3 y4 HPU
  have HTA := Lib.hid (take12_any sA (by omega) w3)
  have HB4' := HB3
  go_upto_region 4 with (go_at_call 13; refine HTA.out.mono ?_; rintro e w4 ⟨V, he, hv, hb4⟩; rw [HTK.out.2] at he; rw [HTK.out.1] at hv; subst he; have HB4 := Lib.hid (HB3.out.trans (hb4.mono HB3.out.size)); have HV := Lib.hid hv; obtain ⟨aa, an, ac, da', dn, dc, rfl, -, -, -⟩ := hv; clear hb4)
  have bz := EdBox.new w4 25 (.slice aa an ac) (.slice da' dn dc) e0.2.2.1 e0.2.2.2
  have b5 := box_bel w4 (.cells #[.slice aa an ac, .slice da' dn dc, .int .i64 e0.2.2.1, .int .i64 e0.2.2.2] 25)
  obtain ⟨xd, hxd⟩ : ∃ xd, xd = w4.heap.size := ⟨_, rfl⟩
  rw [← hxd] at bz ⊢
  clear hxd
  generalize w4.alloc (.cells #[.slice aa an ac, .slice da' dn dc, .int .i64 e0.2.2.1, .int .i64 e0.2.2.2] 25) = w5 at *
  have HB5 := Lib.hid (HB4.out.trans (b5.mono HB4.out.size))
  have HV5 := Lib.hid (HV.out.old b5)
  have HBZ := Lib.hid bz
  clear bz b5 HV HTA
  have HE5 := Lib.hid (HEV.out.old HB5.out)
  have HAP := Lib.hid (apply12_any _ _ ([], 0, 0) e0 w5 (SV.zero w5) HE5.out (OkT.nil 0) (by simp))
  have HAA := Lib.hid (ap_yes (s := ([], 0, 0)) e0_may e0_app)
  obtain ⟨y0, y1, y2, y3, y4⟩ := HBX.out.below HB5.out
  go_upto_region 5 with (go_at_call 18; refine HAP.out.mono ?_; rintro e w6 ⟨V, he, hv, hb6⟩; rw [HAA.out.1] at he; rw [HAA.out.2] at hv; subst he; have HB6 := Lib.hid hb6; have HV6 := Lib.hid hv; obtain ⟨a6, n6, c6, rfl, hst6, -⟩ := hv; obtain rfl : 1 = n6 := hst6.1; clear hb6 hst6)
  have bs := SBox.new w6 38 (.slice a6 1 c6) e0.2.2.1 e0.2.2.2
  have b7 := box_bel w6 (.cells #[.slice a6 1 c6, .int .i64 e0.2.2.1, .int .i64 e0.2.2.2] 38)
  obtain ⟨xs, hxs⟩ : ∃ xs, xs = w6.heap.size := ⟨_, rfl⟩
  rw [← hxs] at bs ⊢
  clear hxs y0 y1 y2 y3 y4
  generalize w6.alloc (.cells #[.slice a6 1 c6, .int .i64 e0.2.2.1, .int .i64 e0.2.2.2] 38) = w7 at *
  have HS7 : Hid (SBox w7 xs (.slice a6 1 c6) 2 3) := Lib.hid bs
  have HB57 := Lib.hid (HB6.out.trans (b7.mono HB6.out.size))
  have HB7 := Lib.hid (HB5.out.trans (HB57.out.mono HB5.out.size))
  have HV7 : Hid (SV w7 (.agg #[.slice a6 1 c6, .int .i64 2, .int .i64 3]) ([t0], 2, 3)) := Lib.hid (HV6.out.old b7)
  have HSE := Lib.hid (sameed_any _ _ _ w7 (HV5.out.old HB57.out) (HEV.out.old HB7.out))
  have HOV := Lib.hid fun (wx : World) (hx : Below w7.heap.size w7 wx) => ov_any _ _ 0 ⟨#[99]⟩ ⟨#[100]⟩ wx (HV7.out.old hx) (by simp) 3 (next_ok (log := 0) (OkT.nil 0) e0_may e0_app).1
  obtain ⟨y0, y1, y2, y3, y4⟩ := HBX.out.below HB7.out
  obtain ⟨u0, u1, u2, u3, u4⟩ := HBZ.out.below HB57.out
  obtain ⟨v0, v1, v2, v3⟩ := HS7.out
  clear bs b7 HAP HE5
  go_wp2_with fail
  refine HSE.out.mono ?_
  rintro e w8 ⟨rfl, hb8⟩
  have HB8 := Lib.hid hb8
  have HBT := Lib.hid (HB2.out.trans ((HB7.out.trans (hb8.mono HB7.out.size)).mono HB2.out.size))
  clear y0 y1 y2 y3 y4 u0 u1 u2 u3 u4 v0 v1 v2 v3 HSE
  obtain ⟨v0, v1, v2, v3⟩ := HS7.out.below hb8
  clear hb8
  go_wp2_with fail
  refine (HOV.out _ HB8.out).mono ?_
  rintro e w9 ⟨a9, n9, c9, rfl, hst9, hb9⟩
  rw [e0_ov] at hst9
  obtain rfl : 1 = n9 := hst9.1
  have HB9 := Lib.hid (HBT.out.trans (hb9.mono HBT.out.size))
  clear hst9 hb9 v0 v1 v2 v3 HOV
  go_wp2_with fail
  go_ret
  exact ⟨rfl, HB9.out⟩
end Go.Proofs.Ytkpemlgolpihiaa
namespace Go.Proofs.Ytkpemlgolpihiaa
set_option maxRecDepth 100000
open Go.RowKit
set_option linter.unusedVariables false
set_option linter.unusedSimpArgs false

theorem tabB_lite {t : Tb} (h : mayT t = true) (h1 : t.2.2.1.size ≤ 100) (h2 : t.2.2.2.size ≤ 100) : (tabB t).length ≤ 300 := by
  obtain ⟨⟨m1, m2⟩, ⟨m3, m4⟩, -⟩ := mayT_iff.1 h
  have a1 := vL_len9 (n := t.1.toNat) (by omega)
  have a2 := vL_len9 (n := t.2.1.toNat) (by omega)
  have e1 : t.2.2.1.data.toList.length = t.2.2.1.size := rfl
  have e2 : t.2.2.2.data.toList.length = t.2.2.2.size := rfl
  have a3 := vL_len9 (n := t.2.2.1.data.toList.length) (by omega)
  have a4 := vL_len9 (n := t.2.2.2.data.toList.length) (by omega)
  unfold tabB txL
  simp only [List.length_append]
  omega
theorem tabsB_lite : ∀ {ts : List Tb}, (∀ t ∈ ts, mayT t = true) → (∀ t ∈ ts, t.2.2.1.size ≤ 100 ∧ t.2.2.2.size ≤ 100) → (tabsB ts).length ≤ 300 * ts.length
  | [], _, _ => by simp [tabsB]
  | t :: ts, h, h2 => by
    have a := tabB_lite (h t (by simp)) (h2 t (by simp)).1 (h2 t (by simp)).2
    have b := tabsB_lite (ts := ts) (fun x hx => h x (by simp [hx])) (fun x hx => h2 x (by simp [hx]))
    have e : tabsB (t :: ts) = tabB t ++ tabsB ts := rfl
    rw [e, List.length_append, List.length_cons]
    omega
theorem edB_lite {e : Ed} (h : mayEd e = true) (hl : liteEd e = true) : (edB e).length ≤ 100000 := by
  obtain ⟨h1, h2, h3, h4, h5, h6⟩ := mayEd_iff.1 h
  obtain ⟨⟨l1, l2⟩, l3⟩ := liteEd_iff.1 hl
  have ht : e.1.take 140 = e.1 := List.take_of_length_le l1
  rw [ht] at l3
  have a := tabsB_lite h3 l3
  have b := intsB_len h4
  have c1 := vL_len9 (n := e.1.length) (by omega)
  have c2 := vL_len9 (n := e.2.1.length) (by omega)
  have c3 := vL_len9 (n := e.2.2.1.toNat) (by omega)
  have c4 := vL_len9 (n := e.2.2.2.toNat) (by omega)
  unfold edB
  simp only [List.length_append]
  omega
/-- What Put leaves: a text and a number. -/
theorem pue_pair (d : Ed) (hl : liteEd d = true) : ∃ (s : ByteArray) (n : Int), s.size ≤ 100000 ∧ (∀ w e w', PUe d w e w' → e = .returned (.tuple #[.string s, .int .i64 n]) ∧ Below w.heap.size w w') ∧ ((n = 0 ∧ tkD s = d ∧ tkN s = 0) ∨ n = 1) := by
  cases h : mayEd d with
  | true =>
    refine ⟨⟨(edB d).toArray⟩, 0, ?_, fun w e w' q => ?_, .inl ⟨rfl, tk_yes (takE_put h)⟩⟩
    · show (edB d).toArray.size ≤ _
      rw [List.size_toArray]
      exact edB_lite h hl
    · unfold PUe at q
      rw [if_pos h] at q
      exact q
  | false =>
    refine ⟨⟨#[]⟩, 1, by decide, fun w e w' q => ?_, .inr rfl⟩
    unfold PUe at q
    rw [h, if_neg (by decide)] at q
    exact q
end Go.Proofs.Ytkpemlgolpihiaa
namespace Go.Proofs.Ytkpemlgolpihiaa
open Go.RowKit Go.ChangeShapes Go.WideShapes
set_option linter.unusedVariables false
set_option linter.unusedSimpArgs false

theorem tabs_rd {W : World} {x : Addr} {len cap m : Nat} {q : Nat → Tb} (hl : len ≤ cap) (hm : cap ≤ maxLen) (hlm : len ≤ m)
    (hcell : ∀ i, i < m → (W.cell? (x.add (i * 4)) = some (.int .i64 (q i).1) ∧ W.cell? (x.add (i * 4 + 1)) = some (.int .i64 (q i).2.1) ∧ W.cell? (x.add (i * 4 + 2)) = some (.string (q i).2.2.1) ∧ W.cell? (x.add (i * 4 + 3)) = some (.string (q i).2.2.2)) ∧ (q i).2.2.1.size ≤ maxLen ∧ (q i).2.2.2.size ≤ maxLen) :
    ∃ xs : List Tb, ST W (some x) len cap xs ∧ okT xs := by
  have hlen : ((List.range len).map q).length = len := by simp
  refine ⟨(List.range len).map q, ⟨hlen, ?_, hl, hm⟩, ?_⟩
  · by_cases h0 : len = 0
    · subst h0; exact .inl rfl
    · obtain ⟨b, off, spot⟩ := x
      have hc0 := (hcell 0 (by omega)).1.1
      have hs : spot = none := by simpa [Addr.add] using World.cell?_spot hc0
      subst hs
      have hlt := cell_lt hc0
      have e : ∀ j, (⟨b, off, none⟩ : Addr).add j = ⟨b, off + j, none⟩ := by intro j; unfold Addr.add; split <;> simp_all
      refine .inr ⟨b, off, rfl, by simpa [Addr.add] using hlt, fun i hi => ?_⟩
      rw [hlen] at hi
      have h := (hcell i (by omega)).1
      rw [e, e, e, e] at h
      refine ⟨?_, ?_, ?_, ?_⟩
      · rw [h.1]; simp
      · rw [Nat.add_assoc, h.2.1]; simp
      · rw [Nat.add_assoc, h.2.2.1]; simp
      · rw [Nat.add_assoc, h.2.2.2]; simp
  · intro t ht
    rw [List.mem_map] at ht
    obtain ⟨i, hi, rfl⟩ := ht
    exact (hcell i (by have := List.mem_range.1 hi; omega)).2
section
variable {H : Type} {enc : TypeId × Value → H} {P : Program} {w : World} {base : Nat} {spare : Nat → Bool} {held : Bool}
theorem open_tabs {t e : TypeId} {f0 f1 f2 f3 : Field} {fuel : Nat} {v : Value} {x : DataW H × List MemPlace} (ht : P.underlying t = some (.slice e)) (he : P.underlying e = some (.struct #[f0, f1, f2, f3]))
    (ce : P.cellsOf e = 4) (hone : Go.Deep.oneCellFields P #[f0, f1, f2, f3] = true) (t0 : P.underlying f0.type = some (.int .i64)) (t1 : P.underlying f1.type = some (.int .i64)) (t2 : P.underlying f2.type = some .string) (t3 : P.underlying f3.type = some .string)
    (hf : DataW.trod enc P w base spare held fuel t [v] = some x) : ∃ (a : Option Addr) (n cap : Nat) (xs : List Tb), v = .slice a n cap ∧ ST w a n cap xs ∧ okT xs := by
  rcases Go.Deep.open_slice ht hf with ⟨hcs, _⟩ | ⟨x, l, c, m, n, D, Pl, hcs, _, hl, hm, hmm, _, hi⟩
  · simp only [List.cons.injEq, and_true] at hcs
    exact ⟨none, 0, 0, [], hcs, ⟨rfl, .inl rfl, Nat.le_refl _, Nat.zero_le _⟩, fun x hx => by simp at hx⟩
  · simp only [List.cons.injEq, and_true] at hcs
    have each : ∀ i, i < m → ∃ q : Tb, (w.cell? (x.add (i * 4)) = some (.int .i64 q.1) ∧ w.cell? (x.add (i * 4 + 1)) = some (.int .i64 q.2.1) ∧ w.cell? (x.add (i * 4 + 2)) = some (.string q.2.2.1) ∧ w.cell? (x.add (i * 4 + 3)) = some (.string q.2.2.2)) ∧ q.2.2.1.size ≤ maxLen ∧ q.2.2.2.size ≤ maxLen := by
      intro i him
      obtain ⟨cs', hc, ht'⟩ := hi i him
      rw [ce] at hc
      obtain ⟨_, hcl, hat⟩ := World.cells?_some hc
      obtain ⟨ys, n', _, _, _, hyl, hg⟩ := DataW.trod_struct he ht'
      match ys, hyl, cs', hcl with
      | [y0, y1, y2, y3], _, [v0, v1, v2, v3], _ =>
        obtain ⟨o0, k0⟩ := Go.Deep.hone_of hone 0 f0 rfl
        obtain ⟨o1, k1⟩ := Go.Deep.hone_of hone 1 f1 rfl
        obtain ⟨o2, k2⟩ := Go.Deep.hone_of hone 2 f2 rfl
        obtain ⟨o3, k3⟩ := Go.Deep.hone_of hone 3 f3 rfl
        have g0 := hg 0 f0 rfl
        have g1 := hg 1 f1 rfl
        have g2 := hg 2 f2 rfl
        have g3 := hg 3 f3 rfl
        simp [o0, k0] at g0
        simp [o1, k1] at g1
        simp [o2, k2] at g2
        simp [o3, k3] at g3
        obtain ⟨n0, e0, _⟩ := DataW.trod_int t0 g0
        obtain ⟨n1, e1, _⟩ := DataW.trod_int t1 g1
        obtain ⟨s2, e2, _, z2⟩ := DataW.trod_string t2 g2
        obtain ⟨s3, e3, _, z3⟩ := DataW.trod_string t3 g3
        simp only [List.cons.injEq, and_true] at e0 e1 e2 e3
        have c0 := hat 0 (by omega)
        have c1 := hat 1 (by omega)
        have c2 := hat 2 (by omega)
        have c3 := hat 3 (by omega)
        rw [Go.Deep.add_add] at c0 c1 c2 c3
        subst e0 e1 e2 e3
        exact ⟨(n0, n1, s2, s3), ⟨by simpa using c0, by simpa using c1, by simpa using c2, by simpa using c3⟩, z2, z3⟩
    obtain ⟨q, hq⟩ := Go.Deep.choose_lt each
    obtain ⟨xs, h1, h2⟩ := tabs_rd (q := q) hl hm (by rw [hmm]; split <;> omega) hq
    exact ⟨_, _, _, xs, hcs, h1, h2⟩
theorem open_zs {t e : TypeId} {fuel : Nat} {v : Value} {x : DataW H × List MemPlace} (ht : P.underlying t = some (.slice e)) (he : P.underlying e = some (.int .i64)) (hc : P.cellsOf e = 1)
    (h : DataW.trod enc P w base spare held fuel t [v] = some x) : ∃ (a : Option Addr) (n cap : Nat) (zs : List Int), v = .slice a n cap ∧ SZ w a n cap zs := by
  rcases open_ints ht he hc h with ⟨hcs, _⟩ | ⟨y, l, c, zs, hcs, _, hl, hm, hz, hx, hcell, hwz⟩
  · simp only [List.cons.injEq, and_true] at hcs
    exact ⟨none, 0, 0, [], hcs, rfl, .inl rfl, Nat.le_refl _, Nat.zero_le _⟩
  · simp only [List.cons.injEq, and_true] at hcs
    have hlz : l ≤ zs.length := by rw [hz]; split <;> omega
    have hkl : (zs.take l).length = l := by rw [List.length_take]; omega
    refine ⟨some y, l, c, zs.take l, hcs, hkl, ?_, hl, hm⟩
    by_cases h0 : l = 0
    · subst h0; exact .inl (by simp)
    · obtain ⟨b, off, spot⟩ := y
      have hc0 := hcell 0 (by omega)
      have hs : spot = none := by simpa [Addr.add] using World.cell?_spot hc0
      subst hs
      have hlt := cell_lt hc0
      have e : ∀ j, (⟨b, off, none⟩ : Addr).add j = ⟨b, off + j, none⟩ := by intro j; unfold Addr.add; split <;> simp_all
      refine .inr ⟨b, off, rfl, by simpa [Addr.add] using hlt, fun i hi => ?_⟩
      rw [hkl] at hi
      have h := hcell i (by omega)
      rw [e] at h
      rw [h, List.getElem_take, List.getD_eq_getElem?_getD, List.getElem?_eq_getElem (by omega)]
      rfl
/-- An edit that came in. -/
theorem open_ed {t tt ti : TypeId} {f0 f1 f2 f3 g0 g1 g2 g3 : Field} {r : Reach} {b0 : Nat} {v : Value} {d : DataW H} {p : List MemPlace} (hs : P.underlying t = some (.struct #[f0, f1, f2, f3])) (hone : Go.Deep.oneCellFields P #[f0, f1, f2, f3] = true) (hC : P.cellsOf t = 4)
    (u0 : P.underlying f0.type = some (.slice tt)) (u1 : P.underlying f1.type = some (.slice ti)) (u2 : P.underlying f2.type = some (.int .i64)) (u3 : P.underlying f3.type = some (.int .i64))
    (ht : P.underlying tt = some (.struct #[g0, g1, g2, g3])) (ce : P.cellsOf tt = 4) (hone2 : Go.Deep.oneCellFields P #[g0, g1, g2, g3] = true) (t0 : P.underlying g0.type = some (.int .i64)) (t1 : P.underlying g1.type = some (.int .i64)) (t2 : P.underlying g2.type = some .string) (t3 : P.underlying g3.type = some .string)
    (hi : P.underlying ti = some (.int .i64)) (ci : P.cellsOf ti = 1) (hv : Value.okWide P w r b0 t v) (h : DataW.Trod enc P w base spare held t v d p) : ∃ e : Ed, EV w v e := by
  obtain ⟨v0, v1, v2, v3, y0, y1, y2, y3, n, rfl, -, -, h0, h1, h2, h3⟩ := Joins.open_agg4 hs hone hC hv h
  obtain ⟨a, n', c, xs, rfl, q1, q2⟩ := open_tabs u0 ht ce hone2 t0 t1 t2 t3 h0
  obtain ⟨a', n'', c', zs, rfl, q3⟩ := open_zs u1 hi ci h1
  obtain ⟨l, e2, _⟩ := DataW.trod_int u2 h2
  obtain ⟨m, e3, _⟩ := DataW.trod_int u3 h3
  simp only [List.cons.injEq, and_true] at e2 e3
  subst e2 e3
  exact ⟨(xs, zs, l, m), _, _, _, _, _, _, rfl, q1, q3, q2⟩
end
end Go.Proofs.Ytkpemlgolpihiaa
namespace Go.Proofs.Ytkpemlgolpihiaa
open Go.RowKit Go.ChangeShapes Go.WideShapes
set_option linter.unusedVariables false
set_option linter.unusedSimpArgs false

/-- One of a row's edits: its four cells, and what it is. -/
def EdCell (w : World) (b o : Nat) (e : Ed) : Prop := ∃ aa an ac da dn dc, w.cell? ⟨b, o, none⟩ = some (.slice aa an ac) ∧ w.cell? ⟨b, o + 1, none⟩ = some (.slice da dn dc) ∧ w.cell? ⟨b, o + 2, none⟩ = some (.int .i64 e.2.2.1) ∧ w.cell? ⟨b, o + 3, none⟩ = some (.int .i64 e.2.2.2) ∧ EV w (.agg #[.slice aa an ac, .slice da dn dc, .int .i64 e.2.2.1, .int .i64 e.2.2.2]) e
theorem EdCell.old {w w' : World} {b o : Nat} {e : Ed} (h : EdCell w b o e) (hb : b < w.heap.size) (hw : Below w.heap.size w w') : EdCell w' b o e := by
  obtain ⟨aa, an, ac, da, dn, dc, h0, h1, h2, h3, h4⟩ := h
  exact ⟨aa, an, ac, da, dn, dc, (hw.cell (p := ⟨b, o, none⟩) hb).trans h0, (hw.cell (p := ⟨b, o + 1, none⟩) hb).trans h1, (hw.cell (p := ⟨b, o + 2, none⟩) hb).trans h2, (hw.cell (p := ⟨b, o + 3, none⟩) hb).trans h3, h4.old hw⟩
def EdAt (w : World) (b off : Nat) (es : List Ed) : Prop := ∀ i (h : i < es.length), EdCell w b (off + i * 4) es[i]
theorem EdAt.old {w w' : World} {b off : Nat} {es : List Ed} (h : EdAt w b off es) (hb : b < w.heap.size) (hw : Below w.heap.size w w') : EdAt w' b off es := fun i hi => (h i hi).old hb hw
def RdEd (w : World) (a : Option Addr) (es : List Ed) : Prop := es = [] ∨ ∃ b off, a = some ⟨b, off, none⟩ ∧ b < w.heap.size ∧ EdAt w b off es
theorem RdEd.old {w w' : World} {a : Option Addr} {es : List Ed} (h : RdEd w a es) (hb : Below w.heap.size w w') : RdEd w' a es := by
  rcases h with rfl | ⟨b, off, rfl, hlt, hc⟩
  · exact .inl rfl
  · exact .inr ⟨b, off, rfl, Nat.lt_of_lt_of_le hlt hb.size, hc.old hlt hb⟩
theorem RdEd.at_ {w : World} {a : Option Addr} {es : List Ed} (h : RdEd w a es) : ∃ b off, (0 < es.length → a = some ⟨b, off, none⟩) ∧ (0 < es.length → b < w.heap.size) ∧ EdAt w b off es := by
  rcases h with rfl | ⟨b, off, rfl, hb, hc⟩
  · exact ⟨0, 0, fun h => by simp at h, fun h => by simp at h, fun i hi => by simp at hi⟩
  · exact ⟨b, off, fun _ => rfl, fun _ => hb, hc⟩
/-- A slice of edits. -/
def SEd (w : World) (a : Option Addr) (n cap : Nat) (es : List Ed) : Prop := es.length = n ∧ RdEd w a es ∧ n ≤ cap ∧ cap ≤ maxLen
theorem SEd.old {w w' : World} {a : Option Addr} {n cap : Nat} {es : List Ed} (h : SEd w a n cap es) (hb : Below w.heap.size w w') : SEd w' a n cap es := ⟨h.1, h.2.1.old hb, h.2.2⟩
def EdX (w : World) (x : Addr) (i : Nat) (e : Ed) : Prop := ∃ aa an ac da dn dc, w.cell? (x.add (i * 4)) = some (.slice aa an ac) ∧ w.cell? (x.add (i * 4 + 1)) = some (.slice da dn dc) ∧ w.cell? (x.add (i * 4 + 2)) = some (.int .i64 e.2.2.1) ∧ w.cell? (x.add (i * 4 + 3)) = some (.int .i64 e.2.2.2) ∧ EV w (.agg #[.slice aa an ac, .slice da dn dc, .int .i64 e.2.2.1, .int .i64 e.2.2.2]) e
theorem eds_rd {W : World} {x : Addr} {len cap m : Nat} {q : Nat → Ed} (hl : len ≤ cap) (hm : cap ≤ maxLen) (hlm : len ≤ m) (hcell : ∀ i, i < m → EdX W x i (q i)) : ∃ xs : List Ed, SEd W (some x) len cap xs := by
  have hlen : ((List.range len).map q).length = len := by simp
  refine ⟨(List.range len).map q, hlen, ?_, hl, hm⟩
  by_cases h0 : len = 0
  · subst h0; exact .inl rfl
  · obtain ⟨b, off, spot⟩ := x
    obtain ⟨_, _, _, _, _, _, hc0, -⟩ := hcell 0 (by omega)
    have hs : spot = none := by simpa [Addr.add] using World.cell?_spot hc0
    subst hs
    have hlt := cell_lt hc0
    have e : ∀ j, (⟨b, off, none⟩ : Addr).add j = ⟨b, off + j, none⟩ := by intro j; unfold Addr.add; split <;> simp_all
    refine .inr ⟨b, off, rfl, by simpa [Addr.add] using hlt, fun i hi => ?_⟩
    rw [hlen] at hi
    obtain ⟨aa, an, ac, da, dn, dc, k0, k1, k2, k3, k4⟩ := hcell i (by omega)
    rw [e] at k0 k1 k2 k3
    have eq : ((List.range len).map q)[i]'(by rw [hlen]; exact hi) = q i := by simp
    rw [eq]
    exact ⟨aa, an, ac, da, dn, dc, k0, by rw [Nat.add_assoc]; exact k1, by rw [Nat.add_assoc]; exact k2, by rw [Nat.add_assoc]; exact k3, k4⟩
section
variable {H : Type} {enc : TypeId × Value → H} {P : Program} {w : World} {base : Nat} {spare : Nat → Bool} {held : Bool}
theorem open_eds {t e tt ti : TypeId} {f0 f1 f2 f3 g0 g1 g2 g3 : Field} {a : Option Addr} {len cap : Nat} {d : DataW H} {p : List MemPlace} (hs : P.underlying t = some (.slice e)) (he : P.underlying e = some (.struct #[f0, f1, f2, f3])) (cE : P.cellsOf e = 4) (hone : Go.Deep.oneCellFields P #[f0, f1, f2, f3] = true)
    (u0 : P.underlying f0.type = some (.slice tt)) (u1 : P.underlying f1.type = some (.slice ti)) (u2 : P.underlying f2.type = some (.int .i64)) (u3 : P.underlying f3.type = some (.int .i64))
    (ht : P.underlying tt = some (.struct #[g0, g1, g2, g3])) (ce : P.cellsOf tt = 4) (hone2 : Go.Deep.oneCellFields P #[g0, g1, g2, g3] = true) (t0 : P.underlying g0.type = some (.int .i64)) (t1 : P.underlying g1.type = some (.int .i64)) (t2 : P.underlying g2.type = some .string) (t3 : P.underlying g3.type = some .string)
    (hi : P.underlying ti = some (.int .i64)) (ci : P.cellsOf ti = 1) (h : DataW.Trod enc P w base spare held t (.slice a len cap) d p) : ∃ es : List Ed, SEd w a len cap es := by
  obtain ⟨fuel, hf⟩ := h
  rcases Go.Deep.open_slice hs hf with ⟨hcs, _⟩ | ⟨x, l, c, m, n, D, Pl, hcs, _, hl, hm, hmm, _, hii⟩
  · simp [Value.cells] at hcs
    obtain ⟨rfl, rfl, rfl⟩ := hcs
    exact ⟨[], rfl, .inl rfl, Nat.le_refl _, Nat.zero_le _⟩
  · simp [Value.cells] at hcs
    obtain ⟨rfl, rfl, rfl⟩ := hcs
    have each : ∀ i, i < m → ∃ q : Ed, EdX w x i q := by
      intro i him
      obtain ⟨cs', hc, ht'⟩ := hii i him
      rw [cE] at hc
      obtain ⟨_, hcl, hat⟩ := World.cells?_some hc
      obtain ⟨ys, n', _, _, _, hyl, hg⟩ := DataW.trod_struct he ht'
      match ys, hyl, cs', hcl with
      | [y0, y1, y2, y3], _, [v0, v1, v2, v3], _ =>
        obtain ⟨o0, k0⟩ := Go.Deep.hone_of hone 0 f0 rfl
        obtain ⟨o1, k1⟩ := Go.Deep.hone_of hone 1 f1 rfl
        obtain ⟨o2, k2⟩ := Go.Deep.hone_of hone 2 f2 rfl
        obtain ⟨o3, k3⟩ := Go.Deep.hone_of hone 3 f3 rfl
        have g0 := hg 0 f0 rfl
        have g1 := hg 1 f1 rfl
        have g2 := hg 2 f2 rfl
        have g3 := hg 3 f3 rfl
        simp [o0, k0] at g0
        simp [o1, k1] at g1
        simp [o2, k2] at g2
        simp [o3, k3] at g3
        obtain ⟨aa, an, ac, ts, e0, q1, q2⟩ := open_tabs u0 ht ce hone2 t0 t1 t2 t3 g0
        obtain ⟨da, dn, dc, zs, e1, q3⟩ := open_zs u1 hi ci g1
        obtain ⟨n2, e2, _⟩ := DataW.trod_int u2 g2
        obtain ⟨n3, e3, _⟩ := DataW.trod_int u3 g3
        simp only [List.cons.injEq, and_true] at e2 e3
        have c0 := hat 0 (by omega)
        have c1 := hat 1 (by omega)
        have c2 := hat 2 (by omega)
        have c3 := hat 3 (by omega)
        rw [Go.Deep.add_add] at c0 c1 c2 c3
        subst e0 e1 e2 e3
        exact ⟨(ts, zs, n2, n3), aa, an, ac, da, dn, dc, by simpa using c0, by simpa using c1, by simpa using c2, by simpa using c3, _, _, _, _, _, _, rfl, q1, q3, q2⟩
    obtain ⟨q, hq⟩ := Go.Deep.choose_lt each
    exact eds_rd (q := q) hl hm (by rw [hmm]; split <;> omega) hq
end
end Go.Proofs.Ytkpemlgolpihiaa
namespace Go.Proofs.Ytkpemlgolpihiaa
set_option maxRecDepth 100000
open Go.RowKit
set_option linter.unusedVariables false
set_option linter.unusedSimpArgs false

/-- Where a number stands among tables; -1: nowhere. -/
def FD (ts : List Tb) (id r : Int) : Prop := (r = -1 ∧ ∀ t ∈ ts, t.1 ≠ id) ∨ ∃ (k : Nat) (h : k < ts.length), r = k ∧ ts[k].1 = id ∧ ∀ j (hj : j < k), ts[j].1 ≠ id
theorem fd_ex (ts : List Tb) (id : Int) : ∃ r, FD ts id r := by
  by_cases h : ∃ t ∈ ts, t.1 = id
  · obtain ⟨t, ht, he⟩ := h
    obtain ⟨i, hi, rfl⟩ := List.getElem_of_mem ht
    have : ∀ n, ∀ i (hi : i < ts.length), i ≤ n → ts[i].1 = id → ∃ r, FD ts id r := by
      intro n
      induction n with
      | zero => intro i hi h0 he; exact ⟨i, .inr ⟨i, hi, rfl, he, fun j hj => by omega⟩⟩
      | succ n ih =>
        intro i hi h0 he
        by_cases hx : ∃ j, ∃ (hj : j < i), ts[j].1 = id
        · obtain ⟨j, hj, hje⟩ := hx
          exact ih j (by omega) (by omega) hje
        · exact ⟨i, .inr ⟨i, hi, rfl, he, fun j hj e => hx ⟨j, hj, e⟩⟩⟩
    exact this i i hi (Nat.le_refl _) he
  · exact ⟨-1, .inl ⟨rfl, fun t ht e => h ⟨t, ht, e⟩⟩⟩
theorem fd_hit {ts : List Tb} {id r : Int} (h : FD ts id r) {k : Nat} (hk : k < ts.length) (he : ts[k].1 = id) (hb : ∀ j (hj : j < k), ts[j].1 ≠ id) : r = k := by
  rcases h with ⟨-, h⟩ | ⟨k', hk', rfl, h1, h2⟩
  · exact absurd he (h _ (List.getElem_mem hk))
  · rcases Nat.lt_trichotomy k k' with h | h | h
    · exact absurd he (h2 k h)
    · rw [h]
    · exact absurd h1 (hb k' h)
theorem fd_miss {ts : List Tb} {id r : Int} (h : FD ts id r) (hb : ∀ j (hj : j < ts.length), ts[j].1 ≠ id) : r = -1 := by
  rcases h with ⟨h, -⟩ | ⟨k', hk', rfl, h1, h2⟩
  · exact h
  · exact absurd h1 (hb k' hk')
set_option maxRecDepth 1000000 in
set_option maxHeartbeats 8000000 in
theorem rfind_any (a : Option Addr) (n cap : Nat) (ts : List Tb) (id r : Int) (w : World) (hst : ST w a n cap ts) (hn : n ≤ 100000) (hr : FD ts id r) :
    Calls Try.prog 46 #[.slice a n cap, .int .i64 id] w fun e w' => e = .returned (.int .i64 r) ∧ w' = w := by
  obtain ⟨b, off, ha, hb, hc⟩ := hst.2.1.at_
  have hl := hst.1
  rw [hl] at ha hb
  have HC := Lib.hid hc
  have HL := Lib.hid hl
  have HR := Lib.hid hr
  clear hst hc hl hr
  go_enter Try.func46, Try.ntmps46
  go_wp2_with fail
  go_loopw [5] (fun i wr => ∃ k : Nat, i = .int .i64 k ∧ k ≤ n ∧ wr = w ∧ Hid (∀ j (h : j < ts.length), j < k → ts[j].1 ≠ id)) (fun i _ => n - (intOf i).toNat)
  case atStart => exact ⟨0, by first | rfl | go_num, by omega, by first | rfl | trivial, Lib.hid (fun j h hj => by omega)⟩
  case round =>
    obtain ⟨k, rfl, hk, rfl, HK⟩ := hrel
    by_cases hlt : k < n
    · have hki : (k : Int) < (n : Int) := by omega
      obtain rfl := ha (by omega)
      have hbw := hb (by omega)
      have hkl : k < ts.length := by rw [HL.out]; exact hlt
      obtain ⟨g0, -, -, -⟩ := HC.out k hkl
      obtain ⟨E, hE⟩ : ∃ E, E = ts[k].1 := ⟨_, rfl⟩
      rw [← hE] at g0
      by_cases he : E = id
      · obtain rfl := fd_hit HR.out hkl (by rw [← hE]; exact he) (fun j hj => HK.out j (by omega) hj)
        subst he
        clear hE
        go_wp2_with fail
        go_ret
        exact ⟨rfl, rfl⟩
      · have HN : Hid (∀ j (h : j < ts.length), j < k + 1 → ts[j].1 ≠ id) := Lib.hid fun j h hj => by
          by_cases e : j = k
          · subst e; rw [← hE]; exact he
          · exact HK.out j h (by omega)
        clear hE
        go_wp2_with fail
        go_roundw
        case rel => exact ⟨k + 1, by go_num, by omega, by first | rfl | trivial, HN⟩
        case measure => simp [intOf]; omega
    · obtain rfl : n = k := by omega
      obtain rfl := fd_miss HR.out (fun j hj => HK.out j hj (by have := HL.out; omega))
      go_wp2_with fail
      go_ret
      exact ⟨rfl, rfl⟩
theorem rahead_any (s t : Tb) (w : World) : Calls Try.prog 69 #[.agg #[.int .i64 s.1, .int .i64 s.2.1, .string s.2.2.1, .string s.2.2.2], .agg #[.int .i64 t.1, .int .i64 t.2.1, .string t.2.2.1, .string t.2.2.2]] w fun e w' => e = .returned (.bool (lessT s t)) ∧ Below w.heap.size w w' := by
  obtain ⟨x1, x2, x3, x4⟩ := s
  obtain ⟨y1, y2, y3, y4⟩ := t
  have hb : Below w.heap.size w ((w.alloc (.cells #[.int .i64 x1, .int .i64 x2, .string x3, .string x4] 49)).alloc (.cells #[.int .i64 y1, .int .i64 y2, .string y3, .string y4] 49)) := ((Below.refl _ w).alloc (by omega) _).alloc (by simp [go_sem]) _
  have HB := Lib.hid hb
  clear hb
  obtain ⟨r, hr⟩ : ∃ r, r = lessT (x1, x2, x3, x4) (y1, y2, y3, y4) := ⟨_, rfl⟩
  rw [← hr]
  have HR := Lib.hid hr
  clear hr
  by_cases h1 : x2 = y2
  · subst h1
    by_cases h2 : x2 = 0
    · subst h2
      by_cases h3 : y1 < x1
      · obtain rfl : r = true := by rw [HR.out]; simp [lessT, h3]
        go_enter Try.func69, Try.ntmps69
        go_wp2_with fail
        go_ret
        exact ⟨rfl, HB.out⟩
      · obtain rfl : r = false := by rw [HR.out]; simp [lessT, h3]
        go_enter Try.func69, Try.ntmps69
        go_wp2_with fail
        go_ret
        exact ⟨rfl, HB.out⟩
    · obtain ⟨q, hq⟩ : ∃ q, Op.bytesLess x3.toList y3.toList = q := ⟨_, rfl⟩
      obtain rfl : r = q := by rw [HR.out, ← hq]; simp [lessT, h2, ltB]
      go_enter Try.func69, Try.ntmps69
      go_wp2_with fail
      go_ret
      exact ⟨by first | rfl | (rw [hq]) | simp [hq], HB.out⟩
  · obtain rfl : r = decide (x2 < y2) := by rw [HR.out]; simp [lessT, h1]
    go_enter Try.func69, Try.ntmps69
    go_wp2_with fail
    go_ret
    exact ⟨rfl, HB.out⟩
end Go.Proofs.Ytkpemlgolpihiaa
namespace Go.Proofs.Ytkpemlgolpihiaa
set_option maxRecDepth 100000
open Go.RowKit
set_option linter.unusedVariables false
set_option linter.unusedSimpArgs false

theorem touch_of (x y : Tb) : touchT x y = (decide (0 < y.2.1) && decide (y.2.1 = x.2.1) && !ltB y.2.2.2 x.2.2.1 && !ltB x.2.2.2 y.2.2.1) := by
  unfold touchT
  by_cases h : y.2.1 = x.2.1
  · rw [h]; simp
    cases decide (0 < x.2.1) <;> cases ltB y.2.2.2 x.2.2.1 <;> cases ltB x.2.2.2 y.2.2.1 <;> rfl
  · have h' : ¬ x.2.1 = y.2.1 := fun e => h e.symm
    simp [h, h']
theorem apt_iff (ts : List Tb) : Apt ts ↔ ∀ i j (hi : i < ts.length) (hj : j < ts.length), i < j → touchT ts[i] ts[j] = false := by
  unfold Apt
  exact List.pairwise_iff_getElem
set_option maxRecDepth 1000000 in
set_option maxHeartbeats 16000000 in
theorem rapart_any (a : Option Addr) (n cap : Nat) (ts : List Tb) (w : World) (hst : ST w a n cap ts) (hn : n ≤ 100000) :
    Calls Try.prog 48 #[.slice a n cap] w fun e w' => e = .returned (.bool (decide (Apt ts))) ∧ Below w.heap.size w w' := by
  obtain ⟨b, off, ha, hb, hc⟩ := hst.2.1.at_
  have hl := hst.1
  rw [hl] at ha hb
  obtain ⟨r, hr⟩ : ∃ r, r = decide (Apt ts) := ⟨_, rfl⟩
  rw [← hr]
  have HC := Lib.hid hc
  have HL := Lib.hid hl
  have HR := Lib.hid hr
  clear hst hc hl hr
  go_enter Try.func48, Try.ntmps48
  go_wp2_with fail
  go_loopw [3] (fun i wr => ∃ k : Nat, i = .int .i64 k ∧ k ≤ n ∧ Hid (∀ i j (hi : i < ts.length) (hj : j < ts.length), i < j → j < k → touchT ts[i] ts[j] = false) ∧ Hid (Below w.heap.size w wr)) (fun i _ => n - (intOf i).toNat)
  case atStart => exact ⟨0, by first | rfl | go_num, by omega, Lib.hid (fun i j hi hj h h0 => by omega), Lib.hid (Below.refl _ _)⟩
  case round =>
    obtain ⟨k, rfl, hk, HK, HW⟩ := hrel
    by_cases hlt : k < n
    · have hki : (k : Int) < (n : Int) := by omega
      obtain rfl := ha (by omega)
      have hbw := hb (by omega)
      have hkl : k < ts.length := by rw [HL.out]; exact hlt
      obtain ⟨F, hF⟩ : ∃ F, F = ts[k] := ⟨_, rfl⟩
      have HFF := Lib.hid hF
      clear hF
      go_upto_region 5 with fail
      rename World => wo
      go_loopw [4] (fun i wr => ∃ q : Nat, i = .int .i64 q ∧ q ≤ k ∧ Hid (∀ i (hi : i < ts.length), i < q → touchT ts[i] F = false) ∧ Hid (Below w.heap.size w wr)) (fun i _ => k - (intOf i).toNat)
      case atStart => exact ⟨0, by first | rfl | go_num, by omega, Lib.hid (fun i hi h0 => by omega), HW⟩
      case round =>
        obtain ⟨q, rfl, hq, HQ, HW2⟩ := hrel
        by_cases hlt2 : q < k
        · have hqi : (q : Int) < (k : Int) := by omega
          have hqn : (q : Int) < (n : Int) := by omega
          have hql : q < ts.length := by omega
          obtain ⟨h0, h1, h2, h3⟩ := HC.out.old hbw HW2.out k hkl
          obtain ⟨g0, g1, g2, g3⟩ := HC.out.old hbw HW2.out q hql
          have hbr : b < wr.heap.size := Nat.lt_of_lt_of_le hbw HW2.out.size
          obtain ⟨E, hE⟩ : ∃ E, E = ts[q] := ⟨_, rfl⟩
          rw [← hE] at g0 g1 g2 g3
          rw [← HFF.out] at h0 h1 h2 h3
          obtain ⟨x1, x2, x3, x4⟩ := E
          obtain ⟨y1, y2, y3, y4⟩ := F
          simp only at g1 g2 g3 h1 h2 h3
          obtain ⟨c, hce⟩ : ∃ c, c = touchT (x1, x2, x3, x4) (y1, y2, y3, y4) := ⟨_, rfl⟩
          have HCE := Lib.hid (And.intro hce (show (x1, x2, x3, x4) = ts[q] from hE))
          rw [touch_of] at hce
          simp only at hce
          clear hE g0 h0
          go_upto_region 7 with fail
          go_cut [60] from 16 to 60 (fun s9 wx => s9 = .bool c ∧ Hid (Below wr.heap.size wr wx))
          case first =>
            by_cases hv : 0 < y2
            case neg =>
              obtain rfl : c = false := by rw [hce]; simp [hv]
              clear hce HCE
              refine wp_region_below (by kernel_rfl) (by kernel_rfl) ?_
              repeat (first
                | go_big_quiet_skip
                | (go_big_quiet_want
                   first
                   | (refine BigFrame.quiet_move _ rfl ?_)
                   | (refine BigFrame.quiet_assign _ rfl ?_)
                   | (unfold Oper.quiet
                      apply Exists.intro
                      refine ⟨fun w' hw' => ?_, ?_⟩
                      · (obtain ⟨hc', hf'⟩ := bcell hw'
                         go_simp
                         first
                         | done
                         | exact rfl))
                   go_big_quiet_on
                   simp only [Act.put, Act.eval, List.setIfInBounds_toArray, List.set_cons_zero, List.set_cons_succ, Array.getD_eq_getD_getElem?, List.getElem?_toArray, List.getElem?_cons_zero, List.getElem?_cons_succ, Option.getD_some]))
              refine wpQuiet_nil ?_
              intro w' hw'
              go_wp2_with fail
              go_meet
              case rel => exact ⟨rfl, Lib.hid hw'⟩
            case pos =>
            by_cases hu : y2 = x2
            case neg =>
              obtain rfl : c = false := by rw [hce]; simp [hu]
              have hbe : (y2 == x2) = false := by simp [hu]
              clear hce HCE
              refine wp_region_below (by kernel_rfl) (by kernel_rfl) ?_
              repeat (first
                | go_big_quiet_skip
                | (go_big_quiet_want
                   first
                   | (refine BigFrame.quiet_move _ rfl ?_)
                   | (refine BigFrame.quiet_assign _ rfl ?_)
                   | (unfold Oper.quiet
                      apply Exists.intro
                      refine ⟨fun w' hw' => ?_, ?_⟩
                      · (obtain ⟨hc', hf'⟩ := bcell hw'
                         go_simp
                         first
                         | done
                         | exact rfl))
                   go_big_quiet_on
                   simp only [Act.put, Act.eval, List.setIfInBounds_toArray, List.set_cons_zero, List.set_cons_succ, Array.getD_eq_getD_getElem?, List.getElem?_toArray, List.getElem?_cons_zero, List.getElem?_cons_succ, Option.getD_some]))
              refine wpQuiet_nil ?_
              intro w' hw'
              go_wp2_with fail
              go_meet
              case rel => exact ⟨rfl, Lib.hid hw'⟩
            case pos =>
            subst hu
            rcases cmp3 y4 x3 with ⟨p1, p2, p3, p4⟩ | ⟨p1, p2, p3, p4⟩ | ⟨p1, p2, p3, p4⟩
            · obtain rfl : c = false := by rw [hce, show ltB y4 x3 = true from p1]; simp
              clear hce HCE
              refine wp_region_below (by kernel_rfl) (by kernel_rfl) ?_
              repeat (first
                | go_big_quiet_skip
                | (go_big_quiet_want
                   first
                   | (refine BigFrame.quiet_move _ rfl ?_)
                   | (refine BigFrame.quiet_assign _ rfl ?_)
                   | (unfold Oper.quiet
                      apply Exists.intro
                      refine ⟨fun w' hw' => ?_, ?_⟩
                      · (obtain ⟨hc', hf'⟩ := bcell hw'
                         go_simp
                         first
                         | done
                         | exact rfl))
                   go_big_quiet_on
                   simp only [Act.put, Act.eval, List.setIfInBounds_toArray, List.set_cons_zero, List.set_cons_succ, Array.getD_eq_getD_getElem?, List.getElem?_toArray, List.getElem?_cons_zero, List.getElem?_cons_succ, Option.getD_some]))
              refine wpQuiet_nil ?_
              intro w' hw'
              go_wp2_with fail
              go_meet
              case rel => exact ⟨rfl, Lib.hid hw'⟩
            all_goals
              rcases cmp3 x4 y3 with ⟨q1, q2, q3, q4⟩ | ⟨q1, q2, q3, q4⟩ | ⟨q1, q2, q3, q4⟩
              all_goals
                have hc2 : c = !ltB x4 y3 := by rw [hce, show ltB y4 x3 = false from p1]; simp [hv]
                have hc3 : ltB x4 y3 = Op.bytesLess x4.toList y3.toList := rfl
                rw [hc3, q1] at hc2
                simp only [Bool.not_true, Bool.not_false] at hc2
                subst hc2
                clear hce hc3 HCE
                refine wp_region_below (by kernel_rfl) (by kernel_rfl) ?_
                repeat (first
                  | go_big_quiet_skip
                  | (go_big_quiet_want
                     first
                     | (refine BigFrame.quiet_move _ rfl ?_)
                     | (refine BigFrame.quiet_assign _ rfl ?_)
                     | (unfold Oper.quiet
                        apply Exists.intro
                        refine ⟨fun w' hw' => ?_, ?_⟩
                        · (obtain ⟨hc', hf'⟩ := bcell hw'
                           go_simp
                           first
                           | done
                           | exact rfl))
                     go_big_quiet_on
                     simp only [Act.put, Act.eval, List.setIfInBounds_toArray, List.set_cons_zero, List.set_cons_succ, Array.getD_eq_getD_getElem?, List.getElem?_toArray, List.getElem?_cons_zero, List.getElem?_cons_succ, Option.getD_some]))
                refine wpQuiet_nil ?_
                intro w' hw'
                go_wp2_with fail
                go_meet
                case rel => exact ⟨rfl, Lib.hid hw'⟩
          case rest =>
          obtain ⟨rfl, HBC⟩ := hcut
          have HB3 := Lib.hid (HW2.out.trans (HBC.out.mono HW2.out.size))
          clear hce h1 h2 h3 g1 g2 g3
          cases c with
          | true =>
            obtain rfl : r = false := by
              rw [HR.out]
              refine decide_eq_false fun h => ?_
              have := (apt_iff ts).1 h q k hql hkl hlt2
              rw [← HCE.out.2, ← HFF.out, ← HCE.out.1] at this
              cases this
            go_wp2_with fail
            go_ret
            exact ⟨rfl, HB3.out⟩
          | false =>
            have HN : Hid (∀ i (hi : i < ts.length), i < q + 1 → touchT ts[i] (y1, y2, y3, y4) = false) := Lib.hid fun i hi h => by
              by_cases e : i = q
              · subst e; rw [← HCE.out.2, ← HCE.out.1]
              · exact HQ.out i hi (by omega)
            clear HCE HBC
            go_wp2_with fail
            go_roundw
            case rel => exact ⟨q + 1, by go_num, by omega, HN, HB3⟩
            case measure => simp [intOf]; omega
        · obtain rfl : k = q := by omega
          have HN : Hid (∀ i j (hi : i < ts.length) (hj : j < ts.length), i < j → j < k + 1 → touchT ts[i] ts[j] = false) := Lib.hid fun i j hi hj h h0 => by
            by_cases e : j = k
            · subst e; rw [← HFF.out]; exact HQ.out i hi h
            · exact HK.out i j hi hj h (by omega)
          clear HQ HK
          go_wp2_with fail
          go_roundw
          case rel => exact ⟨k + 1, by go_num, by omega, HN, HW2⟩
          case measure => simp [intOf]; omega
    · obtain rfl : n = k := by omega
      obtain rfl : r = true := by
        rw [HR.out]
        exact decide_eq_true ((apt_iff ts).2 fun i j hi hj h => HK.out i j hi hj h (by have := HL.out; omega))
      go_wp2_with fail
      go_ret
      exact ⟨rfl, HW.out⟩
end Go.Proofs.Ytkpemlgolpihiaa
