/-
  Layer 11 (merge): the walk of the law MergeAll. Conditions: lists that came in.
-/
import Derived.Test.YtgkkgiaaillhpaaMf
namespace Go.Proofs.Ytgkkgiaaillhpaa
set_option maxRecDepth 100000
open Go.RowKit
set_option linter.unusedVariables false
set_option linter.unusedSimpArgs false

abbrev mrgL (ls : List Lst) : List Ent := if mayL ls = true then allM (wrL ls) else []
abbrev mayZ (ls : List Lst) : Int := if mayL ls = true then 0 else 1
theorem okM_of {ls : List Lst} (h : mayL ls = true) : okM ls := fun x hx e he => okP_may (okB_may (mayL_pw h x hx) e he)
theorem wrL_rev (ls : List Lst) : (wrL ls.reverse).length = (wrL ls).length := by
  induction ls with
  | nil => rfl
  | cons x ls ih =>
    have e1 : wrL (x :: ls) = x.2.2 ++ wrL ls := rfl
    rw [List.reverse_cons, wrL_snoc, e1, List.length_append, List.length_append, ih]
    omega
theorem merge_at (b off n cap : Nat) (ls : List Lst) (V : List Ent) (m : Nat) (z : Int) (w : World) (hV : mrgL ls = V) (hm : V.length = m) (hz : mayZ ls = z) (hn : n ≤ 9) (hl : ls.length = n) (hb : b < w.heap.size) (h : LLc w b off ls) (hok : okLs ls) (h4 : (wrL ls).length ≤ 4096) :
    Calls Try.prog 12 #[.slice (some ⟨b, off, none⟩) n cap] w fun e w' => ∃ a c, e = .returned (.tuple #[.slice a m c, .int .i64 z]) ∧ RdE w' a V ∧ Below w.heap.size w w' := by
  refine (merge11_any b off n cap ls w hn hl hb h hok okM_of (by rw [wrL_rev]; exact h4)).mono ?_
  rintro e w' ⟨a, k, c, vs, rfl, hse, -, hA, hF, hb⟩
  have hv : vs = V := by
    rw [← hV]
    unfold mrgL
    split
    · rename_i hy; exact (hA hy).uniq (all_lists hy)
    · rename_i hy; exact hF (by simpa using hy)
  subst hv
  obtain rfl : m = k := hm.symm.trans hse.1
  exact ⟨a, c, by rw [← hz], hse.2.1, hb⟩
theorem rmerge_at (b off n cap : Nat) (ls : List Lst) (V : List Ent) (m : Nat) (z : Int) (w : World) (hV : mrgL ls = V) (hm : V.length = m) (hz : mayZ ls = z) (hn : n ≤ 9) (hl : ls.length = n) (hb : b < w.heap.size) (h : LLc w b off ls) (hok : okLs ls) (h4 : (wrL ls).length ≤ 4096) :
    Calls Try.prog 13 #[.slice (some ⟨b, off, none⟩) n cap] w fun e w' => ∃ a c, e = .returned (.tuple #[.slice a m c, .int .i64 z]) ∧ RdE w' a V ∧ Below w.heap.size w w' := by
  refine (rmerge11_any b off n cap ls w hn hl hb h hok h4).mono ?_
  rintro e w' ⟨a, k, c, rfl, hse, hb⟩
  have e1 := hse.1
  have e2 := hse.2.1
  rw [show (if mayL ls = true then allM (wrL ls) else []) = V from hV] at e1 e2
  obtain rfl : m = k := hm.symm.trans e1
  exact ⟨a, c, by rw [← hz], e2, hb⟩
/-- A block of three slices. -/
abbrev objL3 (a1 a2 a3 : Option Addr) (n1 n2 n3 c1 c2 c3 : Nat) : Obj := .cells #[.slice a1 n1 c1, .slice a2 n2 c2, .slice a3 n3 c3] 22
theorem ll3 (w : World) (a1 a2 a3 : Option Addr) (n1 n2 n3 c1 c2 c3 : Nat) (e1 e2 e3 : List Ent) (h1 : SE w a1 n1 c1 e1) (h2 : SE w a2 n2 c2 e2) (h3 : SE w a3 n3 c3 e3) :
    LLc (w.alloc (objL3 a1 a2 a3 n1 n2 n3 c1 c2 c3)) w.heap.size 0 [(a1, c1, e1), (a2, c2, e2), (a3, c3, e3)] := by
  have hh := heap_alloc_new w (objL3 a1 a2 a3 n1 n2 n3 c1 c2 c3)
  have hb : Below w.heap.size w (w.alloc (objL3 a1 a2 a3 n1 n2 n3 c1 c2 c3)) := (Below.refl _ _).alloc (Nat.le_refl _) _
  obtain ⟨rfl, r1, -⟩ := h1
  obtain ⟨rfl, r2, -⟩ := h2
  obtain ⟨rfl, r3, -⟩ := h3
  intro i hi
  have hi2 : i < 3 := hi
  match i, hi2 with
  | 0, _ => exact ⟨by rw [Lib.cell_of_heap hh]; rfl, r1.old hb⟩
  | 1, _ => exact ⟨by rw [Lib.cell_of_heap hh]; rfl, r2.old hb⟩
  | 2, _ => exact ⟨by rw [Lib.cell_of_heap hh]; rfl, r3.old hb⟩
theorem ok3 {w : World} {a1 a2 a3 : Option Addr} {n1 n2 n3 c1 c2 c3 : Nat} {e1 e2 e3 : List Ent} (h1 : SE w a1 n1 c1 e1) (h2 : SE w a2 n2 c2 e2) (h3 : SE w a3 n3 c3 e3) (k1 : n1 ≤ 60) (k2 : n2 ≤ 60) (k3 : n3 ≤ 60) (o1 : okV e1) (o2 : okV e2) (o3 : okV e3) :
    okLs [(a1, c1, e1), (a2, c2, e2), (a3, c3, e3)] ∧ (wrL [(a1, c1, e1), (a2, c2, e2), (a3, c3, e3)]).length ≤ 4096 := by
  have q1 := h1.1
  have q2 := h2.1
  have q3 := h3.1
  refine ⟨fun x hx => ?_, ?_⟩
  · simp only [List.mem_cons, List.not_mem_nil, or_false] at hx
    rcases hx with rfl | rfl | rfl
    · exact ⟨o1, show e1.length ≤ 4096 by omega, show e1.length ≤ c1 by rw [q1]; exact h1.2.2.1, h1.2.2.2⟩
    · exact ⟨o2, show e2.length ≤ 4096 by omega, show e2.length ≤ c2 by rw [q2]; exact h2.2.2.1, h2.2.2.2⟩
    · exact ⟨o3, show e3.length ≤ 4096 by omega, show e3.length ≤ c3 by rw [q3]; exact h3.2.2.1, h3.2.2.2⟩
  · simp only [wrL, List.flatMap_cons, List.flatMap_nil, List.append_nil, List.length_append]
    omega
set_option maxHeartbeats 64000000 in
theorem walk_MergeAll (a1 : Option Addr) (c1 : Nat) (e1 : List Ent) (a2 : Option Addr) (c2 : Nat) (e2 : List Ent) (a3 : Option Addr) (c3 : Nat) (e3 : List Ent) (w : World) (h1 : SE w a1 e1.length c1 e1) (o1 : okV e1) (h2 : SE w a2 e2.length c2 e2) (o2 : okV e2) (h3 : SE w a3 e3.length c3 e3) (o3 : okV e3) :
    Calls Try.prog 3 #[.slice a1 e1.length c1, .slice a2 e2.length c2, .slice a3 e3.length c3] w fun e w' => e = .returned (.bool true) ∧ Below w.heap.size w w' := by
  obtain ⟨n1, hn1⟩ : ∃ n, n = e1.length := ⟨_, rfl⟩
  rw [← hn1] at h1 ⊢
  have hm1 : n1 ≤ 9223372036854775807 := by have := h1.2.2.1; have := h1.2.2.2; unfold maxLen at this; omega
  have HL1 := Lib.hid fun r hr (wx : World) (hx : Below w.heap.size w wx) => light_any a1 n1 c1 e1 wx hm1 hn1.symm (h1.2.1.old hx) o1 r hr
  have HS1 := Lib.hid h1
  have HO1 := Lib.hid o1
  obtain ⟨r1, hr1⟩ : ∃ r, liteB e1 = r := ⟨_, rfl⟩
  have HR1 := Lib.hid hr1
  have HN1 := Lib.hid hn1
  clear h1 o1 hr1 hn1 hm1
  obtain ⟨n2, hn2⟩ : ∃ n, n = e2.length := ⟨_, rfl⟩
  rw [← hn2] at h2 ⊢
  have hm2 : n2 ≤ 9223372036854775807 := by have := h2.2.2.1; have := h2.2.2.2; unfold maxLen at this; omega
  have HL2 := Lib.hid fun r hr (wx : World) (hx : Below w.heap.size w wx) => light_any a2 n2 c2 e2 wx hm2 hn2.symm (h2.2.1.old hx) o2 r hr
  have HS2 := Lib.hid h2
  have HO2 := Lib.hid o2
  obtain ⟨r2, hr2⟩ : ∃ r, liteB e2 = r := ⟨_, rfl⟩
  have HR2 := Lib.hid hr2
  have HN2 := Lib.hid hn2
  clear h2 o2 hr2 hn2 hm2
  obtain ⟨n3, hn3⟩ : ∃ n, n = e3.length := ⟨_, rfl⟩
  rw [← hn3] at h3 ⊢
  have hm3 : n3 ≤ 9223372036854775807 := by have := h3.2.2.1; have := h3.2.2.2; unfold maxLen at this; omega
  have HL3 := Lib.hid fun r hr (wx : World) (hx : Below w.heap.size w wx) => light_any a3 n3 c3 e3 wx hm3 hn3.symm (h3.2.1.old hx) o3 r hr
  have HS3 := Lib.hid h3
  have HO3 := Lib.hid o3
  obtain ⟨r3, hr3⟩ : ∃ r, liteB e3 = r := ⟨_, rfl⟩
  have HR3 := Lib.hid hr3
  have HN3 := Lib.hid hn3
  clear h3 o3 hr3 hn3 hm3
  have HA := Lib.hid fun w => awake11_any w
  go_enter Try.func3, Try.ntmps3
  go_wp2_with fail
  have HW0 : Hid (Below w.heap.size w w) := Lib.hid (Below.refl _ _)
  refine (HL1.out _ HR1.out _ HW0.out).mono ?_
  rintro e w1 ⟨rfl, b1⟩
  have HW1 := Lib.hid (HW0.out.trans (b1.mono HW0.out.size))
  clear b1
  cases r1 with
  | false =>
    go_wp2_with fail
    refine (HA.out _).mono ?_
    rintro e w9 ⟨rfl, b9⟩
    have HW9 := Lib.hid (HW1.out.trans (b9.mono HW1.out.size))
    clear b9
    go_wp2
    go_ret
    exact ⟨rfl, HW9.out⟩
  | true =>
    go_wp2_with fail
    refine (HL2.out _ HR2.out _ HW1.out).mono ?_
    rintro e w2 ⟨rfl, b2⟩
    have HW2 := Lib.hid (HW1.out.trans (b2.mono HW1.out.size))
    clear b2
    cases r2 with
    | false =>
      go_wp2_with fail
      refine (HA.out _).mono ?_
      rintro e w9 ⟨rfl, b9⟩
      have HW9 := Lib.hid (HW2.out.trans (b9.mono HW2.out.size))
      clear b9
      go_wp2
      go_ret
      exact ⟨rfl, HW9.out⟩
    | true =>
      go_wp2_with fail
      refine (HL3.out _ HR3.out _ HW2.out).mono ?_
      rintro e w3 ⟨rfl, b3⟩
      have HW3 := Lib.hid (HW2.out.trans (b3.mono HW2.out.size))
      clear b3
      cases r3 with
      | false =>
        go_wp2_with fail
        refine (HA.out _).mono ?_
        rintro e w9 ⟨rfl, b9⟩
        have HW9 := Lib.hid (HW3.out.trans (b9.mono HW3.out.size))
        clear b9
        go_wp2
        go_ret
        exact ⟨rfl, HW9.out⟩
      | true =>
        have k1 : n1 ≤ 60 := by rw [HN1.out]; exact (lite_yes HR1.out).1
        have k2 : n2 ≤ 60 := by rw [HN2.out]; exact (lite_yes HR2.out).1
        have k3 : n3 ≤ 60 := by rw [HN3.out]; exact (lite_yes HR3.out).1
        have s1 := HS1.out.old HW3.out
        have s2 := HS2.out.old HW3.out
        have s3 := HS3.out.old HW3.out
        obtain ⟨hok, h4⟩ := ok3 s1 s2 s3 k1 k2 k3 HO1.out HO2.out HO3.out
        obtain ⟨ls, hls⟩ : ∃ ls : List Lst, ls = [(a1, c1, e1), (a2, c2, e2), (a3, c3, e3)] := ⟨_, rfl⟩
        rw [← hls] at hok h4
        have hlen : ls.length = 3 := by rw [hls]; rfl
        obtain ⟨V, hV⟩ : ∃ V, mrgL ls = V := ⟨_, rfl⟩
        obtain ⟨m, hm⟩ : ∃ m, V.length = m := ⟨_, rfl⟩
        obtain ⟨z, hz⟩ : ∃ z, mayZ ls = z := ⟨_, rfl⟩
        have hm4 : m ≤ 4096 := by
          rw [← hm, ← hV]
          unfold mrgL
          split
          · exact Nat.le_trans (allM_le _) h4
          · exact Nat.zero_le _
        have HMm := Lib.hid (And.intro hm hm4)
        have HC1 := Lib.hid fun (wx : World) (hx : Below w.heap.size w wx) => merge_at wx.heap.size 0 3 3 ls V m z (wx.alloc (objL3 a1 a2 a3 n1 n2 n3 c1 c2 c3)) hV hm hz (by decide) hlen (by simp) (by rw [hls]; exact ll3 wx _ _ _ _ _ _ _ _ _ _ _ _ (HS1.out.old hx) (HS2.out.old hx) (HS3.out.old hx)) hok h4
        have HC2 := Lib.hid fun (wx : World) (hx : Below w.heap.size w wx) => rmerge_at wx.heap.size 0 3 3 ls V m z (wx.alloc (objL3 a1 a2 a3 n1 n2 n3 c1 c2 c3)) hV hm hz (by decide) hlen (by simp) (by rw [hls]; exact ll3 wx _ _ _ _ _ _ _ _ _ _ _ _ (HS1.out.old hx) (HS2.out.old hx) (HS3.out.old hx)) hok h4
        have HM1 := Lib.hid fun (wx : World) (hx : Below w.heap.size w wx) => madeT_any a1 n1 c1 e1 wx k1 HN1.out.symm (HS1.out.2.1.old hx) HO1.out
        have HM2 := Lib.hid fun (wx : World) (hx : Below w.heap.size w wx) => madeT_any a2 n2 c2 e2 wx k2 HN2.out.symm (HS2.out.2.1.old hx) HO2.out
        have HM3 := Lib.hid fun (wx : World) (hx : Below w.heap.size w wx) => madeT_any a3 n3 c3 e3 wx k3 HN3.out.symm (HS3.out.2.1.old hx) HO3.out
        have HQ := Lib.hid (And.intro (madeT_ok e1 (lite_yes HR1.out).1).2 (And.intro (madeT_ok e2 (lite_yes HR2.out).1).2 (And.intro (madeT_ok e3 (lite_yes HR3.out).1).2 (And.intro (madeT_okV HO1.out) (And.intro (madeT_okV HO2.out) (madeT_okV HO3.out))))))
        clear hok h4 hls hlen hV hm hz hm4 s1 s2 s3 k1 k2 k3 HL1 HL2 HL3
        go_wp2_with fail
        refine (HC1.out _ HW3.out).mono ?_
        rintro e w4 ⟨xa, xc, rfl, rx, b4⟩
        have HB4 : Hid (Below w3.heap.size w3 w4) := Lib.hid (((Below.refl _ _).alloc (Nat.le_refl _) _).trans (b4.mono (by simp)))
        have HW4 := Lib.hid (HW3.out.trans (HB4.out.mono HW3.out.size))
        have HX4 := Lib.hid rx
        clear b4 rx HB4
        go_wp2_with fail
        refine (HC2.out _ HW4.out).mono ?_
        rintro e w5 ⟨ya, yc, rfl, ry, b5⟩
        have HB5 : Hid (Below w4.heap.size w4 w5) := Lib.hid (((Below.refl _ _).alloc (Nat.le_refl _) _).trans (b5.mono (by simp)))
        have HW5 := Lib.hid (HW4.out.trans (HB5.out.mono HW4.out.size))
        have HX5 := Lib.hid (HX4.out.old HB5.out)
        have HY5 := Lib.hid ry
        clear b5 ry HB5 HX4 HC1 HC2
        go_wp2_with fail
        refine (HM1.out _ HW5.out).mono ?_
        rintro e w6 ⟨p1, q1, d1, rfl, s6, b6⟩
        have HW6 := Lib.hid (HW5.out.trans (b6.mono HW5.out.size))
        have HX6 := Lib.hid (And.intro (HX5.out.old b6) (HY5.out.old b6))
        have HS6 := Lib.hid s6
        clear b6 s6 HX5 HY5
        go_wp2_with fail
        refine (HM2.out _ HW6.out).mono ?_
        rintro e w7 ⟨p2, q2, d2, rfl, s7, b7⟩
        have HW7 := Lib.hid (HW6.out.trans (b7.mono HW6.out.size))
        have HX7 := Lib.hid (And.intro (HX6.out.1.old b7) (HX6.out.2.old b7))
        have HS7 := Lib.hid (And.intro (HS6.out.old b7) s7)
        clear b7 s7 HX6 HS6
        go_wp2_with fail
        refine (HM3.out _ HW7.out).mono ?_
        rintro e w8 ⟨p3, q3, d3, rfl, s8, b8⟩
        have HW8 := Lib.hid (HW7.out.trans (b8.mono HW7.out.size))
        have HX8 := Lib.hid (And.intro (HX7.out.1.old b8) (HX7.out.2.old b8))
        have HS8 := Lib.hid (And.intro (HS7.out.1.old b8) (And.intro (HS7.out.2.old b8) s8))
        have k1 : q1 ≤ 60 := by rw [← HS8.out.1.1]; exact HQ.out.1
        have k2 : q2 ≤ 60 := by rw [← HS8.out.2.1.1]; exact HQ.out.2.1
        have k3 : q3 ≤ 60 := by rw [← HS8.out.2.2.1]; exact HQ.out.2.2.1
        clear b8 s8 HX7 HS7
        obtain ⟨hok, h4⟩ := ok3 HS8.out.1 HS8.out.2.1 HS8.out.2.2 k1 k2 k3 HQ.out.2.2.2.1 HQ.out.2.2.2.2.1 HQ.out.2.2.2.2.2
        have hll := ll3 w8 _ _ _ _ _ _ _ _ _ _ _ _ HS8.out.1 HS8.out.2.1 HS8.out.2.2
        obtain ⟨lt, hlt⟩ : ∃ ls : List Lst, ls = [(p1, d1, madeT e1), (p2, d2, madeT e2), (p3, d3, madeT e3)] := ⟨_, rfl⟩
        rw [← hlt] at hok h4 hll
        have hlen : lt.length = 3 := by rw [hlt]; rfl
        obtain ⟨U, hU⟩ : ∃ V, mrgL lt = V := ⟨_, rfl⟩
        obtain ⟨u, hu⟩ : ∃ m, U.length = m := ⟨_, rfl⟩
        obtain ⟨y, hy⟩ : ∃ z, mayZ lt = z := ⟨_, rfl⟩
        have hu4 : u ≤ 4096 := by
          rw [← hu, ← hU]
          unfold mrgL
          split
          · exact Nat.le_trans (allM_le _) h4
          · exact Nat.zero_le _
        have HMu := Lib.hid (And.intro hu hu4)
        obtain ⟨W8, hW8⟩ : ∃ W, W = w8.alloc (objL3 p1 p2 p3 q1 q2 q3 d1 d2 d3) := ⟨_, rfl⟩
        have hbl : Below w8.heap.size w8 W8 := by rw [hW8]; exact (Below.refl _ _).alloc (Nat.le_refl _) _
        have hbs : w8.heap.size < W8.heap.size := by rw [hW8]; simp
        rw [← hW8] at hll
        have HWE := Lib.hid hW8
        have HWX := Lib.hid (HW8.out.trans (hbl.mono HW8.out.size))
        have HX9 := Lib.hid (And.intro (HX8.out.1.old hbl) (HX8.out.2.old hbl))
        have HC1 := Lib.hid fun (wx : World) (hx : Below W8.heap.size W8 wx) => merge_at w8.heap.size 0 3 3 lt U u y wx hU hu hy (by decide) hlen (Nat.lt_of_lt_of_le hbs hx.size) (hll.old hbs hx) hok h4
        have HC2 := Lib.hid fun (wx : World) (hx : Below W8.heap.size W8 wx) => rmerge_at w8.heap.size 0 3 3 lt U u y wx hU hu hy (by decide) hlen (Nat.lt_of_lt_of_le hbs hx.size) (hll.old hbs hx) hok h4
        clear hok h4 hll hlt hlen hU hu hy hu4 hW8 hbl k1 k2 k3 HX8 HM1 HM2 HM3 HS8
        go_wp2_with fail
        rw [← HWE.out]
        refine (HC1.out _ (Below.refl _ _)).mono ?_
        rintro e w10 ⟨sa, sc, rfl, rs, b10⟩
        have HB10 := Lib.hid b10
        have HX10 := Lib.hid (And.intro (HX9.out.1.old b10) (And.intro (HX9.out.2.old b10) rs))
        clear b10 rs HX9
        go_wp2_with fail
        refine (HC2.out _ HB10.out).mono ?_
        rintro e w11 ⟨ta, tc, rfl, rt, b11⟩
        have HB11 := Lib.hid (HB10.out.trans (b11.mono HB10.out.size))
        have HX11 := Lib.hid (And.intro (HX10.out.1.old b11) (And.intro (HX10.out.2.1.old b11) (And.intro (HX10.out.2.2.old b11) rt)))
        clear b11 rt HX10 HB10
        go_wp2_with fail
        refine (samee_any _ _ m _ _ V _ HX11.out.1 HX11.out.2.1 (by have := HMm.out; omega) HMm.out.1).mono ?_
        rintro e w12 ⟨rfl, b12⟩
        have HB12 := Lib.hid (HB11.out.trans (b12.mono HB11.out.size))
        have HX12 := Lib.hid (And.intro (HX11.out.2.2.1.old b12) (HX11.out.2.2.2.old b12))
        clear b12 HX11 HB11
        go_wp2_with fail
        refine (samee_any _ _ u _ _ U _ HX12.out.1 HX12.out.2 (by have := HMu.out; omega) HMu.out.1).mono ?_
        rintro e w13 ⟨rfl, b13⟩
        have HB13 := Lib.hid (HB12.out.trans (b13.mono HB12.out.size))
        clear b13 HX12 HB12
        go_wp2_with fail
        refine (HA.out _).mono ?_
        rintro e w14 ⟨rfl, b14⟩
        have HB14 := Lib.hid (HB13.out.trans (b14.mono HB13.out.size))
        clear b14
        go_wp2
        go_ret
        exact ⟨rfl, HWX.out.trans (HB14.out.mono HWX.out.size)⟩
end Go.Proofs.Ytgkkgiaaillhpaa
