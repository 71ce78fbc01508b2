/-
  Layer 11 (merge): the walk of the law MergeGoes. Conditions: lists that came in.
-/
import Derived.Test.YtgkkgiaaillhpaaMAl
import Derived.Test.YtgkkgiaaillhpaaBt
import Derived.Lib.MinMax
import Derived.Deep.RegionHeld3
namespace Go.Proofs.Ytgkkgiaaillhpaa
set_option maxRecDepth 100000
open Go.RowKit
set_option linter.unusedVariables false
set_option linter.unusedSimpArgs false
attribute [local go_sem] Oper.semAt_some

abbrev objL2 (a1 a2 : Option Addr) (n1 n2 c1 c2 : Nat) : Obj := .cells #[.slice a1 n1 c1, .slice a2 n2 c2] 22
theorem ll2 (w : World) (a1 a2 : Option Addr) (n1 n2 c1 c2 : Nat) (e1 e2 : List Ent) (h1 : SE w a1 n1 c1 e1) (h2 : SE w a2 n2 c2 e2) :
    LLc (w.alloc (objL2 a1 a2 n1 n2 c1 c2)) w.heap.size 0 [(a1, c1, e1), (a2, c2, e2)] := by
  have hh := heap_alloc_new w (objL2 a1 a2 n1 n2 c1 c2)
  have hb : Below w.heap.size w (w.alloc (objL2 a1 a2 n1 n2 c1 c2)) := (Below.refl _ _).alloc (Nat.le_refl _) _
  obtain ⟨rfl, r1, -⟩ := h1
  obtain ⟨rfl, r2, -⟩ := h2
  intro i hi
  have hi2 : i < 2 := hi
  match i, hi2 with
  | 0, _ => exact ⟨by rw [Lib.cell_of_heap hh]; rfl, r1.old hb⟩
  | 1, _ => exact ⟨by rw [Lib.cell_of_heap hh]; rfl, r2.old hb⟩
theorem ok2 {w : World} {a1 a2 : Option Addr} {n1 n2 c1 c2 : Nat} {e1 e2 : List Ent} (h1 : SE w a1 n1 c1 e1) (h2 : SE w a2 n2 c2 e2) (k1 : n1 ≤ 60) (k2 : n2 ≤ 60) (o1 : okV e1) (o2 : okV e2) (b1 : okB e1 = true) (b2 : okB e2 = true) :
    okLs [(a1, c1, e1), (a2, c2, e2)] ∧ (wrL [(a1, c1, e1), (a2, c2, e2)]).length ≤ 120 ∧ mayL [(a1, c1, e1), (a2, c2, e2)] = true := by
  have q1 := h1.1
  have q2 := h2.1
  refine ⟨fun x hx => ?_, ?_, by simp [mayL, b1, b2]⟩
  · simp only [List.mem_cons, List.not_mem_nil, or_false] at hx
    rcases hx with rfl | rfl
    · exact ⟨o1, show e1.length ≤ 4096 by omega, show e1.length ≤ c1 by rw [q1]; exact h1.2.2.1, h1.2.2.2⟩
    · exact ⟨o2, show e2.length ≤ 4096 by omega, show e2.length ≤ c2 by rw [q2]; exact h2.2.2.1, h2.2.2.2⟩
  · simp only [wrL, List.flatMap_cons, List.flatMap_nil, List.append_nil, List.length_append]
    omega
theorem rdE_take {w : World} {a : Option Addr} {es : List Ent} (h : RdE w a es) (k : Nat) : RdE w a (es.take k) := by
  rcases h with rfl | ⟨b, off, rfl, hb, hc⟩
  · exact .inl (by simp)
  · refine .inr ⟨b, off, rfl, hb, fun i hi => ?_⟩
    rw [List.length_take] at hi
    have := hc i (by omega)
    rw [List.getElem_take]
    exact this
theorem keepG {V a b : World} {x y : Nat} {u v : Value} (h : a.cell? ⟨x, 0, none⟩ = some u ∧ a.cell? ⟨y, 0, none⟩ = some v ∧ Below V.heap.size V a) (hb : Below a.heap.size a b) :
    b.cell? ⟨x, 0, none⟩ = some u ∧ b.cell? ⟨y, 0, none⟩ = some v ∧ Below V.heap.size V b :=
  ⟨(hb.cell (p := ⟨x, 0, none⟩) (cell_lt h.1)).trans h.1, (hb.cell (p := ⟨y, 0, none⟩) (cell_lt h.2.1)).trans h.2.1, h.2.2.trans (hb.mono h.2.2.size)⟩
set_option maxHeartbeats 64000000 in
theorem walk_MergeGoes (a1 : Option Addr) (c1 : Nat) (e1 : List Ent) (a2 : Option Addr) (c2 : Nat) (e2 : List Ent) (leave : Int) (hlv : (Lit.int .i64 leave).wf = true) (w : World) (h1 : SE w a1 e1.length c1 e1) (o1 : okV e1) (h2 : SE w a2 e2.length c2 e2) (o2 : okV e2) :
    Calls Try.prog 4 #[.slice a1 e1.length c1, .slice a2 e2.length c2, .int .i64 leave] w fun e w' => e = .returned (.bool true) ∧ Below w.heap.size w w' := by
  obtain ⟨mm, hmm, hm256⟩ := low8 leave
  obtain ⟨i0, hi, hz0, hz1, hz2⟩ := info_parts Try.infoEnt
  obtain ⟨n1, hn1⟩ : ∃ n, n = e1.length := ⟨_, rfl⟩
  rw [← hn1] at h1 ⊢
  have hm1 : n1 ≤ 9223372036854775807 := by have := h1.2.2.1; have := h1.2.2.2; unfold maxLen at this; omega
  have HL1 := Lib.hid fun r hr (wx : World) (hx : Below w.heap.size w wx) => light_any a1 n1 c1 e1 wx hm1 hn1.symm (h1.2.1.old hx) o1 r hr
  have HS1 := Lib.hid h1
  have HO1 := Lib.hid o1
  obtain ⟨r1, hr1⟩ : ∃ r, liteB e1 = r := ⟨_, rfl⟩
  have HR1 := Lib.hid hr1
  have HN1 := Lib.hid hn1
  clear h1 o1 hr1 hn1 hm1
  obtain ⟨n2, hn2⟩ : ∃ n, n = e2.length := ⟨_, rfl⟩
  rw [← hn2] at h2 ⊢
  have hm2 : n2 ≤ 9223372036854775807 := by have := h2.2.2.1; have := h2.2.2.2; unfold maxLen at this; omega
  have HL2 := Lib.hid fun r hr (wx : World) (hx : Below w.heap.size w wx) => light_any a2 n2 c2 e2 wx hm2 hn2.symm (h2.2.1.old hx) o2 r hr
  have HS2 := Lib.hid h2
  have HO2 := Lib.hid o2
  obtain ⟨r2, hr2⟩ : ∃ r, liteB e2 = r := ⟨_, rfl⟩
  have HR2 := Lib.hid hr2
  have HN2 := Lib.hid hn2
  clear h2 o2 hr2 hn2 hm2
  have HA := Lib.hid fun w => awake11_any w
  clear hlv
  refine (callsIn_wide (n := 9)).1 ?_
  refine callsIn_of_wp_marks Try.func4 rfl trivial ?_ rfl
  simp only [Try.ntmps4, List.size_toArray, List.length_cons, List.length_nil, Nat.reduceAdd, Nat.reduceSub, Array.replicate_succ, Array.replicate_zero, List.push_toArray, List.append_toArray, List.nil_append, List.cons_append]
  refine wpIn_wide.2 ?_
  go_wp2_with fail
  refine (HA.out _).mono ?_
  rintro e w0 ⟨rfl, b0⟩
  have HW0 := Lib.hid b0
  clear b0
  go_wp2_with fail
  refine (HL1.out _ HR1.out _ HW0.out).mono ?_
  rintro e w1 ⟨rfl, b1⟩
  have HW1 := Lib.hid (HW0.out.trans (b1.mono HW0.out.size))
  clear b1
  cases r1 with
  | false =>
    go_wp2_with fail
    refine (HA.out _).mono ?_
    rintro e w9 ⟨rfl, b9⟩
    have HW9 := Lib.hid (HW1.out.trans (b9.mono HW1.out.size))
    clear b9
    go_wp2_with fail
    exact postM_ret rfl (results_tmp rfl _ _ _) ⟨rfl, HW9.out⟩
  | true =>
    go_wp2_with fail
    refine (HL2.out _ HR2.out _ HW1.out).mono ?_
    rintro e w2 ⟨rfl, b2⟩
    have HW2 := Lib.hid (HW1.out.trans (b2.mono HW1.out.size))
    clear b2
    cases r2 with
    | false =>
      go_wp2_with fail
      refine (HA.out _).mono ?_
      rintro e w9 ⟨rfl, b9⟩
      have HW9 := Lib.hid (HW2.out.trans (b9.mono HW2.out.size))
      clear b9
      go_wp2_with fail
      exact postM_ret rfl (results_tmp rfl _ _ _) ⟨rfl, HW9.out⟩
    | true =>
      have k1 : n1 ≤ 60 := by rw [HN1.out]; exact (lite_yes HR1.out).1
      have k2 : n2 ≤ 60 := by rw [HN2.out]; exact (lite_yes HR2.out).1
      have HM1 := Lib.hid fun (wx : World) (hx : Below w.heap.size w wx) => madeT_any a1 n1 c1 e1 wx k1 HN1.out.symm (HS1.out.2.1.old hx) HO1.out
      have HM2 := Lib.hid fun (wx : World) (hx : Below w.heap.size w wx) => madeT_any a2 n2 c2 e2 wx k2 HN2.out.symm (HS2.out.2.1.old hx) HO2.out
      have HQ1 := Lib.hid (And.intro (madeT_ok e1 (lite_yes HR1.out).1) (madeT_okV HO1.out))
      have HQ2 := Lib.hid (And.intro (madeT_ok e2 (lite_yes HR2.out).1) (madeT_okV HO2.out))
      clear k1 k2 HL1 HL2
      go_wp2_with fail
      refine (HM1.out _ HW2.out).mono ?_
      rintro e w3 ⟨p1, q1, d1, rfl, s3, b3⟩
      have HW3 := Lib.hid (HW2.out.trans (b3.mono HW2.out.size))
      have HS3 := Lib.hid s3
      clear b3 s3
      go_wp2_with fail
      refine (HM2.out _ HW3.out).mono ?_
      rintro e w4 ⟨p2, q2, d2, rfl, s4, b4⟩
      have HW4 := Lib.hid (HW3.out.trans (b4.mono HW3.out.size))
      have hs4 := HS3.out.old b4
      have k1 : q1 ≤ 60 := by rw [← hs4.1]; exact HQ1.out.1.2
      have k2 : q2 ≤ 60 := by rw [← s4.1]; exact HQ2.out.1.2
      obtain ⟨hok, h4, hmay⟩ := ok2 hs4 s4 k1 k2 HQ1.out.2 HQ2.out.2 HQ1.out.1.1 HQ2.out.1.1
      have hll := ll2 w4 _ _ _ _ _ _ _ _ hs4 s4
      obtain ⟨ls, hls⟩ : ∃ ls : List Lst, ls = [(p1, d1, madeT e1), (p2, d2, madeT e2)] := ⟨_, rfl⟩
      rw [← hls] at hok h4 hll hmay
      have hlen : ls.length = 2 := by rw [hls]; rfl
      obtain ⟨W5, hW5⟩ : ∃ W, W = w4.alloc (objL2 p1 p2 q1 q2 d1 d2) := ⟨_, rfl⟩
      have hbl : Below w4.heap.size w4 W5 := by rw [hW5]; exact (Below.refl _ _).alloc (Nat.le_refl _) _
      have hbs : w4.heap.size < W5.heap.size := by rw [hW5]; simp
      rw [← hW5] at hll
      have HWE := Lib.hid hW5
      have HW5 := Lib.hid (HW4.out.trans (hbl.mono HW4.out.size))
      have HRA := Lib.hid (rall11_any w4.heap.size 0 2 2 ls W5 (by decide) hlen hbs hll hok (by omega))
      have HEA := Lib.hid fun (wx : World) (hx : Below W5.heap.size W5 wx) => each11_any w4.heap.size 0 2 2 ls wx (by decide) hlen (Nat.lt_of_lt_of_le hbs hx.size) (hll.old hbs hx) hok okM_of
      have HMY := Lib.hid hmay
      have hv120 := Nat.le_trans (allM_le (wrL ls)) h4
      have HAL := Lib.hid (all_lists hmay)
      obtain ⟨V, hV⟩ : ∃ V, allM (wrL ls) = V := ⟨_, rfl⟩
      rw [hV] at hv120 HRA HAL
      clear hok h4 hll hls hlen hW5 hbl k1 k2 hs4 s4 HS3 b4 hmay hV HM1 HM2
      go_wp2_with fail
      rw [← HWE.out]
      refine HRA.out.mono ?_
      rintro e w6 ⟨va, vn, vc, rfl, s6, b6⟩
      have HW6 := Lib.hid (HW5.out.trans (b6.mono HW5.out.size))
      have HB6 := Lib.hid b6
      have HS6 := Lib.hid s6
      have hvn : vn ≤ 120 := by rw [← s6.1]; exact hv120
      clear b6 s6 HRA
      go_wp2_with fail
      have b0 : Boxed ((w6.alloc (.cells #[.int .i64 (1 + (mm : Int))] 3)).alloc (.cells #[.slice none 0 0] 22)) (w6.heap.size) 3 (.int .i64 (1 + (mm : Int))) := by
        have h := Boxed.new w6 3 (.int .i64 (1 + (mm : Int)))
        exact h.alloc _
      have b1 : Boxed ((w6.alloc (.cells #[.int .i64 (1 + (mm : Int))] 3)).alloc (.cells #[.slice none 0 0] 22)) (w6.heap.size + 1) 22 (.slice none 0 0) := by
        have h := Boxed.new (w6.alloc (.cells #[.int .i64 (1 + (mm : Int))] 3)) 22 (.slice none 0 0)
        rw [World.size_alloc] at h
        exact h
      have hB : Below w6.heap.size w6 ((w6.alloc (.cells #[.int .i64 (1 + (mm : Int))] 3)).alloc (.cells #[.slice none 0 0] 22)) := ((Below.refl _ w6).alloc (Nat.le_refl _) _).alloc (by simp) _
      generalize ((w6.alloc (.cells #[.int .i64 (1 + (mm : Int))] 3)).alloc (.cells #[.slice none 0 0] 22)) = W4 at *
      have hsz : w6.heap.size + 1 < W4.heap.size := b1.lt
      have hBx := HB6.out.trans (hB.mono HB6.out.size)
      refine (HEA.out _ hBx).mono ?_
      rintro e w8 ⟨Lb, ra, rn, rc, vs, rfl, hLb, hcb, hse, hvN, hA, hF, hlo, hb8⟩
      obtain rfl : vs = V := (hA HMY.out).uniq HAL.out
      have hW8 : W4.heap.size ≤ w8.heap.size := hb8.size
      have B0 := Lib.hid (boxed_below b0 hb8)
      have B1 := Lib.hid (boxed_below b1 hb8)
      have HB8 := Lib.hid (hB.trans (hb8.mono (by omega)))
      obtain ⟨vb, vo, e1', e2', e3'⟩ := hse.2.1.at_
      rw [hse.1] at e1' e2'
      have hvlo : 0 < rn → W4.heap.size ≤ vb := fun h => hlo vb vo (e1' h)
      have hSS : ∀ c, (0 < rn ∧ c = vb) → c < w8.heap.size := by
        rintro c ⟨h, rfl⟩
        exact e2' h
      have hst := eachs_stops 8 Lb vb vo rn rc ra vs w8 w8 (by have := hse.1; omega) hse.1 e1' e2' e3' (fun c => 0 < rn ∧ c = vb) (fun h => ⟨h, rfl⟩) (Below.refl _ _) hcb
      have hyv : 0 < rn → vb ≠ w6.heap.size + 1 := fun h e => by have := hvlo h; omega
      have hnv : vn = vs.length := HS6.out.1.symm
      clear hse hvN hA hF hlo hb8 e1' e2' e3' hcb b0 b1 hB hBx HEA hvlo HAL HMY
      go_wp2_with fail
      refine (wpIn_wide (n := 9)).1 ?_
      refine wpIn_rangeFunc_ownH rfl (by decide) (gf := fnE) (lb := #[.pointer (some ⟨Lb, 0, none⟩)]) rfl trivial (enters_of Try.func31 (by kernel_rfl) rfl)
        hst KpS.trans (kpS_b hSS) (Below.refl _ _) (fun _ => rfl)
        (fun pre W => (∃ v, Boxed W (w6.heap.size + 1) 22 v ∧ W.ownsRow w8.heap.size 37 4 v pre.length (ev4 pre) ∧ (pre.length : Int) < 1 + (mm : Int)) ∧ (Boxed W w6.heap.size 3 (.int .i64 (1 + (mm : Int))) ∧ Below w6.heap.size w8 W))
        (fun c pre W => c = .exit 0 ∧ ((∃ v, Boxed W (w6.heap.size + 1) 22 v ∧ W.ownsRow w8.heap.size 37 4 v pre.length (ev4 pre) ∧ (pre.length : Int) = 1 + (mm : Int)) ∧ (Boxed W w6.heap.size 3 (.int .i64 (1 + (mm : Int))) ∧ Below w6.heap.size w8 W)))
        (OwnFrom.and (Own.from (holdsRow_own w8.heap.size (w6.heap.size + 1) 22 37 4 (fun pre : List Ent => pre.length) (fun pre => ev4 pre) (fun pre v => (pre.length : Int) < 1 + (mm : Int))) _) (OwnFrom.and (Own.from (boxed_own w6.heap.size 3 (fun _ : List Ent => .int .i64 (1 + (mm : Int)))) _) (ownFrom_below (by omega) (by omega))))
        (fun c => OwnFrom.and (ownFrom_pure _ _) (OwnFrom.and (Own.from (holdsRow_own w8.heap.size (w6.heap.size + 1) 22 37 4 (fun pre : List Ent => pre.length) (fun pre => ev4 pre) (fun pre v => (pre.length : Int) = 1 + (mm : Int))) _) (OwnFrom.and (Own.from (boxed_own w6.heap.size 3 (fun _ : List Ent => .int .i64 (1 + (mm : Int)))) _) (ownFrom_below (by omega) (by omega)))))
        ⟨⟨_, B1.out, World.ownsRow_nil _ _ _ _, by simp; omega⟩, B0.out, Below.refl _ _⟩
        (fun x a' W => ∃ Bx, w6.heap.size + 2 ≤ Bx ∧ EBk W Bx x ∧ a' = { tmps := #[.slice a1 n1 c1, .slice a2 n2 c2, .int .i64 leave, undef, undef, undef, .bool false, .slice (some ⟨w4.heap.size, 0, none⟩) 2 2, .slice va vs.length vc, .pointer (some ⟨w6.heap.size, 0, none⟩), .pointer (some ⟨w6.heap.size + 1, 0, none⟩), .pointer (some ⟨Bx, 0, none⟩), .bool true, .bool false, .slice a1 n1 c1, .bool true, .bool false, .bool false, .slice a2 n2 c2, .bool true, .bool false, .bool false, undef, .slice a1 n1 c1, .slice p1 q1 d1, .slice a2 n2 c2, .slice p2 q2 d2, .slice (some ⟨w4.heap.size, 0, none⟩) 2 2, .slice (some ⟨w4.heap.size, 0, none⟩) 2 2, .slice va vs.length vc, .int .i64 leave, .int .i64 mm, .int .i64 (1 + mm), .slice (some ⟨w4.heap.size, 0, none⟩) 2 2, .func (.func fnE) #[] #[.pointer (some ⟨Lb, 0, none⟩)], evA x, undef, undef, undef, undef, undef, undef, undef, undef, undef, undef, undef, undef, undef, undef, undef, undef, undef, undef, undef], defers := [] })
        (fun x a' => ebk_own (w6.heap.size + 2) x _ a' _)
        ?assign ?body ?done ?stop
      case assign =>
        rintro l pre ⟨x1, x2, x3, x4⟩ W K ⟨⟨v, hv, hrow, hlt⟩, h2, hBW⟩ hK
        have hsW : w6.heap.size + 2 ≤ W.heap.size := hv.lt
        gi_wp2
        exact hK _ _ ((KeepsOthers.alloc _ _).from _) (KpS.of_below ((Below.refl W.heap.size W).alloc (Nat.le_refl _) _)) ⟨⟨v, hv.alloc _, hrow.alloc _, hlt⟩, h2.alloc _, hBW.alloc (by have := hBW.size; omega) _⟩ ⟨W.heap.size, hsW, EBk.new W (x1, x2, x3, x4), rfl⟩
      case body =>
        rintro l' pre x a' W hl' hr' ⟨⟨v, hv, hrow, hlt⟩, h2, hBW⟩ ⟨Bx, hBx, hex, rfl⟩ hpl
        have hc0 := hv.cell
        obtain ⟨x0, x1, x2, x3⟩ := hex.cells
        have hxl := hex.lt
        obtain ⟨k1, k2, k3, k4⟩ := x
        have hsW : w8.heap.size ≤ W.heap.size := hBW.size
        have HLEN := Lib.hid (ev4_snoc pre (k1, k2, k3, k4))
        have HBWW := Lib.hid (And.intro h2 hBW)
        obtain ⟨pl, hpll⟩ : ∃ pl, pl = pre.length := ⟨_, rfl⟩
        rw [← hpll] at hrow hpl hlt
        have HPL := Lib.hid hpll
        clear hpll h2 hBW hst
        cases hq : ((pl : Int) + 1 == 1 + (mm : Int)) with
        | false =>
          have hlt2 : (pl : Int) + 1 < 1 + (mm : Int) := by
            have : ¬ (pl : Int) + 1 = 1 + (mm : Int) := by simpa using hq
            omega
          gi_wp2_with (gi_at_builtin; refine wpListIn_append_own _ rfl _ _ 22 rfl w8.heap.size 37 i0 (.agg #[.string ⟨#[]⟩, .string ⟨#[]⟩, .bool false, .int .i64 0]) 4 48 Try.underlying22 hi hz0 hz1 hz2 rfl (by decide) _ _ _ rfl (hrow.alloc _) ⟨W.heap.size, 0, none⟩ 1 1 (ev (k1, k2, k3, k4)) rfl rfl (cell_new4 _ _ _ _ _ _) (by intro u hu; simp [ev] at hu; rcases hu with rfl | rfl | rfl | rfl <;> rfl) (by unfold maxLen; omega) (by omega) (by first | omega | (simp; omega)) ?_; intro v' w1 hown' hgrow _; obtain ⟨g', cap', rfl⟩ := own_form hown' (by decide); obtain ⟨hv1, hv2, hr2, hk2, hb2, hk3⟩ := Boxed.appended2 hv (by decide) hrow (n₁ := w6.heap.size) (by omega) (by omega) (by omega) hown' hgrow; have r0 := ((HBWW.out.1.alloc (.cells #[.string k1, .string k2, .bool k3, .int .i64 k4] 37)).kept hgrow (HBWW.out.1.not_row (by decide) hrow)).other (show w6.heap.size ≠ w6.heap.size + 1 by omega) (.slice g' (pl + 1) cap'); have q0 := r0.cell; have hc2 := hv2.cell; have hkp := hk3 (fun c => 0 < rn ∧ c = vb) (fun c hc => ⟨hSS c hc, fun e => hyv hc.1 (hc.2.symm.trans e)⟩); have hc1 := hv1.cell; have hf1 := hv1.frozen)
          refine ⟨hk2.from _, hkp, ⟨_, hv2, ?_, by rw [List.length_append, ← HPL.out]; simpa using hlt2⟩, r0, HBWW.out.2.trans (hb2.mono (by omega))⟩
          rw [List.length_append, ← HPL.out, ← HLEN.out]
          exact hr2
        | true =>
          have heq : (pl : Int) + 1 = 1 + (mm : Int) := by simpa using hq
          have HEQ := Lib.hid heq
          clear heq
          gi_wp2_with (gi_at_builtin; refine wpListIn_append_own _ rfl _ _ 22 rfl w8.heap.size 37 i0 (.agg #[.string ⟨#[]⟩, .string ⟨#[]⟩, .bool false, .int .i64 0]) 4 48 Try.underlying22 hi hz0 hz1 hz2 rfl (by decide) _ _ _ rfl (hrow.alloc _) ⟨W.heap.size, 0, none⟩ 1 1 (ev (k1, k2, k3, k4)) rfl rfl (cell_new4 _ _ _ _ _ _) (by intro u hu; simp [ev] at hu; rcases hu with rfl | rfl | rfl | rfl <;> rfl) (by unfold maxLen; omega) (by omega) (by first | omega | (simp; omega)) ?_; intro v' w1 hown' hgrow _; obtain ⟨g', cap', rfl⟩ := own_form hown' (by decide); obtain ⟨hv1, hv2, hr2, hk2, hb2, hk3⟩ := Boxed.appended2 hv (by decide) hrow (n₁ := w6.heap.size) (by omega) (by omega) (by omega) hown' hgrow; have r0 := ((HBWW.out.1.alloc (.cells #[.string k1, .string k2, .bool k3, .int .i64 k4] 37)).kept hgrow (HBWW.out.1.not_row (by decide) hrow)).other (show w6.heap.size ≠ w6.heap.size + 1 by omega) (.slice g' (pl + 1) cap'); have q0 := r0.cell; have hc2 := hv2.cell; have hkp := hk3 (fun c => 0 < rn ∧ c = vb) (fun c hc => ⟨hSS c hc, fun e => hyv hc.1 (hc.2.symm.trans e)⟩); have hc1 := hv1.cell; have hf1 := hv1.frozen)
          refine ⟨hk2.from _, rfl, ⟨_, hv2, ?_, by rw [List.length_append, ← HPL.out]; have := HEQ.out; simpa using this⟩, r0, HBWW.out.2.trans (hb2.mono (by omega))⟩
          rw [List.length_append, ← HPL.out, ← HLEN.out]
          exact hr2
      case done =>
        rintro D ys W hD hys ⟨⟨v, hv, hrow, hlt⟩, h2, hBW⟩ hK
        obtain rfl : ys = vs := hys
        have hmin : (ys.length : Int) < 1 + (mm : Int) := hlt
        have HT : Hid (ys = ys.take ys.length) := Lib.hid (by rw [List.take_length])
        obtain ⟨ga, gc, rfl⟩ := own_form hrow (by decide)
        have hsW : w8.heap.size ≤ W.heap.size := hBW.size
        have HBA := Lib.hid (HB8.out.trans (hBW.mono (by omega)))
        obtain ⟨a', c', ee, hse⟩ := own_se hrow rfl
        cases ee
        have HG := Lib.hid hse
        have HV := Lib.hid (HS6.out.old HBA.out)
        have HKK := Lib.hid hK
        have hld : D < W.heap.size := (Array.getElem?_eq_some_iff.1 hK).1
        have hc1 := hv.cell
        have hl1 := hv.lt
        have hc2 := h2.cell
        have hl2 := h2.lt
        clear hst hrow hBW hK hv h2 hse
        go_wp2
        have hcap : ys.length ≤ vc := by have := HS6.out.2.2.1; omega
        have hE2 : RdE W va ys := HV.out.2.1
        obtain ⟨pl, hpl2⟩ : ∃ pl, ys.length = pl := ⟨_, rfl⟩
        have HPL := Lib.hid hpl2
        rw [hpl2] at hc1 hmin hcap hnv ⊢
        have hpci : (pl : Int) ≤ (vc : Int) := by omega
        have hmin2 : min (1 + (mm : Int)) (pl : Int) = (pl : Int) := by omega
        clear hpl2 hlt hv120
        have HE1 := Lib.hid HG.out.2.1
        have HE2 := Lib.hid hE2
        have hp120 : pl ≤ 120 := by omega
        clear hE2
        go_region_held3 (fun w' => w'.cell? ⟨w6.heap.size + 1, 0, none⟩ = some (.slice ga pl gc) ∧ w'.cell? ⟨w6.heap.size, 0, none⟩ = some (.int .i64 (1 + (mm : Int))) ∧ Below W.heap.size W w')
          (first | assumption | exact ⟨(Below.cell (by assumption) (p := ⟨w6.heap.size + 1, 0, none⟩) (by assumption)).trans (by assumption), (Below.cell (by assumption) (p := ⟨w6.heap.size, 0, none⟩) (by assumption)).trans (by assumption), by assumption⟩ | exact keepG (by assumption) (by assumption) | exact ⟨hc1, hc2, (Below.refl _ _).drew⟩)
          (first
            | (go_at_call 15; (refine (samee_any _ _ pl _ _ ys _ (HE1.out.old (And.right (And.right (by assumption)))) (HE2.out.old (And.right (And.right (by assumption)))) (by omega) HPL.out).mono ?_); rintro e w' ⟨rfl, bb⟩)
            | (go_at_call 11; refine (HA.out _).mono ?_; rintro e w' ⟨rfl, bb⟩))
        all_goals
          go_wp2_with fail
          have hbW := (by assumption : _ ∧ _ ∧ Below W.heap.size W _).2.2
          have hK7 := (hbW.block D hld).trans HKK.out
          have z1 := HBA.out.size
          have z2 := HW6.out.size
          refine ⟨by simp, .inl ⟨_, _, rfl, run_takeDeferred hK7, ?_⟩⟩
          refine ⟨_, results_tmp rfl _ _ _, ?_⟩
          exact ⟨rfl, (HW6.out.trans ((HBA.out.trans (hbW.mono z1)).mono z2)).trans (belowK_b (w := w8) (by omega) _ D _ (.deferred none) hD hK7 rfl rfl)⟩
      case stop =>
        rintro D c pre W hD hpre ⟨rfl, ⟨v, hv, hrow, hlt⟩, h2, hBW⟩ hK
        refine wpIn_wide.2 ?_
        have hpl : pre.length ≤ vs.length := hpre.length_le
        have hmin : 1 + (mm : Int) ≤ (vs.length : Int) := by omega
        have HT : Hid (pre = vs.take pre.length) := Lib.hid (List.prefix_iff_eq_take.1 hpre)
        obtain ⟨ga, gc, rfl⟩ := own_form hrow (by decide)
        have hsW : w8.heap.size ≤ W.heap.size := hBW.size
        have HBA := Lib.hid (HB8.out.trans (hBW.mono (by omega)))
        obtain ⟨a', c', ee, hse⟩ := own_se hrow rfl
        cases ee
        have HG := Lib.hid hse
        have HV := Lib.hid (HS6.out.old HBA.out)
        have HKK := Lib.hid hK
        have hld : D < W.heap.size := (Array.getElem?_eq_some_iff.1 hK).1
        have hc1 := hv.cell
        have hl1 := hv.lt
        have hc2 := h2.cell
        have hl2 := h2.lt
        clear hst hrow hBW hK hv h2 hse
        go_wp2
        have hcap : vs.length ≤ vc := by have := HS6.out.2.2.1; omega
        have hmm2 : 1 + (mm : Int) = (pre.length : Int) := by omega
        rw [hmm2] at hc2 hmin
        have hple : pre.length ≤ vs.length := hpl
        obtain ⟨pl, hpl2⟩ : ∃ pl, pre.length = pl := ⟨_, rfl⟩
        have HPL := Lib.hid hpl2
        rw [hpl2] at hc1 hc2 hmin hple
        have hE2 : RdE W va pre := by rw [HT.out]; exact rdE_take HV.out.2.1 _
        have hpci : (pl : Int) ≤ (vc : Int) := by omega
        have hmin2 : min (pl : Int) (vs.length : Int) = (pl : Int) := by omega
        clear hmm2 hpl hpl2 hlt
        have HE1 := Lib.hid HG.out.2.1
        have HE2 := Lib.hid hE2
        have hp120 : pl ≤ 120 := by omega
        clear hE2
        go_region_held3 (fun w' => w'.cell? ⟨w6.heap.size + 1, 0, none⟩ = some (.slice ga pl gc) ∧ w'.cell? ⟨w6.heap.size, 0, none⟩ = some (.int .i64 (pl : Int)) ∧ Below W.heap.size W w')
          (first | assumption | exact ⟨(Below.cell (by assumption) (p := ⟨w6.heap.size + 1, 0, none⟩) (by assumption)).trans (by assumption), (Below.cell (by assumption) (p := ⟨w6.heap.size, 0, none⟩) (by assumption)).trans (by assumption), by assumption⟩ | exact keepG (by assumption) (by assumption) | exact ⟨hc1, hc2, (Below.refl _ _).drew⟩)
          (first
            | (go_at_call 15; (refine (samee_any _ _ pl _ _ pre _ (HE1.out.old (And.right (And.right (by assumption)))) (HE2.out.old (And.right (And.right (by assumption)))) (by omega) HPL.out).mono ?_); rintro e w' ⟨rfl, bb⟩)
            | (go_at_call 11; refine (HA.out _).mono ?_; rintro e w' ⟨rfl, bb⟩))
        all_goals
          go_wp2_with fail
          have hbW := (by assumption : _ ∧ _ ∧ Below W.heap.size W _).2.2
          have hK7 := (hbW.block D hld).trans HKK.out
          have z1 := HBA.out.size
          have z2 := HW6.out.size
          refine ⟨by simp, .inl ⟨_, _, rfl, run_takeDeferred hK7, ?_⟩⟩
          refine ⟨_, results_tmp rfl _ _ _, ?_⟩
          exact ⟨rfl, (HW6.out.trans ((HBA.out.trans (hbW.mono z1)).mono z2)).trans (belowK_b (w := w8) (by omega) _ D _ (.deferred none) hD hK7 rfl rfl)⟩
end Go.Proofs.Ytgkkgiaaillhpaa
