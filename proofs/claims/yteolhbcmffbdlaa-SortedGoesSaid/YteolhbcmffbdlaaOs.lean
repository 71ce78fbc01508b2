/-
  Layer 7 (sorted): the contract of the document's SameInts (of equal lists); the walk of the law SortedGoes. Conditions: texts within the form's reach.
-/
import Derived.Test.YteolhbcmffbdlaaOq
import Derived.Test.YteolhbcmffbdlaaBt
namespace Go.Proofs.Yteolhbcmffbdlaa
open Go.RowKit Go.Shelf
set_option linter.unusedVariables false
set_option linter.unusedSimpArgs false
attribute [local go_sem] Oper.semAt_some

theorem rdz_at {w : World} {a : Option Addr} {vs : List Int} (h : RdZ w a vs) {k : Nat} (hk : k < vs.length) : ∃ b off, a = some ⟨b, off, none⟩ ∧ b < w.heap.size ∧ w.cell? ⟨b, off + k, none⟩ = some (.int .i64 vs[k]) := by
  rcases h with rfl | ⟨b, off, rfl, hlt, hc⟩
  · cases hk
  · exact ⟨b, off, rfl, hlt, hc k hk⟩
set_option maxRecDepth 100000 in
set_option maxHeartbeats 2000000 in
theorem ints_same (a b : Option Addr) (ca cb : Nat) (vs : List Int) (w : World) (ha : RdZ w a vs) (hb : RdZ w b vs) (hl : vs.length < 1000000) :
    Calls Try.prog 23 #[.slice a vs.length ca, .slice b vs.length cb] w fun e w' => e = .returned (.bool true) ∧ Below w.heap.size w w' := by
  have HA := Lib.hid ha
  have HB := Lib.hid hb
  obtain ⟨n, hn⟩ : ∃ n, n = vs.length := ⟨_, rfl⟩
  rw [← hn] at hl ⊢
  have HN := Lib.hid hn
  clear ha hb hn
  go_enter Try.func23, Try.ntmps23
  go_wp2_with fail
  go_loopw [5] (fun i wr => ∃ k : Nat, i = .int .i64 k ∧ k ≤ n ∧ Below w.heap.size w wr) (fun i _ => n - (intOf i).toNat)
  case atStart => exact ⟨0, rfl, by omega, Below.refl _ _⟩
  case round =>
    obtain ⟨k, rfl, hk, bw⟩ := hrel
    have BW := Lib.hid bw
    clear bw
    by_cases hlt : k < n
    · have hkl : k < vs.length := by rw [← HN.out]; exact hlt
      obtain ⟨b1, o1, rfl, l1, c1⟩ := rdz_at (HA.out.old BW.out) hkl
      obtain ⟨b2, o2, rfl, l2, c2⟩ := rdz_at (HB.out.old BW.out) hkl
      obtain ⟨x, hx⟩ : ∃ x, x = vs[k] := ⟨_, rfl⟩
      rw [← hx] at c1 c2
      clear hx
      go_wp2_with fail
      go_quiet (fail)
      go_wp2_with fail
      go_roundw
      case rel => exact ⟨k + 1, by go_num, hlt, below_drewN BW.out _⟩
      case measure => simp [intOf]; omega
    · obtain rfl : k = n := by omega
      go_wp2_with fail
      go_ret
      exact ⟨rfl, BW.out⟩
theorem ints_at (a b : Option Addr) (n m ca cb : Nat) (vs : List Int) (w : World) (ha : RdZ w a vs) (hb : RdZ w b vs) (hn : vs.length = n) (hm : vs.length = m) (hl : n < 1000000) :
    Calls Try.prog 23 #[.slice a n ca, .slice b m cb] w fun e w' => e = .returned (.bool true) ∧ Below w.heap.size w w' := by
  subst hn hm
  exact ints_same a b ca cb vs w ha hb hl
theorem refV_parts {w : World} {a va : Option Addr} {n n' c vc : Nat} {l : List (Ky × Int)} (h : RefV w (.agg #[.slice a n c, .slice va n' vc]) l) : n = l.length ∧ n' = l.length ∧ Rd w a (l.map (·.1)) ∧ RdZ w va (l.map (·.2)) := by
  obtain ⟨a', c', va', vc', e, h1, h2, -⟩ := h
  simp only [Value.agg.injEq] at e
  have e1 : (Value.slice a n c) = .slice a' l.length c' := by have := congrArg (fun x : Array Value => x.getD 0 undef) e; simpa using this
  have e2 : (Value.slice va n' vc) = .slice va' l.length vc' := by have := congrArg (fun x : Array Value => x.getD 1 undef) e; simpa using this
  cases e1
  cases e2
  exact ⟨rfl, rfl, h1, h2⟩
theorem own_rd2 {w : World} {base cap n : Nat} {t : TypeId} {a : Option Addr} {ts : List Ky} (hn : ts.length = n) (h : w.ownsRow base t 1 (.slice a n cap) n (sv ts)) : Rd w a ts := by
  subst hn
  exact own_rd h
theorem cell_one_at (w : World) (V : Value) (t : TypeId) {s : Nat} (hs : s = w.heap.size) : ∀ j u, [V][j]? = some u → (w.alloc (.cells #[V] t)).cell? ((⟨s, 0, none⟩ : Addr).add j) = some u := by
  subst hs
  exact cell_new1 w V t
theorem row_apart {w : World} {b1 b2 e1 e2 n1 n2 : Nat} {v1 v2 : Value} {x1 x2 : List Value} (h1 : w.ownsRow b1 e1 1 v1 n1 x1) (h2 : w.ownsRow b2 e2 1 v2 n2 x2) (hne : e1 ≠ e2) : v2.ownBlock = none ∨ v2.ownBlock ≠ v1.ownBlock := by
  rcases h2.2 with ⟨rfl, _⟩ | ⟨g, cap, cur, rfl, _, hgb, _⟩
  · exact .inl rfl
  · refine .inr fun e => ?_
    rcases h1.2 with ⟨rfl, _⟩ | ⟨g1, cap1, cur1, rfl, _, hgb1, _⟩
    · simp [Value.ownBlock] at e
    · obtain rfl : g = g1 := by simpa [Value.ownBlock] using e
      rw [hgb] at hgb1
      simp at hgb1
      exact hne hgb1.2.symm
set_option maxRecDepth 100000 in
set_option maxHeartbeats 8000000 in
theorem goes_main (a : Option Addr) (cap : Nat) (ts : List Ky) (key : Ky) (leave : Int) (hlv : -9223372036854775808 ≤ leave ∧ leave ≤ 9223372036854775807) (w : World) (hr : Rd w a ts) (hc : ts.length ≤ cap) (hl : ts.length ≤ 100) (hk : key.length ≤ 512) :
    Calls Try.prog 4 #[.slice a ts.length cap, .string ⟨key.toArray⟩, .int .i64 leave] w fun e w' => e = .returned (.bool true) ∧ Below w.heap.size w w' := by
  have HR := Lib.hid hr
  have hksz : (⟨key.toArray⟩ : ByteArray).size = key.length := size_mkl key
  obtain ⟨n, hn⟩ : ∃ n, n = ts.length := ⟨_, rfl⟩
  rw [← hn] at hc hl ⊢
  have HN := Lib.hid hn
  have HLV := Lib.hid hlv
  clear hr hn hlv
  obtain ⟨mm, hmm, hm256⟩ := low8 leave
  obtain ⟨i0, hi, hz0, hz1, hz2⟩ := info_parts Try.strInfo
  obtain ⟨j0, hj, hy0, hy1, hy2⟩ := info_parts Try.intInfo
  refine (callsIn_wide (n := 9)).1 ?_
  refine callsIn_of_wp_marks Try.func4 rfl trivial ?_ rfl
  simp only [Try.ntmps4, List.size_toArray, List.length_cons, List.length_nil, Nat.reduceAdd, Nat.reduceSub, Array.replicate_succ, Array.replicate_zero, List.push_toArray, List.append_toArray, List.nil_append, List.cons_append]
  refine wpIn_wide.2 ?_
  go_wp2_with fail
  refine (TI.awake_any _).mono ?_
  rintro e w0 ⟨rfl, b0⟩
  have B0 := Lib.hid b0
  clear b0
  go_wp2_with fail
  go_loopw [7] (fun i wr => ∃ k : Nat, i = .int .i64 k ∧ k ≤ n ∧ Hid (∀ j (h : j < ts.length), j < k → ts[j].length ≤ 512) ∧ Below w.heap.size w wr) (fun i _ => n - (intOf i).toNat)
  case atStart => exact ⟨0, rfl, by omega, Lib.hid (fun j h hj => by omega), B0.out⟩
  case round =>
    obtain ⟨k, rfl, hkn, HS, bw⟩ := hrel
    have BW := Lib.hid bw
    clear bw
    by_cases hlt : k < n
    · have hkl : k < ts.length := by rw [← HN.out]; exact hlt
      obtain ⟨b, off, rfl, hbl, c0, hbw, cw⟩ := rd_at2 HR.out BW.out hkl
      obtain ⟨x, hx⟩ : ∃ x, x = ts[k] := ⟨_, rfl⟩
      rw [← hx] at c0
      have HX := Lib.hid hx
      have hxs : (⟨x.toArray⟩ : ByteArray).size = x.length := size_mkl x
      clear hx cw hbw
      by_cases hxl : x.length ≤ 512
      · go_wp2_with fail
        go_roundw
        case rel => exact ⟨k + 1, by go_num, hlt, Lib.hid (fun j h hj => by
          by_cases e : j = k
          · subst e; rw [← HX.out]; exact hxl
          · exact HS.out j h (by omega)), BW.out⟩
        case measure => simp [intOf]; omega
      · go_wp2_with fail
        refine (TI.awake_any _).mono ?_
        rintro e w5 ⟨rfl, b5⟩
        have B5 := Lib.hid (BW.out.trans (b5.mono BW.out.size))
        clear b5
        go_wp2_with fail
        refine ⟨_, results_tmp rfl _ _ _, ?_⟩
        exact ⟨rfl, B5.out⟩
    · obtain rfl : k = n := by omega
      have HKA : Hid (∀ t ∈ ts, t.length ≤ 512) := Lib.hid (fun t ht => by
        obtain ⟨j, hj, rfl⟩ := List.getElem_of_mem ht
        exact HS.out j hj (by have := HN.out; omega))
      clear HS
      have HFC := Lib.hid (filled_any a cap ts wr (HR.out.old BW.out) (by have := HN.out; omega) (by have := HN.out; omega) HKA.out)
      rw [← HN.out] at HFC
      go_wp2_with fail
      refine HFC.out.mono ?_
      rintro e w1 ⟨m, q, rfl, hm, m1, r1, b1⟩
      have B1 := Lib.hid (BW.out.trans (b1.mono BW.out.size))
      have M1 := Lib.hid m1
      have R1 := Lib.hid r1
      obtain ⟨qa, qc, qva, qvc, rfl, -⟩ := r1
      clear b1 m1 hm HFC
      go_wp2_with fail
      have bq : Below w1.heap.size w1 ((w1.alloc (.cells #[.slice qa (fillI ts).length qc, .slice qva (fillI ts).length qvc] 28)).alloc (.cells #[.int .i64 (1 + (mm : Int))] 3)) := ((Below.refl _ _).alloc (Nat.le_refl _) _).alloc (by simp) _
      have hlen : (fillI ts).length ≤ 100 := Nat.le_trans (fill_len _ ts) (by have := HN.out; omega)
      refine (rfrom_any (R1.out.old bq) (rise_fill _ ts) (by omega) key (1 + (mm : Int)) (by omega)).mono ?_
      rintro e w2 ⟨q2, rfl, r2, b2⟩
      have hz2 := b2.size
      simp only [World.size_alloc] at hz2
      have hnb : w2.cell? ⟨w1.heap.size + 1, 0, none⟩ = some (.int .i64 (1 + (mm : Int))) := (b2.cell (p := ⟨w1.heap.size + 1, 0, none⟩) (by simp)).trans (by simp)
      have M2 := Lib.hid (M1.out.below (bq.trans (b2.mono (by simp; omega))))
      have B2 := Lib.hid (B1.out.trans ((bq.trans (b2.mono (by simp; omega))).mono B1.out.size))
      have R2 := Lib.hid r2
      obtain ⟨fa, fc, fva, fvc, rfl, -⟩ := r2
      have hgl : (fromA key (fillI ts)).length ≤ 100 := Nat.le_trans (List.length_filter_le _ _) hlen
      obtain ⟨G, hG⟩ : ∃ G, G = fromA key (fillI ts) := ⟨_, rfl⟩
      rw [← hG] at hgl R2 ⊢
      have HGG := Lib.hid hG
      obtain ⟨fl, hfl⟩ : ∃ fl, fl = (G.take (1 + (mm : Int)).toNat).length := ⟨_, rfl⟩
      rw [← hfl] at R2 ⊢
      have HFL := Lib.hid hfl
      clear bq b2 hG hfl hlen
      go_wp2_with fail
      refine (TI.from_any _ key _).mono ?_
      rintro e w3 ⟨rfl, rfl⟩
      go_wp2_with fail
      have hw3 : Below w2.heap.size w2 (w2.alloc (.cells #[.slice fa fl fc, .slice fva fl fvc] 28)) := (Below.refl _ _).alloc (Nat.le_refl _) _
      have hs3 : (w2.alloc (.cells #[.slice fa fl fc, .slice fva fl fvc] 28)).heap.size = w2.heap.size + 1 := by simp
      have k0 : (w2.alloc (.cells #[.slice fa fl fc, .slice fva fl fvc] 28)).cell? ⟨w2.heap.size, 0, none⟩ = some (.slice fa fl fc) := by simp
      have k1 : (w2.alloc (.cells #[.slice fa fl fc, .slice fva fl fvc] 28)).cell? ⟨w2.heap.size, 1, none⟩ = some (.slice fva fl fvc) := by simp
      generalize w2.alloc (.cells #[.slice fa fl fc, .slice fva fl fvc] 28) = W3 at *
      have k2 := (hw3.cell (p := ⟨w1.heap.size + 1, 0, none⟩) (by show w1.heap.size + 1 < w2.heap.size; omega)).trans hnb
      have M3 := Lib.hid (M2.out.below hw3)
      have B3 := Lib.hid (B2.out.trans (hw3.mono B2.out.size))
      have R3 := Lib.hid (R2.out.old hw3)
      have OV := Lib.hid (TI.over_map_any M3.out key)
      rw [← HGG.out] at OV
      obtain ⟨s0, hs0⟩ : ∃ s0, s0 = w2.heap.size + 1 := ⟨_, rfl⟩
      rw [← hs0] at hs3 ⊢
      have hws : w2.heap.size < s0 := by omega
      have hws1 : w1.heap.size + 1 < s0 := by omega
      clear hw3 hnb hs0 hz2 M2 B2 R2 R1 M1
      have b0 : Boxed ((((W3.alloc (.cells #[.slice none 0 0] 25)).alloc (.cells #[.slice none 0 0] 26)).alloc (.cells #[.pointer (some ⟨m, 0, none⟩)] 23)).alloc (.cells #[.string ⟨key.toArray⟩] 9)) s0 25 (.slice none 0 0) := by
        have h := Boxed.new W3 25 (.slice none 0 0)
        rw [hs3] at h
        exact ((h.alloc _).alloc _).alloc _
      have b1 : Boxed ((((W3.alloc (.cells #[.slice none 0 0] 25)).alloc (.cells #[.slice none 0 0] 26)).alloc (.cells #[.pointer (some ⟨m, 0, none⟩)] 23)).alloc (.cells #[.string ⟨key.toArray⟩] 9)) (s0 + 1) 26 (.slice none 0 0) := by
        have h := Boxed.new (W3.alloc (.cells #[.slice none 0 0] 25)) 26 (.slice none 0 0)
        rw [World.size_alloc, hs3] at h
        exact (h.alloc _).alloc _
      have b2 : Boxed ((((W3.alloc (.cells #[.slice none 0 0] 25)).alloc (.cells #[.slice none 0 0] 26)).alloc (.cells #[.pointer (some ⟨m, 0, none⟩)] 23)).alloc (.cells #[.string ⟨key.toArray⟩] 9)) (s0 + 2) 23 (.pointer (some ⟨m, 0, none⟩)) := by
        have h := Boxed.new ((W3.alloc (.cells #[.slice none 0 0] 25)).alloc (.cells #[.slice none 0 0] 26)) 23 (.pointer (some ⟨m, 0, none⟩))
        rw [World.size_alloc, World.size_alloc, hs3] at h
        exact h.alloc _
      have b3 : Boxed ((((W3.alloc (.cells #[.slice none 0 0] 25)).alloc (.cells #[.slice none 0 0] 26)).alloc (.cells #[.pointer (some ⟨m, 0, none⟩)] 23)).alloc (.cells #[.string ⟨key.toArray⟩] 9)) (s0 + 3) 9 (.string ⟨key.toArray⟩) := by
        have h := Boxed.new (((W3.alloc (.cells #[.slice none 0 0] 25)).alloc (.cells #[.slice none 0 0] 26)).alloc (.cells #[.pointer (some ⟨m, 0, none⟩)] 23)) 9 (.string ⟨key.toArray⟩)
        rw [World.size_alloc, World.size_alloc, World.size_alloc, hs3] at h
        exact h
      have hB : Below s0 W3 ((((W3.alloc (.cells #[.slice none 0 0] 25)).alloc (.cells #[.slice none 0 0] 26)).alloc (.cells #[.pointer (some ⟨m, 0, none⟩)] 23)).alloc (.cells #[.string ⟨key.toArray⟩] 9)) := ((((Below.refl _ W3).alloc (by omega) _).alloc (by simp; omega) _).alloc (by simp; omega) _).alloc (by simp; omega) _
      generalize ((((W3.alloc (.cells #[.slice none 0 0] 25)).alloc (.cells #[.slice none 0 0] 26)).alloc (.cells #[.pointer (some ⟨m, 0, none⟩)] 23)).alloc (.cells #[.string ⟨key.toArray⟩] 9)) = W4 at *
      have hsz : s0 + 3 < W4.heap.size := b3.lt
      have hst := OV.out.2 8 W4 (s0 + 1 + 1) (s0 + 1 + 1 + 1) (by rw [hs3]; exact hB) b2.cell b3.cell
      rw [hs3] at hst
      refine (wpIn_wide (n := 9)).1 ?_
      refine wpIn_rangeFunc_ownG rfl (by decide) (gf := 36) (lb := #[.pointer (some ⟨s0 + 1 + 1, 0, none⟩), .pointer (some ⟨s0 + 1 + 1 + 1, 0, none⟩)]) rfl trivial (enters_of Try.func36 (by kernel_rfl) rfl)
        hst belowK_t (belowK_b (by omega)) (Below.refl _ _) (fun _ => rfl)
        (fun pre W => (∃ v, Boxed W s0 25 v ∧ W.ownsRow s0 9 1 v pre.length (sv (pre.map (·.1))) ∧ (pre.length : Int) < 1 + (mm : Int)) ∧ ((∃ v, Boxed W (s0 + 1) 26 v ∧ W.ownsRow s0 3 1 v pre.length (iv (pre.map (·.2))) ∧ True) ∧ Below s0 W3 W))
        (fun c pre W => c = .exit 2 ∧ ((∃ v, Boxed W s0 25 v ∧ W.ownsRow s0 9 1 v pre.length (sv (pre.map (·.1))) ∧ (pre.length : Int) = 1 + (mm : Int)) ∧ ((∃ v, Boxed W (s0 + 1) 26 v ∧ W.ownsRow s0 3 1 v pre.length (iv (pre.map (·.2))) ∧ True) ∧ Below s0 W3 W)))
        (OwnFrom.and (Own.from (holdsRow_own s0 s0 25 9 1 (fun pre : List (Ky × Int) => pre.length) (fun pre => sv (pre.map (·.1))) (fun pre v => (pre.length : Int) < 1 + (mm : Int))) _) (OwnFrom.and (Own.from (holdsRow_own s0 (s0 + 1) 26 3 1 (fun pre : List (Ky × Int) => pre.length) (fun pre => iv (pre.map (·.2))) (fun pre v => True)) _) (ownFrom_below (by omega) (by omega))))
        (fun c => OwnFrom.and (ownFrom_pure _ _) (OwnFrom.and (Own.from (holdsRow_own s0 s0 25 9 1 (fun pre : List (Ky × Int) => pre.length) (fun pre => sv (pre.map (·.1))) (fun pre v => (pre.length : Int) = 1 + (mm : Int))) _) (OwnFrom.and (Own.from (holdsRow_own s0 (s0 + 1) 26 3 1 (fun pre : List (Ky × Int) => pre.length) (fun pre => iv (pre.map (·.2))) (fun pre v => True)) _) (ownFrom_below (by omega) (by omega)))))
        ⟨⟨_, b0, World.ownsRow_nil _ _ _ _, by simp; omega⟩, ⟨_, b1, World.ownsRow_nil _ _ _ _, trivial⟩, hB⟩
        ?a1 ?assign ?body ?done ?stop
      case assign =>
        intro l x W K hK
        unfold TI.encs
        gi_wp2_with (rw [Oper.semAt_eq _ _ _ (fun c h => by cases h)]; go_simp; try go_bits)
        exact hK
      case body =>
        rintro l' pre x W ⟨⟨v, hv, hrow, hlt⟩, ⟨u, hu, hurow, -⟩, hBW⟩ hpl
        have hc := hv.cell
        have hcU := hu.cell
        have hsW : s0 ≤ W.heap.size := by have := hBW.size; omega
        have hlen1 : sv (pre.map (·.1)) ++ [Value.string ⟨x.1.toArray⟩] = sv ((pre ++ [x]).map (·.1)) := by rw [sv_snoc]; simp
        have hlen2 : iv (pre.map (·.2)) ++ [Value.int .i64 x.2] = iv ((pre ++ [x]).map (·.2)) := by simp [iv]
        have HL1 := Lib.hid hlen1
        have HL2 := Lib.hid hlen2
        clear hlen1 hlen2
        cases hq : ((pre.length : Int) + 1 == 1 + (mm : Int)) with
        | false =>
          have hlt2 : (pre.length : Int) + 1 < 1 + (mm : Int) := by
            have : ¬ (pre.length : Int) + 1 = 1 + (mm : Int) := by simpa using hq
            omega
          gi_wp2_with (first | (gi_at_builtin; refine wpListIn_append_own _ rfl _ _ 25 rfl s0 9 i0 (.string ⟨#[]⟩) 1 16 Try.underlying25 hi hz0 hz1 hz2 rfl (by decide) _ _ _ rfl (hrow.alloc _) ⟨W.heap.size, 0, none⟩ 1 1 [.string ⟨x.1.toArray⟩] rfl rfl (cell_new1 _ _ _) (by simp [Value.oneCell']) (by unfold maxLen; omega) (by omega) (by simp; omega) ?_; intro v' wa hown' hgrow _; obtain ⟨g', cap', rfl⟩ := ownsRow_succ hown'; obtain ⟨hv1, hv2, hr2, hk2, hb2⟩ := hv.appended (by decide) hrow hsW (by omega) hown' hgrow; have hi1 := (hu.alloc _).kept hgrow (hu.not_row (by decide) hrow); have hu2 := hi1.other (B' := s0) (by omega) (.slice (some ⟨g', 0, none⟩) (pre.length + 1) cap'); have hur := (hurow.alloc _).kept hgrow (row_apart hrow hurow (by decide)); have hur2 := hur.kept (grownBy_setCell' wa s0 (.slice (some ⟨g', 0, none⟩) (pre.length + 1) cap')) (.inr (hv1.not_row (by decide) hur).symm); have hc1 := hv1.cell; have hf1 := hv1.frozen; have hcu := hu2.cell; have hsA := Nat.le_trans hsW hb2.size; clear hi1 hur hown' hgrow) | (gi_at_builtin; refine wpListIn_append_own _ rfl _ _ 26 rfl s0 3 j0 (.int .i64 0) 1 8 Try.underlying26 hj hy0 hy1 hy2 rfl (by decide) _ _ _ rfl (hur2.alloc _) ⟨wa.heap.size, 0, none⟩ 1 1 [.int .i64 x.2] rfl rfl (cell_one_at _ _ _ (by simp [World.setCell])) (by simp [Value.oneCell']) (by unfold maxLen; omega) (by omega) (by have h := hsA; simp [World.setCell] at h ⊢; omega) ?_; intro u' wb uown' ugrow _; obtain ⟨h', dap', rfl⟩ := ownsRow_succ uown'; obtain ⟨hu1, hu3, hr3, hk3, hb3⟩ := hu2.appended (by decide) hur2 hsA (by omega) uown' ugrow; have hj1 := (hv2.alloc _).kept ugrow (hv2.not_row (by decide) hur2); have hv3 := hj1.other (B' := s0 + 1) (by omega) (.slice (some ⟨h', 0, none⟩) (pre.length + 1) dap'); have hvr := (hr2.alloc _).kept ugrow (row_apart hur2 hr2 (by decide)); have hvr3 := hvr.kept (grownBy_setCell' wb (s0 + 1) (.slice (some ⟨h', 0, none⟩) (pre.length + 1) dap')) (.inr (hu1.not_row (by decide) hvr).symm); have hd1 := hu1.cell; have hg1 := hu1.frozen; have hcv := hv3.cell; have hn3 := ((hBW.trans (hb2.trans hb3)).cell (p := ⟨w1.heap.size + 1, 0, none⟩) hws1).trans k2; clear hj1 hvr uown' ugrow))
          refine ⟨(hk2.trans hk3).from _, hb2.trans hb3, ⟨_, hv3, ?_, by simpa using hlt2⟩, ⟨_, hu3, ?_⟩, hBW.trans (hb2.trans hb3)⟩
          · rw [List.length_append, ← HL1.out]; exact hvr3
          · rw [List.length_append, ← HL2.out]; exact hr3
        | true =>
          have heq : (pre.length : Int) + 1 = 1 + (mm : Int) := by simpa using hq
          have HEQ := Lib.hid heq
          clear heq
          gi_wp2_with (first | (gi_at_builtin; refine wpListIn_append_own _ rfl _ _ 25 rfl s0 9 i0 (.string ⟨#[]⟩) 1 16 Try.underlying25 hi hz0 hz1 hz2 rfl (by decide) _ _ _ rfl (hrow.alloc _) ⟨W.heap.size, 0, none⟩ 1 1 [.string ⟨x.1.toArray⟩] rfl rfl (cell_new1 _ _ _) (by simp [Value.oneCell']) (by unfold maxLen; omega) (by omega) (by simp; omega) ?_; intro v' wa hown' hgrow _; obtain ⟨g', cap', rfl⟩ := ownsRow_succ hown'; obtain ⟨hv1, hv2, hr2, hk2, hb2⟩ := hv.appended (by decide) hrow hsW (by omega) hown' hgrow; have hi1 := (hu.alloc _).kept hgrow (hu.not_row (by decide) hrow); have hu2 := hi1.other (B' := s0) (by omega) (.slice (some ⟨g', 0, none⟩) (pre.length + 1) cap'); have hur := (hurow.alloc _).kept hgrow (row_apart hrow hurow (by decide)); have hur2 := hur.kept (grownBy_setCell' wa s0 (.slice (some ⟨g', 0, none⟩) (pre.length + 1) cap')) (.inr (hv1.not_row (by decide) hur).symm); have hc1 := hv1.cell; have hf1 := hv1.frozen; have hcu := hu2.cell; have hsA := Nat.le_trans hsW hb2.size; clear hi1 hur hown' hgrow) | (gi_at_builtin; refine wpListIn_append_own _ rfl _ _ 26 rfl s0 3 j0 (.int .i64 0) 1 8 Try.underlying26 hj hy0 hy1 hy2 rfl (by decide) _ _ _ rfl (hur2.alloc _) ⟨wa.heap.size, 0, none⟩ 1 1 [.int .i64 x.2] rfl rfl (cell_one_at _ _ _ (by simp [World.setCell])) (by simp [Value.oneCell']) (by unfold maxLen; omega) (by omega) (by have h := hsA; simp [World.setCell] at h ⊢; omega) ?_; intro u' wb uown' ugrow _; obtain ⟨h', dap', rfl⟩ := ownsRow_succ uown'; obtain ⟨hu1, hu3, hr3, hk3, hb3⟩ := hu2.appended (by decide) hur2 hsA (by omega) uown' ugrow; have hj1 := (hv2.alloc _).kept ugrow (hv2.not_row (by decide) hur2); have hv3 := hj1.other (B' := s0 + 1) (by omega) (.slice (some ⟨h', 0, none⟩) (pre.length + 1) dap'); have hvr := (hr2.alloc _).kept ugrow (row_apart hur2 hr2 (by decide)); have hvr3 := hvr.kept (grownBy_setCell' wb (s0 + 1) (.slice (some ⟨h', 0, none⟩) (pre.length + 1) dap')) (.inr (hu1.not_row (by decide) hvr).symm); have hd1 := hu1.cell; have hg1 := hu1.frozen; have hcv := hv3.cell; have hn3 := ((hBW.trans (hb2.trans hb3)).cell (p := ⟨w1.heap.size + 1, 0, none⟩) hws1).trans k2; clear hj1 hvr uown' ugrow))
          refine ⟨(hk2.trans hk3).from _, rfl, ⟨_, hv3, ?_, by have := HEQ.out; simpa using this⟩, ⟨_, hu3, ?_⟩, hBW.trans (hb2.trans hb3)⟩
          · rw [List.length_append, ← HL1.out]; exact hvr3
          · rw [List.length_append, ← HL2.out]; exact hr3
      case done =>
        rintro D ys W hD hys ⟨⟨v, hv, hrow, hlt⟩, ⟨u, hu, hurow, -⟩, hBW⟩ hK
        have HP : Hid (G.take (1 + (mm : Int)).toNat = ys) := Lib.hid (by rw [hys]; exact List.take_of_length_le (by rw [← hys]; omega))
        clear hys hlt
        have hR := R3.out
        rw [HP.out] at hR
        obtain ⟨q1, -, q3, q4⟩ := refV_parts hR
        rw [← q1] at hrow hurow
        have hpn := q1
        clear q1
        obtain ⟨ga, gc, rfl⟩ := own_slice hrow
        obtain ⟨ua, uc, rfl⟩ := own_slice hurow
        have hc := hv.cell
        have z0 := (hBW.cell (p := ⟨w2.heap.size, 0, none⟩) hws).trans k0
        have hld : D < W.heap.size := (Array.getElem?_eq_some_iff.1 hK).1
        have hsW : s0 ≤ W.heap.size := by have := hBW.size; omega
        have hul := hu.lt
        have H3 := Lib.hid (q3.old (hs3 ▸ hBW))
        have H4 := Lib.hid (q4.old (hs3 ▸ hBW))
        have HO1 := Lib.hid (own_rd2 (ts := ys.map (·.1)) (by rw [List.length_map, ← hpn]) hrow)
        have HO2 := Lib.hid (own_rdz hurow)
        have HPN := Lib.hid hpn
        have HKK := Lib.hid hK
        have HU := Lib.hid hu
        have HBW := Lib.hid hBW
        have hpl : fl < 1000000 := by have h1 := HP.out; have h2 := congrArg List.length h1; rw [List.length_take] at h2; have h3 := HPN.out; omega
        clear hrow hurow hR q3 q4 hpn hst hK hBW hu
        go_wp2_with fail
        with_reducible refine (same_at ga fa fl fl gc fc (ys.map (·.1)) (ys.map (·.1)) true _ HO1.out H3.out (by rw [List.length_map]; exact HPN.out.symm) (by rw [List.length_map]; exact HPN.out.symm) (by omega) (by simp)).mono ?_
        rintro e w5 ⟨rfl, b5⟩
        have x5 := (b5.cell (p := ⟨s0 + 1, 0, none⟩) hul).trans HU.out.cell
        have x6 := (b5.cell (p := ⟨w2.heap.size, 1, none⟩) (by show w2.heap.size < _; omega)).trans ((HBW.out.cell (p := ⟨w2.heap.size, 1, none⟩) hws).trans k1)
        have C5 := Lib.hid b5
        clear b5
        go_wp2_with fail
        with_reducible refine (ints_at ua fva fl fl uc fvc (ys.map (·.2)) _ (HO2.out.old C5.out) (H4.out.old C5.out) (by rw [List.length_map]; exact HPN.out.symm) (by rw [List.length_map]; exact HPN.out.symm) hpl).mono ?_
        rintro e w6 ⟨rfl, b6⟩
        have C6 := Lib.hid (bt C5.out b6)
        clear b6
        go_wp2_with fail
        refine (TI.awake_any _).mono ?_
        rintro e w7 ⟨rfl, b7⟩
        have C7 := Lib.hid (bt C6.out b7)
        clear b7
        go_wp2_with fail
        have hK7 := (C7.out.block D hld).trans HKK.out
        refine ⟨by simp, .inl ⟨_, _, rfl, run_takeDeferred hK7, ?_⟩⟩
        refine ⟨_, results_tmp rfl _ _ _, ?_⟩
        have hz3 := B3.out.size
        exact ⟨rfl, (B3.out.trans ((HBW.out.mono (by omega)).trans (C7.out.mono (by omega)))).trans (belowK_b (w := W4) (by omega) w7 D _ (.deferred none) hD hK7 rfl rfl)⟩
      case stop =>
        rintro D c pre W hD hpre ⟨rfl, ⟨v, hv, hrow, hlt⟩, ⟨u, hu, hurow, -⟩, hBW⟩ hK
        have HP : Hid (G.take (1 + (mm : Int)).toNat = pre) := Lib.hid (by rw [List.prefix_iff_eq_take.1 hpre]; congr 1; omega)
        clear hpre hlt
        refine wpIn_wide.2 ?_
        have hR := R3.out
        rw [HP.out] at hR
        obtain ⟨q1, -, q3, q4⟩ := refV_parts hR
        rw [← q1] at hrow hurow
        have hpn := q1
        clear q1
        obtain ⟨ga, gc, rfl⟩ := own_slice hrow
        obtain ⟨ua, uc, rfl⟩ := own_slice hurow
        have hc := hv.cell
        have z0 := (hBW.cell (p := ⟨w2.heap.size, 0, none⟩) hws).trans k0
        have hld : D < W.heap.size := (Array.getElem?_eq_some_iff.1 hK).1
        have hsW : s0 ≤ W.heap.size := by have := hBW.size; omega
        have hul := hu.lt
        have H3 := Lib.hid (q3.old (hs3 ▸ hBW))
        have H4 := Lib.hid (q4.old (hs3 ▸ hBW))
        have HO1 := Lib.hid (own_rd2 (ts := pre.map (·.1)) (by rw [List.length_map, ← hpn]) hrow)
        have HO2 := Lib.hid (own_rdz hurow)
        have HPN := Lib.hid hpn
        have HKK := Lib.hid hK
        have HU := Lib.hid hu
        have HBW := Lib.hid hBW
        have hpl : fl < 1000000 := by have h1 := HP.out; have h2 := congrArg List.length h1; rw [List.length_take] at h2; have h3 := HPN.out; omega
        clear hrow hurow hR q3 q4 hpn hst hK hBW hu
        go_wp2_with fail
        with_reducible refine (same_at ga fa fl fl gc fc (pre.map (·.1)) (pre.map (·.1)) true _ HO1.out H3.out (by rw [List.length_map]; exact HPN.out.symm) (by rw [List.length_map]; exact HPN.out.symm) (by omega) (by simp)).mono ?_
        rintro e w5 ⟨rfl, b5⟩
        have x5 := (b5.cell (p := ⟨s0 + 1, 0, none⟩) hul).trans HU.out.cell
        have x6 := (b5.cell (p := ⟨w2.heap.size, 1, none⟩) (by show w2.heap.size < _; omega)).trans ((HBW.out.cell (p := ⟨w2.heap.size, 1, none⟩) hws).trans k1)
        have C5 := Lib.hid b5
        clear b5
        go_wp2_with fail
        with_reducible refine (ints_at ua fva fl fl uc fvc (pre.map (·.2)) _ (HO2.out.old C5.out) (H4.out.old C5.out) (by rw [List.length_map]; exact HPN.out.symm) (by rw [List.length_map]; exact HPN.out.symm) hpl).mono ?_
        rintro e w6 ⟨rfl, b6⟩
        have C6 := Lib.hid (bt C5.out b6)
        clear b6
        go_wp2_with fail
        refine (TI.awake_any _).mono ?_
        rintro e w7 ⟨rfl, b7⟩
        have C7 := Lib.hid (bt C6.out b7)
        clear b7
        go_wp2_with fail
        have hK7 := (C7.out.block D hld).trans HKK.out
        refine ⟨by simp, .inl ⟨_, _, rfl, run_takeDeferred hK7, ?_⟩⟩
        refine ⟨_, results_tmp rfl _ _ _, ?_⟩
        have hz3 := B3.out.size
        exact ⟨rfl, (B3.out.trans ((HBW.out.mono (by omega)).trans (C7.out.mono (by omega)))).trans (belowK_b (w := W4) (by omega) w7 D _ (.deferred none) hD hK7 rfl rfl)⟩
theorem goes_long (a : Option Addr) (n cap : Nat) (key : Ky) (leave : Int) (w : World) (hm : n ≤ maxLen) (hl : 100 < n ∨ 512 < key.length) (hkl : key.length ≤ 140737488351232) :
    Calls Try.prog 4 #[.slice a n cap, .string ⟨key.toArray⟩, .int .i64 leave] w fun e w' => e = .returned (.bool true) ∧ Below w.heap.size w w' := by
  unfold maxLen at hm
  have hksz : (⟨key.toArray⟩ : ByteArray).size = key.length := size_mkl key
  refine (callsIn_wide (n := 9)).1 ?_
  refine callsIn_of_wp_marks Try.func4 rfl trivial ?_ rfl
  simp only [Try.ntmps4, List.size_toArray, List.length_cons, List.length_nil, Nat.reduceAdd, Nat.reduceSub, Array.replicate_succ, Array.replicate_zero, List.push_toArray, List.append_toArray, List.nil_append, List.cons_append]
  refine wpIn_wide.2 ?_
  by_cases h1 : 100 < n
  · clear hl
    go_wp2_with fail
    refine (TI.awake_any _).mono ?_
    rintro e w0 ⟨rfl, b0⟩
    have B0 := Lib.hid b0
    clear b0
    go_wp2_with fail
    refine (TI.awake_any _).mono ?_
    rintro e w5 ⟨rfl, b5⟩
    have B5 := Lib.hid (B0.out.trans (b5.mono B0.out.size))
    clear b5
    go_wp2_with fail
    refine ⟨_, results_tmp rfl _ _ _, ?_⟩
    exact ⟨rfl, B5.out⟩
  · have h2 := hl.resolve_left h1
    clear hl
    go_wp2_with fail
    refine (TI.awake_any _).mono ?_
    rintro e w0 ⟨rfl, b0⟩
    have B0 := Lib.hid b0
    clear b0
    go_wp2_with fail
    refine (TI.awake_any _).mono ?_
    rintro e w5 ⟨rfl, b5⟩
    have B5 := Lib.hid (B0.out.trans (b5.mono B0.out.size))
    clear b5
    go_wp2_with fail
    refine ⟨_, results_tmp rfl _ _ _, ?_⟩
    exact ⟨rfl, B5.out⟩
theorem kyG (s : ByteArray) : ∃ k : Ky, s = ⟨k.toArray⟩ ∧ k.length = s.size := ⟨s.data.toList, by simp, by simp⟩
theorem rangeG {z : Int} (h : (Lit.int .i64 z).wf = true) : -9223372036854775808 ≤ z ∧ z ≤ 9223372036854775807 := by
  simpa [Lit.wf, IntKind.min, IntKind.max, IntKind.bits, IntKind.signed] using h
theorem walk_SortedGoes (a : Option Addr) (cap : Nat) (ts : List (List UInt8)) (s : ByteArray) (hs : s.size ≤ 140737488351232) (leave : Int) (hlv : (Lit.int .i64 leave).wf = true) (w : World) (hr : Rd w a ts) (hm : ts.length ≤ maxLen) (hc : ts.length ≤ cap) :
    Calls Try.prog 4 #[.slice a ts.length cap, .string s, .int .i64 leave] w fun e w' => e = .returned (.bool true) ∧ Below w.heap.size w w' := by
  obtain ⟨k, rfl, hk⟩ := kyG s
  by_cases h : ts.length ≤ 100 ∧ k.length ≤ 512
  · exact goes_main a cap ts k leave (rangeG hlv) w hr hc h.1 h.2
  · exact goes_long a ts.length cap k leave w hm (by omega) (by omega)
end Go.Proofs.Yteolhbcmffbdlaa
