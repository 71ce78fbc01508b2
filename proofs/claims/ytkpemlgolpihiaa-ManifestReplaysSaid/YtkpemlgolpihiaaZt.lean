/-
  Layer 12 (manifest): the contract of the document's Apply. Conditions: at most 50000 tables.
-/
import Derived.Test.YtkpemlgolpihiaaZs
import Derived.Deep.QuietTactic
namespace Go.Proofs.Ytkpemlgolpihiaa
set_option maxRecDepth 100000
open Go.RowKit
set_option linter.unusedVariables false
set_option linter.unusedSimpArgs false

theorem rfindb_any (a : Option Addr) (n cap : Nat) (ts : List Tb) (id r : Int) (w : World) (hst : ST w a n cap ts) (hn : n ≤ 100000) (hr : FD ts id r) :
    Calls Try.prog 46 #[.slice a n cap, .int .i64 id] w fun e w' => e = .returned (.int .i64 r) ∧ Below w.heap.size w w' :=
  (rfind_any a n cap ts id r w hst hn hr).mono fun e w' h => ⟨h.1, by rw [h.2]; exact Below.refl _ _⟩
theorem fd_neg {ts : List Tb} {id r : Int} (h : FD ts id r) : (r < 0 ∧ ∀ t ∈ ts, t.1 ≠ id) ∨ (0 ≤ r ∧ ∃ t ∈ ts, t.1 = id) := by
  rcases h with ⟨h1, h2⟩ | ⟨k, hk, h1, h2, -⟩
  · exact .inl ⟨by omega, h2⟩
  · exact .inr ⟨by omega, ts[k], List.getElem_mem hk, h2⟩
theorem fit_no {s : List Tb} {e : Ed} (h : ¬ ((∀ x ∈ e.2.1, ∃ t ∈ s, t.1 = x) ∧ e.2.1.Nodup ∧ (∀ t ∈ e.1, (∀ u ∈ s, ¬ u.1 = t.1) ∧ t.1 < e.2.2.2) ∧ (e.1.map (·.1)).Nodup)) : fitT s e = false := by
  cases hf : fitT s e with
  | false => rfl
  | true => exact absurd (fitT_iff.1 hf) h
theorem nd_get {α : Type} {zs : List α} : zs.Nodup ↔ ∀ j (h : j < zs.length) j' (h' : j' < j), zs[j'] ≠ zs[j] := by
  unfold List.Nodup
  rw [List.pairwise_iff_getElem]
  exact ⟨fun h j hj j' h' => h j' j (by omega) hj h', fun h i j hi hj hij => h j hj i hij⟩
set_option maxRecDepth 1000000 in
set_option maxHeartbeats 16000000 in
theorem rapply12_any (V1 V2 : Value) (s : St) (e : Ed) (w : World) (h1 : SV w V1 s) (h2 : EV w V2 e) (hs : OkT s.1 s.2.2) (hn : s.1.length ≤ 50000) :
    Calls Try.prog 19 #[V1, V2] w (APe s e w) := by
  have hEV := h2
  obtain ⟨a, n, cap, rfl, hst, hok⟩ := h1
  obtain ⟨aa, an, ac, da', dn, dc, rfl, het, hez, heo⟩ := h2
  obtain ⟨ss, sl, sn⟩ := s
  obtain ⟨ts, zs, lg, nx⟩ := e
  simp only at *
  obtain ⟨o1, ho1⟩ : ∃ o, o = Obj.cells #[.slice a n cap, .int .i64 sl, .int .i64 sn] 38 := ⟨_, rfl⟩
  obtain ⟨o2, ho2⟩ : ∃ o, o = Obj.cells #[.slice aa an ac, .slice da' dn dc, .int .i64 lg, .int .i64 nx] 25 := ⟨_, rfl⟩
  obtain ⟨o3, ho3⟩ : ∃ o, o = Obj.cells #[.slice none 0 0, .int .i64 0, .int .i64 0] 38 := ⟨_, rfl⟩
  have sA : SBox (w.alloc o1) w.heap.size (.slice a n cap) sl sn := by rw [ho1]; exact SBox.new _ _ _ _ _
  have sB : EdBox ((w.alloc o1).alloc o2) (w.alloc o1).heap.size (.slice aa an ac) (.slice da' dn dc) lg nx := by rw [ho2]; exact EdBox.new _ _ _ _ _ _
  have sC : SW (((w.alloc o1).alloc o2).alloc o3) ((w.alloc o1).alloc o2).heap.size (.slice none 0 0) 0 0 := by rw [ho3]; exact SW.new _ _ _ _ _
  have sN : ∀ i, 2 < i → (((w.alloc o1).alloc o2).alloc o3).cell? ⟨((w.alloc o1).alloc o2).heap.size, i, none⟩ = none := by rw [ho3]; exact (SQ.new _ _ _ _ _).2
  have b1 : Below w.heap.size w (w.alloc o1) := box_bel w o1
  have b2 := box_bel (w.alloc o1) o2
  have b3 := box_bel ((w.alloc o1).alloc o2) o3
  have k1 : (w.alloc o1).heap.size = w.heap.size + 1 := by simp [go_sem]
  have k2 : ((w.alloc o1).alloc o2).heap.size = w.heap.size + 1 + 1 := by simp [go_sem]
  have k3 : (((w.alloc o1).alloc o2).alloc o3).heap.size = w.heap.size + 1 + 1 + 1 := by simp [go_sem]
  rw [k1] at sB b2
  rw [k2] at sC sN b3
  replace sA := (sA.below (by rw [k1]; exact b2)).below (by rw [k2]; exact b3)
  replace sB := sB.below (by rw [k2]; exact b3)
  have hb : Below w.heap.size w (((w.alloc o1).alloc o2).alloc o3) := b1.trans ((b2.mono (by omega)).trans (b3.mono (by omega)))
  obtain ⟨w3, hw3⟩ : ∃ w3, w3 = ((w.alloc o1).alloc o2).alloc o3 := ⟨_, rfl⟩
  rw [← hw3] at sA sB sC sN hb k3
  have HW3 := Lib.hid hw3
  have HO := Lib.hid (And.intro ho1 (And.intro ho2 ho3))
  have HB := Lib.hid hb
  have hEV3 := hEV.old hb
  have hst3 := hst.old hb
  have het3 := het.old hb
  have hez3 := hez.old hb
  have CK := Lib.hid (rmay12_any _ _ _ hEV3)
  obtain ⟨m, hm⟩ : ∃ m, mayEd (ts, zs, lg, nx) = m := ⟨_, rfl⟩
  rw [hm] at CK
  have HFIN : Hid (∀ (wf : World) (u0 u1 u2 : Value), Below w3.heap.size w3 wf → Below w.heap.size w (((wf.setCell ⟨w.heap.size + 1 + 1, 0, none⟩ u0).setCell ⟨w.heap.size + 1 + 1, 1, none⟩ u1).setCell ⟨w.heap.size + 1 + 1, 2, none⟩ u2)) := Lib.hid fun wf u0 u1 u2 hb' =>
    below_new (below_new (below_new (hb.trans (hb'.mono hb.size)) (by omega) 0 u0) (by omega) 1 u1) (by omega) 2 u2
  have HLT : Hid (w.heap.size < w3.heap.size ∧ w.heap.size + 1 < w3.heap.size ∧ w.heap.size + 1 + 1 < w3.heap.size) := Lib.hid (by omega)
  obtain ⟨xc, hxc⟩ : ∃ xc, xc = w.heap.size + 1 + 1 := ⟨_, rfl⟩
  rw [← hxc] at sC sN HFIN HLT
  obtain ⟨xb, hxb⟩ : ∃ xb, xb = w.heap.size + 1 := ⟨_, rfl⟩
  rw [← hxb] at sB HLT hxc
  obtain ⟨xa, hxa⟩ : ∃ xa, xa = w.heap.size := ⟨_, rfl⟩
  rw [← hxa] at sA HLT
  have HX := Lib.hid (And.intro hxa (And.intro hxb hxc))
  have HRN := Lib.hid sN
  clear sN
  have HA := Lib.hid sA
  have HE := Lib.hid sB
  have HR := Lib.hid sC
  have HS := Lib.hid hs
  have HEV := Lib.hid hEV3
  have HST := Lib.hid hst3
  have HOK := Lib.hid hok
  have HM := Lib.hid hm
  have HN := Lib.hid hn
  have HTOK := Lib.hid heo
  have HEZ := Lib.hid hez3
  have HET := Lib.hid het3
  clear het3 hez3
  clear b1 b2 b3 k1 k2 k3 hb hEV hEV3 hst hst3 hs hok het hez heo hm hn
  obtain ⟨x0, x1, x2, x3⟩ := sA
  obtain ⟨y0, y1, y2, y3, y4⟩ := sB
  obtain ⟨⟨z0, z1, z2, z3⟩, f0, f1, f2⟩ := sC
  go_enter Try.func19, Try.ntmps19
  go_upto_region 1 with fail
  rw [← ho1, ← ho2, ← ho3, ← hw3, ← hxb, ← hxc, ← hxa]
  clear ho1 ho2 ho3 hw3 hxa hxb hxc HW3 HO
  go_wp2_with fail
  refine CK.out.mono ?_
  rintro e w4 ⟨rfl, hb4⟩
  have HB4 := Lib.hid hb4
  clear CK hb4 x0 x1 x2 x3 y0 y1 y2 y3 y4 z0 z1 z2 z3 f0 f1 f2
  have HZERO : Hid (∀ (wf : World) (N : Int), Below w3.heap.size w3 wf → apN (ss, sl, sn) (ts, zs, lg, nx) = N ∧ apS (ss, sl, sn) (ts, zs, lg, nx) = ([], 0, 0) → APe (ss, sl, sn) (ts, zs, lg, nx) w (.returned (.tuple #[.agg #[.slice none 0 0, .int .i64 0, .int .i64 0], .int .i64 N])) (((wf.setCell ⟨xc, 0, none⟩ (.slice none 0 0)).setCell ⟨xc, 1, none⟩ (.int .i64 0)).setCell ⟨xc, 2, none⟩ (.int .i64 0))) := Lib.hid fun wf N hb hN =>
    ⟨_, by rw [hN.1], by rw [hN.2]; exact SV.zero _, HFIN.out wf _ _ _ hb⟩
  cases m with
  | false =>
    have HNO := Lib.hid (ap_may (s := (ss, sl, sn)) (e := (ts, zs, lg, nx)) (by rw [HM.out]; decide))
    obtain ⟨⟨z0, z1, z2, z3⟩, f0, f1, f2⟩ := HR.out.keep HB4.out HLT.out.2.2
    go_wp2_with fail
    try simp only [Exit.inBlock, Exit.then]
    refine bodyPost_ret (v := .tuple #[.agg #[.slice none 0 0, .int .i64 0, .int .i64 0], .int .i64 1]) (by simp [results, Try.results19, go_sem, z0, z1, z2, z3]) rfl ?_
    exact HZERO.out _ _ HB4.out HNO.out
  | true =>
  have HNF : Hid (fitT ss (ts, zs, lg, nx) = false → apN (ss, sl, sn) (ts, zs, lg, nx) = 120 ∧ apS (ss, sl, sn) (ts, zs, lg, nx) = ([], 0, 0)) := Lib.hid fun h => ap_no HM.out (app_fit (s := (ss, sl, sn)) h)
  obtain ⟨⟨z0, z1, z2, z3⟩, f0, f1, f2⟩ := HR.out.keep HB4.out HLT.out.2.2
  obtain ⟨x0, x1, x2, x3⟩ := HA.out.below HB4.out
  obtain ⟨y0, y1, y2, y3, y4⟩ := HE.out.below HB4.out
  by_cases h1 : lg < sl
  · have HNO := Lib.hid (ap_no HM.out (app_log (s := (ss, sl, sn)) (e := (ts, zs, lg, nx)) h1))
    go_wp2_with fail
    try simp only [Exit.inBlock, Exit.then]
    refine bodyPost_ret (v := .tuple #[.agg #[.slice none 0 0, .int .i64 0, .int .i64 0], .int .i64 120]) (by simp [results, Try.results19, go_sem, z0, z1, z2, z3]) rfl ?_
    exact HZERO.out _ _ HB4.out HNO.out
  by_cases h2 : nx < sn
  · have HNO := Lib.hid (ap_no HM.out (app_next (s := (ss, sl, sn)) (e := (ts, zs, lg, nx)) h2))
    go_wp2_with fail
    try simp only [Exit.inBlock, Exit.then]
    refine bodyPost_ret (v := .tuple #[.agg #[.slice none 0 0, .int .i64 0, .int .i64 0], .int .i64 120]) (by simp [results, Try.results19, go_sem, z0, z1, z2, z3]) rfl ?_
    exact HZERO.out _ _ HB4.out HNO.out
  obtain ⟨db, doo, hda, hdb, hdc⟩ := HEZ.out.2.1.at_
  have HDC := Lib.hid hdc
  have hdl : zs.length = dn := HEZ.out.1
  have hdm : dn ≤ 128 := by have := (mayEd_iff.1 HM.out).2.1; simp only at this; omega
  rw [hdl] at hda hdb
  have HDL := Lib.hid hdl
  clear hdc hdl
  have HNEXT := Lib.hid (show ¬ nx < sn from h2)
  have HLOG := Lib.hid (show ¬ lg < sl from h1)
  have hnl : n ≤ 50000 := by have h5 : ss.length ≤ 50000 := HN.out; have h6 : ss.length = n := HST.out.1; omega
  go_wp2_with fail
  clear x0 x1 x2 x3 y0 y1 y2 y3 y4 z0 z1 z2 z3 f0 f1 f2 h1 h2
  go_loopw [6, 7] (fun i _ wr => ∃ k : Nat, i = .int .i64 k ∧ k ≤ dn ∧ Hid (∀ j (h : j < zs.length), j < k → (∃ t ∈ ss, t.1 = zs[j]) ∧ ∀ j' (h' : j' < j), zs[j'] ≠ zs[j]) ∧ Hid (Below w3.heap.size w3 wr)) (fun i _ _ => dn - (intOf i).toNat)
  case atStart => exact ⟨0, by first | rfl | go_num, by omega, Lib.hid (fun j h hj => by omega), HB4⟩
  case round =>
    obtain ⟨k, rfl, hk, HK, HW⟩ := hrel
    obtain ⟨⟨z0, z1, z2, z3⟩, f0, f1, f2⟩ := HR.out.keep HW.out HLT.out.2.2
    obtain ⟨x0, x1, x2, x3⟩ := HA.out.below HW.out
    obtain ⟨y0, y1, y2, y3, y4⟩ := HE.out.below HW.out
    by_cases hlt : k < dn
    · have hki : (k : Int) < (dn : Int) := by omega
      have hkl : k < zs.length := by rw [HDL.out]; exact hlt
      obtain rfl := hda (by omega)
      have hdb := hdb (by omega)
      have g0 := HDC.out.old hdb HW.out k hkl
      have hbr := Nat.lt_of_lt_of_le hdb HW.out.size
      obtain ⟨X, hX⟩ : ∃ X, X = zs[k] := ⟨_, rfl⟩
      rw [← hX] at g0
      have HXX := Lib.hid hX
      obtain ⟨r, hr⟩ := fd_ex ss X
      have HF := Lib.hid fun (wx : World) (hx : Below wr.heap.size wr wx) => rfindb_any a n cap ss X r wx (HST.out.old (HW.out.trans (hx.mono HW.out.size))) (by omega) hr
      have hfd := fd_neg hr
      have HFD := Lib.hid hfd
      clear hX hr hfd
      go_wp2_with fail
      refine wp_region_below (by kernel_rfl) (by kernel_rfl) ?_
      repeat (first
        | go_big_quiet_skip
        | (go_big_quiet_want
           first
           | (refine BigFrame.quiet_move _ rfl ?_)
           | (refine BigFrame.quiet_assign _ rfl ?_)
           | (unfold Oper.quiet
              apply Exists.intro
              refine ⟨fun w' hw' => ?_, ?_⟩
              · (obtain ⟨hc', hf'⟩ := bcell hw'
                 go_simp
                 first
                 | done
                 | exact rfl
                 | (go_at_call 46; (with_reducible refine (HF.out _ hw').mono ?_); rintro e w'' ⟨rfl, bb⟩; exact ⟨rfl, by first | exact bt hw' bb | simpa using bt hw' bb⟩)))
           go_big_quiet_on
           simp only [Act.put, Act.eval, List.setIfInBounds_toArray, List.set_cons_zero, List.set_cons_succ, Array.getD_eq_getD_getElem?, List.getElem?_toArray, List.getElem?_cons_zero, List.getElem?_cons_succ, Option.getD_some]))
      refine wpQuiet_nil ?_
      intro w' hw'
      have HW2 := Lib.hid (HW.out.trans (hw'.mono HW.out.size))
      clear hw' x0 x1 x2 x3 y0 y1 y2 y3 y4 z0 z1 z2 z3 f0 f1 f2 g0 hbr HF
      rcases HFD.out with ⟨hneg, hall⟩ | ⟨hpos, hin⟩
      · have HNO := Lib.hid (HNF.out (fit_no fun q => by
          obtain ⟨t, ht, he⟩ := q.1 X (by rw [HXX.out]; exact List.getElem_mem hkl)
          exact hall t ht he))
        clear hall
        obtain ⟨⟨z0, z1, z2, z3⟩, f0, f1, f2⟩ := HR.out.keep HW2.out HLT.out.2.2
        obtain ⟨x0, x1, x2, x3⟩ := HA.out.below HW2.out
        obtain ⟨y0, y1, y2, y3, y4⟩ := HE.out.below HW2.out
        go_wp2_with fail
        try simp only [Exit.inBlock, Exit.then]
        refine bodyPost_ret (v := .tuple #[.agg #[.slice none 0 0, .int .i64 0, .int .i64 0], .int .i64 120]) (by simp [results, Try.results19, go_sem, z0, z1, z2, z3]) rfl ?_
        exact HZERO.out _ _ HW2.out HNO.out
      · have HIN := Lib.hid hin
        have hneg : ¬ r < 0 := by omega
        clear hin hpos
        go_wp2_with fail
        go_loopw [7] (fun i wr => ∃ q : Nat, i = .int .i64 q ∧ q ≤ k ∧ Hid (∀ j' (h : j' < zs.length), j' < q → zs[j'] ≠ X) ∧ Hid (Below w3.heap.size w3 wr)) (fun i _ => k - (intOf i).toNat)
        case atStart => exact ⟨0, by first | rfl | go_num, by omega, Lib.hid (fun j h hj => by omega), HW2⟩
        case round =>
          obtain ⟨q, rfl, hq, HQ, HW3⟩ := hrel
          by_cases hlt2 : q < k
          · have hqi : (q : Int) < (k : Int) := by omega
            have hqd : (q : Int) < (dn : Int) := by omega
            have hql : q < zs.length := by omega
            have g0 := HDC.out.old hdb HW3.out k hkl
            have g1 := HDC.out.old hdb HW3.out q hql
            have hbr := Nat.lt_of_lt_of_le hdb HW3.out.size
            rw [← HXX.out] at g0
            obtain ⟨Y, hY⟩ : ∃ Y, Y = zs[q] := ⟨_, rfl⟩
            rw [← hY] at g1
            have HYY := Lib.hid hY
            clear hY
            obtain ⟨⟨z0, z1, z2, z3⟩, f0, f1, f2⟩ := HR.out.keep HW3.out HLT.out.2.2
            obtain ⟨x0, x1, x2, x3⟩ := HA.out.below HW3.out
            obtain ⟨y0, y1, y2, y3, y4⟩ := HE.out.below HW3.out
            by_cases he : Y = X
            · have HNO := Lib.hid (HNF.out (fit_no fun p => by
                have := nd_get.1 p.2.1 k hkl q hlt2
                simp only at this
                rw [← HYY.out, ← HXX.out] at this
                exact this he))
              subst he
              go_wp2_with fail
              go_quiet (fail)
              have HW4 := Lib.hid (HW3.out.trans ((below_drewN (Below.refl _ wr) nq).mono HW3.out.size))
              generalize wr.drewN nq = wd at *
              clear x0 x1 x2 x3 y0 y1 y2 y3 y4 z0 z1 z2 z3 f0 f1 f2 g0 g1 hbr
              obtain ⟨⟨z0, z1, z2, z3⟩, f0, f1, f2⟩ := HR.out.keep HW4.out HLT.out.2.2
              obtain ⟨x0, x1, x2, x3⟩ := HA.out.below HW4.out
              obtain ⟨y0, y1, y2, y3, y4⟩ := HE.out.below HW4.out
              go_wp2_with fail
              try simp only [Exit.inBlock, Exit.then]
              refine bodyPost_ret (v := .tuple #[.agg #[.slice none 0 0, .int .i64 0, .int .i64 0], .int .i64 120]) (by simp [results, Try.results19, go_sem, z0, z1, z2, z3]) rfl ?_
              exact HZERO.out _ _ HW4.out HNO.out
            · have hbe : (Y == X) = false := by simp [he]
              have HN2 : Hid (∀ j' (h : j' < zs.length), j' < q + 1 → zs[j'] ≠ X) := Lib.hid fun j h hj => by
                by_cases e : j = q
                · subst e; rw [← HYY.out]; exact he
                · exact HQ.out j h (by omega)
              go_wp2_with fail
              go_quiet (fail)
              have HW4 := Lib.hid (HW3.out.trans ((below_drewN (Below.refl _ wr) nq).mono HW3.out.size))
              generalize wr.drewN nq = wd at *
              go_wp2_with fail
              go_roundw
              case rel => exact ⟨q + 1, by go_num, by omega, HN2, HW4⟩
              case measure => simp [intOf]; omega
          · obtain rfl : k = q := by omega
            have HN2 : Hid (∀ j (h : j < zs.length), j < k + 1 → (∃ t ∈ ss, t.1 = zs[j]) ∧ ∀ j' (h' : j' < j), zs[j'] ≠ zs[j]) := Lib.hid fun j h hj => by
              by_cases e : j = k
              · subst e; rw [← HXX.out]; exact ⟨HIN.out, fun j' h' => HQ.out j' (by omega) h'⟩
              · exact HK.out j h (by omega)
            go_wp2_with fail
            go_roundw
            case rel => exact ⟨k + 1, by go_num, by omega, HN2, HW3⟩
            case measure => simp [intOf]; omega
    · obtain rfl : dn = k := by omega
      have HDR : Hid ((∀ x ∈ zs, ∃ t ∈ ss, t.1 = x) ∧ zs.Nodup) := Lib.hid ⟨fun x hx => by
        obtain ⟨j, hj, rfl⟩ := List.getElem_of_mem hx
        exact (HK.out j hj (by have := HDL.out; omega)).1, nd_get.2 fun j h j' h' => (HK.out j h (by have := HDL.out; omega)).2 j' h'⟩
      clear HK
      obtain ⟨i0, hi0, hz0, hz1, hz2⟩ := info_parts Try.infoTab
      obtain ⟨sb, so, sa, slt, sc⟩ := HST.out.2.1.at_
      have hsn : ss.length = n := HST.out.1
      rw [hsn] at sa slt
      have HSN := Lib.hid hsn
      have HSC := Lib.hid sc
      have hw3s := HW.out.size
      clear hsn sc x0 x1 x2 x3 y0 y1 y2 y3 y4 z0 z1 z2 z3 f0 f1 f2
      have HWB := HW
      clear HW
      obtain ⟨⟨z0, z1, z2, z3⟩, f0, f1, f2⟩ := HR.out.keep HWB.out HLT.out.2.2
      obtain ⟨x0, x1, x2, x3⟩ := HA.out.below HWB.out
      obtain ⟨y0, y1, y2, y3, y4⟩ := HE.out.below HWB.out
      go_wp2_with fail
      clear x0 x1 x2 x3 y0 y1 y2 y3 y4 z0 z1 z2 z3 f0 f1 f2
      go_loopw [8, 9, 10, 11] (fun l i _ _ wr => ∃ (k m : Nat), i = .int .i64 k ∧ k ≤ n ∧ m ≤ k ∧ Hid (m = (keptT (ss.take k) zs).length ∧ wr.ownsRow w3.heap.size 49 4 l m (tv4 (keptT (ss.take k) zs))) ∧ Hid (Below w3.heap.size w3 wr)) (fun _ i _ _ _ => n - (intOf i).toNat)
      case atStart => exact ⟨0, 0, by first | rfl | go_num, by omega, by omega, Lib.hid ⟨rfl, World.ownsRow_nil _ _ _ _⟩, HWB⟩
      case round =>
        obtain ⟨k, m, rfl, hk, hm, HM2, HW⟩ := hrel
        obtain ⟨⟨z0, z1, z2, z3⟩, f0, f1, f2⟩ := HR.out.keep HW.out HLT.out.2.2
        obtain ⟨x0, x1, x2, x3⟩ := HA.out.below HW.out
        obtain ⟨y0, y1, y2, y3, y4⟩ := HE.out.below HW.out
        have hws := HW.out.size
        by_cases hlt : k < n
        · have hki : (k : Int) < (n : Int) := by omega
          have hkl : k < ss.length := by rw [HSN.out]; exact hlt
          obtain rfl := sa (by omega)
          have slt := slt (by omega)
          obtain ⟨E, hE⟩ : ∃ E, E = ss[k] := ⟨_, rfl⟩
          have HEE := Lib.hid hE
          clear hE
          go_wp2_with fail
          clear x0 x1 x2 x3 y0 y1 y2 y3 y4 z0 z1 z2 z3 f0 f1 f2
          go_loopw [10, 11] (fun g j wx => ∃ (q : Nat) (c0 : Bool), g = .bool c0 ∧ j = .int .i64 q ∧ q ≤ dn ∧ Hid (c0 = (zs.take q).contains E.1) ∧ Hid (Below wr.heap.size wr wx)) (fun _ j _ => dn - (intOf j).toNat)
          case atStart => exact ⟨0, false, rfl, by first | rfl | go_num, by omega, Lib.hid (by simp), Lib.hid (Below.refl _ _)⟩
          case round =>
            obtain ⟨q, c0, rfl, rfl, hq, HQ, HW4⟩ := hrel
            have HW5 := Lib.hid (HW.out.trans (HW4.out.mono HW.out.size))
            obtain ⟨⟨z0, z1, z2, z3⟩, f0, f1, f2⟩ := HR.out.keep HW5.out HLT.out.2.2
            obtain ⟨x0, x1, x2, x3⟩ := HA.out.below HW5.out
            obtain ⟨y0, y1, y2, y3, y4⟩ := HE.out.below HW5.out
            by_cases hlt2 : q < dn
            · have hqi : (q : Int) < (dn : Int) := by omega
              have hql : q < zs.length := by rw [HDL.out]; exact hlt2
              obtain rfl := hda (by omega)
              have hdb := hdb (by omega)
              have g0 := HDC.out.old hdb HW5.out q hql
              have hbr := Nat.lt_of_lt_of_le hdb HW5.out.size
              obtain ⟨k0, -, -, -⟩ := HSC.out.old slt HW5.out k hkl
              rw [← HEE.out] at k0
              have hsr := Nat.lt_of_lt_of_le slt HW5.out.size
              obtain ⟨Y, hY⟩ : ∃ Y, Y = zs[q] := ⟨_, rfl⟩
              rw [← hY] at g0
              have HN2 : Hid ((c0 || Y == E.1) = (zs.take (q + 1)).contains E.1) := Lib.hid (by
                rw [List.take_succ_eq_append_getElem hql, HQ.out, ← hY]
                rw [show (List.take q zs ++ [Y]).contains E.1 = ((List.take q zs).contains E.1 || [Y].contains E.1) from by simp [List.contains_eq_any_beq]]
                congr 1
                simp [eq_comm]
                rfl)
              clear hY
              cases c0 with
              | true =>
                have HN3 : Hid (true = (zs.take (q + 1)).contains E.1) := Lib.hid (by rw [← HN2.out]; rfl)
                clear HN2
                go_wp2_with fail
                go_quiet (fail)
                have HW6 := Lib.hid (HW4.out.trans ((below_drewN (Below.refl _ wr) nq).mono HW4.out.size))
                generalize wr.drewN nq = wd at *
                go_wp2_with fail
                go_roundw
                case rel => exact ⟨q + 1, true, rfl, by go_num, by omega, HN3, HW6⟩
                case measure => simp [intOf]; omega
              | false =>
                have HN3 : Hid ((Y == E.1) = (zs.take (q + 1)).contains E.1) := Lib.hid (by rw [← HN2.out]; rfl)
                clear HN2
                go_wp2_with fail
                go_quiet (fail)
                have HW6 := Lib.hid (HW4.out.trans ((below_drewN (Below.refl _ wr) nq).mono HW4.out.size))
                generalize wr.drewN nq = wd at *
                go_wp2_with fail
                go_roundw
                case rel => exact ⟨q + 1, _, rfl, by go_num, by omega, HN3, HW6⟩
                case measure => simp [intOf]; omega
            · obtain rfl : dn = q := by omega
              have hcc : c0 = zs.contains E.1 := by have := HQ.out; rwa [show zs.take dn = zs from by rw [← HDL.out, List.take_length]] at this
              have hs := kept_snoc (ss.take k) ss[k] zs
              rw [← List.take_succ_eq_append_getElem hkl, ← HEE.out] at hs
              have HS2 := Lib.hid hs
              have HCC := Lib.hid hcc
              have HROW := Lib.hid (below_own HM2.out.2 HW4.out)
              have hw5s := HW5.out.size
              clear hs hcc
              cases c0 with
              | true =>
                have HNT := Lib.hid (show keptT (ss.take (k + 1)) zs = keptT (ss.take k) zs by rw [HS2.out, if_pos (by have := HCC.out; simpa using this.symm)]; simp)
                go_wp2_with fail
                go_roundw
                case rel => exact ⟨k + 1, m, by go_num, by omega, by omega, Lib.hid ⟨by rw [HNT.out]; exact HM2.out.1, by rw [HNT.out]; exact HROW.out⟩, HW5⟩
                case measure => simp [intOf]; omega
              | false =>
                have HNT := Lib.hid (show keptT (ss.take (k + 1)) zs = keptT (ss.take k) zs ++ [E] by rw [HS2.out, if_neg (by have := HCC.out; simpa using this.symm)])
                obtain ⟨k0, k1, k2, k3⟩ := HSC.out.old slt HW5.out k hkl
                rw [← HEE.out] at k0 k1 k2 k3
                have hsr := Nat.lt_of_lt_of_le slt HW5.out.size
                go_wp2_with (at_builtin; generalize hG : wpList _ _ _ _ _ _ = G)
                rw [← hG]
                clear hG
                refine wpList_append_own _ rfl (.tmp 96) (.tmp 102) 22 rfl w3.heap.size 49 i0 (.agg #[.int .i64 0, .int .i64 0, .string ⟨#[]⟩, .string ⟨#[]⟩]) 4 48 Try.underlying22 hi0 hz0 hz1 hz2 rfl (by decide) _ _ _ rfl (HROW.out.alloc _) ⟨wr.heap.size, 0, none⟩ 1 1 (tv E) rfl rfl ?c1 ?c2 ?c3 ?c4 ?c5 ?_
                case c1 => exact cell_new4 _ _ _ _ _ _
                case c2 => intro u hu; simp [tv] at hu; rcases hu with rfl | rfl | rfl | rfl <;> rfl
                case c3 => unfold maxLen; omega
                case c4 => omega
                case c5 => simp [go_sem]; omega
                intro v' wy hown3 hgrow _
                have HB3 := Lib.hid (HW5.out.trans (((Below.refl w3.heap.size wr).alloc (by omega) _).grown hgrow (by simp [go_sem]; omega) (fun kk hk => (HROW.out.lt kk hk).1)))
                rw [tv4_snoc, ← HNT.out] at hown3
                have HR3 := Lib.hid (And.intro (show m + 1 = (keptT (ss.take (k + 1)) zs).length by rw [HNT.out, List.length_append, ← HM2.out.1]; rfl) hown3)
                clear hown3 hgrow
                clear x0 x1 x2 x3 y0 y1 y2 y3 y4 z0 z1 z2 z3 f0 f1 f2 k0 k1 k2 k3 hsr
                obtain ⟨⟨z0, z1, z2, z3⟩, f0, f1, f2⟩ := HR.out.keep HB3.out HLT.out.2.2
                obtain ⟨x0, x1, x2, x3⟩ := HA.out.below HB3.out
                obtain ⟨y0, y1, y2, y3, y4⟩ := HE.out.below HB3.out
                go_wp2_with fail
                go_roundw
                case rel => exact ⟨k + 1, m + 1, by go_num, by omega, by omega, HR3, HB3⟩
                case measure => simp [intOf]; omega
        · obtain rfl : n = k := by omega
          have HE0 := HM2.out
          rw [show ss.take n = ss from by rw [← HSN.out, List.take_length]] at HE0
          obtain ⟨la, lc, rfl, hlst⟩ := own_st HE0.2 (by rw [← HE0.1])
          have HLS := Lib.hid hlst
          clear HE0 HM2 hlst
          have HNX := HNEXT
          obtain ⟨eb, eo, ea, elt, ec⟩ := HET.out.2.1.at_
          have hen : ts.length = an := HET.out.1
          have hem : an ≤ 128 := by have := (mayEd_iff.1 HM.out).1; simp only at this; omega
          rw [hen] at ea elt
          have HEN := Lib.hid hen
          have HEC := Lib.hid ec
          have HWC := HW
          clear hen ec HW
          clear x0 x1 x2 x3 y0 y1 y2 y3 y4 z0 z1 z2 z3 f0 f1 f2
          obtain ⟨⟨z0, z1, z2, z3⟩, f0, f1, f2⟩ := HR.out.keep HWC.out HLT.out.2.2
          obtain ⟨x0, x1, x2, x3⟩ := HA.out.below HWC.out
          obtain ⟨y0, y1, y2, y3, y4⟩ := HE.out.below HWC.out
          go_wp2_with fail
          clear x0 x1 x2 x3 y0 y1 y2 y3 y4 z0 z1 z2 z3 f0 f1 f2
          go_loopw [8, 12, 13] (fun l i _ wr => ∃ (k : Nat) (a5 : Option Addr) (m5 c5 : Nat), l = .slice a5 m5 c5 ∧ i = .int .i64 k ∧ k ≤ an ∧ m5 ≤ n + k ∧ Hid (ST wr a5 m5 c5 ((ts.take k).foldl putT (keptT ss zs))) ∧ Hid (∀ j (h : j < ts.length), j < k → (∀ u ∈ ss, ¬ u.1 = ts[j].1) ∧ ts[j].1 < nx ∧ ∀ j' (h' : j' < j), ts[j'].1 ≠ ts[j].1) ∧ Hid (Below w3.heap.size w3 wr)) (fun _ i _ _ => an - (intOf i).toNat)
          case atStart => exact ⟨0, la, m, lc, rfl, by first | rfl | go_num, by omega, by omega, HLS, Lib.hid (fun j h hj => by omega), HWC⟩
          case round =>
            obtain ⟨k, a5, m5, c5, rfl, rfl, hk, hm5, H5, HK, HW⟩ := hrel
            obtain ⟨⟨z0, z1, z2, z3⟩, f0, f1, f2⟩ := HR.out.keep HW.out HLT.out.2.2
            obtain ⟨x0, x1, x2, x3⟩ := HA.out.below HW.out
            obtain ⟨y0, y1, y2, y3, y4⟩ := HE.out.below HW.out
            by_cases hlt : k < an
            · have hki : (k : Int) < (an : Int) := by omega
              have hkl : k < ts.length := by rw [HEN.out]; exact hlt
              obtain rfl := ea (by omega)
              have elt := elt (by omega)
              obtain ⟨g0, g1, g2, g3⟩ := HEC.out.old elt HW.out k hkl
              have hbr := Nat.lt_of_lt_of_le elt HW.out.size
              obtain ⟨E, hE⟩ : ∃ E, E = ts[k] := ⟨_, rfl⟩
              rw [← hE] at g0 g1 g2 g3
              have HEE := Lib.hid hE
              obtain ⟨r1, hr1⟩ := fd_ex ss E.1
              obtain ⟨r2, hr2⟩ := fd_ex ts E.1
              have hb1 := box_bel wr (.cells #[.int .i64 E.1, .int .i64 E.2.1, .string E.2.2.1, .string E.2.2.2] 49)
              have ht1 := TBox.new wr 49 E
              obtain ⟨z, hz⟩ : ∃ z, z = wr.heap.size := ⟨_, rfl⟩
              have HFD1 := Lib.hid (fd_neg hr1)
              have HFD2 := Lib.hid hr2
              have HF1 := Lib.hid fun (wx : World) (hx : Below w3.heap.size w3 wx) => rfindb_any a n cap ss E.1 r1 wx (HST.out.old hx) (by omega) hr1
              have HF2 := Lib.hid fun (wx : World) (hx : Below w3.heap.size w3 wx) => rfindb_any _ an ac ts E.1 r2 wx (HET.out.old hx) (by omega) hr2
              clear hE hr1 hr2
              go_upto_region 30 with fail
              rw [← hz] at ht1 ⊢
              clear hz x0 x1 x2 x3 y0 y1 y2 y3 y4 z0 z1 z2 z3 f0 f1 f2 g0 g1 g2 g3
              generalize wr.alloc (.cells #[.int .i64 E.1, .int .i64 E.2.1, .string E.2.2.1, .string E.2.2.2] 49) = wa at *
              have HA1 := Lib.hid hb1
              have HT1 := Lib.hid ht1
              have HW5 := Lib.hid (HW.out.trans (hb1.mono HW.out.size))
              clear hb1 ht1
              obtain ⟨⟨z0, z1, z2, z3⟩, f0, f1, f2⟩ := HR.out.keep HW5.out HLT.out.2.2
              obtain ⟨x0, x1, x2, x3⟩ := HA.out.below HW5.out
              obtain ⟨y0, y1, y2, y3, y4⟩ := HE.out.below HW5.out
              obtain ⟨t0, t1, t2, t3, t4⟩ := HT1.out
              go_wp2_with fail
              refine (HF1.out _ HW5.out).mono ?_
              rintro e' wb ⟨rfl, hbb⟩
              have HAB := Lib.hid (HA1.out.trans (hbb.mono HA1.out.size))
              have HW6 := Lib.hid (HW5.out.trans (hbb.mono HW5.out.size))
              have HT2 := Lib.hid (HT1.out.below hbb)
              clear hbb HF1 x0 x1 x2 x3 y0 y1 y2 y3 y4 z0 z1 z2 z3 f0 f1 f2 t0 t1 t2 t3 t4
              obtain ⟨⟨z0, z1, z2, z3⟩, f0, f1, f2⟩ := HR.out.keep HW6.out HLT.out.2.2
              obtain ⟨x0, x1, x2, x3⟩ := HA.out.below HW6.out
              obtain ⟨y0, y1, y2, y3, y4⟩ := HE.out.below HW6.out
              obtain ⟨t0, t1, t2, t3, t4⟩ := HT2.out
              rcases HFD1.out with ⟨hneg, hall⟩ | ⟨hpos, hin⟩
              case inr =>
                have HNO := Lib.hid (HNF.out (fit_no fun p => by
                  obtain ⟨u, hu, he⟩ := hin
                  exact (p.2.2.1 E (by rw [HEE.out]; exact List.getElem_mem hkl)).1 u hu he))
                clear hin
                go_wp2_with fail
                try simp only [Exit.inBlock, Exit.then]
                refine bodyPost_ret (v := .tuple #[.agg #[.slice none 0 0, .int .i64 0, .int .i64 0], .int .i64 120]) (by simp [results, Try.results19, go_sem, z0, z1, z2, z3]) rfl ?_
                exact HZERO.out _ _ HW6.out HNO.out
              have HALL := Lib.hid hall
              have hneg' : ¬ (0 : Int) ≤ r1 := by omega
              clear hall hneg
              go_wp2_with fail
              refine (HF2.out _ HW6.out).mono ?_
              rintro e' wc ⟨rfl, hbb⟩
              have HAC := Lib.hid (HAB.out.trans (hbb.mono HAB.out.size))
              have HW7 := Lib.hid (HW6.out.trans (hbb.mono HW6.out.size))
              have HT3 := Lib.hid (HT2.out.below hbb)
              clear hbb HF2 x0 x1 x2 x3 y0 y1 y2 y3 y4 z0 z1 z2 z3 f0 f1 f2 t0 t1 t2 t3 t4
              obtain ⟨⟨z0, z1, z2, z3⟩, f0, f1, f2⟩ := HR.out.keep HW7.out HLT.out.2.2
              obtain ⟨x0, x1, x2, x3⟩ := HA.out.below HW7.out
              obtain ⟨y0, y1, y2, y3, y4⟩ := HE.out.below HW7.out
              obtain ⟨t0, t1, t2, t3, t4⟩ := HT3.out
              by_cases hr2 : r2 = (k : Int)
              case neg =>
                have HNO := Lib.hid (HNF.out (fit_no fun p => by
                  have hnd := nd_get.1 p.2.2.2
                  rcases HFD2.out with ⟨-, h2⟩ | ⟨k', hk', h1, h2, h3⟩
                  · exact h2 E (by rw [HEE.out]; exact List.getElem_mem hkl) rfl
                  · have hne : k' ≠ k := fun e => hr2 (by rw [h1, e])
                    rcases Nat.lt_or_gt_of_ne hne with h | h
                    · have := hnd k (by simpa using hkl) k' h
                      simp only [List.getElem_map] at this
                      rw [← HEE.out] at this
                      exact this h2
                    · exact h3 k h (by rw [← HEE.out])))
                go_wp2_with fail
                try simp only [Exit.inBlock, Exit.then]
                refine bodyPost_ret (v := .tuple #[.agg #[.slice none 0 0, .int .i64 0, .int .i64 0], .int .i64 120]) (by simp [results, Try.results19, go_sem, z0, z1, z2, z3]) rfl ?_
                exact HZERO.out _ _ HW7.out HNO.out
              by_cases hnx : nx ≤ E.1
              case pos =>
                have HNO := Lib.hid (HNF.out (fit_no fun p => by
                  have := (p.2.2.1 E (by rw [HEE.out]; exact List.getElem_mem hkl)).2
                  simp only at this
                  omega))
                subst hr2
                go_wp2_with fail
                try simp only [Exit.inBlock, Exit.then]
                refine bodyPost_ret (v := .tuple #[.agg #[.slice none 0 0, .int .i64 0, .int .i64 0], .int .i64 120]) (by simp [results, Try.results19, go_sem, z0, z1, z2, z3]) rfl ?_
                exact HZERO.out _ _ HW7.out HNO.out
              have HN2 : Hid (∀ j (h : j < ts.length), j < k + 1 → (∀ u ∈ ss, ¬ u.1 = ts[j].1) ∧ ts[j].1 < nx ∧ ∀ j' (h' : j' < j), ts[j'].1 ≠ ts[j].1) := Lib.hid fun j h hj => by
                by_cases e : j = k
                · subst e
                  rw [← HEE.out]
                  refine ⟨HALL.out, by omega, fun j' h' => ?_⟩
                  rcases HFD2.out with ⟨-, h2⟩ | ⟨k', hk', h1, h2, h3⟩
                  · exact absurd rfl (h2 E (by rw [HEE.out]; exact List.getElem_mem hkl))
                  · exact h3 j' (by omega)
                · exact HK.out j h (by omega)
              have HPU := Lib.hid fun (wx : World) (hx : Below wr.heap.size wr wx) => rputt_any a5 m5 c5 _ E wx (H5.out.old hx) (by omega)
              have HTK : Hid ((ts.take (k + 1)).foldl putT (keptT ss zs) = putT ((ts.take k).foldl putT (keptT ss zs)) E) := Lib.hid (by rw [List.take_succ_eq_append_getElem hkl, List.foldl_append, ← HEE.out]; rfl)
              have HPL : Hid ((putT ((ts.take k).foldl putT (keptT ss zs)) E).length = m5 + 1) := Lib.hid (by rw [(putT_perm _ _).length_eq, List.length_cons, H5.out.1])
              subst hr2
              clear HK H5
              go_wp2_with fail
              refine (HPU.out _ HAC.out).mono ?_
              rintro e' wd ⟨a6, m6, c6, rfl, hst6, hb6⟩
              have HW8 := Lib.hid (HW7.out.trans (hb6.mono HW7.out.size))
              have hm6 : m6 = m5 + 1 := by rw [← hst6.1, HPL.out]
              rw [← HTK.out] at hst6
              have HST6 := Lib.hid hst6
              have hm7 : m6 ≤ n + (k + 1) := by omega
              clear hst6 hb6 hm6 x0 x1 x2 x3 y0 y1 y2 y3 y4 z0 z1 z2 z3 f0 f1 f2 t0 t1 t2 t3 t4 hneg' hnx
              go_wp2_with fail
              go_roundw
              case rel => exact ⟨k + 1, a6, m6, c6, rfl, by go_num, by omega, hm7, HST6, HN2, HW8⟩
              case measure => simp [intOf]; omega
            · obtain rfl : an = k := by omega
              have htk : ts.take an = ts := by rw [← HEN.out, List.take_length]
              have hfit : fitT ss (ts, zs, lg, nx) = true := fitT_iff.2 ⟨HDR.out.1, HDR.out.2, fun t ht => by
                obtain ⟨j, hj, rfl⟩ := List.getElem_of_mem ht
                have hj' : j < ts.length := hj
                have := HK.out j hj' (by have := HEN.out; omega)
                exact ⟨this.1, this.2.1⟩, nd_get.2 fun j h j' h' => by
                have h9 : j < ts.length := by simpa using h
                have := (HK.out j h9 (by have := HEN.out; omega)).2.2 j' h'
                simpa using this⟩
              have h5 := H5.out
              rw [htk] at h5
              have HL5 := Lib.hid h5
              have HFIT := Lib.hid hfit
              have HAP := Lib.hid (rapart_any _ _ _ _ wr h5 (by omega))
              obtain ⟨c, hc⟩ : ∃ c, decide (Apt (ts.foldl putT (keptT ss zs))) = c := ⟨_, rfl⟩
              rw [hc] at HAP
              have HCC := Lib.hid hc
              clear hc hfit h5 htk H5 HK
              go_wp2_with fail
              refine HAP.out.mono ?_
              rintro e' wb ⟨rfl, hbb⟩
              have HW6 := Lib.hid (HW.out.trans (hbb.mono HW.out.size))
              have HL6 := Lib.hid (HL5.out.old hbb)
              clear hbb HAP x0 x1 x2 x3 y0 y1 y2 y3 y4 z0 z1 z2 z3 f0 f1 f2
              obtain ⟨⟨z0, z1, z2, z3⟩, f0, f1, f2⟩ := HR.out.keep HW6.out HLT.out.2.2
              obtain ⟨x0, x1, x2, x3⟩ := HA.out.below HW6.out
              obtain ⟨y0, y1, y2, y3, y4⟩ := HE.out.below HW6.out
              cases c with
              | false =>
                have HNO := Lib.hid (ap_no HM.out (app_apt (s := (ss, sl, sn)) (e := (ts, zs, lg, nx)) (fun q => by have := HCC.out; rw [decide_eq_true (show Apt (ts.foldl putT (keptT ss zs)) from q)] at this; cases this)))
                go_wp2_with fail
                try simp only [Exit.inBlock, Exit.then]
                refine bodyPost_ret (v := .tuple #[.agg #[.slice none 0 0, .int .i64 0, .int .i64 0], .int .i64 120]) (by simp [results, Try.results19, go_sem, z0, z1, z2, z3]) rfl ?_
                exact HZERO.out _ _ HW6.out HNO.out
              | true =>
                have HNO := Lib.hid (ap_yes HM.out (app_all (s := (ss, sl, sn)) (e := (ts, zs, lg, nx)) (by have := HLOG.out; show ¬ lg < sl; omega) (by have := HNX.out; show ¬ nx < sn; omega) HFIT.out (of_decide_eq_true HCC.out)))
                have hmy : okT (ts.foldl putT (keptT ss zs)) := fun t ht => by
                  rcases List.mem_append.1 ((putsT_perm ts (keptT ss zs)).mem_iff.1 ht) with q | q
                  · exact HOK.out t ((kept_sub ss zs).subset q)
                  · exact HTOK.out t q
                have HMY := Lib.hid hmy
                clear hmy
                go_wp2_with fail
                try simp only [Exit.inBlock, Exit.then]
                refine bodyPost_ret (v := .tuple #[.agg #[.slice a5 m5 c5, .int .i64 lg, .int .i64 nx], .int .i64 0]) (by simp [results, Try.results19, go_sem, z0, z1, z2, z3]) rfl ?_
                refine ⟨_, by rw [HNO.out.1], ?_, HFIN.out _ _ _ _ HW6.out⟩
                rw [HNO.out.2]
                exact ⟨a5, m5, c5, rfl, HL6.out.put3 ⟨HR.out.keep HW6.out HLT.out.2.2, fun i hi => (HW6.out.cell (p := ⟨xc, i, none⟩) HLT.out.2.2).trans (HRN.out i hi)⟩ _ _ _, HMY.out⟩
end Go.Proofs.Ytkpemlgolpihiaa
