/-
  Layer 12 (manifest): the walk of ManifestReplays. Conditions: none beyond the row's own.
-/
import Derived.Test.YtkpemlgolpihiaaZv
import Derived.Test.YtkpemlgolpihiaaRH
namespace Go.Proofs.Ytkpemlgolpihiaa
set_option maxRecDepth 100000
open Go.RowKit
set_option linter.unusedVariables false
set_option linter.unusedSimpArgs false

theorem Try.infoStr12 : (Try.prog.info? 9).map (fun i => (i.zero, i.size, i.bytes)) = some (some (.string ⟨#[]⟩), 1, 16) := by kernel_rfl
theorem cell_newS (w : World) (A : Value) (t : TypeId) : ∀ j u, [A][j]? = some u → (w.alloc (.cells #[A] t)).cell? ((⟨w.heap.size, 0, none⟩ : Addr).add j) = some u := by
  intro j u hj
  have e' : ∀ j, (⟨w.heap.size, 0, none⟩ : Addr).add j = ⟨w.heap.size, 0 + j, none⟩ := by intro j; unfold Addr.add; split <;> simp_all
  rw [e']
  match j, hj with
  | 0, hj => simp at hj; subst hj; simp
/-- What a Replay answers, its parts named. -/
theorem rpe_out {ts : List (List UInt8)} {L : Nat} {G X N : Int} (hL : L = ((repO ([], 0, 0) ts).getD ([], 0, 0)).1.length) (hG : G = ((repO ([], 0, 0) ts).getD ([], 0, 0)).2.1) (hX : X = ((repO ([], 0, 0) ts).getD ([], 0, 0)).2.2) (hN : N = if (repO ([], 0, 0) ts).isSome = true then 0 else 120)
    {w w' : World} {e : Ending} (h : RPE ts w e w') : ∃ a c, e = .returned (.tuple #[.agg #[.slice a L c, .int .i64 G, .int .i64 X], .int .i64 N]) ∧ ST w' a L c ((repO ([], 0, 0) ts).getD ([], 0, 0)).1 ∧ okT ((repO ([], 0, 0) ts).getD ([], 0, 0)).1 ∧ Below w.heap.size w w' := by
  obtain ⟨V, rfl, ⟨a, m, c, rfl, hst, hok⟩, hb⟩ := h
  obtain rfl := hst.1
  subst hL hG hX hN
  exact ⟨a, c, rfl, hst, hok, hb⟩
set_option maxRecDepth 1000000 in
set_option maxHeartbeats 16000000 in
theorem walk_ManifestReplays (a0 : Option Addr) (cap0 : Nat) (ts : List (List UInt8)) (a : Option Addr) (n cap : Nat) (es : List Ed) (w : World) (hrd : Rd w a0 ts) (hl0 : ts.length ≤ maxLen) (hc0 : ts.length ≤ cap0) (h : SEd w a n cap es) :
    Calls Try.prog 5 #[.slice a0 ts.length cap0, .slice a n cap] w fun x w' => x = .returned (.bool true) ∧ Below w.heap.size w w' := by
  obtain ⟨i0, hi0, hz0, hz1, hz2⟩ := info_parts Try.infoStr12
  obtain ⟨b, off, ha, hb, hc⟩ := h.2.1.at_
  have hl := h.1
  rw [hl] at ha hb
  have HC := Lib.hid hc
  have HL := Lib.hid hl
  have HRD := Lib.hid hrd
  have HR1 := Lib.hid (Below.refl w.heap.size w)
  clear hc hl hrd
  go_enter Try.func5, Try.ntmps5
  by_cases hN20 : ts.length ≤ 20
  case neg =>
    have hni : (20 : Int) < (ts.length : Int) := by omega
    go_wp2_with fail
    refine (awake12_any w).mono ?_
    rintro e' wz ⟨rfl, hbz⟩
    have HBZ := Lib.hid (HR1.out.trans (hbz.mono HR1.out.size))
    clear hbz
    go_wp2_with fail
    go_ret
    exact ⟨rfl, HBZ.out⟩
  have hNi : ¬ (20 : Int) < (ts.length : Int) := by omega
  by_cases hn : n ≤ 20
  case neg =>
    have hni : (20 : Int) < (n : Int) := by omega
    go_wp2_with fail
    refine (awake12_any w).mono ?_
    rintro e' wz ⟨rfl, hbz⟩
    have HBZ := Lib.hid (HR1.out.trans (hbz.mono HR1.out.size))
    clear hbz
    go_wp2_with fail
    go_ret
    exact ⟨rfl, HBZ.out⟩
  have hni : ¬ (20 : Int) < (n : Int) := by omega
  go_wp2_with fail
  go_loopw [5, 6, 7, 8] (fun l i _ _ wr => ∃ (k m : Nat) (us : List (List UInt8)), i = .int .i64 k ∧ k ≤ n ∧ m ≤ k ∧ Hid (m = us.length ∧ wr.ownsRow w.heap.size 9 1 l m (sv us)) ∧ Hid (∀ t ∈ us, t.length ≤ 16777216) ∧ Hid (Below w.heap.size w wr)) (fun _ i _ _ _ => n - (intOf i).toNat)
  case atStart => exact ⟨0, 0, [], by first | rfl | go_num, by omega, by omega, Lib.hid ⟨rfl, World.ownsRow_nil _ _ _ _⟩, Lib.hid (fun t ht => by simp at ht), HR1⟩
  case round =>
    obtain ⟨k, m, us, rfl, hk, hm, HM, HU, HW⟩ := hrel
    by_cases hlt : k < n
    · have hki : (k : Int) < (n : Int) := by omega
      obtain rfl := ha (by omega)
      have hbw := hb (by omega)
      have hkl : k < es.length := by rw [HL.out]; exact hlt
      obtain ⟨aa, an, ac, da, dn, dc, c0, c1, c2, c3, hev⟩ := (HC.out.old hbw HW.out) k hkl
      obtain ⟨E, hE⟩ : ∃ E, E = es[k] := ⟨_, rfl⟩
      rw [← hE] at c2 c3 hev
      have hbr : b < wr.heap.size := Nat.lt_of_lt_of_le hbw HW.out.size
      obtain ⟨lg, hlg⟩ : ∃ lg, lg = E.2.2.1 := ⟨_, rfl⟩
      obtain ⟨nx, hnx⟩ : ∃ nx, nx = E.2.2.2 := ⟨_, rfl⟩
      rw [← hlg] at c2 hev
      rw [← hnx] at c3 hev
      have HEV := Lib.hid hev
      have HLI := Lib.hid (light12_any _ _ _ hev)
      obtain ⟨lt, hlt2⟩ : ∃ lt, lt = liteEd E := ⟨_, rfl⟩
      rw [← hlt2] at HLI
      have HLT := Lib.hid hlt2
      have HCE := Lib.hid (And.intro c0 (And.intro c1 (And.intro c2 c3)))
      clear hE hlg hnx hev hlt2
      go_wp2_with fail
      refine HLI.out.mono ?_
      rintro e' w2 ⟨rfl, hb2⟩
      have HB2 := Lib.hid hb2
      have HW2 := Lib.hid (HW.out.trans (hb2.mono HW.out.size))
      clear hb2 HLI
      cases lt with
      | false =>
        clear c0 c1 c2 c3
        go_wp2_with fail
        refine (awake12_any w2).mono ?_
        rintro e' wz ⟨rfl, hbz⟩
        have HBZ := Lib.hid (HW2.out.trans (hbz.mono HW2.out.size))
        clear hbz
        go_wp2_with fail
        go_ret
        exact ⟨rfl, HBZ.out⟩
      | true =>
      have HEV2 := Lib.hid (HEV.out.old HB2.out)
      have c0 := (HB2.out.cell (p := ⟨b, off + k * 4, none⟩) hbr).trans HCE.out.1
      have c1 := (HB2.out.cell (p := ⟨b, off + k * 4 + 1, none⟩) hbr).trans HCE.out.2.1
      have c2 := (HB2.out.cell (p := ⟨b, off + k * 4 + 2, none⟩) hbr).trans HCE.out.2.2.1
      have c3 := (HB2.out.cell (p := ⟨b, off + k * 4 + 3, none⟩) hbr).trans HCE.out.2.2.2
      have hbr2 : b < w2.heap.size := Nat.lt_of_lt_of_le hbr HB2.out.size
      obtain ⟨tx, N, htx, hpe, -⟩ := pue_pair E HLT.out.symm
      have HPE := Lib.hid hpe
      have HTX := Lib.hid htx
      have HPU := Lib.hid (rput12_any _ _ w2 HEV2.out)
      clear hpe htx
      go_wp2_with fail
      refine HPU.out.mono ?_
      rintro e' w3 he
      obtain ⟨rfl, hb3⟩ := HPE.out _ _ _ he
      have HB3 := Lib.hid (HB2.out.trans (hb3.mono HB2.out.size))
      have HW3 := Lib.hid (HW2.out.trans (hb3.mono HW2.out.size))
      have HROW := Lib.hid (below_own HM.out.2 HB3.out)
      have hw3 := HW3.out.size
      clear he hb3 HPU HPE c0 c1 c2 c3 hbr2
      by_cases h0 : N = 0
      · subst h0
        have hux : sv us ++ [Value.string tx] = sv (us ++ [tx.data.toList]) := by rw [← sv_snoc]
        have HUX := Lib.hid hux
        clear hux
        go_wp2_with (at_builtin; generalize hG : wpList _ _ _ _ _ _ = G)
        rw [← hG]
        clear hG
        refine wpList_append_own _ rfl (.tmp 50) (.tmp 52) 45 rfl w.heap.size 9 i0 (.string ⟨#[]⟩) 1 16 Try.underlying45 hi0 hz0 hz1 hz2 rfl (by decide) _ _ _ rfl (HROW.out.alloc _) ⟨w3.heap.size, 0, none⟩ 1 1 [.string tx] rfl rfl ?c1 ?c2 ?c3 ?c4 ?c5 ?_
        case c1 => exact cell_newS _ _ _
        case c2 => intro u hu; simp at hu; subst hu; rfl
        case c3 => unfold maxLen; omega
        case c4 => omega
        case c5 => simp [go_sem]; omega
        intro v' wy hown3 hgrow _
        have HB4 := Lib.hid (HW3.out.trans (((Below.refl w.heap.size w3).alloc (by omega) _).grown hgrow (by simp [go_sem]; omega) (fun kk hk => (HROW.out.lt kk hk).1)))
        rw [HUX.out] at hown3
        have HR3 := Lib.hid (And.intro (show m + 1 = (us ++ [tx.data.toList]).length by rw [List.length_append, ← HM.out.1]; rfl) hown3)
        have HU3 : Hid (∀ t ∈ us ++ [tx.data.toList], t.length ≤ 16777216) := Lib.hid fun t ht => by
          rcases List.mem_append.1 ht with q | q
          · exact HU.out t q
          · obtain rfl := List.mem_singleton.1 q
            have := HTX.out
            have e : tx.data.toList.length = tx.size := Array.length_toList
            omega
        clear hown3 hgrow HUX
        go_wp2_with fail
        go_roundw
        case rel => exact ⟨k + 1, m + 1, _, by go_num, by omega, by omega, HR3, HU3, HB4⟩
        case measure => simp [intOf]; omega
      · go_wp2_with fail
        go_roundw
        case rel => exact ⟨k + 1, m, us, by go_num, by omega, by omega, Lib.hid ⟨HM.out.1, HROW.out⟩, HU, HW3⟩
        case measure => simp [intOf]; omega
    · obtain rfl : n = k := by omega
      obtain ⟨hml, hown⟩ := HM.out
      obtain ⟨la, lc, rfl⟩ := own_slice hown
      rw [hml] at hown
      have HAL := Lib.hid (own_rd hown)
      have HML := Lib.hid hml
      have HUS := HU
      have HW1 := HW
      rename World => wm
      clear hown hml HM HU HW
      obtain ⟨tb, to', ta, tlt, tc⟩ := rd_at HRD.out
      have HTC := Lib.hid tc
      clear tc
      go_wp2_with fail
      go_loopw [9] (fun i wr => ∃ k : Nat, i = .int .i64 k ∧ k ≤ ts.length ∧ Hid (∀ j (h : j < ts.length), j < k → ts[j].length ≤ 16777216) ∧ Hid (Below wm.heap.size wm wr)) (fun i _ => ts.length - (intOf i).toNat)
      case atStart => exact ⟨0, by first | rfl | go_num, by omega, Lib.hid (fun j h hj => by omega), Lib.hid (Below.refl _ _)⟩
      case round =>
        obtain ⟨k, rfl, hk, HK, HW⟩ := hrel
        have HWW := Lib.hid (HW1.out.trans (HW.out.mono HW1.out.size))
        by_cases hltk : k < ts.length
        · have hki : (k : Int) < (ts.length : Int) := by omega
          obtain rfl := ta (by omega)
          have tlt := tlt (by omega)
          have c0 := (HWW.out.cell (p := ⟨tb, to' + k, none⟩) tlt).trans (HTC.out k hltk)
          have hbr := Nat.lt_of_lt_of_le tlt HWW.out.size
          obtain ⟨tx, htx⟩ : ∃ tx : ByteArray, tx = ⟨ts[k].toArray⟩ := ⟨_, rfl⟩
          rw [← htx] at c0
          have HSZ := Lib.hid (show tx.size = ts[k].length by rw [htx]; rfl)
          clear htx
          by_cases hbig : tx.size ≤ 1024
          case neg =>
            have hbi : (1024 : Int) < (tx.size : Int) := by omega
            go_wp2_with fail
            refine (awake12_any wr).mono ?_
            rintro e' wz ⟨rfl, hbz⟩
            have HBZ := Lib.hid (HWW.out.trans (hbz.mono HWW.out.size))
            clear hbz
            go_wp2_with fail
            go_ret
            exact ⟨rfl, HBZ.out⟩
          have hbi : ¬ (1024 : Int) < (tx.size : Int) := by omega
          have HN : Hid (∀ j (h : j < ts.length), j < k + 1 → ts[j].length ≤ 16777216) := Lib.hid fun j h hj => by
            by_cases e : j = k
            · subst e; have := HSZ.out; omega
            · exact HK.out j h (by omega)
          go_wp2_with fail
          go_roundw
          case rel => exact ⟨k + 1, by go_num, by omega, HN, HW⟩
          case measure => simp [intOf]; omega
        · have hke : k = ts.length := by omega
          have HTS : Hid (∀ t ∈ ts, t.length ≤ 16777216) := Lib.hid fun t ht => by
            obtain ⟨j, hj, rfl⟩ := List.getElem_of_mem ht
            exact HK.out j hj (by omega)
          have hm20 : m ≤ 20 := by omega
          clear HK
          obtain ⟨L1, hL1⟩ : ∃ L, L = ((repO ([], 0, 0) ts).getD ([], 0, 0)).1.length := ⟨_, rfl⟩
          obtain ⟨G1, hG1⟩ : ∃ L, L = ((repO ([], 0, 0) ts).getD ([], 0, 0)).2.1 := ⟨_, rfl⟩
          obtain ⟨X1, hX1⟩ : ∃ L, L = ((repO ([], 0, 0) ts).getD ([], 0, 0)).2.2 := ⟨_, rfl⟩
          obtain ⟨N1, hN1⟩ : ∃ L : Int, L = if (repO ([], 0, 0) ts).isSome = true then 0 else 120 := ⟨_, rfl⟩
          obtain ⟨L2, hL2⟩ : ∃ L, L = ((repO ([], 0, 0) us).getD ([], 0, 0)).1.length := ⟨_, rfl⟩
          obtain ⟨G2, hG2⟩ : ∃ L, L = ((repO ([], 0, 0) us).getD ([], 0, 0)).2.1 := ⟨_, rfl⟩
          obtain ⟨X2, hX2⟩ : ∃ L, L = ((repO ([], 0, 0) us).getD ([], 0, 0)).2.2 := ⟨_, rfl⟩
          obtain ⟨N2, hN2⟩ : ∃ L : Int, L = if (repO ([], 0, 0) us).isSome = true then 0 else 120 := ⟨_, rfl⟩
          have HE1 := Lib.hid fun (x : Ending) (wa wb : World) (hh : RPE ts wa x wb) => rpe_out hL1 hG1 hX1 hN1 hh
          have HE2 := Lib.hid fun (x : Ending) (wa wb : World) (hh : RPE us wa x wb) => rpe_out hL2 hG2 hX2 hN2 hh
          have HPT := Lib.hid (And.intro hG1 (And.intro hX1 (And.intro hG2 hX2)))
          clear hL1 hG1 hX1 hN1 hL2 hG2 hX2 hN2 hke
          go_upto_region 18 with (go_at_call 24; refine (replay_any _ _ _ _ _ (HRD.out.old HWW.out) rfl hN20 HTS.out).mono ?_; rintro e' wp he; obtain ⟨ap, cp, rfl, hst, hok, hbb⟩ := HE1.out _ _ _ he; clear he; have HTp := Lib.hid hst; have HBp := Lib.hid (HW.out.trans (hbb.mono HW.out.size)); have HBBp := Lib.hid hbb; have HOKp := Lib.hid hok; clear hst hok hbb)
          have bz := SQ.new wp 38 (.slice ap L1 cp) G1 X1
          have b0 := box_bel wp (.cells #[.slice ap L1 cp, .int .i64 G1, .int .i64 X1] 38)
          obtain ⟨xp, hxd⟩ : ∃ x, x = wp.heap.size := ⟨_, rfl⟩
          rw [← hxd] at bz ⊢
          clear hxd
          generalize wp.alloc (.cells #[.slice ap L1 cp, .int .i64 G1, .int .i64 X1] 38) = vp at *
          have HVp := Lib.hid (HBp.out.trans (b0.mono HBp.out.size))
          have HQp := Lib.hid bz
          have HSp := Lib.hid (HTp.out.old b0)
          have HSTp := Lib.hid (HBBp.out.trans (b0.mono HBBp.out.size))
          clear bz b0
          go_upto_region 19 with (go_at_call 25; refine (rreplay_any _ _ _ _ _ (HRD.out.old (HW1.out.trans (HVp.out.mono HW1.out.size))) rfl hN20 HTS.out).mono ?_; rintro e' wq he; obtain ⟨aq, cq, rfl, hst, hok, hbb⟩ := HE1.out _ _ _ he; clear he; have HTq := Lib.hid hst; have HBq := Lib.hid (HVp.out.trans (hbb.mono HVp.out.size)); have HBBq := Lib.hid hbb; have HOKq := Lib.hid hok; clear hst hok hbb)
          have bz := SQ.new wq 38 (.slice aq L1 cq) G1 X1
          have b0 := box_bel wq (.cells #[.slice aq L1 cq, .int .i64 G1, .int .i64 X1] 38)
          obtain ⟨xq, hxd⟩ : ∃ x, x = wq.heap.size := ⟨_, rfl⟩
          rw [← hxd] at bz ⊢
          clear hxd
          generalize wq.alloc (.cells #[.slice aq L1 cq, .int .i64 G1, .int .i64 X1] 38) = vq at *
          have HVq := Lib.hid (HBq.out.trans (b0.mono HBq.out.size))
          have HQq := Lib.hid bz
          have HSq := Lib.hid (HTq.out.old b0)
          have HSTq := Lib.hid (HBBq.out.trans (b0.mono HBBq.out.size))
          clear bz b0
          go_upto_region 20 with (go_at_call 24; refine (replay_any _ _ _ _ _ (HAL.out.old HVq.out) HML.out.symm hm20 HUS.out).mono ?_; rintro e' wr he; obtain ⟨ar, cr, rfl, hst, hok, hbb⟩ := HE2.out _ _ _ he; clear he; have HTr := Lib.hid hst; have HBr := Lib.hid (HVq.out.trans (hbb.mono HVq.out.size)); have HBBr := Lib.hid hbb; have HOKr := Lib.hid hok; clear hst hok hbb)
          have bz := SQ.new wr 38 (.slice ar L2 cr) G2 X2
          have b0 := box_bel wr (.cells #[.slice ar L2 cr, .int .i64 G2, .int .i64 X2] 38)
          obtain ⟨xr, hxd⟩ : ∃ x, x = wr.heap.size := ⟨_, rfl⟩
          rw [← hxd] at bz ⊢
          clear hxd
          generalize wr.alloc (.cells #[.slice ar L2 cr, .int .i64 G2, .int .i64 X2] 38) = vr at *
          have HVr := Lib.hid (HBr.out.trans (b0.mono HBr.out.size))
          have HQr := Lib.hid bz
          have HSr := Lib.hid (HTr.out.old b0)
          have HSTr := Lib.hid (HBBr.out.trans (b0.mono HBBr.out.size))
          clear bz b0
          go_upto_region 21 with (go_at_call 25; refine (rreplay_any _ _ _ _ _ (HAL.out.old HVr.out) HML.out.symm hm20 HUS.out).mono ?_; rintro e' ws he; obtain ⟨az, cs, rfl, hst, hok, hbb⟩ := HE2.out _ _ _ he; clear he; have HTs := Lib.hid hst; have HBs := Lib.hid (HVr.out.trans (hbb.mono HVr.out.size)); have HBBs := Lib.hid hbb; have HOKs := Lib.hid hok; clear hst hok hbb)
          have bz := SQ.new ws 38 (.slice az L2 cs) G2 X2
          have b0 := box_bel ws (.cells #[.slice az L2 cs, .int .i64 G2, .int .i64 X2] 38)
          obtain ⟨xs, hxd⟩ : ∃ x, x = ws.heap.size := ⟨_, rfl⟩
          rw [← hxd] at bz ⊢
          clear hxd
          generalize ws.alloc (.cells #[.slice az L2 cs, .int .i64 G2, .int .i64 X2] 38) = vs at *
          have HVs := Lib.hid (HBs.out.trans (b0.mono HBs.out.size))
          have HQs := Lib.hid bz
          have HSs := Lib.hid (HTs.out.old b0)
          have HSTs := Lib.hid (HBBs.out.trans (b0.mono HBBs.out.size))
          clear bz b0
          obtain ⟨⟨⟨p0, p1, p2, p3⟩, -⟩, -⟩ := ((HQp.out.keep HSTq.out HQp.out.lt).keep HSTr.out (HQp.out.keep HSTq.out HQp.out.lt).lt).keep HSTs.out ((HQp.out.keep HSTq.out HQp.out.lt).keep HSTr.out (HQp.out.keep HSTq.out HQp.out.lt).lt).lt
          obtain ⟨⟨⟨q0, q1, q2, q3⟩, -⟩, -⟩ := (HQq.out.keep HSTr.out HQq.out.lt).keep HSTs.out (HQq.out.keep HSTr.out HQq.out.lt).lt
          obtain ⟨⟨⟨r0, r1, r2, r3⟩, -⟩, -⟩ := HQr.out.keep HSTs.out HQr.out.lt
          obtain ⟨⟨⟨s0, s1, s2, s3⟩, -⟩, -⟩ := HQs.out
          have HSA := Lib.hid (samest_any (.agg #[.slice ap L1 cp, .int .i64 G1, .int .i64 X1]) (.agg #[.slice aq L1 cq, .int .i64 G1, .int .i64 X1]) _ vs ⟨ap, L1, cp, by rw [HPT.out.1, HPT.out.2.1], ((HSp.out.old HSTq.out).old HSTr.out).old HSTs.out, HOKp.out⟩ ⟨aq, L1, cq, by rw [HPT.out.1, HPT.out.2.1], (HSq.out.old HSTr.out).old HSTs.out, HOKp.out⟩)
          have HSB := Lib.hid fun (wx : World) (hx : Below vs.heap.size vs wx) => samest_any (.agg #[.slice ar L2 cr, .int .i64 G2, .int .i64 X2]) (.agg #[.slice az L2 cs, .int .i64 G2, .int .i64 X2]) _ wx ⟨ar, L2, cr, by rw [HPT.out.2.2.1, HPT.out.2.2.2], (HSr.out.old HSTs.out).old hx, HOKr.out⟩ ⟨az, L2, cs, by rw [HPT.out.2.2.1, HPT.out.2.2.2], HSs.out.old hx, HOKr.out⟩
          have HZ0 := Lib.hid (And.intro r0 (And.intro r1 (And.intro r2 (And.intro r3 (And.intro s0 (And.intro s1 (And.intro s2 s3)))))))
          clear HE1 HE2
          go_wp2_with fail
          refine HSA.out.mono ?_
          rintro e' wx ⟨rfl, hbx⟩
          have HBX := Lib.hid hbx
          have HVX := Lib.hid (HVs.out.trans (hbx.mono HVs.out.size))
          clear hbx p0 p1 p2 p3 q0 q1 q2 q3 r0 r1 r2 r3 s0 s1 s2 s3 HSA
          obtain ⟨⟨⟨r0, r1, r2, r3⟩, -⟩, -⟩ := (HQr.out.keep HSTs.out HQr.out.lt).keep HBX.out (HQr.out.keep HSTs.out HQr.out.lt).lt
          obtain ⟨⟨⟨s0, s1, s2, s3⟩, -⟩, -⟩ := HQs.out.keep HBX.out HQs.out.lt
          go_wp2_with fail
          refine (HSB.out _ HBX.out).mono ?_
          rintro e' wy ⟨rfl, hby⟩
          have HVY := Lib.hid (HVX.out.trans (hby.mono HVX.out.size))
          clear hby
          go_wp2_with fail
          refine (awake12_any wy).mono ?_
          rintro e' wz ⟨rfl, hbz⟩
          have HBZ := Lib.hid (HVY.out.trans (hbz.mono HVY.out.size))
          clear hbz
          go_wp2_with fail
          go_ret
          exact ⟨rfl, HW1.out.trans (HBZ.out.mono HW1.out.size)⟩
end Go.Proofs.Ytkpemlgolpihiaa
