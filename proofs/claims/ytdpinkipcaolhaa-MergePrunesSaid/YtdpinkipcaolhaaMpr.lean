/-
  Layer 11 (merge): the contract of the document's Prune. Conditions: texts within the reach; at most 100000 numbers.
-/
import Derived.Test.YtdpinkipcaolhaaQJ
import Derived.Test.YtdpinkipcaolhaaQL
import Derived.Deep.QuietTactic
import Derived.Deep.DeepCutAuto
namespace Go.Proofs.Ytdpinkipcaolhaa
set_option maxRecDepth 100000
open Go.RowKit
set_option linter.unusedVariables false
set_option linter.unusedSimpArgs false

theorem anyI_snoc (P : Int → Bool) (ps : List Int) (j : Nat) (h : j < ps.length) : (ps.take (j + 1)).any P = ((ps.take j).any P || P ps[j]) := by
  rw [List.take_succ_eq_append_getElem h, List.any_append]; simp
theorem allI_snoc (P : Int → Bool) (ps : List Int) (j : Nat) (h : j < ps.length) : (ps.take (j + 1)).all P = ((ps.take j).all P && P ps[j]) := by
  rw [List.take_succ_eq_append_getElem h, List.all_append]; simp
set_option maxHeartbeats 16000000 in
theorem rpru11_any (a : Option Addr) (n cap : Nat) (es : List Ent) (pa : Option Addr) (pn pc : Nat) (ps : List Int) (bottom : Bool) (w : World) (hn : n ≤ 9223372036854775807) (hl : es.length = n) (hrd : RdE w a es) (hok : okV es)
    (hpl : ps.length = pn) (hpn : pn ≤ 100000) (hpr : RdPin w pa ps) :
    Calls Try.prog 24 #[.slice a n cap, .slice pa pn pc, .bool bottom] w (P1 (if okB es = true then pruM es ps bottom else []) w) := by
  obtain ⟨i0, hi0, hz0, hz1, hz2⟩ := info_parts Try.infoEnt
  obtain ⟨b, off, ha, hb, hc⟩ := hrd.at_
  obtain ⟨pb, po, hpa, hpb, hpc⟩ := hpr.at_
  rw [hl] at ha hb
  rw [hpl] at hpa hpb
  obtain ⟨q, hq⟩ : ∃ q, okB es = q := ⟨_, rfl⟩
  have CC := Lib.hid (rchk9_any a n cap es w hn hl hrd hok q hq)
  rw [hq]
  obtain ⟨R0, hR0⟩ : ∃ R0, (if q = true then pruM es ps bottom else []) = R0 := ⟨_, rfl⟩
  rw [hR0]
  have HR0 := Lib.hid hR0
  have HC := Lib.hid hc
  have HPC := Lib.hid hpc
  have HL := Lib.hid hl
  have HPL := Lib.hid hpl
  have HQ := Lib.hid hq
  have HRD := Lib.hid hrd
  clear hc hl hq hrd hok hR0 hpc hpl hpr
  go_enter Try.func24, Try.ntmps24
  go_wp2_with fail
  refine CC.out.mono ?_
  rintro e w1 ⟨rfl, b1⟩
  have HB1 := Lib.hid b1
  clear b1
  cases q with
  | false =>
    obtain rfl : R0 = [] := HR0.out.symm.trans (by simp)
    unfold chkV
    go_wp2_with fail
    go_ret
    exact ⟨none, 0, 0, rfl, ⟨rfl, .inl rfl, Nat.le_refl _, Nat.zero_le _⟩, HB1.out⟩
  | true =>
    obtain ⟨PP, hPP⟩ : ∃ PP : Ent → Bool, PP = kepP es ps := ⟨_, rfl⟩
    obtain ⟨K, hK⟩ : ∃ K, K = es.filter PP := ⟨_, rfl⟩
    obtain ⟨QQ, hQQ⟩ : ∃ QQ : Ent → Bool, QQ = fun e => !outP K ps bottom e := ⟨_, rfl⟩
    have hR1 : R0 = K.filter QQ := HR0.out.symm.trans (by rw [hQQ, hK, hPP]; rfl)
    have HPP := Lib.hid hPP
    have HQQ := Lib.hid hQQ
    have HR1 := Lib.hid hR1
    have HK := Lib.hid hK
    have hn4 : n ≤ 4096 := by have := (okB_iff.1 HQ.out).1; have := HL.out; omega
    have HPW := Lib.hid (okB_pw HQ.out)
    clear hPP hQQ hR1 hK
    unfold chkV
    go_wp2_with fail
    go_loopw [7, 8] (fun v i wr => ∃ (k m : Nat), i = .int .i64 k ∧ k ≤ n ∧ m ≤ k ∧ Hid (m = ((es.take k).filter PP).length ∧ wr.ownsRow w1.heap.size 37 4 v m (ev4 ((es.take k).filter PP))) ∧ Hid (Below w1.heap.size w1 wr)) (fun _ i _ => n - (intOf i).toNat)
    case atStart => exact ⟨0, 0, rfl, by omega, by omega, Lib.hid ⟨rfl, World.ownsRow_nil _ _ _ _⟩, Lib.hid (Below.refl _ _)⟩
    case round =>
      rename World => wo
      obtain ⟨k, m, rfl, hk, hm, HM, HW⟩ := hrel
      have hws : w1.heap.size ≤ wo.heap.size := HW.out.size
      by_cases hlt : k < n
      · have hki : (k : Int) < (n : Int) := by omega
        obtain rfl := ha (by omega)
        have hbw := hb (by omega)
        have hkl : k < es.length := by rw [HL.out]; exact hlt
        have hbel : Below w.heap.size w wo := HB1.out.trans (HW.out.mono HB1.out.size)
        have HBE := Lib.hid hbel
        have HAT := Lib.hid (HC.out.old hbw hbel)
        obtain ⟨g0, g1, g2, g3⟩ := HAT.out k hkl
        have hbr : b < wo.heap.size := Nat.lt_of_lt_of_le hbw hbel.size
        have HT := Lib.hid (max_at HPW.out hkl)
        have HTQ := Lib.hid fun at_ => first_top HPW.out (at_ := at_) hkl
        have hs := sin_snoc PP (es.take k) es[k]
        rw [← List.take_succ_eq_append_getElem hkl] at hs
        obtain ⟨E, hE⟩ : ∃ E, E = es[k] := ⟨_, rfl⟩
        rw [← hE] at g0 g1 g2 g3 hs HT HTQ
        obtain ⟨ek, evl, eg, eq⟩ := E
        obtain ⟨t0, ht0⟩ : ∃ t, maxM es (ek, evl, eg, eq) = t := ⟨_, rfl⟩
        have HPE : Hid (PP (ek, evl, eg, eq) = (t0 || ps.any fun p => topM es p (ek, evl, eg, eq))) := Lib.hid (by rw [HPP.out, ← ht0]; rfl)
        have HS := Lib.hid hs
        have hma : (k = 0 ∧ t0 = true ∨ ∃ (pk : ByteArray), 0 < k ∧ wo.cell? ⟨b, off + (k - 1) * 4, none⟩ = some (.string pk) ∧ (pk.toList == ek.toList) = !t0) := by
          by_cases h0 : k = 0
          · exact .inl ⟨h0, ht0.symm.trans (HT.out.2 (.inl h0))⟩
          · refine .inr ⟨es[k - 1].1, by omega, (HAT.out (k - 1) (by omega)).1, ?_⟩
            by_cases he : es[k - 1].1 = ek
            · have : t0 = false := by
                cases t0 with
                | false => rfl
                | true =>
                  rcases HT.out.1 ht0 with h | ⟨h1, h2⟩
                  · exact absurd h h0
                  · exact absurd he h2
              subst this
              rw [he]; simp
            · have : t0 = true := ht0.symm.trans (HT.out.2 (.inr ⟨by omega, he⟩))
              subst this
              rw [str_ne he]; rfl
        clear hE hs hbel ht0 HT
        go_upto_region 7 with fail
        go_cut [9] (fun s9 wx => s9 = .bool t0 ∧ ∃ d, wx = wo.drewN d)
        case first =>
          rcases hma with ⟨hk0, rfl⟩ | ⟨pk, hk0, hpk, hpe⟩
          · have hkz : ((k : Int) == 0) = true := by subst hk0; rfl
            clear hk0
            go_wp2_with fail
            go_quiet (fail)
            go_wp2_with fail
            go_meet
            case rel => exact ⟨rfl, _, rfl⟩
          · obtain ⟨j, hj⟩ : ∃ j, k - 1 = j := ⟨_, rfl⟩
            rw [hj] at hpk
            have hkj : (k : Int) - 1 = (j : Int) := by omega
            have hjw : IntKind.i64.wrap (j : Int) = (j : Int) := i64_wrap_nat j (by omega)
            have hkz : ((k : Int) == 0) = false := by rw [beq_eq_false_iff_ne]; omega
            have hjn : (j : Int) < (n : Int) := by omega
            clear hj hk0
            cases t0
            all_goals
              go_wp2_with fail
              go_quiet (fail)
              go_wp2_with fail
              go_meet
              case rel => exact ⟨rfl, _, rfl⟩
        case rest =>
          obtain ⟨rfl, d, rfl⟩ := hcut
          clear hma
          have HD := Lib.hid (below_drewN (Below.refl wo.heap.size wo) d)
          generalize wo.drewN d = wd at *
          go_wp2_with fail
          go_loopw [9, 10] (fun s9 s10 wr => ∃ (j : Nat) (c : Bool), s10 = .int .i64 j ∧ j ≤ pn ∧ s9 = .bool c ∧ Hid (c = (t0 || (ps.take j).any fun p => topM es p (ek, evl, eg, eq))) ∧ Hid (Below wo.heap.size wo wr)) (fun _ i _ => pn - (intOf i).toNat)
          case atStart => exact ⟨0, t0, rfl, by omega, rfl, Lib.hid (by simp), HD⟩
          case round =>
            clear HD
            obtain ⟨j, c, rfl, hj, rfl, HCJ, HWK⟩ := hrel
            have HBK := Lib.hid (HW.out.trans (HWK.out.mono hws))
            have HBO := Lib.hid (HBE.out.trans (HWK.out.mono (by have := HBE.out.size; omega)))
            have f0 := (HWK.out.cell (p := ⟨b, off + k * 4, none⟩) hbr).trans g0
            have hbk : b < wr.heap.size := Nat.lt_of_lt_of_le hbr HWK.out.size
            by_cases hjl : j < pn
            · have hji : (j : Int) < (pn : Int) := by omega
              have hjs : j < ps.length := by rw [HPL.out]; exact hjl
              have HSN := Lib.hid (anyI_snoc (fun p => topM es p (ek, evl, eg, eq)) ps j hjs)
              cases c with
              | true =>
                have HN : Hid (true = (t0 || (ps.take (j + 1)).any fun p => topM es p (ek, evl, eg, eq))) := Lib.hid (by rw [HSN.out, ← Bool.or_assoc, ← HCJ.out]; rfl)
                go_wp2_with fail
                go_quiet (fail)
                go_wp2_with fail
                go_roundw
                case rel => exact ⟨j + 1, true, by go_num, by omega, rfl, HN, Lib.hid (below_drewN HWK.out _)⟩
                case measure => simp [intOf]; omega
              | false =>
                obtain rfl := hpa (by omega)
                have hpb0 := hpb (by omega)
                have p0 := (HPC.out.old hpb0 HBO.out) j hjs
                have hpk : pb < wr.heap.size := Nat.lt_of_lt_of_le hpb0 HBO.out.size
                have HTJ := Lib.hid (HTQ.out ps[j])
                obtain ⟨p, hp⟩ : ∃ p, p = ps[j] := ⟨_, rfl⟩
                rw [← hp] at p0 HSN HTJ
                obtain ⟨fi, hfi⟩ : ∃ fi, firstI es ek p = fi := ⟨_, rfl⟩
                have CF := Lib.hid fun (wx : World) (hx : Below wr.heap.size wr wx) => rfirst11_any (some ⟨b, off, none⟩) n cap es ek p wx (by omega) HL.out (HRD.out.old (HBO.out.trans (hx.mono (by have := HBO.out.size; omega))))
                rw [hfi] at CF HTJ
                obtain ⟨x, hx⟩ : ∃ x, (fi == (k : Int)) = x := ⟨_, rfl⟩
                have HN : Hid (x = (t0 || (ps.take (j + 1)).any fun p => topM es p (ek, evl, eg, eq))) := Lib.hid (by
                  rw [HSN.out, ← Bool.or_assoc, ← HCJ.out, Bool.false_or, ← hx, Bool.eq_iff_iff, beq_iff_eq]; exact HTJ.out)
                clear hp hfi HSN HTJ HTQ
                cases x
                all_goals
                  go_wp2_with fail
                  refine wp_region_below (by kernel_rfl) (by kernel_rfl) ?_
                  repeat (first
                    | go_big_quiet_skip
                    | (go_big_quiet_want
                       first
                       | (refine BigFrame.quiet_move _ rfl ?_)
                       | (refine BigFrame.quiet_assign _ rfl ?_)
                       | (unfold Oper.quiet
                          apply Exists.intro
                          refine ⟨fun w' hw' => ?_, ?_⟩
                          · (obtain ⟨hc', hf'⟩ := bcell hw'
                             go_simp
                             first
                             | done
                             | exact rfl
                             | (go_at_call 35; (with_reducible refine (CF.out _ hw').mono ?_); rintro e w'' ⟨rfl, bb⟩; exact ⟨rfl, by first | exact bt hw' bb | simpa using bt hw' bb⟩)))
                       go_big_quiet_on
                       simp only [Act.put, Act.eval, List.setIfInBounds_toArray, List.set_cons_zero, List.set_cons_succ, Array.getD_eq_getD_getElem?, List.getElem?_toArray, List.getElem?_cons_zero, List.getElem?_cons_succ, Option.getD_some]))
                  refine wpQuiet_nil ?_
                  intro w' hw'
                  have HW' := Lib.hid (HWK.out.trans (hw'.mono HWK.out.size))
                  clear hw'
                  go_wp2_with fail
                  go_roundw
                  case rel => exact ⟨j + 1, _, by go_num, by omega, rfl, HN, HW'⟩
                  case measure => simp [intOf]; omega
            · obtain rfl : j = pn := by omega
              have hce : c = PP (ek, evl, eg, eq) := by rw [HPE.out, HCJ.out, ← HPL.out, List.take_length]
              have HCE := Lib.hid hce
              have HM1 := Lib.hid HM.out.1
              have HO1 := Lib.hid (below_own HM.out.2 HWK.out)
              have f1 := (HWK.out.cell (p := ⟨b, off + k * 4 + 1, none⟩) hbr).trans g1
              have f2 := (HWK.out.cell (p := ⟨b, off + k * 4 + 2, none⟩) hbr).trans g2
              have f3 := (HWK.out.cell (p := ⟨b, off + k * 4 + 3, none⟩) hbr).trans g3
              have hwk : w1.heap.size ≤ wr.heap.size := HBK.out.size
              clear hce HPE HCJ HM g0 g1 g2 g3 HTQ
              cases c with
              | true =>
                have HN := Lib.hid (show (es.take (k + 1)).filter PP = (es.take k).filter PP ++ [(ek, evl, eg, eq)] by rw [HS.out, ← HCE.out]; simp)
                go_wp2_with (at_builtin; generalize hG : wpList _ _ _ _ _ _ = G)
                rw [← hG]
                clear hG
                have o1 := HO1.out.alloc (.cells #[.string ek, .string evl, .bool eg, .int .i64 eq] 37)
                refine wpList_append_own _ rfl (.tmp 63) (.tmp 68) 22 rfl w1.heap.size 37 i0 (.agg #[.string ⟨#[]⟩, .string ⟨#[]⟩, .bool false, .int .i64 0]) 4 48 Try.underlying22 hi0 hz0 hz1 hz2 rfl (by decide) _ _ _ rfl o1 ⟨wr.heap.size, 0, none⟩ 1 1 (ev (ek, evl, eg, eq)) rfl rfl ?c1 ?c2 ?c3 ?c4 ?c5 ?_
                case c1 => exact cell_new4 _ _ _ _ _ _
                case c2 => intro u hu; simp [ev] at hu; rcases hu with rfl | rfl | rfl | rfl <;> rfl
                case c3 => unfold maxLen; omega
                case c4 => omega
                case c5 => simp [go_sem]; omega
                intro v' w3 hown3 hgrow _
                have HB3 := Lib.hid (HBK.out.trans (((Below.refl w1.heap.size wr).alloc hwk _).grown hgrow (by simp [go_sem]; omega) (fun k hk => (HO1.out.lt k hk).1)))
                rw [ev4_snoc, ← HN.out] at hown3
                have HR3 := Lib.hid (And.intro (show m + 1 = ((es.take (k + 1)).filter PP).length by rw [HN.out, List.length_append, ← HM1.out]; rfl) hown3)
                clear hown3 hgrow
                go_wp2_with fail
                go_roundw
                case rel => exact ⟨k + 1, m + 1, by go_num, by omega, by omega, HR3, HB3⟩
                case measure => simp [intOf]; omega
              | false =>
                have HN := Lib.hid (show (es.take (k + 1)).filter PP = (es.take k).filter PP by rw [HS.out, ← HCE.out]; simp)
                go_wp2_with fail
                go_roundw
                case rel => exact ⟨k + 1, m, by go_num, by omega, by omega, Lib.hid ⟨by rw [HN.out]; exact HM1.out, by rw [HN.out]; exact HO1.out⟩, HBK⟩
                case measure => simp [intOf]; omega
      · obtain rfl : k = n := by omega
        have HE := HM.out
        rw [← HL.out, List.take_length, ← HK.out] at HE
        obtain ⟨ka, kc, rfl, hse⟩ := own_se HE.2 (by rw [← HE.1])
        have hml : m = K.length := HE.1
        have hkn : K.length ≤ 4096 := by have := List.length_filter_le PP es; rw [← HK.out] at this; have := HL.out; omega
        have hkw : PW K := by rw [HK.out]; exact HPW.out.sublist List.filter_sublist
        have HKW := Lib.hid hkw
        have HSK := Lib.hid hse
        have HML := Lib.hid hml
        have hmn : m ≤ 4096 := by omega
        clear HE HM hse hml hkn hkw
        go_wp2_with fail
        go_loopw [11, 12] (fun v i wr => ∃ (k r : Nat), i = .int .i64 k ∧ k ≤ m ∧ r ≤ k ∧ Hid (r = ((K.take k).filter QQ).length ∧ wr.ownsRow wo.heap.size 37 4 v r (ev4 ((K.take k).filter QQ))) ∧ Hid (Below wo.heap.size wo wr)) (fun _ i _ => m - (intOf i).toNat)
        case atStart => exact ⟨0, 0, rfl, by omega, by omega, Lib.hid ⟨rfl, World.ownsRow_nil _ _ _ _⟩, Lib.hid (Below.refl _ _)⟩
        case round =>
          obtain ⟨pbk, pok, hka, hkb, hkc⟩ := HSK.out.2.1.at_
          rw [HSK.out.1] at hka hkb
          have HKC := Lib.hid hkc
          clear hkc
          rename World => wp
          obtain ⟨k2, r, rfl, hk2, hr, HM2, HW2⟩ := hrel
          have hws2 : wo.heap.size ≤ wp.heap.size := HW2.out.size
          by_cases hlt2 : k2 < m
          · have hki2 : (k2 : Int) < (m : Int) := by omega
            obtain rfl := hka (by omega)
            have hbo := hkb (by omega)
            have hkl2 : k2 < K.length := by rw [← HML.out]; exact hlt2
            have HAT := Lib.hid (HKC.out.old hbo HW2.out)
            obtain ⟨g0, g1, g2, g3⟩ := HAT.out k2 hkl2
            have hbr : pbk < wp.heap.size := Nat.lt_of_lt_of_le hbo hws2
            have HT := Lib.hid (lst_at HKW.out hkl2)
            have hs := sin_snoc QQ (K.take k2) K[k2]
            rw [← List.take_succ_eq_append_getElem hkl2] at hs
            obtain ⟨E, hE⟩ : ∃ E, E = K[k2] := ⟨_, rfl⟩
            have hnx : k2 + 1 < m → ∃ nk : ByteArray, wp.cell? ⟨pbk, pok + (k2 + 1) * 4, none⟩ = some (.string nk) ∧ (nk.toList == E.1.toList) = !lstM K E := fun h1 => by
              have h1' : k2 + 1 < K.length := by rw [← HML.out]; exact h1
              refine ⟨K[k2 + 1].1, (HAT.out (k2 + 1) h1').1, ?_⟩
              rw [← hE] at HT
              cases hl : lstM K E with
              | true =>
                rcases HT.out.1 hl with h | ⟨h2, h3⟩
                · omega
                · exact str_ne h3
              | false =>
                by_cases he : K[k2 + 1].1 = E.1
                · rw [he]; simp
                · have := HT.out.2 (.inr ⟨h1', he⟩)
                  rw [hl] at this; cases this
            have hlast : k2 + 1 = m → lstM K E = true := fun h1 => by rw [hE]; exact HT.out.2 (.inl (by rw [← HML.out]; exact h1))
            rw [← hE] at g0 g1 g2 g3 hs
            obtain ⟨ek, evl, eg, eq⟩ := E
            obtain ⟨l0, hl0⟩ : ∃ l, lstM K (ek, evl, eg, eq) = l := ⟨_, rfl⟩
            rw [hl0] at hnx hlast
            obtain ⟨t0, ht0⟩ : ∃ t, t = (bottom && eg && l0) := ⟨_, rfl⟩
            have HPE : Hid (QQ (ek, evl, eg, eq) = !(t0 && ps.all fun p => decide (eq ≤ p))) := Lib.hid (by rw [HQQ.out, ht0, ← hl0]; rfl)
            have HS := Lib.hid hs
            have HT0 := Lib.hid ht0
            have HNX := Lib.hid hnx
            have HLA := Lib.hid hlast
            clear hE hs hl0 HT ht0 hnx hlast
            go_upto_region 18 with fail
            go_cut [13] (fun s9 wx => s9 = .bool t0 ∧ ∃ d, wx = wp.drewN d)
            case first =>
              cases bottom with
              | false =>
                obtain rfl : t0 = false := HT0.out
                go_wp2_with fail
                go_quiet (fail)
                go_wp2_with fail
                go_meet
                case rel => exact ⟨rfl, _, rfl⟩
              | true =>
                cases eg with
                | false =>
                  obtain rfl : t0 = false := HT0.out
                  go_wp2_with fail
                  go_quiet (fail)
                  go_wp2_with fail
                  go_meet
                  case rel => exact ⟨rfl, _, rfl⟩
                | true =>
                  have hx1 : IntKind.i64.wrap ((k2 : Int) + 1) = (k2 : Int) + 1 := by rw [IntKind.wrap_i64]; omega
                  have hx2 : ((k2 : Int) + 1).toNat = k2 + 1 := by omega
                  have hx3 : (0 : Int) ≤ (k2 : Int) + 1 := by omega
                  by_cases hlm : k2 + 1 = m
                  · obtain rfl : t0 = true := by rw [HT0.out, HLA.out hlm]; rfl
                    have hlz : ((k2 : Int) + 1 == (m : Int)) = true := by rw [beq_iff_eq]; omega
                    clear hlm
                    go_wp2_with fail
                    go_quiet (fail)
                    go_wp2_with fail
                    go_meet
                    case rel => exact ⟨rfl, _, rfl⟩
                  · have hlz : ((k2 : Int) + 1 == (m : Int)) = false := by rw [beq_eq_false_iff_ne]; omega
                    have hlz2 : (k2 : Int) + 1 < (m : Int) := by omega
                    obtain ⟨nk, n0, n1⟩ := HNX.out (by omega)
                    obtain rfl : t0 = l0 := by rw [HT0.out]; rfl
                    clear hlm
                    cases t0
                    all_goals
                      go_wp2_with fail
                      go_quiet (fail)
                      go_wp2_with fail
                      go_meet
                      case rel => exact ⟨rfl, _, rfl⟩
            case rest =>
              obtain ⟨rfl, d, rfl⟩ := hcut
              have HD := Lib.hid (below_drewN (Below.refl wp.heap.size wp) d)
              generalize wp.drewN d = wd at *
              clear HNX HLA HT0
              go_wp2_with fail
              go_loopw [13, 14] (fun s9 s10 wr => ∃ (j : Nat) (c : Bool), s10 = .int .i64 j ∧ j ≤ pn ∧ s9 = .bool c ∧ Hid (c = (t0 && (ps.take j).all fun p => decide (eq ≤ p))) ∧ Hid (Below wp.heap.size wp wr)) (fun _ i _ => pn - (intOf i).toNat)
              case atStart => exact ⟨0, t0, rfl, by omega, rfl, Lib.hid (by simp), HD⟩
              case round =>
                clear HD
                obtain ⟨j, c, rfl, hj, rfl, HCJ, HWK⟩ := hrel
                have HBK := Lib.hid (HW2.out.trans (HWK.out.mono hws2))
                have f3 := (HWK.out.cell (p := ⟨pbk, pok + k2 * 4 + 3, none⟩) hbr).trans g3
                have hbk : pbk < wr.heap.size := Nat.lt_of_lt_of_le hbr HWK.out.size
                by_cases hjl : j < pn
                · have hji : (j : Int) < (pn : Int) := by omega
                  have hjs : j < ps.length := by rw [HPL.out]; exact hjl
                  have HSN := Lib.hid (allI_snoc (fun p => decide (eq ≤ p)) ps j hjs)
                  cases c with
                  | false =>
                    have HN : Hid (false = (t0 && (ps.take (j + 1)).all fun p => decide (eq ≤ p))) := Lib.hid (by rw [HSN.out, ← Bool.and_assoc, ← HCJ.out]; rfl)
                    go_wp2_with fail
                    go_quiet (fail)
                    go_wp2_with fail
                    go_roundw
                    case rel => exact ⟨j + 1, false, by go_num, by omega, rfl, HN, Lib.hid (below_drewN HWK.out _)⟩
                    case measure => simp [intOf]; omega
                  | true =>
                    obtain rfl := hpa (by omega)
                    have hpb0 := hpb (by omega)
                    have hBO : Below w.heap.size w wr := HB1.out.trans ((HW.out.trans (HBK.out.mono HW.out.size)).mono HB1.out.size)
                    have p0 := (HPC.out.old hpb0 hBO) j hjs
                    have hpk : pb < wr.heap.size := Nat.lt_of_lt_of_le hpb0 hBO.size
                    obtain ⟨p, hp⟩ : ∃ p, p = ps[j] := ⟨_, rfl⟩
                    rw [← hp] at p0 HSN
                    obtain ⟨x, hx⟩ : ∃ x, decide (eq ≤ p) = x := ⟨_, rfl⟩
                    have HN : Hid (x = (t0 && (ps.take (j + 1)).all fun p => decide (eq ≤ p))) := Lib.hid (by
                      rw [HSN.out, ← Bool.and_assoc, ← HCJ.out, Bool.true_and, ← hx])
                    clear hp HSN hBO
                    cases x
                    all_goals
                      go_wp2_with fail
                      go_quiet (fail)
                      go_wp2_with fail
                      go_roundw
                      case rel => exact ⟨j + 1, _, by go_num, by omega, rfl, HN, Lib.hid (below_drewN HWK.out _)⟩
                      case measure => simp [intOf]; omega
                · obtain rfl : j = pn := by omega
                  have hce : c = !QQ (ek, evl, eg, eq) := by rw [HPE.out, HCJ.out, ← HPL.out, List.take_length, Bool.not_not]
                  have HCE := Lib.hid hce
                  have HM1 := Lib.hid HM2.out.1
                  have HO1 := Lib.hid (below_own HM2.out.2 HWK.out)
                  have f0 := (HWK.out.cell (p := ⟨pbk, pok + k2 * 4, none⟩) hbr).trans g0
                  have f1 := (HWK.out.cell (p := ⟨pbk, pok + k2 * 4 + 1, none⟩) hbr).trans g1
                  have f2 := (HWK.out.cell (p := ⟨pbk, pok + k2 * 4 + 2, none⟩) hbr).trans g2
                  have hwk : wo.heap.size ≤ wr.heap.size := HBK.out.size
                  clear hce HPE HCJ HM2 g0 g1 g2 g3
                  cases c with
                  | false =>
                    have HN := Lib.hid (show (K.take (k2 + 1)).filter QQ = (K.take k2).filter QQ ++ [(ek, evl, eg, eq)] by
                      rw [HS.out]
                      have := HCE.out
                      cases hq : QQ (ek, evl, eg, eq) with
                      | true => simp
                      | false => rw [hq] at this; cases this)
                    go_wp2_with (at_builtin; generalize hG : wpList _ _ _ _ _ _ = G)
                    rw [← hG]
                    clear hG
                    have o1 := HO1.out.alloc (.cells #[.string ek, .string evl, .bool eg, .int .i64 eq] 37)
                    refine wpList_append_own _ rfl (.tmp 126) (.tmp 131) 22 rfl wo.heap.size 37 i0 (.agg #[.string ⟨#[]⟩, .string ⟨#[]⟩, .bool false, .int .i64 0]) 4 48 Try.underlying22 hi0 hz0 hz1 hz2 rfl (by decide) _ _ _ rfl o1 ⟨wr.heap.size, 0, none⟩ 1 1 (ev (ek, evl, eg, eq)) rfl rfl ?d1 ?d2 ?d3 ?d4 ?d5 ?_
                    case d1 => exact cell_new4 _ _ _ _ _ _
                    case d2 => intro u hu; simp [ev] at hu; rcases hu with rfl | rfl | rfl | rfl <;> rfl
                    case d3 => unfold maxLen; omega
                    case d4 => omega
                    case d5 => simp [go_sem]; omega
                    intro v' w3 hown3 hgrow _
                    have HB3 := Lib.hid (HBK.out.trans (((Below.refl wo.heap.size wr).alloc hwk _).grown hgrow (by simp [go_sem]; omega) (fun k hk => (HO1.out.lt k hk).1)))
                    rw [ev4_snoc, ← HN.out] at hown3
                    have HR3 := Lib.hid (And.intro (show r + 1 = ((K.take (k2 + 1)).filter QQ).length by rw [HN.out, List.length_append, ← HM1.out]; rfl) hown3)
                    clear hown3 hgrow
                    go_wp2_with fail
                    go_roundw
                    case rel => exact ⟨k2 + 1, r + 1, by go_num, by omega, by omega, HR3, HB3⟩
                    case measure => simp [intOf]; omega
                  | true =>
                    have HN := Lib.hid (show (K.take (k2 + 1)).filter QQ = (K.take k2).filter QQ by
                      rw [HS.out]
                      have := HCE.out
                      cases hq : QQ (ek, evl, eg, eq) with
                      | false => simp
                      | true => rw [hq] at this; cases this)
                    go_wp2_with fail
                    go_roundw
                    case rel => exact ⟨k2 + 1, r, by go_num, by omega, by omega, Lib.hid ⟨by rw [HN.out]; exact HM1.out, by rw [HN.out]; exact HO1.out⟩, HBK⟩
                    case measure => simp [intOf]; omega
          · obtain rfl : k2 = m := by omega
            have HE2 := HM2.out
            have hke : K.take k2 = K := by rw [HML.out]; exact List.take_length
            rw [hke, ← HR1.out] at HE2
            obtain ⟨a', cap', rfl, hsp⟩ := own_se HE2.2 (by rw [← HE2.1])
            have HSP := Lib.hid hsp
            clear HE2 HM2 hsp
            go_wp2_with fail
            go_ret
            exact ⟨a', _, cap', rfl, HSP.out, HB1.out.trans ((HW.out.trans (HW2.out.mono HW.out.size)).mono HB1.out.size)⟩
end Go.Proofs.Ytdpinkipcaolhaa
