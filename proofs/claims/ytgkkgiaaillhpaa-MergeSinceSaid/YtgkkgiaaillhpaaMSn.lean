/-
  Layer 11 (merge): the walk of the law MergeSince. Conditions: a list that came in.
-/
import Derived.Test.YtgkkgiaaillhpaaMr
import Derived.Deep.QuietTactic
namespace Go.Proofs.Ytgkkgiaaillhpaa
set_option maxRecDepth 100000
open Go.RowKit
set_option linter.unusedVariables false
set_option linter.unusedSimpArgs false

set_option maxHeartbeats 64000000 in
theorem walk_MergeSince (a : Option Addr) (cap : Nat) (es : List Ent) (at_ : Int) (hat : (Lit.int .i64 at_).wf = true) (w : World) (h : SE w a es.length cap es) (hok : okV es) :
    Calls Try.prog 9 #[.slice a es.length cap, .int .i64 at_] w fun e w' => e = .returned (.bool true) ∧ Below w.heap.size w w' := by
  obtain ⟨i0, hi0, hz0, hz1, hz2⟩ := info_parts Try.infoPair
  obtain ⟨n, hn⟩ : ∃ n, n = es.length := ⟨_, rfl⟩
  rw [← hn] at h ⊢
  have hm63 : n ≤ 9223372036854775807 := by have := h.2.2.1; have := h.2.2.2; unfold maxLen at this; omega
  have HLi := Lib.hid fun r hr => light_any a n cap es w hm63 hn.symm h.2.1 hok r hr
  have HA := Lib.hid fun w => awake11_any w
  have HS := Lib.hid h
  have HOK := Lib.hid hok
  clear h hok hat
  cases hb : liteB es with
  | false =>
    have HL0 := Lib.hid (HLi.out false hb)
    clear HLi hb hn
    go_enter Try.func9, Try.ntmps9
    go_wp2_with fail
    refine HL0.out.mono ?_
    rintro e w1 ⟨rfl, b1⟩
    have HW1 := Lib.hid b1
    clear b1
    go_wp2_with fail
    refine (HA.out _).mono ?_
    rintro e w2 ⟨rfl, b2⟩
    have HW2 := Lib.hid (HW1.out.trans (b2.mono HW1.out.size))
    clear b2
    go_wp2
    go_ret
    exact ⟨rfl, HW2.out⟩
  | true =>
    have HL0 := Lib.hid (HLi.out true hb)
    have hn60 : n ≤ 60 := by rw [hn]; exact (lite_yes hb).1
    obtain ⟨hmk, hml⟩ := madeT_ok es (lite_yes hb).1
    have hmo := madeT_okV HOK.out
    have HM := Lib.hid fun (wx : World) (hx : Below w.heap.size w wx) => madeT_any a n cap es wx hn60 hn.symm (HS.out.2.1.old hx) HOK.out
    obtain ⟨ms, hms⟩ : ∃ ms, ms = madeT es := ⟨_, rfl⟩
    rw [← hms] at HM hmk hml hmo
    obtain ⟨L1, hL1⟩ : ∃ L, visL ms at_ = L := ⟨_, rfl⟩
    obtain ⟨L2, hL2⟩ : ∃ L, sinL ms at_ = L := ⟨_, rfl⟩
    obtain ⟨T, hT⟩ : ∃ L, visL ms 1099511627776 = L := ⟨_, rfl⟩
    have hall : mrgW L1 L2 = T := by
      rw [← hL1, ← hL2, ← hT]
      unfold visL sinL
      rw [if_pos hmk, if_pos hmk, if_pos hmk]
      refine mrg_all at_ 1099511627776 _ ms (Nat.le_refl _) (okB_pw hmk) fun e he => ?_
      have := okB_may hmk e he
      obtain ⟨k, v, g, q⟩ := e
      obtain ⟨-, -, -, -, h5⟩ := may_iff.1 this
      show q ≤ 1099511627776
      omega
    obtain ⟨nw, hnw⟩ : ∃ m, L1.length = m := ⟨_, rfl⟩
    obtain ⟨ns, hns⟩ : ∃ m, L2.length = m := ⟨_, rfl⟩
    obtain ⟨nt, hnt⟩ : ∃ m, T.length = m := ⟨_, rfl⟩
    have hb1 : nw ≤ 60 := by rw [← hnw, ← hL1]; have := visL_le ms at_; omega
    have hb2 : ns ≤ 60 := by rw [← hns, ← hL2]; have := sinL_le ms at_; omega
    have hb3 : nt ≤ 60 := by rw [← hnt, ← hT]; have := visL_le ms 1099511627776; omega
    have HML := Lib.hid (And.intro hml hmo)
    have HQ := Lib.hid (And.intro hL1 (And.intro hL2 (And.intro hT (And.intro hnw (And.intro hns (And.intro hnt hall))))))
    clear HLi hb hn hmk hml hmo hms hL1 hL2 hT hnw hns hnt hall
    go_enter Try.func9, Try.ntmps9
    go_wp2_with fail
    refine HL0.out.mono ?_
    rintro e w1 ⟨rfl, b1⟩
    have HW1 := Lib.hid b1
    clear b1
    go_wp2_with fail
    refine (HM.out _ HW1.out).mono ?_
    rintro e w2 ⟨ma, mn, mc, rfl, hs2, b2⟩
    have HW2 := Lib.hid (HW1.out.trans (b2.mono HW1.out.size))
    have hmn : mn ≤ 60 := by rw [← hs2.1]; exact HML.out.1
    have HV1 := Lib.hid fun (wx : World) (hx : Below w2.heap.size w2 wx) => vis_at ma mn mc ms at_ L1 nw HQ.out.1 HQ.out.2.2.2.1 wx (by omega) (hs2.old hx) HML.out.2
    have HV2 := Lib.hid fun (wx : World) (hx : Below w2.heap.size w2 wx) => sin_at ma mn mc ms at_ L2 ns HQ.out.2.1 HQ.out.2.2.2.2.1 wx (by omega) (hs2.old hx) HML.out.2
    have HV3 := Lib.hid fun (wx : World) (hx : Below w2.heap.size w2 wx) => vis_at ma mn mc ms 1099511627776 T nt HQ.out.2.2.1 HQ.out.2.2.2.2.2.1 wx (by omega) (hs2.old hx) HML.out.2
    clear b2 hs2 HM HW1 HL0 HS HOK HML hmn
    go_wp2_with fail
    refine (HV1.out _ (Below.refl _ _)).mono ?_
    rintro e w3 ⟨pa, pc, rfl, rp, b3⟩
    have HW3 := Lib.hid b3
    have HP3 := Lib.hid rp
    clear b3 rp
    go_wp2_with fail
    refine (HV2.out _ HW3.out).mono ?_
    rintro e w4 ⟨sa, sc, rfl, rs, b4⟩
    have HW4 := Lib.hid (HW3.out.trans (b4.mono HW3.out.size))
    obtain ⟨pb, po, hpa, hpb, hpc⟩ := (HP3.out.old b4).at_
    obtain ⟨sb, so, hsa, hsb, hsc⟩ := rs.at_
    rw [HQ.out.2.2.2.1] at hpa hpb
    rw [HQ.out.2.2.2.2.1] at hsa hsb
    have HPC := Lib.hid hpc
    have HSC := Lib.hid hsc
    clear b4 rs HP3 HW3 hpc hsc
    go_wp2_with fail
    go_loopw [8, 9, 10] (fun v kk ii wr => ∃ (i k m : Nat) (D : List Par), ii = .int .i64 i ∧ kk = .int .i64 k ∧ i ≤ nw ∧ k ≤ ns ∧ m ≤ i + k ∧ Hid (m = D.length ∧ wr.ownsRow w4.heap.size 49 2 v m (pv2 D)) ∧ Hid (D ++ mrgW (L1.drop i) (L2.drop k) = T) ∧ Hid (Below w4.heap.size w4 wr)) (fun _ kk ii _ => (nw - (intOf ii).toNat) + (ns - (intOf kk).toNat))
    case atStart => exact ⟨0, 0, 0, [], rfl, rfl, by omega, by omega, by omega, Lib.hid ⟨rfl, World.ownsRow_nil _ _ _ _⟩, Lib.hid (by simpa using HQ.out.2.2.2.2.2.2), Lib.hid (Below.refl _ _)⟩
    case round =>
      obtain ⟨i, k, m, D, rfl, rfl, hiw, hks, hm, HD, HT, HW⟩ := hrel
      have hws : w4.heap.size ≤ wr.heap.size := HW.out.size
      by_cases hk : k < ns
      · have hki : (k : Int) < (ns : Int) := by omega
        have hkl : k < L2.length := by rw [HQ.out.2.2.2.2.1]; exact hk
        obtain rfl := hsa (by omega)
        have hsb4 := hsb (by omega)
        obtain ⟨s0, s1, s2, s3⟩ := HSC.out k hkl
        have s0 := (HW.out.cell (p := ⟨sb, so + k * 4, none⟩) hsb4).trans s0
        have s1 := (HW.out.cell (p := ⟨sb, so + k * 4 + 1, none⟩) hsb4).trans s1
        have s2 := (HW.out.cell (p := ⟨sb, so + k * 4 + 2, none⟩) hsb4).trans s2
        have hsr : sb < wr.heap.size := Nat.lt_of_lt_of_le hsb4 hws
        have HKD := Lib.hid (List.drop_eq_getElem_cons hkl)
        obtain ⟨S, hS⟩ : ∃ S, S = L2[k] := ⟨_, rfl⟩
        rw [← hS] at s0 s1 s2 HKD
        obtain ⟨sk, sv, sg, sq⟩ := S
        clear hS s3
        by_cases hiw2 : i < nw
        · have hii : (i : Int) < (nw : Int) := by omega
          have hil : i < L1.length := by rw [HQ.out.2.2.2.1]; exact hiw2
          obtain rfl := hpa (by omega)
          have hpb4 := hpb (by omega)
          obtain ⟨p0, p1⟩ := HPC.out i hil
          have p0 := (HW.out.cell (p := ⟨pb, po + i * 2, none⟩) hpb4).trans p0
          have p1 := (HW.out.cell (p := ⟨pb, po + i * 2 + 1, none⟩) hpb4).trans p1
          have hpr : pb < wr.heap.size := Nat.lt_of_lt_of_le hpb4 hws
          have HID := Lib.hid (List.drop_eq_getElem_cons hil)
          obtain ⟨P, hP⟩ : ∃ P, P = L1[i] := ⟨_, rfl⟩
          rw [← hP] at p0 p1 HID
          obtain ⟨pk, pv0⟩ := P
          clear hP
          have hine : ((i : Int) == (nw : Int)) = false := by rw [beq_eq_false_iff_ne]; omega
          cases hlt : Op.bytesLess sk.toList pk.toList with
          | true =>
            have hltB : ltB sk pk = true := hlt
            have hne : ¬ pk = sk := fun e => by rw [e, ltB_self] at hltB; cases hltB
            have hnb : (pk.toList == sk.toList) = false := str_ne hne
            have HT2 : Hid ((D ++ outE (sk, sv, sg, sq)) ++ mrgW (L1.drop i) (L2.drop (k + 1)) = T) := Lib.hid (by
              have := HT.out
              rw [HID.out, HKD.out, mrgW, if_neg (by show ¬ ltB pk sk = true; rw [ltB_asymm hltB]; simp), if_neg hne, ← HID.out, ← List.append_assoc] at this
              exact this)
            go_wp2_with fail
            go_quiet (fail)
            have bd : Below wr.heap.size wr (wr.drewN nq) := below_drewN (Below.refl _ _) _
            generalize wr.drewN nq = wd at *

            have q0 := (bd.cell (p := ⟨pb, po + i * 2, none⟩) hpr).trans p0
            have q1 := (bd.cell (p := ⟨pb, po + i * 2 + 1, none⟩) hpr).trans p1
            have hpd : pb < wd.heap.size := Nat.lt_of_lt_of_le hpr bd.size

            have t0 := (bd.cell (p := ⟨sb, so + k * 4, none⟩) hsr).trans s0
            have hsd : sb < wd.heap.size := Nat.lt_of_lt_of_le hsr bd.size

            go_wp2_with fail
            go_quiet (fail)
            have be : Below wr.heap.size wr (wd.drewN nq) := bd.trans ((below_drewN (Below.refl _ _) _).mono bd.size)
            generalize wd.drewN nq = we at *

            have HDW := Lib.hid (below_own HD.out.2 be)
            have hwe : w4.heap.size ≤ we.heap.size := Nat.le_trans hws be.size
            have HB9 := Lib.hid (HW.out.trans (be.mono hws))
            have s0 := (be.cell (p := ⟨sb, so + k * 4, none⟩) hsr).trans s0
            have s1 := (be.cell (p := ⟨sb, so + k * 4 + 1, none⟩) hsr).trans s1
            have s2 := (be.cell (p := ⟨sb, so + k * 4 + 2, none⟩) hsr).trans s2
            have hse : sb < we.heap.size := Nat.lt_of_lt_of_le hsr be.size
            cases sg with
            | true =>
              have HT3 : Hid (D ++ mrgW (L1.drop (i)) (L2.drop (k + 1)) = T) := Lib.hid (by have := HT2.out; simpa [outE] using this)
              go_wp2_with fail
              go_roundw
              case rel => exact ⟨i, k + 1, m, D, by go_num, by go_num, by omega, by omega, by omega, Lib.hid ⟨HD.out.1, HDW.out⟩, HT3, HB9⟩
              case measure => simp [intOf]; omega
            | false =>
              have HT3 : Hid ((D ++ [(sk, sv)]) ++ mrgW (L1.drop (i)) (L2.drop (k + 1)) = T) := Lib.hid (by have := HT2.out; simpa [outE, parE] using this)
              have HO := Lib.hid (And.intro s0 s1)
              go_wp2_with fail
              have bdd : Below we.heap.size we we.drew := (Below.refl _ _).drew
              refine mixed_region (D := (fun w' => w'.cell? ⟨sb, so + k * 4, none⟩ = some (.string sk) ∧ w'.cell? ⟨sb, so + k * 4 + 1, none⟩ = some (.string sv))) [0, 1, 2, 3, 4, 5, 6, 7, 8, 9, 10, 11] [12, 13, 14] 14 (by kernel_rfl) (by kernel_rfl) (by decide) (⟨s0, s1⟩) ?_
              simp only [List.filterMap_cons, List.filterMap_nil, List.getElem?_cons_zero, List.getElem?_cons_succ]
              repeat (
                (first
                 | (refine calm_move _ rfl ?_)
                 | (apply calm_cons
                    · (intro w' hw'
                       first | (obtain ⟨hwa', hwb', hwc'⟩ := hw') | (obtain ⟨hwa', hwb'⟩ := hw') | skip
                       go_simp
                       first
                       | done
                       | exact rfl)))
                simp only [Act.put, Act.eval, List.setIfInBounds_toArray, List.set_cons_zero, List.set_cons_succ, Array.getD_eq_getD_getElem?, List.getElem?_toArray, List.getElem?_cons_zero, List.getElem?_cons_succ, Option.getD_some])
              refine calm_nil ?_
              refine loud_cons fun K hK => ?_
              go_wp2_with fail
              have hal : Below we.heap.size we (we.drew.alloc (.cells #[.string sk, .string sv] 49)) := bdd.alloc (Nat.le_refl _) _
              refine hK _ _ (fun _ => ⟨(hal.cell (p := ⟨sb, so + k * 4, none⟩) hse).trans HO.out.1, (hal.cell (p := ⟨sb, so + k * 4 + 1, none⟩) hse).trans HO.out.2⟩) ?_
              clear hK K
              refine loud_cons fun K hK => ?_
              go_wp2_with (at_builtin; refine wpList_append_own _ rfl _ _ 40 rfl w4.heap.size 49 i0 (.agg #[.string ⟨#[]⟩, .string ⟨#[]⟩]) 2 32 Try.underlying40 hi0 hz0 hz1 hz2 rfl (by decide) _ _ _ rfl (below_own HDW.out hal) ⟨we.drew.heap.size, 0, none⟩ 1 1 (pv (sk, sv)) rfl rfl (cell_new2 _ _ _ _) (by intro u hu; simp [pv] at hu; rcases hu with rfl | rfl <;> rfl) (by unfold maxLen; omega) (by omega) (by simp [go_sem]; omega) ?_; intro v' wz hown3 hgrow _)
              have hb3 : Below w4.heap.size we wz := (hal.mono hwe).grown hgrow (by have := hal.size; omega) (fun k hk => (HDW.out.lt k hk).1)
              rw [pv2_snoc] at hown3
              have HR3 := Lib.hid (And.intro (show m + 1 = (D ++ [(sk, sv)]).length by rw [List.length_append, ← HD.out.1]; rfl) hown3)
              have HB3 := Lib.hid (HB9.out.trans hb3)
              refine hK _ _ (fun _ => ⟨(hb3.cell (p := ⟨sb, so + k * 4, none⟩) hsb4).trans HO.out.1, (hb3.cell (p := ⟨sb, so + k * 4 + 1, none⟩) hsb4).trans HO.out.2⟩) ?_
              clear hK K hown3 hgrow hb3
              refine loud_cons fun K hK => ?_
              go_wp2_with fail
              refine hK _ _ (fun h => absurd rfl h) ?_
              clear hK K
              refine loud_nil ?_
              go_wp2_with fail
              go_roundw
              case rel => exact ⟨i, k + 1, m + 1, D ++ [(sk, sv)], by go_num, by go_num, by omega, by omega, by omega, HR3, HT3, HB3⟩
              case measure => simp [intOf]; omega
          | false =>
            cases heq : (sk.toList == pk.toList) with
            | true =>
              have hek : sk = pk := likeK_iff.1 heq
              have hnb : (pk.toList == sk.toList) = true := likeK_iff.2 hek.symm
              have HT2 : Hid ((D ++ outE (sk, sv, sg, sq)) ++ mrgW (L1.drop (i + 1)) (L2.drop (k + 1)) = T) := Lib.hid (by
                have := HT.out
                rw [HID.out, HKD.out, mrg_both hek.symm, ← List.append_assoc] at this
                exact this)
              clear hek
              go_wp2_with fail
              go_quiet (fail)
              have bd : Below wr.heap.size wr (wr.drewN nq) := below_drewN (Below.refl _ _) _
              generalize wr.drewN nq = wd at *

              have q0 := (bd.cell (p := ⟨pb, po + i * 2, none⟩) hpr).trans p0
              have q1 := (bd.cell (p := ⟨pb, po + i * 2 + 1, none⟩) hpr).trans p1
              have hpd : pb < wd.heap.size := Nat.lt_of_lt_of_le hpr bd.size

              have t0 := (bd.cell (p := ⟨sb, so + k * 4, none⟩) hsr).trans s0
              have hsd : sb < wd.heap.size := Nat.lt_of_lt_of_le hsr bd.size

              go_wp2_with fail
              go_quiet (fail)
              have be : Below wr.heap.size wr (wd.drewN nq) := bd.trans ((below_drewN (Below.refl _ _) _).mono bd.size)
              generalize wd.drewN nq = we at *

              have HDW := Lib.hid (below_own HD.out.2 be)
              have hwe : w4.heap.size ≤ we.heap.size := Nat.le_trans hws be.size
              have HB9 := Lib.hid (HW.out.trans (be.mono hws))
              have s0 := (be.cell (p := ⟨sb, so + k * 4, none⟩) hsr).trans s0
              have s1 := (be.cell (p := ⟨sb, so + k * 4 + 1, none⟩) hsr).trans s1
              have s2 := (be.cell (p := ⟨sb, so + k * 4 + 2, none⟩) hsr).trans s2
              have hse : sb < we.heap.size := Nat.lt_of_lt_of_le hsr be.size
              cases sg with
              | true =>
                have HT3 : Hid (D ++ mrgW (L1.drop (i + 1)) (L2.drop (k + 1)) = T) := Lib.hid (by have := HT2.out; simpa [outE] using this)
                go_wp2_with fail
                go_roundw
                case rel => exact ⟨i + 1, k + 1, m, D, by go_num, by go_num, by omega, by omega, by omega, Lib.hid ⟨HD.out.1, HDW.out⟩, HT3, HB9⟩
                case measure => simp [intOf]; omega
              | false =>
                have HT3 : Hid ((D ++ [(sk, sv)]) ++ mrgW (L1.drop (i + 1)) (L2.drop (k + 1)) = T) := Lib.hid (by have := HT2.out; simpa [outE, parE] using this)
                have HO := Lib.hid (And.intro s0 s1)
                go_wp2_with fail
                have bdd : Below we.heap.size we we.drew := (Below.refl _ _).drew
                refine mixed_region (D := (fun w' => w'.cell? ⟨sb, so + k * 4, none⟩ = some (.string sk) ∧ w'.cell? ⟨sb, so + k * 4 + 1, none⟩ = some (.string sv))) [0, 1, 2, 3, 4, 5, 6, 7, 8, 9, 10, 11] [12, 13, 14] 14 (by kernel_rfl) (by kernel_rfl) (by decide) (⟨s0, s1⟩) ?_
                simp only [List.filterMap_cons, List.filterMap_nil, List.getElem?_cons_zero, List.getElem?_cons_succ]
                repeat (
                  (first
                   | (refine calm_move _ rfl ?_)
                   | (apply calm_cons
                      · (intro w' hw'
                         first | (obtain ⟨hwa', hwb', hwc'⟩ := hw') | (obtain ⟨hwa', hwb'⟩ := hw') | skip
                         go_simp
                         first
                         | done
                         | exact rfl)))
                  simp only [Act.put, Act.eval, List.setIfInBounds_toArray, List.set_cons_zero, List.set_cons_succ, Array.getD_eq_getD_getElem?, List.getElem?_toArray, List.getElem?_cons_zero, List.getElem?_cons_succ, Option.getD_some])
                refine calm_nil ?_
                refine loud_cons fun K hK => ?_
                go_wp2_with fail
                have hal : Below we.heap.size we (we.drew.alloc (.cells #[.string sk, .string sv] 49)) := bdd.alloc (Nat.le_refl _) _
                refine hK _ _ (fun _ => ⟨(hal.cell (p := ⟨sb, so + k * 4, none⟩) hse).trans HO.out.1, (hal.cell (p := ⟨sb, so + k * 4 + 1, none⟩) hse).trans HO.out.2⟩) ?_
                clear hK K
                refine loud_cons fun K hK => ?_
                go_wp2_with (at_builtin; refine wpList_append_own _ rfl _ _ 40 rfl w4.heap.size 49 i0 (.agg #[.string ⟨#[]⟩, .string ⟨#[]⟩]) 2 32 Try.underlying40 hi0 hz0 hz1 hz2 rfl (by decide) _ _ _ rfl (below_own HDW.out hal) ⟨we.drew.heap.size, 0, none⟩ 1 1 (pv (sk, sv)) rfl rfl (cell_new2 _ _ _ _) (by intro u hu; simp [pv] at hu; rcases hu with rfl | rfl <;> rfl) (by unfold maxLen; omega) (by omega) (by simp [go_sem]; omega) ?_; intro v' wz hown3 hgrow _)
                have hb3 : Below w4.heap.size we wz := (hal.mono hwe).grown hgrow (by have := hal.size; omega) (fun k hk => (HDW.out.lt k hk).1)
                rw [pv2_snoc] at hown3
                have HR3 := Lib.hid (And.intro (show m + 1 = (D ++ [(sk, sv)]).length by rw [List.length_append, ← HD.out.1]; rfl) hown3)
                have HB3 := Lib.hid (HB9.out.trans hb3)
                refine hK _ _ (fun _ => ⟨(hb3.cell (p := ⟨sb, so + k * 4, none⟩) hsb4).trans HO.out.1, (hb3.cell (p := ⟨sb, so + k * 4 + 1, none⟩) hsb4).trans HO.out.2⟩) ?_
                clear hK K hown3 hgrow hb3
                refine loud_cons fun K hK => ?_
                go_wp2_with fail
                refine hK _ _ (fun h => absurd rfl h) ?_
                clear hK K
                refine loud_nil ?_
                go_wp2_with fail
                go_roundw
                case rel => exact ⟨i + 1, k + 1, m + 1, D ++ [(sk, sv)], by go_num, by go_num, by omega, by omega, by omega, HR3, HT3, HB3⟩
                case measure => simp [intOf]; omega
            | false =>
              have hne : ¬ pk = sk := fun e => by rw [e] at heq; simp at heq
              have hps : ltB pk sk = true := by
                cases h : ltB pk sk with
                | true => rfl
                | false => exact absurd (ltB_total h hlt) hne
              have HT2 : Hid ((D ++ [(pk, pv0)]) ++ mrgW (L1.drop (i + 1)) (L2.drop k) = T) := Lib.hid (by
                have := HT.out
                rw [HID.out, HKD.out, mrgW, if_pos hps, ← HKD.out] at this
                simpa using this)
              go_wp2_with fail
              go_quiet (fail)
              have bd : Below wr.heap.size wr (wr.drewN nq) := below_drewN (Below.refl _ _) _
              generalize wr.drewN nq = wd at *

              have q0 := (bd.cell (p := ⟨pb, po + i * 2, none⟩) hpr).trans p0
              have q1 := (bd.cell (p := ⟨pb, po + i * 2 + 1, none⟩) hpr).trans p1
              have hpd : pb < wd.heap.size := Nat.lt_of_lt_of_le hpr bd.size

              have HDW := Lib.hid (below_own HD.out.2 bd)
              have hwd : w4.heap.size ≤ wd.heap.size := Nat.le_trans hws bd.size
              have hal : Below wd.heap.size wd (wd.alloc (.cells #[.string pk, .string pv0] 49)) := (Below.refl _ _).alloc (Nat.le_refl _) _
              have HB9 := Lib.hid (HW.out.trans (bd.mono hws))
              go_wp2_with (at_builtin; refine wpList_append_own _ rfl _ _ 40 rfl w4.heap.size 49 i0 (.agg #[.string ⟨#[]⟩, .string ⟨#[]⟩]) 2 32 Try.underlying40 hi0 hz0 hz1 hz2 rfl (by decide) _ _ _ rfl (below_own HDW.out hal) ⟨wd.heap.size, 0, none⟩ 1 1 (pv (pk, pv0)) rfl rfl (cell_new2 _ _ _ _) (by intro u hu; simp [pv] at hu; rcases hu with rfl | rfl <;> rfl) (by unfold maxLen; omega) (by omega) (by simp [go_sem]; omega) ?_; intro v' wz hown3 hgrow _)
              have hb3 : Below w4.heap.size wd wz := (hal.mono hwd).grown hgrow (by have := hal.size; omega) (fun k hk => (HDW.out.lt k hk).1)
              rw [pv2_snoc] at hown3
              have HR3 := Lib.hid (And.intro (show m + 1 = (D ++ [(pk, pv0)]).length by rw [List.length_append, ← HD.out.1]; rfl) hown3)
              have HB3 := Lib.hid (HB9.out.trans hb3)
              clear hown3 hgrow hb3 hal
              go_wp2_with fail
              go_roundw
              case rel => exact ⟨i + 1, k, m + 1, D ++ [(pk, pv0)], by go_num, by go_num, by omega, by omega, by omega, HR3, HT2, HB3⟩
              case measure => simp [intOf]; omega
        · obtain rfl : i = nw := by omega
          have hnil : L1.drop i = [] := List.drop_eq_nil_of_le (by rw [HQ.out.2.2.2.1]; omega)
          have HT2 : Hid ((D ++ outE (sk, sv, sg, sq)) ++ mrgW (L1.drop i) (L2.drop (k + 1)) = T) := Lib.hid (by
            have := HT.out
            rw [hnil, HKD.out, mrg_since (by simp), ← List.append_assoc] at this
            rw [hnil]
            exact this)
          go_wp2_with fail
          go_quiet (fail)
          have bd : Below wr.heap.size wr (wr.drewN nq) := below_drewN (Below.refl _ _) _
          generalize wr.drewN nq = wd at *

          have t0 := (bd.cell (p := ⟨sb, so + k * 4, none⟩) hsr).trans s0
          have hsd : sb < wd.heap.size := Nat.lt_of_lt_of_le hsr bd.size

          go_wp2_with fail
          go_quiet (fail)
          have be : Below wr.heap.size wr (wd.drewN nq) := bd.trans ((below_drewN (Below.refl _ _) _).mono bd.size)
          generalize wd.drewN nq = we at *

          have HDW := Lib.hid (below_own HD.out.2 be)
          have hwe : w4.heap.size ≤ we.heap.size := Nat.le_trans hws be.size
          have HB9 := Lib.hid (HW.out.trans (be.mono hws))
          have s0 := (be.cell (p := ⟨sb, so + k * 4, none⟩) hsr).trans s0
          have s1 := (be.cell (p := ⟨sb, so + k * 4 + 1, none⟩) hsr).trans s1
          have s2 := (be.cell (p := ⟨sb, so + k * 4 + 2, none⟩) hsr).trans s2
          have hse : sb < we.heap.size := Nat.lt_of_lt_of_le hsr be.size
          cases sg with
          | true =>
            have HT3 : Hid (D ++ mrgW (L1.drop (i)) (L2.drop (k + 1)) = T) := Lib.hid (by have := HT2.out; simpa [outE] using this)
            go_wp2_with fail
            go_roundw
            case rel => exact ⟨i, k + 1, m, D, by go_num, by go_num, by omega, by omega, by omega, Lib.hid ⟨HD.out.1, HDW.out⟩, HT3, HB9⟩
            case measure => simp [intOf]; omega
          | false =>
            have HT3 : Hid ((D ++ [(sk, sv)]) ++ mrgW (L1.drop (i)) (L2.drop (k + 1)) = T) := Lib.hid (by have := HT2.out; simpa [outE, parE] using this)
            have HO := Lib.hid (And.intro s0 s1)
            go_wp2_with fail
            have bdd : Below we.heap.size we we.drew := (Below.refl _ _).drew
            refine mixed_region (D := (fun w' => w'.cell? ⟨sb, so + k * 4, none⟩ = some (.string sk) ∧ w'.cell? ⟨sb, so + k * 4 + 1, none⟩ = some (.string sv))) [0, 1, 2, 3, 4, 5, 6, 7, 8, 9, 10, 11] [12, 13, 14] 14 (by kernel_rfl) (by kernel_rfl) (by decide) (⟨s0, s1⟩) ?_
            simp only [List.filterMap_cons, List.filterMap_nil, List.getElem?_cons_zero, List.getElem?_cons_succ]
            repeat (
              (first
               | (refine calm_move _ rfl ?_)
               | (apply calm_cons
                  · (intro w' hw'
                     first | (obtain ⟨hwa', hwb', hwc'⟩ := hw') | (obtain ⟨hwa', hwb'⟩ := hw') | skip
                     go_simp
                     first
                     | done
                     | exact rfl)))
              simp only [Act.put, Act.eval, List.setIfInBounds_toArray, List.set_cons_zero, List.set_cons_succ, Array.getD_eq_getD_getElem?, List.getElem?_toArray, List.getElem?_cons_zero, List.getElem?_cons_succ, Option.getD_some])
            refine calm_nil ?_
            refine loud_cons fun K hK => ?_
            go_wp2_with fail
            have hal : Below we.heap.size we (we.drew.alloc (.cells #[.string sk, .string sv] 49)) := bdd.alloc (Nat.le_refl _) _
            refine hK _ _ (fun _ => ⟨(hal.cell (p := ⟨sb, so + k * 4, none⟩) hse).trans HO.out.1, (hal.cell (p := ⟨sb, so + k * 4 + 1, none⟩) hse).trans HO.out.2⟩) ?_
            clear hK K
            refine loud_cons fun K hK => ?_
            go_wp2_with (at_builtin; refine wpList_append_own _ rfl _ _ 40 rfl w4.heap.size 49 i0 (.agg #[.string ⟨#[]⟩, .string ⟨#[]⟩]) 2 32 Try.underlying40 hi0 hz0 hz1 hz2 rfl (by decide) _ _ _ rfl (below_own HDW.out hal) ⟨we.drew.heap.size, 0, none⟩ 1 1 (pv (sk, sv)) rfl rfl (cell_new2 _ _ _ _) (by intro u hu; simp [pv] at hu; rcases hu with rfl | rfl <;> rfl) (by unfold maxLen; omega) (by omega) (by simp [go_sem]; omega) ?_; intro v' wz hown3 hgrow _)
            have hb3 : Below w4.heap.size we wz := (hal.mono hwe).grown hgrow (by have := hal.size; omega) (fun k hk => (HDW.out.lt k hk).1)
            rw [pv2_snoc] at hown3
            have HR3 := Lib.hid (And.intro (show m + 1 = (D ++ [(sk, sv)]).length by rw [List.length_append, ← HD.out.1]; rfl) hown3)
            have HB3 := Lib.hid (HB9.out.trans hb3)
            refine hK _ _ (fun _ => ⟨(hb3.cell (p := ⟨sb, so + k * 4, none⟩) hsb4).trans HO.out.1, (hb3.cell (p := ⟨sb, so + k * 4 + 1, none⟩) hsb4).trans HO.out.2⟩) ?_
            clear hK K hown3 hgrow hb3
            refine loud_cons fun K hK => ?_
            go_wp2_with fail
            refine hK _ _ (fun h => absurd rfl h) ?_
            clear hK K
            refine loud_nil ?_
            go_wp2_with fail
            go_roundw
            case rel => exact ⟨i, k + 1, m + 1, D ++ [(sk, sv)], by go_num, by go_num, by omega, by omega, by omega, HR3, HT3, HB3⟩
            case measure => simp [intOf]; omega
      · obtain rfl : k = ns := by omega
        have hnil : L2.drop k = [] := List.drop_eq_nil_of_le (by rw [HQ.out.2.2.2.2.1]; omega)
        by_cases hiw2 : i < nw
        · have hii : (i : Int) < (nw : Int) := by omega
          have hil : i < L1.length := by rw [HQ.out.2.2.2.1]; exact hiw2
          obtain rfl := hpa (by omega)
          have hpb4 := hpb (by omega)
          obtain ⟨p0, p1⟩ := HPC.out i hil
          have p0 := (HW.out.cell (p := ⟨pb, po + i * 2, none⟩) hpb4).trans p0
          have p1 := (HW.out.cell (p := ⟨pb, po + i * 2 + 1, none⟩) hpb4).trans p1
          have hpr : pb < wr.heap.size := Nat.lt_of_lt_of_le hpb4 hws
          have HID := Lib.hid (List.drop_eq_getElem_cons hil)
          obtain ⟨P, hP⟩ : ∃ P, P = L1[i] := ⟨_, rfl⟩
          rw [← hP] at p0 p1 HID
          obtain ⟨pk, pv0⟩ := P
          clear hP
          have HT2 : Hid ((D ++ [(pk, pv0)]) ++ mrgW (L1.drop (i + 1)) (L2.drop k) = T) := Lib.hid (by
            have := HT.out
            rw [HID.out, hnil, mrg_was (by simp)] at this
            rw [hnil]
            simpa using this)
          go_wp2_with fail
          go_quiet (fail)
          have bd : Below wr.heap.size wr (wr.drewN nq) := below_drewN (Below.refl _ _) _
          generalize wr.drewN nq = wd at *

          have q0 := (bd.cell (p := ⟨pb, po + i * 2, none⟩) hpr).trans p0
          have q1 := (bd.cell (p := ⟨pb, po + i * 2 + 1, none⟩) hpr).trans p1
          have hpd : pb < wd.heap.size := Nat.lt_of_lt_of_le hpr bd.size

          have HDW := Lib.hid (below_own HD.out.2 bd)
          have hwd : w4.heap.size ≤ wd.heap.size := Nat.le_trans hws bd.size
          have hal : Below wd.heap.size wd (wd.alloc (.cells #[.string pk, .string pv0] 49)) := (Below.refl _ _).alloc (Nat.le_refl _) _
          have HB9 := Lib.hid (HW.out.trans (bd.mono hws))
          go_wp2_with (at_builtin; refine wpList_append_own _ rfl _ _ 40 rfl w4.heap.size 49 i0 (.agg #[.string ⟨#[]⟩, .string ⟨#[]⟩]) 2 32 Try.underlying40 hi0 hz0 hz1 hz2 rfl (by decide) _ _ _ rfl (below_own HDW.out hal) ⟨wd.heap.size, 0, none⟩ 1 1 (pv (pk, pv0)) rfl rfl (cell_new2 _ _ _ _) (by intro u hu; simp [pv] at hu; rcases hu with rfl | rfl <;> rfl) (by unfold maxLen; omega) (by omega) (by simp [go_sem]; omega) ?_; intro v' wz hown3 hgrow _)
          have hb3 : Below w4.heap.size wd wz := (hal.mono hwd).grown hgrow (by have := hal.size; omega) (fun k hk => (HDW.out.lt k hk).1)
          rw [pv2_snoc] at hown3
          have HR3 := Lib.hid (And.intro (show m + 1 = (D ++ [(pk, pv0)]).length by rw [List.length_append, ← HD.out.1]; rfl) hown3)
          have HB3 := Lib.hid (HB9.out.trans hb3)
          clear hown3 hgrow hb3 hal
          go_wp2_with fail
          go_roundw
          case rel => exact ⟨i + 1, k, m + 1, D ++ [(pk, pv0)], by go_num, by go_num, by omega, by omega, by omega, HR3, HT2, HB3⟩
          case measure => simp [intOf]; omega
        · obtain rfl : i = nw := by omega
          have hnil1 : L1.drop i = [] := List.drop_eq_nil_of_le (by rw [HQ.out.2.2.2.1]; omega)
          have hDT : D = T := by
            have := HT.out
            rw [hnil1, hnil, mrgW, List.append_nil] at this
            exact this
          obtain ⟨a', cap', hv9, hsp⟩ := own_sp HD.out.2 (by rw [← HD.out.1])
          subst hDT
          subst hv9
          have HSP := Lib.hid hsp
          have hDn : D.length = nt := HQ.out.2.2.2.2.2.1
          have HDn := Lib.hid hDn
          have hmn : m = nt := HD.out.1.trans hDn
          have HBW := Lib.hid (HW4.out.trans (HW.out.mono HW4.out.size))
          clear hsp hDn HD HT
          subst hmn
          go_wp2_with fail
          refine (HV3.out _ HBW.out).mono ?_
          rintro e w5 ⟨ta, tc, rfl, rt, b5⟩
          have HB5 := Lib.hid (HBW.out.trans (b5.mono HBW.out.size))
          have HX5 := Lib.hid (And.intro (HSP.out.2.1.old b5) rt)
          clear b5 rt HSP
          go_wp2_with fail
          refine (samep_any _ _ m m _ _ D _ HDn.out HDn.out HX5.out.1 HX5.out.2 (by omega)).mono ?_
          rintro e w6 ⟨rfl, b6⟩
          have HB6 := Lib.hid (HB5.out.trans (b6.mono HB5.out.size))
          clear b6 HX5
          go_wp2_with fail
          refine (HA.out _).mono ?_
          rintro e w7 ⟨rfl, b7⟩
          have HB7 := Lib.hid (HB6.out.trans (b7.mono HB6.out.size))
          clear b7
          go_wp2_with fail
          go_ret
          exact ⟨rfl, HW2.out.trans (HB7.out.mono HW2.out.size)⟩
end Go.Proofs.Ytgkkgiaaillhpaa
