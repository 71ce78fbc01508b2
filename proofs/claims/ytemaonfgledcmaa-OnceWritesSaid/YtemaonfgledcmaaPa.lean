/-
  Layer 14 (once): the walk of OnceWrites. Conditions: none beyond the row's own.
-/
import Derived.Test.YtemaonfgledcmaaOb
import Derived.Test.YtemaonfgledcmaaOa
import Derived.Test.YtemaonfgledcmaaNx
import Derived.Test.YtemaonfgledcmaaNm
namespace Go.Proofs.Ytemaonfgledcmaa
open Go.RowKit
set_option linter.unusedVariables false
set_option linter.unusedSimpArgs false

theorem wr_form (x : Sn) : ∃ A B, wrV x = .agg #[.string A, .string B, .bool false] := by
  unfold wrV
  split
  · exact ⟨_, _, rfl⟩
  · exact ⟨_, _, rfl⟩
def WBox (w : World) (b : Nat) (A B : ByteArray) : Prop := w.cell? ⟨b, 0, none⟩ = some (.string A) ∧ w.cell? ⟨b, 1, none⟩ = some (.string B) ∧ w.cell? ⟨b, 2, none⟩ = some (.bool false) ∧ b < w.heap.size
theorem WBox.new (w : World) (t : TypeId) (A B : ByteArray) : WBox (w.alloc (.cells #[.string A, .string B, .bool false] t)) w.heap.size A B := ⟨by simp, by simp, by simp, by simp⟩
theorem WBox.below {w w' : World} {b : Nat} {A B : ByteArray} (h : WBox w b A B) (hb : Below w.heap.size w w') : WBox w' b A B :=
  ⟨(hb.cell (p := ⟨b, 0, none⟩) h.2.2.2).trans h.1, (hb.cell (p := ⟨b, 1, none⟩) h.2.2.2).trans h.2.1, (hb.cell (p := ⟨b, 2, none⟩) h.2.2.2).trans h.2.2.1, Nat.lt_of_lt_of_le h.2.2.2 hb.size⟩
theorem wrP_size {x : Sn} (h : mayS x = true) : (wrP x).2.size ≤ 27 := by
  have hm := mayS_iff.1 h
  have hf : flagN x.h ≤ 1 := by unfold flagN; split <;> omega
  have h1 := vL_len9 (n := x.s.toNat) (by omega)
  have h2 := vL_len9 (n := x.e.toNat) (by omega)
  have h3 := vL_len9 (n := flagN x.h) (by omega)
  show (⟨(valW x).toArray⟩ : ByteArray).size ≤ 27
  show (valW x).toArray.size ≤ 27
  unfold valW
  simp only [List.size_toArray, List.length_append]
  omega
set_option maxRecDepth 100000 in
set_option maxHeartbeats 8000000 in
theorem walk_OnceWrites (a : Option Addr) (n cap : Nat) (l : List Sn) (a2 : Option Addr) (cap2 : Nat) (xs : List Pr) (w : World) (h : SS w a n cap l) (hx : PRd w a2 xs) (hok : okP xs) (hxl : xs.length ≤ maxLen) :
    Calls Try.prog 3 #[.slice a n cap, .slice a2 xs.length cap2] w fun e w' => e = .returned (.bool true) ∧ Below w.heap.size w w' := by
  obtain ⟨m, hm⟩ : ∃ m, m = xs.length := ⟨_, rfl⟩
  rw [← hm]
  have hmm : m ≤ maxLen := by rw [hm]; exact hxl
  unfold maxLen at hmm
  obtain ⟨b0, hb0⟩ : ∃ b, b = liteS l := ⟨_, rfl⟩
  have HL0 := Lib.hid (light14_any a n cap l b0 hb0.symm w h)
  obtain ⟨E, hE⟩ : ∃ E, E = ofE xs := ⟨_, rfl⟩
  obtain ⟨L, hL⟩ : ∃ L, L = ofL xs := ⟨_, rfl⟩
  have HMK : Hid (∀ W, Below w.heap.size w W → Calls Try.prog 16 #[.slice a n cap] W (LT (md l) W)) := Lib.hid fun W hW => made14_any a n cap l W (h.old hW)
  have HO1 : Hid (∀ W, Below w.heap.size w W → m ≤ 20 → (∀ j (hj : j < xs.length), j < m → xs[j].2.size ≤ 100) → Calls Try.prog 11 #[.slice a2 m cap2] W fun e w' => ∃ a n cap, e = .returned (.tuple #[.slice a n cap, .int .i64 E]) ∧ SS w' a n cap L ∧ Below W.heap.size W w') := Lib.hid fun W hW h20 hz => by
    rw [hE, hL]; exact of14_any a2 m cap2 xs W (hx.old hW) hm.symm (by omega) (fun x hx => by obtain ⟨j, hj, rfl⟩ := List.getElem_of_mem hx; have := hz j hj (by omega); omega)
  have HO2 : Hid (∀ W, Below w.heap.size w W → m ≤ 20 → (∀ j (hj : j < xs.length), j < m → xs[j].2.size ≤ 100) → Calls Try.prog 12 #[.slice a2 m cap2] W fun e w' => ∃ a n cap, e = .returned (.tuple #[.slice a n cap, .int .i64 E]) ∧ SS w' a n cap L ∧ Below W.heap.size W w') := Lib.hid fun W hW h20 hz => by
    rw [hE, hL]; exact rof14_any a2 m cap2 xs W (hx.old hW) hm.symm (by omega) (fun x hx => by obtain ⟨j, hj, rfl⟩ := List.getElem_of_mem hx; have := hz j hj (by omega); omega)
  have HLB : Hid (∀ x ∈ L, bareS x) := Lib.hid (by rw [hL]; exact ofL_bare xs)
  obtain ⟨M, hM⟩ : ∃ M, M = md l := ⟨_, rfl⟩
  rw [← hM] at HMK
  have HMC := Lib.hid (show chk M = true by rw [hM]; exact md_chk l)
  have HX := Lib.hid hx
  have HXN := Lib.hid hm
  obtain ⟨ab, off, ha, hb, hc⟩ := h.2.1.at_
  have hnm : n ≤ maxLen := Nat.le_trans h.2.2.1 h.2.2.2
  unfold maxLen at hnm
  rw [h.1] at ha hb
  have HLN := Lib.hid h.1
  have HC := Lib.hid hc
  clear hb0 hE hL hM h hx hok hxl hm hc
  obtain ⟨i0, hi0, hz0, hz1, hz2⟩ := info_parts Try.infoPr
  go_enter Try.func3, Try.ntmps3
  go_wp2_with fail
  refine HL0.out.mono ?_
  rintro e w1 ⟨rfl, hb⟩
  have HB1 := Lib.hid hb
  clear hb HL0
  cases b0 with
  | false =>
    go_wp2_with fail
    refine (awake14_any w1).mono ?_
    rintro e wz ⟨rfl, hb⟩
    have HBA := Lib.hid (HB1.out.trans (hb.mono HB1.out.size))
    clear hb
    go_wp2_with fail
    go_ret
    exact ⟨rfl, HBA.out⟩
  | true =>
  by_cases h20 : m ≤ 20
  case neg =>
    have h20i : (20 : Int) < (m : Int) := by omega
    go_wp2_with fail
    refine (awake14_any w1).mono ?_
    rintro e wz ⟨rfl, hb⟩
    have HBA := Lib.hid (HB1.out.trans (hb.mono HB1.out.size))
    clear hb
    go_wp2_with fail
    go_ret
    exact ⟨rfl, HBA.out⟩
  have h20i : ¬ (20 : Int) < (m : Int) := by omega
  go_wp2_with fail
  go_loopw [5] (fun i wr => ∃ k : Nat, i = .int .i64 k ∧ k ≤ m ∧ Hid (∀ j (hj : j < xs.length), j < k → xs[j].2.size ≤ 100) ∧ Hid (Below w.heap.size w wr)) (fun i _ => m - (intOf i).toNat)
  case atStart => exact ⟨0, by first | rfl | go_num, by omega, Lib.hid (fun j hj h0 => by omega), HB1⟩
  case round =>
    obtain ⟨k, rfl, hk, HZ, HW⟩ := hrel
    by_cases hlt : k < m
    · have hki : (k : Int) < (m : Int) := by omega
      have hkl : k < xs.length := by rw [← HXN.out]; exact hlt
      obtain ⟨pb, po, hpa, hpl, z0, z1⟩ := (HX.out.old HW.out).at_ hkl
      subst hpa
      obtain ⟨x, hx⟩ : ∃ x, x = xs[k] := ⟨_, rfl⟩
      rw [← hx] at z0 z1
      obtain ⟨K, V⟩ := x
      simp only at z0 z1
      have HXK : Hid (xs[k]? = some (K, V)) := Lib.hid (by rw [hx]; exact List.getElem?_eq_getElem hkl)
      clear hx hkl
      by_cases h1 : K.size ≤ 100
      case neg =>
        have h1i : (100 : Int) < (K.size : Int) := by omega
        go_wp2_with fail
        refine (awake14_any wr).mono ?_
        rintro e wz ⟨rfl, hb⟩
        have HBA := Lib.hid (HW.out.trans (hb.mono HW.out.size))
        clear hb
        go_wp2_with fail
        go_ret
        exact ⟨rfl, HBA.out⟩
      have h1i : ¬ (100 : Int) < (K.size : Int) := by omega
      by_cases h2 : V.size ≤ 100
      case neg =>
        have h2i : (100 : Int) < (V.size : Int) := by omega
        go_wp2_with fail
        refine (awake14_any wr).mono ?_
        rintro e wz ⟨rfl, hb⟩
        have HBA := Lib.hid (HW.out.trans (hb.mono HW.out.size))
        clear hb
        go_wp2_with fail
        go_ret
        exact ⟨rfl, HBA.out⟩
      have h2i : ¬ (100 : Int) < (V.size : Int) := by omega
      have HZ2 : Hid (∀ j (hj : j < xs.length), j < k + 1 → xs[j].2.size ≤ 100) := Lib.hid fun j hj hjk => by
        by_cases e : j = k
        · subst e
          have := HXK.out
          rw [List.getElem?_eq_getElem hj] at this
          rw [Option.some.inj this]
          exact h2
        · exact HZ.out j hj (by omega)
      go_wp2_with fail
      go_roundw
      case rel => exact ⟨k + 1, by go_num, by omega, HZ2, HW⟩
      case measure => simp [intOf]; omega
    · obtain rfl : k = m := by omega
      have hki : ¬ (k : Int) < (k : Int) := by omega
      have HW1 := HW
      have HZ1 : Hid (∀ j (hj : j < xs.length), j < k → xs[j].2.size ≤ 100) := HZ
      clear hlt hk HZ HW
      have HO1' := Lib.hid (HO1.out wr HW1.out (by omega) HZ1.out)
      go_wp2_with fail
      refine HO1'.out.mono ?_
      rintro e w2 ⟨oa1, on1, oc1, rfl, hs, hb⟩
      have HB2 := Lib.hid (HW1.out.trans (hb.mono HW1.out.size))
      have HS2 := Lib.hid hs
      have HO2' := Lib.hid (HO2.out w2 HB2.out (by omega) HZ1.out)
      clear hs hb HW1 HO1' HO1
      go_wp2_with fail
      refine HO2'.out.mono ?_
      rintro e w3 ⟨oa2, on2, oc2, rfl, hs, hb⟩
      have HB3 := Lib.hid (HB2.out.trans (hb.mono HB2.out.size))
      have HS3 := Lib.hid (HS2.out.old hb)
      have HT3 := Lib.hid hs
      clear hs hb HB2 HS2 HO2' HO2
      go_wp2_with fail
      refine (same14_any _ _ _ L _ _ _ L w3 HS3.out HT3.out HLB.out HLB.out rfl).mono ?_
      rintro e w4 ⟨rfl, hb⟩
      have HB4 := Lib.hid (HB3.out.trans (hb.mono HB3.out.size))
      clear hb HB3 HS3 HT3
      have hEE : (E == E) = true := by simp
      go_wp2_with fail
      go_loopw [10, 11, 12, 13, 14] (fun i _ _ _ _ wr => ∃ k : Nat, i = .int .i64 k ∧ k ≤ n ∧ Hid (Below w.heap.size w wr)) (fun i _ _ _ _ _ => n - (intOf i).toNat)
      case atStart => exact ⟨0, by first | rfl | go_num, by omega, HB4⟩
      case round =>
        obtain ⟨k, rfl, hk, HW⟩ := hrel
        have hws := HW.out.size
        by_cases hlt : k < n
        · have hki : (k : Int) < (n : Int) := by omega
          obtain rfl := ha (by omega)
          have hbw := hb (by omega)
          have hkl : k < l.length := by rw [HLN.out]; exact hlt
          have hbr : ab < wr.heap.size := Nat.lt_of_lt_of_le hbw hws
          have hcc := HC.out.old hbw HW.out k hkl
          obtain ⟨c0, c1, c2, c3, c4, c5, c6⟩ := hcc
          obtain ⟨x, hx⟩ : ∃ x, x = l[k] := ⟨_, rfl⟩
          rw [← hx] at c0 c1 c2 c3 c4 c5 c6
          have HXK : Hid (l[k]? = some x) := Lib.hid (by rw [hx]; exact List.getElem?_eq_getElem hkl)
          obtain ⟨A, B, hAB⟩ := wr_form x
          obtain ⟨F, hF⟩ : ∃ F, F = wrE x := ⟨_, rfl⟩
          have HW1 : Hid (∀ W, Calls Try.prog 14 #[sa x] W fun e w' => e = .returned (.tuple #[.agg #[.string A, .string B, .bool false], .int .i64 F]) ∧ Below W.heap.size W w') := Lib.hid fun W => by rw [← hAB, hF]; exact write14_any x W
          have HW2 : Hid (∀ W, Calls Try.prog 15 #[sa x] W fun e w' => e = .returned (.tuple #[.agg #[.string A, .string B, .bool false], .int .i64 F]) ∧ Below W.heap.size W w') := Lib.hid fun W => by rw [← hAB, hF]; exact rwrite14_any x W
          clear hx hkl hAB hF
          go_upto_region 15 with fail
          go_wp2_with fail
          refine (HW1.out _).mono ?_
          rintro e w5 ⟨rfl, hb5⟩
          have HB5 := Lib.hid (HW.out.trans (hb5.mono hws))
          clear hb5 c0 c1 c2 c3 c4 c5 c6 HW1
          go_upto_region 16 with fail
          have hB5 := WBox.new w5 33 A B
          have HB6 := Lib.hid (HB5.out.alloc HB5.out.size (.cells #[.string A, .string B, .bool false] 33))
          obtain ⟨vb, hvb⟩ : ∃ vb, vb = w5.heap.size := ⟨_, rfl⟩
          rw [← hvb] at hB5 ⊢
          clear hvb
          generalize w5.alloc (.cells #[.string A, .string B, .bool false] 33) = w6 at *
          have HV6 := Lib.hid hB5
          clear hB5 HB5
          have hkl : k < l.length := by rw [HLN.out]; exact hlt
          have hbr6 : ab < w6.heap.size := Nat.lt_of_lt_of_le hbw HB6.out.size
          obtain ⟨c0, c1, c2, c3, c4, c5, c6⟩ := HC.out.old hbw HB6.out k hkl
          have hxk := HXK.out
          rw [List.getElem?_eq_getElem hkl] at hxk
          rw [Option.some.inj hxk] at c0 c1 c2 c3 c4 c5 c6
          clear hkl hxk
          go_wp2_with fail
          refine (HW2.out _).mono ?_
          rintro e w7 ⟨rfl, hb7⟩
          have HB7 := Lib.hid (HB6.out.trans (hb7.mono HB6.out.size))
          have HV7 := Lib.hid (HV6.out.below hb7)
          clear hb7 c0 c1 c2 c3 c4 c5 c6 HW2 HV6
          go_upto_region 17 with fail
          have hB7 := WBox.new w7 33 A B
          have hbb := box_bel14 w7 (.cells #[.string A, .string B, .bool false] 33)
          have HB8 := Lib.hid (HB7.out.alloc HB7.out.size (.cells #[.string A, .string B, .bool false] 33))
          have HV8 := Lib.hid (HV7.out.below hbb)
          obtain ⟨vc, hvc⟩ : ∃ vc, vc = w7.heap.size := ⟨_, rfl⟩
          rw [← hvc] at hB7 ⊢
          clear hvc hbb HV7 HB7
          generalize w7.alloc (.cells #[.string A, .string B, .bool false] 33) = w8 at *
          obtain ⟨v0, v1, v2, v3⟩ := HV8.out
          obtain ⟨u0, u1, u2, u3⟩ := hB7
          have hFF : (F == F) = true := by simp
          go_wp2_with fail
          go_roundw
          case rel => exact ⟨k + 1, by go_num, by omega, HB8⟩
          case measure => simp [intOf]; omega
        · obtain rfl : k = n := by omega
          have hki : ¬ (k : Int) < (k : Int) := by omega
          clear hlt hk
          have HM' := Lib.hid (HMK.out wr HW.out)
          go_wp2_with fail
          refine HM'.out.mono ?_
          rintro e w5 ⟨ma, mn, mc, rfl, hs, hb5⟩
          have HB5 := Lib.hid (HW.out.trans (hb5.mono hws))
          have HS5 := Lib.hid hs
          have HR0 : Hid (w5.ownsRow w5.heap.size 27 2 (.slice none 0 0) 0 (pv [])) := Lib.hid (World.ownsRow_nil _ _ _ _)
          have HMN := Lib.hid hs.1
          have hmn : mn ≤ 8 := by rw [← hs.1]; exact chk_len HMC.out
          obtain ⟨sb, so, hsa, hsb, hsc⟩ := hs.2.1.at_
          have HSC := Lib.hid hsc
          rw [hs.1] at hsa hsb
          clear hs hb5 HM' HW hsc
          obtain ⟨B, hB⟩ : ∃ B, B = w5.heap.size := ⟨_, rfl⟩
          have HBW := Lib.hid hB
          rw [← hB] at HR0
          have hB5 : B ≤ w5.heap.size := by rw [hB]; exact Nat.le_refl _
          clear hB
          go_wp2_with fail
          go_loopw [15, 17, 18, 19] (fun s i _ _ wr => ∃ (k : Nat) (oa : Option Addr) (oc : Nat), s = .slice oa k oc ∧ i = .int .i64 k ∧ k ≤ mn ∧ Hid (wr.ownsRow B 27 2 (.slice oa k oc) k (pv ((M.take k).map wrP))) ∧ Hid (Below w5.heap.size w5 wr)) (fun _ i _ _ _ => mn - (intOf i).toNat)
          case atStart => exact ⟨0, none, 0, rfl, by first | rfl | go_num, by omega, HR0, Lib.hid (Below.refl _ _)⟩
          case round =>
            obtain ⟨k, oa, oc, rfl, rfl, hk, HR, HW⟩ := hrel
            have hws := HW.out.size
            have hBr : B ≤ wr.heap.size := by omega
            by_cases hlt : k < mn
            · have hki : (k : Int) < (mn : Int) := by omega
              obtain rfl := hsa (by omega)
              have hbw := hsb (by omega)
              have hkl : k < M.length := by rw [HMN.out]; exact hlt
              have hbr : sb < wr.heap.size := Nat.lt_of_lt_of_le hbw hws
              obtain ⟨c0, c1, c2, c3, c4, c5, c6⟩ := HSC.out.old hbw HW.out k hkl
              obtain ⟨x, hx⟩ : ∃ x, x = M[k] := ⟨_, rfl⟩
              rw [← hx] at c0 c1 c2 c3 c4 c5 c6
              have hmx : mayS x = true := by rw [hx]; exact (chk_iff.1 HMC.out).1 _ (List.getElem_mem hkl)
              have HTK : Hid ((M.take (k + 1)).map wrP = (M.take k).map wrP ++ [wrP x]) := Lib.hid (by rw [List.take_succ_eq_append_getElem hkl, ← hx, List.map_append]; rfl)
              have HW1 : Hid (∀ W, Calls Try.prog 14 #[sa x] W fun e w' => e = .returned (.tuple #[.agg #[.string (wrP x).1, .string (wrP x).2, .bool false], .int .i64 0]) ∧ Below W.heap.size W w') := Lib.hid fun W => by have := write14_any x W; rw [(wr_ok hmx).1, (wr_ok hmx).2] at this; exact this
              clear hx hkl hmx
              obtain ⟨⟨K, V⟩, hKV⟩ : ∃ y : Pr, y = wrP x := ⟨_, rfl⟩
              rw [← hKV] at HW1 HTK
              clear hKV
              go_wp2_with fail
              refine (HW1.out _).mono ?_
              rintro e w6 ⟨rfl, hb6⟩
              have HB6 := Lib.hid (HW.out.trans (hb6.mono hws))
              have HR6 := Lib.hid (below_own HR.out hb6)
              clear hb6 c0 c1 c2 c3 c4 c5 c6 HW1 HR
              go_upto_region 25 with fail
              have hB6 := WBox.new w6 33 K V
              have HB7 := Lib.hid (HB6.out.alloc HB6.out.size (.cells #[.string K, .string V, .bool false] 33))
              have HR7 := Lib.hid (HR6.out.alloc (.cells #[.string K, .string V, .bool false] 33))
              obtain ⟨vb, hvb⟩ : ∃ vb, vb = w6.heap.size := ⟨_, rfl⟩
              rw [← hvb] at hB6 ⊢
              clear hvb
              generalize w6.alloc (.cells #[.string K, .string V, .bool false] 33) = w7 at *
              have hs7 : B ≤ w7.heap.size := Nat.le_trans hB5 HB7.out.size
              obtain ⟨v0, v1, v2, v3⟩ := hB6
              clear HB6 HR6
              go_wp2_with (at_builtin; generalize hG : wpList _ _ _ _ _ _ = G)
              rw [← hG]
              clear hG
              refine wpList_append_own _ rfl (.tmp 125) (.tmp 131) 23 rfl B 27 i0 (.agg #[.string ⟨#[]⟩, .string ⟨#[]⟩]) 2 32 Try.underlying23 hi0 hz0 hz1 hz2 rfl (by decide) _ _ _ rfl (HR7.out.alloc _) ⟨w7.heap.size, 0, none⟩ 1 1 [.string K, .string V] rfl rfl ?c1 ?c2 ?c3 ?c4 ?c5 ?_
              case c1 => exact cell_nw2 w7 _ _ _
              case c2 => exact pv_one _ _
              case c3 => unfold maxLen; omega
              case c4 => omega
              case c5 => simp [go_sem]; omega
              intro v' w8 hown8 hgrow _
              obtain ⟨a8, c8, rfl⟩ := own_form14 hown8 (by decide)
              have hB7 := HB7.out
              have h57 : w5.heap.size ≤ w7.heap.size := hB7.size
              have hb8 : Hid (Below w5.heap.size w5 w8) := Lib.hid (hB7.trans ((((Below.refl w5.heap.size w7).alloc hB7.size _).grown hgrow (by simp [go_sem]; omega) (fun k hk => by have := (HR7.out.lt k hk).1; rw [HBW.out] at this; exact this))))
              have hsn : pv ((M.take k).map wrP) ++ [.string K, .string V] = pv ((M.take k).map wrP ++ [(K, V)]) := pv_snoc _ (K, V)
              rw [hsn] at hown8
              have HN8 : Hid (w8.ownsRow B 27 2 (.slice a8 (k + 1) c8) (k + 1) (pv ((M.take (k + 1)).map wrP))) := Lib.hid (by rw [HTK.out]; exact hown8)
              clear hown8 hgrow hB7 hsn h57
              go_wp2_with fail
              go_roundw
              case rel => exact ⟨k + 1, _, _, rfl, by go_num, by omega, HN8, hb8⟩
              case measure => simp [intOf]; omega
            · obtain rfl : k = mn := by omega
              have hki : ¬ (k : Int) < (k : Int) := by omega
              have hR := HR.out
              have hml : M.take k = M := by rw [← HMN.out, List.take_length]
              rw [hml] at hR
              have HP : Hid (PRd wr oa (M.map wrP)) := Lib.hid (own_pv hR (by rw [List.length_map]; exact HMN.out))
              have HO : Hid (Calls Try.prog 11 #[.slice oa k oc] wr fun e w' => ∃ a n cap, e = .returned (.tuple #[.slice a n cap, .int .i64 0]) ∧ SS w' a n cap (M.map normS) ∧ Below wr.heap.size wr w') := Lib.hid (by
                have := of14_any oa k oc (M.map wrP) wr HP.out (by rw [List.length_map]; exact HMN.out) (by omega) (fun x hx => by
                  rw [List.mem_map] at hx
                  obtain ⟨y, hy, rfl⟩ := hx
                  have := wrP_size ((chk_iff.1 HMC.out).1 _ hy)
                  omega)
                unfold OFR at this
                obtain ⟨e1, e2⟩ := of_good (ofC_wr HMC.out)
                rw [e1, e2] at this
                exact this)
              have HSW := Lib.hid (HS5.out.old HW.out)
              have HBW2 := Lib.hid (HB5.out.trans (HW.out.mono HB5.out.size))
              clear hlt hk hR hml HR HP
              go_wp2_with fail
              refine HO.out.mono ?_
              rintro e w6 ⟨na, nn, nc, rfl, hs, hb6⟩
              have HN6 := Lib.hid hs
              have HS6 := Lib.hid (HSW.out.old hb6)
              have HB6 := Lib.hid (HBW2.out.trans (hb6.mono HBW2.out.size))
              clear hs hb6 HO HSW HBW2
              go_wp2_with fail
              refine (same14_any _ _ _ (M.map normS) _ _ _ M w6 HN6.out HS6.out (bare_map _) (bare_chk HMC.out) (map_norm2 _)).mono ?_
              rintro e w7 ⟨rfl, hb7⟩
              have HB7 := Lib.hid (HB6.out.trans (hb7.mono HB6.out.size))
              clear hb7 HB6 HN6 HS6
              go_wp2_with fail
              refine (awake14_any w7).mono ?_
              rintro e wz ⟨rfl, hb⟩
              have HBA := Lib.hid (HB7.out.trans (hb.mono HB7.out.size))
              clear hb
              go_wp2_with fail
              go_ret
              exact ⟨rfl, HBA.out⟩
end Go.Proofs.Ytemaonfgledcmaa
