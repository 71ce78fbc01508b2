/-
  Layer 6 (wal): the walk of the law WalCrash. Conditions: texts within the form's reach.
-/
import Derived.Test.YthikedhbjphmeaaLlA
namespace Go.Proofs.Ythikedhbjphmeaa
open Go.RowKit Go.Lib
set_option linter.unusedVariables false
set_option linter.unusedSimpArgs false

set_option maxRecDepth 100000 in
set_option maxHeartbeats 400000 in
theorem crash_e1 (a : Option Addr) (cap : Nat) (ts : List (List UInt8)) (x0 x1 : Int) (ka : Option Addr) (kl kc : Nat) (w : World) (hl : ts.length ≤ maxLen) (hkm : kl ≤ maxLen) (h : 40 < (ts.length : Int) ∨ ((ts.length : Int) ≤ 40 ∧ 10 < (kl : Int))) : Calls Try.prog 3 #[.slice a ts.length cap, .agg #[.int .i64 x0, .int .i64 x1], .slice ka kl kc] w fun e w' => e = .returned (.bool true) ∧ Below w.heap.size w w' := by
  unfold maxLen at hl hkm
  rcases h with h | ⟨h, h2⟩
  all_goals
    go_enter Try.func3, Try.ntmps3
    go_wp2_with fail
    have ha := al1 w (.cells #[.int .i64 x0, .int .i64 x1] 23)
    generalize (w.alloc (.cells #[.int .i64 x0, .int .i64 x1] 23)) = w0 at ha ⊢
    have HA := Lib.hid ha
    clear ha
    refine (new_any _).mono ?_
    rintro e w1 ⟨rfl, hd, hb⟩
    have HB := Lib.hid (bt HA.out hb)
    have C := wp_new hd 0 (by omega)
    rw [show ((0 : Nat) : Int) = 0 from rfl] at C
    have HC := Lib.hid C
    clear hd hb C
    go_wp2_with fail
    refine HC.out.mono ?_
    rintro e w2 ⟨l, rfl, hw, hk⟩
    have HB2 := Lib.hid (HB.out.trans ((hk.below (B := w.heap.size) fun b hb => Nat.lt_of_lt_of_le hb HA.out.size)))
    clear hw hk HC
    go_wp2_with (go_at_call 9; refine (awake_any _).mono ?_; rintro e w3 ⟨rfl, bb⟩)
    go_ret
    exact ⟨rfl, HB2.out.trans (bb.mono HB2.out.size)⟩
theorem wp_allo {own : Nat → Prop} {w : World} {l d m n k : Nat} {N : Nf} {ts : List (List UInt8)} (h : WP own w l d m N n ts k) (hm : m ≤ 200) (T : List (List UInt8)) (hT : flat (lg N n ts) = T) :
    Calls Try.prog 14 #[.pointer (some ⟨l, 0, none⟩)] w fun e w' => ∃ a cap, e = .returned (.slice a T.length cap) ∧ w'.ownsRow w.heap.size 9 1 (.slice a T.length cap) T.length (sv T) ∧ Below w.heap.size w w' := by
  have hb := h.bound hm
  obtain ⟨F, h1, h2⟩ := h
  rw [← hT]
  exact logall_any h1 hb.1 hb.2.1
theorem take_len (ts : List (List UInt8)) {F N : List (List UInt8)} {i : Nat} (h : F ++ N = ts.take i) (hi : i ≤ ts.length) : F.length + N.length = i := by
  have := congrArg List.length h
  rw [List.length_append, List.length_take] at this
  omega
set_option maxRecDepth 100000 in
set_option maxHeartbeats 1000000 in
theorem crash_main (a : Option Addr) (cap : Nat) (ts : List (List UInt8)) (x0 x1 : Int) (ka : Option Addr) (kl kc : Nat) (zs : List Int) (w : World) (hr : Rd w a ts) (hl : ts.length ≤ maxLen) (hcap : ts.length ≤ cap) (hk : IsRow .i64 w ka kl kc zs) (h : (ts.length : Int) ≤ 40) (h2 : (kl : Int) ≤ 10) : Calls Try.prog 3 #[.slice a ts.length cap, .agg #[.int .i64 x0, .int .i64 x1], .slice ka kl kc] w fun e w' => e = .returned (.bool true) ∧ Below w.heap.size w w' := by
  clear hl
  obtain ⟨ks, hkl, hkp⟩ := kp_row (own := fun b => b < w.heap.size) hk fun b hb => hb
  obtain ⟨w0, hw0⟩ : ∃ w0, w0 = w.alloc (.cells #[.int .i64 x0, .int .i64 x1] 23) := ⟨_, rfl⟩
  have HSZ := Lib.hid (show w0.heap.size = w.heap.size + 1 by rw [hw0]; simp)
  have HB00 := Lib.hid (show Below w.heap.size w w0 by rw [hw0]; exact al1 _ _)
  have k0 : w0.cell? ⟨w.heap.size, 0, none⟩ = some (.int .i64 x0) := by rw [hw0, World.cell?_alloc_mark]; rfl
  have k1 : w0.cell? ⟨w.heap.size, 1, none⟩ = some (.int .i64 x1) := by rw [hw0, World.cell?_alloc_mark]; rfl
  have HR := Lib.hid (hr.old HB00.out)
  have HKP := Lib.hid hkp
  have HKL := Lib.hid hkl
  have HK0 := Lib.hid k0
  have HK1 := Lib.hid k1
  have HW0 := Lib.hid hw0
  clear hr hk hkp hkl hw0 k0 k1
  obtain ⟨own, hown⟩ : ∃ own : Nat → Prop, own = fun b => b < w0.heap.size := ⟨_, rfl⟩
  have HO : Hid (∀ b, b < w0.heap.size → own b) := Lib.hid fun b hb => by rw [hown]; exact hb
  have HON := Lib.hid hown
  clear hown
  obtain ⟨i0, hi, hz0, hz1, hz2⟩ := info_parts Try.infoStr
  go_enter Try.func3, Try.ntmps3
  go_wp2_with fail
  rw [← HW0.out]
  refine (new_any _).mono ?_
  rintro e w1 ⟨rfl, hd, hb⟩
  rw [← HON.out] at hd
  have HB1 := Lib.hid hb
  have C := wp_new hd 0 (by omega)
  rw [show ((0 : Nat) : Int) = 0 from rfl] at C
  have HC := Lib.hid C
  clear hd hb C
  go_wp2_with fail
  refine HC.out.mono ?_
  rintro e w2 ⟨l, rfl, hw, hk⟩
  have HB2 := Lib.hid (HB1.out.trans (hk.below HO.out))
  have HZ2 := Lib.hid hw
  clear hw hk HC HB1
  go_wp2
  have HL := Lib.hid h
  have HL2 := Lib.hid h2
  clear h h2
  go_loopw [10, 11] (fun s i wr => ∃ (q su : Nat) (N : Nf) (n : Nat) (us : List (List UInt8)) (k : Nat), s = .int .i64 su ∧ i = .int .i64 q ∧ Hid (q ≤ ts.length) ∧ Hid (WP own wr l (w0.heap.size + 1) (2 * q) N n us k) ∧ Hid (flat (N.map txt) ++ us = ts.take q) ∧ Hid (su ≤ (flat (N.map txt)).length + k) ∧ Hid (Below w0.heap.size w0 wr)) (fun _ i _ => ts.length - (intOf i).toNat)
  case atStart => exact ⟨0, 0, [], 0, [], 0, rfl, rfl, Lib.hid (Nat.zero_le _), HZ2, Lib.hid rfl, Lib.hid (Nat.zero_le _), HB2⟩
  case round =>
    obtain ⟨q, su, N, n, us, k, rfl, rfl, hq, HZ, HF, HS, HB⟩ := hrel
    clear HZ2 HB2
    have HQ : Hid (q ≤ 40) := Lib.hid (by have := hq.out; have := HL.out; omega)
    by_cases hlt : q < ts.length
    · have hlti : (q : Int) < (ts.length : Int) := by omega
      have hq40 : (q : Int) < 40 := by have := HL.out; omega
      have hrd := HR.out.old HB.out
      obtain ⟨b, ofs, rfl, hb, hcell⟩ : ∃ b ofs, a = some ⟨b, ofs, none⟩ ∧ b < wr.heap.size ∧ wr.cell? ⟨b, ofs + q, none⟩ = some (.string ⟨ts[q].toArray⟩) := by
        rcases hrd with rfl | ⟨b, ofs, h1, h2, h3⟩
        · simp at hlt
        · exact ⟨b, ofs, h1, h2, h3 q hlt⟩
      clear hrd
      obtain ⟨t, ht⟩ : ∃ t, ts[q] = t := ⟨_, rfl⟩
      rw [ht] at hcell
      by_cases h100 : 100 < (t.length : Int)
      · clear ht
        go_wp2_with (go_at_call 9; refine (awake_any _).mono ?_; rintro e w' ⟨rfl, bb⟩)
        go_ret
        exact ⟨rfl, HB00.out.trans ((HB.out.trans (bb.mono HB.out.size)).mono (by rw [HSZ.out]; omega))⟩
      · have h100' : (t.length : Int) ≤ 100 := by omega
        have C := wp_add HZ.out (by have := HQ.out; omega) ⟨t.toArray⟩ (by rw [size_mkl t]; omega)
        rw [show (⟨t.toArray⟩ : ByteArray).data.toList = t from rfl] at C
        have HC := Lib.hid C
        have hF4 : flat (N.map txt) ++ (us ++ [t]) = ts.take (q + 1) := by rw [← List.append_assoc, HF.out, List.take_succ_eq_append_getElem hlt, ht]
        have hlen := take_len ts hF4 (by omega)
        have hss : su ≤ (flat (N.map txt)).length + k := HS.out
        have HF4 := Lib.hid hF4
        have HLEN := Lib.hid hlen
        have HSS := Lib.hid hss
        clear C ht h100 hF4 hlen hss
        go_wp2_with fail
        refine HC.out.mono ?_
        rintro e w4 ⟨rfl, hz4, hk4⟩
        have HB4 := Lib.hid (HB.out.trans (hk4.below HO.out))
        have HZ4 := Lib.hid hz4
        clear hk4 hz4 HC HZ HB
        have hw4 : w.heap.size < w4.heap.size := by have := HB4.out.size; have := HSZ.out; omega
        have hk0 := (HB4.out.cell (p := ⟨w.heap.size, 0, none⟩) (by have := HSZ.out; show w.heap.size < _; omega)).trans HK0.out
        have hk1 := (HB4.out.cell (p := ⟨w.heap.size, 1, none⟩) (by have := HSZ.out; show w.heap.size < _; omega)).trans HK1.out
        cases hbit0 : (bits BinOp.and IntKind.i64 (x0 / 2 ^ q) 1 == 1) with
        | false =>
          cases hbit1 : (bits BinOp.and IntKind.i64 (x1 / 2 ^ q) 1 == 1) with
          | false =>
            go_wp2
            go_roundw
            case rel => exact ⟨q + 1, su, N, n, us ++ [t], k, rfl, by go_num, Lib.hid (by omega), Lib.hid (HZ4.out.up (by omega)), HF4, HSS, HB4⟩
            case measure => simp [intOf]; omega
          | true =>
            go_wp2_with fail
            refine (wp_roll HZ4.out (by have := HQ.out; omega)).mono ?_
            rintro e w6 ⟨rfl, hz6, hk6⟩
            have HB6 := Lib.hid (HB4.out.trans (hk6.below HO.out))
            have HZ6 := Lib.hid hz6
            have hF6 : flat ((N ++ [(n, fl (us ++ [t]) (us ++ [t]).length)]).map txt) = ts.take (q + 1) := by
              obtain ⟨F, _, hp⟩ := HZ4.out
              have := congrArg flat (lg_next (N := N) (n := n) hp.short)
              rw [lg_flat, List.append_nil, flat_append, flat_one, List.append_nil, lg_flat, HF4.out] at this
              exact this
            have HF6 := Lib.hid hF6
            clear hk6 hz6 hk0 hk1 HZ4 HB4 hF6
            go_wp2
            go_roundw
            case rel => exact ⟨q + 1, q + 1, _, n + 1, [], 0, by go_num, by go_num, Lib.hid (by omega), HZ6, Lib.hid (by rw [List.append_nil]; exact HF6.out), Lib.hid (by rw [HF6.out, List.length_take]; omega), HB6⟩
            case measure => simp [intOf]; omega
        | true =>
          go_wp2_with fail
          refine (wp_flush HZ4.out).mono ?_
          rintro e w5 ⟨rfl, hz5, hk5⟩
          have HB5 := Lib.hid (HB4.out.trans (hk5.below HO.out))
          have HZ5 := Lib.hid hz5
          have hw5 : w.heap.size < w5.heap.size := by have := HB5.out.size; have := HSZ.out; omega
          clear hk5 hz5 hk0 hk1 HZ4 HB4
          have hk1 := (HB5.out.cell (p := ⟨w.heap.size, 1, none⟩) (by have := HSZ.out; show w.heap.size < _; omega)).trans HK1.out
          cases hbit1 : (bits BinOp.and IntKind.i64 (x1 / 2 ^ q) 1 == 1) with
          | false =>
            go_wp2
            go_roundw
            case rel => exact ⟨q + 1, q + 1, N, n, us ++ [t], (us ++ [t]).length, by go_num, by go_num, Lib.hid (by omega), Lib.hid (HZ5.out.up (by omega)), HF4, Lib.hid (by have := HLEN.out; omega), HB5⟩
            case measure => simp [intOf]; omega
          | true =>
            go_wp2_with fail
            refine (wp_roll HZ5.out (by have := HQ.out; omega)).mono ?_
            rintro e w6 ⟨rfl, hz6, hk6⟩
            have HB6 := Lib.hid (HB5.out.trans (hk6.below HO.out))
            have HZ6 := Lib.hid hz6
            have hF6 : flat ((N ++ [(n, fl (us ++ [t]) (us ++ [t]).length)]).map txt) = ts.take (q + 1) := by
              obtain ⟨F, _, hp⟩ := HZ5.out
              have := congrArg flat (lg_next (N := N) (n := n) hp.short)
              rw [lg_flat, List.append_nil, flat_append, flat_one, List.append_nil, lg_flat, HF4.out] at this
              exact this
            have HF6 := Lib.hid hF6
            clear hk6 hz6 hk1 HZ5 HB5 hF6
            go_wp2
            go_roundw
            case rel => exact ⟨q + 1, q + 1, _, n + 1, [], 0, by go_num, by go_num, Lib.hid (by omega), HZ6, Lib.hid (by rw [List.append_nil]; exact HF6.out), Lib.hid (by rw [HF6.out, List.length_take]; omega), HB6⟩
            case measure => simp [intOf]; omega
    · have hlti : ¬ (q : Int) < (ts.length : Int) := by omega
      have hkp : Kp own wr ka ks := kp_up (HKP.out.keeps (Keeps.of_below (HB00.out.trans (HB.out.mono (by rw [HSZ.out]; omega))) fun b hb => hb)) fun b hb => HO.out b (by have := HSZ.out; omega)
      have C := wp_crash HZ.out ka kc ks hkp (by have := HL2.out; have := HKL.out; unfold maxLen; omega)
      rw [HKL.out] at C
      have HC := Lib.hid C
      have hlen := take_len ts HF.out hq.out
      have hss : su ≤ (flat (N.map txt)).length + k := HS.out
      have HLEN := Lib.hid hlen
      have HSS := Lib.hid hss
      clear C hkp hlen hss
      go_wp2_with fail
      refine HC.out.mono ?_
      rintro e w7 ⟨rfl, g, j, hd7, hf7, ht7, hj1, hj2, hk7⟩
      have HB7 := Lib.hid (HB.out.trans (hk7.below HO.out))
      obtain ⟨r, hr⟩ : ∃ r, r = (flat (N.map txt)).length + j := ⟨_, rfl⟩
      have hT : flat ((N ++ [(n, g)]).map txt) = ts.take r := by
        have e2 : ts.take r = (ts.take q).take r := by rw [List.take_take, Nat.min_eq_left (by have := HLEN.out; omega)]
        rw [ht7, e2, ← HF.out, List.take_append, List.take_of_length_le (show (flat (N.map txt)).length ≤ r by omega), show r - (flat (N.map txt)).length = j by omega]
      have g1 : (su : Int) ≤ (r : Int) := by have := HSS.out; omega
      have g3 : (r : Int) ≤ (ts.length : Int) := by have := HLEN.out; have := hq.out; omega
      have g5 : r < 9223372036854775808 := by have := HL.out; omega
      have g4 : (r : Int) ≤ (cap : Int) := by omega
      have C := wp_open hd7 hf7 (by have := HQ.out; omega) 0 (by omega)
      rw [show ((0 : Nat) : Int) = 0 from rfl] at C
      have HC7 := Lib.hid C
      have HT7 := Lib.hid hT
      clear C hd7 hf7 ht7 hk7 HC HZ HB hT hr hj1 hj2
      go_wp2_with fail
      refine HC7.out.mono ?_
      rintro e w8 ⟨l2, M, x, hM, hx, rfl, hw8, hk8⟩
      have hM' : M = N ++ [(n, g)] := by rw [hM]; exact List.filter_eq_self.2 fun p _ => by simp
      have HB8 := Lib.hid (HB7.out.trans (hk8.below HO.out))
      have hTl : (ts.take r).length = r := by rw [List.length_take]; omega
      have HTl := Lib.hid hTl
      have hMT : flat (M.map txt) = ts.take r := by rw [hM', HT7.out]
      have C := wp_all hw8 (by have := HQ.out; omega) (ts.take r) (by rw [lg_flat, List.append_nil, hMT])
      rw [hTl] at C
      have HC8 := Lib.hid C
      have HW8 := Lib.hid hw8
      have HMT := Lib.hid hMT
      clear hM hx hw8 hk8 hM' hTl HC7 HT7 HB7 C hMT
      go_wp2_with fail
      refine HC8.out.mono ?_
      rintro e w9 ⟨a1, c1, rfl, hr1, hb9⟩
      have HB9 := Lib.hid (HB8.out.trans (hb9.mono HB8.out.size))
      have HW9 := Lib.hid (HW8.out.below hb9)
      have hrd := ((HR.out.old HB9.out).take r)
      have HRD := Lib.hid hrd
      have HR1 := Lib.hid hr1
      clear hb9 hr1 HC8 HB8 HW8 hrd
      go_wp2_with fail
      refine (same_at a1 a r r c1 cap (ts.take r) (ts.take r) true _ HR1.out HRD.out HTl.out HTl.out g5 (by simp)).mono ?_
      rintro e w10 ⟨rfl, hb10⟩
      have HB10 := Lib.hid (HB9.out.trans (hb10.mono HB9.out.size))
      have HW10 := Lib.hid (HW9.out.below hb10)
      clear hb10 HB9 HW9 HR1 HRD
      go_wp2_with fail
      refine (wp_add HW10.out (by have := HQ.out; omega) ⟨#[109, 111, 114, 101]⟩ (by decide)).mono ?_
      rintro e w11 ⟨rfl, hw, hk⟩
      have HB11 := Lib.hid (HB10.out.trans (hk.below HO.out))
      have HW11 := Lib.hid hw
      clear hw hk HB10 HW10
      go_wp2_with fail
      refine (wp_flush HW11.out).mono ?_
      rintro e w12 ⟨rfl, hw, hk⟩
      have HB12 := Lib.hid (HB11.out.trans (hk.below HO.out))
      have HW12 := Lib.hid hw
      clear hw hk HB11 HW11
      obtain ⟨mo, hmo⟩ : ∃ mo : List (List UInt8), mo = [[109, 111, 114, 101]] := ⟨_, rfl⟩
      have hw12 : WP own w12 l2 (w0.heap.size + 1) (2 * q + 1 + 1) M x mo 1 := by rw [hmo]; exact HW12.out
      have HMO := Lib.hid hmo
      have HW12' := Lib.hid hw12
      clear hw12 hmo
      go_wp2_with fail
      refine (wp_crash0 HW12'.out 0).mono ?_
      rintro e w13 ⟨rfl, hd, hf, htx, hk⟩
      have HB13 := Lib.hid (HB12.out.trans (hk.below HO.out))
      have C := wp_open hd hf (by have := HQ.out; omega) 0 (by omega)
      rw [show ((0 : Nat) : Int) = 0 from rfl] at C
      have HC13 := Lib.hid C
      have hfl : flat ((M ++ [(x, fl (mo.take 1) 1)]).map txt) = ts.take r ++ [[109, 111, 114, 101]] := by
        rw [List.map_append, List.map_singleton, htx, flat_append, flat_one, HMT.out, HMO.out]
        rfl
      have HFL := Lib.hid hfl
      clear C hd hf htx hk HB12 HW12 HW12' hfl
      go_wp2_with fail
      refine HC13.out.mono ?_
      rintro e w14 ⟨l3, M3, x3, hM3, hx3, rfl, hw14, hk14⟩
      have HB14 := Lib.hid (HB13.out.trans (hk14.below HO.out))
      have hM3' : flat (M3.map txt) = ts.take r ++ [[109, 111, 114, 101]] := by
        have e : M3 = M ++ [(x, fl (mo.take 1) 1)] := by
          rw [hM3]; exact List.filter_eq_self.2 fun p _ => by simp
        rw [e]
        exact HFL.out
      have HW14 := Lib.hid hw14
      have HM3 := Lib.hid hM3'
      have hrd := ((HR.out.old HB14.out).take r)
      have HRD := Lib.hid hrd
      clear hM3 hx3 hw14 hk14 hM3' HC13 HB13 HFL hrd
      go_wp2_with (at_builtin; refine wpList_append_any rfl _ _ 22 rfl w14.heap.size 9 i0 (.string ⟨#[]⟩) 1 16 Try.underlying22 hi hz0 hz1 hz2 rfl (by decide) (.slice none 0 0) 0 [] rfl ?d0 a r cap (sv (ts.take r)) rfl ?d1 ?d2 ?d3 ?d4 ?d5 ?d6 ?d7 ?_)
      case d0 => exact World.ownsRow_nil _ _ _ _
      case d1 => intro e; have := HRD.out.isNone e; rw [HTl.out] at this; exact this
      case d2 => rw [sv_length, HTl.out]; omega
      case d3 => exact HRD.out.news
      case d4 => exact sv_one _
      case d5 => unfold maxLen; omega
      case d6 => have := HL.out; omega
      case d7 => exact Nat.le_refl _
      intro V w15 hown15 hb15
      have HO15 := Lib.hid hown15
      have HB15 := Lib.hid (HB14.out.trans (hb15.mono HB14.out.size))
      have HW15 := Lib.hid (HW14.out.below hb15)
      have hws15 := hb15.size
      have hws14 := HB14.out.size
      clear hown15 hb15 HW14 HRD
      have C := wp_allo HW15.out (by have := HQ.out; omega) (ts.take r ++ [[109, 111, 114, 101]]) (by rw [lg_flat, List.append_nil, HM3.out])
      have hTl2 : (ts.take r ++ [[109, 111, 114, 101]]).length = r + 1 := by rw [List.length_append, HTl.out]; rfl
      rw [hTl2] at C
      have HC15 := Lib.hid C
      have HTl2 := Lib.hid hTl2
      clear C hTl2
      go_wp2_with fail
      refine HC15.out.mono ?_
      rintro e w16 ⟨a2, c2, rfl, hr2, hb16⟩
      have HB16 := Lib.hid (HB15.out.trans (hb16.mono HB15.out.size))
      have ho16 := below_own HO15.out hb16
      have hVlt := fun k hk => (HO15.out.lt k hk).2
      have HVL := Lib.hid hVlt
      have HR2 := Lib.hid hr2
      have hws16 := hb16.size
      clear hr2 hb16 HC15 HB15 HW15 HO15 hVlt
      go_wp2_with (at_builtin; refine wpList_append_own _ rfl _ _ 22 rfl w14.heap.size 9 i0 (.string ⟨#[]⟩) 1 16 Try.underlying22 hi hz0 hz1 hz2 rfl (by decide) _ _ _ rfl (ho16.alloc _) ⟨w16.heap.size, 0, none⟩ 1 1 [.string ⟨#[109, 111, 114, 101]⟩] rfl rfl ?c1 ?c2 ?c3 ?c4 ?c5 ?_)
      case c1 => exact cell_new1 _ _ _
      case c2 => exact sv_one [[109, 111, 114, 101]]
      case c3 => unfold maxLen; have := HL.out; omega
      case c4 => have := HL.out; omega
      case c5 => simp; omega
      intro V2 w17 hown17 hgrow17 _
      have e17 : sv (ts.take r) ++ [Value.string ⟨#[109, 111, 114, 101]⟩] = sv (ts.take r ++ [[109, 111, 114, 101]]) := by rw [← sv_snoc]
      rw [e17] at hown17
      obtain ⟨a3, c3, rfl⟩ := own_slice hown17
      have hal := al1 w16 (.cells #[.string ⟨#[109, 111, 114, 101]⟩] 9)
      have hb17 : Below w14.heap.size w16 w17 := ((Below.refl w14.heap.size w16).alloc (by omega) (.cells #[.string ⟨#[109, 111, 114, 101]⟩] 9)).grown hgrow17 (by simp; omega) (fun k hk => (ho16.lt k hk).1)
      have hr17 : w17.ownsRow w15.heap.size 9 1 (.slice a2 (r + 1) c2) (r + 1) (sv (ts.take r ++ [[109, 111, 114, 101]])) := by
        refine own_same (below_own HR2.out hal) fun q hq => ?_
        have h1 := HR2.out.lt q hq
        exact hgrow17.block q (by simp; omega) (fun e => by have := HVL.out q e.symm; omega)
      have hr2' : Rd w17 a2 (ts.take r ++ [[109, 111, 114, 101]]) := by rw [← HTl2.out] at hr17; exact own_rd hr17
      have hr3 : Rd w17 a3 (ts.take r ++ [[109, 111, 114, 101]]) := by
        have e : r + 1 = (ts.take r ++ [[109, 111, 114, 101]]).length := by rw [HTl2.out]
        rw [e] at hown17
        exact own_rd hown17
      have HB17 := Lib.hid (HB16.out.trans (hb17.mono (Nat.le_trans HB14.out.size (Nat.le_refl _))))
      have HR2' := Lib.hid hr2'
      have HR3 := Lib.hid hr3
      clear hr17 hr2' hr3 hown17 hgrow17 hal hb17 HR2 HB16 e17 ho16
      have g6 : r + 1 < 9223372036854775808 := by have := HL.out; omega
      go_wp2_with fail
      refine (same_at a2 a3 _ _ _ _ (ts.take r ++ [[109, 111, 114, 101]]) (ts.take r ++ [[109, 111, 114, 101]]) true _ HR2'.out HR3.out HTl2.out HTl2.out g6 (by simp)).mono ?_
      rintro e w18 ⟨rfl, hb18⟩
      have HB18 := Lib.hid (HB17.out.trans (hb18.mono HB17.out.size))
      clear hb18 HB17 HR2' HR3
      go_wp2_with (go_at_call 9; refine (awake_any _).mono ?_; rintro e w19 ⟨rfl, bb⟩)
      go_ret
      exact ⟨rfl, HB00.out.trans ((HB18.out.trans (bb.mono HB18.out.size)).mono (by rw [HSZ.out]; omega))⟩
theorem walk_WalCrash (a : Option Addr) (cap : Nat) (ts : List (List UInt8)) (x0 x1 : Int) (ka : Option Addr) (kl kc : Nat) (zs : List Int) (w : World) (hr : Rd w a ts) (hl : ts.length ≤ maxLen) (hcap : ts.length ≤ cap) (hk : IsRow .i64 w ka kl kc zs) : Calls Try.prog 3 #[.slice a ts.length cap, .agg #[.int .i64 x0, .int .i64 x1], .slice ka kl kc] w fun e w' => e = .returned (.bool true) ∧ Below w.heap.size w w' := by
  have hkm : kl ≤ maxLen := by
    by_cases h0 : 0 < kl
    · obtain ⟨b, off, rfl, hb, hlz, hcm, hlc, hcell, hwz⟩ := hk.at_ h0
      omega
    · unfold maxLen; omega
  by_cases h : 40 < (ts.length : Int)
  · exact crash_e1 a cap ts x0 x1 ka kl kc w hl hkm (.inl h)
  by_cases h2 : 10 < (kl : Int)
  · exact crash_e1 a cap ts x0 x1 ka kl kc w hl hkm (.inr ⟨by omega, h2⟩)
  exact crash_main a cap ts x0 x1 ka kl kc zs w hr hl hcap hk (by omega) (by omega)
end Go.Proofs.Ythikedhbjphmeaa
