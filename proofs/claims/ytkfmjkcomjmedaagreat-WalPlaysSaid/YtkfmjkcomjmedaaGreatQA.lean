/-
  Texts of mine as one, in the order in which they build: Wp, Wk, Wm, Wn, Wo, Wi, Wj, Wy. Conditions: as each says.
-/
import Derived.Test.YtkfmjkcomjmedaaGreatLf
import Derived.Test.YtkfmjkcomjmedaaGreatQ9
import Derived.BigQuiet
import Derived.Deep.QuietTactic
import Derived.Test.YtkfmjkcomjmedaaGreatQ8
import Derived.Test.YtkfmjkcomjmedaaGreatFa
import Derived.Lib.MinMax
namespace Go.Proofs.YtkfmjkcomjmedaaGreat
open Go.RowKit Go.Lib
set_option linter.unusedVariables false
set_option linter.unusedSimpArgs false

set_option maxRecDepth 100000 in
set_option maxHeartbeats 2000000 in
theorem lname_ref (n : Nat) (hn : n ≤ 99999999) (w : World) : Calls Tryz.prog 43 #[.int .i64 (n : Int)] w fun e w' => e = .returned (.string ⟨(lname n).toArray⟩) ∧ Below w.heap.size w w' := by
  go_enter Tryz.func43, Tryz.ntmps43
  go_wp2_with fail
  go_loopw [0, 3, 4] (fun m v i wr => ∃ k : Nat, i = .int .i64 k ∧ k ≤ 8 ∧ m = .int .i64 ((n / 10 ^ k : Nat) : Int) ∧ v = .string ⟨(dgN k n).toArray⟩ ∧ Below w.heap.size w wr) (fun _ _ i _ => 8 - (intOf i).toNat)
  case atStart => exact ⟨0, rfl, by omega, by simp, rfl, Below.refl _ _⟩
  case round =>
    obtain ⟨k, rfl, hk, rfl, rfl, hb⟩ := hrel
    have HB := Lib.hid hb
    have hbs := hb.size
    clear hb
    by_cases hlt : k < 8
    · have hlti : (k : Int) < 8 := by omega
      have HD := Lib.hid (dg_front k n)
      have HDV : n / 10 ^ (k + 1) = n / 10 ^ k / 10 := by rw [Nat.div_div_eq_div_mul, Nat.pow_succ]
      have HDV := Lib.hid HDV
      have hm : n / 10 ^ k ≤ 99999999 := Nat.le_trans (Nat.div_le_self _ _) hn
      have hlen : (dgN k n).length = k := dg_length k n
      generalize n / 10 ^ k = m at HD HDV hm ⊢
      generalize dgN k n = D at HD hlen ⊢
      have hcv := run_convert_bytes_back (P := Tryz.prog) (wr.alloc (.cells #[.int .u8 (48 + (m : Int) % 10)] 5)) 106 9 5 ⟨wr.heap.size, 0, none⟩ 1 [UInt8.ofNat (48 + m % 10)] Tryz.underlying106 Tryz.underlying5 Tryz.underlying9 (fun j hj => by
        obtain rfl : j = 0 := by simpa using hj
        have e1 : (⟨wr.heap.size, 0, none⟩ : Addr).add 0 = ⟨wr.heap.size, 0, none⟩ := by simp [Addr.add]
        rw [e1]
        simp only [List.getElem_cons_zero]
        rw [u8_48]
        simp)
      simp only [List.length_cons, List.length_nil, Nat.zero_add] at hcv
      have hl1 : (⟨[UInt8.ofNat (48 + m % 10)].toArray⟩ : ByteArray).size = 1 := rfl
      have hl2 : (⟨D.toArray⟩ : ByteArray).size = k := by rw [size_mkl, hlen]
      generalize hdd : [UInt8.ofNat (48 + m % 10)] = dl at hcv hl1
      have HDD := Lib.hid hdd
      clear hdd
      go_wp2_with fail
      go_roundw
      case rel =>
        refine ⟨k + 1, by go_num, hlt, ?_, ?_, (HB.out.alloc hbs _)⟩
        · rw [HDV.out]; rfl
        · rw [HD.out, cat_bytes, ← HDD.out]; rfl
      case measure => simp [intOf]; omega
    · obtain rfl : k = 8 := by omega
      have hl2 : (⟨(dgN 8 n).toArray⟩ : ByteArray).size = 8 := by rw [size_mkl, dg_length]
      have HL := Lib.hid (show (⟨#[108, 111, 103, 45]⟩ : ByteArray) ++ ⟨(dgN 8 n).toArray⟩ = ⟨(lname n).toArray⟩ from cat_bytes logP (dgN 8 n))
      generalize dgN 8 n = D at hl2 HL
      go_wp2_with fail
      go_ret
      exact ⟨by rw [← HL.out]; rfl, HB.out⟩
/-- The number of a file's name; -1: none. -/
def numI (s : List UInt8) : Int := match numb s with | some n => (n : Int) | none => -1
theorem numI_no {s : List UInt8} (h : ¬ logT s) : numI s = -1 := by
  have : numb s = none := by unfold numb; rw [if_neg fun c => h c.1]
  unfold numI; rw [this]
theorem numI_big {s : List UInt8} (h : 99999998 < valN (s.drop 4)) : numI s = -1 := by
  have : numb s = none := by unfold numb; rw [if_neg fun c => by omega]
  unfold numI; rw [this]
theorem numI_yes {s : List UInt8} (h : logT s) (hv : ¬ 99999998 < valN (s.drop 4)) : numI s = (valN (s.drop 4) : Nat) := by
  have : numb s = some (valN (s.drop 4)) := by unfold numb; rw [if_pos ⟨h, by omega⟩]
  unfold numI; rw [this]
set_option maxRecDepth 100000 in
set_option maxHeartbeats 4000000 in
theorem number_ref (s : ByteArray) (hs : s.size ≤ maxLen) (w : World) : Calls Tryz.prog 39 #[.string s] w fun e w' => e = .returned (.int .i64 (numI s.data.toList)) ∧ Below w.heap.size w w' := by
  have hlen := Lib.size_eq s
  unfold maxLen at hs
  by_cases h12 : s.size = 12
  · by_cases hc : s.data.toList.take 4 = logP
    · have hpre : ((s.extract 0 4).toList == [108, 111, 103, 45]) = true := by rw [pre_eq, decide_eq_true hc]
      obtain ⟨L, hL⟩ : ∃ L, L = s.data.toList.drop 4 := ⟨_, rfl⟩
      have htz : L.length = 8 := by rw [hL, List.length_drop]; omega
      have hall : (L.take 8).all isD = true → logT s.data.toList := fun ha => by
        refine ⟨by omega, hc, ?_⟩
        rw [List.take_of_length_le (by omega), hL] at ha
        exact ha
      have hno : ∀ (j : Nat) (hj : j < L.length), isD L[j] = false → ¬ logT s.data.toList := fun j hj hf hl => by
        have h3 := hl.2.2
        rw [← hL, all_false_at isD _ j hj hf] at h3
        cases h3
      have hget : ∀ (j : Nat) (hj : j < L.length) (h : 4 + j < s.size), s[4 + j] = L[j] := fun j hj h => by
        have : L[j] = s.data.toList[4 + j]'(by rw [hlen] at h; exact h) := by simp [hL]
        rw [this]; simp; rfl
      have HALL := Lib.hid hall
      have HNO := Lib.hid hno
      have HL := Lib.hid hL
      have HT8 := Lib.hid htz
      have HGET := Lib.hid hget
      clear hall hno hL hlen hc htz hget
      go_enter Tryz.func39, Tryz.ntmps39
      go_wp2_with fail
      go_loop [3, 4] (fun x i => ∃ j : Nat, j ≤ 8 ∧ i = .int .i64 ((4 + j : Nat) : Int) ∧ x = .int .i64 (valN (L.take j) : Nat) ∧ (L.take j).all isD = true) (fun _ i => 12 - (intOf i).toNat)
      case atStart => exact ⟨0, Nat.zero_le _, rfl, rfl, rfl⟩
      case round =>
        obtain ⟨j, hj, rfl, rfl, hB⟩ := hrel
        have hvl := val_lt L j (by have := HT8.out; omega) hB
        have HB := Lib.hid hB
        clear hB
        by_cases hjt : j < 8
        · have hjs : ((4 + j : Nat) : Int) < 12 := by omega
          have hjl : j < L.length := by have := HT8.out; omega
          have hpow : (10 : Nat) ^ j ≤ 10000000 := by
            rcases (by omega : j = 0 ∨ j = 1 ∨ j = 2 ∨ j = 3 ∨ j = 4 ∨ j = 5 ∨ j = 6 ∨ j = 7) with rfl | rfl | rfl | rfl | rfl | rfl | rfl | rfl <;> decide
          have hvm : valN (L.take j) < 10000000 := by omega
          have HE : Hid (valN (L.take (j + 1)) = valN (L.take j) * 10 + (L[j].toNat - 48)) := Lib.hid (by rw [List.take_succ_eq_append_getElem hjl, val_snoc])
          have HA := Lib.hid (all_upto isD L j hjl HB.out)
          have HNJ := Lib.hid (HNO.out j hjl)
          have hks : 4 + j < s.size := by omega
          have hgt := HGET.out j hjl hks
          clear hvl hpow
          generalize valN (L.take j) = v at hvm HE ⊢
          generalize hb : L[j] = b at HE HA HNJ hgt ⊢
          have hg : ∀ h, s[4 + j]'h = b := fun h => hgt
          clear hb hgt
          obtain ⟨q, hq⟩ : ∃ q, q = 4 + j := ⟨_, rfl⟩
          have hq1 : j = q - 4 := by omega
          rw [← hq] at hg hks hjs ⊢
          have hblt := b.toNat_lt
          cases hd : isD b with
          | true =>
            have hd2 := hd
            unfold isD at hd2
            simp only [Bool.and_eq_true, decide_eq_true_eq] at hd2
            obtain ⟨h1, h2⟩ := hd2
            have HQ := Lib.hid hq
            clear hq hq1 hjt
            go_wp2_with fail
            go_round
            case rel => exact ⟨j + 1, by have := HQ.out; omega, by have := HQ.out; go_num, congrArg (Value.int _) (by have := HE.out; omega), HA.out hd⟩
            case measure => simp [intOf]; omega
          | false =>
            have HN := Lib.hid (numI_no (HNJ.out hd))
            clear hq hq1 hjt
            unfold isD at hd
            by_cases h1 : (b.toNat : Int) < 48
            · clear hd
              go_wp2_with fail
              go_ret
              exact ⟨congrArg (fun x => Ending.returned (Value.int .i64 x)) HN.out.symm, Below.refl _ _⟩
            · have h2 : 57 < (b.toNat : Int) := by
                rcases (by omega : 57 < (b.toNat : Int) ∨ (b.toNat : Int) ≤ 57) with c | c
                · exact c
                · rw [decide_eq_true (show 48 ≤ (b.toNat : Int) by omega), decide_eq_true c] at hd; cases hd
              clear hd
              go_wp2_with fail
              go_ret
              exact ⟨congrArg (fun x => Ending.returned (Value.int .i64 x)) HN.out.symm, Below.refl _ _⟩
        · obtain rfl : j = 8 := by omega
          have hv8 : valN (L.take 8) = valN (s.data.toList.drop 4) := by rw [← HL.out, List.take_of_length_le (by have := HT8.out; omega)]
          have HV := Lib.hid hv8
          have HLT := Lib.hid (HALL.out HB.out)
          have hvm : valN (L.take 8) < 100000000 := by have := hvl; omega
          clear hvl hv8
          by_cases hbig : 99999998 < valN (L.take 8)
          · have HN := Lib.hid (numI_big (by rw [← HV.out]; exact hbig))
            have hbi : (99999998 : Int) < (valN (L.take 8) : Nat) := by omega
            generalize valN (L.take 8) = v at hvm hbi ⊢
            clear hbig
            go_wp2_with fail
            go_ret
            exact ⟨congrArg (fun x => Ending.returned (Value.int .i64 x)) HN.out.symm, Below.refl _ _⟩
          · have HN := Lib.hid (numI_yes HLT.out (by rw [← HV.out]; exact hbig))
            have hbi : ¬ (99999998 : Int) < (valN (L.take 8) : Nat) := by omega
            rw [← HV.out] at HN
            generalize valN (L.take 8) = v at hvm hbi HN ⊢
            clear hbig
            go_wp2_with fail
            go_ret
            exact ⟨congrArg (fun x => Ending.returned (Value.int .i64 x)) HN.out.symm, Below.refl _ _⟩
    · have hpre : ((s.extract 0 4).toList == [108, 111, 103, 45]) = false := by rw [pre_eq, decide_eq_false hc]
      have HN := Lib.hid (numI_no (fun h => hc h.2.1))
      clear hc hlen
      go_enter Tryz.func39, Tryz.ntmps39
      go_wp2_with fail
      go_ret
      exact ⟨congrArg (fun x => Ending.returned (Value.int .i64 x)) HN.out.symm, Below.refl _ _⟩
  · have HN := Lib.hid (numI_no (s := s.data.toList) fun h => h12 (by rw [hlen]; exact h.1))
    have h12' : (s.size : Int) ≠ 12 := by omega
    clear hlen
    go_enter Tryz.func39, Tryz.ntmps39
    go_wp2_with fail
    go_ret
    exact ⟨congrArg (fun x => Ending.returned (Value.int .i64 x)) HN.out.symm, Below.refl _ _⟩
end Go.Proofs.YtkfmjkcomjmedaaGreat
namespace Go.Proofs.YtkfmjkcomjmedaaGreat
open Go.RowKit
set_option linter.unusedVariables false
set_option linter.unusedSimpArgs false

set_option maxRecDepth 100000 in
set_option maxHeartbeats 4000000 in
theorem sync_ref {w : World} {q : Value} {S : Ds} (h : RefD w q S) (hl : S.files.length ≤ 100000) (hs : Srt S.files) (hf : -9223372036854775808 ≤ S.fuse ∧ S.fuse ≤ 9223372036854775807) (nm : List UInt8) (hn : nm.length ≤ maxLen) :
    Calls Tryz.prog 53 #[q, .string ⟨nm.toArray⟩] w (DoR w (S.sync nm).1 (S.sync nm).2) := by
  have HD := Lib.hid h
  obtain ⟨a, c, rfl, h1, h2, h3⟩ := h
  obtain ⟨ln, hln⟩ : ∃ ln, ln = S.files.length := ⟨_, rfl⟩
  have HS := Lib.hid hs
  have HF := Lib.hid hf
  have HL := Lib.hid hl
  have HN := Lib.hid (wname_list nm hn)
  rw [← hln] at HD hl ⊢
  have HLN := Lib.hid hln
  clear h1 h2 h3 hs hln hf hn
  go_enter Tryz.func53, Tryz.ntmps53
  go_upto_if 11 with (go_at_call 57; refine (HN.out _).mono ?_; rintro e wn ⟨rfl, rfl⟩)
  generalize hW : World.alloc (World.alloc w _) _ = W
  have BB : Below w.heap.size w W := by rw [← hW]; exact ((Below.refl _ _).alloc (Nat.le_refl _) _).alloc (by simp) _
  have HB : Bx W w.heap.size a ln c S.fuse S.off := by rw [← hW]; exact (Bx.new ..).old ((Below.refl _ _).alloc (Nat.le_refl _) _)
  have HR : Bx W (w.heap.size + 1) none 0 0 0 false := by rw [← hW]; have := Bx.new (w.alloc (.cells #[.slice a ln c, .int .i64 S.fuse, .bool S.off] 28)) none 0 0 0 false 28; simpa using this
  have hsz : W.heap.size = w.heap.size + 2 := by rw [← hW]; simp
  clear hW
  have BB := Lib.hid BB
  have HQ := Lib.hid (HD.out.old BB.out)
  cases hnm : namL nm with
  | false =>
    have HRR := Lib.hid HR
    obtain ⟨x0, x1, x2, z0, z1, z2, -⟩ := HB
    obtain ⟨y0, y1, y2, v0, v1, v2, -⟩ := HR
    go_wp2_with fail
    have kf := HRR.out.put a (ln) c (S.fuse) S.off
    have qf := RefD.put HRR.out HQ.out a (ln) c (S.fuse) S.off
    have bf := put3_below BB.out (Nat.le_succ w.heap.size) a (ln) c (S.fuse) S.off
    show bodyPost _ _ _ _ _ (put3 W (w.heap.size + 1) a (ln) c (S.fuse) S.off)
    generalize put3 W (w.heap.size + 1) a (ln) c (S.fuse) S.off = WF at kf qf bf ⊢
    obtain ⟨k0, k1, k2, -⟩ := kf
    refine bodyPost_ret (v := .tuple #[.agg #[.slice a (ln) c, .int .i64 (S.fuse), .bool S.off], .int .i64 1]) (by simp [results, Tryz.f53, go_sem, k0, k1, k2]) rfl ?_
    rw [sync_no hnm]
    exact ⟨_, rfl, qf, bf⟩
  | true =>
    obtain ⟨T, hT⟩ : ∃ T, T = S.begin true := ⟨_, rfl⟩
    have hTf : T.files = S.files := by rw [hT]; rfl
    obtain ⟨E, hE⟩ : ∃ E, E = begE true S.fuse S.off := ⟨_, rfl⟩
    have hdo := doing_ref HQ.out HF.out
    rw [← hT, ← hE] at hdo
    have HDO := Lib.hid hdo
    have HT := Lib.hid hT
    have HE := Lib.hid hE
    have HTF := Lib.hid hTf
    have HTL := Lib.hid (show T.files.length = ln by rw [hTf, HLN.out])
    have HNM := Lib.hid hnm
    clear hdo hT hE hTf
    have HBB := Lib.hid HB
    have HRR := Lib.hid HR
    clear HB HR
    obtain ⟨x0, x1, x2, z0, z1, z2, -⟩ := HBB.out
    go_wp2_with fail
    go_at_call 66
    refine HDO.out.mono ?_
    rintro e wd ⟨q1, rfl, hq1, b1⟩
    have HQ1 := Lib.hid hq1
    obtain ⟨a1, c1, eq1, r1, g1, g2⟩ := hq1
    rw [HTL.out] at eq1
    subst eq1
    clear x0 x1 x2 z0 z1 z2
    have hb2 := HBB.out.old b1
    have hr2 := HRR.out.old b1
    have HB2 := Lib.hid hb2
    have HR2 := Lib.hid hr2
    have BB2 := Lib.hid (BB.out.trans (b1.mono (by omega)))
    have hsz2 := b1.size
    obtain ⟨x0, x1, x2, z0, z1, z2, -⟩ := hb2
    clear hr2 b1 r1
    go_upto_if 19 with fail
    have HB3 := HB2.out.put a1 ln c1 T.fuse T.off
    have HR3 := HR2.out.other (show w.heap.size + 1 ≠ w.heap.size by omega) a1 ln c1 T.fuse T.off
    have HQ3 := RefD.put HB2.out HQ1.out a1 ln c1 T.fuse T.off
    have BB3 := put3_below BB2.out (Nat.le_refl w.heap.size) a1 ln c1 T.fuse T.off
    have hs3 := put3_size wd w.heap.size a1 ln c1 T.fuse T.off
    show Code.wp _ _ _ _ (put3 wd w.heap.size a1 ln c1 T.fuse T.off)
    generalize put3 wd w.heap.size a1 ln c1 T.fuse T.off = W3 at HB3 HR3 HQ3 BB3 hs3 ⊢
    have hb4 := Lib.hid HB3
    have hr4 := Lib.hid HR3
    have HQ4 := Lib.hid HQ3
    have BB4 := Lib.hid BB3
    obtain ⟨p0, p1, p2, s0, s1, s2, -⟩ := HB3
    obtain ⟨y0, y1, y2, v0, v1, v2, -⟩ := HR3
    clear x0 x1 x2 z0 z1 z2 HQ3 BB3
    rcases begE_two S.fuse S.off with h50 | h50
    · have e0 := HE.out
      rw [h50] at e0
      subst e0
      go_wp2_with fail
      go_at_call 58
      refine (find_ref HQ4.out (by rw [HTL.out]; omega) nm).mono ?_
      rintro e W5 ⟨rfl, b5⟩
      have HB5 := Lib.hid (hb4.out.old b5)
      have HR5 := Lib.hid (hr4.out.old b5)
      have HQ5 := Lib.hid (HQ4.out.old b5)
      have BB5 := Lib.hid (BB4.out.trans (b5.mono (by omega)))
      have hs5 := b5.size
      clear p0 p1 p2 s0 s1 s2 y0 y1 y2 v0 v1 v2 b5
      obtain ⟨p0, p1, p2, s0, s1, s2, -⟩ := HB5.out
      obtain ⟨y0, y1, y2, v0, v1, v2, -⟩ := HR5.out
      have HSRT := Lib.hid (show Srt T.files by rw [HTF.out]; exact HS.out)
      rcases fIdx_cases nm T.files with ⟨i1, i2, i3⟩ | ⟨k, hk, i1, i2, i3⟩
      · rw [i1]
        rw [HTF.out] at i2
        clear i1
        go_wp2_with fail
        have kf := HR5.out.put a1 (ln) c1 (T.fuse) T.off
        have qf := RefD.put HR5.out HQ5.out a1 (ln) c1 (T.fuse) T.off
        have bf := put3_below BB5.out (Nat.le_succ w.heap.size) a1 (ln) c1 (T.fuse) T.off
        show bodyPost _ _ _ _ _ (put3 W5 (w.heap.size + 1) a1 (ln) c1 (T.fuse) T.off)
        generalize put3 W5 (w.heap.size + 1) a1 (ln) c1 (T.fuse) T.off = WF at kf qf bf ⊢
        obtain ⟨k0, k1, k2, -⟩ := kf
        refine bodyPost_ret (v := .tuple #[.agg #[.slice a1 (ln) c1, .int .i64 (T.fuse), .bool T.off], .int .i64 3]) (by simp [results, Tryz.f53, go_sem, k0, k1, k2]) rfl ?_
        rw [sync_none HNM.out h50 i2, ← HT.out]
        exact ⟨_, rfl, qf, bf⟩
      · rw [i1]
        have hkl : k < ln := by rw [← HTL.out]; exact hk
        obtain ⟨fl, hfl⟩ : ∃ fl, fl = T.files[k].2 := ⟨_, rfl⟩
        rw [← hfl] at i3
        have i3' := i3
        rw [HTF.out] at i3'
        have HFL := Lib.hid hfl
        clear hfl
        clear i1
        have hlen : (⟨fl.bytes.toArray⟩ : ByteArray).size = fl.bytes.length := Lib.size_eq _
        obtain ⟨rd5, -, -, -⟩ := HQ5.out.rd
        obtain ⟨b, o, rfl, hb, m0, m1, m2⟩ := rd5.at hk
        rw [i2] at m0
        rw [← HFL.out] at m1 m2
        clear i2 rd5
        go_upto_region 10 with fail
        generalize hW6 : World.alloc W5 _ = W6
        have b6 : Below W5.heap.size W5 W6 := by rw [← hW6]; exact (Below.refl _ _).alloc (Nat.le_refl _) _
        have n0 : W6.cell? ⟨W5.heap.size, 0, none⟩ = some (.string ⟨nm.toArray⟩) := by rw [← hW6]; simp [go_sem]
        have n1 : W6.cell? ⟨W5.heap.size, 1, none⟩ = some (.string ⟨fl.bytes.toArray⟩) := by rw [← hW6]; simp [go_sem]
        have n2 : W6.cell? ⟨W5.heap.size, 2, none⟩ = some (.int .i64 (fl.sure : Int)) := by rw [← hW6]; simp [go_sem]
        have u1 : W6.frozen? ⟨W5.heap.size, 1, none⟩ = false := by rw [← hW6]; simp [go_sem]
        have u2 : W6.frozen? ⟨W5.heap.size, 2, none⟩ = false := by rw [← hW6]; simp [go_sem]
        have HB6 := Lib.hid (HB5.out.old b6)
        have B6 := Lib.hid b6
        have HR6 := Lib.hid (HR5.out.old b6)
        have HQ6 := Lib.hid (HQ5.out.old b6)
        have BB6 := Lib.hid (BB5.out.trans (b6.mono (by omega)))
        have hs6 := b6.size
        clear hW6 b6 p0 p1 p2 s0 s1 s2 y0 y1 y2 v0 v1 v2 m0 m1 m2
        obtain ⟨p0, p1, p2, s0, s1, s2, -⟩ := HB6.out
        obtain ⟨y0, y1, y2, v0, v1, v2, -⟩ := HR6.out
        go_wp2_with fail
        have b6x : Below W5.heap.size W5 (W6.setCell ⟨W5.heap.size, 2, none⟩ (.int .i64 (fl.bytes.length : Int))) := B6.out.setCell (Nat.le_refl _) _
        generalize W6.setCell ⟨W5.heap.size, 2, none⟩ (.int .i64 (fl.bytes.length : Int)) = W6x at b6x ⊢
        have HR6x := Lib.hid (HR5.out.old b6x)
        have HQ6x := Lib.hid (HQ5.out.old b6x)
        have BB6x := Lib.hid (BB5.out.trans (b6x.mono (by omega)))
        have hs6x := b6x.size
        clear p0 p1 p2 s0 s1 s2 y0 y1 y2 v0 v1 v2 n0 n1 n2 u1 u2 b6x
        go_at_call 69
        refine (with_ref HQ6x.out (by rw [HTL.out]; omega) HSRT.out nm fl.bytes fl.bytes.length).mono ?_
        rintro e W7 ⟨q7, rfl, ⟨a7, c7, rfl, r7, g7, g8⟩, b7⟩
        have HQ7 := Lib.hid (show RefD W7 _ ⟨putL nm ⟨fl.bytes, fl.bytes.length⟩ T.files, T.fuse, T.off⟩ from ⟨a7, c7, rfl, r7, g7, g8⟩)
        have HR7 := Lib.hid (HR6x.out.old b7)
        have BB7 := Lib.hid (BB6x.out.trans (b7.mono (by omega)))
        clear b7 r7
        obtain ⟨y0, y1, y2, v0, v1, v2, -⟩ := HR7.out
        go_wp2_with fail
        have kf := HR7.out.put a7 ((putL nm (⟨fl.bytes, fl.bytes.length⟩ : Fl) T.files).length) c7 (T.fuse) T.off
        have qf := RefD.put HR7.out HQ7.out a7 ((putL nm (⟨fl.bytes, fl.bytes.length⟩ : Fl) T.files).length) c7 (T.fuse) T.off
        have bf := put3_below BB7.out (Nat.le_succ w.heap.size) a7 ((putL nm (⟨fl.bytes, fl.bytes.length⟩ : Fl) T.files).length) c7 (T.fuse) T.off
        show bodyPost _ _ _ _ _ (put3 W7 (w.heap.size + 1) a7 ((putL nm (⟨fl.bytes, fl.bytes.length⟩ : Fl) T.files).length) c7 (T.fuse) T.off)
        generalize put3 W7 (w.heap.size + 1) a7 ((putL nm (⟨fl.bytes, fl.bytes.length⟩ : Fl) T.files).length) c7 (T.fuse) T.off = WF at kf qf bf ⊢
        obtain ⟨k0, k1, k2, -⟩ := kf
        refine bodyPost_ret (v := .tuple #[.agg #[.slice a7 ((putL nm (⟨fl.bytes, fl.bytes.length⟩ : Fl) T.files).length) c7, .int .i64 (T.fuse), .bool T.off], .int .i64 0]) (by simp [results, Tryz.f53, go_sem, k0, k1, k2]) rfl ?_
        rw [sync_yes HNM.out h50 i3' HS.out, ← HT.out]
        exact ⟨_, rfl, qf, bf⟩
    · have e0 := HE.out
      rw [h50] at e0
      subst e0
      go_wp2_with fail
      have kf := hr4.out.put a1 (ln) c1 (T.fuse) T.off
      have qf := RefD.put hr4.out HQ4.out a1 (ln) c1 (T.fuse) T.off
      have bf := put3_below BB4.out (Nat.le_succ w.heap.size) a1 (ln) c1 (T.fuse) T.off
      show bodyPost _ _ _ _ _ (put3 W3 (w.heap.size + 1) a1 (ln) c1 (T.fuse) T.off)
      generalize put3 W3 (w.heap.size + 1) a1 (ln) c1 (T.fuse) T.off = WF at kf qf bf ⊢
      obtain ⟨k0, k1, k2, -⟩ := kf
      refine bodyPost_ret (v := .tuple #[.agg #[.slice a1 (ln) c1, .int .i64 (T.fuse), .bool T.off], .int .i64 50]) (by simp [results, Tryz.f53, go_sem, k0, k1, k2]) rfl ?_
      rw [sync_off HNM.out h50, ← HT.out]
      exact ⟨_, rfl, qf, bf⟩
end Go.Proofs.YtkfmjkcomjmedaaGreat
namespace Go.Proofs.YtkfmjkcomjmedaaGreat
open Go.RowKit
set_option linter.unusedVariables false
set_option linter.unusedSimpArgs false

theorem Bx.setc {W : World} {B : Nat} {a : Option Addr} {n c : Nat} {f : Int} {o : Bool} (h : Bx W B a n c f o) {b : Nat} (hne : B ≠ b) (i : Nat) (u : Value) : Bx (W.setCell ⟨b, i, none⟩ u) B a n c f o := by
  have hc : ∀ j, (W.setCell ⟨b, i, none⟩ u).cell? ⟨B, j, none⟩ = W.cell? ⟨B, j, none⟩ := fun j => World.cell?_setCell_other _ _ _ _ (by intro e; simp at e <;> omega)
  refine ⟨(hc 0).trans h.c0, (hc 1).trans h.c1, (hc 2).trans h.c2, ?_, ?_, ?_, fun j s e => h.ns j s ((hc j).symm.trans e)⟩
  · simp [go_sem, h.f0]
  · simp [go_sem, h.f1]
  · simp [go_sem, h.f2]
theorem RefD.setc {W : World} {q : Value} {S : Ds} (h : RefD W q S) {B : Nat} (hn : NoStr W B) (i : Nat) (u : Value) : RefD (W.setCell ⟨B, i, none⟩ u) q S := by
  obtain ⟨a, c, h1, h2, h3⟩ := h
  exact ⟨a, c, h1, h2.apart hn i u, h3⟩
set_option maxRecDepth 100000 in
set_option maxHeartbeats 1000000 in
theorem new_ref (w : World) : Calls Tryz.prog 5 #[] w fun e w' => ∃ q', e = .returned q' ∧ RefD w' q' ⟨[], -1, false⟩ ∧ Below w.heap.size w w' := by
  go_enter Tryz.func5, Tryz.ntmps5
  go_wp2_with fail
  refine bodyPost_ret (v := .agg #[.slice none 0 0, .int .i64 (-1), .bool false]) (by simp [results, Tryz.f5, go_sem]) rfl ?_
  refine ⟨_, rfl, ⟨none, 0, rfl, .inl rfl, Nat.le_refl _, by decide⟩, ?_⟩
  exact (Below.refl _ _).alloc (Nat.le_refl _) _
set_option maxRecDepth 100000 in
set_option maxHeartbeats 2000000 in
theorem fuse_ref {w : World} {q : Value} {S : Ds} (h : RefD w q S) (n : Int) :
    Calls Tryz.prog 26 #[q, .int .i64 n] w fun e w' => ∃ q', e = .returned q' ∧ RefD w' q' ⟨S.files, max n (-1), S.off⟩ ∧ Below w.heap.size w w' := by
  have HD := Lib.hid h
  obtain ⟨a, c, rfl, h1, h2, h3⟩ := h
  obtain ⟨ln, hln⟩ : ∃ ln, ln = S.files.length := ⟨_, rfl⟩
  rw [← hln]
  rw [← hln] at HD h2
  have HF := Lib.hid (show ∀ W, RefD W (.agg #[.slice a ln c, .int .i64 S.fuse, .bool S.off]) S → RefD W (.agg #[.slice a ln c, .int .i64 (max n (-1)), .bool S.off]) ⟨S.files, max n (-1), S.off⟩ from fun W h => by
    obtain ⟨r1, r2, r3, r4⟩ := h.rd
    exact ⟨a, c, by rw [hln], r1, by show S.files.length ≤ c; rw [← hln]; exact r3, r4⟩)
  clear h1 h2 h3 hln
  go_enter Tryz.func26, Tryz.ntmps26
  go_upto_region 1 with fail
  generalize hW : World.alloc (World.alloc w _) _ = W
  have BB : Below w.heap.size w W := by rw [← hW]; exact ((Below.refl _ _).alloc (Nat.le_refl _) _).alloc (by simp) _
  have HB : Bx W w.heap.size a ln c S.fuse S.off := by rw [← hW]; exact (Bx.new ..).old ((Below.refl _ _).alloc (Nat.le_refl _) _)
  have HR : Bx W (w.heap.size + 1) none 0 0 0 false := by rw [← hW]; have := Bx.new (w.alloc (.cells #[.slice a ln c, .int .i64 S.fuse, .bool S.off] 28)) none 0 0 0 false 28; simpa using this
  clear hW
  have HQ := Lib.hid (HD.out.old BB)
  have HBB := Lib.hid HB
  have HRR := Lib.hid HR
  have BB := Lib.hid BB
  obtain ⟨x0, x1, x2, z0, z1, z2, -⟩ := HB
  obtain ⟨y0, y1, y2, v0, v1, v2, -⟩ := HR
  go_wp2_with fail
  have HQ1 := fun u => (HF.out _ HQ.out).setc HBB.out.ns 1 u
  have HR1 := fun u => HRR.out.setc (show w.heap.size + 1 ≠ w.heap.size by omega) 1 u
  have BB1 : ∀ u, Below w.heap.size w (W.setCell ⟨w.heap.size, 1, none⟩ u) := fun u => BB.out.setCell (Nat.le_refl _) u
  have HQ2 := HQ1 (.int .i64 (max n (-1)))
  have HR2 := HR1 (.int .i64 (max n (-1)))
  have BB2 := BB1 (.int .i64 (max n (-1)))
  clear HQ1 HR1 BB1
  generalize W.setCell ⟨w.heap.size, 1, none⟩ (.int .i64 (max n (-1))) = W1 at HQ2 HR2 BB2 ⊢
  have kf := HR2.put a ln c (max n (-1)) S.off
  have qf := RefD.put HR2 HQ2 a ln c (max n (-1)) S.off
  have bf := put3_below BB2 (Nat.le_succ w.heap.size) a ln c (max n (-1)) S.off
  show bodyPost _ _ _ _ _ (put3 W1 (w.heap.size + 1) a ln c (max n (-1)) S.off)
  generalize put3 W1 (w.heap.size + 1) a ln c (max n (-1)) S.off = WF at kf qf bf ⊢
  obtain ⟨k0, k1, k2, -⟩ := kf
  refine bodyPost_ret (v := .agg #[.slice a ln c, .int .i64 (max n (-1)), .bool S.off]) (by simp [results, Tryz.f26, go_sem, k0, k1, k2]) rfl ?_
  exact ⟨_, rfl, qf, bf⟩
/-! ### Read -/
theorem look_name {S : Ds} {n : List UInt8} (h : namL n = false) : S.lookE n = 1 ∧ S.bytesOf n = [] ∧ S.sureOf n = 0 := by
  have e : S.lookE n = 1 := by unfold Ds.lookE askE; rw [h]; simp
  exact ⟨e, by unfold Ds.bytesOf; rw [e]; rfl, by unfold Ds.sureOf; rw [e]; rfl⟩
theorem look_off {S : Ds} {n : List UInt8} (h : namL n = true) (ho : S.off = true) : S.lookE n = 50 ∧ S.bytesOf n = [] ∧ S.sureOf n = 0 := by
  have e : S.lookE n = 50 := by unfold Ds.lookE askE; rw [h, ho]; simp
  exact ⟨e, by unfold Ds.bytesOf; rw [e]; rfl, by unfold Ds.sureOf; rw [e]; rfl⟩
theorem look_none {S : Ds} {n : List UInt8} (h : namL n = true) (ho : S.off = false) (hg : getL n S.files = none) : S.lookE n = 3 ∧ S.bytesOf n = [] ∧ S.sureOf n = 0 := by
  have e : S.lookE n = 3 := by unfold Ds.lookE askE; rw [h, ho, hg]; simp [fE]
  exact ⟨e, by unfold Ds.bytesOf; rw [e]; rfl, by unfold Ds.sureOf; rw [e]; rfl⟩
theorem look_yes {S : Ds} {n : List UInt8} {f : Fl} (h : namL n = true) (ho : S.off = false) (hg : getL n S.files = some f) : S.lookE n = 0 ∧ S.bytesOf n = f.bytes ∧ S.sureOf n = f.sure := by
  have e : S.lookE n = 0 := by unfold Ds.lookE askE; rw [h, ho, hg]; simp [fE]
  exact ⟨e, by unfold Ds.bytesOf; rw [e, hg]; rfl, by unfold Ds.sureOf; rw [e, hg]; rfl⟩
theorem read_end {S : Ds} {n bs : List UInt8} {x : Int} {su : Nat} (h : S.lookE n = x ∧ S.bytesOf n = bs ∧ S.sureOf n = su) : Ending.returned (.tuple #[.string ⟨bs.toArray⟩, .int .i64 (su : Int), .int .i64 x]) = .returned (.tuple #[.string ⟨(S.bytesOf n).toArray⟩, .int .i64 (S.sureOf n : Int), .int .i64 (S.lookE n)]) := by
  obtain ⟨rfl, rfl, rfl⟩ := h
  rfl
set_option maxRecDepth 100000 in
set_option maxHeartbeats 2000000 in
theorem read_ref {w : World} {q : Value} {S : Ds} (h : RefD w q S) (hl : S.files.length ≤ 100000) (nm : List UInt8) (hn : nm.length ≤ maxLen) :
    Calls Tryz.prog 30 #[q, .string ⟨nm.toArray⟩] w fun e w' => e = .returned (.tuple #[.string ⟨(S.bytesOf nm).toArray⟩, .int .i64 (S.sureOf nm : Int), .int .i64 (S.lookE nm)]) ∧ Below w.heap.size w w' := by
  have HD := Lib.hid h
  obtain ⟨a, c, rfl, h1, h2, h3⟩ := h
  obtain ⟨ln, hln⟩ : ∃ ln, ln = S.files.length := ⟨_, rfl⟩
  rw [← hln] at HD hl ⊢
  have HN := Lib.hid (wname_list nm hn)
  have HLN := Lib.hid hln
  clear h1 h2 h3 hln hn
  go_enter Tryz.func30, Tryz.ntmps30
  go_upto_if 10 with (go_at_call 57; refine (HN.out _).mono ?_; rintro e wn ⟨rfl, rfl⟩)
  generalize hW : World.alloc w _ = W
  have BB : Below w.heap.size w W := by rw [← hW]; exact (Below.refl _ _).alloc (Nat.le_refl _) _
  have HB : Bx W w.heap.size a ln c S.fuse S.off := by rw [← hW]; exact Bx.new ..
  have hsz : W.heap.size = w.heap.size + 1 := by rw [← hW]; simp
  clear hW
  have HQ := Lib.hid (HD.out.old BB)
  have HBB := Lib.hid HB
  have BB := Lib.hid BB
  obtain ⟨x0, x1, x2, z0, z1, z2, -⟩ := HB
  cases hnm : namL nm with
  | false =>
    have E := Lib.hid (read_end (look_name (S := S) hnm))
    go_wp2_with fail
    go_ret3
    exact ⟨E.out, BB.out⟩
  | true =>
    have HNM := Lib.hid hnm
    clear hnm
    cases hof : S.off with
    | true =>
      have E := Lib.hid (read_end (look_off HNM.out hof))
      rw [hof] at x2
      go_wp2_with fail
      go_ret3
      exact ⟨E.out, BB.out⟩
    | false =>
      have HOF := Lib.hid hof
      rw [hof] at x2
      have HQ := Lib.hid (show RefD W (.agg #[.slice a ln c, .int .i64 S.fuse, .bool false]) S by rw [← hof]; exact HQ.out)
      clear hof
      go_wp2_with fail
      go_at_call 58
      refine (find_ref HQ.out (by rw [← HLN.out]; omega) nm).mono ?_
      rintro e W5 ⟨rfl, b5⟩
      have HB5 := HBB.out.old b5
      have HQ5 := HQ.out.old b5
      have BB5 := Lib.hid (BB.out.trans (b5.mono (by omega)))
      clear x0 x1 x2 z0 z1 z2 b5
      obtain ⟨x0, x1, x2, z0, z1, z2, -⟩ := HB5
      rcases fIdx_cases nm S.files with ⟨i1, i2, i3⟩ | ⟨k, hk, i1, i2, i3⟩
      · rw [i1]
        have E := Lib.hid (read_end (look_none HNM.out HOF.out i2))
        clear i1 i2 i3
        go_wp2_with fail
        go_ret3
        exact ⟨E.out, BB5.out⟩
      · rw [i1]
        have E := Lib.hid (read_end (look_yes HNM.out HOF.out i3))
        obtain ⟨rd5, -, -, -⟩ := HQ5.rd
        obtain ⟨b, o, rfl, hb, m0, m1, m2⟩ := rd5.at hk
        have hkl : k < ln := by rw [HLN.out]; exact hk
        generalize S.files[k].2.bytes = bs at m1 E
        generalize S.files[k].2.sure = su at m2 E
        clear i1 i2 i3 m0 HQ5 rd5
        go_wp2_with fail
        go_quiet (fail)
        go_wp2_with fail
        go_ret3
        exact ⟨E.out, below_drewN BB5.out _⟩
end Go.Proofs.YtkfmjkcomjmedaaGreat
namespace Go.Proofs.YtkfmjkcomjmedaaGreat
open Go.RowKit
set_option linter.unusedVariables false
set_option linter.unusedSimpArgs false

theorem lit_one (w : World) (x : Value) (t : TypeId) : ∀ y, (some ⟨w.heap.size, 0, none⟩ : Option Addr) = some y → ∀ j u, ([x] : List Value)[j]? = some u → (w.alloc (.cells #[x] t)).cell? (y.add j) = some u := by
  intro y hy j u hj
  cases hy
  have e : (⟨w.heap.size, 0, none⟩ : Addr).add j = ⟨w.heap.size, j, none⟩ := by unfold Addr.add; split <;> simp_all
  rw [e, World.cell?_alloc_new]
  match j, hj with
  | 0, hj => simpa using hj
  | j + 1, hj => simp at hj
theorem nlist_take {l : List Fe} {k : Nat} (hk : k < l.length) : (l.map (·.1)).take (k + 1) = (l.map (·.1)).take k ++ [l[k].1] := by
  rw [List.take_succ_eq_append_getElem (by simpa using hk)]
  simp
set_option maxRecDepth 100000 in
set_option maxHeartbeats 2000000 in
theorem names_ref {w : World} {q : Value} {S : Ds} (h : RefD w q S) (hl : S.files.length ≤ 100000) :
    Calls Tryz.prog 28 #[q] w fun e w' => ∃ a cap, e = .returned (.slice a S.files.length cap) ∧ Rd w' a (S.files.map (·.1)) ∧ Below w.heap.size w w' := by
  have HD := Lib.hid h
  obtain ⟨a, c, rfl, h1, h2, h3⟩ := h
  obtain ⟨ln, hln⟩ : ∃ ln, ln = S.files.length := ⟨_, rfl⟩
  obtain ⟨l, hle⟩ : ∃ l, l = S.files := ⟨_, rfl⟩
  rw [← hle] at hln h1
  rw [← hle, ← hln]
  rw [← hle, ← hln] at hl
  have H1 := Lib.hid h1
  have HLN := Lib.hid hln
  rw [← hle, ← hln] at h2
  clear h1 hln hle HD h3
  obtain ⟨i0, hi, hz0, hz1, hz2⟩ := info_parts Tryz.infoStr
  go_enter Tryz.func28, Tryz.ntmps28
  go_wp2_with fail
  generalize hW : World.alloc w _ = W
  have BB : Below w.heap.size w W := by rw [← hW]; exact (Below.refl _ _).alloc (Nat.le_refl _) _
  have x0 : W.cell? ⟨w.heap.size, 0, none⟩ = some (.slice a ln c) := by rw [← hW]; simp
  have hsz : W.heap.size = w.heap.size + 1 := by rw [← hW]; simp
  clear hW
  have R1 := Lib.hid (H1.out.old BB)
  have BB := Lib.hid BB
  go_loopw [3, 4] (fun v i wr => ∃ k : Nat, i = .int .i64 k ∧ k ≤ ln ∧ wr.ownsRow W.heap.size 9 1 v k (sv ((l.map (·.1)).take k)) ∧ Below W.heap.size W wr) (fun _ i _ => ln - (intOf i).toNat)
  case atStart => exact ⟨0, rfl, Nat.zero_le _, World.ownsRow_nil _ _ _ _, Below.refl _ _⟩
  case round =>
    obtain ⟨k, rfl, hk, own, bw⟩ := hrel
    have y0 := (bw.cell (p := ⟨w.heap.size, 0, none⟩) (cell_lt x0)).trans x0
    have hws := bw.size
    have BW := Lib.hid bw
    have O1 := Lib.hid own
    clear own bw
    by_cases hlt : k < ln
    · have hkl : k < l.length := by rw [← HLN.out]; exact hlt
      obtain ⟨b, off, rfl, hb, c0, -, -⟩ := (R1.out.old BW.out).at hkl
      have hkc : (k : Int) < ln := by omega
      have HT := Lib.hid (nlist_take hkl)
      obtain ⟨m, hm⟩ : ∃ m, m = l[k].1 := ⟨_, rfl⟩
      rw [← hm] at c0 HT
      clear hm
      go_wp2_with (at_builtin; generalize hG : wpList _ _ _ _ _ _ = G)
      rw [← hG]
      clear hG
      refine wpList_append_any rfl _ _ 31 rfl W.heap.size 9 i0 (.string ⟨#[]⟩) 1 16 Tryz.underlying31 hi hz0 hz1 hz2 rfl (by decide) _ k _ rfl (O1.out.alloc _) (some ⟨wr.heap.size, 0, none⟩) 1 _ [.string ⟨m.toArray⟩] rfl (fun h => by cases h) rfl (lit_one wr _ _) (by intro u hu; simp at hu; subst hu; rfl) (by unfold maxLen; omega) (by omega) (by simp; omega) ?_
      intro v2 w2 own2 bl2
      rw [sv_snoc, ← HT.out] at own2
      have BW2 := Lib.hid (BW.out.trans ((((Below.refl wr.heap.size wr).alloc (Nat.le_refl _) (.cells #[.string ⟨m.toArray⟩] 9)).mono hws).trans bl2))
      have O2 := Lib.hid own2
      clear own2 bl2
      go_wp2_with fail
      go_roundw
      case rel => exact ⟨k + 1, by go_num, hlt, O2.out, BW2.out⟩
      case measure => simp [intOf]; omega
    · obtain rfl : k = ln := by omega
      have hk2 : ¬ (k : Int) < k := by omega
      obtain ⟨v, cap, rfl⟩ := own_slice O1.out
      go_wp2_with fail
      go_ret
      have e : (l.map (·.1)).take k = l.map (·.1) := List.take_of_length_le (by rw [List.length_map, HLN.out]; exact Nat.le_refl _)
      have o := O1.out
      rw [e] at o
      have hn : (l.map (·.1)).length = k := by rw [List.length_map, HLN.out]
      exact ⟨v, ⟨cap, rfl⟩, own_rd (by rw [hn]; exact o), BB.out.trans (BW.out.mono (by omega))⟩
end Go.Proofs.YtkfmjkcomjmedaaGreat
namespace Go.Proofs.YtkfmjkcomjmedaaGreat
open Go.RowKit
set_option linter.unusedVariables false
set_option linter.unusedSimpArgs false

/-- A list of numbers wherever it lies. -/
def RdK (w : World) (a : Option Addr) (ks : List Int) : Prop := ks = [] ∨ ∃ b off, a = some ⟨b, off, none⟩ ∧ b < w.heap.size ∧ ∀ i (h : i < ks.length), w.cell? ⟨b, off + i, none⟩ = some (.int .i64 ks[i])
theorem RdK.old {w w' : World} {a : Option Addr} {ks : List Int} (h : RdK w a ks) {B : Nat} (hb : Below B w w') (hB : ∀ b off, a = some ⟨b, off, none⟩ → b < B) : RdK w' a ks := by
  rcases h with rfl | ⟨b, off, rfl, hlt, hc⟩
  · exact .inl rfl
  · exact .inr ⟨b, off, rfl, Nat.lt_of_lt_of_le hlt hb.size, fun i hi => (hb.cell (p := ⟨b, off + i, none⟩) (hB _ _ rfl)).trans (hc i hi)⟩
theorem RdK.olds {w w' : World} {a : Option Addr} {ks : List Int} (h : RdK w a ks) (hb : Below w.heap.size w w') : RdK w' a ks := by
  rcases h with rfl | ⟨b, off, rfl, hlt, hc⟩
  · exact .inl rfl
  · exact .inr ⟨b, off, rfl, Nat.lt_of_lt_of_le hlt hb.size, fun i hi => (hb.cell (p := ⟨b, off + i, none⟩) hlt).trans (hc i hi)⟩
def crashL (ks : List Int) (l : List Fe) : List Fe := l.mapIdx fun j p => (p.1, cutF (keepAt ks j) p.2)
theorem crashL_len (ks : List Int) (l : List Fe) : (crashL ks l).length = l.length := by simp [crashL]
theorem crashL_take {ks : List Int} {l : List Fe} {k : Nat} (hk : k < l.length) : (crashL ks l).take (k + 1) = (crashL ks l).take k ++ [(l[k].1, cutF (keepAt ks k) l[k].2)] := by
  rw [List.take_succ_eq_append_getElem (by rw [crashL_len]; exact hk)]
  simp [crashL]
theorem keepAt_in {ks : List Int} {k : Nat} (h : 0 < ks.length) : keepAt ks k = ks[k % ks.length]'(Nat.mod_lt _ h) := by
  unfold keepAt
  rw [if_neg (by omega), List.getD_eq_getElem?_getD, List.getElem?_eq_getElem (Nat.mod_lt _ h)]
  rfl
theorem ext_take (l : List UInt8) (m : Nat) : (⟨l.toArray⟩ : ByteArray).extract 0 m = ⟨(l.take m).toArray⟩ := by
  apply ByteArray.ext
  rw [← Array.toList_inj, Lib.extract_data]
  simp
theorem Bx.keeps {own : Nat → Prop} {W W' : World} {B : Nat} {a : Option Addr} {n c : Nat} {f : Int} {o : Bool} (h : Bx W B a n c f o) (k : Keeps own W W') (hB : own B) : Bx W' B a n c f o :=
  ⟨(k.cell B 0 hB).trans h.c0, (k.cell B 1 hB).trans h.c1, (k.cell B 2 hB).trans h.c2, (k.frozen B 0 hB).trans h.f0, (k.frozen B 1 hB).trans h.f1, (k.frozen B 2 hB).trans h.f2, fun i s e => h.ns i s ((k.cell B i hB).symm.trans e)⟩
/-- What the loop keeps. -/
structure CrS (W wr : World) (O : Nat) (ks : List Int) (l : List Fe) (k : Nat) (v : Value) : Prop where
  c0 : wr.cell? ⟨O, 0, none⟩ = some v
  c1 : wr.cell? ⟨O, 1, none⟩ = some (.int .i64 (-1))
  c2 : wr.cell? ⟨O, 2, none⟩ = some (.bool false)
  f0 : wr.frozen? ⟨O, 0, none⟩ = false
  own : wr.ownsRow W.heap.size 82 3 v k (fv ((crashL ks l).take k))
  keep : Keeps (fun b => b < W.heap.size ∧ b ≠ O) W wr
set_option maxRecDepth 100000 in
set_option maxHeartbeats 4000000 in
theorem crash_ref {w : World} {q : Value} {S : Ds} (h : RefD w q S) (hl : S.files.length ≤ 100000) (hfb : Hid (∀ p ∈ S.files, p.2.sure ≤ p.2.bytes.length ∧ p.2.bytes.length ≤ 4194304)) (ka : Option Addr) (ks : List Int) (kc : Nat) (hk : RdK w ka ks) (hkl : ks.length ≤ 140737488355328) (hki : Hid (∀ i ∈ ks, -9223372036854775808 ≤ i ∧ i ≤ 9223372036854775807)) :
    Calls Tryz.prog 13 #[q, .slice ka ks.length kc] w fun e w' => ∃ q', e = .returned q' ∧ RefD w' q' (S.crash ks) ∧ Below w.heap.size w w' := by
  have HD := Lib.hid h
  obtain ⟨a, c, rfl, h1, h2, h3⟩ := h
  obtain ⟨ln, hln⟩ : ∃ ln, ln = S.files.length := ⟨_, rfl⟩
  obtain ⟨l, hle⟩ : ∃ l, l = S.files := ⟨_, rfl⟩
  have hcr : S.crash ks = ⟨crashL ks l, -1, false⟩ := by rw [hle]; rfl
  rw [hcr]
  rw [← hle] at hln h1 hfb
  rw [← hle, ← hln]
  rw [← hle, ← hln] at hl
  rw [← hle, ← hln] at h2
  obtain ⟨kn, hkn⟩ : ∃ kn, kn = ks.length := ⟨_, rfl⟩
  rw [← hkn] at hkl ⊢
  have H1 := Lib.hid h1
  have HLN := Lib.hid hln
  have HKN := Lib.hid hkn
  have HK := Lib.hid hk
  clear h1 hln hle HD h3 hcr hk hkn
  obtain ⟨i0, hi, hz0, hz1, hz2⟩ := fileInfo_parts
  go_enter Tryz.func13, Tryz.ntmps13
  go_wp2_with fail
  generalize hW : World.alloc (World.alloc (World.alloc w _) _) _ = W
  have BB : Below w.heap.size w W := by rw [← hW]; exact (((Below.refl _ _).alloc (Nat.le_refl _) _).alloc (by simp) _).alloc (by simp; omega) _
  have hsz : W.heap.size = w.heap.size + 3 := by rw [← hW]; simp
  have x0 : W.cell? ⟨w.heap.size, 0, none⟩ = some (.slice a ln c) := by rw [← hW]; simp [go_sem]
  have HR : Bx W (w.heap.size + 1) none 0 0 0 false := by
    rw [← hW]
    have := (Bx.new (w.alloc (.cells #[.slice a ln c, .int .i64 S.fuse, .bool S.off] 28)) none 0 0 0 false 28).old ((Below.refl _ _).alloc (Nat.le_refl _) (.cells #[.slice none 0 0, .int .i64 (-1), .bool false] 28))
    simpa using this
  have o0 : W.cell? ⟨w.heap.size + 2, 0, none⟩ = some (.slice none 0 0) := by rw [← hW]; simp [go_sem]
  have o1 : W.cell? ⟨w.heap.size + 2, 1, none⟩ = some (.int .i64 (-1)) := by rw [← hW]; simp [go_sem]
  have o2 : W.cell? ⟨w.heap.size + 2, 2, none⟩ = some (.bool false) := by rw [← hW]; simp [go_sem]
  have of0 : W.frozen? ⟨w.heap.size + 2, 0, none⟩ = false := by rw [← hW]; simp [go_sem]
  have R1 := Lib.hid (H1.out.old BB)
  have K1 := Lib.hid (HK.out.olds BB)
  have hR1 : ∀ y, a = some y → l ≠ [] → y.block < w.heap.size := by
    rintro y rfl hne
    rcases H1.out with h | ⟨b, off, h, hb, -⟩
    · exact absurd h hne
    · cases h; exact hb
  have hK1 : ks ≠ [] → ∃ b off, ka = some ⟨b, off, none⟩ ∧ b < w.heap.size := by
    intro hne
    rcases HK.out with h | ⟨b, off, h, hb, -⟩
    · exact absurd h hne
    · exact ⟨b, off, h, hb⟩
  have BB := Lib.hid BB
  have HRR := Lib.hid HR
  have HR1 := Lib.hid hR1
  have HK1 := Lib.hid hK1
  clear hW HR hR1 hK1
  go_loopw [6] (fun i wr => ∃ (k : Nat) (v : Value), i = .int .i64 k ∧ k ≤ ln ∧ CrS W wr (w.heap.size + 2) ks l k v) (fun i _ => ln - (intOf i).toNat)
  case atStart => exact ⟨0, _, rfl, Nat.zero_le _, ⟨o0, o1, o2, of0, World.ownsRow_nil _ _ _ _, Keeps.refl _ _⟩⟩
  case round =>
    obtain ⟨k, v, rfl, hk, hC⟩ := hrel
    clear o0 o1 o2 of0
    have HC := Lib.hid hC
    obtain ⟨o0, o1, o2, of0, own, kp⟩ := hC
    have y0 := (kp.cell w.heap.size 0 ⟨by omega, by omega⟩).trans x0
    have hws := kp.size
    clear own
    by_cases hlt : k < ln
    · have hkl : k < l.length := by rw [← HLN.out]; exact hlt
      have hla : ∃ b off, a = some ⟨b, off, none⟩ ∧ b < w.heap.size ∧ W.cell? ⟨b, off + k * 3, none⟩ = some (.string ⟨l[k].1.toArray⟩) ∧ W.cell? ⟨b, off + k * 3 + 1, none⟩ = some (.string ⟨l[k].2.bytes.toArray⟩) ∧ W.cell? ⟨b, off + k * 3 + 2, none⟩ = some (.int .i64 (l[k].2.sure : Int)) := by
        obtain ⟨b, off, e, hb, c0, c1, c2⟩ := R1.out.at hkl
        exact ⟨b, off, e, HR1.out _ e (by intro e2; rw [e2] at hkl; exact absurd hkl (Nat.not_lt_zero _)), c0, c1, c2⟩
      obtain ⟨b, off, rfl, hb, c0, c1, c2⟩ := hla
      have c0 := (kp.cell b (off + k * 3) ⟨by omega, by omega⟩).trans c0
      have c1 := (kp.cell b (off + k * 3 + 1) ⟨by omega, by omega⟩).trans c1
      have c2 := (kp.cell b (off + k * 3 + 2) ⟨by omega, by omega⟩).trans c2
      have hkc : (k : Int) < ln := by omega
      have hbd := hfb.out l[k] (List.getElem_mem hkl)
      have HT := Lib.hid (crashL_take (ks := ks) hkl)
      obtain ⟨fk, hfk⟩ : ∃ fk, fk = l[k] := ⟨_, rfl⟩
      rw [← hfk] at c0 c1 c2 hbd HT
      obtain ⟨nm, fl⟩ := fk
      simp only at c0 c1 c2 hbd HT
      obtain ⟨hb1, hb2⟩ := hbd
      clear hfk kp
      go_upto_if 24 with fail
      generalize hW2 : World.alloc wr _ = W2
      have b2 : Below wr.heap.size wr W2 := by rw [← hW2]; exact (Below.refl _ _).alloc (Nat.le_refl _) _
      have n1 : W2.cell? ⟨wr.heap.size, 1, none⟩ = some (.string ⟨fl.bytes.toArray⟩) := by rw [← hW2]; simp [go_sem]
      have n0 : W2.cell? ⟨wr.heap.size, 0, none⟩ = some (.string ⟨nm.toArray⟩) := by rw [← hW2]; simp [go_sem]
      have n2 : W2.cell? ⟨wr.heap.size, 2, none⟩ = some (.int .i64 (fl.sure : Int)) := by rw [← hW2]; simp [go_sem]
      have u1 : W2.frozen? ⟨wr.heap.size, 1, none⟩ = false := by rw [← hW2]; simp [go_sem]
      have u2 : W2.frozen? ⟨wr.heap.size, 2, none⟩ = false := by rw [← hW2]; simp [go_sem]
      have s2 := b2.size
      have p0 := (b2.cell (p := ⟨w.heap.size + 2, 0, none⟩) (cell_lt o0)).trans o0
      have p1 := (b2.cell (p := ⟨w.heap.size + 2, 1, none⟩) (by show w.heap.size + 2 < _; omega)).trans o1
      have p2 := (b2.cell (p := ⟨w.heap.size + 2, 2, none⟩) (by show w.heap.size + 2 < _; omega)).trans o2
      have pf := (b2.frozen (p := ⟨w.heap.size + 2, 0, none⟩) (cell_lt o0)).trans of0
      have B2 := Lib.hid b2
      clear hW2 b2 o0 o1 o2 of0 y0 c0 c1 c2
      have hF : w.heap.size + 2 < wr.heap.size := by omega
      have HKV := Lib.hid (show -9223372036854775808 ≤ keepAt ks k ∧ keepAt ks k ≤ 9223372036854775807 by
        by_cases h0 : ks.length = 0
        · unfold keepAt; rw [if_pos h0]; omega
        · rw [keepAt_in (by omega)]
          exact hki.out _ (List.getElem_mem _))
      go_cut [8] (fun s8 wx => s8 = .int .i64 (max 0 (keepAt ks k)) ∧ wx = W2)
      case first =>
        by_cases h0 : kn = 0
        · have e8 : keepAt ks k = 0 := by unfold keepAt; rw [← HKN.out, h0]; rfl
          have E8 := Lib.hid e8
          clear e8
          have h0' : ¬ 0 < kn := by omega
          go_wp2_with fail
          go_meet
          case rel => exact ⟨by rw [E8.out]; rfl, rfl⟩
        · have hpos : 0 < ks.length := by rw [← HKN.out]; omega
          have h0' : 0 < kn := by omega
          have E8 := Lib.hid (keepAt_in (k := k) hpos)
          obtain ⟨kb, ko, hka, hkb⟩ := HK1.out (by intro e; rw [e] at hpos; exact absurd hpos (Nat.lt_irrefl _))
          have hcell : ∀ i (h : i < ks.length), W.cell? ⟨kb, ko + i, none⟩ = some (.int .i64 ks[i]) := by
            rcases K1.out with h | ⟨b', o', e, -, hc⟩
            · rw [h] at hpos; exact absurd hpos (Nat.lt_irrefl _)
            · rw [hka] at e; cases e; exact hc
          subst hka
          have hmod : k % kn < ks.length := by rw [← HKN.out]; exact Nat.mod_lt _ h0'
          have hc1 := hcell (k % kn) hmod
          have hc2 := (HC.out.keep.cell kb (ko + k % kn) ⟨by omega, by omega⟩).trans hc1
          have hc3 := (B2.out.cell (p := ⟨kb, ko + k % kn, none⟩) (by show kb < wr.heap.size; omega)).trans hc2
          have hrem : ((k : Int).tmod (kn : Int)) = ((k % kn : Nat) : Int) := by rw [Int.tmod_eq_emod_of_nonneg (by omega)]; rfl
          obtain ⟨j, hj⟩ : ∃ j, j = k % kn := ⟨_, rfl⟩
          have hjl : j < kn := by rw [hj]; exact Nat.mod_lt _ h0'
          rw [show ks[k % kn] = keepAt ks k by rw [E8.out]; simp only [HKN.out]] at hc3
          rw [← hj] at hrem hc3
          obtain ⟨kv, hkv⟩ : ∃ kv, kv = keepAt ks k := ⟨_, rfl⟩
          rw [← hkv] at hc3
          have HKV2 := Lib.hid hkv
          clear hkv
          clear hc1 hc2 hcell hmod E8 hj
          go_wp2_with fail
          go_meet
          case rel => exact ⟨by rw [HKV2.out], rfl⟩
      case rest =>
        obtain ⟨rfl, rfl⟩ := hcut
        obtain ⟨K, hK⟩ : ∃ K, K = max 0 (keepAt ks k) := ⟨_, rfl⟩
        obtain ⟨m, hm⟩ : ∃ m, m = keepN (keepAt ks k) fl := ⟨_, rfl⟩
        have hm1 : (fl.sure : Int) + min K ((fl.bytes.length : Int) - fl.sure) = (m : Int) := by
          rw [hm, hK]; unfold keepN; omega
        have hm2 : m ≤ fl.bytes.length := by rw [hm]; exact keepN_le _ _ hb1
        have hcf : cutF (keepAt ks k) fl = ⟨fl.bytes.take m, m⟩ := by rw [hm]; rfl
        have hK2 : 0 ≤ K ∧ K ≤ 9223372036854775807 := by have := HKV.out; omega
        rw [← hK]
        rw [hcf] at HT
        have hlen : (⟨fl.bytes.toArray⟩ : ByteArray).size = fl.bytes.length := Lib.size_eq _
        have hw1 : IntKind.i64.wrap ((fl.bytes.length : Int) - fl.sure) = (fl.bytes.length : Int) - fl.sure := IntWalk.i64_in _ (by omega)
        have hw2 : IntKind.i64.wrap ((fl.sure : Int) + min K ((fl.bytes.length : Int) - fl.sure)) = (m : Int) := by rw [hm1]; exact IntWalk.i64_in _ (by omega)
        clear hK hm hcf hm1
        go_wp2_with (at_builtin; generalize hG : wpList _ _ _ _ _ _ = G)
        rw [← hG]
        clear hG
        rw [ext_take]
        have b4 : Below wr.heap.size wr ((wc.setCell ⟨wr.heap.size, 1, none⟩ (.string ⟨(fl.bytes.take m).toArray⟩)).setCell ⟨wr.heap.size, 2, none⟩ (.int .i64 (m : Int))) := (B2.out.setCell (Nat.le_refl _) _).setCell (Nat.le_refl _) _
        have hs4 : ((wc.setCell ⟨wr.heap.size, 1, none⟩ (.string ⟨(fl.bytes.take m).toArray⟩)).setCell ⟨wr.heap.size, 2, none⟩ (.int .i64 (m : Int))).heap.size = wc.heap.size := by simp [World.setCell]
        generalize (wc.setCell ⟨wr.heap.size, 1, none⟩ (.string ⟨(fl.bytes.take m).toArray⟩)).setCell ⟨wr.heap.size, 2, none⟩ (.int .i64 (m : Int)) = W4 at b4 hs4 ⊢
        have hO := below_own HC.out.own b4
        refine wpList_append_any rfl _ _ 26 rfl W.heap.size 82 i0 (.agg #[.string ⟨#[]⟩, .string ⟨#[]⟩, .int .i64 0]) 3 40 Tryz.underlying26 hi hz0 hz1 hz2 rfl (by decide) v k _ rfl (hO.alloc _) (some ⟨wc.heap.size, 0, none⟩) 1 _ (fv [((nm, ⟨fl.bytes.take m, m⟩) : Fe)]) rfl (fun h => by cases h) rfl (by rw [← hs4]; exact new_file W4 nm (fl.bytes.take m) m _) (fv_one _) (by unfold maxLen; omega) (by omega) (by simp; omega) ?_
        intro v2 w2 own2 bl2
        rw [← fv_append, ← HT.out] at own2
        obtain ⟨a2, c2, rfl⟩ := own_sl own2
        have hA := (Below.refl W4.heap.size W4).alloc (Nat.le_refl _) (.cells #[.string ⟨nm.toArray⟩, .string ⟨(fl.bytes.take m).toArray⟩, .int .i64 (m : Int)] 82)
        have b5 : Below W.heap.size wr w2 := (b4.mono hws).trans ((hA.mono (by omega)).trans bl2)
        have hs5 := b5.size
        have q0 := (b5.cell (p := ⟨w.heap.size + 2, 0, none⟩) (by show w.heap.size + 2 < _; omega)).trans HC.out.c0
        have q1 := (b5.cell (p := ⟨w.heap.size + 2, 1, none⟩) (by show w.heap.size + 2 < _; omega)).trans HC.out.c1
        have q2 := (b5.cell (p := ⟨w.heap.size + 2, 2, none⟩) (by show w.heap.size + 2 < _; omega)).trans HC.out.c2
        have qf := (b5.frozen (p := ⟨w.heap.size + 2, 0, none⟩) (by show w.heap.size + 2 < _; omega)).trans HC.out.f0
        have hnew : CrS W (w2.setCell ⟨w.heap.size + 2, 0, none⟩ (.slice a2 (k + 1) c2)) (w.heap.size + 2) ks l (k + 1) (.slice a2 (k + 1) c2) := by
          refine ⟨World.cell?_setCell_same' _ _ _ (by rw [q0]; rfl), ?_, ?_, ?_, ?_, ?_⟩
          · rw [World.cell?_setCell_other _ _ _ _ (by simp)]; exact q1
          · rw [World.cell?_setCell_other _ _ _ _ (by simp)]; exact q2
          · simp [go_sem, qf]
          · refine own_same own2 fun r hr => Below.heap_setCell _ _ _ _ ?_
            have := (own2.lt r hr).1
            simp only
            omega
          · exact (HC.out.keep.trans (Keeps.of_below b5 fun b hb => hb.1)).trans (Keeps.setCell _ _ fun b hb => hb.2)
        have HNEW := Lib.hid hnew
        clear own2 bl2 hnew hO b4 hA b5 p0 p1 p2 pf n0 n1 n2 u1 u2
        go_wp2_with fail
        go_roundw
        case rel => exact ⟨k + 1, _, by go_num, hlt, HNEW.out⟩
        case measure => simp [intOf]; omega
    · obtain rfl : k = ln := by omega
      have hk2 : ¬ (k : Int) < k := by omega
      have hR2 := HRR.out.keeps kp (show w.heap.size + 1 < W.heap.size ∧ w.heap.size + 1 ≠ w.heap.size + 2 from ⟨by omega, by omega⟩)
      have o := HC.out.own
      have hN : (crashL ks l).length = k := by rw [crashL_len, HLN.out]
      have e : (crashL ks l).take k = crashL ks l := List.take_of_length_le (by rw [hN]; exact Nat.le_refl _)
      rw [e] at o
      obtain ⟨a6, c6, rfl⟩ := own_sl o
      obtain ⟨r1, r2, r3⟩ := own_rdF hN o
      have HQ6 := Lib.hid (show RefD wr (.agg #[.slice a6 k c6, .int .i64 (-1), .bool false]) ⟨crashL ks l, -1, false⟩ from ⟨a6, c6, by simp only [hN], r1, by simp only [hN]; exact r2, r3⟩)
      have HR6 := Lib.hid hR2
      have BB6 := Lib.hid (BB.out.trans (kp.below fun b hb => (⟨by omega, by omega⟩ : b < W.heap.size ∧ b ≠ w.heap.size + 2)))
      obtain ⟨y0', y1, y2, v0, v1, v2, -⟩ := hR2
      clear o r1 e hN
      go_wp2_with fail
      have kf := HR6.out.put a6 k c6 (-1) false
      have qf := RefD.put HR6.out HQ6.out a6 k c6 (-1) false
      have bf := put3_below BB6.out (Nat.le_succ w.heap.size) a6 k c6 (-1) false
      show bodyPost _ _ _ _ _ (put3 wr (w.heap.size + 1) a6 k c6 (-1) false)
      generalize put3 wr (w.heap.size + 1) a6 k c6 (-1) false = WF at kf qf bf ⊢
      obtain ⟨k0, k1, k2, -⟩ := kf
      refine bodyPost_ret (v := .agg #[.slice a6 k c6, .int .i64 (-1), .bool false]) (by simp [results, Tryz.f13, go_sem, k0, k1, k2]) rfl ?_
      exact ⟨_, rfl, qf, bf⟩
end Go.Proofs.YtkfmjkcomjmedaaGreat
namespace Go.Proofs.YtkfmjkcomjmedaaGreat
open Go.RowKit
set_option linter.unusedVariables false
set_option linter.unusedSimpArgs false

set_option maxRecDepth 100000 in
set_option maxHeartbeats 4000000 in
theorem make_ref {w : World} {q : Value} {S : Ds} (h : RefD w q S) (hl : S.files.length ≤ 100000) (hs : Srt S.files) (hf : -9223372036854775808 ≤ S.fuse ∧ S.fuse ≤ 9223372036854775807) (nm : List UInt8) (hn : nm.length ≤ maxLen) :
    Calls Tryz.prog 42 #[q, .string ⟨nm.toArray⟩] w (DoR w (S.make nm).1 (S.make nm).2) := by
  have HD := Lib.hid h
  obtain ⟨a, c, rfl, h1, h2, h3⟩ := h
  obtain ⟨ln, hln⟩ : ∃ ln, ln = S.files.length := ⟨_, rfl⟩
  have HS := Lib.hid hs
  have HF := Lib.hid hf
  have HL := Lib.hid hl
  have HN := Lib.hid (wname_list nm hn)
  rw [← hln] at HD hl ⊢
  have HLN := Lib.hid hln
  clear h1 h2 h3 hs hln hf hn
  go_enter Tryz.func42, Tryz.ntmps42
  go_upto_if 9 with (go_at_call 57; refine (HN.out _).mono ?_; rintro e wn ⟨rfl, rfl⟩)
  generalize hW : World.alloc (World.alloc w _) _ = W
  have BB : Below w.heap.size w W := by rw [← hW]; exact ((Below.refl _ _).alloc (Nat.le_refl _) _).alloc (by simp) _
  have HB : Bx W w.heap.size a ln c S.fuse S.off := by rw [← hW]; exact (Bx.new ..).old ((Below.refl _ _).alloc (Nat.le_refl _) _)
  have HR : Bx W (w.heap.size + 1) none 0 0 0 false := by rw [← hW]; have := Bx.new (w.alloc (.cells #[.slice a ln c, .int .i64 S.fuse, .bool S.off] 28)) none 0 0 0 false 28; simpa using this
  have hsz : W.heap.size = w.heap.size + 2 := by rw [← hW]; simp
  clear hW
  have BB := Lib.hid BB
  have HQ := Lib.hid (HD.out.old BB.out)
  cases hnm : namL nm with
  | false =>
    have HRR := Lib.hid HR
    obtain ⟨x0, x1, x2, z0, z1, z2, -⟩ := HB
    obtain ⟨y0, y1, y2, v0, v1, v2, -⟩ := HR
    go_wp2_with fail
    have kf := HRR.out.put a (ln) c (S.fuse) S.off
    have qf := RefD.put HRR.out HQ.out a (ln) c (S.fuse) S.off
    have bf := put3_below BB.out (Nat.le_succ w.heap.size) a (ln) c (S.fuse) S.off
    show bodyPost _ _ _ _ _ (put3 W (w.heap.size + 1) a (ln) c (S.fuse) S.off)
    generalize put3 W (w.heap.size + 1) a (ln) c (S.fuse) S.off = WF at kf qf bf ⊢
    obtain ⟨k0, k1, k2, -⟩ := kf
    refine bodyPost_ret (v := .tuple #[.agg #[.slice a (ln) c, .int .i64 (S.fuse), .bool S.off], .int .i64 1]) (by simp [results, Tryz.f42, go_sem, k0, k1, k2]) rfl ?_
    rw [make_no hnm]
    exact ⟨_, rfl, qf, bf⟩
  | true =>
    obtain ⟨T, hT⟩ : ∃ T, T = S.begin true := ⟨_, rfl⟩
    have hTf : T.files = S.files := by rw [hT]; rfl
    obtain ⟨E, hE⟩ : ∃ E, E = begE true S.fuse S.off := ⟨_, rfl⟩
    have hdo := doing_ref HQ.out HF.out
    rw [← hT, ← hE] at hdo
    have HDO := Lib.hid hdo
    have HT := Lib.hid hT
    have HE := Lib.hid hE
    have HTF := Lib.hid hTf
    have HTL := Lib.hid (show T.files.length = ln by rw [hTf, HLN.out])
    have HNM := Lib.hid hnm
    clear hdo hT hE hTf
    have HBB := Lib.hid HB
    have HRR := Lib.hid HR
    clear HB HR
    obtain ⟨x0, x1, x2, z0, z1, z2, -⟩ := HBB.out
    go_wp2_with fail
    go_at_call 66
    refine HDO.out.mono ?_
    rintro e wd ⟨q1, rfl, hq1, b1⟩
    have HQ1 := Lib.hid hq1
    obtain ⟨a1, c1, eq1, r1, g1, g2⟩ := hq1
    rw [HTL.out] at eq1
    subst eq1
    clear x0 x1 x2 z0 z1 z2
    have hb2 := HBB.out.old b1
    have hr2 := HRR.out.old b1
    have HB2 := Lib.hid hb2
    have HR2 := Lib.hid hr2
    have BB2 := Lib.hid (BB.out.trans (b1.mono (by omega)))
    have hsz2 := b1.size
    obtain ⟨x0, x1, x2, z0, z1, z2, -⟩ := hb2
    clear hr2 b1 r1
    go_upto_if 17 with fail
    have HB3 := HB2.out.put a1 ln c1 T.fuse T.off
    have HR3 := HR2.out.other (show w.heap.size + 1 ≠ w.heap.size by omega) a1 ln c1 T.fuse T.off
    have HQ3 := RefD.put HB2.out HQ1.out a1 ln c1 T.fuse T.off
    have BB3 := put3_below BB2.out (Nat.le_refl w.heap.size) a1 ln c1 T.fuse T.off
    have hs3 := put3_size wd w.heap.size a1 ln c1 T.fuse T.off
    show Code.wp _ _ _ _ (put3 wd w.heap.size a1 ln c1 T.fuse T.off)
    generalize put3 wd w.heap.size a1 ln c1 T.fuse T.off = W3 at HB3 HR3 HQ3 BB3 hs3 ⊢
    have hb4 := Lib.hid HB3
    have hr4 := Lib.hid HR3
    have HQ4 := Lib.hid HQ3
    have BB4 := Lib.hid BB3
    obtain ⟨p0, p1, p2, s0, s1, s2, -⟩ := HB3
    obtain ⟨y0, y1, y2, v0, v1, v2, -⟩ := HR3
    clear x0 x1 x2 z0 z1 z2 HQ3 BB3
    rcases begE_two S.fuse S.off with h50 | h50
    · have e0 := HE.out
      rw [h50] at e0
      subst e0
      go_wp2_with fail
      go_at_call 58
      refine (find_ref HQ4.out (by rw [HTL.out]; omega) nm).mono ?_
      rintro e W5 ⟨rfl, b5⟩
      have HB5 := Lib.hid (hb4.out.old b5)
      have HR5 := Lib.hid (hr4.out.old b5)
      have HQ5 := Lib.hid (HQ4.out.old b5)
      have BB5 := Lib.hid (BB4.out.trans (b5.mono (by omega)))
      have hs5 := b5.size
      clear p0 p1 p2 s0 s1 s2 y0 y1 y2 v0 v1 v2 b5
      obtain ⟨p0, p1, p2, s0, s1, s2, -⟩ := HB5.out
      obtain ⟨y0, y1, y2, v0, v1, v2, -⟩ := HR5.out
      have HSRT := Lib.hid (show Srt T.files by rw [HTF.out]; exact HS.out)
      rcases fIdx_cases nm T.files with ⟨i1, i2, i3⟩ | ⟨k, hk, i1, i2, i3⟩
      · rw [i1]
        rw [HTF.out] at i2
        clear i1
        by_cases h256 : 256 ≤ ln
        · go_wp2_with fail
          have kf := HR5.out.put a1 (ln) c1 (T.fuse) T.off
          have qf := RefD.put HR5.out HQ5.out a1 (ln) c1 (T.fuse) T.off
          have bf := put3_below BB5.out (Nat.le_succ w.heap.size) a1 (ln) c1 (T.fuse) T.off
          show bodyPost _ _ _ _ _ (put3 W5 (w.heap.size + 1) a1 (ln) c1 (T.fuse) T.off)
          generalize put3 W5 (w.heap.size + 1) a1 (ln) c1 (T.fuse) T.off = WF at kf qf bf ⊢
          obtain ⟨k0, k1, k2, -⟩ := kf
          refine bodyPost_ret (v := .tuple #[.agg #[.slice a1 (ln) c1, .int .i64 (T.fuse), .bool T.off], .int .i64 2]) (by simp [results, Tryz.f42, go_sem, k0, k1, k2]) rfl ?_
          rw [make_full HNM.out h50 i2 (by rw [← HLN.out]; exact h256), ← HT.out]
          exact ⟨_, rfl, qf, bf⟩
        · go_wp2_with fail
          go_at_call 69
          refine (with_ref HQ5.out (by rw [HTL.out]; omega) HSRT.out nm [] 0).mono ?_
          rintro e W6 ⟨q6, rfl, ⟨a6, c6, rfl, r6, g6, g7⟩, b6⟩
          have HQ6 := Lib.hid (show RefD W6 _ ⟨putL nm ⟨[], 0⟩ T.files, T.fuse, T.off⟩ from ⟨a6, c6, rfl, r6, g6, g7⟩)
          have HR6 := Lib.hid (HR5.out.old b6)
          have BB6 := Lib.hid (BB5.out.trans (b6.mono (by omega)))
          clear p0 p1 p2 s0 s1 s2 y0 y1 y2 v0 v1 v2 b6 r6
          obtain ⟨y0, y1, y2, v0, v1, v2, -⟩ := HR6.out
          go_wp2_with fail
          have kf := HR6.out.put a6 ((putL nm (⟨[], 0⟩ : Fl) T.files).length) c6 (T.fuse) T.off
          have qf := RefD.put HR6.out HQ6.out a6 ((putL nm (⟨[], 0⟩ : Fl) T.files).length) c6 (T.fuse) T.off
          have bf := put3_below BB6.out (Nat.le_succ w.heap.size) a6 ((putL nm (⟨[], 0⟩ : Fl) T.files).length) c6 (T.fuse) T.off
          show bodyPost _ _ _ _ _ (put3 W6 (w.heap.size + 1) a6 ((putL nm (⟨[], 0⟩ : Fl) T.files).length) c6 (T.fuse) T.off)
          generalize put3 W6 (w.heap.size + 1) a6 ((putL nm (⟨[], 0⟩ : Fl) T.files).length) c6 (T.fuse) T.off = WF at kf qf bf ⊢
          obtain ⟨k0, k1, k2, -⟩ := kf
          refine bodyPost_ret (v := .tuple #[.agg #[.slice a6 ((putL nm (⟨[], 0⟩ : Fl) T.files).length) c6, .int .i64 (T.fuse), .bool T.off], .int .i64 0]) (by simp [results, Tryz.f42, go_sem, k0, k1, k2]) rfl ?_
          rw [make_yes HNM.out h50 i2 (by rw [← HLN.out]; exact h256), ← HT.out]
          exact ⟨_, rfl, qf, bf⟩
      · rw [i1]
        have hkl : k < ln := by rw [← HTL.out]; exact hk
        obtain ⟨fl, hfl⟩ : ∃ fl, fl = T.files[k].2 := ⟨_, rfl⟩
        rw [← hfl] at i3
        have i3' := i3
        rw [HTF.out] at i3'
        have HFL := Lib.hid hfl
        clear hfl
        clear i1
        go_wp2_with fail
        have kf := HR5.out.put a1 (ln) c1 (T.fuse) T.off
        have qf := RefD.put HR5.out HQ5.out a1 (ln) c1 (T.fuse) T.off
        have bf := put3_below BB5.out (Nat.le_succ w.heap.size) a1 (ln) c1 (T.fuse) T.off
        show bodyPost _ _ _ _ _ (put3 W5 (w.heap.size + 1) a1 (ln) c1 (T.fuse) T.off)
        generalize put3 W5 (w.heap.size + 1) a1 (ln) c1 (T.fuse) T.off = WF at kf qf bf ⊢
        obtain ⟨k0, k1, k2, -⟩ := kf
        refine bodyPost_ret (v := .tuple #[.agg #[.slice a1 (ln) c1, .int .i64 (T.fuse), .bool T.off], .int .i64 1]) (by simp [results, Tryz.f42, go_sem, k0, k1, k2]) rfl ?_
        rw [make_there HNM.out h50 i3', ← HT.out]
        exact ⟨_, rfl, qf, bf⟩
    · have e0 := HE.out
      rw [h50] at e0
      subst e0
      go_wp2_with fail
      have kf := hr4.out.put a1 (ln) c1 (T.fuse) T.off
      have qf := RefD.put hr4.out HQ4.out a1 (ln) c1 (T.fuse) T.off
      have bf := put3_below BB4.out (Nat.le_succ w.heap.size) a1 (ln) c1 (T.fuse) T.off
      show bodyPost _ _ _ _ _ (put3 W3 (w.heap.size + 1) a1 (ln) c1 (T.fuse) T.off)
      generalize put3 W3 (w.heap.size + 1) a1 (ln) c1 (T.fuse) T.off = WF at kf qf bf ⊢
      obtain ⟨k0, k1, k2, -⟩ := kf
      refine bodyPost_ret (v := .tuple #[.agg #[.slice a1 (ln) c1, .int .i64 (T.fuse), .bool T.off], .int .i64 50]) (by simp [results, Tryz.f42, go_sem, k0, k1, k2]) rfl ?_
      rw [make_off HNM.out h50, ← HT.out]
      exact ⟨_, rfl, qf, bf⟩
end Go.Proofs.YtkfmjkcomjmedaaGreat
namespace Go.Proofs.YtkfmjkcomjmedaaGreat
open Go.RowKit
set_option linter.unusedVariables false
set_option linter.unusedSimpArgs false

set_option maxRecDepth 100000 in
set_option maxHeartbeats 4000000 in
theorem append_ref {w : World} {q : Value} {S : Ds} (h : RefD w q S) (hl : S.files.length ≤ 100000) (hs : Srt S.files) (hf : -9223372036854775808 ≤ S.fuse ∧ S.fuse ≤ 9223372036854775807) (nm : List UInt8) (hn : nm.length ≤ maxLen) (hfb : Hid (∀ p ∈ S.files, p.2.bytes.length ≤ 4194304)) (s : List UInt8) (hsl : s.length ≤ maxLen) :
    Calls Tryz.prog 52 #[q, .string ⟨nm.toArray⟩, .string ⟨s.toArray⟩] w (DoR w (S.append nm s).1 (S.append nm s).2) := by
  have HD := Lib.hid h
  obtain ⟨a, c, rfl, h1, h2, h3⟩ := h
  obtain ⟨ln, hln⟩ : ∃ ln, ln = S.files.length := ⟨_, rfl⟩
  have HS := Lib.hid hs
  have HF := Lib.hid hf
  have HL := Lib.hid hl
  have HN := Lib.hid (wname_list nm hn)
  rw [← hln] at HD hl ⊢
  have HLN := Lib.hid hln
  clear h1 h2 h3 hs hln hf hn
  go_enter Tryz.func52, Tryz.ntmps52
  go_upto_if 13 with (go_at_call 57; refine (HN.out _).mono ?_; rintro e wn ⟨rfl, rfl⟩)
  generalize hW : World.alloc (World.alloc w _) _ = W
  have BB : Below w.heap.size w W := by rw [← hW]; exact ((Below.refl _ _).alloc (Nat.le_refl _) _).alloc (by simp) _
  have HB : Bx W w.heap.size a ln c S.fuse S.off := by rw [← hW]; exact (Bx.new ..).old ((Below.refl _ _).alloc (Nat.le_refl _) _)
  have HR : Bx W (w.heap.size + 1) none 0 0 0 false := by rw [← hW]; have := Bx.new (w.alloc (.cells #[.slice a ln c, .int .i64 S.fuse, .bool S.off] 28)) none 0 0 0 false 28; simpa using this
  have hsz : W.heap.size = w.heap.size + 2 := by rw [← hW]; simp
  clear hW
  have BB := Lib.hid BB
  have HQ := Lib.hid (HD.out.old BB.out)
  cases hnm : namL nm with
  | false =>
    have HRR := Lib.hid HR
    obtain ⟨x0, x1, x2, z0, z1, z2, -⟩ := HB
    obtain ⟨y0, y1, y2, v0, v1, v2, -⟩ := HR
    go_wp2_with fail
    have kf := HRR.out.put a (ln) c (S.fuse) S.off
    have qf := RefD.put HRR.out HQ.out a (ln) c (S.fuse) S.off
    have bf := put3_below BB.out (Nat.le_succ w.heap.size) a (ln) c (S.fuse) S.off
    show bodyPost _ _ _ _ _ (put3 W (w.heap.size + 1) a (ln) c (S.fuse) S.off)
    generalize put3 W (w.heap.size + 1) a (ln) c (S.fuse) S.off = WF at kf qf bf ⊢
    obtain ⟨k0, k1, k2, -⟩ := kf
    refine bodyPost_ret (v := .tuple #[.agg #[.slice a (ln) c, .int .i64 (S.fuse), .bool S.off], .int .i64 1]) (by simp [results, Tryz.f52, go_sem, k0, k1, k2]) rfl ?_
    rw [append_no hnm]
    exact ⟨_, rfl, qf, bf⟩
  | true =>
    obtain ⟨T, hT⟩ : ∃ T, T = S.begin true := ⟨_, rfl⟩
    have hTf : T.files = S.files := by rw [hT]; rfl
    obtain ⟨E, hE⟩ : ∃ E, E = begE true S.fuse S.off := ⟨_, rfl⟩
    have hdo := doing_ref HQ.out HF.out
    rw [← hT, ← hE] at hdo
    have HDO := Lib.hid hdo
    have HT := Lib.hid hT
    have HE := Lib.hid hE
    have HTF := Lib.hid hTf
    have HTL := Lib.hid (show T.files.length = ln by rw [hTf, HLN.out])
    have HNM := Lib.hid hnm
    clear hdo hT hE hTf
    have HBB := Lib.hid HB
    have HRR := Lib.hid HR
    clear HB HR
    obtain ⟨x0, x1, x2, z0, z1, z2, -⟩ := HBB.out
    go_wp2_with fail
    go_at_call 66
    refine HDO.out.mono ?_
    rintro e wd ⟨q1, rfl, hq1, b1⟩
    have HQ1 := Lib.hid hq1
    obtain ⟨a1, c1, eq1, r1, g1, g2⟩ := hq1
    rw [HTL.out] at eq1
    subst eq1
    clear x0 x1 x2 z0 z1 z2
    have hb2 := HBB.out.old b1
    have hr2 := HRR.out.old b1
    have HB2 := Lib.hid hb2
    have HR2 := Lib.hid hr2
    have BB2 := Lib.hid (BB.out.trans (b1.mono (by omega)))
    have hsz2 := b1.size
    obtain ⟨x0, x1, x2, z0, z1, z2, -⟩ := hb2
    clear hr2 b1 r1
    go_upto_if 21 with fail
    have HB3 := HB2.out.put a1 ln c1 T.fuse T.off
    have HR3 := HR2.out.other (show w.heap.size + 1 ≠ w.heap.size by omega) a1 ln c1 T.fuse T.off
    have HQ3 := RefD.put HB2.out HQ1.out a1 ln c1 T.fuse T.off
    have BB3 := put3_below BB2.out (Nat.le_refl w.heap.size) a1 ln c1 T.fuse T.off
    have hs3 := put3_size wd w.heap.size a1 ln c1 T.fuse T.off
    show Code.wp _ _ _ _ (put3 wd w.heap.size a1 ln c1 T.fuse T.off)
    generalize put3 wd w.heap.size a1 ln c1 T.fuse T.off = W3 at HB3 HR3 HQ3 BB3 hs3 ⊢
    have hb4 := Lib.hid HB3
    have hr4 := Lib.hid HR3
    have HQ4 := Lib.hid HQ3
    have BB4 := Lib.hid BB3
    obtain ⟨p0, p1, p2, s0, s1, s2, -⟩ := HB3
    obtain ⟨y0, y1, y2, v0, v1, v2, -⟩ := HR3
    clear x0 x1 x2 z0 z1 z2 HQ3 BB3
    rcases begE_two S.fuse S.off with h50 | h50
    · have e0 := HE.out
      rw [h50] at e0
      subst e0
      go_wp2_with fail
      go_at_call 58
      refine (find_ref HQ4.out (by rw [HTL.out]; omega) nm).mono ?_
      rintro e W5 ⟨rfl, b5⟩
      have HB5 := Lib.hid (hb4.out.old b5)
      have HR5 := Lib.hid (hr4.out.old b5)
      have HQ5 := Lib.hid (HQ4.out.old b5)
      have BB5 := Lib.hid (BB4.out.trans (b5.mono (by omega)))
      have hs5 := b5.size
      clear p0 p1 p2 s0 s1 s2 y0 y1 y2 v0 v1 v2 b5
      obtain ⟨p0, p1, p2, s0, s1, s2, -⟩ := HB5.out
      obtain ⟨y0, y1, y2, v0, v1, v2, -⟩ := HR5.out
      have HSRT := Lib.hid (show Srt T.files by rw [HTF.out]; exact HS.out)
      rcases fIdx_cases nm T.files with ⟨i1, i2, i3⟩ | ⟨k, hk, i1, i2, i3⟩
      · rw [i1]
        rw [HTF.out] at i2
        clear i1
        go_wp2_with fail
        have kf := HR5.out.put a1 (ln) c1 (T.fuse) T.off
        have qf := RefD.put HR5.out HQ5.out a1 (ln) c1 (T.fuse) T.off
        have bf := put3_below BB5.out (Nat.le_succ w.heap.size) a1 (ln) c1 (T.fuse) T.off
        show bodyPost _ _ _ _ _ (put3 W5 (w.heap.size + 1) a1 (ln) c1 (T.fuse) T.off)
        generalize put3 W5 (w.heap.size + 1) a1 (ln) c1 (T.fuse) T.off = WF at kf qf bf ⊢
        obtain ⟨k0, k1, k2, -⟩ := kf
        refine bodyPost_ret (v := .tuple #[.agg #[.slice a1 (ln) c1, .int .i64 (T.fuse), .bool T.off], .int .i64 3]) (by simp [results, Tryz.f52, go_sem, k0, k1, k2]) rfl ?_
        rw [append_none HNM.out h50 i2, ← HT.out]
        exact ⟨_, rfl, qf, bf⟩
      · rw [i1]
        have hkl : k < ln := by rw [← HTL.out]; exact hk
        obtain ⟨fl, hfl⟩ : ∃ fl, fl = T.files[k].2 := ⟨_, rfl⟩
        rw [← hfl] at i3
        have i3' := i3
        rw [HTF.out] at i3'
        have HFL := Lib.hid hfl
        clear hfl
        clear i1
        have hfb := hfb.out (nm, fl) ((getL_iff HS.out).1 i3')
        have hfb2 : fl.bytes.length ≤ 4194304 := hfb
        clear hfb
        have hlen : (⟨fl.bytes.toArray⟩ : ByteArray).size = fl.bytes.length := Lib.size_eq _
        have hlen2 : (⟨s.toArray⟩ : ByteArray).size = s.length := Lib.size_eq _
        obtain ⟨rd5, -, -, -⟩ := HQ5.out.rd
        obtain ⟨b, o, rfl, hb, m0, m1, m2⟩ := rd5.at hk
        rw [i2] at m0
        rw [← HFL.out] at m1 m2
        clear i2 rd5
        go_upto_if 41 with fail
        generalize hW6 : World.alloc W5 _ = W6
        have b6 : Below W5.heap.size W5 W6 := by rw [← hW6]; exact (Below.refl _ _).alloc (Nat.le_refl _) _
        have n0 : W6.cell? ⟨W5.heap.size, 0, none⟩ = some (.string ⟨nm.toArray⟩) := by rw [← hW6]; simp [go_sem]
        have n1 : W6.cell? ⟨W5.heap.size, 1, none⟩ = some (.string ⟨fl.bytes.toArray⟩) := by rw [← hW6]; simp [go_sem]
        have n2 : W6.cell? ⟨W5.heap.size, 2, none⟩ = some (.int .i64 (fl.sure : Int)) := by rw [← hW6]; simp [go_sem]
        have u1 : W6.frozen? ⟨W5.heap.size, 1, none⟩ = false := by rw [← hW6]; simp [go_sem]
        have u2 : W6.frozen? ⟨W5.heap.size, 2, none⟩ = false := by rw [← hW6]; simp [go_sem]
        have HB6 := Lib.hid (HB5.out.old b6)
        have B6 := Lib.hid b6
        have HR6 := Lib.hid (HR5.out.old b6)
        have HQ6 := Lib.hid (HQ5.out.old b6)
        have BB6 := Lib.hid (BB5.out.trans (b6.mono (by omega)))
        have hs6 := b6.size
        clear hW6 b6 p0 p1 p2 s0 s1 s2 y0 y1 y2 v0 v1 v2 m0 m1 m2
        obtain ⟨p0, p1, p2, s0, s1, s2, -⟩ := HB6.out
        obtain ⟨y0, y1, y2, v0, v1, v2, -⟩ := HR6.out
        by_cases h22 : 4194304 < fl.bytes.length + s.length
        · have h22' : (4194304 : Int) - (fl.bytes.length : Int) < (s.length : Int) := by omega
          go_wp2_with fail
          have kf := HR6.out.put (some ⟨b, o, none⟩) (ln) c1 (T.fuse) T.off
          have qf := RefD.put HR6.out HQ6.out (some ⟨b, o, none⟩) (ln) c1 (T.fuse) T.off
          have bf := put3_below BB6.out (Nat.le_succ w.heap.size) (some ⟨b, o, none⟩) (ln) c1 (T.fuse) T.off
          show bodyPost _ _ _ _ _ (put3 W6 (w.heap.size + 1) (some ⟨b, o, none⟩) (ln) c1 (T.fuse) T.off)
          generalize put3 W6 (w.heap.size + 1) (some ⟨b, o, none⟩) (ln) c1 (T.fuse) T.off = WF at kf qf bf ⊢
          obtain ⟨k0, k1, k2, -⟩ := kf
          refine bodyPost_ret (v := .tuple #[.agg #[.slice (some ⟨b, o, none⟩) (ln) c1, .int .i64 (T.fuse), .bool T.off], .int .i64 2]) (by simp [results, Tryz.f52, go_sem, k0, k1, k2]) rfl ?_
          rw [append_full HNM.out h50 i3' h22, ← HT.out]
          exact ⟨_, rfl, qf, bf⟩
        · have h22' : ¬ (4194304 : Int) - (fl.bytes.length : Int) < (s.length : Int) := by omega
          go_wp2_with fail
          rw [cat_bytes]
          have b6x : Below W5.heap.size W5 (W6.setCell ⟨W5.heap.size, 1, none⟩ (.string ⟨(fl.bytes ++ s).toArray⟩)) := B6.out.setCell (Nat.le_refl _) _
          generalize W6.setCell ⟨W5.heap.size, 1, none⟩ (.string ⟨(fl.bytes ++ s).toArray⟩) = W6x at b6x ⊢
          have HR6x := Lib.hid (HR5.out.old b6x)
          have HQ6x := Lib.hid (HQ5.out.old b6x)
          have BB6x := Lib.hid (BB5.out.trans (b6x.mono (by omega)))
          have hs6x := b6x.size
          clear p0 p1 p2 s0 s1 s2 y0 y1 y2 v0 v1 v2 n0 n1 n2 u1 u2 b6x
          go_at_call 69
          refine (with_ref HQ6x.out (by rw [HTL.out]; omega) HSRT.out nm (fl.bytes ++ s) fl.sure).mono ?_
          rintro e W7 ⟨q7, rfl, ⟨a7, c7, rfl, r7, g7, g8⟩, b7⟩
          have HQ7 := Lib.hid (show RefD W7 _ ⟨putL nm ⟨fl.bytes ++ s, fl.sure⟩ T.files, T.fuse, T.off⟩ from ⟨a7, c7, rfl, r7, g7, g8⟩)
          have HR7 := Lib.hid (HR6x.out.old b7)
          have BB7 := Lib.hid (BB6x.out.trans (b7.mono (by omega)))
          clear b7 r7
          obtain ⟨y0, y1, y2, v0, v1, v2, -⟩ := HR7.out
          go_wp2_with fail
          have kf := HR7.out.put a7 ((putL nm (⟨fl.bytes ++ s, fl.sure⟩ : Fl) T.files).length) c7 (T.fuse) T.off
          have qf := RefD.put HR7.out HQ7.out a7 ((putL nm (⟨fl.bytes ++ s, fl.sure⟩ : Fl) T.files).length) c7 (T.fuse) T.off
          have bf := put3_below BB7.out (Nat.le_succ w.heap.size) a7 ((putL nm (⟨fl.bytes ++ s, fl.sure⟩ : Fl) T.files).length) c7 (T.fuse) T.off
          show bodyPost _ _ _ _ _ (put3 W7 (w.heap.size + 1) a7 ((putL nm (⟨fl.bytes ++ s, fl.sure⟩ : Fl) T.files).length) c7 (T.fuse) T.off)
          generalize put3 W7 (w.heap.size + 1) a7 ((putL nm (⟨fl.bytes ++ s, fl.sure⟩ : Fl) T.files).length) c7 (T.fuse) T.off = WF at kf qf bf ⊢
          obtain ⟨k0, k1, k2, -⟩ := kf
          refine bodyPost_ret (v := .tuple #[.agg #[.slice a7 ((putL nm (⟨fl.bytes ++ s, fl.sure⟩ : Fl) T.files).length) c7, .int .i64 (T.fuse), .bool T.off], .int .i64 0]) (by simp [results, Tryz.f52, go_sem, k0, k1, k2]) rfl ?_
          rw [append_yes HNM.out h50 i3' HS.out h22, ← HT.out]
          exact ⟨_, rfl, qf, bf⟩
    · have e0 := HE.out
      rw [h50] at e0
      subst e0
      go_wp2_with fail
      have kf := hr4.out.put a1 (ln) c1 (T.fuse) T.off
      have qf := RefD.put hr4.out HQ4.out a1 (ln) c1 (T.fuse) T.off
      have bf := put3_below BB4.out (Nat.le_succ w.heap.size) a1 (ln) c1 (T.fuse) T.off
      show bodyPost _ _ _ _ _ (put3 W3 (w.heap.size + 1) a1 (ln) c1 (T.fuse) T.off)
      generalize put3 W3 (w.heap.size + 1) a1 (ln) c1 (T.fuse) T.off = WF at kf qf bf ⊢
      obtain ⟨k0, k1, k2, -⟩ := kf
      refine bodyPost_ret (v := .tuple #[.agg #[.slice a1 (ln) c1, .int .i64 (T.fuse), .bool T.off], .int .i64 50]) (by simp [results, Tryz.f52, go_sem, k0, k1, k2]) rfl ?_
      rw [append_off HNM.out h50, ← HT.out]
      exact ⟨_, rfl, qf, bf⟩
end Go.Proofs.YtkfmjkcomjmedaaGreat
namespace Go.Proofs.YtkfmjkcomjmedaaGreat
open Go.RowKit
set_option linter.unusedVariables false
set_option linter.unusedSimpArgs false

set_option maxRecDepth 100000 in
set_option maxHeartbeats 4000000 in
theorem remove_ref {w : World} {q : Value} {S : Ds} (h : RefD w q S) (hl : S.files.length ≤ 100000) (hs : Srt S.files) (hf : -9223372036854775808 ≤ S.fuse ∧ S.fuse ≤ 9223372036854775807) (nm : List UInt8) (hn : nm.length ≤ maxLen) :
    Calls Tryz.prog 40 #[q, .string ⟨nm.toArray⟩] w (DoR w (S.remove nm).1 (S.remove nm).2) := by
  have HD := Lib.hid h
  obtain ⟨a, c, rfl, h1, h2, h3⟩ := h
  obtain ⟨ln, hln⟩ : ∃ ln, ln = S.files.length := ⟨_, rfl⟩
  have HS := Lib.hid hs
  have HF := Lib.hid hf
  have HL := Lib.hid hl
  have HN := Lib.hid (wname_list nm hn)
  rw [← hln] at HD hl ⊢
  have HLN := Lib.hid hln
  clear h1 h2 h3 hs hln hf hn
  go_enter Tryz.func40, Tryz.ntmps40
  go_upto_if 10 with (go_at_call 57; refine (HN.out _).mono ?_; rintro e wn ⟨rfl, rfl⟩)
  generalize hW : World.alloc (World.alloc w _) _ = W
  have BB : Below w.heap.size w W := by rw [← hW]; exact ((Below.refl _ _).alloc (Nat.le_refl _) _).alloc (by simp) _
  have HB : Bx W w.heap.size a ln c S.fuse S.off := by rw [← hW]; exact (Bx.new ..).old ((Below.refl _ _).alloc (Nat.le_refl _) _)
  have HR : Bx W (w.heap.size + 1) none 0 0 0 false := by rw [← hW]; have := Bx.new (w.alloc (.cells #[.slice a ln c, .int .i64 S.fuse, .bool S.off] 28)) none 0 0 0 false 28; simpa using this
  have hsz : W.heap.size = w.heap.size + 2 := by rw [← hW]; simp
  clear hW
  have BB := Lib.hid BB
  have HQ := Lib.hid (HD.out.old BB.out)
  cases hnm : namL nm with
  | false =>
    have HRR := Lib.hid HR
    obtain ⟨x0, x1, x2, z0, z1, z2, -⟩ := HB
    obtain ⟨y0, y1, y2, v0, v1, v2, -⟩ := HR
    go_wp2_with fail
    have kf := HRR.out.put a (ln) c (S.fuse) S.off
    have qf := RefD.put HRR.out HQ.out a (ln) c (S.fuse) S.off
    have bf := put3_below BB.out (Nat.le_succ w.heap.size) a (ln) c (S.fuse) S.off
    show bodyPost _ _ _ _ _ (put3 W (w.heap.size + 1) a (ln) c (S.fuse) S.off)
    generalize put3 W (w.heap.size + 1) a (ln) c (S.fuse) S.off = WF at kf qf bf ⊢
    obtain ⟨k0, k1, k2, -⟩ := kf
    refine bodyPost_ret (v := .tuple #[.agg #[.slice a (ln) c, .int .i64 (S.fuse), .bool S.off], .int .i64 1]) (by simp [results, Tryz.f40, go_sem, k0, k1, k2]) rfl ?_
    rw [remove_no hnm]
    exact ⟨_, rfl, qf, bf⟩
  | true =>
    obtain ⟨T, hT⟩ : ∃ T, T = S.begin true := ⟨_, rfl⟩
    have hTf : T.files = S.files := by rw [hT]; rfl
    obtain ⟨E, hE⟩ : ∃ E, E = begE true S.fuse S.off := ⟨_, rfl⟩
    have hdo := doing_ref HQ.out HF.out
    rw [← hT, ← hE] at hdo
    have HDO := Lib.hid hdo
    have HT := Lib.hid hT
    have HE := Lib.hid hE
    have HTF := Lib.hid hTf
    have HTL := Lib.hid (show T.files.length = ln by rw [hTf, HLN.out])
    have HNM := Lib.hid hnm
    clear hdo hT hE hTf
    have HBB := Lib.hid HB
    have HRR := Lib.hid HR
    clear HB HR
    obtain ⟨x0, x1, x2, z0, z1, z2, -⟩ := HBB.out
    go_wp2_with fail
    go_at_call 66
    refine HDO.out.mono ?_
    rintro e wd ⟨q1, rfl, hq1, b1⟩
    have HQ1 := Lib.hid hq1
    obtain ⟨a1, c1, eq1, r1, g1, g2⟩ := hq1
    rw [HTL.out] at eq1
    subst eq1
    clear x0 x1 x2 z0 z1 z2
    have hb2 := HBB.out.old b1
    have hr2 := HRR.out.old b1
    have HB2 := Lib.hid hb2
    have HR2 := Lib.hid hr2
    have BB2 := Lib.hid (BB.out.trans (b1.mono (by omega)))
    have hsz2 := b1.size
    obtain ⟨x0, x1, x2, z0, z1, z2, -⟩ := hb2
    clear hr2 b1 r1
    go_upto_if 18 with fail
    have HB3 := HB2.out.put a1 ln c1 T.fuse T.off
    have HR3 := HR2.out.other (show w.heap.size + 1 ≠ w.heap.size by omega) a1 ln c1 T.fuse T.off
    have HQ3 := RefD.put HB2.out HQ1.out a1 ln c1 T.fuse T.off
    have BB3 := put3_below BB2.out (Nat.le_refl w.heap.size) a1 ln c1 T.fuse T.off
    have hs3 := put3_size wd w.heap.size a1 ln c1 T.fuse T.off
    show Code.wp _ _ _ _ (put3 wd w.heap.size a1 ln c1 T.fuse T.off)
    generalize put3 wd w.heap.size a1 ln c1 T.fuse T.off = W3 at HB3 HR3 HQ3 BB3 hs3 ⊢
    have hb4 := Lib.hid HB3
    have hr4 := Lib.hid HR3
    have HQ4 := Lib.hid HQ3
    have BB4 := Lib.hid BB3
    obtain ⟨p0, p1, p2, s0, s1, s2, -⟩ := HB3
    obtain ⟨y0, y1, y2, v0, v1, v2, -⟩ := HR3
    clear x0 x1 x2 z0 z1 z2 HQ3 BB3
    rcases begE_two S.fuse S.off with h50 | h50
    · have e0 := HE.out
      rw [h50] at e0
      subst e0
      go_wp2_with fail
      go_at_call 58
      refine (find_ref HQ4.out (by rw [HTL.out]; omega) nm).mono ?_
      rintro e W5 ⟨rfl, b5⟩
      have HB5 := Lib.hid (hb4.out.old b5)
      have HR5 := Lib.hid (hr4.out.old b5)
      have HQ5 := Lib.hid (HQ4.out.old b5)
      have BB5 := Lib.hid (BB4.out.trans (b5.mono (by omega)))
      have hs5 := b5.size
      clear p0 p1 p2 s0 s1 s2 y0 y1 y2 v0 v1 v2 b5
      obtain ⟨p0, p1, p2, s0, s1, s2, -⟩ := HB5.out
      obtain ⟨y0, y1, y2, v0, v1, v2, -⟩ := HR5.out
      have HSRT := Lib.hid (show Srt T.files by rw [HTF.out]; exact HS.out)
      rcases fIdx_cases nm T.files with ⟨i1, i2, i3⟩ | ⟨k, hk, i1, i2, i3⟩
      · rw [i1]
        rw [HTF.out] at i2
        clear i1
        go_wp2_with fail
        have kf := HR5.out.put a1 (ln) c1 (T.fuse) T.off
        have qf := RefD.put HR5.out HQ5.out a1 (ln) c1 (T.fuse) T.off
        have bf := put3_below BB5.out (Nat.le_succ w.heap.size) a1 (ln) c1 (T.fuse) T.off
        show bodyPost _ _ _ _ _ (put3 W5 (w.heap.size + 1) a1 (ln) c1 (T.fuse) T.off)
        generalize put3 W5 (w.heap.size + 1) a1 (ln) c1 (T.fuse) T.off = WF at kf qf bf ⊢
        obtain ⟨k0, k1, k2, -⟩ := kf
        refine bodyPost_ret (v := .tuple #[.agg #[.slice a1 (ln) c1, .int .i64 (T.fuse), .bool T.off], .int .i64 3]) (by simp [results, Tryz.f40, go_sem, k0, k1, k2]) rfl ?_
        rw [remove_none HNM.out h50 i2, ← HT.out]
        exact ⟨_, rfl, qf, bf⟩
      · rw [i1]
        have hkl : k < ln := by rw [← HTL.out]; exact hk
        obtain ⟨fl, hfl⟩ : ∃ fl, fl = T.files[k].2 := ⟨_, rfl⟩
        rw [← hfl] at i3
        have i3' := i3
        rw [HTF.out] at i3'
        have HFL := Lib.hid hfl
        clear hfl
        clear i1
        go_wp2_with fail
        go_at_call 67
        refine (without_ref HQ5.out (by rw [HTL.out]; omega) hk).mono ?_
        rintro e W6 ⟨q6, rfl, ⟨a6, c6, rfl, r6, g6, g7⟩, b6⟩
        have HQ6 := Lib.hid (show RefD W6 _ ⟨T.files.take k ++ T.files.drop (k + 1), T.fuse, T.off⟩ from ⟨a6, c6, rfl, r6, g6, g7⟩)
        have HR6 := Lib.hid (HR5.out.old b6)
        have BB6 := Lib.hid (BB5.out.trans (b6.mono (by omega)))
        clear p0 p1 p2 s0 s1 s2 y0 y1 y2 v0 v1 v2 b6 r6
        obtain ⟨y0, y1, y2, v0, v1, v2, -⟩ := HR6.out
        have hdl := delL_at HSRT.out hk i2
        generalize T.files.take k ++ T.files.drop (k + 1) = M at g6 HQ6 hdl ⊢
        go_wp2_with fail
        have kf := HR6.out.put a6 (M.length) c6 (T.fuse) T.off
        have qf := RefD.put HR6.out HQ6.out a6 (M.length) c6 (T.fuse) T.off
        have bf := put3_below BB6.out (Nat.le_succ w.heap.size) a6 (M.length) c6 (T.fuse) T.off
        show bodyPost _ _ _ _ _ (put3 W6 (w.heap.size + 1) a6 (M.length) c6 (T.fuse) T.off)
        generalize put3 W6 (w.heap.size + 1) a6 (M.length) c6 (T.fuse) T.off = WF at kf qf bf ⊢
        obtain ⟨k0, k1, k2, -⟩ := kf
        refine bodyPost_ret (v := .tuple #[.agg #[.slice a6 (M.length) c6, .int .i64 (T.fuse), .bool T.off], .int .i64 0]) (by simp [results, Tryz.f40, go_sem, k0, k1, k2]) rfl ?_
        rw [remove_yes HNM.out h50 i3', ← HT.out, hdl]
        exact ⟨_, rfl, qf, bf⟩
    · have e0 := HE.out
      rw [h50] at e0
      subst e0
      go_wp2_with fail
      have kf := hr4.out.put a1 (ln) c1 (T.fuse) T.off
      have qf := RefD.put hr4.out HQ4.out a1 (ln) c1 (T.fuse) T.off
      have bf := put3_below BB4.out (Nat.le_succ w.heap.size) a1 (ln) c1 (T.fuse) T.off
      show bodyPost _ _ _ _ _ (put3 W3 (w.heap.size + 1) a1 (ln) c1 (T.fuse) T.off)
      generalize put3 W3 (w.heap.size + 1) a1 (ln) c1 (T.fuse) T.off = WF at kf qf bf ⊢
      obtain ⟨k0, k1, k2, -⟩ := kf
      refine bodyPost_ret (v := .tuple #[.agg #[.slice a1 (ln) c1, .int .i64 (T.fuse), .bool T.off], .int .i64 50]) (by simp [results, Tryz.f40, go_sem, k0, k1, k2]) rfl ?_
      rw [remove_off HNM.out h50, ← HT.out]
      exact ⟨_, rfl, qf, bf⟩
end Go.Proofs.YtkfmjkcomjmedaaGreat
