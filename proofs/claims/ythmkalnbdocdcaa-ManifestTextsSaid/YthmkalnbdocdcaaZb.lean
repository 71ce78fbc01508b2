/-
  Layer 12 (manifest): the contract of changed. Conditions: at most 50000 tables, their numbers told apart.
-/
import Derived.Test.YthmkalnbdocdcaaZa
import Derived.Test.YthmkalnbdocdcaaAp
import Derived.Test.YthmkalnbdocdcaaQm
import Derived.Deep.RegionHeld3
namespace Go.Proofs.Ythmkalnbdocdcaa
set_option maxRecDepth 100000
open Go.RowKit Go.Maps Go.WideShapes
set_option linter.unusedVariables false
set_option linter.unusedSimpArgs false

def CgP (w : World) (fit : Bool) (L : List Tb) (x : Ending) (w' : World) : Prop := Below w.heap.size w w' ∧
    ((fit = true ∧ ∃ v base, x = .returned (.tuple #[v, .bool true]) ∧ w.heap.size ≤ base ∧ base ≤ w'.heap.size ∧ w'.ownsRow base 49 4 v L.length (tv4 L)) ∨ (fit = false ∧ ∃ v, x = .returned (.tuple #[v, .bool false])))
set_option maxRecDepth 1000000 in
set_option maxHeartbeats 16000000 in
theorem changed_any (a : Option Addr) (n cap : Nat) (s : List Tb) (V : Value) (e : Ed) (w : World) (hst : ST w a n cap s) (hok : okT s) (hn : s.length ≤ 50000) (hnd : (s.map (·.1)).Nodup) (hmy : ∀ t ∈ s, mayT t = true) (h : EV w V e) (hm : mayEd e = true) :
    Calls Try.prog 42 #[.slice a n cap, V] w (CgP w (fitT s e) (keptT s e.2.1 ++ e.1)) := by
  obtain ⟨i0, hi0, hz0, hz1, hz2⟩ := info_parts Try.infoTab
  have hEV := h
  obtain ⟨aa, an, ac, da', dn, dc, rfl, het, hez, heo⟩ := h
  obtain ⟨ts, zs, lg, nx⟩ := e
  obtain ⟨b, off, ha, hb, hc⟩ := hst.2.1.at_
  obtain ⟨b2, off2, ha2, hb2, hc2⟩ := het.2.1.at_
  have hm' := mayEd_iff.1 hm
  obtain ⟨m1, m2, -⟩ := hm'
  simp only at *
  have hl := hst.1
  rw [hl] at ha hb hn
  have hl2 := het.1
  rw [hl2] at ha2 hb2 m1
  have hl3 := hez.1
  rw [hl3] at m2
  obtain ⟨r, hr⟩ : ∃ r, fitT s (ts, zs, lg, nx) = r := ⟨_, rfl⟩
  rw [hr]
  have HFS := Lib.hid (show r = true ↔ doB (ts, zs, lg, nx) = true ∧ (∀ t ∈ s, ¬ t.1 ∈ ts.map (·.1)) ∧ (goneT s zs).length = dn by rw [← hr, ← hl3]; exact fit_split (e := (ts, zs, lg, nx)) hnd)
  have HC := Lib.hid hc
  have HC2 := Lib.hid hc2
  have HL := Lib.hid hl
  have HL2 := Lib.hid hl2
  have HMY := Lib.hid hmy
  have hB0 := box_bel w (.cells #[.slice aa an ac, .slice da' dn dc, .int .i64 lg, .int .i64 nx] 25)
  have HD := Lib.hid (doings_any _ _ _ (hEV.old hB0) hm)
  have HB0 := Lib.hid hB0
  have bx := EdBox.new w 25 (.slice aa an ac) (.slice da' dn dc) lg nx
  obtain ⟨F, hF⟩ : ∃ F, F = da (ts.map (·.1)) zs := ⟨_, rfl⟩
  obtain ⟨dd, hdd⟩ : ∃ dd, dd = doB (ts, zs, lg, nx) := ⟨_, rfl⟩
  rw [← hdd] at HD HFS
  have HF := Lib.hid hF
  clear hr hc hc2 hl hl2 hl3 hB0 hEV het hez heo hm hst hok hnd hmy
  simp only at HD
  rw [← hF] at HD
  clear hF hdd
  go_enter Try.func42, Try.ntmps42
  obtain ⟨xb, hxb⟩ : ∃ xb, xb = w.heap.size := ⟨_, rfl⟩
  go_upto_region 1 with fail
  rw [← hxb] at bx ⊢
  generalize w.alloc (.cells #[.slice aa an ac, .slice da' dn dc, .int .i64 lg, .int .i64 nx] 25) = wb at *
  have BX := Lib.hid bx
  obtain ⟨y0, y1, y2, y3, y4⟩ := bx
  have HXB := Lib.hid hxb
  clear hxb
  go_wp2_with (go_at_call 65; refine HD.out.mono ?_; rintro e w1 ⟨hb1, hres⟩; have HB1 := Lib.hid hb1; have HRES := Lib.hid hres; clear hb1 hres; have hpick := HRES.out; rcases hpick with ⟨hdt, mb, rfl, hmb, hdm⟩ | ⟨hdt, rfl⟩)
  rotate_left
  ·
    obtain rfl : r = false := by
      refine Bool.eq_false_iff.2 fun h => ?_
      have := (HFS.out.1 h).1
      rw [hdt] at this
      cases this
    have HZZ := Lib.hid (HB0.out.trans (HB1.out.mono HB0.out.size))
    go_ret2
    exact ⟨HZZ.out, .inr ⟨rfl, _, rfl⟩⟩
  subst hdt
  have HBW := Lib.hid (HB0.out.trans (HB1.out.mono HB0.out.size))
  have HDM := Lib.hid hdm
  have HLT := Lib.hid hdm.lt
  clear hdm HRES hmb y0 y1 y2 y3 y4 HD
  obtain ⟨B, hB⟩ : ∃ B, B = w1.heap.size := ⟨_, rfl⟩
  have HBB := Lib.hid hB
  have HXM := Lib.hid (show w.heap.size ≤ B by rw [hB]; exact HBW.out.size)
  have hxB : xb < B := by have := BX.out.2.2.2.2; have := HB1.out.size; omega
  have hmB : mb < B := by have := HLT.out; omega
  clear hB
  have BX1 := Lib.hid (BX.out.below HB1.out)
  have HBQ := Lib.hid (show Below B w1 w1 from Below.refl _ _)
  go_loopw [8, 9, 21] (fun l g i wr => ∃ k m q : Nat, i = .int .i64 k ∧ g = .int .i64 q ∧ k ≤ n ∧ m ≤ k ∧ q ≤ k ∧ Hid (m = (keptT (s.take k) zs).length ∧ q = (goneT (s.take k) zs).length ∧ (∀ t ∈ s.take k, ¬ t.1 ∈ ts.map (·.1)) ∧ wr.ownsRow B 49 4 l m (tv4 (keptT (s.take k) zs))) ∧ Hid (Below B w1 wr)) (fun _ _ i _ => n - (intOf i).toNat)
  case atStart => exact ⟨0, 0, 0, by first | rfl | go_num, by first | rfl | go_num, by omega, by omega, by omega, Lib.hid ⟨rfl, rfl, by simp, World.ownsRow_nil _ _ _ _⟩, HBQ⟩
  case round =>
    obtain ⟨k, m, q, rfl, rfl, hk, hmk, hqk, HK, HW⟩ := hrel
    have hws : B ≤ wr.heap.size := by have := HW.out.size; have := HBB.out; omega
    have HBR := Lib.hid (HBW.out.trans (HW.out.mono HXM.out))
    by_cases hlt : k < n
    · have hki : (k : Int) < (n : Int) := by omega
      obtain rfl := ha (by omega)
      have hbw := hb (by omega)
      have hkl : k < s.length := by rw [HL.out]; exact hlt
      obtain ⟨g0, g1, g2, g3⟩ := HC.out.old hbw HBR.out k hkl
      have hbr : b < wr.heap.size := Nat.lt_of_lt_of_le hbw HBR.out.size
      have hin := List.getElem_mem hkl
      have hEm := (mayT_iff.1 (HMY.out _ hin)).1
      have hs : s.take (k + 1) = s.take k ++ [s[k]] := List.take_succ_eq_append_getElem hkl
      obtain ⟨E, hE⟩ : ∃ E, E = s[k] := ⟨_, rfl⟩
      rw [← hE] at g0 g1 g2 g3 hEm hs hin
      obtain ⟨x1, x2, x3, x4⟩ := E
      simp only at g0 g1 g2 g3 hEm
      have HE := Lib.hid (show 0 ≤ x1 ∧ x1 ≤ 1073741824 by omega)
      obtain ⟨D, hown, hism, hf⟩ := HDM.out.below HW.out hmB
      have HO := Lib.hid (hown.alloc (.cells #[.int .i64 x1, .int .i64 x2, .string x3, .string x4] 49))
      have HFD := Lib.hid hf
      have HS := Lib.hid hs
      have HIN := Lib.hid hin
      have HAL := Lib.hid (box_bel wr (.cells #[.int .i64 x1, .int .i64 x2, .string x3, .string x4] 49))
      have HT := Lib.hid (TBox.new wr 49 (x1, x2, x3, x4))
      have HROW := Lib.hid (HK.out.2.2.2.alloc (.cells #[.int .i64 x1, .int .i64 x2, .string x3, .string x4] 49))
      obtain ⟨tb, htb⟩ : ∃ tb, tb = wr.heap.size := ⟨_, rfl⟩
      clear hE hEm hs hown hism hf hin
      go_upto_region 9 with fail
      rw [← htb] at HT ⊢
      clear htb g0 g1 g2 g3 hbr
      have hwa := HAL.out.size
      generalize wr.alloc (.cells #[.int .i64 x1, .int .i64 x2, .string x3, .string x4] 49) = wa at *
      obtain ⟨t0, t1, t2, t3, t4⟩ := HT.out
      simp only at t0 t1 t2 t3
      by_cases h1 : x1 ∈ ts.map (·.1)
      · have HZ := Lib.hid (show F x1 = 1 by rw [HF.out]; exact if_pos h1)
        obtain rfl : r = false := by
          refine Bool.eq_false_iff.2 fun h => ?_
          exact (HFS.out.1 h).2.1 _ HIN.out h1
        clear h1 HK
        go_wp2_with (first | (at_lookup; refine wpList_lookup_own_int _ rfl _ _ 94 rfl 3 3 .i64 law_int Try.underlying94 Try.underlying3 (zero_int _) mb 256 D rfl HO.out _ _ rfl (key_int HE.out) ?_; intro c hat hwc; obtain rfl := at_num HFD HZ.out hat; clear hat hwc) | go_in)
        go_ret2
        exact ⟨HBR.out.trans (HAL.out.mono HBR.out.size), .inr ⟨rfl, _, rfl⟩⟩
      by_cases h2 : x1 ∈ zs
      · have HZ := Lib.hid (show F x1 = 2 by rw [HF.out]; unfold da dz; rw [if_neg h1, if_pos h2])
        have HN := Lib.hid (show m = (keptT (s.take (k + 1)) zs).length ∧ q + 1 = (goneT (s.take (k + 1)) zs).length ∧ (∀ t ∈ s.take (k + 1), ¬ t.1 ∈ ts.map (·.1)) ∧ wa.ownsRow B 49 4 u8 m (tv4 (keptT (s.take (k + 1)) zs)) by
          rw [HS.out, kept_snoc, gone_snoc, if_pos h2, if_pos h2, List.append_nil]
          refine ⟨HK.out.1, by rw [← HK.out.2.1], fun t ht => ?_, HROW.out⟩
          rcases List.mem_append.1 ht with ht | ht
          · exact HK.out.2.2.1 t ht
          · obtain rfl := List.mem_singleton.1 ht
            exact h1)
        clear h1 h2 HK
        go_wp2_with (first | (at_lookup; refine wpList_lookup_own_int _ rfl _ _ 94 rfl 3 3 .i64 law_int Try.underlying94 Try.underlying3 (zero_int _) mb 256 D rfl HO.out _ _ rfl (key_int HE.out) ?_; intro c hat hwc; obtain rfl := at_num HFD HZ.out hat; clear hat hwc) | go_in)
        go_roundw
        case rel => exact ⟨k + 1, m, q + 1, by go_num, by go_num, by omega, by omega, by omega, HN, Lib.hid (HW.out.trans (HAL.out.mono hws))⟩
        case measure => simp [intOf]; omega
      · have HZ := Lib.hid (show F x1 = 0 by rw [HF.out]; unfold da dz; rw [if_neg h1, if_neg h2])
        have HN := Lib.hid (show m + 1 = (keptT (s.take (k + 1)) zs).length ∧ q = (goneT (s.take (k + 1)) zs).length ∧ (∀ t ∈ s.take (k + 1), ¬ t.1 ∈ ts.map (·.1)) ∧ keptT (s.take (k + 1)) zs = keptT (s.take k) zs ++ [(x1, x2, x3, x4)] by
          rw [HS.out, kept_snoc, gone_snoc, if_neg h2, if_neg h2]
          refine ⟨by rw [List.length_append, ← HK.out.1]; rfl, by rw [← HK.out.2.1]; rfl, fun t ht => ?_, rfl⟩
          rcases List.mem_append.1 ht with ht | ht
          · exact HK.out.2.2.1 t ht
          · obtain rfl := List.mem_singleton.1 ht
            exact h1)
        clear h1 h2 HK
        go_wp2_with (first | (at_lookup; refine wpList_lookup_own_int _ rfl _ _ 94 rfl 3 3 .i64 law_int Try.underlying94 Try.underlying3 (zero_int _) mb 256 D rfl HO.out _ _ rfl (key_int HE.out) ?_; intro c hat hwc; obtain rfl := at_num HFD HZ.out hat; clear hat hwc) | (at_builtin; generalize hG : wpList _ _ _ _ _ _ = G) | go_in)
        rw [← hG]
        clear hG
        refine wpList_append_own _ rfl (.tmp 29) (.tmp 31) 22 rfl B 49 i0 (.agg #[.int .i64 0, .int .i64 0, .string ⟨#[]⟩, .string ⟨#[]⟩]) 4 48 Try.underlying22 hi0 hz0 hz1 hz2 rfl (by decide) _ _ _ rfl (HROW.out.alloc _) ⟨wa.heap.size, 0, none⟩ 1 1 (tv (x1, x2, x3, x4)) rfl rfl ?c1 ?c2 ?c3 ?c4 ?c5 ?_
        case c1 => exact cell_new4 _ _ _ _ _ _
        case c2 => intro u hu; simp [tv] at hu; rcases hu with rfl | rfl | rfl | rfl <;> rfl
        case c3 => unfold maxLen; omega
        case c4 => omega
        case c5 => simp [go_sem]; omega
        intro v' w3 hown3 hgrow _
        have HB3 := Lib.hid (HW.out.trans ((HAL.out.mono hws).trans (((Below.refl B wa).alloc (by omega) _).grown hgrow (by simp [go_sem]; omega) (fun k hk => (HROW.out.lt k hk).1))))
        rw [tv4_snoc, ← HN.out.2.2.2] at hown3
        have HR3 := Lib.hid (And.intro HN.out.1 (And.intro HN.out.2.1 (And.intro HN.out.2.2.1 hown3)))
        clear hown3 hgrow
        go_wp2_with fail
        go_roundw
        case rel => exact ⟨k + 1, m + 1, q, by go_num, by first | rfl | go_num, by omega, by omega, by omega, HR3, HB3⟩
        case measure => simp [intOf]; omega
    · obtain rfl : n = k := by omega
      have HE := HK.out
      rw [← HL.out, List.take_length] at HE
      have HE1 := Lib.hid HE
      have BXW := BX1.out.keep HW.out hxB
      obtain ⟨z0, z1, z2, z3, z4⟩ := BXW
      have HA2 := Lib.hid ha2
      have HB2 := Lib.hid hb2
      have hkn : (keptT s zs).length ≤ n := by rw [← HE.1]; exact hmk
      clear HE HK ha2 hb2 ha hb
      obtain ⟨c, hcq⟩ : ∃ c, c = decide ((q : Int) = (dn : Int)) := ⟨_, rfl⟩
      have hrc : r = c := by
        rw [hcq]
        by_cases hq : q = dn
        · have e1 : r = true := HFS.out.2 ⟨rfl, HE1.out.2.2.1, by rw [← HE1.out.2.1]; exact hq⟩
          rw [e1, hq]; simp
        · have e1 : r = false := Bool.eq_false_iff.2 fun h => hq (by rw [HE1.out.2.1]; exact (HFS.out.1 h).2.2)
          rw [e1]
          exact (decide_eq_false (by omega)).symm
      obtain rfl := hrc
      have HCQ := Lib.hid hcq
      clear hcq
      go_upto_region 16 with fail
      refine mixed_region (D := (fun w' => w'.cell? ⟨xb, 0, none⟩ = some (.slice aa an ac) ∧ w'.cell? ⟨xb, 1, none⟩ = some (.slice da' dn dc))) [0, 1, 2, 4, 5, 6, 7, 8] [3, 9, 10] 10 (by kernel_rfl) (by kernel_rfl) (by decide) (⟨z0, z1⟩) ?_
      simp only [List.filterMap_cons, List.filterMap_nil, List.getElem?_cons_zero, List.getElem?_cons_succ]
      repeat (
        (first
         | (refine calm_move _ rfl ?_)
         | (apply calm_cons
            · (intro w' hw'
               first | (obtain ⟨hwa', hwb', hwc'⟩ := hw') | (obtain ⟨hwa', hwb'⟩ := hw') | skip
               go_simp
               first
               | done
               | exact rfl)))
        simp only [Act.put, Act.eval, List.setIfInBounds_toArray, List.set_cons_zero, List.set_cons_succ, Array.getD_eq_getD_getElem?, List.getElem?_toArray, List.getElem?_cons_zero, List.getElem?_cons_succ, Option.getD_some])
      refine calm_nil ?_
      refine loud_cons fun K hK => ?_
      have HRW := Lib.hid (HE1.out.2.2.2.drew)
      go_wp2_with (at_builtin; refine wpList_append_any rfl (.tmp 40) (.tmp 42) 22 rfl B 49 i0 (.agg #[.int .i64 0, .int .i64 0, .string ⟨#[]⟩, .string ⟨#[]⟩]) 4 48 Try.underlying22 hi0 hz0 hz1 hz2 rfl (by decide) _ _ _ rfl HRW.out aa an ac (tv4 ts) rfl ?d1 ?d2 ?d3 ?d4 ?d5 ?d6 ?d7 ?_)
      case d1 =>
        intro h
        by_cases h0 : 0 < an
        · rw [HA2.out h0] at h; cases h
        · omega
      case d2 => rw [tv4_length, HL2.out]
      case d3 =>
        intro y hy jj u hu
        have h0 : 0 < an := by
          have hj : jj < (tv4 ts).length := by
            rcases Nat.lt_or_ge jj (tv4 ts).length with h | h
            · exact h
            · rw [List.getElem?_eq_none h] at hu; cases hu
          rw [tv4_length, HL2.out] at hj
          omega
        rw [HA2.out h0] at hy
        cases hy
        have hq := tb_news (HC2.out.old (HB2.out h0) HBR.out) hu
        first | exact hq | simpa [Addr.add] using hq | simpa [go_sem] using hq
      case d4 => exact tv4_one ts
      case d5 => unfold maxLen; omega
      case d6 => omega
      intro v' w3 hown3 hb3
      have HB3 := Lib.hid hb3
      have HO3 := Lib.hid hown3
      have q0 : w3.cell? ⟨xb, 0, none⟩ = some (.slice aa an ac) := (hb3.cell (p := ⟨xb, 0, none⟩) hxB).trans z0
      have q1 : w3.cell? ⟨xb, 1, none⟩ = some (.slice da' dn dc) := (hb3.cell (p := ⟨xb, 1, none⟩) hxB).trans z1
      clear hb3 hown3 z0 z1 z2 z3 z4
      go_wp2
      refine hK _ _ (fun _ => ⟨q0, q1⟩) ?_
      clear hK K
      refine loud_cons fun K hK => ?_
      go_wp2_with fail
      refine hK _ _ (fun _ => ⟨q0, q1⟩) ?_
      clear hK K
      refine loud_cons fun K hK => ?_
      go_wp2_with fail
      refine hK _ _ (fun h => absurd rfl h) ?_
      clear hK K
      refine loud_nil ?_
      have e2 : ((q : Int) == (dn : Int)) = r := by
        rw [HCQ.out]
        by_cases h : (q : Int) = dn <;> simp [h]
      rw [e2]
      have hlen : m + an = (keptT s zs ++ ts).length := by rw [List.length_append, ← HE1.out.1, HL2.out]
      have h5 := HO3.out
      rw [tv4_app, hlen] at h5
      have HO5 := Lib.hid h5
      have HBZ := Lib.hid ((HBR.out.drew).trans (HB3.out.mono HXM.out))
      have HSZ := Lib.hid (show B ≤ w3.heap.size by have := HB3.out.size; simp [go_sem] at this; omega)
      clear h5 hlen e2 HCQ HO3 q0 q1
      cases r with
      | true =>
        go_wp2_with fail
        go_ret2
        exact ⟨HBZ.out, .inl ⟨rfl, _, B, rfl, HXM.out, HSZ.out, HO5.out⟩⟩
      | false =>
        go_wp2_with fail
        go_ret2
        exact ⟨HBZ.out, .inr ⟨rfl, _, rfl⟩⟩
end Go.Proofs.Ythmkalnbdocdcaa
