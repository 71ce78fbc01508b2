/-
  Layer 10 (table), the contract of the document's own Open. Conditions: at most 2^20 bytes.
-/
import Derived.Test.YtobhjmkaamjoeaaGreatHd
import Derived.Test.YtobhjmkaamjoeaaGreatQ6
namespace Go.Proofs.YtobhjmkaamjoeaaGreat
set_option maxRecDepth 100000
open Go.RowKit
set_option linter.unusedVariables false
set_option linter.unusedSimpArgs false

/-- What the document's own Open leaves. -/
def RO (o : Option (List Ent)) (w : World) (e : Ending) (w' : World) : Prop :=
  ∃ (a : Option Addr) (m cap : Nat) (es : List Ent), e = .returned (.tuple #[.slice a m cap, .int .i64 (if o = none then 100 else 0)]) ∧ es.length = m ∧ RdE w' a es ∧ (∀ fs, o = some fs → es = fs) ∧ (o = none → es = []) ∧ Below w.heap.size w w'
theorem RO.no {o : Option (List Ent)} {w w' : World} {e : Ending} (ho : o = none) (he : e = .returned (.tuple #[.slice none 0 0, .int .i64 100])) (hb : Below w.heap.size w w') : RO o w e w' :=
  ⟨none, 0, 0, [], (by rw [he, if_pos ho]), rfl, .inl rfl, fun fs h => (by rw [ho] at h; cases h), fun _ => rfl, hb⟩
theorem RO.yes {o : Option (List Ent)} {w w' : World} {e : Ending} {es : List Ent} {a : Option Addr} {m cap : Nat} (ho : o = some es) (he : e = .returned (.tuple #[.slice a m cap, .int .i64 0])) (hm : es.length = m) (hr : RdE w' a es) (hb : Below w.heap.size w w') : RO o w e w' :=
  ⟨a, m, cap, es, (by rw [he, if_neg (by rw [ho]; simp)]), hm, hr, fun fs h => (by rw [ho] at h; cases h; rfl), fun h => (by rw [ho] at h; cases h), hb⟩
theorem lenL_len : ∀ (n : Nat) (s : List UInt8) (ls : List Nat), lenL n s = some ls → ls.length = n ∧ ∀ x ∈ ls, x ≤ 4611686018427387904
  | 0, s, ls, h => by
    rw [lenL] at h
    injection h with h
    subst h
    exact ⟨rfl, fun x hx => by simp at hx⟩
  | n + 1, s, ls, h => by
    obtain ⟨t, a, x, h1⟩ : ∃ t a x, ttR s = (t, a, x) := ⟨_, _, _, rfl⟩
    obtain ⟨m, b, y, h2⟩ : ∃ m b y, tk (s.drop a) 0 0 = (m, b, y) := ⟨_, _, _, rfl⟩
    rw [lenL_eq h1 h2] at h
    split at h
    · obtain ⟨r, hr, rfl⟩ := Option.map_eq_some_iff.1 h
      obtain ⟨h3, h4⟩ := lenL_len n _ r hr
      refine ⟨by simp [h3], fun z hz => ?_⟩
      rcases List.mem_cons.1 hz with rfl | hz
      · exact (tk_le h2).2
      · exact h4 z hz
    · cases h
theorem lensT_len {f : List UInt8} {ls : List Nat} (h : lensT f = some ls) : ls.length ≤ 4096 ∧ ∀ x ∈ ls, x ≤ 4611686018427387904 := by
  unfold lensT at h
  split at h
  · rename_i hc
    obtain ⟨h1, h2⟩ := lenL_len _ _ _ h
    exact ⟨by rw [h1]; exact hc.2, h2⟩
  · cases h
theorem map_ents (es b : List Ent) (o : Option (List Ent)) : (o.map (b ++ ·)).map (es ++ ·) = o.map ((es ++ b) ++ ·) := by
  cases o <;> simp
theorem decT_far {n : Nat} {ns : List Nat} {s : List UInt8} (h : ¬ n ≤ s.length) : decT (n :: ns) s = none := by rw [decT, if_neg h]
theorem decT_bad {n : Nat} {ns : List Nat} {s : List UInt8} (h : takeB (s.take n) = none) : decT (n :: ns) s = none := by
  rw [decT, h]
  split <;> rfl
theorem decT_good {n : Nat} {ns : List Nat} {s : List UInt8} {b : List Ent} (h : n ≤ s.length) (h2 : takeB (s.take n) = some b) : decT (n :: ns) s = (decT ns (s.drop n)).map (b ++ ·) := by rw [decT, if_pos h, h2]
theorem RdI.at_ {w : World} {a : Option Addr} {ns : List Nat} (h : RdI w a ns) : ∃ b off, (0 < ns.length → a = some ⟨b, off, none⟩) ∧ (0 < ns.length → b < w.heap.size) ∧ ∀ i (h : i < ns.length), w.cell? ⟨b, off + i, none⟩ = some (.int .i64 (ns[i] : Nat)) := by
  rcases h with rfl | ⟨b, off, rfl, hb, hc⟩
  · exact ⟨0, 0, fun h => by simp at h, fun h => by simp at h, fun i hi => by simp at hi⟩
  · exact ⟨b, off, fun _ => rfl, fun _ => hb, hc⟩
set_option maxHeartbeats 8000000 in
theorem ropen_any (s : ByteArray) (w : World) (hs : s.size ≤ 1048576) : Calls Tryz.prog 11 #[.string s] w (RO (openT s.data.toList) w) := by
  obtain ⟨i0, hi, hz0, hz1, hz2⟩ := info_parts Tryz.infoEnt9
  by_cases h4 : s.size < 4
  · have HN : Hid (openT s.data.toList = none) := Lib.hid (by unfold openT; rw [if_neg (by rw [size_list]; omega)])
    have hsi : (s.size : Int) < 4 := by omega
    go_enter Tryz.func11, Tryz.ntmps11
    go_wp2
    go_ret2
    exact RO.no HN.out rfl (Below.refl _ _)
  have hsi : (4 : Int) ≤ (s.size : Int) := by omega
  obtain ⟨M, hM⟩ : ∃ M, s.size = M + 4 := ⟨s.size - 4, by omega⟩
  have hmi : (s.size : Int) - 4 = (M : Int) := by omega
  have hx := ext_drop s M (by omega)
  obtain ⟨v, hv⟩ : ∃ v, v = fixV (s.data.toList.drop M) := ⟨_, rfl⟩
  have hT := takefix_ref_any (s.extract M s.size) w (by rw [hx.2]; omega)
  rw [show tfR (s.extract M s.size) = (v, 0) by unfold tfR; rw [if_neg (by rw [hx.2]; omega), hx.1, hv]] at hT
  simp only at hT
  have HT := Lib.hid hT
  have hMs : (M : Int) ≤ (s.size : Int) := by omega
  have hM0 : (0 : Int) ≤ (M : Int) := by omega
  have HV := Lib.hid hv
  have HM := Lib.hid hM
  have hwM : IntKind.i64.wrap (M : Int) = (M : Int) := IntWalk.i64_in _ (by omega)
  have hMz : M ≤ s.size := by omega
  clear hT hv hx
  by_cases hle : v ≤ M
  case neg =>
    have hli : (M : Int) < (v : Int) := by omega
    have HN : Hid (openT s.data.toList = none) := Lib.hid (by
      unfold openT
      rw [size_list, HM.out, show M + 4 - 4 = M by omega, ← HV.out, if_neg (by omega)])
    clear hM
    go_enter Tryz.func11, Tryz.ntmps11
    go_wp2_with fail
    refine HT.out.mono ?_
    rintro e w1 ⟨rfl, b1⟩
    go_wp2
    go_ret2
    exact RO.no HN.out rfl b1
  have hli : (v : Int) ≤ (M : Int) := by omega
  obtain ⟨p, hp⟩ : ∃ p, p = M - v := ⟨_, rfl⟩
  have hd : (M : Int) - (v : Int) = (p : Int) := by omega
  have hpM : (p : Int) ≤ (M : Int) := by omega
  have hpMn : p ≤ M := by omega
  have hps : (p : Int) ≤ (s.size : Int) := by omega
  have hp0 : (0 : Int) ≤ (p : Int) := by omega
  have hwp : IntKind.i64.wrap (p : Int) = (p : Int) := IntWalk.i64_in _ (by omega)
  obtain ⟨F, hF⟩ : ∃ F, F = s.extract p M := ⟨_, rfl⟩
  have hFs : F.size ≤ 1048576 := by rw [hF, ByteArray.size_extract]; omega
  have hFd : F.data.toList = (s.data.toList.take M).drop p := by rw [hF, Lib.extract_data, List.drop_take]
  have HO : Hid (openT s.data.toList = match lensT F.data.toList with
      | some ls => (match decT ls s.data.toList with
        | some es => if okT es = true ∧ buildT es = s.data.toList then some es else none
        | none => none)
      | none => none) := Lib.hid (by
    unfold openT
    rw [size_list, HM.out, show M + 4 - 4 = M by omega, ← HV.out, ← hp, if_pos ⟨by omega, hle⟩, hFd]
    rfl)
  have HLN := Lib.hid fun wx => rlen_any F wx hFs
  have HFE := Lib.hid hF
  clear hM hp hFd
  go_enter Tryz.func11, Tryz.ntmps11
  go_wp2_with fail
  refine HT.out.mono ?_
  rintro e w1 ⟨rfl, b1⟩
  have HW1 := Lib.hid b1
  clear b1 HT
  go_wp2_with fail
  rw [← HFE.out]
  refine (HLN.out _).mono ?_
  rintro e w2 ⟨a2, m2, c2, ls, rfl, hlm, hri, hfs, b2⟩
  have HW2 := Lib.hid (HW1.out.trans (b2.mono HW1.out.size))
  cases ho : lensT F.data.toList with
  | none =>
    have HN : Hid (openT s.data.toList = none) := Lib.hid (by rw [HO.out, ho])
    clear b2 hri hfs hlm ho
    rw [show (none : Option (List Nat)).isSome = false from rfl]
    go_wp2
    go_ret2
    exact RO.no HN.out rfl HW2.out
  | some fs =>
    obtain rfl := hfs fs ho
    have hll := lensT_len ho
    have HO2 : Hid (openT s.data.toList = match decT ls s.data.toList with | some es => if okT es = true ∧ buildT es = s.data.toList then some es else none | none => none) := Lib.hid (by rw [HO.out, ho])
    have hm4 : m2 ≤ 4096 := by rw [← hlm]; exact hll.1
    have HLM := Lib.hid hlm
    have HLX := Lib.hid hll.2
    obtain ⟨bI, oI, haI, hbI, hcI⟩ := hri.at_
    rw [hlm] at haI hbI
    have HAI := Lib.hid haI
    have HBI := Lib.hid hbI
    have HCI := Lib.hid hcI
    have hW2s := HW2.out.size
    clear b2 hri hfs hlm ho hll haI hbI hcI HO HLN HW1 HFE
    rw [show (some ls).isSome = true from rfl]
    go_wp2
    go_loopw [9, 10, 11, 12, 13] (fun vout vat i _ _ wr => ∃ (k A : Nat) (es : List Ent), i = .int .i64 k ∧ k ≤ m2 ∧ vat = .int .i64 A ∧ A ≤ s.size ∧ Hid (es.length ≤ 4096 * k) ∧ Hid (okV es) ∧ Hid (wr.ownsRow w2.heap.size 41 4 vout es.length (ev4 es)) ∧ Hid (Below w2.heap.size w2 wr) ∧ Hid (decT ls s.data.toList = (decT (ls.drop k) (s.data.toList.drop A)).map (es ++ ·))) (fun _ _ i _ _ _ => m2 - (intOf i).toNat)
    case atStart => exact ⟨0, 0, [], rfl, by omega, rfl, Nat.zero_le _, Lib.hid (by simp), Lib.hid (fun e he => by simp at he), Lib.hid (World.ownsRow_nil _ _ _ _), Lib.hid (Below.refl _ _), Lib.hid (by simp)⟩
    case round =>
      obtain ⟨k, A, es, rfl, hk, rfl, hA, HEL, HOV, HOW, HW, HE⟩ := hrel
      have hws := HW.out.size
      by_cases hlt : k < m2
      · have hki : (k : Int) < (m2 : Int) := by omega
        have hk0 : (0 : Int) ≤ (k : Int) := by omega
        have hA0 : (0 : Int) ≤ (A : Int) := by omega
        have hAi : (A : Int) ≤ (s.size : Int) := by omega
        have hkl : k < ls.length := by rw [HLM.out]; exact hlt
        obtain rfl := HAI.out (by omega)
        have hbw := HBI.out (by omega)
        have hbr : bI < wr.heap.size := Nat.lt_of_lt_of_le hbw hws
        have g0 := (HW.out.cell (p := ⟨bI, oI + k, none⟩) hbw).trans (HCI.out k hkl)
        have hLx := HLX.out ls[k] (List.getElem_mem hkl)
        have hdk := List.drop_eq_getElem_cons hkl
        obtain ⟨L, hL⟩ : ∃ L, L = ls[k] := ⟨_, rfl⟩
        rw [← hL] at g0 hdk hLx
        have HLE := Lib.hid hL
        obtain ⟨R, hR⟩ : ∃ R, R = s.size - A := ⟨_, rfl⟩
        have hRi : (s.size : Int) - (A : Int) = (R : Int) := by omega
        have hwR : IntKind.i64.wrap (R : Int) = (R : Int) := IntWalk.i64_in _ (by omega)
        have hsdl : (s.data.toList.drop A).length = R := by rw [List.length_drop, size_list, hR]
        have HE2 := Lib.hid (show decT ls s.data.toList = (decT (L :: ls.drop (k + 1)) (s.data.toList.drop A)).map (es ++ ·) by rw [HE.out, hdk])
        have HSD := Lib.hid hsdl
        clear hdk hL hsdl
        by_cases hLR : L ≤ R
        case neg =>
          have hLi : (R : Int) < (L : Int) := by omega
          have HN : Hid (openT s.data.toList = none) := Lib.hid (by rw [HO2.out, HE2.out, decT_far (by rw [HSD.out]; exact hLR)]; rfl)
          have HW3 := Lib.hid (HW2.out.trans (HW.out.mono hW2s))
          clear hR
          go_wp2
          go_ret2
          exact RO.no HN.out rfl HW3.out
        have hLi : (L : Int) ≤ (R : Int) := by omega
        obtain ⟨B, hB⟩ : ∃ B, B = A + L := ⟨_, rfl⟩
        have hBi : (A : Int) + (L : Int) = (B : Int) := by omega
        have hBs : (B : Int) ≤ (s.size : Int) := by omega
        have hAB : (A : Int) ≤ (B : Int) := by omega
        have hB0 : (0 : Int) ≤ (B : Int) := by omega
        have hABn : A ≤ B := by omega
        have hBsn : B ≤ s.size := by omega
        have hxd : (s.extract A B).data.toList = (s.data.toList.drop A).take L := by rw [Lib.extract_data, hB, show A + L - A = L by omega]
        have hxz : (s.extract A B).size ≤ 16777216 := by rw [ByteArray.size_extract]; omega
        have hTK := fun wx => rtake9_any (s.extract A B) wx hxz
        rw [hxd] at hTK
        have HTK := Lib.hid hTK
        have HBE := Lib.hid hB
        clear hR hB hxd hxz hTK
        go_wp2_with fail
        refine (HTK.out _).mono ?_
        rintro e w3 ⟨a3, m3, c3, bs, rfl, hbm, hrd, hyes, hno, b3⟩
        have HB3 := Lib.hid (HW.out.trans (b3.mono hws))
        have HO3 := Lib.hid (below_own HOW.out b3)
        have hs3 := HB3.out.size
        have g3 := (b3.cell (p := ⟨bI, oI + k, none⟩) hbr).trans g0
        have hb3 : bI < w3.heap.size := Nat.lt_of_lt_of_le hbr b3.size
        have HR3 := Lib.hid hrd
        cases hto : takeB ((s.data.toList.drop A).take L) with
        | none =>
          have HN : Hid (openT s.data.toList = none) := Lib.hid (by rw [HO2.out, HE2.out, decT_bad hto]; rfl)
          have HW3 := Lib.hid (HW2.out.trans (HB3.out.mono hW2s))
          clear hyes hno b3 hrd hto g0
          rw [if_pos rfl]
          go_wp2
          go_ret2
          exact RO.no HN.out rfl HW3.out
        | some fs =>
          obtain rfl := hyes fs hto
          obtain ⟨_, hbk⟩ := takeB_back hto
          have hb4 := okB_len4 hbk
          have hbv := okB_okW hbk
          have HE3 := Lib.hid (show decT ls s.data.toList = (decT (ls.drop (k + 1)) (s.data.toList.drop B)).map ((es ++ bs) ++ ·) by
            rw [HE2.out, decT_good (by rw [HSD.out]; exact hLR) hto, List.drop_drop, map_ents, HBE.out])
          have HEL4 : Hid ((ev4 bs).length = m3 * 4) := Lib.hid (by rw [ev4_length, hbm])
          have HEL3 : Hid ((es ++ bs).length ≤ 4096 * (k + 1)) := Lib.hid (by rw [List.length_append]; have := HEL.out; omega)
          have HOV3 : Hid (okV (es ++ bs)) := Lib.hid fun e he => by
            rcases List.mem_append.1 he with h | h
            · exact HOV.out e h
            · exact hbv e h
          have hel : es.length ≤ 16777216 := by have := HEL.out; omega
          have hm34 : m3 ≤ 4096 := by rw [← hbm]; exact hb4
          have HNO : Hid (a3 = none → m3 = 0) := Lib.hid fun h => by have h1 := HR3.out; rw [h] at h1; rw [← hbm, h1.none]; rfl
          have HBM := Lib.hid hbm
          clear hyes hno b3 hrd hto g0 hbk hb4 hbv hbm HTK HE2 HE HOW HW
          rw [if_neg (by simp)]
          obtain ⟨z, hz⟩ : ∃ z, z = es.length := ⟨_, rfl⟩
          rw [← hz] at HO3 hel
          have HZ := Lib.hid hz
          clear hz
          go_wp2_with (at_builtin; refine wpList_append_any rfl (.tmp 80) (.tmp 81) 22 rfl w2.heap.size 41 i0 (.agg #[.string ⟨#[]⟩, .string ⟨#[]⟩, .bool false, .int .i64 0]) 4 48 Tryz.underlying22 hi hz0 hz1 hz2 rfl (by decide) u9 z (ev4 es) rfl HO3.out a3 m3 c3 (ev4 bs) rfl HNO.out HEL4.out (fun y hy => HR3.out.news y hy) (ev4_one _) (by unfold maxLen; omega) (by omega) hs3 ?_)
          intro v4 w4 own4 b4
          rw [ev4_app] at own4
          have HO4 : Hid (w4.ownsRow w2.heap.size 41 4 v4 (es ++ bs).length (ev4 (es ++ bs))) := Lib.hid (by rw [List.length_append, ← HZ.out, HBM.out]; exact own4)
          have HB4 := Lib.hid (HB3.out.trans b4)
          have g4 := (HB4.out.cell (p := ⟨bI, oI + k, none⟩) hbw).trans (HCI.out k hkl)
          rw [← HLE.out] at g4
          have hb4 : bI < w4.heap.size := Nat.lt_of_lt_of_le hbw HB4.out.size
          clear own4 b4 HO3 HR3 HB3 hs3 HEL4
          go_wp2
          go_roundw
          case rel => exact ⟨k + 1, B, es ++ bs, by go_num, by omega, by first | rfl | exact congrArg (Value.int .i64) hBi | (rw [hBi]), hBsn, HEL3, HOV3, HO4, HB4, HE3⟩
          case measure => simp [intOf]; omega
      · obtain rfl : k = m2 := by omega
        have hdl : ls.drop k = [] := List.drop_of_length_le (by rw [HLM.out]; exact Nat.le_refl _)
        have HD : Hid (decT ls s.data.toList = some es) := Lib.hid (by rw [HE.out, hdl, decT]; simp)
        have HO3 : Hid (openT s.data.toList = if okT es = true ∧ buildT es = s.data.toList then some es else none) := Lib.hid (by rw [HO2.out, HD.out])
        have hown := HOW.out
        obtain ⟨aa, cc, rfl, hse⟩ := own_se hown rfl
        obtain ⟨z, hz⟩ : ∃ z, z = es.length := ⟨_, rfl⟩
        have hel : z ≤ 16777216 := by rw [hz]; have := HEL.out; omega
        rw [← hz] at hse ⊢
        have HSE := Lib.hid hse
        have HZ := Lib.hid hz
        have HW3 := Lib.hid (HW2.out.trans (HW.out.mono hW2s))
        have HBD := Lib.hid (rbuild_any aa z cc es wr (by omega) HZ.out.symm hse.2.2.1 hse.2.1 HOV.out)
        unfold BU at HBD
        clear hown hse hz hdl HE HEL HO2 HW HOW HD HOV
        cases hr : okT es with
        | false =>
          have HN : Hid (openT s.data.toList = none) := Lib.hid (by rw [HO3.out, if_neg]; rintro ⟨h, _⟩; rw [hr] at h; cases h)
          rw [hr] at HBD
          clear hr
          go_wp2_with fail
          refine HBD.out.mono ?_
          rintro e w4 ⟨rfl, b4⟩
          have HW4 := Lib.hid (HW3.out.trans (b4.mono HW3.out.size))
          rw [if_neg (by simp)]
          go_wp2
          go_ret2
          exact RO.no HN.out rfl HW4.out
        | true =>
          rw [hr, if_pos rfl] at HBD
          obtain ⟨BL, hBL⟩ : ∃ BL : ByteArray, BL = ⟨(buildT es).toArray⟩ := ⟨_, rfl⟩
          rw [← hBL] at HBD
          have HR := Lib.hid hr
          have HBL := Lib.hid hBL
          clear hr hBL
          by_cases heq : BL = s
          · have HY : Hid (openT s.data.toList = some es) := Lib.hid (by rw [HO3.out, if_pos ⟨HR.out, by rw [← heq, HBL.out]⟩])
            have hbq : (BL.toList == s.toList) = true := by rw [heq]; simp
            clear heq
            go_wp2_with fail
            refine HBD.out.mono ?_
            rintro e w4 ⟨rfl, b4⟩
            have HW4 := Lib.hid (HW3.out.trans (b4.mono HW3.out.size))
            have HR4 := Lib.hid (HSE.out.2.1.old b4)
            go_wp2
            go_ret2
            exact RO.yes HY.out rfl HZ.out.symm HR4.out HW4.out
          · have HN : Hid (openT s.data.toList = none) := Lib.hid (by
              rw [HO3.out, if_neg]
              rintro ⟨_, h⟩
              refine heq ?_
              rw [HBL.out, h])
            have hbq : (BL.toList == s.toList) = false := by
              rw [beq_eq_false_iff_ne]
              intro h
              exact heq (ba_ext h)
            clear heq
            go_wp2_with fail
            refine HBD.out.mono ?_
            rintro e w4 ⟨rfl, b4⟩
            have HW4 := Lib.hid (HW3.out.trans (b4.mono HW3.out.size))
            go_wp2
            go_ret2
            exact RO.no HN.out rfl HW4.out
end Go.Proofs.YtobhjmkaamjoeaaGreat
