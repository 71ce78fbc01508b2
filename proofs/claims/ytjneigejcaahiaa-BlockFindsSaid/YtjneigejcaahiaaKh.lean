/-
  Layer 9 (block), the contract of the document's own Take. Conditions: at most 2^24 bytes.
-/
import Derived.Test.YtjneigejcaahiaaKo
namespace Go.Proofs.Ytjneigejcaahiaa
open Go.RowKit
set_option linter.unusedVariables false
set_option linter.unusedSimpArgs false

theorem rcheck_size {s : ByteArray} (h : chk s.data.toList = true) : ∃ m, s.size = m + 4 := by
  have hlen : 4 ≤ s.size := by have := (chk_split h).2; rwa [size_list] at this
  exact ⟨s.size - 4, by omega⟩
theorem map_app2 (ts : List Ent) (e : Ent) (o : Option (List Ent × List UInt8)) : (o.map fun p => (e :: p.1, p.2)).map (fun p => (ts ++ p.1, p.2)) = o.map fun p => ((ts ++ [e]) ++ p.1, p.2) := by
  cases o <;> simp
theorem partB_none {t : List UInt8} {n a x : Nat} (h : tk t 0 0 = (n, a, x)) (hn : ¬ (x = 0 ∧ n ≤ 4096)) : partB t = none := by
  unfold partB
  rw [h, if_neg hn]
theorem partB_many {t : List UInt8} {n a : Nat} (h : tk t 0 0 = (n, a, 0)) (hn : n ≤ 4096) : partB t = match manyB n (t.drop a) [] with | some (es, []) => if chainE zE es = true then some es else none | _ => none := by
  unfold partB
  rw [h]
  simp only [hn, and_self, if_true]
  rfl
set_option maxRecDepth 100000 in
set_option maxHeartbeats 8000000 in
theorem rtake9_any (s : ByteArray) (w : World) (hs : s.size ≤ 16777216) : Calls Try.prog 16 #[.string s] w (TK (takeB s.data.toList) w) := by
  obtain ⟨i0, hi, hz0, hz1, hz2⟩ := info_parts Try.infoEnt9
  have hck := check_ref s w (by omega)
  cases hc : chk s.data.toList with
  | false =>
    rw [hc] at hck
    have HC := Lib.hid hck
    have HP : Hid (takeB s.data.toList = none) := Lib.hid (by unfold takeB; rw [hc]; rfl)
    clear hc hck
    go_enter Try.func16, Try.ntmps16
    go_wp2_with fail
    refine HC.out.mono ?_
    rintro e w1 ⟨rfl, b1⟩
    go_wp2
    go_ret2
    exact TK.no HP.out rfl b1
  | true =>
    rw [hc] at hck
    obtain ⟨m, hm⟩ := rcheck_size hc
    have HP := Lib.hid (takeB_at m hm hc)
    have HC := Lib.hid hck
    have hmi : (s.size : Int) - 4 = (m : Int) := by omega
    have hml : (m : Int) ≤ (s.size : Int) := by omega
    have hm0 : (0 : Int) ≤ (m : Int) := by omega
    obtain ⟨t, htt⟩ : ∃ t, t = s.extract 0 m := ⟨_, rfl⟩
    have hsz : t.size ≤ 16777216 := by rw [htt, ByteArray.size_extract]; omega
    rw [← htt] at HP
    have HTT := Lib.hid htt
    have HMI := Lib.hid hmi
    obtain ⟨n, a, x, h1⟩ : ∃ n a x, tk t.data.toList 0 0 = (n, a, x) := ⟨_, _, _, rfl⟩
    have hal := (tk_le h1).1
    rw [size_list] at hal
    have hn62 := (tk_le h1).2
    have HT1 : Hid (∀ w, Calls Try.prog 41 #[.string (s.extract 0 m)] w fun e w' => e = .returned (.tuple #[.int .i64 (n : Nat), .int .i64 (a : Nat), .int .i64 (x : Nat)]) ∧ w = w') := Lib.hid fun w => by
      have h := take_ref t w (by omega)
      rw [h1] at h
      rw [← htt]
      exact h
    have H1 := Lib.hid h1
    clear hc hck hm hmi htt h1
    go_enter Try.func16, Try.ntmps16
    go_wp2_with fail
    refine HC.out.mono ?_
    rintro e w1 ⟨rfl, b1⟩
    have HB1 := Lib.hid b1
    have hv := HMI.out
    clear b1
    go_wp2_with fail
    refine (HT1.out _).mono ?_
    rintro e w2 ⟨rfl, rfl⟩
    rw [← HTT.out]
    clear hv
    by_cases hx : x = 0
    · subst hx
      by_cases hn4 : 4096 < n
      · have hn4i : (4096 : Int) < (n : Int) := by omega
        have HP2 : Hid (takeB s.data.toList = none) := Lib.hid (by rw [HP.out]; exact partB_none H1.out (by omega))
        go_wp2
        go_ret2
        exact TK.no HP2.out rfl HB1.out
      · have hn4i : (n : Int) ≤ 4096 := by omega
        have HM := Lib.hid (partB_many H1.out (by omega))
        rw [← HP.out] at HM
        clear HP H1 HT1 HC
        go_wp2
        go_loopw [5, 7, 8, 9, 10] (fun at_ v la i _ wr => ∃ (k j : Nat) (last : ByteArray) (ts : List Ent), i = .int .i64 k ∧ k ≤ n ∧ at_ = .int .i64 j ∧ j ≤ t.size ∧ la = .string last ∧ last.size ≤ j ∧ Hid (ts.length = k) ∧ Hid (okV ts) ∧
          Hid (wr.ownsRow w.heap.size 36 4 v ts.length (ev4 ts)) ∧ Hid (Below w.heap.size w wr) ∧
          Hid (manyB n (t.data.toList.drop a) [] = (manyB (n - k) (t.data.toList.drop j) last.data.toList).map fun p => (ts ++ p.1, p.2))) (fun _ _ _ i _ _ => n - (intOf i).toNat)
        case atStart => exact ⟨0, a, ⟨#[]⟩, [], rfl, by omega, rfl, hal, rfl, Nat.zero_le _, Lib.hid rfl, Lib.hid (fun e he => by simp at he), Lib.hid (World.ownsRow_nil _ _ _ _), HB1, Lib.hid (by simp)⟩
        case round =>
          clear HB1
          obtain ⟨k, j, last, ts, rfl, hk, rfl, hj, rfl, hla, HL, HOV, HO, HW, HR⟩ := hrel
          have hws := HW.out.size
          by_cases hlt : k < n
          · have hki : (k : Int) < (n : Int) := by omega
            have hji : (j : Int) ≤ (t.size : Int) := by omega
            have hj0 : (0 : Int) ≤ (j : Int) := by omega
            obtain ⟨ek, evl, eg, eq, d, ok, hon, hone, hd, hek, hev⟩ := one_any (t.extract j t.size) last (by rw [(ext_drop t j hj).2]; omega) (by omega)
            rw [(ext_drop t j hj).2] at hd
            rw [(ext_drop t j hj).1] at hone
            have HON := Lib.hid hon
            have HONE := Lib.hid hone
            clear hon hone
            go_wp2_with fail
            refine (HON.out _).mono ?_
            rintro e w2 ⟨rfl, b2⟩
            have HO2 := Lib.hid (below_own HO.out b2)
            have HW2 := Lib.hid (HW.out.trans (b2.mono hws))
            have hw2 := HW2.out.size
            clear b2 HO HW hws HON
            cases ok with
            | false =>
              have HE : Hid (takeB s.data.toList = none) := Lib.hid (by
                rw [HM.out, HR.out, show n - k = (n - (k + 1)) + 1 by omega, manyB_no (by have := HONE.out; simpa using this)]
                rfl)
              go_wp2
              go_ret2
              exact TK.no HE.out rfl (HW2.out.alloc hw2 _)
            | true =>
              have HO1 : Hid (oneB (t.data.toList.drop j) last.data.toList = some ((ek, evl, eg, eq), d)) := Lib.hid HONE.out
              have HR2 : Hid (manyB n (t.data.toList.drop a) [] = (manyB (n - (k + 1)) (t.data.toList.drop (j + d)) ek.data.toList).map fun p => ((ts ++ [(ek, evl, eg, eq)]) ++ p.1, p.2)) := Lib.hid (by
                rw [HR.out, show n - k = (n - (k + 1)) + 1 by omega, manyB_ok HO1.out, map_app2, List.drop_drop])
              have hl5 : ts.length < 100000 := by have := HL.out; omega
              clear HONE
              go_wp2_with (at_builtin; refine wpList_append_own _ rfl _ _ 22 rfl w.heap.size 36 i0 (.agg #[.string ⟨#[]⟩, .string ⟨#[]⟩, .bool false, .int .i64 0]) 4 48 Try.underlying22 hi hz0 hz1 hz2 rfl (by decide) _ ts.length (ev4 ts) rfl ((HO2.out.alloc _).alloc _) ⟨w2.heap.size + 1, 0, none⟩ 1 1 (ev (ek, evl, eg, eq)) (by simp [Act.eval]) rfl ?c1 ?c2 ?c3 ?c4 ?c5 ?_)
              case c1 =>
                intro j u hj
                have := cell_new4 (w2.alloc (.cells #[.string ek, .string evl, .bool eg, .int .i64 eq] 36)) (.string ek) (.string evl) (.bool eg) (.int .i64 eq) 36 j u hj
                simpa using this
              case c2 => intro u hu; simp [ev] at hu; rcases hu with rfl | rfl | rfl | rfl <;> rfl
              case c3 => unfold maxLen; omega
              case c4 => omega
              case c5 => simp; omega
              intro v' w3 own3 gr3 _
              have hal2 : Below w2.heap.size w2 ((w2.alloc (.cells #[.string ek, .string evl, .bool eg, .int .i64 eq] 36)).alloc (.cells #[.string ek, .string evl, .bool eg, .int .i64 eq] 36)) := ((Below.refl _ _).alloc (Nat.le_refl _) _).alloc (by simp) _
              have HW3 := Lib.hid ((HW2.out.trans (hal2.mono hw2)).grown gr3 (by simp; omega) (fun k hk => (HO2.out.lt k hk).1))
              have HE3 : Hid (EBlk w3 w2.heap.size ek evl eg eq) := Lib.hid ((gr3.block w2.heap.size (by simp; omega) (fun e => by have := (HO2.out.lt _ e.symm).2; omega)).trans (al_old (EBlk.new w2 ek evl eg eq)))
              rw [ev4_snoc] at own3
              have HO3 : Hid (w3.ownsRow w.heap.size 36 4 v' (ts ++ [(ek, evl, eg, eq)]).length (ev4 (ts ++ [(ek, evl, eg, eq)]))) := Lib.hid (by rw [List.length_append]; exact own3)
              obtain ⟨x0, x1, x2, x3, x4⟩ := HE3.out.box
              have hjd : (j : Int) + (d : Int) = ((j + d : Nat) : Int) := by omega
              obtain ⟨jd, hjd2⟩ : ∃ jd, jd = j + d := ⟨_, rfl⟩
              rw [← hjd2] at hjd HR2
              have hjds : jd ≤ t.size := by omega
              have hekj : ek.size ≤ jd := by omega
              have HV3 : Hid (okV (ts ++ [(ek, evl, eg, eq)])) := Lib.hid (by
                intro e he
                rcases List.mem_append.1 he with he | he
                · exact HOV.out e he
                · rw [List.mem_singleton] at he
                  subst he
                  exact ⟨by unfold okS; show ek.size ≤ _; omega, by unfold okS; show evl.size ≤ _; omega⟩)
              clear own3 gr3 hal2 HO2 HW2 HE3 hjd2
              go_wp2
              go_roundw
              case rel => exact ⟨k + 1, jd, ek, ts ++ [(ek, evl, eg, eq)], by go_num, by omega, rfl, hjds, rfl, hekj, Lib.hid (by rw [List.length_append, HL.out]; rfl), HV3, HO3, HW3, HR2⟩
              case measure => simp [intOf]; omega
          · obtain rfl : k = n := by omega
            have hm2 := HM.out
            have hr2 := HR.out
            rw [Nat.sub_self, manyB] at hr2
            simp only [Option.map_some, List.append_nil] at hr2
            rw [hr2] at hm2
            clear hr2
            obtain ⟨av, cv, hvs⟩ := own_form HO.out (by decide)
            by_cases hjt : j = t.size
            · have hdn : t.data.toList.drop j = [] := List.drop_eq_nil_of_le (by rw [size_list]; omega)
              rw [hdn] at hm2
              have hRd := own_rde (hvs ▸ HO.out) rfl
              obtain ⟨r, hr⟩ : ∃ r, okB ts = r := ⟨_, rfl⟩
              have HCk := Lib.hid fun w h => rchk9_any av ts.length cv ts w (by have := HL.out; omega) rfl h HOV.out r hr
              have hr3 : chainE zE ts = r := by rw [← hr]; unfold okB; rw [decide_eq_true (by have := HL.out; omega), Bool.true_and]
              have HRd := Lib.hid hRd
              have HM2 := Lib.hid hm2
              have HR3 := Lib.hid hr3
              subst hvs hjt
              clear hm2 hRd hr hr3 hdn
              go_wp2_with fail
              refine (HCk.out _ HRd.out).mono ?_
              rintro e w2 ⟨rfl, b2⟩
              have HW2 := Lib.hid (HW.out.trans (b2.mono hws))
              have HRd2 := Lib.hid (HRd.out.old b2)
              clear b2
              cases r with
              | true =>
                have HE : Hid (takeB s.data.toList = some ts) := Lib.hid (by rw [HM2.out]; simp [HR3.out])
                rw [show chkV true = 0 from rfl]
                go_wp2
                go_ret2
                exact TK.yes HE.out rfl rfl HRd2.out HW2.out
              | false =>
                have HE : Hid (takeB s.data.toList = none) := Lib.hid (by rw [HM2.out]; simp [HR3.out])
                rw [show chkV false = 1 from rfl]
                go_wp2
                go_ret2
                exact TK.no HE.out rfl HW2.out
            · have hdn : ∃ c r, t.data.toList.drop j = c :: r := by
                cases hd : t.data.toList.drop j with
                | nil =>
                  have := congrArg List.length hd
                  rw [List.length_drop, size_list] at this
                  simp at this
                  omega
                | cons c r => exact ⟨c, r, rfl⟩
              obtain ⟨c, r, hcr⟩ := hdn
              rw [hcr] at hm2
              have HE := Lib.hid (show takeB s.data.toList = none from hm2)
              have hjb : ((j : Int) == (t.size : Int)) = false := by simp; omega
              clear hm2 hcr
              go_wp2
              go_ret2
              exact TK.no HE.out rfl HW.out
    · have HP2 : Hid (takeB s.data.toList = none) := Lib.hid (by rw [HP.out]; exact partB_none H1.out (by omega))
      have hxi : ((x : Int) == 0) = false := by simpa using hx
      go_wp2
      go_ret2
      exact TK.no HP2.out rfl HB1.out
end Go.Proofs.Ytjneigejcaahiaa
