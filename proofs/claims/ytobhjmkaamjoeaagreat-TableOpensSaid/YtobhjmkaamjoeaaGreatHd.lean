/-
  Layer 10 (table), contracts of the document's own lengths and Open. Conditions: at most 2^20 bytes.
-/
import Derived.Test.YtobhjmkaamjoeaaGreatHl
import Derived.Test.YtobhjmkaamjoeaaGreatQ4
namespace Go.Proofs.YtobhjmkaamjoeaaGreat
set_option maxRecDepth 100000
open Go.RowKit
set_option linter.unusedVariables false
set_option linter.unusedSimpArgs false

/-- What lengths leaves. -/
def LN (o : Option (List Nat)) (w : World) (e : Ending) (w' : World) : Prop :=
  ∃ (a : Option Addr) (m cap : Nat) (ls : List Nat), e = .returned (.tuple #[.slice a m cap, .bool o.isSome]) ∧ ls.length = m ∧ RdI w' a ls ∧ (∀ fs, o = some fs → ls = fs) ∧ Below w.heap.size w w'
theorem LN.no {o : Option (List Nat)} {w w' : World} {e : Ending} (ho : o = none) (he : e = .returned (.tuple #[.slice none 0 0, .bool false])) (hb : Below w.heap.size w w') : LN o w e w' :=
  ⟨none, 0, 0, [], (by rw [he, ho]; rfl), rfl, .inl rfl, fun fs h => (by rw [ho] at h; cases h), hb⟩
theorem LN.yes {o : Option (List Nat)} {w w' : World} {e : Ending} {a : Option Addr} {m cap : Nat} {ls : List Nat} (ho : o = some ls) (he : e = .returned (.tuple #[.slice a m cap, .bool true])) (hm : ls.length = m) (hr : RdI w' a ls) (hb : Below w.heap.size w w') : LN o w e w' :=
  ⟨a, m, cap, ls, (by rw [he, ho]; rfl), hm, hr, fun fs h => (by rw [ho] at h; cases h; rfl), hb⟩
theorem Tryz.infoIntH : (Tryz.prog.info? 3).map (fun i => (i.zero, i.size, i.bytes)) = some (some (.int .i64 0), 1, 8) := by kernel_rfl
theorem map_nat (ns : List Nat) (m : Nat) (o : Option (List Nat)) : (o.map (m :: ·)).map (ns ++ ·) = o.map ((ns ++ [m]) ++ ·) := by
  cases o <;> simp
set_option maxHeartbeats 8000000 in
theorem rlen_any (s : ByteArray) (w : World) (hs : s.size ≤ 1048576) : Calls Tryz.prog 33 #[.string s] w (LN (lensT s.data.toList) w) := by
  obtain ⟨i0, hi, hz0, hz1, hz2⟩ := info_parts Tryz.infoIntH
  obtain ⟨n, a, x, ht⟩ : ∃ n a x, tk s.data.toList 0 0 = (n, a, x) := ⟨_, _, _, rfl⟩
  have hT := take_ref s w (by omega)
  rw [ht] at hT
  simp only at hT
  have hal := (tk_le ht).1
  rw [size_list] at hal
  have hn62 := (tk_le ht).2
  have HT := Lib.hid hT
  have HL := Lib.hid (show lensT s.data.toList = if x = 0 ∧ n ≤ 4096 then lenL n (s.data.toList.drop a) else none by unfold lensT; rw [ht])
  clear hT ht
  by_cases hx : x = 0
  case neg =>
    have hxi : ¬ (x : Int) = 0 := by omega
    have hxb : ((x : Int) == 0) = false := by simpa using hx
    have HN : Hid (lensT s.data.toList = none) := Lib.hid (by rw [HL.out, if_neg (fun h => hx h.1)])
    go_enter Tryz.func33, Tryz.ntmps33
    go_wp2_with fail
    refine HT.out.mono ?_
    rintro e w1 ⟨rfl, hw1⟩
    replace hw1 : Below w.heap.size w w1 := by first | (subst hw1; exact Below.refl _ _) | exact hw1
    go_wp2
    go_ret2
    exact LN.no HN.out rfl hw1
  subst hx
  by_cases hn4 : n ≤ 4096
  case neg =>
    have hni : (4096 : Int) < (n : Int) := by omega
    have HN : Hid (lensT s.data.toList = none) := Lib.hid (by rw [HL.out, if_neg (fun h => hn4 h.2)])
    go_enter Tryz.func33, Tryz.ntmps33
    go_wp2_with fail
    refine HT.out.mono ?_
    rintro e w1 ⟨rfl, hw1⟩
    replace hw1 : Below w.heap.size w w1 := by first | (subst hw1; exact Below.refl _ _) | exact hw1
    go_wp2
    go_ret2
    exact LN.no HN.out rfl hw1
  have hni : (n : Int) ≤ 4096 := by omega
  have HL2 : Hid (lensT s.data.toList = lenL n (s.data.toList.drop a)) := Lib.hid (by rw [HL.out, if_pos ⟨rfl, hn4⟩])
  go_enter Tryz.func33, Tryz.ntmps33
  go_wp2_with fail
  refine HT.out.mono ?_
  rintro e w1 ⟨rfl, hw1⟩
  replace hw1 : Below w.heap.size w w1 := by first | (subst hw1; exact Below.refl _ _) | exact hw1
  have HW1 := Lib.hid hw1
  clear hw1 HT HL
  go_wp2
  go_loopw [5, 7, 8, 9, 10, 11, 12, 13, 14] (fun vat vout i _ _ _ _ _ _ wr => ∃ (k A : Nat) (ns : List Nat), i = .int .i64 k ∧ k ≤ n ∧ vat = .int .i64 A ∧ A ≤ s.size ∧ Hid (ns.length = k) ∧ Hid (wr.ownsRow w.heap.size 3 1 vout k (nv ns)) ∧ Hid (Below w.heap.size w wr) ∧ Hid (lensT s.data.toList = (lenL (n - k) (s.data.toList.drop A)).map (ns ++ ·))) (fun _ _ i _ _ _ _ _ _ _ => n - (intOf i).toNat)
  case atStart => exact ⟨0, a, [], rfl, by omega, rfl, hal, Lib.hid rfl, Lib.hid (World.ownsRow_nil _ _ _ _), HW1, Lib.hid (by rw [HL2.out]; simp)⟩
  case round =>
    clear HW1 HL2 hal
    obtain ⟨k, A, ns, rfl, hk, rfl, hA, HNS, HO, HW, HE⟩ := hrel
    have hws := HW.out.size
    by_cases hlt : k < n
    · have hki : (k : Int) < (n : Int) := by omega
      have hAi : (A : Int) ≤ (s.size : Int) := by omega
      have hA0 : (0 : Int) ≤ (A : Int) := by omega
      obtain ⟨t, b, x, ht⟩ : ∃ t b x, ttR (s.data.toList.drop A) = (t, b, x) := ⟨_, _, _, rfl⟩
      have hdr := ext_drop s A hA
      have hb := (ttR_le ht).1
      rw [← hdr.1, size_list, hdr.2] at hb
      have hTT := taketext_ref (s.extract A s.size) wr (by rw [hdr.2]; omega)
      unfold TT at hTT
      rw [hdr.1, ht] at hTT
      simp only at hTT
      have HTT := Lib.hid hTT
      obtain ⟨m, c, y, hm⟩ : ∃ m c y, tk ((s.data.toList.drop A).drop b) 0 0 = (m, c, y) := ⟨_, _, _, rfl⟩
      have HE2 := Lib.hid (show lensT s.data.toList = ((if x = 0 ∧ y = 0 then (lenL (n - (k + 1)) (s.data.toList.drop (A + (b + c)))).map (m :: ·) else none)).map (ns ++ ·) by
        rw [HE.out, show n - k = (n - (k + 1)) + 1 by omega, lenL_eq ht hm, List.drop_drop])
      have hAb : A + b ≤ s.size := by omega
      have hdr2 := ext_drop s (A + b) hAb
      have hm' : tk (s.extract (A + b) s.size).data.toList 0 0 = (m, c, y) := by rw [hdr2.1, ← hm, List.drop_drop]
      have hc := (tk_le hm').1
      rw [size_list, hdr2.2] at hc
      have hm62 := (tk_le hm').2
      have hTK := fun wx => take_ref (s.extract (A + b) s.size) wx (by rw [hdr2.2]; omega)
      rw [hm'] at hTK
      simp only at hTK
      have HTK := Lib.hid hTK
      clear ht hm hm' hTT hTK hdr hdr2
      by_cases hx : x = 0
      case neg =>
        have hxi : ¬ (x : Int) = 0 := by omega
        have hxb : ((x : Int) == 0) = false := by simpa using hx
        have HN : Hid (lensT s.data.toList = none) := Lib.hid (by rw [HE2.out, if_neg (fun h => hx h.1)]; rfl)
        go_wp2_with fail
        refine HTT.out.mono ?_
        rintro e w2 ⟨rfl, b2⟩
        have HW2 := Lib.hid (HW.out.trans (b2.mono hws))
        go_wp2
        go_ret2
        exact LN.no HN.out rfl HW2.out
      subst hx
      obtain ⟨B, hB⟩ : ∃ B, B = A + b := ⟨_, rfl⟩
      have hBi : (A : Int) + (b : Int) = (B : Int) := by omega
      have hBs : (B : Int) ≤ (s.size : Int) := by omega
      have hB0 : (0 : Int) ≤ (B : Int) := by omega
      rw [← hB] at HTK
      obtain ⟨D, hD⟩ : ∃ D, D = A + (b + c) := ⟨_, rfl⟩
      have hDi : (B : Int) + (c : Int) = (D : Int) := by omega
      have hDs : D ≤ s.size := by omega
      rw [← hD] at HE2
      clear hB hD
      go_wp2_with fail
      refine HTT.out.mono ?_
      rintro e w2 ⟨rfl, b2⟩
      have HW2 := Lib.hid (HW.out.trans (b2.mono hws))
      have HO2 := Lib.hid (below_own HO.out b2)
      clear b2 HTT HW HO hws
      by_cases hy : y = 0
      case neg =>
        have hyi : ¬ (y : Int) = 0 := by omega
        have hyb : ((y : Int) == 0) = false := by simpa using hy
        have HN : Hid (lensT s.data.toList = none) := Lib.hid (by rw [HE2.out, if_neg (fun h => hy h.2)]; rfl)
        go_wp2_with fail
        refine (HTK.out _).mono ?_
        rintro e w3 ⟨rfl, hw3⟩
        replace hw3 : Below w2.heap.size w2 w3 := by first | (subst hw3; exact Below.refl _ _) | exact hw3
        have HW3 := Lib.hid (HW2.out.trans (hw3.mono HW2.out.size))
        clear hw3
        go_wp2
        go_ret2
        exact LN.no HN.out rfl HW3.out
      subst hy
      have HE3 := Lib.hid (show lensT s.data.toList = (lenL (n - (k + 1)) (s.data.toList.drop D)).map ((ns ++ [m]) ++ ·) by rw [HE2.out, if_pos (by simp), map_nat])
      go_wp2_with fail
      refine (HTK.out _).mono ?_
      rintro e w3 ⟨rfl, hw3⟩
      replace hw3 : Below w2.heap.size w2 w3 := by first | (subst hw3; exact Below.refl _ _) | exact hw3
      have HW3 := Lib.hid (HW2.out.trans (hw3.mono HW2.out.size))
      have HO3 := Lib.hid (below_own HO2.out hw3)
      have hs3 := HW3.out.size
      clear hw3 HW2 HO2 HTK HE2 HE
      go_wp2_with (at_builtin; refine wpList_append_own _ rfl _ _ 63 rfl w.heap.size 3 i0 (.int .i64 0) 1 8 Tryz.underlying63 hi hz0 hz1 hz2 rfl (by decide) _ _ _ rfl (HO3.out.alloc _) ⟨w3.heap.size, 0, none⟩ 1 1 [.int .i64 m] rfl rfl ?c1 ?c2 ?c3 ?c4 ?c5 ?_)
      case c1 => exact cell_new1 _ _ _
      case c2 => exact one_int _ _
      case c3 => unfold maxLen; omega
      case c4 => omega
      case c5 => simp; omega
      intro v' w4 own4 gr4 _
      rw [nv_snoc] at own4
      have HW4 := Lib.hid ((HW3.out.alloc hs3 (.cells #[.int .i64 m] 3)).grown gr4 (by simp; omega) (fun k hk => (HO3.out.lt k hk).1))
      have HO4 := Lib.hid own4
      clear own4 gr4 HW3 HO3
      go_wp2
      go_roundw
      case rel => exact ⟨k + 1, D, ns ++ [m], by go_num, by omega, by first | rfl | go_num, hDs, Lib.hid (by rw [List.length_append, HNS.out]; rfl), HO4, HW4, HE3⟩
      case measure => simp [intOf]; omega
    · obtain rfl : k = n := by omega
      have HN : Hid (lensT s.data.toList = some ns) := Lib.hid (by rw [HE.out, Nat.sub_self, lenL]; simp)
      have hown := HO.out
      obtain ⟨aa, cc, rfl⟩ := own_form hown (by decide)
      have hrd : RdI wr aa ns := own_rdi (by rw [HNS.out]; exact hown)
      have HR := Lib.hid hrd
      clear hown hrd
      go_wp2
      go_ret2
      exact LN.yes HN.out rfl HNS.out HR.out HW.out
end Go.Proofs.YtobhjmkaamjoeaaGreat
