/-
  Layer 5 (fs): the walk of the law FsNames. Conditions: texts within the form's reach.
-/
import Derived.Test.YtoidfjglimafbaaDr
import Derived.Test.YtoidfjglimafbaaDv
import Derived.Test.YtoidfjglimafbaaDy
import Derived.Test.YtoidfjglimafbaaDn
import Derived.Test.YtoidfjglimafbaaSl
namespace Go.Proofs.Ytoidfjglimafbaa
open Go.RowKit Go.Lib
set_option linter.unusedVariables false

theorem own_lt (B : Nat) : ∃ own : Nat → Prop, own = fun b => b < B := ⟨_, rfl⟩
theorem s_eta (s : ByteArray) : (⟨s.data.toList.toArray⟩ : ByteArray) = s := rfl
set_option maxRecDepth 100000 in
set_option maxHeartbeats 400000 in
theorem names_e1 (a : ByteArray) (ha : a.size ≤ 140737488351232) (b : ByteArray) (hb : b.size ≤ 140737488351232) (x y : ByteArray) (hx : x.size ≤ maxLen) (hy : y.size ≤ maxLen) (h : 1024 < (x.size : Int)) (w : World) : Calls Try.prog 5 #[.string a, .string b, .agg #[.string x, .string y]] w fun e w' => e = .returned (.bool true) ∧ Below w.heap.size w w' := by
  go_enter Try.func5, Try.ntmps5
  go_wp2_with fail
  refine (new_any _).mono ?_
  rintro e w1 ⟨rfl, hd, hb⟩
  have hs0 : w1.cell? ⟨w.heap.size, 0, none⟩ = some (.string x) := (hb.cell (p := ⟨w.heap.size, 0, none⟩) (by simp)).trans (by simp [go_sem])
  have hs1 : w1.cell? ⟨w.heap.size, 1, none⟩ = some (.string y) := (hb.cell (p := ⟨w.heap.size, 1, none⟩) (by simp)).trans (by simp [go_sem])
  have hbx : w.heap.size < w1.heap.size := Nat.lt_of_lt_of_le (by simp) hb.size
  have HB := Lib.hid hb
  clear hb
  clear hd
  go_wp2_with (first
    | (go_at_call 9; refine (awake_any _).mono ?_; rintro e w2 ⟨rfl, bb⟩))
  go_ret
  exact ⟨rfl, (((Below.refl _ w).alloc (Nat.le_refl _) _).trans (HB.out.mono (by simp))).trans (bb.mono (by omega))⟩
set_option maxRecDepth 100000 in
set_option maxHeartbeats 400000 in
theorem names_e2 (a : ByteArray) (ha : a.size ≤ 140737488351232) (b : ByteArray) (hb : b.size ≤ 140737488351232) (x y : ByteArray) (hx : x.size ≤ maxLen) (hy : y.size ≤ maxLen) (hx1 : (x.size : Int) ≤ 1024) (h : 1024 < (y.size : Int)) (w : World) : Calls Try.prog 5 #[.string a, .string b, .agg #[.string x, .string y]] w fun e w' => e = .returned (.bool true) ∧ Below w.heap.size w w' := by
  go_enter Try.func5, Try.ntmps5
  go_wp2_with fail
  refine (new_any _).mono ?_
  rintro e w1 ⟨rfl, hd, hb⟩
  have hs0 : w1.cell? ⟨w.heap.size, 0, none⟩ = some (.string x) := (hb.cell (p := ⟨w.heap.size, 0, none⟩) (by simp)).trans (by simp [go_sem])
  have hs1 : w1.cell? ⟨w.heap.size, 1, none⟩ = some (.string y) := (hb.cell (p := ⟨w.heap.size, 1, none⟩) (by simp)).trans (by simp [go_sem])
  have hbx : w.heap.size < w1.heap.size := Nat.lt_of_lt_of_le (by simp) hb.size
  have HB := Lib.hid hb
  clear hb
  clear hd
  go_wp2_with (first
    | (go_at_call 9; refine (awake_any _).mono ?_; rintro e w2 ⟨rfl, bb⟩))
  go_ret
  exact ⟨rfl, (((Below.refl _ w).alloc (Nat.le_refl _) _).trans (HB.out.mono (by simp))).trans (bb.mono (by omega))⟩
set_option maxRecDepth 100000 in
set_option maxHeartbeats 400000 in
theorem names_e3 (a : ByteArray) (ha : a.size ≤ 140737488351232) (b : ByteArray) (hb : b.size ≤ 140737488351232) (x y : ByteArray) (hx : x.size ≤ maxLen) (hy : y.size ≤ maxLen) (hx1 : (x.size : Int) ≤ 1024) (hy1 : (y.size : Int) ≤ 1024) (h : namL a.data.toList = false) (w : World) : Calls Try.prog 5 #[.string a, .string b, .agg #[.string x, .string y]] w fun e w' => e = .returned (.bool true) ∧ Below w.heap.size w w' := by
  have NA := rname_any a (by unfold maxLen; omega)
  rw [h] at NA
  clear h
  go_enter Try.func5, Try.ntmps5
  go_wp2_with fail
  refine (new_any _).mono ?_
  rintro e w1 ⟨rfl, hd, hb⟩
  have hs0 : w1.cell? ⟨w.heap.size, 0, none⟩ = some (.string x) := (hb.cell (p := ⟨w.heap.size, 0, none⟩) (by simp)).trans (by simp [go_sem])
  have hs1 : w1.cell? ⟨w.heap.size, 1, none⟩ = some (.string y) := (hb.cell (p := ⟨w.heap.size, 1, none⟩) (by simp)).trans (by simp [go_sem])
  have hbx : w.heap.size < w1.heap.size := Nat.lt_of_lt_of_le (by simp) hb.size
  have HB := Lib.hid hb
  clear hb
  clear hd
  go_wp2_with (first
    | (go_at_call 9; refine (awake_any _).mono ?_; rintro e w2 ⟨rfl, bb⟩)
    | (go_at_call 19; ((with_reducible refine (NA _).mono ?_); rintro e w' ⟨rfl, rfl⟩)))
  go_ret
  exact ⟨rfl, (((Below.refl _ w).alloc (Nat.le_refl _) _).trans (HB.out.mono (by simp))).trans (bb.mono (by omega))⟩
set_option maxRecDepth 100000 in
set_option maxHeartbeats 400000 in
theorem names_e4 (a : ByteArray) (ha : a.size ≤ 140737488351232) (b : ByteArray) (hb : b.size ≤ 140737488351232) (x y : ByteArray) (hx : x.size ≤ maxLen) (hy : y.size ≤ maxLen) (hx1 : (x.size : Int) ≤ 1024) (hy1 : (y.size : Int) ≤ 1024) (hna : namL a.data.toList = true) (h : namL b.data.toList = false) (w : World) : Calls Try.prog 5 #[.string a, .string b, .agg #[.string x, .string y]] w fun e w' => e = .returned (.bool true) ∧ Below w.heap.size w w' := by
  have NA := rname_any a (by unfold maxLen; omega)
  have NB := rname_any b (by unfold maxLen; omega)
  rw [h] at NB
  rw [hna] at NA
  clear h hna
  go_enter Try.func5, Try.ntmps5
  go_wp2_with fail
  refine (new_any _).mono ?_
  rintro e w1 ⟨rfl, hd, hb⟩
  have hs0 : w1.cell? ⟨w.heap.size, 0, none⟩ = some (.string x) := (hb.cell (p := ⟨w.heap.size, 0, none⟩) (by simp)).trans (by simp [go_sem])
  have hs1 : w1.cell? ⟨w.heap.size, 1, none⟩ = some (.string y) := (hb.cell (p := ⟨w.heap.size, 1, none⟩) (by simp)).trans (by simp [go_sem])
  have hbx : w.heap.size < w1.heap.size := Nat.lt_of_lt_of_le (by simp) hb.size
  have HB := Lib.hid hb
  clear hb
  clear hd
  go_wp2_with (first
    | (go_at_call 9; refine (awake_any _).mono ?_; rintro e w2 ⟨rfl, bb⟩)
    | (go_at_call 19; ((with_reducible refine (NA _).mono ?_); rintro e w' ⟨rfl, rfl⟩))
    | (go_at_call 19; ((with_reducible refine (NB _).mono ?_); rintro e w' ⟨rfl, rfl⟩)))
  go_ret
  exact ⟨rfl, (((Below.refl _ w).alloc (Nat.le_refl _) _).trans (HB.out.mono (by simp))).trans (bb.mono (by omega))⟩
set_option maxRecDepth 100000 in
set_option maxHeartbeats 400000 in
theorem names_e5 (a : ByteArray) (ha : a.size ≤ 140737488351232) (b : ByteArray) (hb : b.size ≤ 140737488351232) (x y : ByteArray) (hx : x.size ≤ maxLen) (hy : y.size ≤ maxLen) (hx1 : (x.size : Int) ≤ 1024) (hy1 : (y.size : Int) ≤ 1024) (hna : namL a.data.toList = true) (h : a = b) (w : World) : Calls Try.prog 5 #[.string a, .string b, .agg #[.string x, .string y]] w fun e w' => e = .returned (.bool true) ∧ Below w.heap.size w w' := by
  subst h
  have NA := rname_any a (by unfold maxLen; omega)
  rw [hna] at NA
  clear hna
  go_enter Try.func5, Try.ntmps5
  go_wp2_with fail
  refine (new_any _).mono ?_
  rintro e w1 ⟨rfl, hd, hb⟩
  have hs0 : w1.cell? ⟨w.heap.size, 0, none⟩ = some (.string x) := (hb.cell (p := ⟨w.heap.size, 0, none⟩) (by simp)).trans (by simp [go_sem])
  have hs1 : w1.cell? ⟨w.heap.size, 1, none⟩ = some (.string y) := (hb.cell (p := ⟨w.heap.size, 1, none⟩) (by simp)).trans (by simp [go_sem])
  have hbx : w.heap.size < w1.heap.size := Nat.lt_of_lt_of_le (by simp) hb.size
  have HB := Lib.hid hb
  clear hb
  clear hd
  go_wp2_with (first
    | (go_at_call 9; refine (awake_any _).mono ?_; rintro e w2 ⟨rfl, bb⟩)
    | (go_at_call 19; ((with_reducible refine (NA _).mono ?_); rintro e w' ⟨rfl, rfl⟩)))
  go_ret
  exact ⟨rfl, (((Below.refl _ w).alloc (Nat.le_refl _) _).trans (HB.out.mono (by simp))).trans (bb.mono (by omega))⟩
set_option maxRecDepth 100000 in
set_option maxHeartbeats 4000000 in
theorem names_main (a : ByteArray) (ha : a.size ≤ 140737488351232) (b : ByteArray) (hb : b.size ≤ 140737488351232) (x y : ByteArray) (hx : x.size ≤ maxLen) (hy : y.size ≤ maxLen) (hx1 : (x.size : Int) ≤ 1024) (hy1 : (y.size : Int) ≤ 1024) (hna : namL a.data.toList = true) (hnb : namL b.data.toList = true) (hab : ¬ a = b) (w : World) : Calls Try.prog 5 #[.string a, .string b, .agg #[.string x, .string y]] w fun e w' => e = .returned (.bool true) ∧ Below w.heap.size w w' := by
  have NA := rname_any a (by unfold maxLen; omega)
  have NB := rname_any b (by unfold maxLen; omega)
  rw [hna] at NA
  rw [hnb] at NB
  have hab2 : (a.toList == b.toList) = false := by rw [ByteArray.toList_eq, ByteArray.toList_eq, beq_eq_false_iff_ne]; exact fun e => hab (by rw [← s_eta a, ← s_eta b, e])
  have hne : a.data.toList ≠ b.data.toList := fun e => hab (by rw [← s_eta a, ← s_eta b, e])
  have hxl : x.data.toList.length ≤ 1024 := by have e : x.data.toList.length = x.size := Array.length_toList; omega
  have hyl : y.data.toList.length ≤ 1024 := by have e : y.data.toList.length = y.size := Array.length_toList; omega
  obtain ⟨F2, F3, F4, F5, m1, m2, m3, m4, m5, m6, m7, m8, m9, m10, m11, m12, m13⟩ := names_plain a.data.toList b.data.toList x.data.toList y.data.toList hne hna hnb hxl hyl
  have ha' : a.size ≤ maxLen := by unfold maxLen; omega
  have hb' : b.size ≤ maxLen := by unfold maxLen; omega
  have M1 := Lib.hid m1
  have M2 := Lib.hid m2
  have M3 := Lib.hid m3
  have M4 := Lib.hid m4
  have M5 := Lib.hid m5
  have M6 := Lib.hid m6
  have M7 := Lib.hid m7
  have M8 := Lib.hid m8
  have M9 := Lib.hid m9
  have M10 := Lib.hid m10
  have M11 := Lib.hid m11
  have M12 := Lib.hid m12
  have M13 := Lib.hid m13
  have HNE := Lib.hid hne
  clear hna hnb hne hxl hyl m1 m2 m3 m4 m5 m6 m7 m8 m9 m10 m11 m12 m13
  go_enter Try.func5, Try.ntmps5
  go_wp2_with fail
  refine (new_any _).mono ?_
  rintro e w1 ⟨rfl, hd, hb⟩
  have hs0 : w1.cell? ⟨w.heap.size, 0, none⟩ = some (.string x) := (hb.cell (p := ⟨w.heap.size, 0, none⟩) (by simp)).trans (by simp [go_sem])
  have hs1 : w1.cell? ⟨w.heap.size, 1, none⟩ = some (.string y) := (hb.cell (p := ⟨w.heap.size, 1, none⟩) (by simp)).trans (by simp [go_sem])
  have hbx : w.heap.size < w1.heap.size := Nat.lt_of_lt_of_le (by simp) hb.size
  have HB := Lib.hid hb
  clear hb
  rw [show (w.alloc (.cells #[.string x, .string y] 41)).heap.size = w.heap.size + 1 by simp] at hd
  obtain ⟨own, hown⟩ := own_lt (w.heap.size + 1)
  rw [← hown] at hd
  have ho : own w.heap.size := by rw [hown]; simp
  have HOW := Lib.hid hown
  have HD := Lib.hid hd
  have HK := Lib.hid (Keeps.refl own w1)
  clear hd hown
  go_wp2_with fail
  refine (NA _).mono ?_
  rintro e w' ⟨rfl, rfl⟩
  go_wp2_with fail
  refine (NB _).mono ?_
  rintro e w' ⟨rfl, rfl⟩
  clear NA NB
  have C := make_any HD.out a ha'
  rw [show (⟨[], -1, false⟩ : Ds) = calm [] from rfl, M1.out] at C
  have HC := Lib.hid C
  clear C
  go_wp2_with fail
  refine HC.out.mono ?_
  rintro e w2 ⟨rfl, hd, hk⟩
  replace hs0 := (hk.cell _ _ ho).trans hs0
  replace hs1 := (hk.cell _ _ ho).trans hs1
  have HK2 := Lib.hid (HK.out.trans hk)
  clear HC HD HK
  have HD := Lib.hid hd
  have HK := HK2
  clear HK2 hd hk
  have C := make_any HD.out b hb'
  rw [M2.out] at C
  have HC := Lib.hid C
  clear C
  go_wp2_with fail
  refine HC.out.mono ?_
  rintro e w3 ⟨rfl, hd, hk⟩
  replace hs0 := (hk.cell _ _ ho).trans hs0
  replace hs1 := (hk.cell _ _ ho).trans hs1
  have HK2 := Lib.hid (HK.out.trans hk)
  clear HC HD HK
  have HD := Lib.hid hd
  have HK := HK2
  clear HK2 hd hk
  have C := make_any HD.out a ha'
  rw [M3.out] at C
  have HC := Lib.hid C
  clear C
  go_wp2_with fail
  refine HC.out.mono ?_
  rintro e w4 ⟨rfl, hd, hk⟩
  replace hs0 := (hk.cell _ _ ho).trans hs0
  replace hs1 := (hk.cell _ _ ho).trans hs1
  have HK2 := Lib.hid (HK.out.trans hk)
  clear HC HD HK
  have HD := Lib.hid hd
  have HK := HK2
  clear HK2 hd hk
  have C := append_any HD.out a x ha' hx
  rw [M4.out] at C
  have HC := Lib.hid C
  clear C
  go_wp2_with fail
  refine HC.out.mono ?_
  rintro e w5 ⟨rfl, hd, hk⟩
  replace hs0 := (hk.cell _ _ ho).trans hs0
  replace hs1 := (hk.cell _ _ ho).trans hs1
  have HK2 := Lib.hid (HK.out.trans hk)
  clear HC HD HK
  have HD := Lib.hid hd
  have HK := HK2
  clear HK2 hd hk
  have C := append_any HD.out b y hb' hy
  rw [M5.out] at C
  have HC := Lib.hid C
  clear C
  go_wp2_with fail
  refine HC.out.mono ?_
  rintro e w6 ⟨rfl, hd, hk⟩
  replace hs0 := (hk.cell _ _ ho).trans hs0
  replace hs1 := (hk.cell _ _ ho).trans hs1
  have HK2 := Lib.hid (HK.out.trans hk)
  clear HC HD HK
  have HD := Lib.hid hd
  have HK := HK2
  clear HK2 hd hk
  have C := sync_any HD.out a ha'
  rw [M6.out] at C
  have HC := Lib.hid C
  clear C
  go_wp2_with fail
  refine HC.out.mono ?_
  rintro e w7 ⟨rfl, hd, hk⟩
  replace hs0 := (hk.cell _ _ ho).trans hs0
  replace hs1 := (hk.cell _ _ ho).trans hs1
  have HK2 := Lib.hid (HK.out.trans hk)
  clear HC HD HK
  have HD := Lib.hid hd
  have HK := HK2
  clear HK2 hd hk
  have C := rename_any HD.out a b ha' hb'
  rw [M7.out] at C
  have HC := Lib.hid C
  clear C
  go_wp2_with fail
  refine HC.out.mono ?_
  rintro e w8 ⟨rfl, hd, hk⟩
  replace hs0 := (hk.cell _ _ ho).trans hs0
  replace hs1 := (hk.cell _ _ ho).trans hs1
  have HK2 := Lib.hid (HK.out.trans hk)
  clear HC HD HK
  have HD := Lib.hid hd
  have HK := HK2
  clear HK2 hd hk
  have C := rename_any HD.out a b ha' hb'
  rw [M8.out] at C
  have HC := Lib.hid C
  clear C
  go_wp2_with fail
  refine HC.out.mono ?_
  rintro e w9 ⟨rfl, hd, hk⟩
  replace hs0 := (hk.cell _ _ ho).trans hs0
  replace hs1 := (hk.cell _ _ ho).trans hs1
  have HK2 := Lib.hid (HK.out.trans hk)
  clear HC HD HK
  have HD := Lib.hid hd
  have HK := HK2
  clear HK2 hd hk
  have C := crash_any HD.out none 0 [] (Kp.nil _ _ _) (by decide)
  rw [M9.out] at C
  have HC := Lib.hid C
  clear C
  go_wp2_with fail
  refine HC.out.mono ?_
  rintro e w10 ⟨rfl, hd, hk⟩
  replace hs0 := (hk.cell _ _ ho).trans hs0
  replace hs1 := (hk.cell _ _ ho).trans hs1
  have HK2 := Lib.hid (HK.out.trans hk)
  clear HC HD HK
  have HD := Lib.hid hd
  have HK := HK2
  clear HK2 hd hk
  have C := read_any HD.out b hb'
  rw [M10.out, M11.out, s_eta] at C
  have HC := Lib.hid C
  clear C
  go_wp2_with fail
  refine HC.out.mono ?_
  rintro e w11 ⟨rfl, hb⟩
  have hd := HD.out.below hb
  have hk := Keeps.of_below hb fun b hb => HD.out.own hb
  replace hs0 := (hk.cell _ _ ho).trans hs0
  replace hs1 := (hk.cell _ _ ho).trans hs1
  have HK2 := Lib.hid (HK.out.trans hk)
  clear HC HD HK
  have HD := Lib.hid hd
  have HK := HK2
  clear HK2 hd hk
  clear hb
  have C := read_any HD.out a ha'
  rw [M12.out] at C
  have HC := Lib.hid C
  clear C
  go_wp2_with fail
  refine HC.out.mono ?_
  rintro e w12 ⟨rfl, hb⟩
  have hd := HD.out.below hb
  have hk := Keeps.of_below hb fun b hb => HD.out.own hb
  replace hs0 := (hk.cell _ _ ho).trans hs0
  replace hs1 := (hk.cell _ _ ho).trans hs1
  have HK2 := Lib.hid (HK.out.trans hk)
  clear HC HD HK
  have HD := Lib.hid hd
  have HK := HK2
  clear HK2 hd hk
  clear hb
  have C := names_any HD.out
  have HC := Lib.hid C
  clear C
  go_wp2_with fail
  refine HC.out.mono ?_
  rintro e w13 ⟨v, rfl, hv, hb⟩
  obtain ⟨na, ncap, rfl⟩ := own_slice hv
  have hrd : Rd w13 na [b.data.toList] := own_rd (by unfold NamesV at hv; exact hv)
  have hb2 := one_more w13 (.cells #[.string b] 9)
  have C := same_at na (some ⟨w13.heap.size, 0, none⟩) 1 1 ncap 1 [b.data.toList] [b.data.toList] true _ (hrd.old hb2) (names1 w13 b) rfl rfl (by omega) (by simp)
  have hd := HD.out.below hb
  have hk := Keeps.of_below hb fun b hb => HD.out.own hb
  have HK2 := Lib.hid (HK.out.trans hk)
  clear HC HD HK
  have HD := Lib.hid hd
  have HK := HK2
  have HC := Lib.hid C
  have HB2 := Lib.hid hb2
  clear HK2 hd hk hv hrd hb2 hb C
  have hl : ((calm [(b.data.toList, (⟨x.data.toList, x.data.toList.length⟩ : Fl))]).files.map (·.1)).length = 1 := rfl
  rw [hl]
  clear hl
  go_wp2_with fail
  refine HC.out.mono ?_
  rintro e w14 ⟨rfl, hb3⟩
  have hb := bt HB2.out hb3
  have hd := HD.out.below hb
  have hk := Keeps.of_below hb fun b hb => HD.out.own hb
  have HK2 := Lib.hid (HK.out.trans hk)
  clear HC HD HK
  have HD := Lib.hid hd
  have HK := HK2
  clear HK2 hd hk hb hb3 HB2
  have C := remove_any HD.out b hb'
  rw [M13.out] at C
  have HC := Lib.hid C
  clear C
  go_wp2_with fail
  refine HC.out.mono ?_
  rintro e w15 ⟨rfl, hd, hk⟩
  have HK2 := Lib.hid (HK.out.trans hk)
  clear HC HD HK
  have HD := Lib.hid hd
  have HK := HK2
  clear HK2 hd hk
  have C := names_any HD.out
  have HC := Lib.hid C
  clear C
  go_wp2_with fail
  refine HC.out.mono ?_
  rintro e w16 ⟨v, rfl, hv, hb⟩
  obtain ⟨na2, ncap2, rfl⟩ := own_slice hv
  have hd := HD.out.below hb
  have hk := Keeps.of_below hb fun b hb => HD.out.own hb
  have HK2 := Lib.hid (HK.out.trans hk)
  clear HC HD HK
  have HD := Lib.hid hd
  have HK := HK2
  clear HK2 hd hk hv hb
  have hl : ((calm []).files.map (·.1)).length = 0 := rfl
  rw [hl]
  clear hl
  go_wp2_with fail
  refine (awake_any _).mono ?_
  rintro e w17 ⟨rfl, bb⟩
  have hk := Keeps.of_below bb fun b hb => HD.out.own hb
  have HK2 := Lib.hid (HK.out.trans hk)
  clear bb hk
  go_wp2
  go_ret
  refine ⟨rfl, ?_⟩
  exact ((Below.refl _ w).alloc (Nat.le_refl _) _).trans ((HB.out.mono (by simp)).trans (HK2.out.below fun b hb => by rw [HOW.out]; omega))
theorem walk_FsNames (a : ByteArray) (ha : a.size ≤ 140737488351232) (b : ByteArray) (hb : b.size ≤ 140737488351232) (x y : ByteArray) (hx : x.size ≤ maxLen) (hy : y.size ≤ maxLen) (w : World) : Calls Try.prog 5 #[.string a, .string b, .agg #[.string x, .string y]] w fun e w' => e = .returned (.bool true) ∧ Below w.heap.size w w' := by
  by_cases h1 : 1024 < (x.size : Int)
  · exact names_e1 a ha b hb x y hx hy h1 w
  have h1' : (x.size : Int) ≤ 1024 := by omega
  by_cases h2 : 1024 < (y.size : Int)
  · exact names_e2 a ha b hb x y hx hy h1' h2 w
  have h2' : (y.size : Int) ≤ 1024 := by omega
  cases h3 : namL a.data.toList with
  | false => exact names_e3 a ha b hb x y hx hy h1' h2' h3 w
  | true =>
    by_cases h5 : a = b
    · exact names_e5 a ha b hb x y hx hy h1' h2' h3 h5 w
    cases h4 : namL b.data.toList with
    | false => exact names_e4 a ha b hb x y hx hy h1' h2' h3 h4 w
    | true => exact names_main a ha b hb x y hx hy h1' h2' h3 h4 h5 w
end Go.Proofs.Ytoidfjglimafbaa
