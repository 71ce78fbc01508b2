/-
  Layer 5 (fs): the walk of the law FsFuses. Conditions: none.
-/
import Derived.Test.YtoidfjglimafbaaDr
import Derived.Test.YtoidfjglimafbaaDv
import Derived.Test.YtoidfjglimafbaaDz
import Derived.Test.YtoidfjglimafbaaBt
namespace Go.Proofs.Ytoidfjglimafbaa
open Go.RowKit Go.Lib
set_option linter.unusedVariables false

theorem own_lt3 (B : Nat) : ∃ own : Nat → Prop, own = fun b => b < B := ⟨_, rfl⟩
theorem sf_zero (K : Nat) : SF K 0 = ⟨[], (K : Int), false⟩ := by unfold SF; rw [if_pos (Nat.zero_le _)]; rfl
/-- A name, out of its two letters. -/
theorem nm_own (w : World) (base : Nat) (x y : UInt8) (hb : base ≤ w.heap.size) (V1 V2 : Int) (h1 : (x.toNat : Int) = V1) (h2 : (y.toNat : Int) = V2) :
    (w.alloc (.cells #[.int .u8 V1, .int .u8 V2] 5)).ownsRow base 5 1 (.slice (some ⟨w.heap.size, 0, none⟩) 2 2) 2 (bv [x, y]) := by
  have h := World.ownsRow_lit (e := 5) (size := 1) w #[.int .u8 V1, .int .u8 V2] 2 hb (by decide) rfl
  have e : bv [x, y] = [.int .u8 V1, .int .u8 V2] := by
    unfold bv
    simp only [List.map_cons, List.map_nil]
    rw [h1, h2]
  rw [e]
  exact h
theorem cat3 (P : Program) (x y : UInt8) (w : World) : (Op.stringOp .add ⟨#[102]⟩ ⟨#[x, y]⟩).run P w = .ok (.string ⟨#[102, x, y]⟩) w := by
  have e : (⟨#[102, x, y]⟩ : ByteArray) = ⟨#[102]⟩ ++ ⟨#[x, y]⟩ := by
    apply ByteArray.ext
    simp
  rw [e]
  exact run_string_add_sum w _ _ (by show 1 + 2 ≤ _; omega)
set_option maxRecDepth 100000 in
set_option maxHeartbeats 4000000 in
theorem walk_FsFuses (a : Int) (ha : (Lit.int .i64 a).wf = true) (b : Int) (hb : (Lit.int .i64 b).wf = true) (w : World) : Calls Try.prog 4 #[.int .i64 a, .int .i64 b] w fun e w' => e = .returned (.bool true) ∧ Below w.heap.size w w' := by
  clear ha hb
  obtain ⟨A, hA, hA2⟩ := low8 a
  obtain ⟨B, hB, hB2⟩ := low8 b
  have hN : (A : Int) % 40 = ((A % 40 : Nat) : Int) := by omega
  have hK : (B : Int) % 50 = ((B % 50 : Nat) : Int) := by omega
  have hN2 : A % 40 < 40 := Nat.mod_lt _ (by omega)
  have hK2 : B % 50 < 50 := Nat.mod_lt _ (by omega)
  generalize A % 40 = N at hN hN2
  generalize B % 50 = K at hK hK2
  go_enter Try.func4, Try.ntmps4
  go_wp2_with fail
  refine (new_any _).mono ?_
  rintro e w1 ⟨rfl, hd, hbw⟩
  have HB := Lib.hid hbw
  clear hbw
  obtain ⟨own, hown⟩ := own_lt3 w.heap.size
  rw [← hown] at hd
  have HOW := Lib.hid hown
  have HD := Lib.hid hd
  have HK := Lib.hid (Keeps.refl own w1)
  clear hd hown
  have C := fuse_any HD.out (K : Int) (by omega)
  dsimp only at C
  rw [← sf_zero K] at C
  have HC := Lib.hid C
  clear C
  go_wp2_with fail
  refine HC.out.mono ?_
  rintro e w2 ⟨rfl, hd, hk⟩
  have HK2 := Lib.hid (HK.out.trans hk)
  clear HC HD HK
  have HD := Lib.hid hd
  have HK := HK2
  clear HK2 hd hk
  go_wp2
  clear hA hB hN hK hA2 hB2
  go_loopw [8] (fun i wr => ∃ k : Nat, k ≤ N ∧ i = .int .i64 k ∧ DiskAt own wr (w.heap.size + 1) (SF K k) ∧ Keeps own w1 wr) (fun i _ => N - (intOf i).toNat)
  case atStart => exact ⟨0, Nat.zero_le _, rfl, HD.out, HK.out⟩
  case round =>
    obtain ⟨i, hi, rfl, hd, hkk⟩ := hrel
    clear HD HK
    have HD := Lib.hid hd
    have HK := Lib.hid hkk
    clear hd hkk
    by_cases hlt : i < N
    · have e1 : (i : Int) % 20 = ((i % 20 : Nat) : Int) := by omega
      have e2 : (i : Int) / 20 = ((i / 20 : Nat) : Int) := by omega
      have e1b : i % 20 < 20 := Nat.mod_lt _ (by omega)
      have e2b : i / 20 < 2 := by omega
      have hnm : nm i = [102, UInt8.ofNat (97 + i % 20), UInt8.ofNat (97 + i / 20)] := rfl
      have hx : (((UInt8.ofNat (97 + i % 20)).toNat : Nat) : Int) = 97 + ((i % 20 : Nat) : Int) := by rw [u8_nat _ (by omega)]; omega
      have hy : (((UInt8.ofNat (97 + i / 20)).toNat : Nat) : Int) = 97 + ((i / 20 : Nat) : Int) := by rw [u8_nat _ (by omega)]; omega
      generalize UInt8.ofNat (97 + i % 20) = x at hx hnm
      generalize UInt8.ofNat (97 + i / 20) = y at hy hnm
      generalize i % 20 = p at e1 e1b hx
      generalize i / 20 = q at e2 e2b hy
      have hmk := sf_make K i (by omega)
      have C := make_any (HD.out.below (Below.alloc (Below.refl _ _) (Nat.le_refl _) (.cells #[.int .u8 (97 + (p : Int)), .int .u8 (97 + (q : Int))] 5))) ⟨#[102, x, y]⟩ (show 3 ≤ maxLen by decide)
      rw [show (⟨#[102, x, y]⟩ : ByteArray).data.toList = nm i from hnm.symm, hmk] at C
      have HC := Lib.hid C
      have hrow := nm_own wr wr.heap.size x y (Nat.le_refl _) _ _ hx hy
      have HR := Lib.hid hrow
      have HNM := Lib.hid hnm
      have hcat := cat3 Try.prog x y
      clear hnm hmk C hx hy hrow
      go_wp2
      rw [run_str_own _ 38 9 5 Try.underlying38 Try.underlying5 Try.underlying9 wr.heap.size 5 2 _ [x, y] rfl HR.out]
      go_wp2_with fail
      refine HC.out.mono ?_
      rintro e w3 ⟨rfl, hd, hk⟩
      have HD3 := Lib.hid hd
      have HK3 := Lib.hid (HK.out.trans ((Keeps.alloc wr _ fun b hb => HD.out.own hb).trans hk))
      clear hd hk HC HR
      by_cases hik : i < K
      · have h1 : (i : Int) < (K : Int) := by omega
        rw [if_pos hik]
        clear hik
        go_wp2
        go_roundw
        case rel => exact ⟨i + 1, by omega, by go_num, HD3.out, HK3.out⟩
        case measure => simp [intOf]; omega
      · have h1 : (K : Int) ≤ (i : Int) := by omega
        rw [if_neg hik]
        clear hik
        go_wp2
        go_roundw
        case rel => exact ⟨i + 1, by omega, by go_num, HD3.out, HK3.out⟩
        case measure => simp [intOf]; omega
    · have hie : i = N := by omega
      subst hie
      obtain ⟨e1, e2, e3, e4, e5⟩ := sf_end K i hN2
      obtain ⟨FX, x1, x2⟩ := sf_x (min i K) (by omega)
      have E1 := Lib.hid e1
      have E2 := Lib.hid e2
      have E3 := Lib.hid e3
      have E4 := Lib.hid e4
      have E5 := Lib.hid e5
      have X1 := Lib.hid x1
      have X2 := Lib.hid x2
      clear e1 e2 e3 e4 e5 x1 x2
      by_cases hik : i ≤ K
      · have h1 : (i : Int) ≤ (K : Int) := by omega
        have hm : min (i : Int) (K : Int) = (i : Int) := by omega
        have hmn : min i K = i := by omega
        have eoff : (SF K i).off = false := by rw [E1.out]; simp; omega
        have elook : (SF K i).lookE [102, 122, 122] = 3 := by rw [E3.out]; rw [if_neg (by omega)]
        have elen : ((SF K i).files.map (·.1)).length = i := by rw [List.length_map, E2.out, hmn]
        have elen2 : ((calm FX).files.map (·.1)).length = i + 1 := by rw [List.length_map]; show FX.length = _; rw [X2.out, hmn]
        have EO := Lib.hid eoff
        have EL := Lib.hid elook
        have EN := Lib.hid elen
        have EN2 := Lib.hid elen2
        clear hik eoff elook elen elen2 hmn
        have C := read_any HD.out ⟨#[102, 122, 122]⟩ (show 3 ≤ maxLen by decide)
        rw [show (⟨#[102, 122, 122]⟩ : ByteArray).data.toList = [102, 122, 122] from rfl, E4.out, EL.out] at C
        have HC := Lib.hid C
        clear C
        go_wp2_with fail
        refine HC.out.mono ?_
        rintro e w5 ⟨rfl, hb⟩
        have hd := HD.out.below hb
        have hk := Keeps.of_below hb fun b hb => HD.out.own hb
        have HK2 := Lib.hid (HK.out.trans hk)
        clear HC HD HK
        have HD := Lib.hid hd
        have HK := HK2
        clear HK2 hd hk
        clear hb
        have C := off_any HD.out
        rw [EO.out] at C
        have HC := Lib.hid C
        clear C
        go_wp2_with fail
        refine HC.out.mono ?_
        rintro e w6 ⟨rfl, rfl⟩
        clear HC
        have C := names_any HD.out
        have HC := Lib.hid C
        clear C
        go_wp2_with fail
        refine HC.out.mono ?_
        rintro e w30 ⟨v30, rfl, hv, hb⟩
        obtain ⟨na, ncap, rfl⟩ := own_slice hv
        have hd := HD.out.below hb
        have hk := Keeps.of_below hb fun b hb => HD.out.own hb
        have HK2 := Lib.hid (HK.out.trans hk)
        clear HC HD HK
        have HD := Lib.hid hd
        have HK := HK2
        clear HK2 hd hk hv hb
        rw [EN.out]
        have C := crash_any HD.out none 0 [] (Kp.nil _ _ _) (by decide)
        rw [E5.out] at C
        have HC := Lib.hid C
        clear C
        go_wp2_with fail
        refine HC.out.mono ?_
        rintro e w40 ⟨rfl, hd, hk⟩
        have HK2 := Lib.hid (HK.out.trans hk)
        clear HC HD HK
        have HD := Lib.hid hd
        have HK := HK2
        clear HK2 hd hk
        have C := off_any HD.out
        rw [show (calm (mapL (cutF 0) (FF (min i K)))).off = false from rfl] at C
        have HC := Lib.hid C
        clear C
        go_wp2_with fail
        refine HC.out.mono ?_
        rintro e w41 ⟨rfl, rfl⟩
        clear HC
        have C := make_any HD.out ⟨#[120]⟩ (by decide)
        rw [show (⟨#[120]⟩ : ByteArray).data.toList = [120] from rfl, X1.out] at C
        have HC := Lib.hid C
        clear C
        go_wp2_with fail
        refine HC.out.mono ?_
        rintro e w42 ⟨rfl, hd, hk⟩
        have HK2 := Lib.hid (HK.out.trans hk)
        clear HC HD HK
        have HD := Lib.hid hd
        have HK := HK2
        clear HK2 hd hk
        have C := names_any HD.out
        have HC := Lib.hid C
        clear C
        go_wp2_with fail
        refine HC.out.mono ?_
        rintro e w50 ⟨v50, rfl, hv, hb⟩
        obtain ⟨na, ncap, rfl⟩ := own_slice hv
        have hd := HD.out.below hb
        have hk := Keeps.of_below hb fun b hb => HD.out.own hb
        have HK2 := Lib.hid (HK.out.trans hk)
        clear HC HD HK
        have HD := Lib.hid hd
        have HK := HK2
        clear HK2 hd hk hv hb
        rw [EN2.out]
        go_wp2_with (go_at_call 9; refine (awake_any _).mono ?_; rintro e w2 ⟨rfl, bb⟩)
        go_ret
        exact ⟨rfl, HB.out.trans ((HK.out.trans (Keeps.of_below bb fun b hb => HD.out.own hb)).below fun b hb => by rw [HOW.out]; exact hb)⟩
      · have h1 : (K : Int) < (i : Int) := by omega
        have hm : min (i : Int) (K : Int) = (K : Int) := by omega
        have hmn : min i K = K := by omega
        have eoff : (SF K i).off = true := by rw [E1.out]; simp; omega
        have elook : (SF K i).lookE [102, 122, 122] = 50 := by rw [E3.out]; rw [if_pos (by omega)]
        have elen : ((SF K i).files.map (·.1)).length = K := by rw [List.length_map, E2.out, hmn]
        have elen2 : ((calm FX).files.map (·.1)).length = K + 1 := by rw [List.length_map]; show FX.length = _; rw [X2.out, hmn]
        have EO := Lib.hid eoff
        have EL := Lib.hid elook
        have EN := Lib.hid elen
        have EN2 := Lib.hid elen2
        clear hik eoff elook elen elen2 hmn
        have C := read_any HD.out ⟨#[102, 122, 122]⟩ (show 3 ≤ maxLen by decide)
        rw [show (⟨#[102, 122, 122]⟩ : ByteArray).data.toList = [102, 122, 122] from rfl, E4.out, EL.out] at C
        have HC := Lib.hid C
        clear C
        go_wp2_with fail
        refine HC.out.mono ?_
        rintro e w5 ⟨rfl, hb⟩
        have hd := HD.out.below hb
        have hk := Keeps.of_below hb fun b hb => HD.out.own hb
        have HK2 := Lib.hid (HK.out.trans hk)
        clear HC HD HK
        have HD := Lib.hid hd
        have HK := HK2
        clear HK2 hd hk
        clear hb
        have C := off_any HD.out
        rw [EO.out] at C
        have HC := Lib.hid C
        clear C
        go_wp2_with fail
        refine HC.out.mono ?_
        rintro e w6 ⟨rfl, rfl⟩
        clear HC
        have C := names_any HD.out
        have HC := Lib.hid C
        clear C
        go_wp2_with fail
        refine HC.out.mono ?_
        rintro e w30 ⟨v30, rfl, hv, hb⟩
        obtain ⟨na, ncap, rfl⟩ := own_slice hv
        have hd := HD.out.below hb
        have hk := Keeps.of_below hb fun b hb => HD.out.own hb
        have HK2 := Lib.hid (HK.out.trans hk)
        clear HC HD HK
        have HD := Lib.hid hd
        have HK := HK2
        clear HK2 hd hk hv hb
        rw [EN.out]
        have C := crash_any HD.out none 0 [] (Kp.nil _ _ _) (by decide)
        rw [E5.out] at C
        have HC := Lib.hid C
        clear C
        go_wp2_with fail
        refine HC.out.mono ?_
        rintro e w40 ⟨rfl, hd, hk⟩
        have HK2 := Lib.hid (HK.out.trans hk)
        clear HC HD HK
        have HD := Lib.hid hd
        have HK := HK2
        clear HK2 hd hk
        have C := off_any HD.out
        rw [show (calm (mapL (cutF 0) (FF (min i K)))).off = false from rfl] at C
        have HC := Lib.hid C
        clear C
        go_wp2_with fail
        refine HC.out.mono ?_
        rintro e w41 ⟨rfl, rfl⟩
        clear HC
        have C := make_any HD.out ⟨#[120]⟩ (by decide)
        rw [show (⟨#[120]⟩ : ByteArray).data.toList = [120] from rfl, X1.out] at C
        have HC := Lib.hid C
        clear C
        go_wp2_with fail
        refine HC.out.mono ?_
        rintro e w42 ⟨rfl, hd, hk⟩
        have HK2 := Lib.hid (HK.out.trans hk)
        clear HC HD HK
        have HD := Lib.hid hd
        have HK := HK2
        clear HK2 hd hk
        have C := names_any HD.out
        have HC := Lib.hid C
        clear C
        go_wp2_with fail
        refine HC.out.mono ?_
        rintro e w50 ⟨v50, rfl, hv, hb⟩
        obtain ⟨na, ncap, rfl⟩ := own_slice hv
        have hd := HD.out.below hb
        have hk := Keeps.of_below hb fun b hb => HD.out.own hb
        have HK2 := Lib.hid (HK.out.trans hk)
        clear HC HD HK
        have HD := Lib.hid hd
        have HK := HK2
        clear HK2 hd hk hv hb
        rw [EN2.out]
        go_wp2_with (go_at_call 9; refine (awake_any _).mono ?_; rintro e w2 ⟨rfl, bb⟩)
        go_ret
        exact ⟨rfl, HB.out.trans ((HK.out.trans (Keeps.of_below bb fun b hb => HD.out.own hb)).below fun b hb => by rw [HOW.out]; exact hb)⟩
end Go.Proofs.Ytoidfjglimafbaa
