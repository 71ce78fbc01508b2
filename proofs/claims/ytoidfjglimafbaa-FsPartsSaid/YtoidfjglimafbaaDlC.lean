/-
  Layer 5 (fs): the walk of the law FsParts. Conditions: texts within the form's reach.
-/
import Derived.Test.YtoidfjglimafbaaDr
import Derived.Test.YtoidfjglimafbaaDv
import Derived.Test.YtoidfjglimafbaaDx
namespace Go.Proofs.Ytoidfjglimafbaa
open Go.RowKit Go.Lib
set_option linter.unusedVariables false

/-- The first k texts as one. -/
def catL (ts : List (List UInt8)) (k : Nat) : List UInt8 := (ts.take k).flatten
theorem catL_zero (ts : List (List UInt8)) : catL ts 0 = [] := by simp [catL]
theorem catL_succ (ts : List (List UInt8)) (k : Nat) (h : k < ts.length) : catL ts (k + 1) = catL ts k ++ ts[k] := by
  unfold catL
  rw [List.take_succ_eq_append_getElem h, List.flatten_append]
  simp
theorem cat_str (P : Program) (X t : List UInt8) (h : X.length + t.length ≤ 4611686018427387904) (w : World) : (Op.stringOp .add ⟨X.toArray⟩ ⟨t.toArray⟩).run P w = .ok (.string ⟨(X ++ t).toArray⟩) w := by
  have e : (⟨(X ++ t).toArray⟩ : ByteArray) = ⟨X.toArray⟩ ++ ⟨t.toArray⟩ := by
    apply ByteArray.ext
    simp
  rw [e]
  refine run_string_add_sum w _ _ ?_
  rw [size_mkl X, size_mkl t]
  omega
theorem own_lt2 (B : Nat) : ∃ own : Nat → Prop, own = fun b => b < B := ⟨_, rfl⟩
def FP (x y : List UInt8) (s : Nat) : List (List UInt8 × Fl) := [([112], ⟨x, s⟩), ([113], ⟨y, 0⟩)]
theorem fp1 : (⟨[], -1, false⟩ : Ds).make [112] = (calm [([112], ⟨[], 0⟩)], 0) := by kernel_rfl
theorem fp2 : (calm [([112], ⟨[], 0⟩)]).make [113] = (calm (FP [] [] 0), 0) := by kernel_rfl
theorem fp3 (x t : List UInt8) (h : x.length + t.length ≤ 4194304) : (calm (FP x [] 0)).append [112] t = (calm (FP (x ++ t) [] 0), 0) := append_calm (n := [112]) (F := FP x [] 0) (f := ⟨x, 0⟩) rfl rfl h
theorem fp4 (x : List UInt8) (h : x.length ≤ 4194304) : (calm (FP x [] 0)).append [113] x = (calm (FP x x 0), 0) := append_calm (n := [113]) (F := FP x [] 0) (f := ⟨[], 0⟩) rfl rfl (by simpa using h)
theorem fp5 (x : List UInt8) : (calm (FP x x 0)).sync [112] = (calm (FP x x x.length), 0) := sync_calm (n := [112]) (F := FP x x 0) (f := ⟨x, 0⟩) rfl rfl
theorem fp6 (x : List UInt8) : (calm (FP x x x.length)).crash [] = calm (FP x [] x.length) := by
  rw [crash_none, mapIdx_map]
  simp only [mapL, FP, List.map_cons, List.map_nil]
  rw [cut_zero (f := ⟨x, x.length⟩) (Nat.le_refl _), cut_zero (f := ⟨x, 0⟩) (Nat.zero_le _), List.take_length]
  rfl
theorem fp7 (x : List UInt8) (n : Nat) : (calm (FP x [] n)).bytesOf [112] = x ∧ (calm (FP x [] n)).lookE [112] = 0 ∧ (calm (FP x [] n)).sureOf [112] = n ∧ (calm (FP x [] n)).bytesOf [113] = [] ∧ (calm (FP x [] n)).lookE [113] = 0 :=
  ⟨bytes_calm (n := [112]) (F := FP x [] n) (f := ⟨x, n⟩) rfl rfl, look_calm (n := [112]) (F := FP x [] n) rfl, sure_calm (n := [112]) (F := FP x [] n) (f := ⟨x, n⟩) rfl rfl, bytes_calm (n := [113]) (F := FP x [] n) (f := ⟨[], 0⟩) rfl rfl, look_calm (n := [113]) (F := FP x [] n) rfl⟩
set_option maxRecDepth 100000 in
set_option maxHeartbeats 4000000 in
theorem walk_FsParts (a : Option Addr) (cap : Nat) (ts : List (List UInt8)) (w : World) (hr : Rd w a ts) (hl : ts.length ≤ maxLen) (hc : ts.length ≤ cap) : Calls Try.prog 7 #[.slice a ts.length cap] w fun e w' => e = .returned (.bool true) ∧ Below w.heap.size w w' := by
  unfold maxLen at hl
  have HR := Lib.hid hr
  clear hr
  by_cases h20 : 20 < ts.length
  · go_enter Try.func7, Try.ntmps7
    go_wp2_with fail
    refine (new_any _).mono ?_
    rintro e w1 ⟨rfl, hd, hb⟩
    have HB := Lib.hid hb
    clear hd hb
    go_wp2_with (go_at_call 9; refine (awake_any _).mono ?_; rintro e w2 ⟨rfl, bb⟩)
    go_ret
    exact ⟨rfl, bt HB.out bb⟩
  · go_enter Try.func7, Try.ntmps7
    go_wp2_with fail
    refine (new_any _).mono ?_
    rintro e w1 ⟨rfl, hd, hb⟩
    have HB := Lib.hid hb
    clear hb
    obtain ⟨own, hown⟩ := own_lt2 w.heap.size
    rw [← hown] at hd
    have HOW := Lib.hid hown
    have HD := Lib.hid hd
    have HK := Lib.hid (Keeps.refl own w1)
    clear hd hown
    have C := make_any HD.out ⟨#[112]⟩ (by decide)
    rw [show (⟨#[112]⟩ : ByteArray).data.toList = [112] from rfl, fp1] at C
    have HC := Lib.hid C
    clear C
    go_wp2_with fail
    refine HC.out.mono ?_
    rintro e w2 ⟨rfl, hd, hk⟩
    have HK2 := Lib.hid (HK.out.trans hk)
    clear HC HD HK
    have HD := Lib.hid hd
    have HK := HK2
    clear HK2 hd hk
    have C := make_any HD.out ⟨#[113]⟩ (by decide)
    rw [show (⟨#[113]⟩ : ByteArray).data.toList = [113] from rfl, fp2] at C
    have HC := Lib.hid C
    clear C
    go_wp2_with fail
    refine HC.out.mono ?_
    rintro e w3 ⟨rfl, hd, hk⟩
    have HK2 := Lib.hid (HK.out.trans hk)
    clear HC HD HK
    have HD := Lib.hid hd
    have HK := HK2
    clear HK2 hd hk
    go_wp2
    go_loopw [4, 5] (fun v i wr => ∃ k : Nat, k ≤ ts.length ∧ i = .int .i64 k ∧ v = .string ⟨(catL ts k).toArray⟩ ∧ DiskAt own wr (w.heap.size + 1) (calm (FP (catL ts k) [] 0)) ∧ Keeps own w1 wr ∧ (catL ts k).length ≤ 40 * k) (fun _ i _ => ts.length - (intOf i).toNat)
    case atStart => exact ⟨0, Nat.zero_le _, rfl, by rw [catL_zero], by rw [catL_zero]; exact HD.out, HK.out, by rw [catL_zero]; simp⟩
    case round =>
      obtain ⟨k, hk, rfl, rfl, hd, hkk, hlen⟩ := hrel
      clear HD HK
      by_cases hlt : k < ts.length
      · obtain ⟨b, off, rfl, hb, hcell⟩ : ∃ b off, a = some ⟨b, off, none⟩ ∧ own b ∧ w1.cell? ⟨b, off + k, none⟩ = some (.string ⟨ts[k].toArray⟩) := by
          rcases HR.out with rfl | ⟨b, off, h1, h2, h3⟩
          · simp at hlt
          · exact ⟨b, off, h1, by rw [HOW.out]; exact h2, (HB.out.cell (p := ⟨b, off + k, none⟩) h2).trans (h3 k hlt)⟩
        have hsucc := catL_succ ts k hlt
        have hcr : wr.cell? ⟨b, off + k, none⟩ = some (.string ⟨ts[k].toArray⟩) := (hkk.cell b _ hb).trans hcell
        generalize hT : ts[k] = t at hsucc hcr
        have HS := Lib.hid hsucc
        have HD := Lib.hid hd
        have HK := Lib.hid hkk
        clear hsucc hcell hT hd hkk
        by_cases h40 : 40 < (t.length : Int)
        · clear hlen
          go_wp2_with (go_at_call 9; refine (awake_any _).mono ?_; rintro e w2 ⟨rfl, bb⟩)
          go_ret
          exact ⟨rfl, HB.out.trans ((HK.out.trans (Keeps.of_below bb fun b hb => HD.out.own hb)).below fun b hb => by rw [HOW.out]; exact hb)⟩
        · have h40' : (t.length : Int) ≤ 40 := by omega
          have hcat := cat_str Try.prog (catL ts k) t (by omega)
          have C := append_any HD.out ⟨#[112]⟩ ⟨t.toArray⟩ (by decide) (by rw [size_mkl t]; unfold maxLen; omega)
          rw [show (⟨#[112]⟩ : ByteArray).data.toList = [112] from rfl, show (⟨t.toArray⟩ : ByteArray).data.toList = t from rfl, fp3 (catL ts k) t (by omega)] at C
          have HC := Lib.hid C
          have HL := Lib.hid (show (catL ts k ++ t).length ≤ 40 * (k + 1) from by rw [List.length_append]; omega)
          have hlt2 : (k : Int) < (ts.length : Int) := by omega
          have hbw : b < wr.heap.size := HD.out.own hb
          clear C h40 hlen
          go_wp2_with fail
          refine HC.out.mono ?_
          rintro e w3 ⟨rfl, hd, hk2⟩
          have hcr3 : w3.cell? ⟨b, off + k, none⟩ = some (.string ⟨t.toArray⟩) := (hk2.cell b _ hb).trans hcr
          have HD3 := Lib.hid hd
          have HK3 := Lib.hid (HK.out.trans hk2)
          have hbw3 : b < w3.heap.size := hd.own hb
          clear hd hk2
          go_wp2
          go_roundw
          case rel => exact ⟨k + 1, by omega, by go_num, by rw [HS.out], by rw [HS.out]; exact HD3.out, HK3.out, by rw [HS.out]; exact HL.out⟩
          case measure => simp [intOf]; omega
      · have hke : k = ts.length := by omega
        generalize hX : catL ts k = X at hd hlen ⊢
        have hXl : X.length ≤ 4194304 := by omega
        have HXL := Lib.hid hXl
        have HD := Lib.hid hd
        have HK := Lib.hid hkk
        have HKE := Lib.hid hke
        clear hX hd hkk hlen hke
        have C := append_any HD.out ⟨#[113]⟩ ⟨X.toArray⟩ (by decide) (by rw [size_mkl X]; have := HXL.out; unfold maxLen; omega)
        rw [show (⟨#[113]⟩ : ByteArray).data.toList = [113] from rfl, show (⟨X.toArray⟩ : ByteArray).data.toList = X from rfl, fp4 X HXL.out] at C
        have HC := Lib.hid C
        clear C
        go_wp2_with fail
        refine HC.out.mono ?_
        rintro e w4 ⟨rfl, hd, hk⟩
        have HK2 := Lib.hid (HK.out.trans hk)
        clear HC HD HK
        have HD := Lib.hid hd
        have HK := HK2
        clear HK2 hd hk
        have C := sync_any HD.out ⟨#[112]⟩ (by decide)
        rw [show (⟨#[112]⟩ : ByteArray).data.toList = [112] from rfl, fp5] at C
        have HC := Lib.hid C
        clear C
        go_wp2_with fail
        refine HC.out.mono ?_
        rintro e w5 ⟨rfl, hd, hk⟩
        have HK2 := Lib.hid (HK.out.trans hk)
        clear HC HD HK
        have HD := Lib.hid hd
        have HK := HK2
        clear HK2 hd hk
        have C := crash_any HD.out none 0 [] (Kp.nil _ _ _) (by decide)
        rw [fp6] at C
        have HC := Lib.hid C
        clear C
        go_wp2_with fail
        refine HC.out.mono ?_
        rintro e w6 ⟨rfl, hd, hk⟩
        have HK2 := Lib.hid (HK.out.trans hk)
        clear HC HD HK
        have HD := Lib.hid hd
        have HK := HK2
        clear HK2 hd hk
        have C := read_any HD.out ⟨#[112]⟩ (by decide)
        rw [show (⟨#[112]⟩ : ByteArray).data.toList = [112] from rfl, (fp7 X _).1, (fp7 X _).2.1] at C
        have HC := Lib.hid C
        clear C
        go_wp2_with fail
        refine HC.out.mono ?_
        rintro e w7 ⟨rfl, hb⟩
        have hd := HD.out.below hb
        have hk := Keeps.of_below hb fun b hb => HD.out.own hb
        have HK2 := Lib.hid (HK.out.trans hk)
        clear HC HD HK
        have HD := Lib.hid hd
        have HK := HK2
        clear HK2 hd hk
        clear hb
        have C := read_any HD.out ⟨#[113]⟩ (by decide)
        rw [show (⟨#[113]⟩ : ByteArray).data.toList = [113] from rfl, (fp7 X _).2.2.2.1, (fp7 X _).2.2.2.2] at C
        have HC := Lib.hid C
        clear C
        go_wp2_with fail
        refine HC.out.mono ?_
        rintro e w8 ⟨rfl, hb⟩
        have hd := HD.out.below hb
        have hk := Keeps.of_below hb fun b hb => HD.out.own hb
        have HK2 := Lib.hid (HK.out.trans hk)
        clear HC HD HK
        have HD := Lib.hid hd
        have HK := HK2
        clear HK2 hd hk
        clear hb
        have C := sure_any HD.out ⟨#[112]⟩ (by decide)
        rw [show (⟨#[112]⟩ : ByteArray).data.toList = [112] from rfl, (fp7 X _).2.2.1, (fp7 X _).2.1] at C
        have HC := Lib.hid C
        clear C
        go_wp2_with fail
        refine HC.out.mono ?_
        rintro e w9 ⟨rfl, hb⟩
        have hd := HD.out.below hb
        have hk := Keeps.of_below hb fun b hb => HD.out.own hb
        have HK2 := Lib.hid (HK.out.trans hk)
        clear HC HD HK
        have HD := Lib.hid hd
        have HK := HK2
        clear HK2 hd hk
        clear hb
        go_wp2_with (go_at_call 9; refine (awake_any _).mono ?_; rintro e w2 ⟨rfl, bb⟩)
        go_ret
        exact ⟨rfl, HB.out.trans ((HK.out.trans (Keeps.of_below bb fun b hb => HD.out.own hb)).below fun b hb => by rw [HOW.out]; exact hb)⟩
end Go.Proofs.Ytoidfjglimafbaa
