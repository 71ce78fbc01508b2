/-
  Layer 16 (post): messages that are the same. Conditions: as each says.
-/
import Derived.Test.YtdnhmkfgcpdbkaaUa
import Derived.Test.YtdnhmkfgcpdbkaaUc
namespace Go.Proofs.Ytdnhmkfgcpdbkaa
open Go.RowKit
set_option linter.unusedVariables false
set_option linter.unusedSimpArgs false

set_option maxRecDepth 100000 in
set_option maxHeartbeats 8000000 in
theorem same16_any (w : World) (kd a1 a2 a3 a4 a5 a6 : Int) (wh : Bool) (ok : Int) (oy ov od : ByteArray) (og : Bool) (OW : List (List Fld)) (ol oh : ByteArray) (om : Int) (er : Int) (rv : ByteArray) (rg : Bool) (RP : List (List Fld)) (ru : ByteArray) (MP EN SE : List (List Fld)) (xa1 : Option Addr) (xn1 xc1 : Nat) (xa2 : Option Addr) (xn2 xc2 : Nat) (xa3 : Option Addr) (xn3 xc3 : Nat) (xa4 : Option Addr) (xn4 xc4 : Nat) (xa5 : Option Addr) (xn5 xc5 : Nat) (ya1 : Option Addr) (yn1 yc1 : Nat) (ya2 : Option Addr) (yn2 yc2 : Nat) (ya3 : Option Addr) (yn3 yc3 : Nat) (ya4 : Option Addr) (yn4 yc4 : Nat) (ya5 : Option Addr) (yn5 yc5 : Nat) (h1 : LRv w 3 (.slice xa1 xn1 xc1) OW) (k1 : LRv w 3 (.slice ya1 yn1 yc1) OW) (s1 : ∀ x ∈ OW, isWrite x) (m1 : OW.length ≤ maxLen) (h2 : LRv w 2 (.slice xa2 xn2 xc2) RP) (k2 : LRv w 2 (.slice ya2 yn2 yc2) RP) (s2 : ∀ x ∈ RP, isPair x) (m2 : RP.length ≤ maxLen) (h3 : LRv w 6 (.slice xa3 xn3 xc3) MP) (k3 : LRv w 6 (.slice ya3 yn3 yc3) MP) (s3 : ∀ x ∈ MP, isShard x) (m3 : MP.length ≤ maxLen) (h4 : LRv w 4 (.slice xa4 xn4 xc4) EN) (k4 : LRv w 4 (.slice ya4 yn4 yc4) EN) (s4 : ∀ x ∈ EN, isEntry x) (m4 : EN.length ≤ maxLen) (h5 : LRv w 7 (.slice xa5 xn5 xc5) SE) (k5 : LRv w 7 (.slice ya5 yn5 yc5) (SE.map (·.map nF))) (m5 : SE.length ≤ maxLen) (hsp : ∀ x ∈ SE, slPr x) (hbr : bareL SE = true) :
    Calls Try.prog 15 #[.agg #[.int .i64 kd, .int .i64 a1, .int .i64 a2, .int .i64 a3, .int .i64 a4, .int .i64 a5, .int .i64 a6, .bool wh, .int .i64 ok, .string oy, .string ov, .string od, .bool og, .slice xa1 xn1 xc1, .string ol, .string oh, .int .i64 om, .int .i64 er, .string rv, .bool rg, .slice xa2 xn2 xc2, .string ru, .slice xa3 xn3 xc3, .slice xa4 xn4 xc4, .slice xa5 xn5 xc5], .agg #[.int .i64 kd, .int .i64 a1, .int .i64 a2, .int .i64 a3, .int .i64 a4, .int .i64 a5, .int .i64 a6, .bool wh, .int .i64 ok, .string oy, .string ov, .string od, .bool og, .slice ya1 yn1 yc1, .string ol, .string oh, .int .i64 om, .int .i64 er, .string rv, .bool rg, .slice ya2 yn2 yc2, .string ru, .slice ya3 yn3 yc3, .slice ya4 yn4 yc4, .slice ya5 yn5 yc5]] w fun e w' => e = .returned (.bool true) ∧ Below w.heap.size w w' := by
  have HC0 : Hid (∀ W, Below w.heap.size w W → Calls Try.prog 23 #[.agg #[.int .i64 ok, .string oy, .string ov, .string od, .bool og, .slice xa1 xn1 xc1, .string ol, .string oh, .int .i64 om], .agg #[.int .i64 ok, .string oy, .string ov, .string od, .bool og, .slice ya1 yn1 yc1, .string ol, .string oh, .int .i64 om]] W fun e w' => e = .returned (.bool true) ∧ Below W.heap.size W w') := Lib.hid fun W hb => sameOp_any W ok oy ov od og ol oh om xa1 xn1 xc1 ya1 yn1 yc1 OW (h1.old hb) (k1.old hb) s1 m1
  have HC1 : Hid (∀ W, Below w.heap.size w W → Calls Try.prog 24 #[.agg #[.int .i64 er, .string rv, .bool rg, .slice xa2 xn2 xc2, .string ru], .agg #[.int .i64 er, .string rv, .bool rg, .slice ya2 yn2 yc2, .string ru]] W fun e w' => e = .returned (.bool true) ∧ Below W.heap.size W w') := Lib.hid fun W hb => sameRep_any W er rv rg ru xa2 xn2 xc2 ya2 yn2 yc2 RP (h2.old hb) (k2.old hb) s2 m2
  have HC2 : Hid (∀ W, Below w.heap.size w W → Calls Try.prog 25 #[.slice xa3 xn3 xc3, .slice ya3 yn3 yc3] W fun e w' => e = .returned (.bool true) ∧ Below W.heap.size W w') := Lib.hid fun W hb => sameMap_any W xa3 xn3 xc3 ya3 yn3 yc3 MP (h3.old hb) (k3.old hb) s3 m3
  have HC3 : Hid (∀ W, Below w.heap.size w W → Calls Try.prog 26 #[.slice xa4 xn4 xc4, .slice ya4 yn4 yc4] W fun e w' => e = .returned (.bool true) ∧ Below W.heap.size W w') := Lib.hid fun W hb => same04_any W xa4 xn4 xc4 ya4 yn4 yc4 EN (h4.old hb) (k4.old hb) s4 m4
  have HC4 : Hid (∀ W, Below w.heap.size w W → Calls Try.prog 27 #[.slice xa5 xn5 xc5, .slice ya5 yn5 yc5] W fun e w' => e = .returned (.bool true) ∧ Below W.heap.size W w') := Lib.hid fun W hb => same14p_any W xa5 xn5 xc5 ya5 yn5 yc5 SE (h5.old hb) (k5.old hb) hsp hbr m5
  obtain ⟨rx, hrx⟩ : ∃ x, x = w.heap.size := ⟨_, rfl⟩
  obtain ⟨ry, hry⟩ : ∃ x, x = w.heap.size + 1 := ⟨_, rfl⟩
  obtain ⟨W1, hW1⟩ : ∃ W, W = (w.alloc (.cells #[.int .i64 kd, .int .i64 a1, .int .i64 a2, .int .i64 a3, .int .i64 a4, .int .i64 a5, .int .i64 a6, .bool wh, .int .i64 ok, .string oy, .string ov, .string od, .bool og, .slice xa1 xn1 xc1, .string ol, .string oh, .int .i64 om, .int .i64 er, .string rv, .bool rg, .slice xa2 xn2 xc2, .string ru, .slice xa3 xn3 xc3, .slice xa4 xn4 xc4, .slice xa5 xn5 xc5] 35)).alloc (.cells #[.int .i64 kd, .int .i64 a1, .int .i64 a2, .int .i64 a3, .int .i64 a4, .int .i64 a5, .int .i64 a6, .bool wh, .int .i64 ok, .string oy, .string ov, .string od, .bool og, .slice ya1 yn1 yc1, .string ol, .string oh, .int .i64 om, .int .i64 er, .string rv, .bool rg, .slice ya2 yn2 yc2, .string ru, .slice ya3 yn3 yc3, .slice ya4 yn4 yc4, .slice ya5 yn5 yc5] 35) := ⟨_, rfl⟩
  have e1 : (w.alloc (.cells #[.int .i64 kd, .int .i64 a1, .int .i64 a2, .int .i64 a3, .int .i64 a4, .int .i64 a5, .int .i64 a6, .bool wh, .int .i64 ok, .string oy, .string ov, .string od, .bool og, .slice xa1 xn1 xc1, .string ol, .string oh, .int .i64 om, .int .i64 er, .string rv, .bool rg, .slice xa2 xn2 xc2, .string ru, .slice xa3 xn3 xc3, .slice xa4 xn4 xc4, .slice xa5 xn5 xc5] 35)).heap.size = w.heap.size + 1 := by simp
  have e2 : W1.heap.size = w.heap.size + 2 := by rw [hW1]; simp
  have b1 : Below w.heap.size w W1 := by rw [hW1]; exact ((Below.refl _ w).alloc (Nat.le_refl _) _).alloc (by rw [e1]; omega) _
  have hx : W1.heap[rx]? = some (.cells #[.int .i64 kd, .int .i64 a1, .int .i64 a2, .int .i64 a3, .int .i64 a4, .int .i64 a5, .int .i64 a6, .bool wh, .int .i64 ok, .string oy, .string ov, .string od, .bool og, .slice xa1 xn1 xc1, .string ol, .string oh, .int .i64 om, .int .i64 er, .string rv, .bool rg, .slice xa2 xn2 xc2, .string ru, .slice xa3 xn3 xc3, .slice xa4 xn4 xc4, .slice xa5 xn5 xc5] 35 (0, 0)) := by
    rw [hW1, hrx, Below.heap_alloc _ _ _ (by rw [e1]; omega)]
    exact heap_alloc_new w _
  have hy : W1.heap[ry]? = some (.cells #[.int .i64 kd, .int .i64 a1, .int .i64 a2, .int .i64 a3, .int .i64 a4, .int .i64 a5, .int .i64 a6, .bool wh, .int .i64 ok, .string oy, .string ov, .string od, .bool og, .slice ya1 yn1 yc1, .string ol, .string oh, .int .i64 om, .int .i64 er, .string rv, .bool rg, .slice ya2 yn2 yc2, .string ru, .slice ya3 yn3 yc3, .slice ya4 yn4 yc4, .slice ya5 yn5 yc5] 35 (0, 0)) := by
    have := heap_alloc_new (w.alloc (.cells #[.int .i64 kd, .int .i64 a1, .int .i64 a2, .int .i64 a3, .int .i64 a4, .int .i64 a5, .int .i64 a6, .bool wh, .int .i64 ok, .string oy, .string ov, .string od, .bool og, .slice xa1 xn1 xc1, .string ol, .string oh, .int .i64 om, .int .i64 er, .string rv, .bool rg, .slice xa2 xn2 xc2, .string ru, .slice xa3 xn3 xc3, .slice xa4 xn4 xc4, .slice xa5 xn5 xc5] 35)) (.cells #[.int .i64 kd, .int .i64 a1, .int .i64 a2, .int .i64 a3, .int .i64 a4, .int .i64 a5, .int .i64 a6, .bool wh, .int .i64 ok, .string oy, .string ov, .string od, .bool og, .slice ya1 yn1 yc1, .string ol, .string oh, .int .i64 om, .int .i64 er, .string rv, .bool rg, .slice ya2 yn2 yc2, .string ru, .slice ya3 yn3 yc3, .slice ya4 yn4 yc4, .slice ya5 yn5 yc5] 35)
    rw [e1] at this
    rw [hW1, hry]
    exact this
  have hlx : rx < W1.heap.size := by omega
  have hly : ry < W1.heap.size := by omega
  have HXC : Hid (∀ W, Below W1.heap.size W1 W → ∀ i v, (#[.int .i64 kd, .int .i64 a1, .int .i64 a2, .int .i64 a3, .int .i64 a4, .int .i64 a5, .int .i64 a6, .bool wh, .int .i64 ok, .string oy, .string ov, .string od, .bool og, .slice xa1 xn1 xc1, .string ol, .string oh, .int .i64 om, .int .i64 er, .string rv, .bool rg, .slice xa2 xn2 xc2, .string ru, .slice xa3 xn3 xc3, .slice xa4 xn4 xc4, .slice xa5 xn5 xc5] : Array Value)[i]? = some v → W.cell? ⟨rx, i, none⟩ = some v) := Lib.hid fun W hb i v hv => (hb.cell (p := ⟨rx, i, none⟩) hlx).trans (by unfold World.cell?; simp only [hx]; exact hv)
  have HYC : Hid (∀ W, Below W1.heap.size W1 W → ∀ i v, (#[.int .i64 kd, .int .i64 a1, .int .i64 a2, .int .i64 a3, .int .i64 a4, .int .i64 a5, .int .i64 a6, .bool wh, .int .i64 ok, .string oy, .string ov, .string od, .bool og, .slice ya1 yn1 yc1, .string ol, .string oh, .int .i64 om, .int .i64 er, .string rv, .bool rg, .slice ya2 yn2 yc2, .string ru, .slice ya3 yn3 yc3, .slice ya4 yn4 yc4, .slice ya5 yn5 yc5] : Array Value)[i]? = some v → W.cell? ⟨ry, i, none⟩ = some v) := Lib.hid fun W hb i v hv => (hb.cell (p := ⟨ry, i, none⟩) hly).trans (by unfold World.cell?; simp only [hy]; exact hv)
  have HX := Lib.hid (And.intro hrx hry)
  have HB := Lib.hid b1
  clear e1 e2 b1 hx hy hrx hry h1 k1 m1 h2 k2 m2 h3 k3 m3 h4 k4 m4 h5 k5 m5 s1 s2 s3 s4 hsp hbr
  cases wh
  all_goals
    go_enter Try.func15, Try.ntmps15
    go_upto_region 1 with fail
    rw [← hW1]
    rw [show w.heap.size + 1 = ry from HX.out.2.symm]
    rw [show (Value.pointer (some ⟨w.heap.size, 0, none⟩)) = .pointer (some ⟨rx, 0, none⟩) by rw [HX.out.1]]
    clear hW1
    have z0 := HXC.out W1 (Below.refl _ _) 0 _ rfl
    have t0 := HYC.out W1 (Below.refl _ _) 0 _ rfl
    have z1 := HXC.out W1 (Below.refl _ _) 1 _ rfl
    have t1 := HYC.out W1 (Below.refl _ _) 1 _ rfl
    have z2 := HXC.out W1 (Below.refl _ _) 2 _ rfl
    have t2 := HYC.out W1 (Below.refl _ _) 2 _ rfl
    have z3 := HXC.out W1 (Below.refl _ _) 3 _ rfl
    have t3 := HYC.out W1 (Below.refl _ _) 3 _ rfl
    have z4 := HXC.out W1 (Below.refl _ _) 4 _ rfl
    have t4 := HYC.out W1 (Below.refl _ _) 4 _ rfl
    have z5 := HXC.out W1 (Below.refl _ _) 5 _ rfl
    have t5 := HYC.out W1 (Below.refl _ _) 5 _ rfl
    have z6 := HXC.out W1 (Below.refl _ _) 6 _ rfl
    have t6 := HYC.out W1 (Below.refl _ _) 6 _ rfl
    have z7 := HXC.out W1 (Below.refl _ _) 7 _ rfl
    have t7 := HYC.out W1 (Below.refl _ _) 7 _ rfl
    have z8 := HXC.out W1 (Below.refl _ _) 8 _ rfl
    have t8 := HYC.out W1 (Below.refl _ _) 8 _ rfl
    have z9 := HXC.out W1 (Below.refl _ _) 9 _ rfl
    have t9 := HYC.out W1 (Below.refl _ _) 9 _ rfl
    have z10 := HXC.out W1 (Below.refl _ _) 10 _ rfl
    have t10 := HYC.out W1 (Below.refl _ _) 10 _ rfl
    have z11 := HXC.out W1 (Below.refl _ _) 11 _ rfl
    have t11 := HYC.out W1 (Below.refl _ _) 11 _ rfl
    have z12 := HXC.out W1 (Below.refl _ _) 12 _ rfl
    have t12 := HYC.out W1 (Below.refl _ _) 12 _ rfl
    have z13 := HXC.out W1 (Below.refl _ _) 13 _ rfl
    have t13 := HYC.out W1 (Below.refl _ _) 13 _ rfl
    have z14 := HXC.out W1 (Below.refl _ _) 14 _ rfl
    have t14 := HYC.out W1 (Below.refl _ _) 14 _ rfl
    have z15 := HXC.out W1 (Below.refl _ _) 15 _ rfl
    have t15 := HYC.out W1 (Below.refl _ _) 15 _ rfl
    have z16 := HXC.out W1 (Below.refl _ _) 16 _ rfl
    have t16 := HYC.out W1 (Below.refl _ _) 16 _ rfl
    go_wp2_with fail
    refine (HC0.out W1 HB.out).mono ?_
    rintro e w2 ⟨rfl, hb⟩
    have HB2 := Lib.hid hb
    clear hb z0 t0 z1 t1 z2 t2 z3 t3 z4 t4 z5 t5 z6 t6 z7 t7 z8 t8 z9 t9 z10 t10 z11 t11 z12 t12 z13 t13 z14 t14 z15 t15 z16 t16
    have z17 := HXC.out w2 HB2.out 17 _ rfl
    have t17 := HYC.out w2 HB2.out 17 _ rfl
    have z18 := HXC.out w2 HB2.out 18 _ rfl
    have t18 := HYC.out w2 HB2.out 18 _ rfl
    have z19 := HXC.out w2 HB2.out 19 _ rfl
    have t19 := HYC.out w2 HB2.out 19 _ rfl
    have z20 := HXC.out w2 HB2.out 20 _ rfl
    have t20 := HYC.out w2 HB2.out 20 _ rfl
    have z21 := HXC.out w2 HB2.out 21 _ rfl
    have t21 := HYC.out w2 HB2.out 21 _ rfl
    go_wp2_with fail
    refine (HC1.out w2 (HB.out.trans (HB2.out.mono HB.out.size))).mono ?_
    rintro e w3 ⟨rfl, hb⟩
    have HB3 := Lib.hid (HB2.out.trans (hb.mono HB2.out.size))
    clear hb z17 t17 z18 t18 z19 t19 z20 t20 z21 t21
    have z22 := HXC.out w3 HB3.out 22 _ rfl
    have t22 := HYC.out w3 HB3.out 22 _ rfl
    go_wp2_with fail
    refine (HC2.out w3 (HB.out.trans (HB3.out.mono HB.out.size))).mono ?_
    rintro e w4 ⟨rfl, hb⟩
    have HB4 := Lib.hid (HB3.out.trans (hb.mono HB3.out.size))
    clear hb z22 t22
    have z23 := HXC.out w4 HB4.out 23 _ rfl
    have t23 := HYC.out w4 HB4.out 23 _ rfl
    go_wp2_with fail
    refine (HC3.out w4 (HB.out.trans (HB4.out.mono HB.out.size))).mono ?_
    rintro e w5 ⟨rfl, hb⟩
    have HB5 := Lib.hid (HB4.out.trans (hb.mono HB4.out.size))
    clear hb z23 t23
    have z24 := HXC.out w5 HB5.out 24 _ rfl
    have t24 := HYC.out w5 HB5.out 24 _ rfl
    go_wp2_with fail
    refine (HC4.out w5 (HB.out.trans (HB5.out.mono HB.out.size))).mono ?_
    rintro e w6 ⟨rfl, hb⟩
    have HB6 := Lib.hid (HB5.out.trans (hb.mono HB5.out.size))
    clear hb z24 t24
    go_wp2_with fail
    go_ret
    exact ⟨rfl, HB.out.trans (HB6.out.mono HB.out.size)⟩
end Go.Proofs.Ytdnhmkfgcpdbkaa
