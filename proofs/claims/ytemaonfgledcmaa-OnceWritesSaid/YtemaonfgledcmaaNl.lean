/-
  Layer 14 (once): contracts of number, flag, Write, of the code and of the document. Conditions: none.
-/
import Derived.Test.YtemaonfgledcmaaNk
import Derived.Test.YtemaonfgledcmaaVp
import Derived.Test.YtemaonfgledcmaaTn
import Derived.Deep.RegionWith
import Derived.BigRegion
namespace Go.Proofs.Ytemaonfgledcmaa
open Go.RowKit
set_option linter.unusedVariables false
set_option linter.unusedSimpArgs false

set_option maxHeartbeats 1000000 in
theorem number14_any (z : Int) (h0 : 0 ≤ z) (h1 : z ≤ 4611686018427387904) (w : World) : Calls Try.prog 37 #[.int .i64 z] w fun e w' => e = .returned (.string ⟨(vL z.toNat).toArray⟩) ∧ Below w.heap.size w w' := by
  obtain ⟨n, rfl⟩ : ∃ n : Nat, z = (n : Int) := ⟨z.toNat, by omega⟩
  have hn : n ≤ 4611686018427387904 := by omega
  rw [show ((n : Int)).toNat = n by omega]
  go_enter Try.func37, Try.ntmps37
  go_wp2_with fail
  refine (put_ref n _ hn).mono ?_
  rintro e w' ⟨rfl, hb⟩
  have HB := Lib.hid hb
  clear hb
  go_wp2_with fail
  go_ret
  exact ⟨rfl, HB.out⟩
def flagN (b : Bool) : Nat := if b = true then 1 else 0
theorem flag14_any (b : Bool) (w : World) : Calls Try.prog 34 #[.bool b] w fun e w' => e = .returned (.int .i64 (flagN b : Nat)) ∧ w = w' := by
  cases b with
  | true =>
    go_enter Try.func34, Try.ntmps34
    go_wp2_with fail
    go_ret
    exact ⟨rfl, rfl⟩
  | false =>
    go_enter Try.func34, Try.ntmps34
    go_wp2_with fail
    go_ret
    exact ⟨rfl, rfl⟩
/-- The write of what a client did last. -/
def keyW (x : Sn) : List UInt8 := [116, UInt8.ofNat (48 + x.c.toNat)]
def valW (x : Sn) : List UInt8 := vL x.s.toNat ++ vL x.e.toNat ++ vL (flagN x.h)
def wrE (x : Sn) : Int := if mayS x = true then 0 else 1
def wrV (x : Sn) : Value := if mayS x = true then .agg #[.string ⟨(keyW x).toArray⟩, .string ⟨(valW x).toArray⟩, .bool false] else .agg #[.string ⟨#[]⟩, .string ⟨#[]⟩, .bool false]
theorem there3 (w : World) : (w.alloc (.cells #[.string ⟨#[]⟩, .string ⟨#[]⟩, .bool false] 33)).there w.heap.size 0 3 := fun j hj => by
  match j, hj with
  | 0, _ => simp
  | 1, _ => simp
  | 2, _ => simp
theorem size3 : (Try.prog.info? 33).map (·.size) = some 3 := by kernel_rfl
theorem one3 (a b : ByteArray) (c : Bool) : (#[.string a, .string b, .bool c] : Array Value).all (·.oneCell') = true :=
  all_oneCell_toArray (cs := [.string a, .string b, .bool c]) (by
    intro u hu
    simp only [List.mem_cons, List.not_mem_nil, or_false] at hu
    rcases hu with rfl | rfl | rfl <;> rfl)
theorem bchain {w W w1 : World} (bb : Below W.heap.size W w1) (h : Below w.heap.size w W) : Below w.heap.size w w1 := h.trans (bb.mono h.size)
theorem b_al {Wb w1 : World} {a c : Value} {t : TypeId} (bb : Below (Wb.alloc (.cells #[a, c] t)).heap.size (Wb.alloc (.cells #[a, c] t)) w1) : w1.cell? ⟨Wb.heap.size, 0, none⟩ = some a ∧ w1.cell? ⟨Wb.heap.size, 1, none⟩ = some c ∧ Wb.heap.size < w1.heap.size :=
  ⟨(bb.cell (p := ⟨Wb.heap.size, 0, none⟩) (by simp)).trans (by simp), (bb.cell (p := ⟨Wb.heap.size, 1, none⟩) (by simp)).trans (by simp), by have := bb.size; simp at this; omega⟩
theorem b_ald {Wb w1 : World} {a c : Value} {t : TypeId} (bb : Below (Wb.alloc (.cells #[a, c] t)).drew.heap.size (Wb.alloc (.cells #[a, c] t)).drew w1) : w1.cell? ⟨Wb.heap.size, 0, none⟩ = some a ∧ w1.cell? ⟨Wb.heap.size, 1, none⟩ = some c ∧ Wb.heap.size < w1.heap.size :=
  ⟨(bb.cell (p := ⟨Wb.heap.size, 0, none⟩) (by simp)).trans (by simp), (bb.cell (p := ⟨Wb.heap.size, 1, none⟩) (by simp)).trans (by simp), by have := bb.size; simp at this; omega⟩
theorem b_nx {W w1 : World} {g : Nat} {a c : Value} (z0 : W.cell? ⟨g, 0, none⟩ = some a) (z1 : W.cell? ⟨g, 1, none⟩ = some c) (zl : g < W.heap.size) (bb : Below W.heap.size W w1) : w1.cell? ⟨g, 0, none⟩ = some a ∧ w1.cell? ⟨g, 1, none⟩ = some c ∧ g < w1.heap.size :=
  ⟨(bb.cell (p := ⟨g, 0, none⟩) zl).trans z0, (bb.cell (p := ⟨g, 1, none⟩) zl).trans z1, Nat.lt_of_lt_of_le zl bb.size⟩
theorem keep14 {w W : World} {xb rb : Nat} {A B C a0 a1 a2 : Value} (h0 : w.cell? ⟨xb, 0, none⟩ = some A) (h1 : w.cell? ⟨xb, 1, none⟩ = some B) (h2 : w.cell? ⟨xb, 2, none⟩ = some C)
    (k0 : w.cell? ⟨rb, 0 + 0, none⟩ = some a0) (k1 : w.cell? ⟨rb, 0 + 1, none⟩ = some a1) (k2 : w.cell? ⟨rb, 0 + 2, none⟩ = some a2) (ht : w.there rb 0 3) (hr : rb < w.heap.size) (hx : xb < w.heap.size) (hb : Below w.heap.size w W) :
    (W.cell? ⟨xb, 0, none⟩ = some A ∧ W.cell? ⟨xb, 1, none⟩ = some B ∧ W.cell? ⟨xb, 2, none⟩ = some C) ∧ W.cell? ⟨rb, 0, none⟩ = some a0 ∧ W.cell? ⟨rb, 1, none⟩ = some a1 ∧ W.cell? ⟨rb, 2, none⟩ = some a2 ∧ W.frozen? ⟨rb, 0, none⟩ = false ∧ W.frozen? ⟨rb, 1, none⟩ = false ∧ W.frozen? ⟨rb, 2, none⟩ = false ∧ rb < W.heap.size :=
  ⟨⟨(hb.cell (p := ⟨xb, 0, none⟩) hx).trans h0, (hb.cell (p := ⟨xb, 1, none⟩) hx).trans h1, (hb.cell (p := ⟨xb, 2, none⟩) hx).trans h2⟩, (hb.cell (p := ⟨rb, 0, none⟩) hr).trans k0, (hb.cell (p := ⟨rb, 1, none⟩) hr).trans k1, (hb.cell (p := ⟨rb, 2, none⟩) hr).trans k2,
    (hb.frozen (p := ⟨rb, 0, none⟩) hr).trans (ht 0 (by omega)).2, (hb.frozen (p := ⟨rb, 1, none⟩) hr).trans (ht 1 (by omega)).2, (hb.frozen (p := ⟨rb, 2, none⟩) hr).trans (ht 2 (by omega)).2, Nat.lt_of_lt_of_le hr hb.size⟩
theorem keep_al {W : World} {xb : Nat} {A B C : Value} (h : W.cell? ⟨xb, 0, none⟩ = some A ∧ W.cell? ⟨xb, 1, none⟩ = some B ∧ W.cell? ⟨xb, 2, none⟩ = some C) (o : Obj) :
    (W.alloc o).cell? ⟨xb, 0, none⟩ = some A ∧ (W.alloc o).cell? ⟨xb, 1, none⟩ = some B ∧ (W.alloc o).cell? ⟨xb, 2, none⟩ = some C := by
  have hl := block_lt_of_cell h.1
  have hb := box_bel14 W o
  exact ⟨(hb.cell (p := ⟨xb, 0, none⟩) hl).trans h.1, (hb.cell (p := ⟨xb, 1, none⟩) hl).trans h.2.1, (hb.cell (p := ⟨xb, 2, none⟩) hl).trans h.2.2⟩
theorem keep_set {W : World} {xb rb : Nat} {A B C : Value} (hn : ¬ rb = xb) (h : W.cell? ⟨xb, 0, none⟩ = some A ∧ W.cell? ⟨xb, 1, none⟩ = some B ∧ W.cell? ⟨xb, 2, none⟩ = some C) (u v z : Value) :
    (((W.setCell ⟨rb, 0, none⟩ u).setCell ⟨rb, 1, none⟩ v).setCell ⟨rb, 2, none⟩ z).cell? ⟨xb, 0, none⟩ = some A ∧ (((W.setCell ⟨rb, 0, none⟩ u).setCell ⟨rb, 1, none⟩ v).setCell ⟨rb, 2, none⟩ z).cell? ⟨xb, 1, none⟩ = some B ∧ (((W.setCell ⟨rb, 0, none⟩ u).setCell ⟨rb, 1, none⟩ v).setCell ⟨rb, 2, none⟩ z).cell? ⟨xb, 2, none⟩ = some C := by
  have hk : ∀ i j (V : Value) (X : World), (X.setCell ⟨rb, i, none⟩ V).cell? ⟨xb, j, none⟩ = X.cell? ⟨xb, j, none⟩ := fun i j V X => World.cell?_setCell_other _ _ _ _ (fun e => hn (by injection e))
  simp only [hk]; exact h
theorem write_res (tmps : Array Value) (w : World) (x : Nat) (a b : ByteArray) (E : Int) (h : w.rangeAt x 0 [.string a, .string b, .bool false]) (h2 : tmps.getD 2 undef = .pointer (some ⟨x, 0, none⟩)) (h3 : tmps.getD 3 undef = .int .i64 E) :
    (results Try.f14 tmps).run Try.prog w = .ok (.tuple #[.agg #[.string a, .string b, .bool false], .int .i64 E]) w := by
  have hl := run_loadVar_mid (P := Try.prog) w x 0 33 _ _ h Try.underlying33 rfl size3
  rw [Array.getD_eq_getD_getElem?] at h2 h3
  simp [results, Try.results14, asAddr, hl, h2, h3]
theorem rwrite_res (tmps : Array Value) (w : World) (x : Nat) (a b : ByteArray) (E : Int) (h : w.rangeAt x 0 [.string a, .string b, .bool false]) (h2 : tmps.getD 2 undef = .pointer (some ⟨x, 0, none⟩)) (h3 : tmps.getD 3 undef = .int .i64 E) :
    (results Try.f15 tmps).run Try.prog w = .ok (.tuple #[.agg #[.string a, .string b, .bool false], .int .i64 E]) w := by
  have hl := run_loadVar_mid (P := Try.prog) w x 0 33 _ _ h Try.underlying33 rfl size3
  rw [Array.getD_eq_getD_getElem?] at h2 h3
  simp [results, Try.results15, asAddr, hl, h2, h3]
theorem own_key (w : World) (t : TypeId) (i : Nat) (hi : i < 8) :
    (w.alloc (.cells #[Value.int .u8 116, .int .u8 (48 + (i : Int))] t)).ownsRow w.heap.size t 1 (.slice (some ⟨w.heap.size, 0, none⟩) 2 2) 2 (bv [116, UInt8.ofNat (48 + i)]) := by
  have h := World.ownsRow_lit (base := w.heap.size) (e := t) (size := 1) w #[Value.int .u8 116, .int .u8 (48 + (i : Int))] 2 (Nat.le_refl _) (by decide) rfl
  have e : #[Value.int .u8 116, .int .u8 (48 + (i : Int))].toList = bv [116, UInt8.ofNat (48 + i)] := by
    have : (UInt8.ofNat (48 + i)).toNat = 48 + i := by rw [UInt8.toNat_ofNat']; omega
    show [Value.int .u8 116, .int .u8 (48 + (i : Int))] = [Value.int .u8 ((116 : UInt8).toNat : Int), Value.int .u8 ((UInt8.ofNat (48 + i)).toNat : Int)]
    rw [this]
    rfl
  rw [e] at h
  exact h
set_option maxRecDepth 100000 in
set_option maxHeartbeats 4000000 in
theorem write14_any (x : Sn) (w : World) : Calls Try.prog 14 #[sa x] w fun e w' => e = .returned (.tuple #[wrV x, .int .i64 (wrE x)]) ∧ Below w.heap.size w w' := by
  obtain ⟨r, hr⟩ : ∃ r, r = mayS x := ⟨_, rfl⟩
  have HM := Lib.hid (mayBe14_any x r hr.symm)
  have HR := Lib.hid hr
  have hv : wrV x = if r = true then .agg #[.string ⟨(keyW x).toArray⟩, .string ⟨(valW x).toArray⟩, .bool false] else .agg #[.string ⟨#[]⟩, .string ⟨#[]⟩, .bool false] := by rw [hr]; rfl
  have he : wrE x = if r = true then 0 else 1 := by rw [hr]; rfl
  rw [hv, he]
  clear hr hv he
  have HS0 := Lib.hid (SBox.new w 39 x)
  go_enter Try.func14, Try.ntmps14
  go_upto_region 1 with fail
  obtain ⟨o1, ho1⟩ : ∃ o, o = Obj.cells #[.int .i64 x.c, .int .i64 x.s, .int .i64 x.e, .string x.v, .bool x.h, .slice x.p x.n x.k, .string x.u] 39 := ⟨_, rfl⟩
  rw [← ho1] at HS0 ⊢
  clear ho1
  have HB1 := Lib.hid (box_bel14 w o1)
  obtain ⟨xb, hxb⟩ : ∃ xb, xb = w.heap.size := ⟨_, rfl⟩
  have HXB := Lib.hid hxb
  rw [← hxb] at HS0 ⊢
  have hsz1 : (w.alloc o1).heap.size = xb + 1 := by rw [hxb]; simp
  have HW1 := Lib.hid (show w.heap.size ≤ (w.alloc o1).heap.size by simp)
  clear hxb
  generalize w.alloc o1 = w1 at *
  rw [show xb + 1 = w1.heap.size from hsz1.symm]
  have HT := Lib.hid (there3 w1)
  have HS1 := Lib.hid (HS0.out.below (box_bel14 w1 (.cells #[.string ⟨#[]⟩, .string ⟨#[]⟩, .bool false] 33)))
  have HB2 := Lib.hid (HB1.out.alloc HW1.out (.cells #[.string ⟨#[]⟩, .string ⟨#[]⟩, .bool false] 33))
  obtain ⟨rb, hrb⟩ : ∃ rb, rb = w1.heap.size := ⟨_, rfl⟩
  have HRB := Lib.hid hrb
  have HLT := Lib.hid (show rb < (w1.alloc (.cells #[.string ⟨#[]⟩, .string ⟨#[]⟩, .bool false] 33)).heap.size by rw [hrb]; simp)
  rw [← hrb] at HT ⊢
  have hxr : ¬ rb = xb := by omega
  have hwr : w.heap.size ≤ rb := by rw [hrb]; exact HW1.out
  clear hrb hsz1
  generalize w1.alloc (.cells #[.string ⟨#[]⟩, .string ⟨#[]⟩, .bool false] 33) = w2 at *
  obtain ⟨q0, q1, q2, q3, q4, q5, q6, q7⟩ := HS1.out
  go_wp2_with fail
  refine (HM.out _).mono ?_
  rintro e w3 ⟨rfl, hb3⟩
  have HT3 := Lib.hid (there_below HT.out HLT.out hb3)
  have HL3 := Lib.hid (Nat.lt_of_lt_of_le HLT.out hb3.size)
  have HS3 := Lib.hid (HS1.out.below hb3)
  have HB3 := Lib.hid (HB2.out.trans (hb3.mono HB2.out.size))
  clear q0 q1 q2 q3 q4 q5 q6 q7 hb3 HM HT HS1 HB2
  cases r with
  | false =>
    go_wp2_with (with_reducible refine wpList_store_mid rfl 33 (.tmp 2) (.tmp 13) rfl rb 0 #[.string ⟨#[]⟩, .string ⟨#[]⟩, .bool false] ?e1 ?e2 ?e3 ?e4 ?e5 ?_)
    case e4 => exact size3
    case e5 => exact one3 _ _ _
    case e1 => rfl
    case e2 => rfl
    case e3 => exact HT3.out
    refine bodyPost_ret (v := .tuple #[.agg #[.string ⟨#[]⟩, .string ⟨#[]⟩, .bool false], .int .i64 1]) ?_ rfl ⟨rfl, below_setCells _ _ _ HB3.out hwr⟩
    exact write_res _ _ rb _ _ 1 (World.rangeAt_setCells_same _ _ _ _ HT3.out) rfl rfl
  | true =>
    have hm := mayS_iff.1 HR.out.symm
    obtain ⟨i, hi0⟩ : ∃ i : Nat, x.c = (i : Int) := ⟨x.c.toNat, by omega⟩
    have hi : i < 8 := by omega
    have HM := Lib.hid hm
    have HI0 := Lib.hid hi0
    obtain ⟨q0, q1, q2, q3, q4, q5, q6, q7⟩ := HS3.out
    rw [hi0] at q0
    clear hm hi0
    have HF := Lib.hid (flag14_any x.h)
    obtain ⟨fl, hfl⟩ : ∃ fl : Nat, fl = flagN x.h := ⟨_, rfl⟩
    have hfb : fl ≤ 1 := by rw [hfl]; unfold flagN; split <;> omega
    rw [← hfl] at HF
    have HFL := Lib.hid hfl
    clear hfl
    obtain ⟨S, hS⟩ : ∃ S : Nat, x.s = (S : Int) := ⟨x.s.toNat, by have := HM.out.2.1; omega⟩
    obtain ⟨E, hE⟩ : ∃ E : Nat, x.e = (E : Int) := ⟨x.e.toNat, by have := HM.out.2.2.2.2.2; omega⟩
    have hSb : S ≤ 1099511627775 := by have := HM.out.2.1; omega
    have hEb : E ≤ 999 := by have := HM.out.2.2.2.2.2; omega
    rw [hS] at q1
    rw [hE] at q2
    have HSE := Lib.hid (And.intro hS hE)
    clear hS hE
    have hix0 : ∀ (A B C : Value) W, (Instr.index 76 (.agg #[A, B, C]) (.int .i64 0)).run Try.prog W = .ok A W := fun A B C W => by kernel_rfl
    have hix1 : ∀ (A B C : Value) W, (Instr.index 76 (.agg #[A, B, C]) (.int .i64 1)).run Try.prog W = .ok B W := fun A B C W => by kernel_rfl
    have hix2 : ∀ (A B C : Value) W, (Instr.index 76 (.agg #[A, B, C]) (.int .i64 2)).run Try.prog W = .ok C W := fun A B C W => by kernel_rfl
    go_wp2_with fail
    rw [run_str_own _ 60 9 5 Try.underlying60 Try.underlying5 Try.underlying9 w3.heap.size 5 2 _ _ rfl (own_key w3 5 i hi)]
    have HKY : Hid ((⟨([116, UInt8.ofNat (48 + i)] : List UInt8).toArray⟩ : ByteArray) = ⟨(keyW x).toArray⟩) := Lib.hid (by unfold keyW; rw [HI0.out]; rfl)
    generalize (⟨([116, UInt8.ofNat (48 + i)] : List UInt8).toArray⟩ : ByteArray) = KY at *
    have HT4 := Lib.hid (World.there_alloc HT3.out (.cells #[Value.int .u8 116, .int .u8 (48 + (i : Int))] 5))
    have HB4 := Lib.hid (HB3.out.alloc HB3.out.size (.cells #[Value.int .u8 116, .int .u8 (48 + (i : Int))] 5))
    have HS4 := Lib.hid (HS3.out.below (box_bel14 w3 (.cells #[Value.int .u8 116, .int .u8 (48 + (i : Int))] 5)))
    have HL4 := Lib.hid (show rb < (w3.alloc (.cells #[Value.int .u8 116, .int .u8 (48 + (i : Int))] 5)).heap.size by have := HL3.out; simp; omega)
    clear q0 q1 q2 q3 q4 q5 q6 q7
    generalize w3.alloc (.cells #[Value.int .u8 116, .int .u8 (48 + (i : Int))] 5) = w4 at *
    obtain ⟨q0, q1, q2, q3, q4, q5, q6, q7⟩ := HS4.out
    rw [HSE.out.1] at q1
    rw [HSE.out.2] at q2
    go_wp2_with fail
    go_quiet ((go_at_call 34; exact quiet_same (HF.out _)))
    have HT5 := Lib.hid (there_below HT4.out HL4.out (below_drewN (Below.refl _ w4) nq))
    have HB5 := Lib.hid (HB4.out.trans ((below_drewN (Below.refl _ w4) nq).mono HB4.out.size))
    have HL5 := Lib.hid (show rb < (w4.drewN nq).heap.size from Nat.lt_of_lt_of_le HL4.out (below_drewN (Below.refl w4.heap.size w4) nq).size)
    clear q0 q1 q2 q3 q4 q5 q6 q7
    generalize w4.drewN nq = w5 at *
    have l1 : (vL S).length ≤ 9 := vL_len9 (by omega)
    have l2 : (vL E).length ≤ 9 := vL_len9 (by omega)
    have l3 : (vL fl).length ≤ 9 := vL_len9 (by omega)
    go_wp2_with fail
    refine wp_loop_rounds 4 ?_
    rw [rounds_succ]
    go_wp2_with fail
    refine (put_code S _ (by omega)).mono ?_
    rintro e w6 ⟨rfl, hb6⟩
    have HT6 := Lib.hid (there_below HT5.out HL5.out hb6)
    have HL6 := Lib.hid (Nat.lt_of_lt_of_le HL5.out hb6.size)
    have HB6 := Lib.hid (HB5.out.trans (hb6.mono HB5.out.size))
    clear hb6
    go_wp2_with fail
    rw [rounds_succ]
    go_wp2_with fail
    refine (put_code E _ (by omega)).mono ?_
    rintro e w7 ⟨rfl, hb7⟩
    have HT7 := Lib.hid (there_below HT6.out HL6.out hb7)
    have HL7 := Lib.hid (Nat.lt_of_lt_of_le HL6.out hb7.size)
    have HB7 := Lib.hid (HB6.out.trans (hb7.mono HB6.out.size))
    clear hb7
    go_wp2_with fail
    rw [rounds_succ]
    go_wp2_with fail
    refine (put_code fl _ (by omega)).mono ?_
    rintro e w8 ⟨rfl, hb8⟩
    have HT8 := Lib.hid (there_below HT7.out HL7.out hb8)
    have HB8 := Lib.hid (HB7.out.trans (hb8.mono HB7.out.size))
    clear hb8
    go_wp2_with fail
    rw [rounds_succ]
    go_wp2_with (with_reducible refine wpList_store_mid rfl 33 (.tmp 2) (.tmp 44) rfl rb 0 #[.string KY, .string (⟨#[]⟩ ++ ⟨(vL S).toArray⟩ ++ ⟨(vL E).toArray⟩ ++ ⟨(vL fl).toArray⟩), .bool false] ?f1 ?f2 ?f3 ?f4 ?f5 ?_)
    case f4 => exact size3
    case f5 => exact one3 _ _ _
    case f1 => rfl
    case f2 => rfl
    case f3 => exact HT8.out
    have hkk : KY = ⟨(keyW x).toArray⟩ := HKY.out
    have hvv : ((⟨#[]⟩ ++ ⟨(vL S).toArray⟩ ++ ⟨(vL E).toArray⟩ ++ ⟨(vL fl).toArray⟩) : ByteArray) = ⟨(valW x).toArray⟩ := by
      apply ByteArray.ext
      unfold valW
      rw [HSE.out.1, HSE.out.2, ← HFL.out]
      simp
    rw [hkk, hvv]
    refine bodyPost_ret (v := .tuple #[.agg #[.string ⟨(keyW x).toArray⟩, .string ⟨(valW x).toArray⟩, .bool false], .int .i64 0]) ?_ rfl ⟨rfl, below_setCells _ _ _ HB8.out hwr⟩
    exact write_res _ _ rb _ _ 0 (World.rangeAt_setCells_same _ _ _ _ HT8.out) rfl rfl
end Go.Proofs.Ytemaonfgledcmaa
