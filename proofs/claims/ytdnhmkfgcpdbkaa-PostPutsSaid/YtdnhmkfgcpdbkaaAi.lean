/-
  Layer 16 (post): the document's writer: a message's text. Conditions: as each says.
-/
import Derived.Test.YtdnhmkfgcpdbkaaAh
import Derived.Test.YtdnhmkfgcpdbkaaRg
namespace Go.Proofs.Ytdnhmkfgcpdbkaa
open Go.RowKit
set_option linter.unusedVariables false
set_option linter.unusedSimpArgs false

theorem Wr.new (w : World) : Wr w.heap.size (w.alloc (.cells #[.slice none 0 0, .bool false] 114)) [] false 0 :=
  ⟨.slice none 0 0, [], ⟨heap_alloc_new w _, World.ownsRow_nil _ _ _ _⟩, fun _ => rfl, Nat.le_refl _⟩
theorem fin_ok (kd : Int) (X : Bool) (q : Bool) (h : q = !(okN kd && X)) : (!q && (decide (1 ≤ kd) && decide (kd ≤ 15))) = (decide (1 ≤ kd ∧ kd ≤ 15) && X) := by
  subst h
  by_cases h1 : 1 ≤ kd <;> by_cases h2 : kd ≤ 15
  · rw [show okN kd = true by unfold okN maxN; exact decide_eq_true (by omega)]
    simp [h1, h2]
  · simp [h1, h2]
  · simp [h1, h2]
  · simp [h1, h2]
set_option maxRecDepth 100000 in
set_option maxHeartbeats 8000000 in
theorem write16 (VL : List Value) (m : Mg) (w : World) (h : MV (LRd w) VL m) :
    Calls Try.prog 20 #[.agg VL.toArray] w fun e w' => (∃ X : ByteArray, e = .returned (.tuple #[.string X, .bool (okM m && bareL m.SE)]) ∧ X.size ≤ 100000000 ∧ ((okM m && bareL m.SE) = true → X = ⟨(txM m).toArray⟩)) ∧ Below w.heap.size w w' := by
  have hlen := h.len
  obtain ⟨kd, a1, a2, a3, a4, a5, a6, wh, ok, oy, ov, od, og, OW, ol, oh, om, er, rv, rg, RP, ru, MP, EN, SE, v1, v2, v3, v4, v5, e1, e2, r1, r2, r3, r4, r5, s1, s2, s3, s4, s5⟩ := h
  obtain ⟨xa1, n1, xc1, rfl, g1⟩ := id r1
  obtain ⟨xa2, n2, xc2, rfl, g2⟩ := id r2
  obtain ⟨xa3, n3, xc3, rfl, g3⟩ := id r3
  obtain ⟨xa4, n4, xc4, rfl, g4⟩ := id r4
  obtain ⟨xa5, n5, xc5, rfl, g5⟩ := id r5
  clear g1 g2 g3 g4 g5
  obtain ⟨R, hR⟩ : ∃ R, R = (okM m && bareL m.SE) := ⟨_, rfl⟩
  obtain ⟨TX, hTX⟩ : ∃ T, T = txM m := ⟨_, rfl⟩
  rw [← hR, ← hTX]
  obtain ⟨mb, hmb⟩ : ∃ x, x = w.heap.size := ⟨_, rfl⟩
  obtain ⟨b, hb⟩ : ∃ x, x = w.heap.size + 1 := ⟨_, rfl⟩
  obtain ⟨lb, hlb⟩ : ∃ x, x = w.heap.size + 1 + 1 := ⟨_, rfl⟩
  obtain ⟨w1, hw1⟩ : ∃ W, W = w.alloc (.cells VL.toArray 35) := ⟨_, rfl⟩
  obtain ⟨w2, hw2⟩ : ∃ W, W = w1.alloc (.cells #[.slice none 0 0, .bool false] 114) := ⟨_, rfl⟩
  obtain ⟨w3, hw3⟩ : ∃ W, W = w2.alloc (.cells #[.int .i64 kd, .int .i64 a1, .int .i64 a2, .int .i64 a3, .int .i64 a4, .int .i64 a5, .int .i64 a6] 3) := ⟨_, rfl⟩
  have z1 : w1.heap.size = w.heap.size + 1 := by rw [hw1]; simp
  have z2 : w2.heap.size = w.heap.size + 1 + 1 := by rw [hw2]; simp [z1]
  have z3 : w3.heap.size = w.heap.size + 1 + 1 + 1 := by rw [hw3]; simp [z2]
  have k1 : Below w.heap.size w w1 := by rw [hw1]; exact (Below.refl _ w).alloc (Nat.le_refl _) _
  have k2 : Below w1.heap.size w1 w2 := by rw [hw2]; exact (Below.refl _ w1).alloc (Nat.le_refl _) _
  have k3 : Below w2.heap.size w2 w3 := by rw [hw3]; exact (Below.refl _ w2).alloc (Nat.le_refl _) _
  have k13 : Below w1.heap.size w1 w3 := k2.trans (k3.mono (by omega))
  have hb3 : Below w.heap.size w w3 := k1.trans (k13.mono (by omega))
  have hm3 : w3.heap[mb]? = some (.cells VL.toArray 35 (0, 0)) := by
    rw [k13.block mb (by omega), hw1, hmb]; exact heap_alloc_new w _
  have hl3 : w3.heap[lb]? = some (.cells #[.int .i64 kd, .int .i64 a1, .int .i64 a2, .int .i64 a3, .int .i64 a4, .int .i64 a5, .int .i64 a6] 3 (0, 0)) := by
    have := heap_alloc_new w2 (.cells #[.int .i64 kd, .int .i64 a1, .int .i64 a2, .int .i64 a3, .int .i64 a4, .int .i64 a5, .int .i64 a6] 3)
    rw [z2] at this
    rw [hw3, hlb]; exact this
  have hwr : Wr b w3 [] false 0 := by
    have := Wr.new w1
    rw [z1] at this
    rw [← hw2, ← hb] at this
    exact this.old k3
  have HW3 : Hid (Wr b w3 ([] ++ txE (([kd, a1, a2, a3, a4, a5, a6].take 0).map (Fld.n 0 maxN))) (false || !okE (([kd, a1, a2, a3, a4, a5, a6].take 0).map (Fld.n 0 maxN))) 0) := Lib.hid (hwr.to rfl (fun _ => rfl) (Nat.le_refl _))
  have HVL := Lib.hid e2
  have HM : Hid (∀ W, KB b b w3 W → ∀ i v, VL[i]? = some v → W.cell? ⟨mb, i, none⟩ = some v) := Lib.hid (fun W hk i v hv => hk.box hm3 (by decide) (by omega) i v (by rw [List.getElem?_toArray]; exact hv))
  have HL : Hid (∀ W, KB b b w3 W → ∀ i v, (#[.int .i64 kd, .int .i64 a1, .int .i64 a2, .int .i64 a3, .int .i64 a4, .int .i64 a5, .int .i64 a6] : Array Value)[i]? = some v → W.cell? ⟨lb, i, none⟩ = some v) := Lib.hid (fun W hk i v hv => hk.box hl3 (by decide) (by omega) i v hv)
  have q1 := r1.b (b := b) (by omega) hb3
  have q2 := r2.b (b := b) (by omega) hb3
  have q3 := r3.b (b := b) (by omega) hb3
  have q4 := r4.b (b := b) (by omega) hb3
  have q5 := r5.b (b := b) (by omega) hb3
  have HR1 := Lib.hid (fun W (hk : KB b b w3 W) => q1.keep hk.l)
  have HR2 := Lib.hid (fun W (hk : KB b b w3 W) => q2.keep hk.l)
  have HR3 := Lib.hid (fun W (hk : KB b b w3 W) => q3.keep hk.l)
  have HR4 := Lib.hid (fun W (hk : KB b b w3 W) => q4.keep hk.l)
  have HR5 := Lib.hid (fun W (hk : KB b b w3 W) => q5.keep hk.l)
  have HSH := Lib.hid (And.intro s1 (And.intro s2 (And.intro s3 (And.intro s4 s5))))
  have HB3 := Lib.hid hb3
  have hml : mb < w3.heap.size := by omega
  have hll : lb < w3.heap.size := by omega
  have HX := Lib.hid (And.intro hmb (And.intro hb hlb))
  have HMB : Hid (w.heap.size ≤ b) := Lib.hid (by omega)
  have HRT := Lib.hid (And.intro hR (And.intro hTX e1))
  have hc : ∀ i v, VL[i]? = some v → w2.cell? ⟨mb, i, none⟩ = some v := fun i v hv => by
    have h1 : w2.heap[mb]? = some (.cells VL.toArray 35 (0, 0)) := by rw [k2.block mb (by omega), hw1, hmb]; exact heap_alloc_new w _
    unfold World.cell?
    simp only [h1]
    rw [List.getElem?_toArray]
    exact hv
  have c0 := hc 0 (.int .i64 kd) (by rw [e2]; rfl)
  have c1 := hc 1 (.int .i64 a1) (by rw [e2]; rfl)
  have c2 := hc 2 (.int .i64 a2) (by rw [e2]; rfl)
  have c3 := hc 3 (.int .i64 a3) (by rw [e2]; rfl)
  have c4 := hc 4 (.int .i64 a4) (by rw [e2]; rfl)
  have c5 := hc 5 (.int .i64 a5) (by rw [e2]; rfl)
  have c6 := hc 6 (.int .i64 a6) (by rw [e2]; rfl)
  have hm2 : mb < w2.heap.size := by omega
  have HSU : Hid ((Try.prog.info? 35).map (·.size) = some VL.length) := Lib.hid (by rw [hlen]; exact Try.sizeMsg)
  clear r1 r2 r3 r4 r5 s1 s2 s3 s4 s5 q1 q2 q3 q4 q5 k1 k2 k3 k13 hb3 hm3 hl3 hwr hc hmb hb hlb e1 e2 z1 z3 hR hTX hlen
  go_enter Try.func20, Try.ntmps20
  go_upto_region 2 with fail
  rw [← hw1, ← hw2, ← HX.out.2.1]
  rw [show (Value.pointer (some ⟨w.heap.size, 0, none⟩)) = .pointer (some ⟨mb, 0, none⟩) by rw [HX.out.1]]
  have hz : w2.heap.size = lb := by rw [z2, ← HX.out.2.2]
  clear hw1 hw2 z2
  have HZ := Lib.hid hz
  clear hz
  go_upto_region 3 with fail
  rw [← hw3, HZ.out]
  clear hw3 HZ c0 c1 c2 c3 c4 c5 c6 hm2
  go_wp2_with fail
  go_loopw [6] (fun i wr => ∃ k : Nat, i = .int .i64 k ∧ k ≤ 7 ∧ Hid (Wr b wr ([] ++ txE (([kd, a1, a2, a3, a4, a5, a6].take k).map (Fld.n 0 maxN))) (false || !okE (([kd, a1, a2, a3, a4, a5, a6].take k).map (Fld.n 0 maxN))) (300 * k)) ∧ Hid (KB b b w3 wr)) (fun i _ => 7 - (intOf i).toNat)
  case atStart => exact ⟨0, by first | rfl | go_num, by omega, HW3, Lib.hid (KB.refl _ _ _)⟩
  case round =>
  obtain ⟨k, rfl, hk, HWr, HKr⟩ := hrel
  by_cases hlt : k < 7
  case pos =>
    have hki : (k : Int) < 7 := by omega
    obtain ⟨x, hx⟩ : ∃ x : Int, [kd, a1, a2, a3, a4, a5, a6][k]? = some x := ⟨[kd, a1, a2, a3, a4, a5, a6][k], List.getElem?_eq_getElem hlt⟩
    have cx := HL.out wr HKr.out k (.int .i64 x) (by
      show ([kd, a1, a2, a3, a4, a5, a6].map (Value.int .i64)).toArray[k]? = _
      rw [List.getElem?_toArray, List.getElem?_map, hx]; rfl)
    have hll2 : lb < wr.heap.size := Nat.lt_of_lt_of_le hll HKr.out.size
    have HTK : Hid (([kd, a1, a2, a3, a4, a5, a6].take k).map (Fld.n 0 maxN) ++ [Fld.n 0 maxN x] = ([kd, a1, a2, a3, a4, a5, a6].take (k + 1)).map (Fld.n 0 maxN)) := Lib.hid (by rw [List.take_add_one, hx]; simp)
    clear hx
    go_wp2_with fail
    refine (wnumF b _ [] false (300 * k) _ x HWr.out (by omega)).mono ?_
    rintro e wn ⟨rfl, hk2, hw2⟩
    rw [HTK.out] at hw2
    have HWn := Lib.hid (hw2.to rfl (fun _ => rfl) (show 300 * k + 300 ≤ 300 * (k + 1) by omega))
    have HKn := Lib.hid (HKr.out.trans hk2)
    clear hk2 hw2 HWr HKr cx hll2 HTK
    go_wp2_with fail
    go_roundw
    case rel => exact ⟨k + 1, by go_num, by omega, HWn, HKn⟩
    case measure => simp [intOf]; omega
  case neg =>
  obtain rfl : k = 7 := by omega
  rename World => w4
  have HK4 := HKr
  have HW4 : Hid (Wr b w4 ([] ++ txE [.n 0 maxN kd, .n 0 maxN a1, .n 0 maxN a2, .n 0 maxN a3, .n 0 maxN a4, .n 0 maxN a5, .n 0 maxN a6]) (false || !okE [.n 0 maxN kd, .n 0 maxN a1, .n 0 maxN a2, .n 0 maxN a3, .n 0 maxN a4, .n 0 maxN a5, .n 0 maxN a6]) 3000) := Lib.hid (HWr.out.to rfl (fun _ => rfl) (by omega))
  have hki : ¬ ((7 : Nat) : Int) < 7 := by omega
  have m7 := HM.out w4 HK4.out 7 (.bool wh) (by rw [HVL.out]; rfl)
  have hm4 : mb < w4.heap.size := Nat.lt_of_lt_of_le hml HK4.out.size
  clear HWr HKr HL hll hk hlt
  go_wp2_with fail
  refine (wflagF b _ [] false 3000 _ wh HW4.out (by omega)).mono ?_
  rintro e w5 ⟨rfl, hk2, hw2⟩
  have HK5 := Lib.hid (HK4.out.trans hk2)
  have HW5 : Hid (Wr b w5 (txE [.n 0 maxN kd, .n 0 maxN a1, .n 0 maxN a2, .n 0 maxN a3, .n 0 maxN a4, .n 0 maxN a5, .n 0 maxN a6, .f wh]) (!okE [.n 0 maxN kd, .n 0 maxN a1, .n 0 maxN a2, .n 0 maxN a3, .n 0 maxN a4, .n 0 maxN a5, .n 0 maxN a6, .f wh]) 4000) := Lib.hid (hw2.to rfl (fun _ => rfl) (by omega))
  clear hk2 hw2 HW4 HK4 m7 hm4
  have HT := Lib.hid (wop b w5 _ _ _ ok oy ov od og ol oh om xa1 n1 xc1 OW HW5.out (by omega) (HR1.out w5 HK5.out) HSH.out.1)
  have m8 := HM.out w5 HK5.out 8 (.int .i64 ok) (by rw [HVL.out]; rfl)
  have m9 := HM.out w5 HK5.out 9 (.string oy) (by rw [HVL.out]; rfl)
  have m10 := HM.out w5 HK5.out 10 (.string ov) (by rw [HVL.out]; rfl)
  have m11 := HM.out w5 HK5.out 11 (.string od) (by rw [HVL.out]; rfl)
  have m12 := HM.out w5 HK5.out 12 (.bool og) (by rw [HVL.out]; rfl)
  have m13 := HM.out w5 HK5.out 13 (.slice xa1 n1 xc1) (by rw [HVL.out]; rfl)
  have m14 := HM.out w5 HK5.out 14 (.string ol) (by rw [HVL.out]; rfl)
  have m15 := HM.out w5 HK5.out 15 (.string oh) (by rw [HVL.out]; rfl)
  have m16 := HM.out w5 HK5.out 16 (.int .i64 om) (by rw [HVL.out]; rfl)
  have hm5 : mb < w5.heap.size := Nat.lt_of_lt_of_le hml HK5.out.size
  go_wp2_with fail
  refine HT.out.mono ?_
  rintro e w6 ⟨rfl, hk2, hw2⟩
  have HK6 := Lib.hid (HK5.out.trans hk2)
  have HW6 := Lib.hid hw2
  clear hk2 hw2 HT HW5 HK5 m8 m9 m10 m11 m12 m13 m14 m15 m16 hm5
  have HT := Lib.hid (wrep b w6 _ _ _ er rv rg ru xa2 n2 xc2 RP HW6.out (by omega) (HR2.out w6 HK6.out) HSH.out.2.1)
  have m17 := HM.out w6 HK6.out 17 (.int .i64 er) (by rw [HVL.out]; rfl)
  have m18 := HM.out w6 HK6.out 18 (.string rv) (by rw [HVL.out]; rfl)
  have m19 := HM.out w6 HK6.out 19 (.bool rg) (by rw [HVL.out]; rfl)
  have m20 := HM.out w6 HK6.out 20 (.slice xa2 n2 xc2) (by rw [HVL.out]; rfl)
  have m21 := HM.out w6 HK6.out 21 (.string ru) (by rw [HVL.out]; rfl)
  have hm6 : mb < w6.heap.size := Nat.lt_of_lt_of_le hml HK6.out.size
  go_wp2_with fail
  refine HT.out.mono ?_
  rintro e w7 ⟨rfl, hk2, hw2⟩
  have HK7 := Lib.hid (HK6.out.trans hk2)
  have HW7 := Lib.hid hw2
  clear hk2 hw2 HT HW6 HK6 m17 m18 m19 m20 m21 hm6
  have HT := Lib.hid (wlists b w7 _ _ _ VL xa3 n3 xc3 xa4 n4 xc4 xa5 n5 xc5 MP EN SE HW7.out (by omega) (by rw [HVL.out]; rfl) (by rw [HVL.out]; rfl) (by rw [HVL.out]; rfl) (HR3.out w7 HK7.out) HSH.out.2.2.1 (HR4.out w7 HK7.out) HSH.out.2.2.2.1 (HR5.out w7 HK7.out) HSH.out.2.2.2.2)
  have HRG : Hid (w7.rangeAt mb 0 VL) := Lib.hid (fun j v hj => by rw [Nat.zero_add]; exact HM.out w7 HK7.out j v hj)
  go_wp2_with (refine wpList_load_mid rfl 35 (.tmp 1) rfl mb 0 rfl VL _ HRG.out Try.underlying35 rfl HSU.out ?_)
  refine HT.out.mono ?_
  rintro e w8 ⟨rfl, hk2, hw2⟩
  have HK8 := Lib.hid (HK7.out.trans hk2)
  obtain ⟨sv, l, hwr, hlo, hlK⟩ := hw2
  obtain ⟨q, hq⟩ : ∃ q, q = (!okE [.n 0 maxN kd, .n 0 maxN a1, .n 0 maxN a2, .n 0 maxN a3, .n 0 maxN a4, .n 0 maxN a5, .n 0 maxN a6, .f wh] || !okSg 64 [.n 0 maxN ok, .t oy, .t ov, .t od, .f og] OW [.t ol, .t oh, .n 0 maxN om] || !okSg 512 [.n 0 maxN er, .t rv, .f rg] RP [.t ru] || !(okLs 64 MP && (okLs 512 EN && (okLs 8 SE && bareL SE)))) := ⟨_, rfl⟩
  rw [← hq] at hwr hlo
  have HRQ : Hid (R = (!q && (decide (1 ≤ kd) && decide (kd ≤ 15)))) := Lib.hid (by
    rw [fin_ok kd (okE [.n 0 maxN a1, .n 0 maxN a2, .n 0 maxN a3, .n 0 maxN a4, .n 0 maxN a5, .n 0 maxN a6, .f wh] && (okSg 64 [.n 0 maxN ok, .t oy, .t ov, .t od, .f og] OW [.t ol, .t oh, .n 0 maxN om] && (okSg 512 [.n 0 maxN er, .t rv, .f rg] RP [.t ru] && (okLs 64 MP && (okLs 512 EN && (okLs 8 SE && bareL SE)))))) q (by
      rw [hq, show okE [.n 0 maxN kd, .n 0 maxN a1, .n 0 maxN a2, .n 0 maxN a3, .n 0 maxN a4, .n 0 maxN a5, .n 0 maxN a6, .f wh] = (okN kd && okE [.n 0 maxN a1, .n 0 maxN a2, .n 0 maxN a3, .n 0 maxN a4, .n 0 maxN a5, .n 0 maxN a6, .f wh]) from rfl]
      generalize okN kd = x1
      generalize okE [.n 0 maxN a1, .n 0 maxN a2, .n 0 maxN a3, .n 0 maxN a4, .n 0 maxN a5, .n 0 maxN a6, .f wh] = x2
      generalize okSg 64 [.n 0 maxN ok, .t oy, .t ov, .t od, .f og] OW [.t ol, .t oh, .n 0 maxN om] = x3
      generalize okSg 512 [.n 0 maxN er, .t rv, .f rg] RP [.t ru] = x4
      generalize (okLs 64 MP && (okLs 512 EN && (okLs 8 SE && bareL SE))) = x5
      cases x1 <;> cases x2 <;> cases x3 <;> cases x4 <;> cases x5 <;> rfl)]
    rw [HRT.out.1, HRT.out.2.2]
    unfold okM
    simp only
    rw [show okE [.n 1 15 kd, .n 0 maxN a1, .n 0 maxN a2, .n 0 maxN a3, .n 0 maxN a4, .n 0 maxN a5, .n 0 maxN a6, .f wh] = (decide (1 ≤ kd ∧ kd ≤ 15) && okE [.n 0 maxN a1, .n 0 maxN a2, .n 0 maxN a3, .n 0 maxN a4, .n 0 maxN a5, .n 0 maxN a6, .f wh]) from rfl]
    simp only [Bool.and_assoc])
  have HTXQ : Hid (q = false → l = TX) := Lib.hid (fun c => by
    rw [hlo c, HRT.out.2.1, HRT.out.2.2]
    unfold txM
    simp only
    rw [show txE [.n 1 15 kd, .n 0 maxN a1, .n 0 maxN a2, .n 0 maxN a3, .n 0 maxN a4, .n 0 maxN a5, .n 0 maxN a6, .f wh] = txE [.n 0 maxN kd, .n 0 maxN a1, .n 0 maxN a2, .n 0 maxN a3, .n 0 maxN a4, .n 0 maxN a5, .n 0 maxN a6, .f wh] from rfl]
    simp only [List.append_assoc])
  obtain ⟨d0, d1, g0, g1⟩ := hwr.facts
  have hbl := hwr.lt
  have HOW := Lib.hid hwr.own
  obtain ⟨sa, sn, sc, rfl⟩ := hwr.form
  have HCV : Hid (∀ W, Below w8.heap.size w8 W → (convert 46 9 (.slice sa sn sc)).run Try.prog W = .ok (.string ⟨l.toArray⟩) W) := Lib.hid (fun W hW => run_str_own W 46 9 5 Try.underlying46 Try.underlying5 Try.underlying9 (b + 1) 5 l.length _ l rfl (below_own HOW.out hW))
  have m0 := HM.out w8 HK8.out 0 (.int .i64 kd) (by rw [HVL.out]; rfl)
  have hm8 : mb < w8.heap.size := Nat.lt_of_lt_of_le hml HK8.out.size
  have HBF : Hid (Below w.heap.size w w8) := Lib.hid (HB3.out.trans (HK8.out.l.mono HMB.out))
  have HXZ : Hid ((⟨l.toArray⟩ : ByteArray).size ≤ 100000000) := Lib.hid (by rw [mk_size]; omega)
  clear hwr hlo hlK hk2 hq HT HW7 HK7 HRG HRT HR1 HR2 HR3 HR4 HR5 HSH HVL HM HB3 HX HMB HSU HK8 hml
  cases q with
  | true =>
    have HR0 : Hid (R = false) := HRQ
    go_wp2_with fail
    refine wp_region_below (by kernel_rfl) (by kernel_rfl) ?_
    repeat (first
      | go_big_quiet_skip
      | (go_big_quiet_want
         first
         | (refine BigFrame.quiet_move _ rfl ?_)
         | (refine BigFrame.quiet_assign _ rfl ?_)
         | (unfold Oper.quiet
            apply Exists.intro
            refine ⟨fun w' hw' => ?_, ?_⟩
            · (obtain ⟨hc', hf'⟩ := bcell hw'
               go_simp
               first
               | done
               | exact rfl
               | (rw [HCV.out _ hw']; first | done | exact rfl | (go_simp; first | done | exact rfl))))
         go_big_quiet_on
         simp only [Act.put, Act.eval, List.setIfInBounds_toArray, List.set_cons_zero, List.set_cons_succ, Array.getD_eq_getD_getElem?, List.getElem?_toArray, List.getElem?_cons_zero, List.getElem?_cons_succ, Option.getD_some]))
    refine wpQuiet_nil ?_
    intro w' hw'
    go_wp2_with fail
    go_ret2
    exact ⟨⟨⟨l.toArray⟩, by rw [HR0.out]; rfl, HXZ.out, fun c => by rw [HR0.out] at c; cases c⟩, HBF.out.trans (hw'.mono HBF.out.size)⟩
  | false =>
    have HLT : Hid (l = TX) := Lib.hid (HTXQ.out rfl)
    clear HTXQ
    by_cases h1 : 1 ≤ kd
    case neg =>
      have h1b : decide (1 ≤ kd) = false := decide_eq_false h1
      have HR0 : Hid (R = false) := Lib.hid (by rw [HRQ.out, h1b]; rfl)
      go_wp2_with fail
      refine wp_region_below (by kernel_rfl) (by kernel_rfl) ?_
      repeat (first
        | go_big_quiet_skip
        | (go_big_quiet_want
           first
           | (refine BigFrame.quiet_move _ rfl ?_)
           | (refine BigFrame.quiet_assign _ rfl ?_)
           | (unfold Oper.quiet
              apply Exists.intro
              refine ⟨fun w' hw' => ?_, ?_⟩
              · (obtain ⟨hc', hf'⟩ := bcell hw'
                 go_simp
                 first
                 | done
                 | exact rfl
                 | (rw [HCV.out _ hw']; first | done | exact rfl | (go_simp; first | done | exact rfl))))
           go_big_quiet_on
           simp only [Act.put, Act.eval, List.setIfInBounds_toArray, List.set_cons_zero, List.set_cons_succ, Array.getD_eq_getD_getElem?, List.getElem?_toArray, List.getElem?_cons_zero, List.getElem?_cons_succ, Option.getD_some]))
      refine wpQuiet_nil ?_
      intro w' hw'
      go_wp2_with fail
      go_ret2
      exact ⟨⟨⟨l.toArray⟩, by rw [HR0.out]; rfl, HXZ.out, fun c => by rw [HR0.out] at c; cases c⟩, HBF.out.trans (hw'.mono HBF.out.size)⟩
    have h1b : decide (1 ≤ kd) = true := decide_eq_true h1
    by_cases h2 : kd ≤ 15
    case neg =>
      have h2b : decide (kd ≤ 15) = false := decide_eq_false h2
      have HR0 : Hid (R = false) := Lib.hid (by rw [HRQ.out, h1b, h2b]; rfl)
      go_wp2_with fail
      refine wp_region_below (by kernel_rfl) (by kernel_rfl) ?_
      repeat (first
        | go_big_quiet_skip
        | (go_big_quiet_want
           first
           | (refine BigFrame.quiet_move _ rfl ?_)
           | (refine BigFrame.quiet_assign _ rfl ?_)
           | (unfold Oper.quiet
              apply Exists.intro
              refine ⟨fun w' hw' => ?_, ?_⟩
              · (obtain ⟨hc', hf'⟩ := bcell hw'
                 go_simp
                 first
                 | done
                 | exact rfl
                 | (rw [HCV.out _ hw']; first | done | exact rfl | (go_simp; first | done | exact rfl))))
           go_big_quiet_on
           simp only [Act.put, Act.eval, List.setIfInBounds_toArray, List.set_cons_zero, List.set_cons_succ, Array.getD_eq_getD_getElem?, List.getElem?_toArray, List.getElem?_cons_zero, List.getElem?_cons_succ, Option.getD_some]))
      refine wpQuiet_nil ?_
      intro w' hw'
      go_wp2_with fail
      go_ret2
      exact ⟨⟨⟨l.toArray⟩, by rw [HR0.out]; rfl, HXZ.out, fun c => by rw [HR0.out] at c; cases c⟩, HBF.out.trans (hw'.mono HBF.out.size)⟩
    have h2b : decide (kd ≤ 15) = true := decide_eq_true h2
    have HR0 : Hid (R = true) := Lib.hid (by rw [HRQ.out, h1b, h2b]; rfl)
    go_wp2_with fail
    refine wp_region_below (by kernel_rfl) (by kernel_rfl) ?_
    repeat (first
      | go_big_quiet_skip
      | (go_big_quiet_want
         first
         | (refine BigFrame.quiet_move _ rfl ?_)
         | (refine BigFrame.quiet_assign _ rfl ?_)
         | (unfold Oper.quiet
            apply Exists.intro
            refine ⟨fun w' hw' => ?_, ?_⟩
            · (obtain ⟨hc', hf'⟩ := bcell hw'
               go_simp
               first
               | done
               | exact rfl
               | (rw [HCV.out _ hw']; first | done | exact rfl | (go_simp; first | done | exact rfl))))
         go_big_quiet_on
         simp only [Act.put, Act.eval, List.setIfInBounds_toArray, List.set_cons_zero, List.set_cons_succ, Array.getD_eq_getD_getElem?, List.getElem?_toArray, List.getElem?_cons_zero, List.getElem?_cons_succ, Option.getD_some]))
    refine wpQuiet_nil ?_
    intro w' hw'
    go_wp2_with fail
    go_ret2
    exact ⟨⟨⟨l.toArray⟩, by rw [HR0.out]; rfl, HXZ.out, fun c => by rw [HLT.out]⟩, HBF.out.trans (hw'.mono HBF.out.size)⟩

end Go.Proofs.Ytdnhmkfgcpdbkaa
