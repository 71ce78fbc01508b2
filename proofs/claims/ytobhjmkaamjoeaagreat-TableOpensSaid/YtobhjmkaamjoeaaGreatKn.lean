/-
  Layer 9 (block), the contract of the closure that reads the next entry off bytes. Conditions: at most 2^24 bytes are left.
-/
import Derived.Test.YtobhjmkaamjoeaaGreatKt
namespace Go.Proofs.YtobhjmkaamjoeaaGreat
set_option maxRecDepth 100000
open Go.RowKit
set_option linter.unusedVariables false
set_option linter.unusedSimpArgs false

/-- The boxes in which the two closures lie. -/
def FS (F1 F2 S R : Nat) (w : World) : Prop :=
  w.cell? ⟨F1, 0, none⟩ = some (.func (.func 108) #[] #[.pointer (some ⟨S, 0, none⟩), .pointer (some ⟨R, 0, none⟩)]) ∧
  w.cell? ⟨F2, 0, none⟩ = some (.func (.func 109) #[] #[.pointer (some ⟨S, 0, none⟩), .pointer (some ⟨R, 0, none⟩)]) ∧ F1 < w.heap.size ∧ F2 < w.heap.size
theorem FS.keep {F1 F2 S R : Nat} {w w' : World} {X : Nat → Prop} (h : FS F1 F2 S R w) (hk : KeepX X w w') (h1 : ¬ X F1) (h2 : ¬ X F2) : FS F1 F2 S R w' :=
  ⟨(hk.cell h.2.2.1 h1 0).1.trans h.1, (hk.cell h.2.2.2 h2 0).1.trans h.2.1, Nat.lt_of_lt_of_le h.2.2.1 hk.2, Nat.lt_of_lt_of_le h.2.2.2 hk.2⟩
theorem EBox.keep {w w' : World} {x : Nat} {k v : ByteArray} {g : Bool} {q : Int} {X : Nat → Prop} (h : EBox w x k v g q) (hk : KeepX X w w') (hx : ¬ X x) : EBox w' x k v g q :=
  ⟨(hk.cell h.2.2.2.2 hx 0).1.trans h.1, (hk.cell h.2.2.2.2 hx 1).1.trans h.2.1, (hk.cell h.2.2.2.2 hx 2).1.trans h.2.2.1, (hk.cell h.2.2.2.2 hx 3).1.trans h.2.2.2.1, Nat.lt_of_lt_of_le h.2.2.2.2 hk.2⟩
theorem EFree.keep {w w' : World} {x : Nat} {X : Nat → Prop} (h : EFree w x) (hl : x < w.heap.size) (hk : KeepX X w w') (hx : ¬ X x) : EFree w' x :=
  ⟨(hk.cell hl hx 0).2.trans h.1, (hk.cell hl hx 1).2.trans h.2.1, (hk.cell hl hx 2).2.trans h.2.2.1, (hk.cell hl hx 3).2.trans h.2.2.2⟩
theorem ext_drop (s : ByteArray) (a : Nat) (h : a ≤ s.size) : (s.extract a s.size).data.toList = s.data.toList.drop a ∧ (s.extract a s.size).size = s.size - a :=
  ⟨rest_bytes s a, by rw [ByteArray.size_extract]; omega⟩
theorem ext_ext (s : ByteArray) (a b : Nat) (h : a ≤ s.size) (hb : a + b ≤ s.size) : (s.extract a s.size).extract b (s.extract a s.size).size = s.extract (a + b) s.size := by
  apply ByteArray.ext
  apply Array.toList_inj.1
  rw [rest_bytes, rest_bytes, rest_bytes, List.drop_drop]
theorem size_le {B : Nat} {w w' : World} (h : Below B w w') : w.heap.size ≤ w'.heap.size := h.size
theorem EBlk.keepX {w w' : World} {x : Nat} {k v : ByteArray} {g : Bool} {q : Int} {X : Nat → Prop} (h : EBlk w x k v g q) (hk : KeepX X w w') (hx : ¬ X x) : EBlk w' x k v g q := (hk.1 x (heap_lt h) hx).trans h
theorem EBlk.keep' {w w' : World} {x : Nat} {k v : ByteArray} {g : Bool} {q : Int} (h : EBlk w x k v g q) (hb : Below w.heap.size w w') : EBlk w' x k v g q := (hb.block x (heap_lt h)).trans h
theorem EBlk.setv {w : World} {x : Nat} {k v : ByteArray} {g : Bool} {q : Int} (h : EBlk w x k v g q) (v' : ByteArray) : EBlk (w.setCell ⟨x, 1, none⟩ (.string v')) x k v' g q := by
  unfold EBlk at *
  simp [World.setCell, Array.getElem?_modify, h]
/-- What is written into a block that was not there changes nothing that was. -/
theorem keep_new {X : Nat → Prop} {w w' : World} {x i : Nat} (h : KeepX X w w') (hx : w.heap.size ≤ x) (v : Value) : KeepX X w (w'.setCell ⟨x, i, none⟩ v) :=
  ⟨fun y hy hn => by rw [Below.heap_setCell _ _ _ _ (by show y ≠ x; omega)]; exact h.1 y hy hn, by simpa using h.2⟩
/-- What stands behind the last two statements. -/
theorem next_end {B S R : Nat} {w w4 : World} {sx : ByteArray} {r4 : Bool} (hn : NS S R w4 sx r4) (hne : S ≠ R) (hS : S < w.heap.size) (hR : R < w.heap.size) (hBR : B ≤ R) (hB : B ≤ w.heap.size) (hk : KeepX (SR S R) w w4) (hb : Below B w w4) (rr : Bool) (c0 c1 c2 c3 : Value) :
    NS S R (((((w4.setCell ⟨R, 0, none⟩ (.bool rr)).setCell ⟨w.heap.size, 0, none⟩ c0).setCell ⟨w.heap.size, 1, none⟩ c1).setCell ⟨w.heap.size, 2, none⟩ c2).setCell ⟨w.heap.size, 3, none⟩ c3) sx rr ∧
    KeepX (SR S R) w (((((w4.setCell ⟨R, 0, none⟩ (.bool rr)).setCell ⟨w.heap.size, 0, none⟩ c0).setCell ⟨w.heap.size, 1, none⟩ c1).setCell ⟨w.heap.size, 2, none⟩ c2).setCell ⟨w.heap.size, 3, none⟩ c3) ∧
    Below B w (((((w4.setCell ⟨R, 0, none⟩ (.bool rr)).setCell ⟨w.heap.size, 0, none⟩ c0).setCell ⟨w.heap.size, 1, none⟩ c1).setCell ⟨w.heap.size, 2, none⟩ c2).setCell ⟨w.heap.size, 3, none⟩ c3) := by
  have h1 := hn.right hne rr
  obtain ⟨W, hW⟩ : ∃ W, W = w4.setCell ⟨R, 0, none⟩ (.bool rr) := ⟨_, rfl⟩
  rw [← hW] at h1 ⊢
  have k1 : KeepX (SR S R) w W := by rw [hW]; exact hk.set (Or.inr rfl) _
  have b1 : Below B w W := by rw [hW]; exact hb.setCell (p := ⟨R, 0, none⟩) hBR _
  have k2 : KeepX (fun y => y = w.heap.size) W ((((W.setCell ⟨w.heap.size, 0, none⟩ c0).setCell ⟨w.heap.size, 1, none⟩ c1).setCell ⟨w.heap.size, 2, none⟩ c2).setCell ⟨w.heap.size, 3, none⟩ c3) :=
    ((((KeepX.refl (fun y => y = w.heap.size) W).set (p := ⟨w.heap.size, 0, none⟩) (show w.heap.size = w.heap.size from rfl) _).set (p := ⟨w.heap.size, 1, none⟩) (show w.heap.size = w.heap.size from rfl) _).set (p := ⟨w.heap.size, 2, none⟩) (show w.heap.size = w.heap.size from rfl) _).set (p := ⟨w.heap.size, 3, none⟩) (show w.heap.size = w.heap.size from rfl) _
  refine ⟨h1.keep k2 (by omega) (by omega), ?_, below_put b1 hB c0 c1 c2 c3⟩
  exact ⟨fun y hy hx => (k2.1 y (Nat.lt_of_lt_of_le hy k1.2) (by omega)).trans (k1.1 y hy hx), Nat.le_trans k1.2 k2.2⟩
set_option maxRecDepth 100000 in
set_option maxHeartbeats 8000000 in
theorem next_any (B S R F1 F2 A : Nat) (hSR : S ≠ R) (hSF1 : S ≠ F1) (hSF2 : S ≠ F2) (hSA : S ≠ A) (hRF1 : R ≠ F1) (hRF2 : R ≠ F2) (hRA : R ≠ A) (hBS : B ≤ S) (hBR : B ≤ R) (w : World) (hBw : B ≤ w.heap.size)
    (s : ByteArray) (hs : s.size ≤ 16777216) (r : Bool) (h : NS S R w s r) (hf : FS F1 F2 S R w) (lk lv : ByteArray) (lg : Bool) (lq : Int) (ha : EBox w A lk lv lg lq) (hlk : lk.size ≤ 4096)
    (n a x : Nat) (h1 : tk s.data.toList 0 0 = (n, a, x)) (t : List UInt8) (b y : Nat) (h2 : ttR (s.data.toList.drop a) = (t, b, y)) (q c z : Nat) (h3 : tk (s.data.toList.drop (a + b)) 0 0 = (q, c, z))
    (v : List UInt8) (d u : Nat) (h4 : ttR (s.data.toList.drop (a + b + c)) = (v, d, u)) (key : List UInt8) (hkey : key = lk.data.toList.take n ++ t) :
    Calls Tryz.prog 110 #[.pointer (some ⟨F1, 0, none⟩), .pointer (some ⟨F2, 0, none⟩), .pointer (some ⟨A, 0, none⟩), .pointer (some ⟨R, 0, none⟩)] w fun e w' =>
      e = .returned (.agg #[.string ⟨key.toArray⟩, .string (if q % 2 = 1 then ⟨#[]⟩ else ⟨v.toArray⟩), .bool (decide (q % 2 = 1)), .int .i64 ((q / 2 : Nat) : Int)]) ∧
      NS S R w' (s.extract (a + b + c + if q % 2 = 1 then 0 else d) s.size) (r && decide (x = 0) && decide (y = 0) && decide (z = 0) && (decide (q % 2 = 1) || decide (u = 0)) && decide (comN lk.data.toList key = n)) ∧
      KeepX (SR S R) w w' ∧ Below B w w' := by
  have l1 := (tk_le h1).1
  rw [size_list] at l1
  have l2 := (ttR_le h2)
  rw [List.length_drop, size_list] at l2
  have l3 := (tk_le h3)
  rw [List.length_drop, size_list] at l3
  have l4 := (ttR_le h4)
  rw [List.length_drop, size_list] at l4
  have e1 := ext_drop s a l1
  have e2 := ext_ext s a b l1 (by omega)
  have e3 := ext_ext s (a + b) c (by omega) (by omega)
  have e4 := ext_ext s (a + b + c) d (by omega) (by omega)
  have d2 := ext_drop s (a + b) (by omega)
  have d3 := ext_drop s (a + b + c) (by omega)
  obtain ⟨s1, hs1⟩ : ∃ s1, s1 = s.extract a s.size := ⟨_, rfl⟩
  obtain ⟨s2, hs2⟩ : ∃ s2, s2 = s.extract (a + b) s.size := ⟨_, rfl⟩
  obtain ⟨s3, hs3⟩ : ∃ s3, s3 = s.extract (a + b + c) s.size := ⟨_, rfl⟩
  rw [← hs1] at e1 e2
  rw [← hs2] at e2 e3 d2
  rw [← hs3] at e3 e4 d3
  have HN1 : Hid (∀ (w : World) (r : Bool), B ≤ w.heap.size → NS S R w s r → Calls Tryz.prog 108 #[.pointer (some ⟨S, 0, none⟩), .pointer (some ⟨R, 0, none⟩)] w fun e w' =>
      e = .returned (.int .i64 (n : Nat)) ∧ NS S R w' s1 (r && decide (x = 0)) ∧ KeepX (SR S R) w w' ∧ Below B w w') := Lib.hid fun w r hB h => by
    have := rnum1_any B S R hSR hBS hBR w hB s hs r h n a x h1
    rwa [← hs1] at this
  have HN2 : Hid (∀ (w : World) (r : Bool), B ≤ w.heap.size → NS S R w s1 r → Calls Tryz.prog 109 #[.pointer (some ⟨S, 0, none⟩), .pointer (some ⟨R, 0, none⟩)] w fun e w' =>
      e = .returned (.string ⟨t.toArray⟩) ∧ NS S R w' s2 (r && decide (y = 0)) ∧ KeepX (SR S R) w w' ∧ Below B w w') := Lib.hid fun w r hB h => by
    have := rtext1_any B S R hSR hBS hBR w hB s1 (by omega) r h t b y (by rw [e1.1]; exact h2)
    rwa [e2] at this
  have HN3 : Hid (∀ (w : World) (r : Bool), B ≤ w.heap.size → NS S R w s2 r → Calls Tryz.prog 108 #[.pointer (some ⟨S, 0, none⟩), .pointer (some ⟨R, 0, none⟩)] w fun e w' =>
      e = .returned (.int .i64 (q : Nat)) ∧ NS S R w' s3 (r && decide (z = 0)) ∧ KeepX (SR S R) w w' ∧ Below B w w') := Lib.hid fun w r hB h => by
    have := rnum1_any B S R hSR hBS hBR w hB s2 (by omega) r h q c z (by rw [d2.1]; exact h3)
    rwa [e3] at this
  have HN4 : Hid (∀ (w : World) (r : Bool), B ≤ w.heap.size → NS S R w s3 r → Calls Tryz.prog 109 #[.pointer (some ⟨S, 0, none⟩), .pointer (some ⟨R, 0, none⟩)] w fun e w' =>
      e = .returned (.string ⟨v.toArray⟩) ∧ NS S R w' (s.extract (a + b + c + d) s.size) (r && decide (u = 0)) ∧ KeepX (SR S R) w w' ∧ Below B w w') := Lib.hid fun w r hB h => by
    have := rtext1_any B S R hSR hBS hBR w hB s3 (by omega) r h v d u (by rw [d3.1]; exact h4)
    rwa [e4] at this
  have HS3 := Lib.hid hs3
  have hq : q ≤ 4611686018427387904 := l3.2
  have hn : n ≤ 4611686018427387904 := (tk_le h1).2
  have htl : t.length ≤ 16777216 := by omega
  clear h1 h2 h3 h4 l1 l2 l3 l4 e1 e2 e3 e4 d2 d3 hs1 hs2 hs3
  obtain ⟨r1, hr1⟩ : ∃ r1, (r && decide (x = 0)) = r1 := ⟨_, rfl⟩
  obtain ⟨r2, hr2⟩ : ∃ r2, (r1 && decide (y = 0)) = r2 := ⟨_, rfl⟩
  obtain ⟨r3, hr3⟩ : ∃ r3, (r2 && decide (z = 0)) = r3 := ⟨_, rfl⟩
  rw [hr1, hr2, hr3]
  generalize hRR : (r3 && (decide (q % 2 = 1) || decide (u = 0)) && decide (comN lk.data.toList key = n)) = RR
  generalize hvv : (if q % 2 = 1 then (⟨#[]⟩ : ByteArray) else ⟨v.toArray⟩) = vv
  generalize hgg : decide (q % 2 = 1) = gg
  generalize hsx : s.extract (a + b + c + if q % 2 = 1 then 0 else d) s.size = sx
  have H := Lib.hid h
  have HF := Lib.hid hf
  have HA := Lib.hid ha
  have HX : Hid (¬ SR S R F1 ∧ ¬ SR S R F2 ∧ ¬ SR S R A) := Lib.hid ⟨by unfold SR; omega, by unfold SR; omega, by unfold SR; omega⟩
  clear h hf ha
  go_enter Tryz.func110, Tryz.ntmps110
  go_wp2
  have hal : Hid (KeepX (SR S R) w (w.alloc (.cells #[.string ⟨#[]⟩, .string ⟨#[]⟩, .bool false, .int .i64 0] 41)) ∧ Below B w (w.alloc (.cells #[.string ⟨#[]⟩, .string ⟨#[]⟩, .bool false, .int .i64 0] 41))) :=
    Lib.hid ⟨KeepX.of ((Below.refl _ _).alloc (Nat.le_refl _) _), (Below.refl _ _).alloc hBw _⟩
  have HX0 := Lib.hid (EBlk.new w ⟨#[]⟩ ⟨#[]⟩ false 0)
  obtain ⟨w0, hw0⟩ : ∃ w0, w0 = w.alloc (.cells #[.string ⟨#[]⟩, .string ⟨#[]⟩, .bool false, .int .i64 0] 41) := ⟨_, rfl⟩
  rw [← hw0] at hal HX0 ⊢
  have hsz0 : w0.heap.size = w.heap.size + 1 := by rw [hw0]; simp
  have H0 : Hid (NS S R w0 s r) := Lib.hid (by rw [hw0]; exact H.out.old ((Below.refl _ _).alloc (Nat.le_refl _) _))
  have HSZ := Lib.hid hsz0
  clear hw0 hsz0
  obtain ⟨f1, f2, f3, f4⟩ := (HF.out.keep hal.out.1 HX.out.1 HX.out.2.1)
  refine mixed_region (D := (fun w' => w'.cell? ⟨F1, 0, none⟩ = some (.func (.func 108) #[] #[.pointer (some ⟨S, 0, none⟩), .pointer (some ⟨R, 0, none⟩)]) ∧ w'.cell? ⟨F2, 0, none⟩ = some (.func (.func 109) #[] #[.pointer (some ⟨S, 0, none⟩), .pointer (some ⟨R, 0, none⟩)]))) [0, 2, 4] [1, 3, 5, 6, 7, 8] 8 (by kernel_rfl) (by kernel_rfl) (by decide) (⟨f1, f2⟩) ?_
  simp only [List.filterMap_cons, List.filterMap_nil, List.getElem?_cons_zero, List.getElem?_cons_succ]
  repeat (
    (first
     | (refine calm_move _ rfl ?_)
     | (apply calm_cons
        · (intro w' hw'
           first | (obtain ⟨hwa', hwb', hwc'⟩ := hw') | (obtain ⟨hwa', hwb'⟩ := hw') | skip
           go_simp
           first
           | done
           | exact rfl)))
    simp only [Act.put, Act.eval, List.setIfInBounds_toArray, List.set_cons_zero, List.set_cons_succ, Array.getD_eq_getD_getElem?, List.getElem?_toArray, List.getElem?_cons_zero, List.getElem?_cons_succ, Option.getD_some])
  refine calm_nil ?_
  have HF0 : Hid (FS F1 F2 S R w0) := Lib.hid ⟨f1, f2, f3, f4⟩
  have KW : Hid (KeepX (SR S R) w0 w0.drew ∧ Below B w w0.drew) := Lib.hid ⟨KeepX.refl _ w0, hal.out.2.drew⟩
  have HS0 : Hid (NS S R w0.drew s r) := H0
  have hb0 : B ≤ w0.drew.heap.size := by show B ≤ w0.heap.size; have := HSZ.out; omega
  clear f1 f2 f3 f4
  refine loud_cons fun K hK => ?_
  go_wp2_with fail
  refine (HN1.out _ r hb0 HS0.out).mono ?_
  rintro e w1 ⟨rfl, n1, k1, b1⟩
  have KW1 : Hid (KeepX (SR S R) w0 w1 ∧ Below B w w1) := Lib.hid ⟨KW.out.1.trans k1, KW.out.2.trans b1⟩
  have HS1 := Lib.hid n1
  have hb1 : B ≤ w1.heap.size := Nat.le_trans hb0 k1.2
  clear n1 k1 b1 KW HS0
  rw [hr1] at HS1
  go_wp2
  refine hK _ _ (fun _ => ⟨(HF0.out.keep KW1.out.1 HX.out.1 HX.out.2.1).1, (HF0.out.keep KW1.out.1 HX.out.1 HX.out.2.1).2.1⟩) ?_
  clear hK K
  refine loud_cons fun K hK => ?_
  go_wp2_with fail
  refine (HN2.out _ r1 hb1 HS1.out).mono ?_
  rintro e w2 ⟨rfl, n2, k2, b2⟩
  have KW2 : Hid (KeepX (SR S R) w0 w2 ∧ Below B w w2) := Lib.hid ⟨KW1.out.1.trans k2, KW1.out.2.trans b2⟩
  have HS2 := Lib.hid n2
  have hb2 : B ≤ w2.heap.size := Nat.le_trans hb1 k2.2
  clear n2 k2 b2 KW1 HS1
  rw [hr2] at HS2
  go_wp2
  refine hK _ _ (fun _ => ⟨(HF0.out.keep KW2.out.1 HX.out.1 HX.out.2.1).1, (HF0.out.keep KW2.out.1 HX.out.1 HX.out.2.1).2.1⟩) ?_
  clear hK K
  refine loud_cons fun K hK => ?_
  go_wp2_with fail
  refine (HN3.out _ r2 hb2 HS2.out).mono ?_
  rintro e w3 ⟨rfl, n3, k3, b3⟩
  have KW3 : Hid (KeepX (SR S R) w0 w3 ∧ Below B w w3) := Lib.hid ⟨KW2.out.1.trans k3, KW2.out.2.trans b3⟩
  have HS3' := Lib.hid n3
  have hb3 : B ≤ w3.heap.size := Nat.le_trans hb2 k3.2
  clear n3 k3 b3 KW2 HS2
  rw [hr3] at HS3'
  go_wp2
  refine hK _ _ (fun _ => ⟨(HF0.out.keep KW3.out.1 HX.out.1 HX.out.2.1).1, (HF0.out.keep KW3.out.1 HX.out.1 HX.out.2.1).2.1⟩) ?_
  clear hK K
  refine loud_cons fun K hK => ?_
  go_wp2
  refine hK _ _ (fun _ => ⟨(HF0.out.keep KW3.out.1 HX.out.1 HX.out.2.1).1, (HF0.out.keep KW3.out.1 HX.out.1 HX.out.2.1).2.1⟩) ?_
  clear hK K
  refine loud_cons fun K hK => ?_
  go_wp2
  refine hK _ _ (fun _ => ⟨(HF0.out.keep KW3.out.1 HX.out.1 HX.out.2.1).1, (HF0.out.keep KW3.out.1 HX.out.1 HX.out.2.1).2.1⟩) ?_
  clear hK K
  refine loud_cons fun K hK => ?_
  go_wp2
  refine hK _ _ (fun _ => ⟨(HF0.out.keep KW3.out.1 HX.out.1 HX.out.2.1).1, (HF0.out.keep KW3.out.1 HX.out.1 HX.out.2.1).2.1⟩) ?_
  clear hK K
  refine loud_nil ?_
  have HA3 := Lib.hid ((HA.out.keep hal.out.1 HX.out.2.2).keep KW3.out.1 HX.out.2.2)
  obtain ⟨M, hM⟩ : ∃ M : Nat, M = min n lk.size := ⟨_, rfl⟩
  have hmin : min (n : Int) (lk.size : Int) = (M : Int) := by omega
  have hMl : M ≤ lk.size := by omega
  have hMi : (M : Int) ≤ (lk.size : Int) := by omega
  have hM0 : (0 : Int) ≤ (M : Int) := by omega
  have hks : key.length ≤ 16781312 := by rw [hkey, List.length_append, List.length_take, size_list]; omega
  have hcat : ∀ w, (Op.stringOp .add (lk.extract 0 M) ⟨t.toArray⟩).run Tryz.prog w = .ok (.string ⟨key.toArray⟩) w := by
    intro w
    rw [run_string_add_sum]
    · refine congrArg (fun x => Result.ok (Value.string x) w) ?_
      apply ByteArray.ext
      apply Array.toList_inj.1
      have e1 : lk.data.toList.take n = lk.data.toList.take M := by
        by_cases h : n ≤ lk.size
        · rw [show M = n by omega]
        · rw [List.take_of_length_le (by rw [size_list]; omega), List.take_of_length_le (by rw [size_list]; omega)]
      rw [hkey, e1]
      simp
    · rw [size_mkl t]
      show (lk.extract 0 M).size + _ ≤ _
      rw [ByteArray.size_extract]
      omega
  have HC := Lib.hid hcat
  have HKk := Lib.hid hkey
  obtain ⟨a0, a1, a2, a3, a4⟩ := HA3.out
  clear hM hkey hcat
  have hcat := HC.out
  have HRV := Lib.hid (And.intro hRR (And.intro hvv (And.intro hgg hsx)))
  have HLT : Hid (S < w.heap.size ∧ R < w.heap.size ∧ w.heap.size < w3.heap.size ∧ A < w.heap.size) := Lib.hid ⟨H.out.1.2.2, H.out.2.2.2, by have := KW3.out.1.2; have := HSZ.out; omega, HA.out.2.2.2.2⟩
  have hRE : ¬ R = w3.heap.size := by have := HLT.out; omega
  have hER : ¬ w3.heap.size = R := by omega
  have hZE : ¬ w.heap.size = w3.heap.size := by have := HLT.out; omega
  have hEZ : ¬ w3.heap.size = w.heap.size := by omega
  have hRZ : ¬ R = w.heap.size := by have := HLT.out; omega
  have hZR : ¬ w.heap.size = R := by omega
  have hAE : ¬ A = w3.heap.size := by have := HLT.out; omega
  have hEA : ¬ w3.heap.size = A := by omega
  have hRA' : ¬ R = A := hRA
  have hAR' : ¬ A = R := by omega
  have HXZ : Hid (¬ SR S R w.heap.size ∧ ¬ SR S R w3.heap.size) := Lib.hid ⟨by unfold SR; have := HLT.out; omega, by unfold SR; have := HLT.out; omega⟩
  have HKA : Hid (KeepX (SR S R) w w3 ∧ Below B w w3) := Lib.hid ⟨hal.out.1.trans KW3.out.1, KW3.out.2⟩
  have HZ3 := Lib.hid (And.intro (HX0.out.box.keep KW3.out.1 HXZ.out.1) ((show EFree w0 w.heap.size from ⟨Lib.frozen_of_heap HX0.out 0, Lib.frozen_of_heap HX0.out 1, Lib.frozen_of_heap HX0.out 2, Lib.frozen_of_heap HX0.out 3⟩).keep (heap_lt HX0.out) KW3.out.1 HXZ.out.1))
  obtain ⟨E, hE⟩ : ∃ E, E = w3.heap.size := ⟨_, rfl⟩
  have HEn : Hid (∀ k v g q, EBlk (w3.alloc (.cells #[.string k, .string v, .bool g, .int .i64 q] 41)) w3.heap.size k v g q) := Lib.hid fun k v g q => EBlk.new w3 k v g q
  have h3B : B ≤ w3.heap.size := hb3
  have HF3 := Lib.hid (HF0.out.keep KW3.out.1 HX.out.1 HX.out.2.1)
  clear hRR hvv hgg hsx HKk hal HX0 KW3 HF0 hE E
  have hcs : (⟨key.toArray⟩ : ByteArray).size ≤ 16781312 := by rw [size_mkl]; exact hks
  have HCM : Hid (∀ w, Calls Tryz.prog 88 #[.string lk, .string ⟨key.toArray⟩] w fun e w' => e = .returned (.int .i64 (comN lk.data.toList key : Nat)) ∧ Below w.heap.size w w') :=
    Lib.hid fun w => by have h := com_code lk ⟨key.toArray⟩ w (by omega) (by omega); exact h
  generalize hcm : comN lk.data.toList key = cm at HCM HRV
  clear hcs
  have hqc : ((q / 2 : Nat) : Int) = (q : Int) / 2 := by omega
  by_cases hg : q % 2 = 1
  · have hgb : ((q : Int) % 2 == 1) = true := by simp; omega
    obtain ⟨eRR, evv, egg, esx⟩ := HRV.out
    rw [if_pos hg] at evv esx
    rw [decide_eq_true hg] at egg eRR
    rw [Bool.true_or, Bool.and_true] at eRR
    rw [Nat.add_zero, ← HS3.out] at esx
    subst evv egg esx
    have HRV2 := Lib.hid eRR
    clear eRR HRV HN4
    have HS4 := Lib.hid (HS3'.out.old ((Below.refl _ _).alloc (Nat.le_refl _) (.cells #[.string ⟨key.toArray⟩, .string ⟨#[]⟩, .bool true, .int .i64 ((q : Int) / 2)] 41)))
    have HK4 := Lib.hid (And.intro (HKA.out.1.trans (KeepX.of ((Below.refl _ _).alloc (Nat.le_refl _) (.cells #[.string ⟨key.toArray⟩, .string ⟨#[]⟩, .bool true, .int .i64 ((q : Int) / 2)] 41)))) (HKA.out.2.alloc h3B (.cells #[.string ⟨key.toArray⟩, .string ⟨#[]⟩, .bool true, .int .i64 ((q : Int) / 2)] 41)))
    have HZ4 := Lib.hid (And.intro (HZ3.out.1.alloc (.cells #[.string ⟨key.toArray⟩, .string ⟨#[]⟩, .bool true, .int .i64 ((q : Int) / 2)] 41)) (HZ3.out.2.below HZ3.out.1.2.2.2.2 ((Below.refl _ _).alloc (Nat.le_refl _) (.cells #[.string ⟨key.toArray⟩, .string ⟨#[]⟩, .bool true, .int .i64 ((q : Int) / 2)] 41))))
    have HE4 := Lib.hid (HEn.out ⟨key.toArray⟩ ⟨#[]⟩ true ((q : Int) / 2))
    cases r3 with
    | false =>
      have hr0 := HRV2.out
      rw [Bool.false_and] at hr0
      subst hr0
      obtain ⟨⟨c1, c2, c3⟩, ⟨d1, d2, d3⟩⟩ := HS4.out
      obtain ⟨⟨z0, z1, z2, z3, z4⟩, ⟨y0, y1, y2, y3⟩⟩ := HZ4.out
      obtain ⟨x0, x1, x2, x3, x4⟩ := HE4.out.box
      have HFIN := Lib.hid (fun c0 c1 c2 c3 => next_end HS4.out hSR HLT.out.1 HLT.out.2.1 hBR hBw HK4.out.1 HK4.out.2 false c0 c1 c2 c3)
      go_wp2
      exact bodyPost_ret (v := .agg #[.string ⟨key.toArray⟩, .string ⟨#[]⟩, .bool true, .int .i64 ((q : Int) / 2)]) (by simp [results, Tryz.results110, go_sem, z0, z1, z2, z3, z4, hRZ, hZR]) rfl ⟨by rw [hqc], HFIN.out _ _ _ _⟩
    | true =>
      have hr0 := HRV2.out
      rw [Bool.true_and] at hr0
      obtain ⟨⟨c1, c2, c3⟩, ⟨d1, d2, d3⟩⟩ := HS4.out
      obtain ⟨⟨z0, z1, z2, z3, z4⟩, ⟨y0, y1, y2, y3⟩⟩ := HZ4.out
      obtain ⟨x0, x1, x2, x3, x4⟩ := HE4.out.box
      go_wp2_with fail
      refine (HCM.out _).mono ?_
      rintro e w5 ⟨rfl, b5⟩
      have HS5 := Lib.hid (HS4.out.old b5)
      have HK5 := Lib.hid (And.intro (HK4.out.1.trans (KeepX.of b5)) (HK4.out.2.trans (b5.mono (Nat.le_trans hBw HK4.out.2.size))))
      have HZ5 := Lib.hid (And.intro (HZ4.out.1.below b5) (HZ4.out.2.below HZ4.out.1.2.2.2.2 b5))
      have HE5 := Lib.hid (HE4.out.keep' b5)
      clear b5 c1 c2 c3 d1 d2 d3 z0 z1 z2 z3 z4 y0 y1 y2 y3 x0 x1 x2 x3 x4
      by_cases hc : cm = n
      · rw [decide_eq_true (by omega)] at hr0
        subst hr0
        have hci : ((n : Int) == (cm : Int)) = true := by simp; omega
        obtain ⟨⟨c1, c2, c3⟩, ⟨d1, d2, d3⟩⟩ := HS5.out
        obtain ⟨⟨z0, z1, z2, z3, z4⟩, ⟨y0, y1, y2, y3⟩⟩ := HZ5.out
        obtain ⟨x0, x1, x2, x3, x4⟩ := HE5.out.box
        have HFIN := Lib.hid (fun c0 c1 c2 c3 => next_end HS5.out hSR HLT.out.1 HLT.out.2.1 hBR hBw HK5.out.1 HK5.out.2 true c0 c1 c2 c3)
        go_wp2
        exact bodyPost_ret (v := .agg #[.string ⟨key.toArray⟩, .string ⟨#[]⟩, .bool true, .int .i64 ((q : Int) / 2)]) (by simp [results, Tryz.results110, go_sem, z0, z1, z2, z3, z4, hRZ, hZR]) rfl ⟨by rw [hqc], HFIN.out _ _ _ _⟩
      · rw [decide_eq_false (by omega)] at hr0
        subst hr0
        have hci : ((n : Int) == (cm : Int)) = false := by simp; omega
        obtain ⟨⟨c1, c2, c3⟩, ⟨d1, d2, d3⟩⟩ := HS5.out
        obtain ⟨⟨z0, z1, z2, z3, z4⟩, ⟨y0, y1, y2, y3⟩⟩ := HZ5.out
        obtain ⟨x0, x1, x2, x3, x4⟩ := HE5.out.box
        have HFIN := Lib.hid (fun c0 c1 c2 c3 => next_end HS5.out hSR HLT.out.1 HLT.out.2.1 hBR hBw HK5.out.1 HK5.out.2 false c0 c1 c2 c3)
        go_wp2
        exact bodyPost_ret (v := .agg #[.string ⟨key.toArray⟩, .string ⟨#[]⟩, .bool true, .int .i64 ((q : Int) / 2)]) (by simp [results, Tryz.results110, go_sem, z0, z1, z2, z3, z4, hRZ, hZR]) rfl ⟨by rw [hqc], HFIN.out _ _ _ _⟩
  · have hgb : ((q : Int) % 2 == 1) = false := by simp; omega
    obtain ⟨eRR, evv, egg, esx⟩ := HRV.out
    rw [if_neg hg] at evv esx
    rw [decide_eq_false hg] at egg eRR
    rw [Bool.false_or] at eRR
    subst evv egg esx
    obtain ⟨r4, hr4⟩ : ∃ r4, (r3 && decide (u = 0)) = r4 := ⟨_, rfl⟩
    rw [hr4] at eRR
    have HRV2 := Lib.hid eRR
    clear eRR HRV
    have HS3a := Lib.hid (HS3'.out.old ((Below.refl _ _).alloc (Nat.le_refl _) (.cells #[.string ⟨key.toArray⟩, .string ⟨#[]⟩, .bool false, .int .i64 ((q : Int) / 2)] 41)))
    have HK3a := Lib.hid (And.intro (HKA.out.1.trans (KeepX.of ((Below.refl _ _).alloc (Nat.le_refl _) (.cells #[.string ⟨key.toArray⟩, .string ⟨#[]⟩, .bool false, .int .i64 ((q : Int) / 2)] 41)))) (HKA.out.2.alloc h3B (.cells #[.string ⟨key.toArray⟩, .string ⟨#[]⟩, .bool false, .int .i64 ((q : Int) / 2)] 41)))
    have HZ3a := Lib.hid (And.intro (HZ3.out.1.alloc (.cells #[.string ⟨key.toArray⟩, .string ⟨#[]⟩, .bool false, .int .i64 ((q : Int) / 2)] 41)) (HZ3.out.2.below HZ3.out.1.2.2.2.2 ((Below.refl _ _).alloc (Nat.le_refl _) (.cells #[.string ⟨key.toArray⟩, .string ⟨#[]⟩, .bool false, .int .i64 ((q : Int) / 2)] 41))))
    have HE3a := Lib.hid (HEn.out ⟨key.toArray⟩ ⟨#[]⟩ false ((q : Int) / 2))
    obtain ⟨f1, f2, f3, f4⟩ := HF3.out
    obtain ⟨z0, z1, z2, z3, z4⟩ := HZ3.out.1
    have hf1 : ¬ F2 = w3.heap.size := by omega
    have HA3a := Lib.hid (HA3.out.alloc (.cells #[.string ⟨key.toArray⟩, .string ⟨#[]⟩, .bool false, .int .i64 ((q : Int) / 2)] 41))
    go_wp2_with fail
    refine (HN4.out _ r3 (by simp; omega) HS3a.out).mono ?_
    rintro e w4 ⟨rfl, n4, k4, b4⟩
    rw [hr4] at n4
    have HK4a := Lib.hid (And.intro (HK3a.out.1.trans k4) (HK3a.out.2.trans b4))
    have HZ4a := Lib.hid (And.intro (HZ3a.out.1.keep k4 HXZ.out.1) (HZ3a.out.2.keep HZ3a.out.1.2.2.2.2 k4 HXZ.out.1))
    have HE4a := Lib.hid (HE3a.out.keepX k4 HXZ.out.2)
    have HA4a := Lib.hid (HA3a.out.keep k4 HX.out.2.2)
    have HS4a := Lib.hid n4
    have hwE : w3.heap.size < w4.heap.size := heap_lt HE4a.out
    have HS4 := Lib.hid (HS4a.out.keep ((KeepX.refl (fun y => y = w3.heap.size) w4).set (p := ⟨w3.heap.size, 1, none⟩) rfl (.string ⟨v.toArray⟩)) (by show ¬ S = _; have := HLT.out; omega) (by show ¬ R = _; have := HLT.out; omega))
    have HK4 : Hid (KeepX (SR S R) w (w4.setCell ⟨w3.heap.size, 1, none⟩ (.string ⟨v.toArray⟩)) ∧ Below B w (w4.setCell ⟨w3.heap.size, 1, none⟩ (.string ⟨v.toArray⟩))) := Lib.hid ⟨keep_new HK4a.out.1 (Nat.le_of_lt HLT.out.2.2.1) _, HK4a.out.2.setCell (p := ⟨w3.heap.size, 1, none⟩) h3B _⟩
    have HZ4 := Lib.hid (And.intro (HZ4a.out.1.keep ((KeepX.refl (fun y => y = w3.heap.size) w4).set (p := ⟨w3.heap.size, 1, none⟩) rfl (.string ⟨v.toArray⟩)) hZE) (HZ4a.out.2.keep HZ4a.out.1.2.2.2.2 ((KeepX.refl (fun y => y = w3.heap.size) w4).set (p := ⟨w3.heap.size, 1, none⟩) rfl (.string ⟨v.toArray⟩)) hZE))
    have HE4 := Lib.hid (HE4a.out.setv (⟨v.toArray⟩))
    have HA4 := Lib.hid (HA4a.out.keep ((KeepX.refl (fun y => y = w3.heap.size) w4).set (p := ⟨w3.heap.size, 1, none⟩) rfl (.string ⟨v.toArray⟩)) hAE)
    clear n4 k4 b4 a0 a1 a2 a3 a4 f1 f2 f3 f4 z0 z1 z2 z3 z4
    obtain ⟨e0, e1, e2, e3, e4⟩ := HE4a.out.box
    have ef := Lib.frozen_of_heap HE4a.out 1
    obtain ⟨a0, a1, a2, a3, a4⟩ := HA4.out
    cases r4 with
    | false =>
      have hr0 := HRV2.out
      rw [Bool.false_and] at hr0
      subst hr0
      obtain ⟨⟨c1, c2, c3⟩, ⟨d1, d2, d3⟩⟩ := HS4.out
      obtain ⟨⟨z0, z1, z2, z3, z4⟩, ⟨y0, y1, y2, y3⟩⟩ := HZ4.out
      obtain ⟨x0, x1, x2, x3, x4⟩ := HE4.out.box
      have HFIN := Lib.hid (fun c0 c1 c2 c3 => next_end HS4.out hSR HLT.out.1 HLT.out.2.1 hBR hBw HK4.out.1 HK4.out.2 false c0 c1 c2 c3)
      go_wp2
      exact bodyPost_ret (v := .agg #[.string ⟨key.toArray⟩, .string ⟨v.toArray⟩, .bool false, .int .i64 ((q : Int) / 2)]) (by simp [results, Tryz.results110, go_sem, z0, z1, z2, z3, z4, hRZ, hZR]) rfl ⟨by rw [hqc], HFIN.out _ _ _ _⟩
    | true =>
      have hr0 := HRV2.out
      rw [Bool.true_and] at hr0
      obtain ⟨⟨c1, c2, c3⟩, ⟨d1, d2, d3⟩⟩ := HS4.out
      obtain ⟨⟨z0, z1, z2, z3, z4⟩, ⟨y0, y1, y2, y3⟩⟩ := HZ4.out
      obtain ⟨x0, x1, x2, x3, x4⟩ := HE4.out.box
      go_wp2_with fail
      refine (HCM.out _).mono ?_
      rintro e w5 ⟨rfl, b5⟩
      have HS5 := Lib.hid (HS4.out.old b5)
      have HK5 := Lib.hid (And.intro (HK4.out.1.trans (KeepX.of b5)) (HK4.out.2.trans (b5.mono (Nat.le_trans hBw HK4.out.2.size))))
      have HZ5 := Lib.hid (And.intro (HZ4.out.1.below b5) (HZ4.out.2.below HZ4.out.1.2.2.2.2 b5))
      have HE5 := Lib.hid (HE4.out.keep' b5)
      clear b5 c1 c2 c3 d1 d2 d3 z0 z1 z2 z3 z4 y0 y1 y2 y3 x0 x1 x2 x3 x4
      by_cases hc : cm = n
      · rw [decide_eq_true (by omega)] at hr0
        subst hr0
        have hci : ((n : Int) == (cm : Int)) = true := by simp; omega
        obtain ⟨⟨c1, c2, c3⟩, ⟨d1, d2, d3⟩⟩ := HS5.out
        obtain ⟨⟨z0, z1, z2, z3, z4⟩, ⟨y0, y1, y2, y3⟩⟩ := HZ5.out
        obtain ⟨x0, x1, x2, x3, x4⟩ := HE5.out.box
        have HFIN := Lib.hid (fun c0 c1 c2 c3 => next_end HS5.out hSR HLT.out.1 HLT.out.2.1 hBR hBw HK5.out.1 HK5.out.2 true c0 c1 c2 c3)
        go_wp2
        exact bodyPost_ret (v := .agg #[.string ⟨key.toArray⟩, .string ⟨v.toArray⟩, .bool false, .int .i64 ((q : Int) / 2)]) (by simp [results, Tryz.results110, go_sem, z0, z1, z2, z3, z4, hRZ, hZR]) rfl ⟨by rw [hqc], HFIN.out _ _ _ _⟩
      · rw [decide_eq_false (by omega)] at hr0
        subst hr0
        have hci : ((n : Int) == (cm : Int)) = false := by simp; omega
        obtain ⟨⟨c1, c2, c3⟩, ⟨d1, d2, d3⟩⟩ := HS5.out
        obtain ⟨⟨z0, z1, z2, z3, z4⟩, ⟨y0, y1, y2, y3⟩⟩ := HZ5.out
        obtain ⟨x0, x1, x2, x3, x4⟩ := HE5.out.box
        have HFIN := Lib.hid (fun c0 c1 c2 c3 => next_end HS5.out hSR HLT.out.1 HLT.out.2.1 hBR hBw HK5.out.1 HK5.out.2 false c0 c1 c2 c3)
        go_wp2
        exact bodyPost_ret (v := .agg #[.string ⟨key.toArray⟩, .string ⟨v.toArray⟩, .bool false, .int .i64 ((q : Int) / 2)]) (by simp [results, Tryz.results110, go_sem, z0, z1, z2, z3, z4, hRZ, hZR]) rfl ⟨by rw [hqc], HFIN.out _ _ _ _⟩
end Go.Proofs.YtobhjmkaamjoeaaGreat
