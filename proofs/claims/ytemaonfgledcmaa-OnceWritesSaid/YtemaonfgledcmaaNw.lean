/-
  Layer 14 (once): contract of one, of the document. Conditions: texts within the reach.
-/
import Derived.Test.YtemaonfgledcmaaNv
import Derived.Test.YtemaonfgledcmaaQg
namespace Go.Proofs.Ytemaonfgledcmaa
open Go.RowKit
set_option linter.unusedVariables false
set_option linter.unusedSimpArgs false

def ONC (x : Pr) (w : World) (e : Ending) (w' : World) : Prop := ∃ y b, e = .returned (.tuple #[sa y, .bool b]) ∧ (oneP x = if b = true then some y else none) ∧ Below w.heap.size w w'
theorem one_res (tmps : Array Value) (w : World) (x : Nat) (X : Sn) (b : Bool) (h : w.rangeAt x 0 (cv X)) (h2 : tmps.getD 2 undef = .pointer (some ⟨x, 0, none⟩)) (h3 : tmps.getD 3 undef = .bool b) :
    (results Try.f31 tmps).run Try.prog w = .ok (.tuple #[sa X, .bool b]) w := by
  have hl := run_loadVar_mid (P := Try.prog) w x 0 39 _ _ h Try.underlying39 rfl size7
  rw [Array.getD_eq_getD_getElem?] at h2 h3
  simp [results, Try.results31, asAddr, hl, h2, h3, cv]
theorem ext_ext (V : ByteArray) (a b : Nat) : (V.extract a V.size).extract b (V.extract a V.size).size = V.extract (a + b) V.size := by
  apply ba_ext
  rw [ba_data, ba_data, drop_ext, drop_ext, drop_ext, List.drop_drop]
theorem ext_len (V : ByteArray) (a : Nat) : (V.extract a V.size).size = V.size - a := by
  rw [Lib.size_eq, drop_ext, List.length_drop, ← Lib.size_eq]
theorem one_no {K V : ByteArray} (h : rdP (K, V) = none) : oneP (K, V) = if false = true then some Z0 else none := by unfold oneP; rw [h]; rfl
theorem one_nb {K V : ByteArray} (h : oneP (K, V) = none) (y : Sn) : oneP (K, V) = if false = true then some y else none := by rw [h]; rfl
theorem facts7 {w W : World} {rb xb yb : Nat} {K V : ByteArray} {X : Sn} (ht : w.there rb 0 7) (hr : rb < w.heap.size) (hp : PBox w xb K V) (hx : SBox w yb X) (hb : Below w.heap.size w W) :
    (W.cell? ⟨yb, 0, none⟩ = some (.int .i64 X.c) ∧ W.cell? ⟨yb, 1, none⟩ = some (.int .i64 X.s) ∧ W.cell? ⟨yb, 2, none⟩ = some (.int .i64 X.e) ∧ W.cell? ⟨yb, 3, none⟩ = some (.string X.v) ∧ W.cell? ⟨yb, 4, none⟩ = some (.bool X.h) ∧ W.cell? ⟨yb, 5, none⟩ = some (.slice X.p X.n X.k) ∧ W.cell? ⟨yb, 6, none⟩ = some (.string X.u) ∧ W.cell? ⟨xb, 1, none⟩ = some (.string V)) ∧
    ((∃ a, W.cell? ⟨rb, 0, none⟩ = some a) ∧ (∃ a, W.cell? ⟨rb, 1, none⟩ = some a) ∧ (∃ a, W.cell? ⟨rb, 2, none⟩ = some a) ∧ (∃ a, W.cell? ⟨rb, 3, none⟩ = some a) ∧ (∃ a, W.cell? ⟨rb, 4, none⟩ = some a) ∧ (∃ a, W.cell? ⟨rb, 5, none⟩ = some a) ∧ (∃ a, W.cell? ⟨rb, 6, none⟩ = some a)) ∧
    W.frozen? ⟨rb, 0, none⟩ = false ∧ W.frozen? ⟨rb, 1, none⟩ = false ∧ W.frozen? ⟨rb, 2, none⟩ = false ∧ W.frozen? ⟨rb, 3, none⟩ = false ∧ W.frozen? ⟨rb, 4, none⟩ = false ∧ W.frozen? ⟨rb, 5, none⟩ = false ∧ W.frozen? ⟨rb, 6, none⟩ = false ∧ rb < W.heap.size := by
  obtain ⟨h0, h1, h2, h3, h4, h5, h6, _⟩ := hx.below hb
  have hq := (hp.below hb).2.1
  have hk := there_below ht hr hb
  have hc : ∀ j, j < 7 → ∃ a, W.cell? ⟨rb, j, none⟩ = some a := fun j hj => by
    have := Option.isSome_iff_exists.1 (hk j hj).1
    rwa [Nat.zero_add] at this
  have hf : ∀ j, j < 7 → W.frozen? ⟨rb, j, none⟩ = false := fun j hj => by
    have := (hk j hj).2
    rwa [Nat.zero_add] at this
  exact ⟨⟨h0, h1, h2, h3, h4, h5, h6, hq⟩, ⟨hc 0 (by omega), hc 1 (by omega), hc 2 (by omega), hc 3 (by omega), hc 4 (by omega), hc 5 (by omega), hc 6 (by omega)⟩, hf 0 (by omega), hf 1 (by omega), hf 2 (by omega), hf 3 (by omega), hf 4 (by omega), hf 5 (by omega), hf 6 (by omega), Nat.lt_of_lt_of_le hr hb.size⟩
theorem keep7 {W : World} {rb xb yb : Nat} {A B C D E F G Q : Value} (hy : ¬ rb = yb) (hx : ¬ rb = xb)
    (h : W.cell? ⟨yb, 0, none⟩ = some A ∧ W.cell? ⟨yb, 1, none⟩ = some B ∧ W.cell? ⟨yb, 2, none⟩ = some C ∧ W.cell? ⟨yb, 3, none⟩ = some D ∧ W.cell? ⟨yb, 4, none⟩ = some E ∧ W.cell? ⟨yb, 5, none⟩ = some F ∧ W.cell? ⟨yb, 6, none⟩ = some G ∧ W.cell? ⟨xb, 1, none⟩ = some Q) (v0 v1 v2 v3 v4 v5 v6 : Value) :
    (((((((W.setCell ⟨rb, 0, none⟩ v0).setCell ⟨rb, 1, none⟩ v1).setCell ⟨rb, 2, none⟩ v2).setCell ⟨rb, 3, none⟩ v3).setCell ⟨rb, 4, none⟩ v4).setCell ⟨rb, 5, none⟩ v5).setCell ⟨rb, 6, none⟩ v6).cell? ⟨yb, 0, none⟩ = some A ∧ (((((((W.setCell ⟨rb, 0, none⟩ v0).setCell ⟨rb, 1, none⟩ v1).setCell ⟨rb, 2, none⟩ v2).setCell ⟨rb, 3, none⟩ v3).setCell ⟨rb, 4, none⟩ v4).setCell ⟨rb, 5, none⟩ v5).setCell ⟨rb, 6, none⟩ v6).cell? ⟨yb, 1, none⟩ = some B ∧ (((((((W.setCell ⟨rb, 0, none⟩ v0).setCell ⟨rb, 1, none⟩ v1).setCell ⟨rb, 2, none⟩ v2).setCell ⟨rb, 3, none⟩ v3).setCell ⟨rb, 4, none⟩ v4).setCell ⟨rb, 5, none⟩ v5).setCell ⟨rb, 6, none⟩ v6).cell? ⟨yb, 2, none⟩ = some C ∧ (((((((W.setCell ⟨rb, 0, none⟩ v0).setCell ⟨rb, 1, none⟩ v1).setCell ⟨rb, 2, none⟩ v2).setCell ⟨rb, 3, none⟩ v3).setCell ⟨rb, 4, none⟩ v4).setCell ⟨rb, 5, none⟩ v5).setCell ⟨rb, 6, none⟩ v6).cell? ⟨yb, 3, none⟩ = some D ∧ (((((((W.setCell ⟨rb, 0, none⟩ v0).setCell ⟨rb, 1, none⟩ v1).setCell ⟨rb, 2, none⟩ v2).setCell ⟨rb, 3, none⟩ v3).setCell ⟨rb, 4, none⟩ v4).setCell ⟨rb, 5, none⟩ v5).setCell ⟨rb, 6, none⟩ v6).cell? ⟨yb, 4, none⟩ = some E ∧ (((((((W.setCell ⟨rb, 0, none⟩ v0).setCell ⟨rb, 1, none⟩ v1).setCell ⟨rb, 2, none⟩ v2).setCell ⟨rb, 3, none⟩ v3).setCell ⟨rb, 4, none⟩ v4).setCell ⟨rb, 5, none⟩ v5).setCell ⟨rb, 6, none⟩ v6).cell? ⟨yb, 5, none⟩ = some F ∧ (((((((W.setCell ⟨rb, 0, none⟩ v0).setCell ⟨rb, 1, none⟩ v1).setCell ⟨rb, 2, none⟩ v2).setCell ⟨rb, 3, none⟩ v3).setCell ⟨rb, 4, none⟩ v4).setCell ⟨rb, 5, none⟩ v5).setCell ⟨rb, 6, none⟩ v6).cell? ⟨yb, 6, none⟩ = some G ∧ (((((((W.setCell ⟨rb, 0, none⟩ v0).setCell ⟨rb, 1, none⟩ v1).setCell ⟨rb, 2, none⟩ v2).setCell ⟨rb, 3, none⟩ v3).setCell ⟨rb, 4, none⟩ v4).setCell ⟨rb, 5, none⟩ v5).setCell ⟨rb, 6, none⟩ v6).cell? ⟨xb, 1, none⟩ = some Q := by
  have hk : ∀ i j (V : Value) (X : World), (X.setCell ⟨rb, i, none⟩ V).cell? ⟨yb, j, none⟩ = X.cell? ⟨yb, j, none⟩ := fun i j V X => World.cell?_setCell_other _ _ _ _ (fun e => hy (by injection e))
  have hl : ∀ i j (V : Value) (X : World), (X.setCell ⟨rb, i, none⟩ V).cell? ⟨xb, j, none⟩ = X.cell? ⟨xb, j, none⟩ := fun i j V X => World.cell?_setCell_other _ _ _ _ (fun e => hx (by injection e))
  simp only [hk, hl]; exact h
theorem drew7 {W : World} {xb yb : Nat} {A B C D E F G Q : Value}
    (h : W.cell? ⟨yb, 0, none⟩ = some A ∧ W.cell? ⟨yb, 1, none⟩ = some B ∧ W.cell? ⟨yb, 2, none⟩ = some C ∧ W.cell? ⟨yb, 3, none⟩ = some D ∧ W.cell? ⟨yb, 4, none⟩ = some E ∧ W.cell? ⟨yb, 5, none⟩ = some F ∧ W.cell? ⟨yb, 6, none⟩ = some G ∧ W.cell? ⟨xb, 1, none⟩ = some Q) :
    W.drew.cell? ⟨yb, 0, none⟩ = some A ∧ W.drew.cell? ⟨yb, 1, none⟩ = some B ∧ W.drew.cell? ⟨yb, 2, none⟩ = some C ∧ W.drew.cell? ⟨yb, 3, none⟩ = some D ∧ W.drew.cell? ⟨yb, 4, none⟩ = some E ∧ W.drew.cell? ⟨yb, 5, none⟩ = some F ∧ W.drew.cell? ⟨yb, 6, none⟩ = some G ∧ W.drew.cell? ⟨xb, 1, none⟩ = some Q := h
theorem rng7 {W : World} {rb : Nat} (h : (∃ a, W.cell? ⟨rb, 0, none⟩ = some a) ∧ (∃ a, W.cell? ⟨rb, 1, none⟩ = some a) ∧ (∃ a, W.cell? ⟨rb, 2, none⟩ = some a) ∧ (∃ a, W.cell? ⟨rb, 3, none⟩ = some a) ∧ (∃ a, W.cell? ⟨rb, 4, none⟩ = some a) ∧ (∃ a, W.cell? ⟨rb, 5, none⟩ = some a) ∧ (∃ a, W.cell? ⟨rb, 6, none⟩ = some a)) (v0 v1 v2 v3 v4 v5 v6 : Value) :
    (((((((W.setCell ⟨rb, 0, none⟩ v0).setCell ⟨rb, 1, none⟩ v1).setCell ⟨rb, 2, none⟩ v2).setCell ⟨rb, 3, none⟩ v3).setCell ⟨rb, 4, none⟩ v4).setCell ⟨rb, 5, none⟩ v5).setCell ⟨rb, 6, none⟩ v6).rangeAt rb 0 [v0, v1, v2, v3, v4, v5, v6] := by
  have e : W.setCells rb 0 [v0, v1, v2, v3, v4, v5, v6] = (((((((W.setCell ⟨rb, 0, none⟩ v0).setCell ⟨rb, 1, none⟩ v1).setCell ⟨rb, 2, none⟩ v2).setCell ⟨rb, 3, none⟩ v3).setCell ⟨rb, 4, none⟩ v4).setCell ⟨rb, 5, none⟩ v5).setCell ⟨rb, 6, none⟩ v6) := by simp only [World.setCells, Nat.zero_add, Nat.reduceAdd]
  obtain ⟨⟨a0, h0⟩, ⟨a1, h1⟩, ⟨a2, h2⟩, ⟨a3, h3⟩, ⟨a4, h4⟩, ⟨a5, h5⟩, ⟨a6, h6⟩⟩ := h
  have hk : ∀ j, j < 7 → (W.cell? ⟨rb, 0 + j, none⟩).isSome = true := fun j hj => by
    match j, hj with
    | 0, _ => simp [h0]
    | 1, _ => simp [h1]
    | 2, _ => simp [h2]
    | 3, _ => simp [h3]
    | 4, _ => simp [h4]
    | 5, _ => simp [h5]
    | 6, _ => simp [h6]
  have hr : (W.setCells rb 0 [v0, v1, v2, v3, v4, v5, v6]).rangeAt rb 0 [v0, v1, v2, v3, v4, v5, v6] := fun j v' hv => by
    have hj : j < [v0, v1, v2, v3, v4, v5, v6].length := (List.getElem?_eq_some_iff.1 hv).1
    rw [World.cell?_setCells_in rb [v0, v1, v2, v3, v4, v5, v6] 0 W (fun i hi => hk i (by simpa using hi)) j hj, ← hv, List.getElem?_eq_getElem hj]
  rw [e] at hr
  exact hr
theorem chain7 {w w4 W : World} {rb : Nat} (hB : Below w.heap.size w w4) (hZ : Below w4.heap.size w4 W) (hr : w.heap.size ≤ rb) (v0 v1 v2 v3 v4 v5 v6 : Value) : Below w.heap.size w (((((((W.setCell ⟨rb, 0, none⟩ v0).setCell ⟨rb, 1, none⟩ v1).setCell ⟨rb, 2, none⟩ v2).setCell ⟨rb, 3, none⟩ v3).setCell ⟨rb, 4, none⟩ v4).setCell ⟨rb, 5, none⟩ v5).setCell ⟨rb, 6, none⟩ v6) := by
  have h1 := hB.trans (hZ.mono hB.size)
  exact ((((((h1.setCell (p := ⟨rb, 0, none⟩) hr v0).setCell (p := ⟨rb, 1, none⟩) hr v1).setCell (p := ⟨rb, 2, none⟩) hr v2).setCell (p := ⟨rb, 3, none⟩) hr v3).setCell (p := ⟨rb, 4, none⟩) hr v4).setCell (p := ⟨rb, 5, none⟩) hr v5).setCell (p := ⟨rb, 6, none⟩) hr v6
set_option maxRecDepth 100000 in
set_option maxHeartbeats 8000000 in
theorem one14_any (K V : ByteArray) (hV : V.size ≤ 4611686018427387904) (w : World) : Calls Try.prog 31 #[.agg #[.string K, .string V]] w (ONC (K, V) w) := by
  have hV2 : V.size ≤ 9223372036854775807 := by omega
  have HS0 := Lib.hid (PBox.new w 27 K V)
  go_enter Try.func31, Try.ntmps31
  go_upto_region 1 with fail
  obtain ⟨o1, ho1⟩ : ∃ o, o = Obj.cells #[.string K, .string V] 27 := ⟨_, rfl⟩
  rw [← ho1] at HS0 ⊢
  clear ho1
  have HB1 := Lib.hid (box_bel14 w o1)
  obtain ⟨xb, hxb⟩ : ∃ xb, xb = w.heap.size := ⟨_, rfl⟩
  have HXB := Lib.hid hxb
  rw [← hxb] at HS0 ⊢
  have hsz1 : (w.alloc o1).heap.size = xb + 1 := by rw [hxb]; simp
  have HW1 := Lib.hid (show w.heap.size ≤ (w.alloc o1).heap.size by simp)
  clear hxb
  generalize w.alloc o1 = w1 at *
  rw [show xb + 1 = w1.heap.size from hsz1.symm]
  have HT3 := Lib.hid (there7 w1)
  have HS3 := Lib.hid (HS0.out.below (box_bel14 w1 (.cells #[.int .i64 0, .int .i64 0, .int .i64 0, .string ⟨#[]⟩, .bool false, .slice none 0 0, .string ⟨#[]⟩] 39)))
  have HB3 := Lib.hid (HB1.out.alloc HW1.out (.cells #[.int .i64 0, .int .i64 0, .int .i64 0, .string ⟨#[]⟩, .bool false, .slice none 0 0, .string ⟨#[]⟩] 39))
  obtain ⟨rb, hrb⟩ : ∃ rb, rb = w1.heap.size := ⟨_, rfl⟩
  have HRB := Lib.hid hrb
  have HLT := Lib.hid (show rb < (w1.alloc (.cells #[.int .i64 0, .int .i64 0, .int .i64 0, .string ⟨#[]⟩, .bool false, .slice none 0 0, .string ⟨#[]⟩] 39)).heap.size by rw [hrb]; simp)
  rw [← hrb] at HT3 ⊢
  have hxr : ¬ rb = xb := by omega
  have hwr : w.heap.size ≤ rb := by rw [hrb]; exact HW1.out
  clear hrb hsz1
  generalize w1.alloc (.cells #[.int .i64 0, .int .i64 0, .int .i64 0, .string ⟨#[]⟩, .bool false, .slice none 0 0, .string ⟨#[]⟩] 39) = w3 at *
  obtain ⟨q0, q1, q2⟩ := HS3.out
  by_cases h2 : K.size = 2
  case neg =>
    have HNO : oneP (K, V) = if false = true then some Z0 else none := one_no (by unfold rdP; rw [kC_size h2]; rfl)
    have h2i : ((K.size : Int) != 2) = true := by simp; omega
    have h2n : ¬ (K.size : Int) = 2 := by omega
    go_wp2_with (with_reducible refine wpList_store_mid rfl 39 (.tmp 2) (.tmp 24) rfl rb 0 #[.int .i64 0, .int .i64 0, .int .i64 0, .string ⟨#[]⟩, .bool false, .slice none 0 0, .string ⟨#[]⟩] ?e11 ?e12 ?e13 ?e14 ?e15 ?_)
    case e14 => exact size7
    case e15 => exact one7 Z0
    case e11 => rfl
    case e12 => rfl
    case e13 => exact HT3.out
    refine bodyPost_ret (v := .tuple #[sa Z0, .bool false]) ?_ rfl ⟨Z0, false, rfl, HNO, below_setCells _ _ _ HB3.out hwr⟩
    exact one_res _ _ rb Z0 false (World.rangeAt_setCells_same _ _ _ _ (HT3.out)) rfl rfl
  obtain ⟨k0, k1, hK⟩ := two_of K h2
  have e0 : ∀ h : 0 < K.size, K[0]'h = k0 := fun h => by subst hK; rfl
  have e1 : ∀ h : 1 < K.size, K[1]'h = k1 := fun h => by subst hK; rfl
  have hKd : K.data.toList = [k0, k1] := by rw [hK]
  have HKD := Lib.hid hKd
  have h2i : (K.size : Int) = 2 := by omega
  have h2b : ((K.size : Int) != 2) = false := by simp [h2i]
  have h20 : 0 < K.size := by omega
  have h21 : 1 < K.size := by omega
  have h2a : (1 : Int) < (K.size : Int) := by omega
  have h2c : (0 : Int) < (K.size : Int) := by omega
  have H2 := Lib.hid h2
  clear hK hKd h2
  by_cases h116 : k0 = 116
  case neg =>
    have HNO : oneP (K, V) = if false = true then some Z0 else none := one_no (by
      have : kC K.data.toList = none := by rw [HKD.out]; unfold kC; simp [h116]
      unfold rdP
      show (kC K.data.toList).bind _ = _
      rw [this]; rfl)
    have hk0 : ¬ ((k0.toNat : Nat) : Int) = 116 := fun e => h116 (UInt8.toNat_inj.1 (by show k0.toNat = 116; omega))
    have hk1 : (((k0.toNat : Nat) : Int) != 116) = true := by simpa using hk0
    go_wp2_with (with_reducible refine wpList_store_mid rfl 39 (.tmp 2) (.tmp 24) rfl rb 0 #[.int .i64 0, .int .i64 0, .int .i64 0, .string ⟨#[]⟩, .bool false, .slice none 0 0, .string ⟨#[]⟩] ?e21 ?e22 ?e23 ?e24 ?e25 ?_)
    case e24 => exact size7
    case e25 => exact one7 Z0
    case e21 => rfl
    case e22 => rfl
    case e23 => exact HT3.out
    refine bodyPost_ret (v := .tuple #[sa Z0, .bool false]) ?_ rfl ⟨Z0, false, rfl, HNO, below_setCells _ _ _ HB3.out hwr⟩
    exact one_res _ _ rb Z0 false (World.rangeAt_setCells_same _ _ _ _ (HT3.out)) rfl rfl
  subst h116
  have HKC : Hid (kC K.data.toList = some ((k1.toNat : Int) - 48)) := Lib.hid (by rw [HKD.out]; rfl)
  have hn0 : v3 V.data.toList = none → rdP (K, V) = none := fun h1 => by
    unfold rdP
    rw [HKC.out]
    show (v3 V.data.toList).map _ = _
    rw [h1]; rfl
  have HN0 := Lib.hid hn0
  clear hn0
  have h116 : (((116 : UInt8).toNat : Int) != 116) = false := rfl
  have h117 : ((116 : UInt8).toNat : Int) = 116 := rfl
  rcases takeR14 V hV2 with ⟨hnn, C, hC, hT⟩ | ⟨N0, K0, hK0, hN0, hnn, hT⟩
  · have HNO := one_no (HN0.out (by unfold v3; rw [hnn]; rfl))
    have HTT := Lib.hid hT
    have hC1 : (C != 0) = true := by simpa using hC
    clear hnn hT
    go_wp2_with fail
    refine (HTT.out _).mono ?_
    rintro e w' ⟨rfl, rfl⟩
    go_wp2_with (with_reducible refine wpList_store_mid rfl 39 (.tmp 2) (.tmp 34) rfl rb 0 #[.int .i64 0, .int .i64 0, .int .i64 0, .string ⟨#[]⟩, .bool false, .slice none 0 0, .string ⟨#[]⟩] ?e31 ?e32 ?e33 ?e34 ?e35 ?_)
    case e34 => exact size7
    case e35 => exact one7 Z0
    case e31 => rfl
    case e32 => rfl
    case e33 => exact HT3.out
    refine bodyPost_ret (v := .tuple #[sa Z0, .bool false]) ?_ rfl ⟨Z0, false, rfl, HNO, below_setCells _ _ _ HB3.out hwr⟩
    exact one_res _ _ rb Z0 false (World.rangeAt_setCells_same _ _ _ _ (HT3.out)) rfl rfl
  have HTT := Lib.hid hT
  have HV1 := Lib.hid hnn
  have hK0i : (K0 : Int) ≤ (V.size : Int) := by omega
  obtain ⟨V1, hV1⟩ : ∃ X, X = V.extract K0 V.size := ⟨_, rfl⟩
  have hz1 : V1.size = V.size - K0 := by rw [hV1]; exact ext_len V K0
  rw [← hV1] at HV1
  have HX1 := Lib.hid hV1
  have HZ1 := Lib.hid hz1
  clear hnn hT hV1 hz1
  go_wp2_with fail
  refine (HTT.out _).mono ?_
  rintro e w' ⟨rfl, rfl⟩
  rcases takeR14 V1 (by have := HZ1.out; omega) with ⟨hnn, C, hC, hT⟩ | ⟨N1, K1, hK1, hN1, hnn, hT⟩
  · have HNO := one_no (HN0.out (by unfold v3; rw [HV1.out]; simp only [Option.bind_some]; rw [hnn]; rfl))
    have HT1 := Lib.hid (show ∀ W, Calls Try.prog 54 #[.string (V.extract K0 V.size)] W fun e w' => e = .returned (.tuple #[.int .i64 0, .int .i64 0, .int .i64 C]) ∧ W = w' from by rw [← HX1.out]; exact hT)
    have hC1 : (C != 0) = true := by simpa using hC
    clear hnn hT
    go_wp2_with fail
    refine (HT1.out _).mono ?_
    rintro e w' ⟨rfl, rfl⟩
    go_wp2_with (with_reducible refine wpList_store_mid rfl 39 (.tmp 2) (.tmp 50) rfl rb 0 #[.int .i64 0, .int .i64 0, .int .i64 0, .string ⟨#[]⟩, .bool false, .slice none 0 0, .string ⟨#[]⟩] ?e41 ?e42 ?e43 ?e44 ?e45 ?_)
    case e44 => exact size7
    case e45 => exact one7 Z0
    case e41 => rfl
    case e42 => rfl
    case e43 => exact HT3.out
    refine bodyPost_ret (v := .tuple #[sa Z0, .bool false]) ?_ rfl ⟨Z0, false, rfl, HNO, below_setCells _ _ _ HB3.out hwr⟩
    exact one_res _ _ rb Z0 false (World.rangeAt_setCells_same _ _ _ _ (HT3.out)) rfl rfl
  have HT1 := Lib.hid (show ∀ W, Calls Try.prog 54 #[.string (V.extract K0 V.size)] W fun e w' => e = .returned (.tuple #[.int .i64 (N1 : Int), .int .i64 (K1 : Int), .int .i64 0]) ∧ W = w' from by rw [← HX1.out]; exact hT)
  have HV2 := Lib.hid hnn
  obtain ⟨V2, hV2'⟩ : ∃ X, X = V.extract (K0 + K1) V.size := ⟨_, rfl⟩
  have hx2 : V1.extract K1 V1.size = V2 := by rw [HX1.out, ext_ext, hV2']
  have hz2 : V2.size = V.size - (K0 + K1) := by rw [hV2']; exact ext_len V _
  have hsum : K0 + K1 ≤ V.size := by have := HZ1.out; omega
  rw [hx2] at HV2
  have HX2 := Lib.hid hV2'
  have HZ2 := Lib.hid hz2
  clear hnn hT hx2 hV2' hz2
  go_wp2_with fail
  refine (HT1.out _).mono ?_
  rintro e w' ⟨rfl, rfl⟩
  have hv3 : v3 V.data.toList = (nO V2.data.toList).bind fun r => if r.1 ≤ 1 ∧ r.2 = [] then some (N0, N1, r.1) else none := by
    unfold v3
    rw [HV1.out]
    simp only [Option.bind_some]
    rw [HV2.out]
    rfl
  have HVV := Lib.hid hv3
  have hrd : ∀ n2, v3 V.data.toList = some (N0, N1, n2) → rdP (K, V) = some ⟨(k1.toNat : Int) - 48, N0, N1, ⟨#[]⟩, n2 == 1, none, 0, 0, ⟨#[]⟩⟩ := fun n2 h => by
    unfold rdP
    rw [HKC.out]
    show (v3 V.data.toList).map _ = _
    rw [h]; rfl
  have HRD := Lib.hid hrd
  clear hv3 hrd
  by_cases h999 : N1 > 999
  · have HNO : oneP (K, V) = if false = true then some Z0 else none := by
      rw [show oneP (K, V) = none from ?_]; · rfl
      unfold oneP
      cases hr : rdP (K, V) with
      | none => rfl
      | some s =>
        have : s.e = (N1 : Int) := by
          cases hvv : v3 V.data.toList with
          | none => rw [HN0.out hvv] at hr; cases hr
          | some t =>
            have : t.1 = N0 ∧ t.2.1 = N1 := by
              rw [HVV.out] at hvv
              simp only [Option.bind_eq_some_iff] at hvv
              obtain ⟨r, _, hvv⟩ := hvv
              split at hvv
              · cases hvv; exact ⟨rfl, rfl⟩
              · cases hvv
            obtain ⟨t0, t1, t2⟩ := t
            obtain ⟨rfl, rfl⟩ := this
            rw [HRD.out t2 hvv] at hr
            cases hr; rfl
        have hm : ¬ mayS s = true := fun q => by have := (mayS_iff.1 q).2.2.2.2.2; omega
        simp [hm]
    have hgt : (N1 : Int) > 999 := by omega
    go_wp2_with (with_reducible refine wpList_store_mid rfl 39 (.tmp 2) (.tmp 50) rfl rb 0 #[.int .i64 0, .int .i64 0, .int .i64 0, .string ⟨#[]⟩, .bool false, .slice none 0 0, .string ⟨#[]⟩] ?e51 ?e52 ?e53 ?e54 ?e55 ?_)
    case e54 => exact size7
    case e55 => exact one7 Z0
    case e51 => rfl
    case e52 => rfl
    case e53 => exact HT3.out
    refine bodyPost_ret (v := .tuple #[sa Z0, .bool false]) ?_ rfl ⟨Z0, false, rfl, HNO, below_setCells _ _ _ HB3.out hwr⟩
    exact one_res _ _ rb Z0 false (World.rangeAt_setCells_same _ _ _ _ (HT3.out)) rfl rfl
  have hgt : decide ((N1 : Int) > 999) = false := decide_eq_false (by omega)
  obtain ⟨S2, hS2⟩ : ∃ S2, S2 = K0 + K1 := ⟨_, rfl⟩
  have HS2 := Lib.hid hS2
  rw [← hS2] at hsum HX2 HZ2
  have hsi : ((K0 : Int) + (K1 : Int)) = (S2 : Int) := by omega
  have hsn : (S2 : Int) ≤ (V.size : Int) := by omega
  clear hS2
  obtain ⟨CC, hCC⟩ : ∃ CC : Int, CC = (k1.toNat : Int) - 48 := ⟨_, rfl⟩
  have HCC := Lib.hid hCC
  have HCW := Lib.hid (conv48 k1)
  rw [← hCC] at HRD
  clear hCC
  have hrl : rb < w3.heap.size := by
    obtain ⟨u, hu⟩ := Option.isSome_iff_exists.1 (HT3.out 0 (by omega)).1
    exact block_lt_of_cell hu
  have HBS := Lib.hid (show K0 ≤ V.size ∧ K1 ≤ V1.size from ⟨hK0, hK1⟩)
  clear hK0 hK0i hK1 hN0 hN1 h2b h116 h117
  have hcA := HCW.out.1
  have hcB : IntKind.i64.wrap CC = CC := by rw [HCC.out]; exact HCW.out.2.1
  have hcC := HCW.out.2.2.1
  have hcD : wrap64 CC = CC := by rw [HCC.out]; exact HCW.out.2.2.2
  have hcE : (k1.toNat : Int) - 48 = CC := HCC.out.symm
  rcases takeR14 V2 (by have := HZ2.out; omega) with ⟨hnn, C, hC, hT⟩ | ⟨N2, K2, hK2, hN2, hnn, hT⟩
  · have HON := Lib.hid (show oneP (K, V) = none by unfold oneP; rw [HN0.out (by rw [HVV.out, hnn]; rfl)]; rfl)
    have HT2 := Lib.hid (show ∀ W, Calls Try.prog 54 #[.string (V.extract S2 V.size)] W fun e w' => e = .returned (.tuple #[.int .i64 0, .int .i64 0, .int .i64 C]) ∧ W = w' from by rw [← HX2.out]; exact hT)
    have hC1 : (C != 0) = true := by simpa using hC
    have hC2 : (C == 0) = false := by rw [beq_eq_false_iff_ne]; exact hC
    obtain ⟨hb, hhb⟩ : ∃ hb : Bool, hb = false := ⟨_, rfl⟩
    have HHB := Lib.hid hhb
    clear hnn hT hC hhb
    go_wp2_with fail
    refine (HT2.out _).mono ?_
    rintro e w' ⟨rfl, rfl⟩
    obtain rfl := HHB.out
    go_upto_region 11 with fail
    have HXB2 := Lib.hid (SBox.new w3 39 ⟨CC, N0, N1, ⟨#[]⟩, false, none, 0, 0, ⟨#[]⟩⟩)
    have hal := box_bel14 w3 (.cells #[.int .i64 CC, .int .i64 (N0 : Int), .int .i64 (N1 : Int), .string ⟨#[]⟩, .bool false, .slice none 0 0, .string ⟨#[]⟩] 39)
    have HT4 := Lib.hid (there_below HT3.out hrl hal)
    have HB4 := Lib.hid (HB3.out.trans (hal.mono HB3.out.size))
    have HS4 := Lib.hid (HS3.out.below hal)
    have hrl4 := Nat.lt_of_lt_of_le hrl hal.size
    have hry : ¬ rb = w3.heap.size := by omega
    clear hal q0 q1 q2
    generalize w3.alloc (.cells #[.int .i64 CC, .int .i64 (N0 : Int), .int .i64 (N1 : Int), .string ⟨#[]⟩, .bool false, .slice none 0 0, .string ⟨#[]⟩] 39) = w4 at *
    generalize w3.heap.size = yb at *
    have HKF := Lib.hid (fun (W : World) (hW : Below w4.heap.size w4 W) => facts7 HT4.out hrl4 HS4.out HXB2.out hW)
    obtain ⟨⟨s0, s1, s2, s3, s4, s5, s6, q1⟩, ⟨r0, r1, r2, r3, r4, r5, r6⟩, f0, f1, f2, f3, f4, f5, f6, rl⟩ := HKF.out w4 (Below.refl _ _)
    simp only at s0 s1 s2 s3 s4 s5 s6
    obtain ⟨a0, r0⟩ := r0
    obtain ⟨a1, r1⟩ := r1
    obtain ⟨a2, r2⟩ := r2
    obtain ⟨a3, r3⟩ := r3
    obtain ⟨a4, r4⟩ := r4
    obtain ⟨a5, r5⟩ := r5
    obtain ⟨a6, r6⟩ := r6
    refine sched_region (D := (fun w' => w'.cell? ⟨yb, 0, none⟩ = some (.int .i64 CC) ∧ w'.cell? ⟨yb, 1, none⟩ = some (.int .i64 (N0 : Int)) ∧ w'.cell? ⟨yb, 2, none⟩ = some (.int .i64 (N1 : Int)) ∧ w'.cell? ⟨yb, 3, none⟩ = some (.string ⟨#[]⟩) ∧ w'.cell? ⟨yb, 4, none⟩ = some (.bool false) ∧ w'.cell? ⟨yb, 5, none⟩ = some (.slice none 0 0) ∧ w'.cell? ⟨yb, 6, none⟩ = some (.string ⟨#[]⟩) ∧ w'.cell? ⟨xb, 1, none⟩ = some (.string V))) [(true, 0), (true, 1), (true, 2), (true, 3), (true, 4), (true, 5), (true, 6), (true, 7), (true, 8), (true, 9), (true, 10), (true, 11), (true, 12), (true, 13), (true, 14), (true, 15), (true, 16), (true, 17), (true, 18), (true, 19), (true, 20), (true, 21), (false, 22), (false, 23)] 23 (by kernel_rfl) (by kernel_rfl) (by kernel_rfl) (by decide) (by rfl) ⟨s0, s1, s2, s3, s4, s5, s6, q1⟩ ?_
    simp only [opsG, List.filterMap_cons, List.filterMap_nil, List.getElem?_cons_zero, List.getElem?_cons_succ, Option.map_some]
    apply g_want (by kernel_rfl)
    · intro w' hw'
      obtain ⟨hwa', hwb', hwc', hwd', hwe', hwf', hwg', hwh'⟩ := hw'
      go_simp
      first
      | done
      | exact rfl
    simp only [Act.put, Act.eval, List.setIfInBounds_toArray, List.set_cons_zero, List.set_cons_succ, Array.getD_eq_getD_getElem?, List.getElem?_toArray, List.getElem?_cons_zero, List.getElem?_cons_succ, Option.getD_some]
    refine g_move _ (by kernel_rfl) rfl ?_
    simp only [Act.put, Act.eval, List.setIfInBounds_toArray, List.set_cons_zero, List.set_cons_succ, Array.getD_eq_getD_getElem?, List.getElem?_toArray, List.getElem?_cons_zero, List.getElem?_cons_succ, Option.getD_some]
    apply g_want (by kernel_rfl)
    · intro w' hw'
      obtain ⟨hwa', hwb', hwc', hwd', hwe', hwf', hwg', hwh'⟩ := hw'
      go_simp
      first
      | done
      | exact rfl
    simp only [Act.put, Act.eval, List.setIfInBounds_toArray, List.set_cons_zero, List.set_cons_succ, Array.getD_eq_getD_getElem?, List.getElem?_toArray, List.getElem?_cons_zero, List.getElem?_cons_succ, Option.getD_some]
    refine g_move _ (by kernel_rfl) rfl ?_
    simp only [Act.put, Act.eval, List.setIfInBounds_toArray, List.set_cons_zero, List.set_cons_succ, Array.getD_eq_getD_getElem?, List.getElem?_toArray, List.getElem?_cons_zero, List.getElem?_cons_succ, Option.getD_some]
    refine g_skip (by kernel_rfl) ?_
    simp only [Act.put, Act.eval, List.setIfInBounds_toArray, List.set_cons_zero, List.set_cons_succ, Array.getD_eq_getD_getElem?, List.getElem?_toArray, List.getElem?_cons_zero, List.getElem?_cons_succ, Option.getD_some]
    refine g_skip (by kernel_rfl) ?_
    simp only [Act.put, Act.eval, List.setIfInBounds_toArray, List.set_cons_zero, List.set_cons_succ, Array.getD_eq_getD_getElem?, List.getElem?_toArray, List.getElem?_cons_zero, List.getElem?_cons_succ, Option.getD_some]
    refine g_skip (by kernel_rfl) ?_
    simp only [Act.put, Act.eval, List.setIfInBounds_toArray, List.set_cons_zero, List.set_cons_succ, Array.getD_eq_getD_getElem?, List.getElem?_toArray, List.getElem?_cons_zero, List.getElem?_cons_succ, Option.getD_some]
    refine g_skip (by kernel_rfl) ?_
    simp only [Act.put, Act.eval, List.setIfInBounds_toArray, List.set_cons_zero, List.set_cons_succ, Array.getD_eq_getD_getElem?, List.getElem?_toArray, List.getElem?_cons_zero, List.getElem?_cons_succ, Option.getD_some]
    refine g_skip (by kernel_rfl) ?_
    simp only [Act.put, Act.eval, List.setIfInBounds_toArray, List.set_cons_zero, List.set_cons_succ, Array.getD_eq_getD_getElem?, List.getElem?_toArray, List.getElem?_cons_zero, List.getElem?_cons_succ, Option.getD_some]
    refine g_skip (by kernel_rfl) ?_
    simp only [Act.put, Act.eval, List.setIfInBounds_toArray, List.set_cons_zero, List.set_cons_succ, Array.getD_eq_getD_getElem?, List.getElem?_toArray, List.getElem?_cons_zero, List.getElem?_cons_succ, Option.getD_some]
    refine g_skip (by kernel_rfl) ?_
    simp only [Act.put, Act.eval, List.setIfInBounds_toArray, List.set_cons_zero, List.set_cons_succ, Array.getD_eq_getD_getElem?, List.getElem?_toArray, List.getElem?_cons_zero, List.getElem?_cons_succ, Option.getD_some]
    refine g_skip (by kernel_rfl) ?_
    simp only [Act.put, Act.eval, List.setIfInBounds_toArray, List.set_cons_zero, List.set_cons_succ, Array.getD_eq_getD_getElem?, List.getElem?_toArray, List.getElem?_cons_zero, List.getElem?_cons_succ, Option.getD_some]
    refine g_skip (by kernel_rfl) ?_
    simp only [Act.put, Act.eval, List.setIfInBounds_toArray, List.set_cons_zero, List.set_cons_succ, Array.getD_eq_getD_getElem?, List.getElem?_toArray, List.getElem?_cons_zero, List.getElem?_cons_succ, Option.getD_some]
    apply g_want (by kernel_rfl)
    · intro w' hw'
      obtain ⟨hwa', hwb', hwc', hwd', hwe', hwf', hwg', hwh'⟩ := hw'
      go_simp
      first
      | done
      | exact rfl
    simp only [Act.put, Act.eval, List.setIfInBounds_toArray, List.set_cons_zero, List.set_cons_succ, Array.getD_eq_getD_getElem?, List.getElem?_toArray, List.getElem?_cons_zero, List.getElem?_cons_succ, Option.getD_some]
    refine g_move _ (by kernel_rfl) rfl ?_
    simp only [Act.put, Act.eval, List.setIfInBounds_toArray, List.set_cons_zero, List.set_cons_succ, Array.getD_eq_getD_getElem?, List.getElem?_toArray, List.getElem?_cons_zero, List.getElem?_cons_succ, Option.getD_some]
    refine g_skip (by kernel_rfl) ?_
    simp only [Act.put, Act.eval, List.setIfInBounds_toArray, List.set_cons_zero, List.set_cons_succ, Array.getD_eq_getD_getElem?, List.getElem?_toArray, List.getElem?_cons_zero, List.getElem?_cons_succ, Option.getD_some]
    refine g_skip (by kernel_rfl) ?_
    simp only [Act.put, Act.eval, List.setIfInBounds_toArray, List.set_cons_zero, List.set_cons_succ, Array.getD_eq_getD_getElem?, List.getElem?_toArray, List.getElem?_cons_zero, List.getElem?_cons_succ, Option.getD_some]
    apply g_want (by kernel_rfl)
    · intro w' hw'
      obtain ⟨hwa', hwb', hwc', hwd', hwe', hwf', hwg', hwh'⟩ := hw'
      go_simp
      first
      | done
      | exact rfl
    simp only [Act.put, Act.eval, List.setIfInBounds_toArray, List.set_cons_zero, List.set_cons_succ, Array.getD_eq_getD_getElem?, List.getElem?_toArray, List.getElem?_cons_zero, List.getElem?_cons_succ, Option.getD_some]
    refine g_move _ (by kernel_rfl) rfl ?_
    simp only [Act.put, Act.eval, List.setIfInBounds_toArray, List.set_cons_zero, List.set_cons_succ, Array.getD_eq_getD_getElem?, List.getElem?_toArray, List.getElem?_cons_zero, List.getElem?_cons_succ, Option.getD_some]
    refine g_skip (by kernel_rfl) ?_
    simp only [Act.put, Act.eval, List.setIfInBounds_toArray, List.set_cons_zero, List.set_cons_succ, Array.getD_eq_getD_getElem?, List.getElem?_toArray, List.getElem?_cons_zero, List.getElem?_cons_succ, Option.getD_some]
    refine g_skip (by kernel_rfl) ?_
    simp only [Act.put, Act.eval, List.setIfInBounds_toArray, List.set_cons_zero, List.set_cons_succ, Array.getD_eq_getD_getElem?, List.getElem?_toArray, List.getElem?_cons_zero, List.getElem?_cons_succ, Option.getD_some]
    apply g_want (by kernel_rfl)
    · intro w' hw'
      obtain ⟨hwa', hwb', hwc', hwd', hwe', hwf', hwg', hwh'⟩ := hw'
      go_simp
      first
      | done
      | exact rfl
    simp only [Act.put, Act.eval, List.setIfInBounds_toArray, List.set_cons_zero, List.set_cons_succ, Array.getD_eq_getD_getElem?, List.getElem?_toArray, List.getElem?_cons_zero, List.getElem?_cons_succ, Option.getD_some]
    refine g_loud fun K hK => ?_
    go_wp2_with fail
    refine hK _ _ (fun _ => ?_) ?_
    · with_reducible refine drew7 ?_
      with_reducible refine keep7 hry hxr ?_ _ _ _ _ _ _ _
      exact ⟨s0, s1, s2, s3, s4, s5, s6, q1⟩
    clear hK K
    refine g_loud fun K hK => ?_
    go_wp2_with fail
    refine hK _ _ (fun h => absurd rfl h) ?_
    clear hK K
    refine g_nil ?_
    go_wp2_with fail
    refine bodyPost_ret (v := .tuple #[sa ⟨CC, N0, N1, ⟨#[]⟩, false, none, 0, 0, ⟨#[]⟩⟩, .bool false]) ?_ rfl ⟨⟨CC, N0, N1, ⟨#[]⟩, false, none, 0, 0, ⟨#[]⟩⟩, false, rfl, one_nb HON.out _, (chain7 HB4.out (by (first | (with_reducible exact hZ) | (with_reducible exact hZ.drew) | (with_reducible exact Below.refl _ _) | (with_reducible exact (Below.refl _ _).drew))) hwr _ _ _ _ _ _ _).drew⟩
    exact one_res _ _ rb ⟨CC, N0, N1, ⟨#[]⟩, false, none, 0, 0, ⟨#[]⟩⟩ false ((World.rangeAt_drew _ _ _ _).2 (rng7 (HKF.out _ (by (first | (with_reducible exact hZ) | (with_reducible exact hZ.drew) | (with_reducible exact Below.refl _ _) | (with_reducible exact (Below.refl _ _).drew)))).2.1 _ _ _ _ _ _ _)) rfl rfl
  have HT2 := Lib.hid (show ∀ W, Calls Try.prog 54 #[.string (V.extract S2 V.size)] W fun e w' => e = .returned (.tuple #[.int .i64 (N2 : Int), .int .i64 (K2 : Int), .int .i64 0]) ∧ W = w' from by rw [← HX2.out]; exact hT)
  have HK2 := Lib.hid hK2
  have hnil : (V2.extract K2 V2.size).data.toList = [] ↔ S2 + K2 = V.size := by
    rw [← List.length_eq_zero_iff, ← Lib.size_eq, ext_len]
    have := HZ2.out
    omega
  have hv3 : v3 V.data.toList = if N2 ≤ 1 ∧ S2 + K2 = V.size then some (N0, N1, N2) else none := by
    rw [HVV.out, hnn]
    show (if N2 ≤ 1 ∧ (V2.extract K2 V2.size).data.toList = [] then some (N0, N1, N2) else none) = _
    by_cases q : N2 ≤ 1 ∧ S2 + K2 = V.size
    · rw [if_pos q, if_pos ⟨q.1, hnil.2 q.2⟩]
    · rw [if_neg q, if_neg (fun k => q ⟨k.1, hnil.1 k.2⟩)]
  have HV3 := Lib.hid hv3
  obtain ⟨hb, hhb⟩ : ∃ hb : Bool, hb = (N2 == 1) := ⟨_, rfl⟩
  have hbq : ((N2 : Int) == 1) = hb := by
    rw [hhb]
    by_cases q : N2 = 1
    · subst q; rfl
    · have q2 : ¬ (N2 : Int) = 1 := by omega
      rw [beq_eq_false_iff_ne.2 q, beq_eq_false_iff_ne.2 q2]
  have HHB := Lib.hid hhb
  obtain ⟨T2, hT2⟩ : ∃ T2, T2 = S2 + K2 := ⟨_, rfl⟩
  have hti : ((S2 : Int) + (K2 : Int)) = (T2 : Int) := by omega
  have hwt : IntKind.i64.wrap (T2 : Int) = (T2 : Int) := IntWalk.i64_in _ (by have := HZ2.out; omega)
  have hws : IntKind.i64.wrap (S2 : Int) = (S2 : Int) := IntWalk.i64_in _ (by omega)
  rw [← hT2] at HV3
  have HTT := Lib.hid hT2
  clear hnn hT hK2 hN2 hv3 hnil hhb hT2
  go_wp2_with fail
  refine (HT2.out _).mono ?_
  rintro e w' ⟨rfl, rfl⟩
  by_cases hln : T2 = V.size
  case neg =>
    have HON := Lib.hid (show oneP (K, V) = none by unfold oneP; rw [HN0.out (by rw [HV3.out, if_neg (fun k => hln k.2)])]; rfl)
    have hl2 : ((T2 : Int) == (V.size : Int)) = false := by rw [beq_eq_false_iff_ne]; omega
    clear hln
    go_upto_region 11 with fail
    have HXB2 := Lib.hid (SBox.new w3 39 ⟨CC, N0, N1, ⟨#[]⟩, hb, none, 0, 0, ⟨#[]⟩⟩)
    have hal := box_bel14 w3 (.cells #[.int .i64 CC, .int .i64 (N0 : Int), .int .i64 (N1 : Int), .string ⟨#[]⟩, .bool hb, .slice none 0 0, .string ⟨#[]⟩] 39)
    have HT4 := Lib.hid (there_below HT3.out hrl hal)
    have HB4 := Lib.hid (HB3.out.trans (hal.mono HB3.out.size))
    have HS4 := Lib.hid (HS3.out.below hal)
    have hrl4 := Nat.lt_of_lt_of_le hrl hal.size
    have hry : ¬ rb = w3.heap.size := by omega
    clear hal q0 q1 q2
    generalize w3.alloc (.cells #[.int .i64 CC, .int .i64 (N0 : Int), .int .i64 (N1 : Int), .string ⟨#[]⟩, .bool hb, .slice none 0 0, .string ⟨#[]⟩] 39) = w4 at *
    generalize w3.heap.size = yb at *
    have HKF := Lib.hid (fun (W : World) (hW : Below w4.heap.size w4 W) => facts7 HT4.out hrl4 HS4.out HXB2.out hW)
    obtain ⟨⟨s0, s1, s2, s3, s4, s5, s6, q1⟩, ⟨r0, r1, r2, r3, r4, r5, r6⟩, f0, f1, f2, f3, f4, f5, f6, rl⟩ := HKF.out w4 (Below.refl _ _)
    simp only at s0 s1 s2 s3 s4 s5 s6
    obtain ⟨a0, r0⟩ := r0
    obtain ⟨a1, r1⟩ := r1
    obtain ⟨a2, r2⟩ := r2
    obtain ⟨a3, r3⟩ := r3
    obtain ⟨a4, r4⟩ := r4
    obtain ⟨a5, r5⟩ := r5
    obtain ⟨a6, r6⟩ := r6
    refine sched_region (D := (fun w' => w'.cell? ⟨yb, 0, none⟩ = some (.int .i64 CC) ∧ w'.cell? ⟨yb, 1, none⟩ = some (.int .i64 (N0 : Int)) ∧ w'.cell? ⟨yb, 2, none⟩ = some (.int .i64 (N1 : Int)) ∧ w'.cell? ⟨yb, 3, none⟩ = some (.string ⟨#[]⟩) ∧ w'.cell? ⟨yb, 4, none⟩ = some (.bool hb) ∧ w'.cell? ⟨yb, 5, none⟩ = some (.slice none 0 0) ∧ w'.cell? ⟨yb, 6, none⟩ = some (.string ⟨#[]⟩) ∧ w'.cell? ⟨xb, 1, none⟩ = some (.string V))) [(true, 0), (true, 1), (true, 2), (true, 3), (true, 4), (true, 5), (true, 6), (true, 7), (true, 8), (true, 9), (true, 10), (true, 11), (true, 12), (true, 13), (true, 14), (true, 15), (true, 16), (true, 17), (true, 18), (true, 19), (true, 20), (true, 21), (false, 22), (false, 23)] 23 (by kernel_rfl) (by kernel_rfl) (by kernel_rfl) (by decide) (by rfl) ⟨s0, s1, s2, s3, s4, s5, s6, q1⟩ ?_
    simp only [opsG, List.filterMap_cons, List.filterMap_nil, List.getElem?_cons_zero, List.getElem?_cons_succ, Option.map_some]
    apply g_want (by kernel_rfl)
    · intro w' hw'
      obtain ⟨hwa', hwb', hwc', hwd', hwe', hwf', hwg', hwh'⟩ := hw'
      go_simp
      first
      | done
      | exact rfl
    simp only [Act.put, Act.eval, List.setIfInBounds_toArray, List.set_cons_zero, List.set_cons_succ, Array.getD_eq_getD_getElem?, List.getElem?_toArray, List.getElem?_cons_zero, List.getElem?_cons_succ, Option.getD_some]
    refine g_move _ (by kernel_rfl) rfl ?_
    simp only [Act.put, Act.eval, List.setIfInBounds_toArray, List.set_cons_zero, List.set_cons_succ, Array.getD_eq_getD_getElem?, List.getElem?_toArray, List.getElem?_cons_zero, List.getElem?_cons_succ, Option.getD_some]
    apply g_want (by kernel_rfl)
    · intro w' hw'
      obtain ⟨hwa', hwb', hwc', hwd', hwe', hwf', hwg', hwh'⟩ := hw'
      go_simp
      first
      | done
      | exact rfl
    simp only [Act.put, Act.eval, List.setIfInBounds_toArray, List.set_cons_zero, List.set_cons_succ, Array.getD_eq_getD_getElem?, List.getElem?_toArray, List.getElem?_cons_zero, List.getElem?_cons_succ, Option.getD_some]
    refine g_move _ (by kernel_rfl) rfl ?_
    simp only [Act.put, Act.eval, List.setIfInBounds_toArray, List.set_cons_zero, List.set_cons_succ, Array.getD_eq_getD_getElem?, List.getElem?_toArray, List.getElem?_cons_zero, List.getElem?_cons_succ, Option.getD_some]
    refine g_move _ (by kernel_rfl) rfl ?_
    simp only [Act.put, Act.eval, List.setIfInBounds_toArray, List.set_cons_zero, List.set_cons_succ, Array.getD_eq_getD_getElem?, List.getElem?_toArray, List.getElem?_cons_zero, List.getElem?_cons_succ, Option.getD_some]
    refine g_move _ (by kernel_rfl) rfl ?_
    simp only [Act.put, Act.eval, List.setIfInBounds_toArray, List.set_cons_zero, List.set_cons_succ, Array.getD_eq_getD_getElem?, List.getElem?_toArray, List.getElem?_cons_zero, List.getElem?_cons_succ, Option.getD_some]
    apply g_want (by kernel_rfl)
    · intro w' hw'
      obtain ⟨hwa', hwb', hwc', hwd', hwe', hwf', hwg', hwh'⟩ := hw'
      go_simp
      first
      | done
      | exact rfl
    simp only [Act.put, Act.eval, List.setIfInBounds_toArray, List.set_cons_zero, List.set_cons_succ, Array.getD_eq_getD_getElem?, List.getElem?_toArray, List.getElem?_cons_zero, List.getElem?_cons_succ, Option.getD_some]
    refine g_move _ (by kernel_rfl) rfl ?_
    simp only [Act.put, Act.eval, List.setIfInBounds_toArray, List.set_cons_zero, List.set_cons_succ, Array.getD_eq_getD_getElem?, List.getElem?_toArray, List.getElem?_cons_zero, List.getElem?_cons_succ, Option.getD_some]
    apply g_want (by kernel_rfl)
    · intro w' hw'
      obtain ⟨hwa', hwb', hwc', hwd', hwe', hwf', hwg', hwh'⟩ := hw'
      go_simp
      first
      | done
      | exact rfl
    simp only [Act.put, Act.eval, List.setIfInBounds_toArray, List.set_cons_zero, List.set_cons_succ, Array.getD_eq_getD_getElem?, List.getElem?_toArray, List.getElem?_cons_zero, List.getElem?_cons_succ, Option.getD_some]
    apply g_want (by kernel_rfl)
    · intro w' hw'
      obtain ⟨hwa', hwb', hwc', hwd', hwe', hwf', hwg', hwh'⟩ := hw'
      go_simp
      first
      | done
      | exact rfl
    simp only [Act.put, Act.eval, List.setIfInBounds_toArray, List.set_cons_zero, List.set_cons_succ, Array.getD_eq_getD_getElem?, List.getElem?_toArray, List.getElem?_cons_zero, List.getElem?_cons_succ, Option.getD_some]
    apply g_want (by kernel_rfl)
    · intro w' hw'
      obtain ⟨hwa', hwb', hwc', hwd', hwe', hwf', hwg', hwh'⟩ := hw'
      go_simp
      first
      | done
      | exact rfl
    simp only [Act.put, Act.eval, List.setIfInBounds_toArray, List.set_cons_zero, List.set_cons_succ, Array.getD_eq_getD_getElem?, List.getElem?_toArray, List.getElem?_cons_zero, List.getElem?_cons_succ, Option.getD_some]
    apply g_want (by kernel_rfl)
    · intro w' hw'
      obtain ⟨hwa', hwb', hwc', hwd', hwe', hwf', hwg', hwh'⟩ := hw'
      go_simp
      first
      | done
      | exact rfl
    simp only [Act.put, Act.eval, List.setIfInBounds_toArray, List.set_cons_zero, List.set_cons_succ, Array.getD_eq_getD_getElem?, List.getElem?_toArray, List.getElem?_cons_zero, List.getElem?_cons_succ, Option.getD_some]
    apply g_want (by kernel_rfl)
    · intro w' hw'
      obtain ⟨hwa', hwb', hwc', hwd', hwe', hwf', hwg', hwh'⟩ := hw'
      go_simp
      first
      | done
      | exact rfl
    simp only [Act.put, Act.eval, List.setIfInBounds_toArray, List.set_cons_zero, List.set_cons_succ, Array.getD_eq_getD_getElem?, List.getElem?_toArray, List.getElem?_cons_zero, List.getElem?_cons_succ, Option.getD_some]
    apply g_want (by kernel_rfl)
    · intro w' hw'
      obtain ⟨hwa', hwb', hwc', hwd', hwe', hwf', hwg', hwh'⟩ := hw'
      go_simp
      first
      | done
      | exact rfl
    simp only [Act.put, Act.eval, List.setIfInBounds_toArray, List.set_cons_zero, List.set_cons_succ, Array.getD_eq_getD_getElem?, List.getElem?_toArray, List.getElem?_cons_zero, List.getElem?_cons_succ, Option.getD_some]
    refine g_move _ (by kernel_rfl) rfl ?_
    simp only [Act.put, Act.eval, List.setIfInBounds_toArray, List.set_cons_zero, List.set_cons_succ, Array.getD_eq_getD_getElem?, List.getElem?_toArray, List.getElem?_cons_zero, List.getElem?_cons_succ, Option.getD_some]
    refine g_skip (by kernel_rfl) ?_
    simp only [Act.put, Act.eval, List.setIfInBounds_toArray, List.set_cons_zero, List.set_cons_succ, Array.getD_eq_getD_getElem?, List.getElem?_toArray, List.getElem?_cons_zero, List.getElem?_cons_succ, Option.getD_some]
    refine g_skip (by kernel_rfl) ?_
    simp only [Act.put, Act.eval, List.setIfInBounds_toArray, List.set_cons_zero, List.set_cons_succ, Array.getD_eq_getD_getElem?, List.getElem?_toArray, List.getElem?_cons_zero, List.getElem?_cons_succ, Option.getD_some]
    apply g_want (by kernel_rfl)
    · intro w' hw'
      obtain ⟨hwa', hwb', hwc', hwd', hwe', hwf', hwg', hwh'⟩ := hw'
      go_simp
      first
      | done
      | exact rfl
    simp only [Act.put, Act.eval, List.setIfInBounds_toArray, List.set_cons_zero, List.set_cons_succ, Array.getD_eq_getD_getElem?, List.getElem?_toArray, List.getElem?_cons_zero, List.getElem?_cons_succ, Option.getD_some]
    refine g_move _ (by kernel_rfl) rfl ?_
    simp only [Act.put, Act.eval, List.setIfInBounds_toArray, List.set_cons_zero, List.set_cons_succ, Array.getD_eq_getD_getElem?, List.getElem?_toArray, List.getElem?_cons_zero, List.getElem?_cons_succ, Option.getD_some]
    refine g_skip (by kernel_rfl) ?_
    simp only [Act.put, Act.eval, List.setIfInBounds_toArray, List.set_cons_zero, List.set_cons_succ, Array.getD_eq_getD_getElem?, List.getElem?_toArray, List.getElem?_cons_zero, List.getElem?_cons_succ, Option.getD_some]
    refine g_skip (by kernel_rfl) ?_
    simp only [Act.put, Act.eval, List.setIfInBounds_toArray, List.set_cons_zero, List.set_cons_succ, Array.getD_eq_getD_getElem?, List.getElem?_toArray, List.getElem?_cons_zero, List.getElem?_cons_succ, Option.getD_some]
    apply g_want (by kernel_rfl)
    · intro w' hw'
      obtain ⟨hwa', hwb', hwc', hwd', hwe', hwf', hwg', hwh'⟩ := hw'
      go_simp
      first
      | done
      | exact rfl
    simp only [Act.put, Act.eval, List.setIfInBounds_toArray, List.set_cons_zero, List.set_cons_succ, Array.getD_eq_getD_getElem?, List.getElem?_toArray, List.getElem?_cons_zero, List.getElem?_cons_succ, Option.getD_some]
    refine g_loud fun K hK => ?_
    go_wp2_with fail
    refine hK _ _ (fun _ => ?_) ?_
    · with_reducible refine drew7 ?_
      with_reducible refine keep7 hry hxr ?_ _ _ _ _ _ _ _
      exact ⟨s0, s1, s2, s3, s4, s5, s6, q1⟩
    clear hK K
    refine g_loud fun K hK => ?_
    go_wp2_with fail
    refine hK _ _ (fun h => absurd rfl h) ?_
    clear hK K
    refine g_nil ?_
    go_wp2_with fail
    refine bodyPost_ret (v := .tuple #[sa ⟨CC, N0, N1, ⟨#[]⟩, hb, none, 0, 0, ⟨#[]⟩⟩, .bool false]) ?_ rfl ⟨⟨CC, N0, N1, ⟨#[]⟩, hb, none, 0, 0, ⟨#[]⟩⟩, false, rfl, one_nb HON.out _, (chain7 HB4.out (by (first | (with_reducible exact hZ) | (with_reducible exact hZ.drew) | (with_reducible exact Below.refl _ _) | (with_reducible exact (Below.refl _ _).drew))) hwr _ _ _ _ _ _ _).drew⟩
    exact one_res _ _ rb ⟨CC, N0, N1, ⟨#[]⟩, hb, none, 0, 0, ⟨#[]⟩⟩ false ((World.rangeAt_drew _ _ _ _).2 (rng7 (HKF.out _ (by (first | (with_reducible exact hZ) | (with_reducible exact hZ.drew) | (with_reducible exact Below.refl _ _) | (with_reducible exact (Below.refl _ _).drew)))).2.1 _ _ _ _ _ _ _)) rfl rfl
  have hl2 : ((T2 : Int) == (V.size : Int)) = true := by rw [beq_iff_eq]; omega
  by_cases hn2 : N2 ≤ 1
  case neg =>
    have HON := Lib.hid (show oneP (K, V) = none by unfold oneP; rw [HN0.out (by rw [HV3.out, if_neg (fun k => hn2 k.1)])]; rfl)
    have hl3 : decide ((N2 : Int) ≤ 1) = false := decide_eq_false (by omega)
    clear hln
    go_upto_region 11 with fail
    have HXB2 := Lib.hid (SBox.new w3 39 ⟨CC, N0, N1, ⟨#[]⟩, hb, none, 0, 0, ⟨#[]⟩⟩)
    have hal := box_bel14 w3 (.cells #[.int .i64 CC, .int .i64 (N0 : Int), .int .i64 (N1 : Int), .string ⟨#[]⟩, .bool hb, .slice none 0 0, .string ⟨#[]⟩] 39)
    have HT4 := Lib.hid (there_below HT3.out hrl hal)
    have HB4 := Lib.hid (HB3.out.trans (hal.mono HB3.out.size))
    have HS4 := Lib.hid (HS3.out.below hal)
    have hrl4 := Nat.lt_of_lt_of_le hrl hal.size
    have hry : ¬ rb = w3.heap.size := by omega
    clear hal q0 q1 q2
    generalize w3.alloc (.cells #[.int .i64 CC, .int .i64 (N0 : Int), .int .i64 (N1 : Int), .string ⟨#[]⟩, .bool hb, .slice none 0 0, .string ⟨#[]⟩] 39) = w4 at *
    generalize w3.heap.size = yb at *
    have HKF := Lib.hid (fun (W : World) (hW : Below w4.heap.size w4 W) => facts7 HT4.out hrl4 HS4.out HXB2.out hW)
    obtain ⟨⟨s0, s1, s2, s3, s4, s5, s6, q1⟩, ⟨r0, r1, r2, r3, r4, r5, r6⟩, f0, f1, f2, f3, f4, f5, f6, rl⟩ := HKF.out w4 (Below.refl _ _)
    simp only at s0 s1 s2 s3 s4 s5 s6
    obtain ⟨a0, r0⟩ := r0
    obtain ⟨a1, r1⟩ := r1
    obtain ⟨a2, r2⟩ := r2
    obtain ⟨a3, r3⟩ := r3
    obtain ⟨a4, r4⟩ := r4
    obtain ⟨a5, r5⟩ := r5
    obtain ⟨a6, r6⟩ := r6
    refine sched_region (D := (fun w' => w'.cell? ⟨yb, 0, none⟩ = some (.int .i64 CC) ∧ w'.cell? ⟨yb, 1, none⟩ = some (.int .i64 (N0 : Int)) ∧ w'.cell? ⟨yb, 2, none⟩ = some (.int .i64 (N1 : Int)) ∧ w'.cell? ⟨yb, 3, none⟩ = some (.string ⟨#[]⟩) ∧ w'.cell? ⟨yb, 4, none⟩ = some (.bool hb) ∧ w'.cell? ⟨yb, 5, none⟩ = some (.slice none 0 0) ∧ w'.cell? ⟨yb, 6, none⟩ = some (.string ⟨#[]⟩) ∧ w'.cell? ⟨xb, 1, none⟩ = some (.string V))) [(true, 0), (true, 1), (true, 2), (true, 3), (true, 4), (true, 5), (true, 6), (true, 7), (true, 8), (true, 9), (true, 10), (true, 11), (true, 12), (true, 13), (true, 14), (true, 15), (true, 16), (true, 17), (true, 18), (true, 19), (true, 20), (true, 21), (false, 22), (false, 23)] 23 (by kernel_rfl) (by kernel_rfl) (by kernel_rfl) (by decide) (by rfl) ⟨s0, s1, s2, s3, s4, s5, s6, q1⟩ ?_
    simp only [opsG, List.filterMap_cons, List.filterMap_nil, List.getElem?_cons_zero, List.getElem?_cons_succ, Option.map_some]
    apply g_want (by kernel_rfl)
    · intro w' hw'
      obtain ⟨hwa', hwb', hwc', hwd', hwe', hwf', hwg', hwh'⟩ := hw'
      go_simp
      first
      | done
      | exact rfl
    simp only [Act.put, Act.eval, List.setIfInBounds_toArray, List.set_cons_zero, List.set_cons_succ, Array.getD_eq_getD_getElem?, List.getElem?_toArray, List.getElem?_cons_zero, List.getElem?_cons_succ, Option.getD_some]
    refine g_move _ (by kernel_rfl) rfl ?_
    simp only [Act.put, Act.eval, List.setIfInBounds_toArray, List.set_cons_zero, List.set_cons_succ, Array.getD_eq_getD_getElem?, List.getElem?_toArray, List.getElem?_cons_zero, List.getElem?_cons_succ, Option.getD_some]
    apply g_want (by kernel_rfl)
    · intro w' hw'
      obtain ⟨hwa', hwb', hwc', hwd', hwe', hwf', hwg', hwh'⟩ := hw'
      go_simp
      first
      | done
      | exact rfl
    simp only [Act.put, Act.eval, List.setIfInBounds_toArray, List.set_cons_zero, List.set_cons_succ, Array.getD_eq_getD_getElem?, List.getElem?_toArray, List.getElem?_cons_zero, List.getElem?_cons_succ, Option.getD_some]
    refine g_move _ (by kernel_rfl) rfl ?_
    simp only [Act.put, Act.eval, List.setIfInBounds_toArray, List.set_cons_zero, List.set_cons_succ, Array.getD_eq_getD_getElem?, List.getElem?_toArray, List.getElem?_cons_zero, List.getElem?_cons_succ, Option.getD_some]
    refine g_move _ (by kernel_rfl) rfl ?_
    simp only [Act.put, Act.eval, List.setIfInBounds_toArray, List.set_cons_zero, List.set_cons_succ, Array.getD_eq_getD_getElem?, List.getElem?_toArray, List.getElem?_cons_zero, List.getElem?_cons_succ, Option.getD_some]
    refine g_move _ (by kernel_rfl) rfl ?_
    simp only [Act.put, Act.eval, List.setIfInBounds_toArray, List.set_cons_zero, List.set_cons_succ, Array.getD_eq_getD_getElem?, List.getElem?_toArray, List.getElem?_cons_zero, List.getElem?_cons_succ, Option.getD_some]
    apply g_want (by kernel_rfl)
    · intro w' hw'
      obtain ⟨hwa', hwb', hwc', hwd', hwe', hwf', hwg', hwh'⟩ := hw'
      go_simp
      first
      | done
      | exact rfl
    simp only [Act.put, Act.eval, List.setIfInBounds_toArray, List.set_cons_zero, List.set_cons_succ, Array.getD_eq_getD_getElem?, List.getElem?_toArray, List.getElem?_cons_zero, List.getElem?_cons_succ, Option.getD_some]
    refine g_move _ (by kernel_rfl) rfl ?_
    simp only [Act.put, Act.eval, List.setIfInBounds_toArray, List.set_cons_zero, List.set_cons_succ, Array.getD_eq_getD_getElem?, List.getElem?_toArray, List.getElem?_cons_zero, List.getElem?_cons_succ, Option.getD_some]
    apply g_want (by kernel_rfl)
    · intro w' hw'
      obtain ⟨hwa', hwb', hwc', hwd', hwe', hwf', hwg', hwh'⟩ := hw'
      go_simp
      first
      | done
      | exact rfl
    simp only [Act.put, Act.eval, List.setIfInBounds_toArray, List.set_cons_zero, List.set_cons_succ, Array.getD_eq_getD_getElem?, List.getElem?_toArray, List.getElem?_cons_zero, List.getElem?_cons_succ, Option.getD_some]
    apply g_want (by kernel_rfl)
    · intro w' hw'
      obtain ⟨hwa', hwb', hwc', hwd', hwe', hwf', hwg', hwh'⟩ := hw'
      go_simp
      first
      | done
      | exact rfl
    simp only [Act.put, Act.eval, List.setIfInBounds_toArray, List.set_cons_zero, List.set_cons_succ, Array.getD_eq_getD_getElem?, List.getElem?_toArray, List.getElem?_cons_zero, List.getElem?_cons_succ, Option.getD_some]
    apply g_want (by kernel_rfl)
    · intro w' hw'
      obtain ⟨hwa', hwb', hwc', hwd', hwe', hwf', hwg', hwh'⟩ := hw'
      go_simp
      first
      | done
      | exact rfl
    simp only [Act.put, Act.eval, List.setIfInBounds_toArray, List.set_cons_zero, List.set_cons_succ, Array.getD_eq_getD_getElem?, List.getElem?_toArray, List.getElem?_cons_zero, List.getElem?_cons_succ, Option.getD_some]
    apply g_want (by kernel_rfl)
    · intro w' hw'
      obtain ⟨hwa', hwb', hwc', hwd', hwe', hwf', hwg', hwh'⟩ := hw'
      go_simp
      first
      | done
      | exact rfl
    simp only [Act.put, Act.eval, List.setIfInBounds_toArray, List.set_cons_zero, List.set_cons_succ, Array.getD_eq_getD_getElem?, List.getElem?_toArray, List.getElem?_cons_zero, List.getElem?_cons_succ, Option.getD_some]
    apply g_want (by kernel_rfl)
    · intro w' hw'
      obtain ⟨hwa', hwb', hwc', hwd', hwe', hwf', hwg', hwh'⟩ := hw'
      go_simp
      first
      | done
      | exact rfl
    simp only [Act.put, Act.eval, List.setIfInBounds_toArray, List.set_cons_zero, List.set_cons_succ, Array.getD_eq_getD_getElem?, List.getElem?_toArray, List.getElem?_cons_zero, List.getElem?_cons_succ, Option.getD_some]
    apply g_want (by kernel_rfl)
    · intro w' hw'
      obtain ⟨hwa', hwb', hwc', hwd', hwe', hwf', hwg', hwh'⟩ := hw'
      go_simp
      first
      | done
      | exact rfl
    simp only [Act.put, Act.eval, List.setIfInBounds_toArray, List.set_cons_zero, List.set_cons_succ, Array.getD_eq_getD_getElem?, List.getElem?_toArray, List.getElem?_cons_zero, List.getElem?_cons_succ, Option.getD_some]
    refine g_move _ (by kernel_rfl) rfl ?_
    simp only [Act.put, Act.eval, List.setIfInBounds_toArray, List.set_cons_zero, List.set_cons_succ, Array.getD_eq_getD_getElem?, List.getElem?_toArray, List.getElem?_cons_zero, List.getElem?_cons_succ, Option.getD_some]
    refine g_move _ (by kernel_rfl) rfl ?_
    simp only [Act.put, Act.eval, List.setIfInBounds_toArray, List.set_cons_zero, List.set_cons_succ, Array.getD_eq_getD_getElem?, List.getElem?_toArray, List.getElem?_cons_zero, List.getElem?_cons_succ, Option.getD_some]
    apply g_want (by kernel_rfl)
    · intro w' hw'
      obtain ⟨hwa', hwb', hwc', hwd', hwe', hwf', hwg', hwh'⟩ := hw'
      go_simp
      first
      | done
      | exact rfl
    simp only [Act.put, Act.eval, List.setIfInBounds_toArray, List.set_cons_zero, List.set_cons_succ, Array.getD_eq_getD_getElem?, List.getElem?_toArray, List.getElem?_cons_zero, List.getElem?_cons_succ, Option.getD_some]
    apply g_want (by kernel_rfl)
    · intro w' hw'
      obtain ⟨hwa', hwb', hwc', hwd', hwe', hwf', hwg', hwh'⟩ := hw'
      go_simp
      first
      | done
      | exact rfl
    simp only [Act.put, Act.eval, List.setIfInBounds_toArray, List.set_cons_zero, List.set_cons_succ, Array.getD_eq_getD_getElem?, List.getElem?_toArray, List.getElem?_cons_zero, List.getElem?_cons_succ, Option.getD_some]
    refine g_move _ (by kernel_rfl) rfl ?_
    simp only [Act.put, Act.eval, List.setIfInBounds_toArray, List.set_cons_zero, List.set_cons_succ, Array.getD_eq_getD_getElem?, List.getElem?_toArray, List.getElem?_cons_zero, List.getElem?_cons_succ, Option.getD_some]
    refine g_skip (by kernel_rfl) ?_
    simp only [Act.put, Act.eval, List.setIfInBounds_toArray, List.set_cons_zero, List.set_cons_succ, Array.getD_eq_getD_getElem?, List.getElem?_toArray, List.getElem?_cons_zero, List.getElem?_cons_succ, Option.getD_some]
    refine g_skip (by kernel_rfl) ?_
    simp only [Act.put, Act.eval, List.setIfInBounds_toArray, List.set_cons_zero, List.set_cons_succ, Array.getD_eq_getD_getElem?, List.getElem?_toArray, List.getElem?_cons_zero, List.getElem?_cons_succ, Option.getD_some]
    apply g_want (by kernel_rfl)
    · intro w' hw'
      obtain ⟨hwa', hwb', hwc', hwd', hwe', hwf', hwg', hwh'⟩ := hw'
      go_simp
      first
      | done
      | exact rfl
    simp only [Act.put, Act.eval, List.setIfInBounds_toArray, List.set_cons_zero, List.set_cons_succ, Array.getD_eq_getD_getElem?, List.getElem?_toArray, List.getElem?_cons_zero, List.getElem?_cons_succ, Option.getD_some]
    refine g_loud fun K hK => ?_
    go_wp2_with fail
    refine hK _ _ (fun _ => ?_) ?_
    · with_reducible refine drew7 ?_
      with_reducible refine keep7 hry hxr ?_ _ _ _ _ _ _ _
      exact ⟨s0, s1, s2, s3, s4, s5, s6, q1⟩
    clear hK K
    refine g_loud fun K hK => ?_
    go_wp2_with fail
    refine hK _ _ (fun h => absurd rfl h) ?_
    clear hK K
    refine g_nil ?_
    go_wp2_with fail
    refine bodyPost_ret (v := .tuple #[sa ⟨CC, N0, N1, ⟨#[]⟩, hb, none, 0, 0, ⟨#[]⟩⟩, .bool false]) ?_ rfl ⟨⟨CC, N0, N1, ⟨#[]⟩, hb, none, 0, 0, ⟨#[]⟩⟩, false, rfl, one_nb HON.out _, (chain7 HB4.out (by (first | (with_reducible exact hZ) | (with_reducible exact hZ.drew) | (with_reducible exact Below.refl _ _) | (with_reducible exact (Below.refl _ _).drew))) hwr _ _ _ _ _ _ _).drew⟩
    exact one_res _ _ rb ⟨CC, N0, N1, ⟨#[]⟩, hb, none, 0, 0, ⟨#[]⟩⟩ false ((World.rangeAt_drew _ _ _ _).2 (rng7 (HKF.out _ (by (first | (with_reducible exact hZ) | (with_reducible exact hZ.drew) | (with_reducible exact Below.refl _ _) | (with_reducible exact (Below.refl _ _).drew)))).2.1 _ _ _ _ _ _ _)) rfl rfl
  have hl3 : decide ((N2 : Int) ≤ 1) = true := decide_eq_true (by omega)
  have hrd2 : rdP (K, V) = some ⟨CC, N0, N1, ⟨#[]⟩, hb, none, 0, 0, ⟨#[]⟩⟩ := by rw [HRD.out N2 (by rw [HV3.out, if_pos ⟨hn2, hln⟩]), HHB.out]
  obtain ⟨r, hr⟩ : ∃ r, r = mayS ⟨CC, N0, N1, ⟨#[]⟩, hb, none, 0, 0, ⟨#[]⟩⟩ := ⟨_, rfl⟩
  have HMY := Lib.hid (rmay14_any ⟨CC, N0, N1, ⟨#[]⟩, hb, none, 0, 0, ⟨#[]⟩⟩ r hr.symm)
  have HON := Lib.hid (show oneP (K, V) = if r = true then some ⟨CC, N0, N1, ⟨#[]⟩, hb, none, 0, 0, ⟨#[]⟩⟩ else none by
    unfold oneP
    rw [hrd2, hr]; rfl)
  clear hrd2 hr hln
  go_upto_region 11 with fail
  have HXB2 := Lib.hid (SBox.new w3 39 ⟨CC, N0, N1, ⟨#[]⟩, hb, none, 0, 0, ⟨#[]⟩⟩)
  have hal := box_bel14 w3 (.cells #[.int .i64 CC, .int .i64 (N0 : Int), .int .i64 (N1 : Int), .string ⟨#[]⟩, .bool hb, .slice none 0 0, .string ⟨#[]⟩] 39)
  have HT4 := Lib.hid (there_below HT3.out hrl hal)
  have HB4 := Lib.hid (HB3.out.trans (hal.mono HB3.out.size))
  have HS4 := Lib.hid (HS3.out.below hal)
  have hrl4 := Nat.lt_of_lt_of_le hrl hal.size
  have hry : ¬ rb = w3.heap.size := by omega
  clear hal q0 q1 q2
  generalize w3.alloc (.cells #[.int .i64 CC, .int .i64 (N0 : Int), .int .i64 (N1 : Int), .string ⟨#[]⟩, .bool hb, .slice none 0 0, .string ⟨#[]⟩] 39) = w4 at *
  generalize w3.heap.size = yb at *
  have HKF := Lib.hid (fun (W : World) (hW : Below w4.heap.size w4 W) => facts7 HT4.out hrl4 HS4.out HXB2.out hW)
  obtain ⟨⟨s0, s1, s2, s3, s4, s5, s6, q1⟩, ⟨r0, r1, r2, r3, r4, r5, r6⟩, f0, f1, f2, f3, f4, f5, f6, rl⟩ := HKF.out w4 (Below.refl _ _)
  simp only at s0 s1 s2 s3 s4 s5 s6
  obtain ⟨a0, r0⟩ := r0
  obtain ⟨a1, r1⟩ := r1
  obtain ⟨a2, r2⟩ := r2
  obtain ⟨a3, r3⟩ := r3
  obtain ⟨a4, r4⟩ := r4
  obtain ⟨a5, r5⟩ := r5
  obtain ⟨a6, r6⟩ := r6
  refine sched_region (D := (fun w' => w'.cell? ⟨yb, 0, none⟩ = some (.int .i64 CC) ∧ w'.cell? ⟨yb, 1, none⟩ = some (.int .i64 (N0 : Int)) ∧ w'.cell? ⟨yb, 2, none⟩ = some (.int .i64 (N1 : Int)) ∧ w'.cell? ⟨yb, 3, none⟩ = some (.string ⟨#[]⟩) ∧ w'.cell? ⟨yb, 4, none⟩ = some (.bool hb) ∧ w'.cell? ⟨yb, 5, none⟩ = some (.slice none 0 0) ∧ w'.cell? ⟨yb, 6, none⟩ = some (.string ⟨#[]⟩) ∧ w'.cell? ⟨xb, 1, none⟩ = some (.string V))) [(true, 0), (true, 1), (true, 2), (true, 3), (true, 4), (true, 5), (true, 6), (true, 7), (true, 8), (true, 9), (true, 10), (true, 11), (true, 12), (true, 13), (true, 14), (true, 15), (true, 16), (true, 17), (true, 18), (true, 19), (false, 20), (true, 21), (false, 22), (false, 23)] 23 (by kernel_rfl) (by kernel_rfl) (by kernel_rfl) (by decide) (by rfl) ⟨s0, s1, s2, s3, s4, s5, s6, q1⟩ ?_
  simp only [opsG, List.filterMap_cons, List.filterMap_nil, List.getElem?_cons_zero, List.getElem?_cons_succ, Option.map_some]
  apply g_want (by kernel_rfl)
  · intro w' hw'
    obtain ⟨hwa', hwb', hwc', hwd', hwe', hwf', hwg', hwh'⟩ := hw'
    go_simp
    first
    | done
    | exact rfl
  simp only [Act.put, Act.eval, List.setIfInBounds_toArray, List.set_cons_zero, List.set_cons_succ, Array.getD_eq_getD_getElem?, List.getElem?_toArray, List.getElem?_cons_zero, List.getElem?_cons_succ, Option.getD_some]
  refine g_move _ (by kernel_rfl) rfl ?_
  simp only [Act.put, Act.eval, List.setIfInBounds_toArray, List.set_cons_zero, List.set_cons_succ, Array.getD_eq_getD_getElem?, List.getElem?_toArray, List.getElem?_cons_zero, List.getElem?_cons_succ, Option.getD_some]
  apply g_want (by kernel_rfl)
  · intro w' hw'
    obtain ⟨hwa', hwb', hwc', hwd', hwe', hwf', hwg', hwh'⟩ := hw'
    go_simp
    first
    | done
    | exact rfl
  simp only [Act.put, Act.eval, List.setIfInBounds_toArray, List.set_cons_zero, List.set_cons_succ, Array.getD_eq_getD_getElem?, List.getElem?_toArray, List.getElem?_cons_zero, List.getElem?_cons_succ, Option.getD_some]
  refine g_move _ (by kernel_rfl) rfl ?_
  simp only [Act.put, Act.eval, List.setIfInBounds_toArray, List.set_cons_zero, List.set_cons_succ, Array.getD_eq_getD_getElem?, List.getElem?_toArray, List.getElem?_cons_zero, List.getElem?_cons_succ, Option.getD_some]
  refine g_move _ (by kernel_rfl) rfl ?_
  simp only [Act.put, Act.eval, List.setIfInBounds_toArray, List.set_cons_zero, List.set_cons_succ, Array.getD_eq_getD_getElem?, List.getElem?_toArray, List.getElem?_cons_zero, List.getElem?_cons_succ, Option.getD_some]
  refine g_move _ (by kernel_rfl) rfl ?_
  simp only [Act.put, Act.eval, List.setIfInBounds_toArray, List.set_cons_zero, List.set_cons_succ, Array.getD_eq_getD_getElem?, List.getElem?_toArray, List.getElem?_cons_zero, List.getElem?_cons_succ, Option.getD_some]
  apply g_want (by kernel_rfl)
  · intro w' hw'
    obtain ⟨hwa', hwb', hwc', hwd', hwe', hwf', hwg', hwh'⟩ := hw'
    go_simp
    first
    | done
    | exact rfl
  simp only [Act.put, Act.eval, List.setIfInBounds_toArray, List.set_cons_zero, List.set_cons_succ, Array.getD_eq_getD_getElem?, List.getElem?_toArray, List.getElem?_cons_zero, List.getElem?_cons_succ, Option.getD_some]
  refine g_move _ (by kernel_rfl) rfl ?_
  simp only [Act.put, Act.eval, List.setIfInBounds_toArray, List.set_cons_zero, List.set_cons_succ, Array.getD_eq_getD_getElem?, List.getElem?_toArray, List.getElem?_cons_zero, List.getElem?_cons_succ, Option.getD_some]
  apply g_want (by kernel_rfl)
  · intro w' hw'
    obtain ⟨hwa', hwb', hwc', hwd', hwe', hwf', hwg', hwh'⟩ := hw'
    go_simp
    first
    | done
    | exact rfl
  simp only [Act.put, Act.eval, List.setIfInBounds_toArray, List.set_cons_zero, List.set_cons_succ, Array.getD_eq_getD_getElem?, List.getElem?_toArray, List.getElem?_cons_zero, List.getElem?_cons_succ, Option.getD_some]
  apply g_want (by kernel_rfl)
  · intro w' hw'
    obtain ⟨hwa', hwb', hwc', hwd', hwe', hwf', hwg', hwh'⟩ := hw'
    go_simp
    first
    | done
    | exact rfl
  simp only [Act.put, Act.eval, List.setIfInBounds_toArray, List.set_cons_zero, List.set_cons_succ, Array.getD_eq_getD_getElem?, List.getElem?_toArray, List.getElem?_cons_zero, List.getElem?_cons_succ, Option.getD_some]
  apply g_want (by kernel_rfl)
  · intro w' hw'
    obtain ⟨hwa', hwb', hwc', hwd', hwe', hwf', hwg', hwh'⟩ := hw'
    go_simp
    first
    | done
    | exact rfl
  simp only [Act.put, Act.eval, List.setIfInBounds_toArray, List.set_cons_zero, List.set_cons_succ, Array.getD_eq_getD_getElem?, List.getElem?_toArray, List.getElem?_cons_zero, List.getElem?_cons_succ, Option.getD_some]
  apply g_want (by kernel_rfl)
  · intro w' hw'
    obtain ⟨hwa', hwb', hwc', hwd', hwe', hwf', hwg', hwh'⟩ := hw'
    go_simp
    first
    | done
    | exact rfl
  simp only [Act.put, Act.eval, List.setIfInBounds_toArray, List.set_cons_zero, List.set_cons_succ, Array.getD_eq_getD_getElem?, List.getElem?_toArray, List.getElem?_cons_zero, List.getElem?_cons_succ, Option.getD_some]
  apply g_want (by kernel_rfl)
  · intro w' hw'
    obtain ⟨hwa', hwb', hwc', hwd', hwe', hwf', hwg', hwh'⟩ := hw'
    go_simp
    first
    | done
    | exact rfl
  simp only [Act.put, Act.eval, List.setIfInBounds_toArray, List.set_cons_zero, List.set_cons_succ, Array.getD_eq_getD_getElem?, List.getElem?_toArray, List.getElem?_cons_zero, List.getElem?_cons_succ, Option.getD_some]
  apply g_want (by kernel_rfl)
  · intro w' hw'
    obtain ⟨hwa', hwb', hwc', hwd', hwe', hwf', hwg', hwh'⟩ := hw'
    go_simp
    first
    | done
    | exact rfl
  simp only [Act.put, Act.eval, List.setIfInBounds_toArray, List.set_cons_zero, List.set_cons_succ, Array.getD_eq_getD_getElem?, List.getElem?_toArray, List.getElem?_cons_zero, List.getElem?_cons_succ, Option.getD_some]
  refine g_move _ (by kernel_rfl) rfl ?_
  simp only [Act.put, Act.eval, List.setIfInBounds_toArray, List.set_cons_zero, List.set_cons_succ, Array.getD_eq_getD_getElem?, List.getElem?_toArray, List.getElem?_cons_zero, List.getElem?_cons_succ, Option.getD_some]
  refine g_move _ (by kernel_rfl) rfl ?_
  simp only [Act.put, Act.eval, List.setIfInBounds_toArray, List.set_cons_zero, List.set_cons_succ, Array.getD_eq_getD_getElem?, List.getElem?_toArray, List.getElem?_cons_zero, List.getElem?_cons_succ, Option.getD_some]
  apply g_want (by kernel_rfl)
  · intro w' hw'
    obtain ⟨hwa', hwb', hwc', hwd', hwe', hwf', hwg', hwh'⟩ := hw'
    go_simp
    first
    | done
    | exact rfl
  simp only [Act.put, Act.eval, List.setIfInBounds_toArray, List.set_cons_zero, List.set_cons_succ, Array.getD_eq_getD_getElem?, List.getElem?_toArray, List.getElem?_cons_zero, List.getElem?_cons_succ, Option.getD_some]
  apply g_want (by kernel_rfl)
  · intro w' hw'
    obtain ⟨hwa', hwb', hwc', hwd', hwe', hwf', hwg', hwh'⟩ := hw'
    go_simp
    first
    | done
    | exact rfl
  simp only [Act.put, Act.eval, List.setIfInBounds_toArray, List.set_cons_zero, List.set_cons_succ, Array.getD_eq_getD_getElem?, List.getElem?_toArray, List.getElem?_cons_zero, List.getElem?_cons_succ, Option.getD_some]
  refine g_move _ (by kernel_rfl) rfl ?_
  simp only [Act.put, Act.eval, List.setIfInBounds_toArray, List.set_cons_zero, List.set_cons_succ, Array.getD_eq_getD_getElem?, List.getElem?_toArray, List.getElem?_cons_zero, List.getElem?_cons_succ, Option.getD_some]
  apply g_want (by kernel_rfl)
  · intro w' hw'
    obtain ⟨hwa', hwb', hwc', hwd', hwe', hwf', hwg', hwh'⟩ := hw'
    go_simp
    first
    | done
    | exact rfl
  simp only [Act.put, Act.eval, List.setIfInBounds_toArray, List.set_cons_zero, List.set_cons_succ, Array.getD_eq_getD_getElem?, List.getElem?_toArray, List.getElem?_cons_zero, List.getElem?_cons_succ, Option.getD_some]
  refine g_loud fun K hK => ?_
  go_wp2_with fail
  (with_reducible refine (HMY.out _).mono ?_)
  rintro e w5 ⟨rfl, bb⟩
  have hZ0 := bchain (w := w4) bb (by (first | (with_reducible exact hZ) | (with_reducible exact hZ.drew) | (with_reducible exact Below.refl _ _) | (with_reducible exact (Below.refl _ _).drew)))
  have hZ := hZ0
  obtain ⟨⟨t0, t1, t2, t3, t4, t5, t6, tq⟩, ⟨⟨b0, v0⟩, ⟨b1, v1⟩, ⟨b2, v2⟩, ⟨b3, v3⟩, ⟨b4, v4⟩, ⟨b5, v5⟩, ⟨b6, v6⟩⟩, u0, u1, u2, u3, u4, u5, u6, ul⟩ := HKF.out _ hZ0
  go_wp2_with fail
  refine hK _ _ (fun _ => ⟨t0, t1, t2, t3, t4, t5, t6, tq⟩) ?_
  clear hK K
  apply g_want (by kernel_rfl)
  · intro w' hw'
    obtain ⟨hwa', hwb', hwc', hwd', hwe', hwf', hwg', hwh'⟩ := hw'
    go_simp
    first
    | done
    | exact rfl
  simp only [Act.put, Act.eval, List.setIfInBounds_toArray, List.set_cons_zero, List.set_cons_succ, Array.getD_eq_getD_getElem?, List.getElem?_toArray, List.getElem?_cons_zero, List.getElem?_cons_succ, Option.getD_some]
  refine g_loud fun K hK => ?_
  go_wp2_with fail
  refine hK _ _ (fun _ => ?_) ?_
  · with_reducible refine keep7 hry hxr ?_ _ _ _ _ _ _ _
    exact ⟨t0, t1, t2, t3, t4, t5, t6, tq⟩
  clear hK K
  refine g_loud fun K hK => ?_
  go_wp2_with fail
  refine hK _ _ (fun h => absurd rfl h) ?_
  clear hK K
  refine g_nil ?_
  go_wp2_with fail
  refine bodyPost_ret (v := .tuple #[sa ⟨CC, N0, N1, ⟨#[]⟩, hb, none, 0, 0, ⟨#[]⟩⟩, .bool r]) ?_ rfl ⟨⟨CC, N0, N1, ⟨#[]⟩, hb, none, 0, 0, ⟨#[]⟩⟩, r, rfl, HON.out, chain7 HB4.out (by (first | (with_reducible exact hZ) | (with_reducible exact hZ.drew) | (with_reducible exact Below.refl _ _) | (with_reducible exact (Below.refl _ _).drew))) hwr _ _ _ _ _ _ _⟩
  exact one_res _ _ rb ⟨CC, N0, N1, ⟨#[]⟩, hb, none, 0, 0, ⟨#[]⟩⟩ r (rng7 (HKF.out _ (by (first | (with_reducible exact hZ) | (with_reducible exact hZ.drew) | (with_reducible exact Below.refl _ _) | (with_reducible exact (Below.refl _ _).drew)))).2.1 _ _ _ _ _ _ _) rfl rfl
end Go.Proofs.Ytemaonfgledcmaa
