/-
  Layer 14 (once): contract of read, of the code. Conditions: texts within the reach.
-/
import Derived.Test.YtemaonfgledcmaaNu
import Derived.Test.YtemaonfgledcmaaVt
namespace Go.Proofs.Ytemaonfgledcmaa
open Go.RowKit
set_option linter.unusedVariables false
set_option linter.unusedSimpArgs false

theorem drop_ext (V : ByteArray) (K : Nat) : (V.extract K V.size).data.toList = V.data.toList.drop K := by
  rw [Lib.extract_data, List.take_of_length_le (by rw [List.length_drop, ← Lib.size_eq]; exact Nat.le_refl _)]
/-- What Take gives of a text. -/
theorem take14 (V : ByteArray) (hs : V.size ≤ 9223372036854775807) : (nO V.data.toList = none ∧ ∃ C : Int, ¬ C = 0 ∧ ∀ w, Calls Try.prog 53 #[.string V] w fun e w' => e = .returned (.tuple #[.int .i64 0, .int .i64 0, .int .i64 C]) ∧ w = w') ∨
    ∃ N K : Nat, K ≤ V.size ∧ N ≤ 4611686018427387904 ∧ nO V.data.toList = some (N, (V.extract K V.size).data.toList) ∧ ∀ w, Calls Try.prog 53 #[.string V] w fun e w' => e = .returned (.tuple #[.int .i64 (N : Int), .int .i64 (K : Int), .int .i64 0]) ∧ w = w' := by
  have hc := fun w => take_code V w hs
  by_cases q : (tk V.data.toList 0 0).2.2 = 0
  · right
    have hk : tk V.data.toList 0 0 = ((tk V.data.toList 0 0).1, (tk V.data.toList 0 0).2.1, 0) := Prod.ext rfl (Prod.ext rfl q)
    obtain ⟨m', g1, g2, g3, g4, g5, g6, g7⟩ := tk_back _ 0 0 _ _ hk
    refine ⟨(tk V.data.toList 0 0).1, (tk V.data.toList 0 0).2.1, ?_, g5, ?_, fun w => ?_⟩
    · have : V.size = V.data.toList.length := Lib.size_eq V
      rw [this]; omega
    · unfold nO; rw [if_pos q, drop_ext]
    · have := hc w
      rw [q] at this
      exact this
  · left
    have h0 := tk_err V.data.toList 0 0 q
    refine ⟨by unfold nO; rw [if_neg q], ((tk V.data.toList 0 0).2.2 : Nat), by omega, fun w => ?_⟩
    have := hc w
    rw [h0.1, h0.2] at this
    exact this
theorem takeR14 (V : ByteArray) (hs : V.size ≤ 9223372036854775807) : (nO V.data.toList = none ∧ ∃ C : Int, ¬ C = 0 ∧ ∀ w, Calls Try.prog 54 #[.string V] w fun e w' => e = .returned (.tuple #[.int .i64 0, .int .i64 0, .int .i64 C]) ∧ w = w') ∨
    ∃ N K : Nat, K ≤ V.size ∧ N ≤ 4611686018427387904 ∧ nO V.data.toList = some (N, (V.extract K V.size).data.toList) ∧ ∀ w, Calls Try.prog 54 #[.string V] w fun e w' => e = .returned (.tuple #[.int .i64 (N : Int), .int .i64 (K : Int), .int .i64 0]) ∧ w = w' := by
  have hc := fun w => take_ref V w hs
  by_cases q : (tk V.data.toList 0 0).2.2 = 0
  · right
    have hk : tk V.data.toList 0 0 = ((tk V.data.toList 0 0).1, (tk V.data.toList 0 0).2.1, 0) := Prod.ext rfl (Prod.ext rfl q)
    obtain ⟨m', g1, g2, g3, g4, g5, g6, g7⟩ := tk_back _ 0 0 _ _ hk
    refine ⟨(tk V.data.toList 0 0).1, (tk V.data.toList 0 0).2.1, ?_, g5, ?_, fun w => ?_⟩
    · have : V.size = V.data.toList.length := Lib.size_eq V
      rw [this]; omega
    · unfold nO; rw [if_pos q, drop_ext]
    · have := hc w
      rw [q] at this
      exact this
  · left
    have h0 := tk_err V.data.toList 0 0 q
    refine ⟨by unfold nO; rw [if_neg q], ((tk V.data.toList 0 0).2.2 : Nat), by omega, fun w => ?_⟩
    have := hc w
    rw [h0.1, h0.2] at this
    exact this
theorem ext_size (V : ByteArray) (K : Nat) (h : K ≤ V.size) : (V.extract K V.size).size ≤ V.size := by
  rw [Lib.size_eq, drop_ext, List.length_drop, ← Lib.size_eq]; omega
def RDC (x : Pr) (w : World) (e : Ending) (w' : World) : Prop := ∃ y b, e = .returned (.tuple #[sa y, .bool b]) ∧ (rdP x = if b = true then some y else none) ∧ Below w.heap.size w w'
theorem size7 : (Try.prog.info? 39).map (·.size) = some 7 := by kernel_rfl
theorem one7 (x : Sn) : (#[.int .i64 x.c, .int .i64 x.s, .int .i64 x.e, .string x.v, .bool x.h, .slice x.p x.n x.k, .string x.u] : Array Value).all (·.oneCell') = true :=
  all_oneCell_toArray (cs := cv x) (cv_one x)
theorem there7 (w : World) : (w.alloc (.cells #[.int .i64 0, .int .i64 0, .int .i64 0, .string ⟨#[]⟩, .bool false, .slice none 0 0, .string ⟨#[]⟩] 39)).there w.heap.size 0 7 := fun j hj => by
  match j, hj with
  | 0, _ => simp
  | 1, _ => simp
  | 2, _ => simp
  | 3, _ => simp
  | 4, _ => simp
  | 5, _ => simp
  | 6, _ => simp
theorem read_res (tmps : Array Value) (w : World) (x : Nat) (X : Sn) (b : Bool) (h : w.rangeAt x 0 (cv X)) (h2 : tmps.getD 2 undef = .pointer (some ⟨x, 0, none⟩)) (h3 : tmps.getD 3 undef = .bool b) :
    (results Try.f28 tmps).run Try.prog w = .ok (.tuple #[sa X, .bool b]) w := by
  have hl := run_loadVar_mid (P := Try.prog) w x 0 39 _ _ h Try.underlying39 rfl size7
  rw [Array.getD_eq_getD_getElem?] at h2 h3
  simp [results, Try.results28, asAddr, hl, h2, h3, cv]
theorem flag_true (w : World) : Calls Try.prog 34 #[.bool true] w fun e w' => e = .returned (.int .i64 1) ∧ w = w' := flag14_any true w
/-- Two texts in a block. -/
def PBox (w : World) (b : Nat) (K V : ByteArray) : Prop := w.cell? ⟨b, 0, none⟩ = some (.string K) ∧ w.cell? ⟨b, 1, none⟩ = some (.string V) ∧ b < w.heap.size
theorem PBox.new (w : World) (t : TypeId) (K V : ByteArray) : PBox (w.alloc (.cells #[.string K, .string V] t)) w.heap.size K V := ⟨by simp, by simp, by simp⟩
theorem PBox.below {w w' : World} {b : Nat} {K V : ByteArray} (h : PBox w b K V) (hb : Below w.heap.size w w') : PBox w' b K V :=
  ⟨(hb.cell (p := ⟨b, 0, none⟩) h.2.2).trans h.1, (hb.cell (p := ⟨b, 1, none⟩) h.2.2).trans h.2.1, Nat.lt_of_lt_of_le h.2.2 hb.size⟩
theorem two_of (K : ByteArray) (h : K.size = 2) : ∃ a b : UInt8, K = ⟨#[a, b]⟩ := by
  obtain ⟨⟨l⟩⟩ := K
  match l, h with
  | [a, b], _ => exact ⟨a, b, rfl⟩
  | [], h => simp [ByteArray.size_mk'] at h
  | [_], h => simp [ByteArray.size_mk'] at h
  | _ :: _ :: _ :: _, h => simp [ByteArray.size_mk'] at h
theorem kC_size {K : ByteArray} (h : ¬ K.size = 2) : kC K.data.toList = none := by
  unfold kC
  split
  · rename_i a b e
    exact absurd (by rw [Lib.size_eq, e]; rfl) h
  · rfl
/-- Three numbers in a block. -/
def NB (w : World) (b : Nat) (x y z : Int) : Prop := w.cell? ⟨b, 0, none⟩ = some (.int .i64 x) ∧ w.cell? ⟨b, 1, none⟩ = some (.int .i64 y) ∧ w.cell? ⟨b, 2, none⟩ = some (.int .i64 z) ∧ w.frozen? ⟨b, 0, none⟩ = false ∧ w.frozen? ⟨b, 1, none⟩ = false ∧ w.frozen? ⟨b, 2, none⟩ = false ∧ b < w.heap.size
theorem NB.new (w : World) (t : TypeId) : NB (w.alloc (.cells #[.int .i64 0, .int .i64 0, .int .i64 0] t)) w.heap.size 0 0 0 := ⟨by simp, by simp, by simp, by simp, by simp, by simp, by simp⟩
theorem wrap64_in (z : Int) (h : -9223372036854775808 ≤ z ∧ z ≤ 9223372036854775807) : wrap64 z = z := by unfold wrap64; omega
theorem conv48 (k : UInt8) : IntKind.i64.wrap ((k.toNat : Nat) : Int) = (k.toNat : Int) ∧ IntKind.i64.wrap ((k.toNat : Int) - 48) = (k.toNat : Int) - 48 ∧ wrap64 ((k.toNat : Nat) : Int) = (k.toNat : Int) ∧ wrap64 ((k.toNat : Int) - 48) = (k.toNat : Int) - 48 := by
  have h := k.toNat_lt
  have h1 : (k.toNat : Int) < 256 := by omega
  have h0 : 0 ≤ (k.toNat : Int) := by omega
  generalize (k.toNat : Int) = z at *
  exact ⟨IntWalk.i64_in _ (by omega), IntWalk.i64_in _ (by omega), wrap64_in _ (by omega), wrap64_in _ (by omega)⟩
theorem NB.below {w w' : World} {b : Nat} {x y z : Int} (h : NB w b x y z) (hb : Below w.heap.size w w') : NB w' b x y z := by
  obtain ⟨h0, h1, h2, f0, f1, f2, hl⟩ := h
  exact ⟨(hb.cell (p := ⟨b, 0, none⟩) hl).trans h0, (hb.cell (p := ⟨b, 1, none⟩) hl).trans h1, (hb.cell (p := ⟨b, 2, none⟩) hl).trans h2, (hb.frozen (p := ⟨b, 0, none⟩) hl).trans f0, (hb.frozen (p := ⟨b, 1, none⟩) hl).trans f1, (hb.frozen (p := ⟨b, 2, none⟩) hl).trans f2, Nat.lt_of_lt_of_le hl hb.size⟩
theorem NB.set0 {w : World} {b : Nat} {x y z : Int} (h : NB w b x y z) (n : Int) : NB (w.setCell ⟨b, 0, none⟩ (.int .i64 n)) b n y z := by
  obtain ⟨h0, h1, h2, f0, f1, f2, hl⟩ := h
  exact ⟨World.cell?_setCell_same _ _ _ h0, (World.cell?_setCell_other _ _ _ _ (by simp)).trans h1, (World.cell?_setCell_other _ _ _ _ (by simp)).trans h2, by rw [World.frozen?_setCell]; exact f0, by rw [World.frozen?_setCell]; exact f1, by rw [World.frozen?_setCell]; exact f2, by simpa using hl⟩
theorem NB.set1 {w : World} {b : Nat} {x y z : Int} (h : NB w b x y z) (n : Int) : NB (w.setCell ⟨b, 1, none⟩ (.int .i64 n)) b x n z := by
  obtain ⟨h0, h1, h2, f0, f1, f2, hl⟩ := h
  exact ⟨(World.cell?_setCell_other _ _ _ _ (by simp)).trans h0, World.cell?_setCell_same _ _ _ h1, (World.cell?_setCell_other _ _ _ _ (by simp)).trans h2, by rw [World.frozen?_setCell]; exact f0, by rw [World.frozen?_setCell]; exact f1, by rw [World.frozen?_setCell]; exact f2, by simpa using hl⟩
theorem NB.set2 {w : World} {b : Nat} {x y z : Int} (h : NB w b x y z) (n : Int) : NB (w.setCell ⟨b, 2, none⟩ (.int .i64 n)) b x y n := by
  obtain ⟨h0, h1, h2, f0, f1, f2, hl⟩ := h
  exact ⟨(World.cell?_setCell_other _ _ _ _ (by simp)).trans h0, (World.cell?_setCell_other _ _ _ _ (by simp)).trans h1, World.cell?_setCell_same _ _ _ h2, by rw [World.frozen?_setCell]; exact f0, by rw [World.frozen?_setCell]; exact f1, by rw [World.frozen?_setCell]; exact f2, by simpa using hl⟩
theorem there_set {w : World} {rb o n : Nat} (h : w.there rb o n) (p : Addr) (v : Value) : (w.setCell p v).there rb o n := fun j hj => by
  obtain ⟨h1, h2⟩ := h j hj
  refine ⟨?_, by rw [World.frozen?_setCell]; exact h2⟩
  have := World.isSome_setCells p.block [v] p.off w ⟨rb, o + j, none⟩ h1
  obtain ⟨u, hu⟩ := Option.isSome_iff_exists.1 h1
  by_cases e : p = ⟨rb, o + j, none⟩
  · rw [e, World.cell?_setCell_same _ _ _ hu]; rfl
  · rw [World.cell?_setCell_other _ _ _ _ e, hu]; rfl
theorem PBox.set {w : World} {b : Nat} {K V : ByteArray} (h : PBox w b K V) (p : Addr) (v : Value) (hp : ¬ p.block = b) : PBox (w.setCell p v) b K V :=
  ⟨(World.cell?_setCell_other _ _ _ _ (fun e => hp (by rw [e]))).trans h.1, (World.cell?_setCell_other _ _ _ _ (fun e => hp (by rw [e]))).trans h.2.1, by simpa using h.2.2⟩
set_option maxRecDepth 100000 in
set_option maxHeartbeats 8000000 in
theorem read14_any (K V : ByteArray) (hV : V.size ≤ 9223372036854775807) (w : World) : Calls Try.prog 28 #[.agg #[.string K, .string V]] w (RDC (K, V) w) := by
  have HS0 := Lib.hid (PBox.new w 27 K V)
  go_enter Try.func28, Try.ntmps28
  go_upto_region 1 with fail
  obtain ⟨o1, ho1⟩ : ∃ o, o = Obj.cells #[.string K, .string V] 27 := ⟨_, rfl⟩
  rw [← ho1] at HS0 ⊢
  clear ho1
  have HB1 := Lib.hid (box_bel14 w o1)
  obtain ⟨xb, hxb⟩ : ∃ xb, xb = w.heap.size := ⟨_, rfl⟩
  have HXB := Lib.hid hxb
  rw [← hxb] at HS0 ⊢
  have hsz1 : (w.alloc o1).heap.size = xb + 1 := by rw [hxb]; simp
  have HW1 := Lib.hid (show w.heap.size ≤ (w.alloc o1).heap.size by simp)
  clear hxb
  generalize w.alloc o1 = w1 at *
  rw [show xb + 1 = w1.heap.size from hsz1.symm]
  have HT3 := Lib.hid (there7 w1)
  have HS3 := Lib.hid (HS0.out.below (box_bel14 w1 (.cells #[.int .i64 0, .int .i64 0, .int .i64 0, .string ⟨#[]⟩, .bool false, .slice none 0 0, .string ⟨#[]⟩] 39)))
  have HB3 := Lib.hid (HB1.out.alloc HW1.out (.cells #[.int .i64 0, .int .i64 0, .int .i64 0, .string ⟨#[]⟩, .bool false, .slice none 0 0, .string ⟨#[]⟩] 39))
  obtain ⟨rb, hrb⟩ : ∃ rb, rb = w1.heap.size := ⟨_, rfl⟩
  have HRB := Lib.hid hrb
  have HLT := Lib.hid (show rb < (w1.alloc (.cells #[.int .i64 0, .int .i64 0, .int .i64 0, .string ⟨#[]⟩, .bool false, .slice none 0 0, .string ⟨#[]⟩] 39)).heap.size by rw [hrb]; simp)
  rw [← hrb] at HT3 ⊢
  have hxr : ¬ rb = xb := by omega
  have hwr : w.heap.size ≤ rb := by rw [hrb]; exact HW1.out
  clear hrb hsz1
  generalize w1.alloc (.cells #[.int .i64 0, .int .i64 0, .int .i64 0, .string ⟨#[]⟩, .bool false, .slice none 0 0, .string ⟨#[]⟩] 39) = w3 at *
  obtain ⟨q0, q1, q2⟩ := HS3.out
  by_cases h2 : K.size = 2
  case neg =>
    have HNO : rdP (K, V) = if false = true then some Z0 else none := by unfold rdP; rw [kC_size h2]; rfl
    have h2i : ((K.size : Int) != 2) = true := by simp; omega
    have h2n : ¬ (K.size : Int) = 2 := by omega
    go_wp2_with (with_reducible refine wpList_store_mid rfl 39 (.tmp 2) (.tmp 21) rfl rb 0 #[.int .i64 0, .int .i64 0, .int .i64 0, .string ⟨#[]⟩, .bool false, .slice none 0 0, .string ⟨#[]⟩] ?e11 ?e12 ?e13 ?e14 ?e15 ?_)
    case e14 => exact size7
    case e15 => exact one7 Z0
    case e11 => rfl
    case e12 => rfl
    case e13 => exact HT3.out
    refine bodyPost_ret (v := .tuple #[sa Z0, .bool false]) ?_ rfl ⟨Z0, false, rfl, HNO, below_setCells _ _ _ HB3.out hwr⟩
    exact read_res _ _ rb Z0 false (World.rangeAt_setCells_same _ _ _ _ HT3.out) rfl rfl
  obtain ⟨k0, k1, hK⟩ := two_of K h2
  have e0 : ∀ h : 0 < K.size, K[0]'h = k0 := fun h => by subst hK; rfl
  have e1 : ∀ h : 1 < K.size, K[1]'h = k1 := fun h => by subst hK; rfl
  have hKd : K.data.toList = [k0, k1] := by rw [hK]
  have HKD := Lib.hid hKd
  have h2i : (K.size : Int) = 2 := by omega
  have h2b : ((K.size : Int) != 2) = false := by simp [h2i]
  have h20 : 0 < K.size := by omega
  have h21 : 1 < K.size := by omega
  have h2a : (1 : Int) < (K.size : Int) := by omega
  have h2c : (0 : Int) < (K.size : Int) := by omega
  have H2 := Lib.hid h2
  clear hK hKd h2
  by_cases h116 : k0 = 116
  case neg =>
    have HNO : rdP (K, V) = if false = true then some Z0 else none := by
      have : kC K.data.toList = none := by rw [HKD.out]; unfold kC; simp [h116]
      unfold rdP
      show (kC K.data.toList).bind _ = _
      rw [this]; rfl
    have hk0 : ¬ ((k0.toNat : Nat) : Int) = 116 := fun e => h116 (UInt8.toNat_inj.1 (by show k0.toNat = 116; omega))
    have hk1 : (((k0.toNat : Nat) : Int) != 116) = true := by simpa using hk0
    go_wp2_with (with_reducible refine wpList_store_mid rfl 39 (.tmp 2) (.tmp 21) rfl rb 0 #[.int .i64 0, .int .i64 0, .int .i64 0, .string ⟨#[]⟩, .bool false, .slice none 0 0, .string ⟨#[]⟩] ?e21 ?e22 ?e23 ?e24 ?e25 ?_)
    case e24 => exact size7
    case e25 => exact one7 Z0
    case e21 => rfl
    case e22 => rfl
    case e23 => exact HT3.out
    refine bodyPost_ret (v := .tuple #[sa Z0, .bool false]) ?_ rfl ⟨Z0, false, rfl, HNO, below_setCells _ _ _ HB3.out hwr⟩
    exact read_res _ _ rb Z0 false (World.rangeAt_setCells_same _ _ _ _ HT3.out) rfl rfl
  subst h116
  have HKC : Hid (kC K.data.toList = some ((k1.toNat : Int) - 48)) := Lib.hid (by rw [HKD.out]; rfl)
  have hn0 : v3 V.data.toList = none → rdP (K, V) = if false = true then some Z0 else none := fun h1 => by
    unfold rdP
    rw [HKC.out]
    show (v3 V.data.toList).map _ = _
    rw [h1]; rfl
  have HN0 := Lib.hid hn0
  clear hn0
  have h116 : (((116 : UInt8).toNat : Int) != 116) = false := rfl
  have h117 : ((116 : UInt8).toNat : Int) = 116 := rfl
  go_upto_region 4 with fail
  have HU4 := Lib.hid (NB.new w3 76)
  have HT4 := Lib.hid (World.there_alloc HT3.out (.cells #[.int .i64 0, .int .i64 0, .int .i64 0] 76))
  have HB4 := Lib.hid (HB3.out.alloc HB3.out.size (.cells #[.int .i64 0, .int .i64 0, .int .i64 0] 76))
  obtain ⟨nb, hnb⟩ : ∃ nb, nb = w3.heap.size := ⟨_, rfl⟩
  rw [← hnb] at HU4 ⊢
  have hnx : ¬ nb = xb := by have := HS3.out.2.2; omega
  have hnw : w.heap.size ≤ nb := by rw [hnb]; exact HB3.out.size
  have hnr : ¬ nb = rb := by have := HLT.out; omega
  have HS4 := Lib.hid (HS3.out.below (box_bel14 w3 (.cells #[.int .i64 0, .int .i64 0, .int .i64 0] 76)))
  clear hnb HT3 HB3 HS3 q0 q1 q2
  generalize w3.alloc (.cells #[.int .i64 0, .int .i64 0, .int .i64 0] 76) = w4 at *
  obtain ⟨n0, n1, n2, g0, g1, g2, gl⟩ := HU4.out
  obtain ⟨q0, q1, q2⟩ := HS4.out
  go_wp2_with fail
  refine wp_loop_rounds 4 ?_
  rcases take14 V hV with ⟨hnn, C, hC, hT⟩ | ⟨N0, K0, hK0, hN0, hnn, hT⟩
  · have HNO := HN0.out (by unfold v3; rw [hnn]; rfl)
    have HTT := Lib.hid hT
    have hC1 : (C != 0) = true := by simpa using hC
    clear hnn hT
    rw [rounds_succ]
    go_wp2_with fail
    refine (HTT.out _).mono ?_
    rintro e w' ⟨rfl, rfl⟩
    go_wp2_with (with_reducible refine wpList_store_mid rfl 39 (.tmp 2) (.tmp 35) rfl rb 0 #[.int .i64 0, .int .i64 0, .int .i64 0, .string ⟨#[]⟩, .bool false, .slice none 0 0, .string ⟨#[]⟩] ?e31 ?e32 ?e33 ?e34 ?e35 ?_)
    case e34 => exact size7
    case e35 => exact one7 Z0
    case e31 => rfl
    case e32 => rfl
    case e33 => exact HT4.out
    refine bodyPost_ret (v := .tuple #[sa Z0, .bool false]) ?_ rfl ⟨Z0, false, rfl, HNO, below_setCells _ _ _ HB4.out hwr⟩
    exact read_res _ _ rb Z0 false (World.rangeAt_setCells_same _ _ _ _ HT4.out) rfl rfl
  have HTT := Lib.hid hT
  have HV1 := Lib.hid hnn
  have hK0i : (K0 : Int) ≤ (V.size : Int) := by omega
  clear hnn hT
  rw [rounds_succ]
  go_wp2_with fail
  refine (HTT.out _).mono ?_
  rintro e w' ⟨rfl, rfl⟩
  go_wp2_with fail
  have HU5 := Lib.hid (HU4.out.set0 (N0 : Int))
  have HT5 := Lib.hid (there_set HT4.out ⟨nb, 0, none⟩ (.int .i64 (N0 : Int)))
  have HS5 := Lib.hid (HS4.out.set ⟨nb, 0, none⟩ (.int .i64 (N0 : Int)) hnx)
  have HB5 := Lib.hid (HB4.out.setCell (p := ⟨nb, 0, none⟩) hnw (.int .i64 (N0 : Int)))
  clear HU4 HT4 HS4 HB4 n0 n1 n2 g0 g1 g2 gl q0 q1 q2 HTT
  generalize w4.setCell ⟨nb, 0, none⟩ (.int .i64 (N0 : Int)) = w5 at *
  obtain ⟨n0, n1, n2, g0, g1, g2, gl⟩ := HU5.out
  obtain ⟨q0, q1, q2⟩ := HS5.out
  obtain ⟨V1, hV1⟩ : ∃ X, X = V.extract K0 V.size := ⟨_, rfl⟩
  have HZ0 := Lib.hid (show V1.size ≤ 9223372036854775807 by rw [hV1]; exact Nat.le_trans (ext_size V K0 hK0) hV)
  rw [← hV1] at HV1 ⊢
  clear hV1
  rcases take14 V1 HZ0.out with ⟨hnn, C, hC, hT⟩ | ⟨N1, K1, hK1, hN1, hnn, hT⟩
  · have HNO := HN0.out (by unfold v3; rw [HV1.out]; simp only [Option.bind_some]; rw [hnn]; rfl)
    have HTT := Lib.hid hT
    have hC1 : (C != 0) = true := by simpa using hC
    clear hnn hT
    rw [rounds_succ]
    go_wp2_with fail
    refine (HTT.out _).mono ?_
    rintro e w' ⟨rfl, rfl⟩
    go_wp2_with (with_reducible refine wpList_store_mid rfl 39 (.tmp 2) (.tmp 35) rfl rb 0 #[.int .i64 0, .int .i64 0, .int .i64 0, .string ⟨#[]⟩, .bool false, .slice none 0 0, .string ⟨#[]⟩] ?e41 ?e42 ?e43 ?e44 ?e45 ?_)
    case e44 => exact size7
    case e45 => exact one7 Z0
    case e41 => rfl
    case e42 => rfl
    case e43 => exact HT5.out
    refine bodyPost_ret (v := .tuple #[sa Z0, .bool false]) ?_ rfl ⟨Z0, false, rfl, HNO, below_setCells _ _ _ HB5.out hwr⟩
    exact read_res _ _ rb Z0 false (World.rangeAt_setCells_same _ _ _ _ HT5.out) rfl rfl
  have HTT := Lib.hid hT
  have HV2 := Lib.hid hnn
  have hK1i : (K1 : Int) ≤ (V1.size : Int) := by omega
  clear hnn hT
  rw [rounds_succ]
  go_wp2_with fail
  refine (HTT.out _).mono ?_
  rintro e w' ⟨rfl, rfl⟩
  go_wp2_with fail
  have HU6 := Lib.hid (HU5.out.set1 (N1 : Int))
  have HT6 := Lib.hid (there_set HT5.out ⟨nb, 1, none⟩ (.int .i64 (N1 : Int)))
  have HS6 := Lib.hid (HS5.out.set ⟨nb, 1, none⟩ (.int .i64 (N1 : Int)) hnx)
  have HB6 := Lib.hid (HB5.out.setCell (p := ⟨nb, 1, none⟩) hnw (.int .i64 (N1 : Int)))
  clear HU5 HT5 HS5 HB5 n0 n1 n2 g0 g1 g2 gl q0 q1 q2 HTT
  generalize w5.setCell ⟨nb, 1, none⟩ (.int .i64 (N1 : Int)) = w6 at *
  obtain ⟨n0, n1, n2, g0, g1, g2, gl⟩ := HU6.out
  obtain ⟨q0, q1, q2⟩ := HS6.out
  obtain ⟨V2, hV2⟩ : ∃ X, X = V1.extract K1 V1.size := ⟨_, rfl⟩
  have HZ1 := Lib.hid (show V2.size ≤ 9223372036854775807 by rw [hV2]; exact Nat.le_trans (ext_size V1 K1 hK1) HZ0.out)
  rw [← hV2] at HV2 ⊢
  clear hV2
  rcases take14 V2 HZ1.out with ⟨hnn, C, hC, hT⟩ | ⟨N2, K2, hK2, hN2, hnn, hT⟩
  · have HNO := HN0.out (by unfold v3; rw [HV1.out]; simp only [Option.bind_some]; rw [HV2.out]; simp only [Option.bind_some]; rw [hnn]; rfl)
    have HTT := Lib.hid hT
    have hC1 : (C != 0) = true := by simpa using hC
    clear hnn hT
    rw [rounds_succ]
    go_wp2_with fail
    refine (HTT.out _).mono ?_
    rintro e w' ⟨rfl, rfl⟩
    go_wp2_with (with_reducible refine wpList_store_mid rfl 39 (.tmp 2) (.tmp 35) rfl rb 0 #[.int .i64 0, .int .i64 0, .int .i64 0, .string ⟨#[]⟩, .bool false, .slice none 0 0, .string ⟨#[]⟩] ?e51 ?e52 ?e53 ?e54 ?e55 ?_)
    case e54 => exact size7
    case e55 => exact one7 Z0
    case e51 => rfl
    case e52 => rfl
    case e53 => exact HT6.out
    refine bodyPost_ret (v := .tuple #[sa Z0, .bool false]) ?_ rfl ⟨Z0, false, rfl, HNO, below_setCells _ _ _ HB6.out hwr⟩
    exact read_res _ _ rb Z0 false (World.rangeAt_setCells_same _ _ _ _ HT6.out) rfl rfl
  have HTT := Lib.hid hT
  have HV3 := Lib.hid hnn
  have hK2i : (K2 : Int) ≤ (V2.size : Int) := by omega
  clear hnn hT
  rw [rounds_succ]
  go_wp2_with fail
  refine (HTT.out _).mono ?_
  rintro e w' ⟨rfl, rfl⟩
  go_wp2_with fail
  have HU7 := Lib.hid (HU6.out.set2 (N2 : Int))
  have HT7 := Lib.hid (there_set HT6.out ⟨nb, 2, none⟩ (.int .i64 (N2 : Int)))
  have HS7 := Lib.hid (HS6.out.set ⟨nb, 2, none⟩ (.int .i64 (N2 : Int)) hnx)
  have HB7 := Lib.hid (HB6.out.setCell (p := ⟨nb, 2, none⟩) hnw (.int .i64 (N2 : Int)))
  clear HU6 HT6 HS6 HB6 n0 n1 n2 g0 g1 g2 gl q0 q1 q2 HTT
  generalize w6.setCell ⟨nb, 2, none⟩ (.int .i64 (N2 : Int)) = w7 at *
  obtain ⟨n0, n1, n2, g0, g1, g2, gl⟩ := HU7.out
  obtain ⟨q0, q1, q2⟩ := HS7.out
  obtain ⟨V3, hV3⟩ : ∃ X, X = V2.extract K2 V2.size := ⟨_, rfl⟩
  have HZ2 := Lib.hid (show V3.size ≤ 9223372036854775807 by rw [hV3]; exact Nat.le_trans (ext_size V2 K2 hK2) HZ1.out)
  rw [← hV3] at HV3 ⊢
  clear hV3
  rw [rounds_succ]
  go_wp2_with fail
  have hrl : rb < w7.heap.size := by
    obtain ⟨u, hu⟩ := Option.isSome_iff_exists.1 (HT7.out 0 (by omega)).1
    exact block_lt_of_cell hu
  have hv3 : v3 V.data.toList = if N2 ≤ 1 ∧ V3.data.toList = [] then some (N0, N1, N2) else none := by
    unfold v3
    rw [HV1.out]
    simp only [Option.bind_some]
    rw [HV2.out]
    simp only [Option.bind_some]
    rw [HV3.out]
    rfl
  have HVV := Lib.hid hv3
  clear hv3 HV1 HV2 HV3 hK0i hK1i hK2i hK0 hK1 hK2 hN0 hN1 hN2 h2b h116 h117
  by_cases hn2 : N2 ≤ 1
  case neg =>
    have HNO := HN0.out (by rw [HVV.out, if_neg (fun k => hn2 k.1)])
    have hgt : (N2 : Int) > 1 := by omega
    go_quiet ((go_at_call 34; exact quiet_same (flag_true _)))
    have HT8 := Lib.hid (there_below HT7.out hrl (below_drewN (Below.refl _ w7) nq))
    have HB8 := Lib.hid (HB7.out.trans ((below_drewN (Below.refl _ w7) nq).mono HB7.out.size))
    have HS8 := Lib.hid (HS7.out.below (below_drewN (Below.refl _ w7) nq))
    have HU8 := Lib.hid (HU7.out.below (below_drewN (Below.refl _ w7) nq))
    clear n0 n1 n2 g0 g1 g2 gl q0 q1 q2
    generalize w7.drewN nq = w8 at *
    go_wp2_with (with_reducible refine wpList_store_mid rfl 39 (.tmp 2) (.tmp 51) rfl rb 0 #[.int .i64 0, .int .i64 0, .int .i64 0, .string ⟨#[]⟩, .bool false, .slice none 0 0, .string ⟨#[]⟩] ?e61 ?e62 ?e63 ?e64 ?e65 ?_)
    case e64 => exact size7
    case e65 => exact one7 Z0
    case e61 => rfl
    case e62 => rfl
    case e63 => exact HT8.out
    refine bodyPost_ret (v := .tuple #[sa Z0, .bool false]) ?_ rfl ⟨Z0, false, rfl, HNO, below_setCells _ _ _ HB8.out hwr⟩
    exact read_res _ _ rb Z0 false (World.rangeAt_setCells_same _ _ _ _ HT8.out) rfl rfl
  have hgt : decide ((N2 : Int) > 1) = false := decide_eq_false (by omega)
  by_cases hv3 : V3.size = 0
  case neg =>
    obtain ⟨v1, v2⟩ := str_some hv3
    have HNO := HN0.out (by rw [HVV.out, if_neg (fun k => hv3 (by rw [Lib.size_eq, k.2]; rfl))])
    go_quiet ((go_at_call 34; exact quiet_same (flag_true _)))
    have HT8 := Lib.hid (there_below HT7.out hrl (below_drewN (Below.refl _ w7) nq))
    have HB8 := Lib.hid (HB7.out.trans ((below_drewN (Below.refl _ w7) nq).mono HB7.out.size))
    have HS8 := Lib.hid (HS7.out.below (below_drewN (Below.refl _ w7) nq))
    have HU8 := Lib.hid (HU7.out.below (below_drewN (Below.refl _ w7) nq))
    clear n0 n1 n2 g0 g1 g2 gl q0 q1 q2
    generalize w7.drewN nq = w8 at *
    go_wp2_with (with_reducible refine wpList_store_mid rfl 39 (.tmp 2) (.tmp 51) rfl rb 0 #[.int .i64 0, .int .i64 0, .int .i64 0, .string ⟨#[]⟩, .bool false, .slice none 0 0, .string ⟨#[]⟩] ?e71 ?e72 ?e73 ?e74 ?e75 ?_)
    case e74 => exact size7
    case e75 => exact one7 Z0
    case e71 => rfl
    case e72 => rfl
    case e73 => exact HT8.out
    refine bodyPost_ret (v := .tuple #[sa Z0, .bool false]) ?_ rfl ⟨Z0, false, rfl, HNO, below_setCells _ _ _ HB8.out hwr⟩
    exact read_res _ _ rb Z0 false (World.rangeAt_setCells_same _ _ _ _ HT8.out) rfl rfl
  have hV3 := str_empty hv3
  have HVS := Lib.hid (show v3 V.data.toList = some (N0, N1, N2) by rw [HVV.out, if_pos ⟨hn2, by rw [hV3]⟩])
  obtain ⟨h2, hh2⟩ : ∃ h2 : Bool, h2 = (N2 == 1) := ⟨_, rfl⟩
  obtain ⟨CC, hCC⟩ : ∃ CC : Int, CC = (k1.toNat : Int) - 48 := ⟨_, rfl⟩
  have HRD := Lib.hid (show rdP (K, V) = if true = true then some ⟨CC, N0, N1, ⟨#[]⟩, h2, none, 0, 0, ⟨#[]⟩⟩ else none by
    unfold rdP
    rw [HKC.out]
    show (v3 V.data.toList).map _ = _
    rw [HVS.out, hCC, hh2]; rfl)
  have HCC := Lib.hid hCC
  have HH2 := Lib.hid hh2
  subst hV3
  clear hh2 hCC hv3
  go_quiet ((go_at_call 34; exact quiet_same (flag_true _)))
  have HT8 := Lib.hid (there_below HT7.out hrl (below_drewN (Below.refl _ w7) nq))
  have HB8 := Lib.hid (HB7.out.trans ((below_drewN (Below.refl _ w7) nq).mono HB7.out.size))
  have HS8 := Lib.hid (HS7.out.below (below_drewN (Below.refl _ w7) nq))
  have HU8 := Lib.hid (HU7.out.below (below_drewN (Below.refl _ w7) nq))
  clear n0 n1 n2 g0 g1 g2 gl q0 q1 q2
  generalize w7.drewN nq = w8 at *
  have hrl8 : rb < w8.heap.size := by
    obtain ⟨u, hu⟩ := Option.isSome_iff_exists.1 (HT8.out 0 (by omega)).1
    exact block_lt_of_cell hu
  go_upto_region 16 with fail
  obtain ⟨n0, n1, n2, g0, g1, g2, gl⟩ := HU8.out
  have heq : ((N2 : Int) == 1) = h2 := by rw [HH2.out]; rcases (show N2 = 0 ∨ N2 = 1 by omega) with rfl | rfl <;> rfl
  have HKQ := Lib.hid (fun (W : World) (hW : Below w8.heap.size w8 W) => And.intro ((hW.cell (p := ⟨nb, 1, none⟩) gl).trans n1) ((hW.cell (p := ⟨nb, 2, none⟩) gl).trans n2))
  go_cut [10] (fun s10 wx => ∃ g, s10 = .pointer (some ⟨g, 0, none⟩) ∧ Hid (RpBox wx g ⟨0, 0, N1, ⟨#[]⟩, h2, none, 0, 0, ⟨#[]⟩⟩) ∧ Hid (Below w8.heap.size w8 wx))
  case first =>
    go_region_held3 (fun w' => w'.cell? ⟨nb, 1, none⟩ = some (.int .i64 (N1 : Int)) ∧ w'.cell? ⟨nb, 2, none⟩ = some (.int .i64 (N2 : Int)))
      (first
        | assumption
        | exact HKQ.out _ (by (first | (with_reducible exact Below.refl _ _) | (with_reducible exact (Below.refl _ _).drew) | (with_reducible exact (Below.refl _ _).alloc (Nat.le_refl _) _) | (with_reducible exact ((Below.refl _ _).alloc (Nat.le_refl _) _).drew) | (with_reducible exact ((Below.refl _ _).drew).alloc (Nat.le_refl _) _))))
      (first
        | (go_at_call 34; (with_reducible refine (flag_true _).mono ?_); rintro e w1 ⟨rfl, rfl⟩))
    all_goals
      go_wp2_with fail
      go_meet
      first
        | (with_reducible exact ⟨_, rfl, Lib.hid (RpBox.new w8 _ ⟨0, 0, N1, ⟨#[]⟩, h2, none, 0, 0, ⟨#[]⟩⟩), Lib.hid (by (first | (with_reducible exact Below.refl _ _) | (with_reducible exact (Below.refl _ _).drew) | (with_reducible exact (Below.refl _ _).alloc (Nat.le_refl _) _) | (with_reducible exact ((Below.refl _ _).alloc (Nat.le_refl _) _).drew) | (with_reducible exact ((Below.refl _ _).drew).alloc (Nat.le_refl _) _)))⟩)
        | exact ⟨_, rfl, Lib.hid ((RpBox.new w8 _ ⟨0, 0, N1, ⟨#[]⟩, h2, none, 0, 0, ⟨#[]⟩⟩).below (Below.refl _ _).drew), Lib.hid (by (first | (with_reducible exact Below.refl _ _) | (with_reducible exact (Below.refl _ _).drew) | (with_reducible exact (Below.refl _ _).alloc (Nat.le_refl _) _) | (with_reducible exact ((Below.refl _ _).alloc (Nat.le_refl _) _).drew) | (with_reducible exact ((Below.refl _ _).drew).alloc (Nat.le_refl _) _)))⟩
  case rest =>
  obtain ⟨g, rfl, HG, HGB⟩ := hcut
  have HT9 := Lib.hid (there_below HT8.out hrl8 HGB.out)
  have HB9 := Lib.hid (HB8.out.trans (HGB.out.mono HB8.out.size))
  have HS9 := Lib.hid (HS8.out.below HGB.out)
  have HU9 := Lib.hid (HU8.out.below HGB.out)
  clear n0 n1 n2 g0 g1 g2 gl HKQ heq HT8 HB8 HS8 HU8
  obtain ⟨n0, n1, n2, g0, g1, g2, gl⟩ := HU9.out
  obtain ⟨q0, q1, q2⟩ := HS9.out
  obtain ⟨p0, p1, p2, p3, p4, p5⟩ := HG.out
  simp only at p0 p1 p2 p3 p4
  go_wp2_with fail
  have hkl := k1.toNat_lt
  have HCW := Lib.hid (conv48 k1)
  have hcA := HCW.out.1
  have hcB := HCW.out.2.1.trans HCC.out.symm
  have hcC := HCW.out.2.2.1
  have hcD := HCW.out.2.2.2.trans HCC.out.symm
  clear hkl
  go_still_tail 9, (by kernel_rfl)
  change wpList _ _ _ _ _ wc.drew
  go_wp2_with (with_reducible refine wpList_store_mid rfl 39 (.tmp 2) (.tmp 67) rfl rb 0 #[.int .i64 CC, .int .i64 (N0 : Int), .int .i64 (N1 : Int), .string ⟨#[]⟩, .bool h2, .slice none 0 0, .string ⟨#[]⟩] ?z1 ?z2 ?z3 ?z4 ?z5 ?_)
  case z4 => exact size7
  case z5 => exact one7 ⟨_, N0, N1, ⟨#[]⟩, h2, none, 0, 0, ⟨#[]⟩⟩
  case z1 => rfl
  case z2 => first | rfl | (simp [Act.eval]; done) | (simp [Act.eval, hcA, hcB, hcC, hcD]; done)
  case z3 => exact (World.there_drew _ _ _ _).2 HT9.out
  have HNO := HRD.out
  refine bodyPost_ret (v := .tuple #[sa ⟨CC, N0, N1, ⟨#[]⟩, h2, none, 0, 0, ⟨#[]⟩⟩, .bool true]) ?_ rfl ⟨_, true, rfl, HNO, below_setCells _ _ _ HB9.out.drew hwr⟩
  exact read_res _ _ rb ⟨CC, N0, N1, ⟨#[]⟩, h2, none, 0, 0, ⟨#[]⟩⟩ true (World.rangeAt_setCells_same _ _ _ _ ((World.there_drew _ _ _ _).2 HT9.out)) rfl rfl
end Go.Proofs.Ytemaonfgledcmaa
