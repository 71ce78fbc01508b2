/-
  Layer 16 (post): awake. Conditions: none.
-/
import Derived.Test.YtdnhmkfgcpdbkaaA4
import Derived.Test.YtdnhmkfgcpdbkaaTx
namespace Go.Proofs.Ytdnhmkfgcpdbkaa
open Go.RowKit
set_option linter.unusedVariables false
set_option linter.unusedSimpArgs false

theorem wpList_load_want {P : Program} {ops : Array Oper} {rest : List Oper} {op : Oper} {a : Act} {w : World} {Q : Exit → Act → World → Prop} (hw : Region.wanted op (yielded ops a.tmps) = true) (ty : TypeId) (x : Operand) (ho : op.op = .load ty x)
    (b o : Nat) (hx : a.eval x = .pointer (some ⟨b, o, none⟩)) (cs : List Value) (d : TypeDesc) (hc : w.rangeAt b o cs)
    (hu : P.underlying ty = some d) (hd : d.isRow = true) (hi : (P.info? ty).map (·.size) = some cs.length)
    (h : wpList P ops Q rest (a.put op.dst (.agg cs.toArray)) w) : wpList P ops Q (op :: rest) a w :=
  BigFrame.wpList_want hw fun _ hK => wp_load_mid ty x ho b o hx cs d hc hu hd hi (hK _ _ h)
def mAw : Mg := (⟨[.n 1 15 1, .n 0 maxN 3, .n 0 maxN 0, .n 0 maxN 7, .n 0 maxN 2, .n 0 maxN 9, .n 0 maxN 0, .f false], [.n 0 maxN 2, .t ⟨#[107]⟩, .t ⟨#[118]⟩, .t ⟨#[]⟩, .f false], [], [.t ⟨#[]⟩, .t ⟨#[]⟩, .n 0 maxN 0], [.n 0 maxN 0, .t ⟨#[]⟩, .f false], [], [.t ⟨#[]⟩], [], [], []⟩ : Mg)
theorem vL1 : vL 0 = [0] ∧ vL 1 = [1] ∧ vL 2 = [2] ∧ vL 3 = [3] ∧ vL 7 = [7] ∧ vL 9 = [9] := ⟨vL_lt (by decide), vL_lt (by decide), vL_lt (by decide), vL_lt (by decide), vL_lt (by decide), vL_lt (by decide)⟩
theorem mAw_len : (txM mAw).length = 27 := by
  obtain ⟨e0, e1, e2, e3, e7, e9⟩ := vL1
  have t0 : txL ((⟨#[]⟩ : ByteArray).data.toList) = [0] := by show vL 0 ++ [] = _; rw [e0]; rfl
  have t1 : txL ((⟨#[107]⟩ : ByteArray).data.toList) = [1, 107] := by show vL 1 ++ [107] = _; rw [e1]; rfl
  have t2 : txL ((⟨#[118]⟩ : ByteArray).data.toList) = [1, 118] := by show vL 1 ++ [118] = _; rw [e1]; rfl
  have n0 : vL (0 : Int).toNat = [0] := e0
  have n1 : vL (1 : Int).toNat = [1] := e1
  have n2 : vL (2 : Int).toNat = [2] := e2
  have n3 : vL (3 : Int).toNat = [3] := e3
  have n7 : vL (7 : Int).toNat = [7] := e7
  have n9 : vL (9 : Int).toNat = [9] := e9
  unfold mAw txM txSg txLs txE
  simp only [List.flatMap_cons, List.flatMap_nil, List.length_nil, txF, t0, t1, t2, n0, n1, n2, n3, n7, n9, e0, Bool.false_eq_true, if_false, List.append_nil]
  rfl
theorem mAw_ok : okM mAw = true := by decide
theorem mAw_put : putOk mAw = true ∧ putS mAw = sealB (txM mAw) ∧ putE mAw = 0 ∧ (sealB (txM mAw)).size = 31 := by
  have hs : (sealB (txM mAw)).size = 31 := by
    show (txM mAw ++ CR.tailL (txM mAw)).toArray.size = 31
    rw [List.size_toArray, List.length_append, mAw_len, CR.tailL_length]
  have h : putOk mAw = true := by
    unfold putOk
    rw [mAw_ok, hs]
    rfl
  refine ⟨h, ?_, ?_, hs⟩
  · unfold putS; rw [if_pos h]
  · unfold putE; rw [if_pos h]
theorem mAw_take : tkOk (sealB (txM mAw)) = true ∧ (TKr (sealB (txM mAw))).2 = mAw :=
  take_put mAw ⟨fun x hx => by simp [mAw] at hx, fun x hx => by simp [mAw] at hx, fun x hx => by simp [mAw] at hx, fun x hx => by simp [mAw] at hx, fun x hx => by simp [mAw] at hx⟩ ⟨⟨rfl, by decide⟩, ⟨rfl, by decide⟩, ⟨rfl, by decide⟩, ⟨rfl, by decide⟩, ⟨rfl, by decide⟩⟩ ⟨rfl, rfl, rfl, rfl, rfl⟩ mAw_ok
set_option maxRecDepth 100000 in
set_option maxHeartbeats 4000000 in
theorem awake16_any (w : World) : Calls Try.prog 9 #[] w fun e w' => e = .returned (.bool true) ∧ Below w.heap.size w w' := by
  obtain ⟨VL, hVA⟩ : ∃ VL : List Value, VL = [.int .i64 1, .int .i64 3, .int .i64 0, .int .i64 7, .int .i64 2, .int .i64 9, .int .i64 0, .bool false, .int .i64 2, .string ⟨#[107]⟩, .string ⟨#[118]⟩, .string ⟨#[]⟩, .bool false, .slice none 0 0, .string ⟨#[]⟩, .string ⟨#[]⟩, .int .i64 0, .int .i64 0, .string ⟨#[]⟩, .bool false, .slice none 0 0, .string ⟨#[]⟩, .slice none 0 0, .slice none 0 0, .slice none 0 0] := ⟨_, rfl⟩
  have hVT : VL.toArray = #[.int .i64 1, .int .i64 3, .int .i64 0, .int .i64 7, .int .i64 2, .int .i64 9, .int .i64 0, .bool false, .int .i64 2, .string ⟨#[107]⟩, .string ⟨#[118]⟩, .string ⟨#[]⟩, .bool false, .slice none 0 0, .string ⟨#[]⟩, .string ⟨#[]⟩, .int .i64 0, .int .i64 0, .string ⟨#[]⟩, .bool false, .slice none 0 0, .string ⟨#[]⟩, .slice none 0 0, .slice none 0 0, .slice none 0 0] := by rw [hVA]
  have hVS : VL.length = 25 := by rw [hVA]; rfl
  have hV1 : VL.toArray.all (·.oneCell') = true := by rw [hVT]; kernel_rfl
  have HVA := Lib.hid (And.intro hVT (And.intro hVS hV1))
  have HSZ : Hid ((Try.prog.info? 35).map (·.size) = some VL.length ∧ (Try.prog.info? 35).map (·.size) = some VL.toArray.size) := Lib.hid ⟨by rw [hVS]; exact Try.sizeMsg, by rw [List.size_toArray, hVS]; exact Try.sizeMsg⟩
  have hlr : ∀ (W : World) sz, LRd W sz (.slice none 0 0) [] := fun W sz => ⟨none, 0, 0, rfl, rfl, Nat.zero_le _, .inl rfl⟩
  have HPT : Hid (∀ W, Calls Try.prog 10 #[.agg VL.toArray] W fun e w' => e = .returned (.tuple #[.string (sealB (txM mAw)), .int .i64 0]) ∧ Below W.heap.size W w') := Lib.hid fun W => by
    have := put16_any 1 3 0 7 2 9 0 false 2 ⟨#[107]⟩ ⟨#[118]⟩ ⟨#[]⟩ false [] ⟨#[]⟩ ⟨#[]⟩ 0 0 ⟨#[]⟩ false [] ⟨#[]⟩ [] [] [] (.slice none 0 0) (.slice none 0 0) (.slice none 0 0) (.slice none 0 0) (.slice none 0 0) W (hlr W 3) (fun x hx => by simp at hx) (hlr W 2) (fun x hx => by simp at hx) (hlr W 6) (fun x hx => by simp at hx) (hlr W 4) (fun x hx => by simp at hx) (hlr W 7) (fun x hx => by simp at hx) (fun x hx => by simp at hx)
    have e1 : putS (⟨[.n 1 15 1, .n 0 maxN 3, .n 0 maxN 0, .n 0 maxN 7, .n 0 maxN 2, .n 0 maxN 9, .n 0 maxN 0, .f false], [.n 0 maxN 2, .t ⟨#[107]⟩, .t ⟨#[118]⟩, .t ⟨#[]⟩, .f false], [], [.t ⟨#[]⟩, .t ⟨#[]⟩, .n 0 maxN 0], [.n 0 maxN 0, .t ⟨#[]⟩, .f false], [], [.t ⟨#[]⟩], [], [], []⟩ : Mg) = sealB (txM mAw) := mAw_put.2.1
    have e2 : putE (⟨[.n 1 15 1, .n 0 maxN 3, .n 0 maxN 0, .n 0 maxN 7, .n 0 maxN 2, .n 0 maxN 9, .n 0 maxN 0, .f false], [.n 0 maxN 2, .t ⟨#[107]⟩, .t ⟨#[118]⟩, .t ⟨#[]⟩, .f false], [], [.t ⟨#[]⟩, .t ⟨#[]⟩, .n 0 maxN 0], [.n 0 maxN 0, .t ⟨#[]⟩, .f false], [], [.t ⟨#[]⟩], [], [], []⟩ : Mg) = 0 := mAw_put.2.2.1
    rw [e1, e2] at this
    rw [hVT]
    exact this
  obtain ⟨s, hs⟩ : ∃ s, s = sealB (txM mAw) := ⟨_, rfl⟩
  rw [← hs] at HPT
  have hsz : s.size = 31 := by rw [hs]; exact mAw_put.2.2.2
  have HSM : ∀ u1 v1 u2 v2 u3 v3 u4 v4 u5 v5 W, Calls Try.prog 15 #[.agg VL.toArray, .agg #[.int .i64 1, .int .i64 3, .int .i64 0, .int .i64 7, .int .i64 2, .int .i64 9, .int .i64 0, .bool false, .int .i64 2, .string ⟨#[107]⟩, .string ⟨#[118]⟩, .string ⟨#[]⟩, .bool false, .slice u1 0 v1, .string ⟨#[]⟩, .string ⟨#[]⟩, .int .i64 0, .int .i64 0, .string ⟨#[]⟩, .bool false, .slice u2 0 v2, .string ⟨#[]⟩, .slice u3 0 v3, .slice u4 0 v4, .slice u5 0 v5]] W fun e w' => e = .returned (.bool true) ∧ Below W.heap.size W w' := fun u1 v1 u2 v2 u3 v3 u4 v4 u5 v5 W => by
    rw [hVT]
    have hl : ∀ sz (a : Option Addr) c, LRv W sz (.slice a 0 c) [] := fun sz a c => ⟨a, 0, c, rfl, rfl, .inl rfl⟩
    exact same16_any W 1 3 0 7 2 9 0 false 2 ⟨#[107]⟩ ⟨#[118]⟩ ⟨#[]⟩ false [] ⟨#[]⟩ ⟨#[]⟩ 0 0 ⟨#[]⟩ false [] ⟨#[]⟩ [] [] [] none 0 0 none 0 0 none 0 0 none 0 0 none 0 0 u1 0 v1 u2 0 v2 u3 0 v3 u4 0 v4 u5 0 v5 (hl 3 _ _) (hl 3 _ _) (fun x hx => by simp at hx) (Nat.zero_le _) (hl 2 _ _) (hl 2 _ _) (fun x hx => by simp at hx) (Nat.zero_le _) (hl 6 _ _) (hl 6 _ _) (fun x hx => by simp at hx) (Nat.zero_le _) (hl 4 _ _) (hl 4 _ _) (fun x hx => by simp at hx) (Nat.zero_le _) (hl 7 _ _) (hl 7 _ _) (Nat.zero_le _) (fun x hx => by simp at hx) rfl
  have HTK : Hid (∀ W, Calls Try.prog 14 #[.string s] W fun e w' => Below W.heap.size W w' ∧ ∃ UL : List Value, e = .returned (.tuple #[.agg UL.toArray, .int .i64 0]) ∧ UL.length = 25 ∧ UL.toArray.all (·.oneCell') = true ∧ ∀ W, Calls Try.prog 15 #[.agg VL.toArray, .agg UL.toArray] W fun e w' => e = .returned (.bool true) ∧ Below W.heap.size W w') := Lib.hid fun W => by
    refine (take16_any s W (by omega)).mono ?_
    rintro e w' ⟨hb, h | ⟨_, u1, u2, u3, u4, u5, h1, ⟨a1, n1, c1, rfl, g1, _⟩, ⟨a2, n2, c2, rfl, g2, _⟩, ⟨a3, n3, c3, rfl, g3, _⟩, ⟨a4, n4, c4, rfl, g4, _⟩, ⟨a5, n5, c5, rfl, g5, _⟩⟩⟩
    · rw [hs, mAw_take.1] at h; cases h.1
    · rw [hs, mAw_take.2] at h1 g1 g2 g3 g4 g5
      obtain rfl : n1 = 0 := g1.symm
      obtain rfl : n2 = 0 := g2.symm
      obtain rfl : n3 = 0 := g3.symm
      obtain rfl : n4 = 0 := g4.symm
      obtain rfl : n5 = 0 := g5.symm
      exact ⟨hb, _, h1, rfl, by kernel_rfl, HSM a1 c1 a2 c2 a3 c3 a4 c4 a5 c5⟩
  have hsi : (20 : Int) < (s.size : Int) := by omega
  obtain ⟨ZA, hZA⟩ : ∃ ZA : Array Value, ZA = #[.int .i64 0, .int .i64 0, .int .i64 0, .int .i64 0, .int .i64 0, .int .i64 0, .int .i64 0, .bool false, .int .i64 0, .string ⟨#[]⟩, .string ⟨#[]⟩, .string ⟨#[]⟩, .bool false, .slice none 0 0, .string ⟨#[]⟩, .string ⟨#[]⟩, .int .i64 0, .int .i64 0, .string ⟨#[]⟩, .bool false, .slice none 0 0, .string ⟨#[]⟩, .slice none 0 0, .slice none 0 0, .slice none 0 0] := ⟨_, rfl⟩
  have HTH : Hid (∀ W : World, (W.alloc (.cells #[.int .i64 0, .int .i64 0, .int .i64 0, .int .i64 0, .int .i64 0, .int .i64 0, .int .i64 0, .bool false, .int .i64 0, .string ⟨#[]⟩, .string ⟨#[]⟩, .string ⟨#[]⟩, .bool false, .slice none 0 0, .string ⟨#[]⟩, .string ⟨#[]⟩, .int .i64 0, .int .i64 0, .string ⟨#[]⟩, .bool false, .slice none 0 0, .string ⟨#[]⟩, .slice none 0 0, .slice none 0 0, .slice none 0 0] 35)).there W.heap.size 0 25) := Lib.hid fun W => there_heap (heap_alloc_new W _) rfl
  have HBZ : Hid (∀ (W : World) (vs : List Value), Below W.heap.size W ((W.alloc (.cells #[.int .i64 0, .int .i64 0, .int .i64 0, .int .i64 0, .int .i64 0, .int .i64 0, .int .i64 0, .bool false, .int .i64 0, .string ⟨#[]⟩, .string ⟨#[]⟩, .string ⟨#[]⟩, .bool false, .slice none 0 0, .string ⟨#[]⟩, .string ⟨#[]⟩, .int .i64 0, .int .i64 0, .string ⟨#[]⟩, .bool false, .slice none 0 0, .string ⟨#[]⟩, .slice none 0 0, .slice none 0 0, .slice none 0 0] 35)).setCells W.heap.size 0 vs) ∧ W.heap.size < ((W.alloc (.cells #[.int .i64 0, .int .i64 0, .int .i64 0, .int .i64 0, .int .i64 0, .int .i64 0, .int .i64 0, .bool false, .int .i64 0, .string ⟨#[]⟩, .string ⟨#[]⟩, .string ⟨#[]⟩, .bool false, .slice none 0 0, .string ⟨#[]⟩, .string ⟨#[]⟩, .int .i64 0, .int .i64 0, .string ⟨#[]⟩, .bool false, .slice none 0 0, .string ⟨#[]⟩, .slice none 0 0, .slice none 0 0, .slice none 0 0] 35)).setCells W.heap.size 0 vs).heap.size) := Lib.hid fun W vs => ⟨below_sets vs 0 _ ((Below.refl _ W).alloc (Nat.le_refl _) _) (Nat.le_refl _), by rw [sets_size]; simp⟩
  have HR1 : Hid (((w.alloc (.cells #[.int .i64 0, .int .i64 0, .int .i64 0, .int .i64 0, .int .i64 0, .int .i64 0, .int .i64 0, .bool false, .int .i64 0, .string ⟨#[]⟩, .string ⟨#[]⟩, .string ⟨#[]⟩, .bool false, .slice none 0 0, .string ⟨#[]⟩, .string ⟨#[]⟩, .int .i64 0, .int .i64 0, .string ⟨#[]⟩, .bool false, .slice none 0 0, .string ⟨#[]⟩, .slice none 0 0, .slice none 0 0, .slice none 0 0] 35)).setCells w.heap.size 0 VL).rangeAt w.heap.size 0 VL) := Lib.hid (World.rangeAt_setCells_same _ _ _ _ (by rw [hVS]; exact HTH.out w))
  clear hs hlr hVA hVT hVS hV1 HSM hZA hsz
  go_enter Try.func9, Try.ntmps9
  go_upto_region 1 with fail
  go_wp2_with (generalize hG : wpList _ _ _ _ _ _ = GG)
  rw [← hG]
  clear hG
  refine wpList_val rfl (.agg #[.int .i64 2, .string ⟨#[107]⟩, .string ⟨#[118]⟩, .string ⟨#[]⟩, .bool false, .slice none 0 0, .string ⟨#[]⟩, .string ⟨#[]⟩, .int .i64 0]) (by kernel_rfl) ?_
  refine wpList_val rfl (.agg VL.toArray) (by rw [HVA.out.1]; kernel_rfl) ?_
  go_wp2_with (first
    | (refine wpList_store_mid rfl 35 (.tmp 1) (.tmp 7) rfl w.heap.size 0 VL.toArray ?e1 ?e2 ?e3 ?e4 ?e5 ?_)
    | (refine wpList_load_mid rfl 35 (.tmp 1) rfl w.heap.size 0 rfl VL _ HR1.out Try.underlying35 rfl HSZ.out.1 ?_))
  case e4 => exact HSZ.out.2
  case e5 => exact HVA.out.2.2
  case e1 => rfl
  case e2 => rfl
  case e3 =>
    have h := HTH.out w
    rw [show 25 = VL.toArray.size by rw [List.size_toArray, HVA.out.2.1]] at h
    exact h
  refine (HPT.out _).mono ?_
  rintro e w2 ⟨rfl, hb⟩
  have hz := HBZ.out w VL
  have HB2 : Hid (Below w.heap.size w w2) := Lib.hid (hz.1.trans (hb.mono hz.1.size))
  have HR2 : Hid (w2.rangeAt w.heap.size 0 VL) := Lib.hid (fun j v hj => (hb.cell (p := ⟨w.heap.size, _, none⟩) hz.2).trans (HR1.out j v hj))
  have hl2 : w.heap.size < w2.heap.size := Nat.lt_of_lt_of_le hz.2 hb.size
  clear hb hz HPT
  go_wp2_with fail
  refine (HTK.out _).mono ?_
  rintro e w3 ⟨hb, UL, rfl, hu1, hu2, hsu⟩
  have hz := HBZ.out w3 UL
  have hl3 : w.heap.size < w3.heap.size := Nat.lt_of_lt_of_le hl2 hb.size
  have HB4 : Hid (Below w.heap.size w ((w3.alloc (.cells #[.int .i64 0, .int .i64 0, .int .i64 0, .int .i64 0, .int .i64 0, .int .i64 0, .int .i64 0, .bool false, .int .i64 0, .string ⟨#[]⟩, .string ⟨#[]⟩, .string ⟨#[]⟩, .bool false, .slice none 0 0, .string ⟨#[]⟩, .string ⟨#[]⟩, .int .i64 0, .int .i64 0, .string ⟨#[]⟩, .bool false, .slice none 0 0, .string ⟨#[]⟩, .slice none 0 0, .slice none 0 0, .slice none 0 0] 35)).setCells w3.heap.size 0 UL)) := Lib.hid ((HB2.out.trans (hb.mono (by omega))).trans (hz.1.mono (by omega)))
  have HR4 : Hid (((w3.alloc (.cells #[.int .i64 0, .int .i64 0, .int .i64 0, .int .i64 0, .int .i64 0, .int .i64 0, .int .i64 0, .bool false, .int .i64 0, .string ⟨#[]⟩, .string ⟨#[]⟩, .string ⟨#[]⟩, .bool false, .slice none 0 0, .string ⟨#[]⟩, .string ⟨#[]⟩, .int .i64 0, .int .i64 0, .string ⟨#[]⟩, .bool false, .slice none 0 0, .string ⟨#[]⟩, .slice none 0 0, .slice none 0 0, .slice none 0 0] 35)).setCells w3.heap.size 0 UL).rangeAt w.heap.size 0 VL) := Lib.hid (fun j v hj => (hz.1.cell (p := ⟨w.heap.size, _, none⟩) hl3).trans ((hb.cell (p := ⟨w.heap.size, _, none⟩) hl2).trans (HR2.out j v hj)))
  have HR5 : Hid (((w3.alloc (.cells #[.int .i64 0, .int .i64 0, .int .i64 0, .int .i64 0, .int .i64 0, .int .i64 0, .int .i64 0, .bool false, .int .i64 0, .string ⟨#[]⟩, .string ⟨#[]⟩, .string ⟨#[]⟩, .bool false, .slice none 0 0, .string ⟨#[]⟩, .string ⟨#[]⟩, .int .i64 0, .int .i64 0, .string ⟨#[]⟩, .bool false, .slice none 0 0, .string ⟨#[]⟩, .slice none 0 0, .slice none 0 0, .slice none 0 0] 35)).setCells w3.heap.size 0 UL).rangeAt w3.heap.size 0 UL) := Lib.hid (World.rangeAt_setCells_same _ _ _ _ (by rw [hu1]; exact HTH.out w3))
  have HSU : Hid ((Try.prog.info? 35).map (·.size) = some UL.length ∧ (Try.prog.info? 35).map (·.size) = some UL.toArray.size ∧ UL.toArray.all (·.oneCell') = true ∧ UL.length = 25) := Lib.hid ⟨by rw [hu1]; exact Try.sizeMsg, by rw [List.size_toArray, hu1]; exact Try.sizeMsg, hu2, hu1⟩
  have HSA := Lib.hid hsu
  clear hb hz hu1 hu2 hsu HTK HB2 HR2
  go_wp2_with (first
    | (refine wpList_store_mid rfl 35 (.tmp 4) (.tmp 16) rfl w3.heap.size 0 UL.toArray ?f1 ?f2 ?f3 ?f4 ?f5 ?_)
    | (refine wpList_load_want rfl 35 (.tmp 1) rfl w.heap.size 0 rfl VL _ HR4.out Try.underlying35 rfl HSZ.out.1 ?_)
    | (refine wpList_load_want rfl 35 (.tmp 4) rfl w3.heap.size 0 rfl UL _ HR5.out Try.underlying35 rfl HSU.out.1 ?_))
  case f4 => exact HSU.out.2.1
  case f5 => exact HSU.out.2.2.1
  case f1 => rfl
  case f2 => rfl
  case f3 =>
    have h := HTH.out w3
    rw [show 25 = UL.toArray.size by rw [List.size_toArray, HSU.out.2.2.2]] at h
    exact h
  refine (HSA.out _).mono ?_
  rintro e w5 ⟨rfl, hb⟩
  have HB5 := Lib.hid (HB4.out.trans (hb.mono HB4.out.size))
  clear hb
  go_wp2_with fail
  go_ret
  exact ⟨rfl, HB5.out⟩
end Go.Proofs.Ytdnhmkfgcpdbkaa
