/-
  Layer 16 (post): the walk of PostMany. Conditions: none.
-/
import Derived.Test.YtdnhmkfgcpdbkaaUf
import Derived.Test.YtdnhmkfgcpdbkaaUh
import Derived.Test.YtdnhmkfgcpdbkaaBt
import Derived.Deep.CutBlock
namespace Go.Proofs.Ytdnhmkfgcpdbkaa
open Go.RowKit
set_option linter.unusedVariables false
set_option linter.unusedSimpArgs false

theorem range_set {w : World} {b j : Nat} {VL : List Value} {v : Value} (h : w.rangeAt b 0 VL) (hj : j < VL.length) : (w.setCell ⟨b, j, none⟩ v).rangeAt b 0 (VL.set j v) := fun i x hi => by
  rw [Nat.zero_add]
  by_cases e : i = j
  · subst e
    rw [List.getElem?_set_self hj] at hi
    have h0 := h i _ (List.getElem?_eq_getElem hj)
    rw [Nat.zero_add] at h0
    rw [World.cell?_setCell_same' _ _ _ (by rw [h0]; rfl)]
    exact hi
  · rw [List.getElem?_set_ne (fun c => e c.symm)] at hi
    have h0 := h i x hi
    rw [Nat.zero_add] at h0
    rw [World.cell?_setCell_other _ _ _ _ (fun c => by injection c with _ c _; exact e c.symm)]
    exact h0
theorem row_set {w : World} {rb ro sz : Nat} {L : List (List Fld)} (h : RowAt w rb ro sz L) {p : Addr} {v : Value} (hp : p.block ≠ rb) : RowAt (w.setCell p v) rb ro sz L := fun i hi j hj => by
  rw [World.cell?_setCell_other _ _ _ _ (fun c => hp (by rw [c]))]
  exact h i hi j hj
def VKm : List Value := [.int .i64 15, .int .i64 0, .int .i64 0, .int .i64 0, .int .i64 0, .int .i64 0, .int .i64 0, .bool false, .int .i64 0, .string ⟨#[]⟩, .string ⟨#[]⟩, .string ⟨#[]⟩, .bool false, .slice none 0 0, .string ⟨#[]⟩, .string ⟨#[]⟩, .int .i64 0, .int .i64 0, .string ⟨#[]⟩, .bool false, .slice none 0 0, .string ⟨#[]⟩, .slice none 0 0, .slice none 0 0, .slice none 0 0]
theorem many_mv0 {w : World} {rb n : Nat} (h : RowAt w rb 0 3 (List.replicate n zeroWrite)) (h1 : rb < w.heap.size) (h2 : n ≤ maxLen) : MV (LRd w) (VKm.set 13 (.slice (some ⟨rb, 0, none⟩) n n)) (mMany 0 n) :=
  ⟨15, 0, 0, 0, 0, 0, 0, false, 0, ⟨#[]⟩, ⟨#[]⟩, ⟨#[]⟩, false, (List.replicate n zeroWrite), ⟨#[]⟩, ⟨#[]⟩, 0, 0, ⟨#[]⟩, false, [], ⟨#[]⟩, [], [], [], (.slice (some ⟨rb, 0, none⟩) n n), (.slice none 0 0), (.slice none 0 0), (.slice none 0 0), (.slice none 0 0), rfl, rfl, ⟨some ⟨rb, 0, none⟩, n, n, rfl, by simp, h2, .inr ⟨rb, 0, rfl, h1, h⟩⟩, ⟨none, 0, 0, rfl, rfl, Nat.zero_le _, .inl rfl⟩, ⟨none, 0, 0, rfl, rfl, Nat.zero_le _, .inl rfl⟩, ⟨none, 0, 0, rfl, rfl, Nat.zero_le _, .inl rfl⟩, ⟨none, 0, 0, rfl, rfl, Nat.zero_le _, .inl rfl⟩, fun x hx => by rw [List.eq_of_mem_replicate hx]; exact ⟨_, _, _, rfl⟩, fun x hx => by simp at hx, fun x hx => by simp at hx, fun x hx => by simp at hx, fun x hx => by simp at hx⟩
theorem many_mk0 (n : Nat) (hn : n ≤ 600) (W : World) : (Instr.makeSlice 22 (.int .i64 (n : Int)) (.int .i64 (n : Int))).run Try.prog W = .ok (.slice (some ⟨W.heap.size, 0, none⟩) n n) (W.alloc (.cells (madeCells #[.string ⟨#[]⟩, .string ⟨#[]⟩, .bool false] (n * 3)) 50)) := by
  obtain ⟨i0, hi0, hi1⟩ : ∃ i0, Try.prog.info? 50 = some i0 ∧ (i0.zero, i0.size) = (some (.agg #[.string ⟨#[]⟩, .string ⟨#[]⟩, .bool false]), 3) := Option.map_eq_some_iff.1 Try.infoWrite
  have hib : i0.bytes ≤ 4096 := by
    have : (Try.prog.info? 50).map (fun i => decide (i.bytes ≤ 4096)) = some true := by kernel_rfl
    rw [hi0] at this
    exact of_decide_eq_true (Option.some.inj this)
  have := run_make (P := Try.prog) W 22 50 i0 (.agg #[.string ⟨#[]⟩, .string ⟨#[]⟩, .bool false]) Try.underlying22 hi0 (by injection hi1) .i64 .i64 n n (by omega) (Int.le_refl _) (by
    have : (i0.bytes : Int) * (n : Int) ≤ 4096 * 600 := Int.mul_le_mul (by omega) (by omega) (by omega) (by omega)
    omega) (by omega)
  rw [this]
  have e2 : i0.size = 3 := by injection hi1
  rw [e2]; rfl
/-- Behind the arm 0. -/
theorem many_arm0 {w0 W X : World} {mb n : Nat} (hX : X = (W.setCell ⟨mb, 13, none⟩ (.slice (some ⟨W.heap.size, 0, none⟩) n n)).alloc (.cells (madeCells #[.string ⟨#[]⟩, .string ⟨#[]⟩, .bool false] (n * 3)) 50)) (hb : Below w0.heap.size w0 W) (hm : w0.heap.size ≤ mb) (hl : mb < W.heap.size) (hr : W.rangeAt mb 0 VKm) (hn : n ≤ 600) :
    ∃ VL : List Value, Hid (MV (LRd X) VL (mMany 0 n)) ∧ Hid (X.rangeAt mb 0 VL) ∧ Hid (Below w0.heap.size w0 X) ∧ mb < X.heap.size := by
  have hXe : X = (W.alloc (.cells (madeCells #[.string ⟨#[]⟩, .string ⟨#[]⟩, .bool false] (n * 3)) 50)).setCell ⟨mb, 13, none⟩ (.slice (some ⟨W.heap.size, 0, none⟩) n n) := by rw [hX]; exact (World.setCell_alloc_past _ _ _ _ hl).symm
  rw [hXe]
  have hrow := made_row W #[.string ⟨#[]⟩, .string ⟨#[]⟩, .bool false] 50 n 3 zeroWrite rfl rfl (by omega)
  have hb1 : Below w0.heap.size w0 (W.alloc (.cells (madeCells #[.string ⟨#[]⟩, .string ⟨#[]⟩, .bool false] (n * 3)) 50)) := hb.alloc hb.size _
  have hb2 := hb1.setCell (p := ⟨mb, 13, none⟩) hm (.slice (some ⟨W.heap.size, 0, none⟩) n n)
  have hr1 : (W.alloc (.cells (madeCells #[.string ⟨#[]⟩, .string ⟨#[]⟩, .bool false] (n * 3)) 50)).rangeAt mb 0 VKm := fun j v hj => (((Below.refl _ W).alloc (Nat.le_refl _) _).cell (p := ⟨mb, _, none⟩) hl).trans (hr j v hj)
  refine ⟨VKm.set 13 (.slice (some ⟨W.heap.size, 0, none⟩) n n), Lib.hid (many_mv0 (row_set hrow (by show mb ≠ _; omega)) (by simp) (by unfold maxLen; omega)), Lib.hid (range_set hr1 (by show 13 < 25; omega)), Lib.hid hb2, by simp; omega⟩
theorem many_mv1 {w : World} {rb n : Nat} (h : RowAt w rb 0 2 (List.replicate n zeroPair)) (h1 : rb < w.heap.size) (h2 : n ≤ maxLen) : MV (LRd w) (VKm.set 20 (.slice (some ⟨rb, 0, none⟩) n n)) (mMany 1 n) :=
  ⟨15, 0, 0, 0, 0, 0, 0, false, 0, ⟨#[]⟩, ⟨#[]⟩, ⟨#[]⟩, false, [], ⟨#[]⟩, ⟨#[]⟩, 0, 0, ⟨#[]⟩, false, (List.replicate n zeroPair), ⟨#[]⟩, [], [], [], (.slice none 0 0), (.slice (some ⟨rb, 0, none⟩) n n), (.slice none 0 0), (.slice none 0 0), (.slice none 0 0), rfl, rfl, ⟨none, 0, 0, rfl, rfl, Nat.zero_le _, .inl rfl⟩, ⟨some ⟨rb, 0, none⟩, n, n, rfl, by simp, h2, .inr ⟨rb, 0, rfl, h1, h⟩⟩, ⟨none, 0, 0, rfl, rfl, Nat.zero_le _, .inl rfl⟩, ⟨none, 0, 0, rfl, rfl, Nat.zero_le _, .inl rfl⟩, ⟨none, 0, 0, rfl, rfl, Nat.zero_le _, .inl rfl⟩, fun x hx => by simp at hx, fun x hx => by rw [List.eq_of_mem_replicate hx]; exact ⟨_, _, rfl⟩, fun x hx => by simp at hx, fun x hx => by simp at hx, fun x hx => by simp at hx⟩
theorem many_mk1 (n : Nat) (hn : n ≤ 600) (W : World) : (Instr.makeSlice 28 (.int .i64 (n : Int)) (.int .i64 (n : Int))).run Try.prog W = .ok (.slice (some ⟨W.heap.size, 0, none⟩) n n) (W.alloc (.cells (madeCells #[.string ⟨#[]⟩, .string ⟨#[]⟩] (n * 2)) 52)) := by
  obtain ⟨i0, hi0, hi1⟩ : ∃ i0, Try.prog.info? 52 = some i0 ∧ (i0.zero, i0.size) = (some (.agg #[.string ⟨#[]⟩, .string ⟨#[]⟩]), 2) := Option.map_eq_some_iff.1 Try.infoPair
  have hib : i0.bytes ≤ 4096 := by
    have : (Try.prog.info? 52).map (fun i => decide (i.bytes ≤ 4096)) = some true := by kernel_rfl
    rw [hi0] at this
    exact of_decide_eq_true (Option.some.inj this)
  have := run_make (P := Try.prog) W 28 52 i0 (.agg #[.string ⟨#[]⟩, .string ⟨#[]⟩]) Try.underlying28 hi0 (by injection hi1) .i64 .i64 n n (by omega) (Int.le_refl _) (by
    have : (i0.bytes : Int) * (n : Int) ≤ 4096 * 600 := Int.mul_le_mul (by omega) (by omega) (by omega) (by omega)
    omega) (by omega)
  rw [this]
  have e2 : i0.size = 2 := by injection hi1
  rw [e2]; rfl
/-- Behind the arm 1. -/
theorem many_arm1 {w0 W X : World} {mb n : Nat} (hX : X = (W.setCell ⟨mb, 20, none⟩ (.slice (some ⟨W.heap.size, 0, none⟩) n n)).alloc (.cells (madeCells #[.string ⟨#[]⟩, .string ⟨#[]⟩] (n * 2)) 52)) (hb : Below w0.heap.size w0 W) (hm : w0.heap.size ≤ mb) (hl : mb < W.heap.size) (hr : W.rangeAt mb 0 VKm) (hn : n ≤ 600) :
    ∃ VL : List Value, Hid (MV (LRd X) VL (mMany 1 n)) ∧ Hid (X.rangeAt mb 0 VL) ∧ Hid (Below w0.heap.size w0 X) ∧ mb < X.heap.size := by
  have hXe : X = (W.alloc (.cells (madeCells #[.string ⟨#[]⟩, .string ⟨#[]⟩] (n * 2)) 52)).setCell ⟨mb, 20, none⟩ (.slice (some ⟨W.heap.size, 0, none⟩) n n) := by rw [hX]; exact (World.setCell_alloc_past _ _ _ _ hl).symm
  rw [hXe]
  have hrow := made_row W #[.string ⟨#[]⟩, .string ⟨#[]⟩] 52 n 2 zeroPair rfl rfl (by omega)
  have hb1 : Below w0.heap.size w0 (W.alloc (.cells (madeCells #[.string ⟨#[]⟩, .string ⟨#[]⟩] (n * 2)) 52)) := hb.alloc hb.size _
  have hb2 := hb1.setCell (p := ⟨mb, 20, none⟩) hm (.slice (some ⟨W.heap.size, 0, none⟩) n n)
  have hr1 : (W.alloc (.cells (madeCells #[.string ⟨#[]⟩, .string ⟨#[]⟩] (n * 2)) 52)).rangeAt mb 0 VKm := fun j v hj => (((Below.refl _ W).alloc (Nat.le_refl _) _).cell (p := ⟨mb, _, none⟩) hl).trans (hr j v hj)
  refine ⟨VKm.set 20 (.slice (some ⟨W.heap.size, 0, none⟩) n n), Lib.hid (many_mv1 (row_set hrow (by show mb ≠ _; omega)) (by simp) (by unfold maxLen; omega)), Lib.hid (range_set hr1 (by show 20 < 25; omega)), Lib.hid hb2, by simp; omega⟩
theorem many_mv2 {w : World} {rb n : Nat} (h : RowAt w rb 0 6 (List.replicate n zeroShard)) (h1 : rb < w.heap.size) (h2 : n ≤ maxLen) : MV (LRd w) (VKm.set 22 (.slice (some ⟨rb, 0, none⟩) n n)) (mMany 2 n) :=
  ⟨15, 0, 0, 0, 0, 0, 0, false, 0, ⟨#[]⟩, ⟨#[]⟩, ⟨#[]⟩, false, [], ⟨#[]⟩, ⟨#[]⟩, 0, 0, ⟨#[]⟩, false, [], ⟨#[]⟩, (List.replicate n zeroShard), [], [], (.slice none 0 0), (.slice none 0 0), (.slice (some ⟨rb, 0, none⟩) n n), (.slice none 0 0), (.slice none 0 0), rfl, rfl, ⟨none, 0, 0, rfl, rfl, Nat.zero_le _, .inl rfl⟩, ⟨none, 0, 0, rfl, rfl, Nat.zero_le _, .inl rfl⟩, ⟨some ⟨rb, 0, none⟩, n, n, rfl, by simp, h2, .inr ⟨rb, 0, rfl, h1, h⟩⟩, ⟨none, 0, 0, rfl, rfl, Nat.zero_le _, .inl rfl⟩, ⟨none, 0, 0, rfl, rfl, Nat.zero_le _, .inl rfl⟩, fun x hx => by simp at hx, fun x hx => by simp at hx, fun x hx => by rw [List.eq_of_mem_replicate hx]; exact ⟨_, _, _, _, _, _, rfl⟩, fun x hx => by simp at hx, fun x hx => by simp at hx⟩
theorem many_mk2 (n : Nat) (hn : n ≤ 600) (W : World) : (Instr.makeSlice 31 (.int .i64 (n : Int)) (.int .i64 (n : Int))).run Try.prog W = .ok (.slice (some ⟨W.heap.size, 0, none⟩) n n) (W.alloc (.cells (madeCells #[.int .i64 0, .string ⟨#[]⟩, .string ⟨#[]⟩, .int .i64 0, .int .i64 0, .int .i64 0] (n * 6)) 54)) := by
  obtain ⟨i0, hi0, hi1⟩ : ∃ i0, Try.prog.info? 54 = some i0 ∧ (i0.zero, i0.size) = (some (.agg #[.int .i64 0, .string ⟨#[]⟩, .string ⟨#[]⟩, .int .i64 0, .int .i64 0, .int .i64 0]), 6) := Option.map_eq_some_iff.1 Try.infoShard
  have hib : i0.bytes ≤ 4096 := by
    have : (Try.prog.info? 54).map (fun i => decide (i.bytes ≤ 4096)) = some true := by kernel_rfl
    rw [hi0] at this
    exact of_decide_eq_true (Option.some.inj this)
  have := run_make (P := Try.prog) W 31 54 i0 (.agg #[.int .i64 0, .string ⟨#[]⟩, .string ⟨#[]⟩, .int .i64 0, .int .i64 0, .int .i64 0]) Try.underlying31 hi0 (by injection hi1) .i64 .i64 n n (by omega) (Int.le_refl _) (by
    have : (i0.bytes : Int) * (n : Int) ≤ 4096 * 600 := Int.mul_le_mul (by omega) (by omega) (by omega) (by omega)
    omega) (by omega)
  rw [this]
  have e2 : i0.size = 6 := by injection hi1
  rw [e2]; rfl
/-- Behind the arm 2. -/
theorem many_arm2 {w0 W X : World} {mb n : Nat} (hX : X = (W.setCell ⟨mb, 22, none⟩ (.slice (some ⟨W.heap.size, 0, none⟩) n n)).alloc (.cells (madeCells #[.int .i64 0, .string ⟨#[]⟩, .string ⟨#[]⟩, .int .i64 0, .int .i64 0, .int .i64 0] (n * 6)) 54)) (hb : Below w0.heap.size w0 W) (hm : w0.heap.size ≤ mb) (hl : mb < W.heap.size) (hr : W.rangeAt mb 0 VKm) (hn : n ≤ 600) :
    ∃ VL : List Value, Hid (MV (LRd X) VL (mMany 2 n)) ∧ Hid (X.rangeAt mb 0 VL) ∧ Hid (Below w0.heap.size w0 X) ∧ mb < X.heap.size := by
  have hXe : X = (W.alloc (.cells (madeCells #[.int .i64 0, .string ⟨#[]⟩, .string ⟨#[]⟩, .int .i64 0, .int .i64 0, .int .i64 0] (n * 6)) 54)).setCell ⟨mb, 22, none⟩ (.slice (some ⟨W.heap.size, 0, none⟩) n n) := by rw [hX]; exact (World.setCell_alloc_past _ _ _ _ hl).symm
  rw [hXe]
  have hrow := made_row W #[.int .i64 0, .string ⟨#[]⟩, .string ⟨#[]⟩, .int .i64 0, .int .i64 0, .int .i64 0] 54 n 6 zeroShard rfl rfl (by omega)
  have hb1 : Below w0.heap.size w0 (W.alloc (.cells (madeCells #[.int .i64 0, .string ⟨#[]⟩, .string ⟨#[]⟩, .int .i64 0, .int .i64 0, .int .i64 0] (n * 6)) 54)) := hb.alloc hb.size _
  have hb2 := hb1.setCell (p := ⟨mb, 22, none⟩) hm (.slice (some ⟨W.heap.size, 0, none⟩) n n)
  have hr1 : (W.alloc (.cells (madeCells #[.int .i64 0, .string ⟨#[]⟩, .string ⟨#[]⟩, .int .i64 0, .int .i64 0, .int .i64 0] (n * 6)) 54)).rangeAt mb 0 VKm := fun j v hj => (((Below.refl _ W).alloc (Nat.le_refl _) _).cell (p := ⟨mb, _, none⟩) hl).trans (hr j v hj)
  refine ⟨VKm.set 22 (.slice (some ⟨W.heap.size, 0, none⟩) n n), Lib.hid (many_mv2 (row_set hrow (by show mb ≠ _; omega)) (by simp) (by unfold maxLen; omega)), Lib.hid (range_set hr1 (by show 22 < 25; omega)), Lib.hid hb2, by simp; omega⟩
theorem many_mv3 {w : World} {rb n : Nat} (h : RowAt w rb 0 4 (List.replicate n zeroEntry)) (h1 : rb < w.heap.size) (h2 : n ≤ maxLen) : MV (LRd w) (VKm.set 23 (.slice (some ⟨rb, 0, none⟩) n n)) (mMany 3 n) :=
  ⟨15, 0, 0, 0, 0, 0, 0, false, 0, ⟨#[]⟩, ⟨#[]⟩, ⟨#[]⟩, false, [], ⟨#[]⟩, ⟨#[]⟩, 0, 0, ⟨#[]⟩, false, [], ⟨#[]⟩, [], (List.replicate n zeroEntry), [], (.slice none 0 0), (.slice none 0 0), (.slice none 0 0), (.slice (some ⟨rb, 0, none⟩) n n), (.slice none 0 0), rfl, rfl, ⟨none, 0, 0, rfl, rfl, Nat.zero_le _, .inl rfl⟩, ⟨none, 0, 0, rfl, rfl, Nat.zero_le _, .inl rfl⟩, ⟨none, 0, 0, rfl, rfl, Nat.zero_le _, .inl rfl⟩, ⟨some ⟨rb, 0, none⟩, n, n, rfl, by simp, h2, .inr ⟨rb, 0, rfl, h1, h⟩⟩, ⟨none, 0, 0, rfl, rfl, Nat.zero_le _, .inl rfl⟩, fun x hx => by simp at hx, fun x hx => by simp at hx, fun x hx => by simp at hx, fun x hx => by rw [List.eq_of_mem_replicate hx]; exact ⟨_, _, _, _, rfl⟩, fun x hx => by simp at hx⟩
theorem many_mk3 (n : Nat) (hn : n ≤ 600) (W : World) : (Instr.makeSlice 32 (.int .i64 (n : Int)) (.int .i64 (n : Int))).run Try.prog W = .ok (.slice (some ⟨W.heap.size, 0, none⟩) n n) (W.alloc (.cells (madeCells #[.string ⟨#[]⟩, .string ⟨#[]⟩, .bool false, .int .i64 0] (n * 4)) 56)) := by
  obtain ⟨i0, hi0, hi1⟩ : ∃ i0, Try.prog.info? 56 = some i0 ∧ (i0.zero, i0.size) = (some (.agg #[.string ⟨#[]⟩, .string ⟨#[]⟩, .bool false, .int .i64 0]), 4) := Option.map_eq_some_iff.1 Try.infoEntry
  have hib : i0.bytes ≤ 4096 := by
    have : (Try.prog.info? 56).map (fun i => decide (i.bytes ≤ 4096)) = some true := by kernel_rfl
    rw [hi0] at this
    exact of_decide_eq_true (Option.some.inj this)
  have := run_make (P := Try.prog) W 32 56 i0 (.agg #[.string ⟨#[]⟩, .string ⟨#[]⟩, .bool false, .int .i64 0]) Try.underlying32 hi0 (by injection hi1) .i64 .i64 n n (by omega) (Int.le_refl _) (by
    have : (i0.bytes : Int) * (n : Int) ≤ 4096 * 600 := Int.mul_le_mul (by omega) (by omega) (by omega) (by omega)
    omega) (by omega)
  rw [this]
  have e2 : i0.size = 4 := by injection hi1
  rw [e2]; rfl
/-- Behind the arm 3. -/
theorem many_arm3 {w0 W X : World} {mb n : Nat} (hX : X = (W.setCell ⟨mb, 23, none⟩ (.slice (some ⟨W.heap.size, 0, none⟩) n n)).alloc (.cells (madeCells #[.string ⟨#[]⟩, .string ⟨#[]⟩, .bool false, .int .i64 0] (n * 4)) 56)) (hb : Below w0.heap.size w0 W) (hm : w0.heap.size ≤ mb) (hl : mb < W.heap.size) (hr : W.rangeAt mb 0 VKm) (hn : n ≤ 600) :
    ∃ VL : List Value, Hid (MV (LRd X) VL (mMany 3 n)) ∧ Hid (X.rangeAt mb 0 VL) ∧ Hid (Below w0.heap.size w0 X) ∧ mb < X.heap.size := by
  have hXe : X = (W.alloc (.cells (madeCells #[.string ⟨#[]⟩, .string ⟨#[]⟩, .bool false, .int .i64 0] (n * 4)) 56)).setCell ⟨mb, 23, none⟩ (.slice (some ⟨W.heap.size, 0, none⟩) n n) := by rw [hX]; exact (World.setCell_alloc_past _ _ _ _ hl).symm
  rw [hXe]
  have hrow := made_row W #[.string ⟨#[]⟩, .string ⟨#[]⟩, .bool false, .int .i64 0] 56 n 4 zeroEntry rfl rfl (by omega)
  have hb1 : Below w0.heap.size w0 (W.alloc (.cells (madeCells #[.string ⟨#[]⟩, .string ⟨#[]⟩, .bool false, .int .i64 0] (n * 4)) 56)) := hb.alloc hb.size _
  have hb2 := hb1.setCell (p := ⟨mb, 23, none⟩) hm (.slice (some ⟨W.heap.size, 0, none⟩) n n)
  have hr1 : (W.alloc (.cells (madeCells #[.string ⟨#[]⟩, .string ⟨#[]⟩, .bool false, .int .i64 0] (n * 4)) 56)).rangeAt mb 0 VKm := fun j v hj => (((Below.refl _ W).alloc (Nat.le_refl _) _).cell (p := ⟨mb, _, none⟩) hl).trans (hr j v hj)
  refine ⟨VKm.set 23 (.slice (some ⟨W.heap.size, 0, none⟩) n n), Lib.hid (many_mv3 (row_set hrow (by show mb ≠ _; omega)) (by simp) (by unfold maxLen; omega)), Lib.hid (range_set hr1 (by show 23 < 25; omega)), Lib.hid hb2, by simp; omega⟩
theorem many_mv4 {w : World} {rb n : Nat} (h : RowAt w rb 0 7 (List.replicate n zeroSeen)) (h1 : rb < w.heap.size) (h2 : n ≤ maxLen) : MV (LRd w) (VKm.set 24 (.slice (some ⟨rb, 0, none⟩) n n)) (mMany 4 n) :=
  ⟨15, 0, 0, 0, 0, 0, 0, false, 0, ⟨#[]⟩, ⟨#[]⟩, ⟨#[]⟩, false, [], ⟨#[]⟩, ⟨#[]⟩, 0, 0, ⟨#[]⟩, false, [], ⟨#[]⟩, [], [], (List.replicate n zeroSeen), (.slice none 0 0), (.slice none 0 0), (.slice none 0 0), (.slice none 0 0), (.slice (some ⟨rb, 0, none⟩) n n), rfl, rfl, ⟨none, 0, 0, rfl, rfl, Nat.zero_le _, .inl rfl⟩, ⟨none, 0, 0, rfl, rfl, Nat.zero_le _, .inl rfl⟩, ⟨none, 0, 0, rfl, rfl, Nat.zero_le _, .inl rfl⟩, ⟨none, 0, 0, rfl, rfl, Nat.zero_le _, .inl rfl⟩, ⟨some ⟨rb, 0, none⟩, n, n, rfl, by simp, h2, .inr ⟨rb, 0, rfl, h1, h⟩⟩, fun x hx => by simp at hx, fun x hx => by simp at hx, fun x hx => by simp at hx, fun x hx => by simp at hx, fun x hx => by rw [List.eq_of_mem_replicate hx]; exact ⟨_, _, _, _, _, _, _, _, _, rfl⟩⟩
theorem many_mk4 (n : Nat) (hn : n ≤ 600) (W : World) : (Instr.makeSlice 33 (.int .i64 (n : Int)) (.int .i64 (n : Int))).run Try.prog W = .ok (.slice (some ⟨W.heap.size, 0, none⟩) n n) (W.alloc (.cells (madeCells #[.int .i64 0, .int .i64 0, .int .i64 0, .string ⟨#[]⟩, .bool false, .slice none 0 0, .string ⟨#[]⟩] (n * 7)) 58)) := by
  obtain ⟨i0, hi0, hi1⟩ : ∃ i0, Try.prog.info? 58 = some i0 ∧ (i0.zero, i0.size) = (some (.agg #[.int .i64 0, .int .i64 0, .int .i64 0, .string ⟨#[]⟩, .bool false, .slice none 0 0, .string ⟨#[]⟩]), 7) := Option.map_eq_some_iff.1 Try.infoSeen
  have hib : i0.bytes ≤ 4096 := by
    have : (Try.prog.info? 58).map (fun i => decide (i.bytes ≤ 4096)) = some true := by kernel_rfl
    rw [hi0] at this
    exact of_decide_eq_true (Option.some.inj this)
  have := run_make (P := Try.prog) W 33 58 i0 (.agg #[.int .i64 0, .int .i64 0, .int .i64 0, .string ⟨#[]⟩, .bool false, .slice none 0 0, .string ⟨#[]⟩]) Try.underlying33 hi0 (by injection hi1) .i64 .i64 n n (by omega) (Int.le_refl _) (by
    have : (i0.bytes : Int) * (n : Int) ≤ 4096 * 600 := Int.mul_le_mul (by omega) (by omega) (by omega) (by omega)
    omega) (by omega)
  rw [this]
  have e2 : i0.size = 7 := by injection hi1
  rw [e2]; rfl
/-- Behind the arm 4. -/
theorem many_arm4 {w0 W X : World} {mb n : Nat} (hX : X = (W.setCell ⟨mb, 24, none⟩ (.slice (some ⟨W.heap.size, 0, none⟩) n n)).alloc (.cells (madeCells #[.int .i64 0, .int .i64 0, .int .i64 0, .string ⟨#[]⟩, .bool false, .slice none 0 0, .string ⟨#[]⟩] (n * 7)) 58)) (hb : Below w0.heap.size w0 W) (hm : w0.heap.size ≤ mb) (hl : mb < W.heap.size) (hr : W.rangeAt mb 0 VKm) (hn : n ≤ 600) :
    ∃ VL : List Value, Hid (MV (LRd X) VL (mMany 4 n)) ∧ Hid (X.rangeAt mb 0 VL) ∧ Hid (Below w0.heap.size w0 X) ∧ mb < X.heap.size := by
  have hXe : X = (W.alloc (.cells (madeCells #[.int .i64 0, .int .i64 0, .int .i64 0, .string ⟨#[]⟩, .bool false, .slice none 0 0, .string ⟨#[]⟩] (n * 7)) 58)).setCell ⟨mb, 24, none⟩ (.slice (some ⟨W.heap.size, 0, none⟩) n n) := by rw [hX]; exact (World.setCell_alloc_past _ _ _ _ hl).symm
  rw [hXe]
  have hrow := made_row W #[.int .i64 0, .int .i64 0, .int .i64 0, .string ⟨#[]⟩, .bool false, .slice none 0 0, .string ⟨#[]⟩] 58 n 7 zeroSeen rfl rfl (by omega)
  have hb1 : Below w0.heap.size w0 (W.alloc (.cells (madeCells #[.int .i64 0, .int .i64 0, .int .i64 0, .string ⟨#[]⟩, .bool false, .slice none 0 0, .string ⟨#[]⟩] (n * 7)) 58)) := hb.alloc hb.size _
  have hb2 := hb1.setCell (p := ⟨mb, 24, none⟩) hm (.slice (some ⟨W.heap.size, 0, none⟩) n n)
  have hr1 : (W.alloc (.cells (madeCells #[.int .i64 0, .int .i64 0, .int .i64 0, .string ⟨#[]⟩, .bool false, .slice none 0 0, .string ⟨#[]⟩] (n * 7)) 58)).rangeAt mb 0 VKm := fun j v hj => (((Below.refl _ W).alloc (Nat.le_refl _) _).cell (p := ⟨mb, _, none⟩) hl).trans (hr j v hj)
  refine ⟨VKm.set 24 (.slice (some ⟨W.heap.size, 0, none⟩) n n), Lib.hid (many_mv4 (row_set hrow (by show mb ≠ _; omega)) (by simp) (by unfold maxLen; omega)), Lib.hid (range_set hr1 (by show 24 < 25; omega)), Lib.hid hb2, by simp; omega⟩
set_option maxRecDepth 100000 in
set_option maxHeartbeats 8000000 in
theorem walk_PostMany (which : Int) (_ : (Lit.int .i64 which).wf = true) (more : Int) (_ : (Lit.int .i64 more).wf = true) (w : World) : Calls Try.prog 7 #[.int .i64 which, .int .i64 more] w fun e w' => e = .returned (.bool true) ∧ Below w.heap.size w w' := by
  obtain ⟨q, hq, hq1⟩ : ∃ q : Nat, bits .and .i64 more 1 = (q : Int) ∧ q ≤ 1 := by
    rcases low1 more with h | h
    · exact ⟨0, h, by omega⟩
    · exact ⟨1, h, by omega⟩
  obtain ⟨r, hr, hr5⟩ : ∃ r : Nat, (bits .and .i64 which 255).tmod 5 = (r : Int) ∧ r < 5 := by
    obtain ⟨m, hm, h⟩ := low8 which
    refine ⟨m % 5, ?_, by omega⟩
    rw [hm]
    exact (Int.ofNat_tmod m 5).symm
  obtain ⟨VL, hVA⟩ : ∃ VL : List Value, VL = VKm := ⟨_, rfl⟩
  have hVT : VL.toArray = #[.int .i64 15, .int .i64 0, .int .i64 0, .int .i64 0, .int .i64 0, .int .i64 0, .int .i64 0, .bool false, .int .i64 0, .string ⟨#[]⟩, .string ⟨#[]⟩, .string ⟨#[]⟩, .bool false, .slice none 0 0, .string ⟨#[]⟩, .string ⟨#[]⟩, .int .i64 0, .int .i64 0, .string ⟨#[]⟩, .bool false, .slice none 0 0, .string ⟨#[]⟩, .slice none 0 0, .slice none 0 0, .slice none 0 0] := by rw [hVA]; rfl
  have hVS : VL.length = 25 := by rw [hVA]; rfl
  have hV1 : VL.toArray.all (·.oneCell') = true := by rw [hVT]; kernel_rfl
  have HVA := Lib.hid (And.intro hVT (And.intro hVS hV1))
  have HSZ : Hid ((Try.prog.info? 35).map (·.size) = some VL.length ∧ (Try.prog.info? 35).map (·.size) = some VL.toArray.size) := Lib.hid ⟨by rw [hVS]; exact Try.sizeMsg, by rw [List.size_toArray, hVS]; exact Try.sizeMsg⟩
  have HTH : Hid (∀ W : World, (W.alloc (.cells #[.int .i64 0, .int .i64 0, .int .i64 0, .int .i64 0, .int .i64 0, .int .i64 0, .int .i64 0, .bool false, .int .i64 0, .string ⟨#[]⟩, .string ⟨#[]⟩, .string ⟨#[]⟩, .bool false, .slice none 0 0, .string ⟨#[]⟩, .string ⟨#[]⟩, .int .i64 0, .int .i64 0, .string ⟨#[]⟩, .bool false, .slice none 0 0, .string ⟨#[]⟩, .slice none 0 0, .slice none 0 0, .slice none 0 0] 35)).there W.heap.size 0 25) := Lib.hid fun W => there_heap (heap_alloc_new W _) rfl
  have HBZ : Hid (∀ (W : World) (vs : List Value), Below W.heap.size W ((W.alloc (.cells #[.int .i64 0, .int .i64 0, .int .i64 0, .int .i64 0, .int .i64 0, .int .i64 0, .int .i64 0, .bool false, .int .i64 0, .string ⟨#[]⟩, .string ⟨#[]⟩, .string ⟨#[]⟩, .bool false, .slice none 0 0, .string ⟨#[]⟩, .string ⟨#[]⟩, .int .i64 0, .int .i64 0, .string ⟨#[]⟩, .bool false, .slice none 0 0, .string ⟨#[]⟩, .slice none 0 0, .slice none 0 0, .slice none 0 0] 35)).setCells W.heap.size 0 vs) ∧ W.heap.size < ((W.alloc (.cells #[.int .i64 0, .int .i64 0, .int .i64 0, .int .i64 0, .int .i64 0, .int .i64 0, .int .i64 0, .bool false, .int .i64 0, .string ⟨#[]⟩, .string ⟨#[]⟩, .string ⟨#[]⟩, .bool false, .slice none 0 0, .string ⟨#[]⟩, .string ⟨#[]⟩, .int .i64 0, .int .i64 0, .string ⟨#[]⟩, .bool false, .slice none 0 0, .string ⟨#[]⟩, .slice none 0 0, .slice none 0 0, .slice none 0 0] 35)).setCells W.heap.size 0 vs).heap.size) := Lib.hid fun W vs => ⟨below_sets vs 0 _ ((Below.refl _ W).alloc (Nat.le_refl _) _) (Nat.le_refl _), by rw [sets_size]; simp⟩
  have HR1 : Hid (((w.alloc (.cells #[.int .i64 0, .int .i64 0, .int .i64 0, .int .i64 0, .int .i64 0, .int .i64 0, .int .i64 0, .bool false, .int .i64 0, .string ⟨#[]⟩, .string ⟨#[]⟩, .string ⟨#[]⟩, .bool false, .slice none 0 0, .string ⟨#[]⟩, .string ⟨#[]⟩, .int .i64 0, .int .i64 0, .string ⟨#[]⟩, .bool false, .slice none 0 0, .string ⟨#[]⟩, .slice none 0 0, .slice none 0 0, .slice none 0 0] 35)).setCells w.heap.size 0 VL).rangeAt w.heap.size 0 VL) := Lib.hid (World.rangeAt_setCells_same _ _ _ _ (by rw [hVS]; exact HTH.out w))
  have HVK := Lib.hid hVA
  clear hVA hVT hVS hV1
  go_enter Try.func7, Try.ntmps7
  go_upto_region 2 with fail
  go_wp2_with (generalize hG : wpList _ _ _ _ _ _ = GG)
  rw [← hG]
  clear hG
  refine wpList_val rfl (.agg VL.toArray) (by rw [HVA.out.1]; kernel_rfl) ?_
  go_upto_block 0 with (refine wpList_store_mid rfl 35 (.tmp 6) (.tmp 13) rfl w.heap.size 0 VL.toArray ?e1 ?e2 ?e3 ?e4 ?e5 ?_)
  case e4 => exact HSZ.out.2
  case e5 => exact HVA.out.2.2
  case e1 => rfl
  case e2 => rfl
  case e3 =>
    have h := HTH.out w
    rw [show 25 = VL.toArray.size by rw [List.size_toArray, HVA.out.2.1]] at h
    exact h
  have hz := HBZ.out w VL
  obtain ⟨mb, hmb⟩ : ∃ x, x = w.heap.size := ⟨_, rfl⟩
  have hrk := HR1.out
  have hfz : ∀ j, j < 25 → ((World.alloc w (.cells #[.int .i64 0, .int .i64 0, .int .i64 0, .int .i64 0, .int .i64 0, .int .i64 0, .int .i64 0, .bool false, .int .i64 0, .string ⟨#[]⟩, .string ⟨#[]⟩, .string ⟨#[]⟩, .bool false, .slice none 0 0, .string ⟨#[]⟩, .string ⟨#[]⟩, .int .i64 0, .int .i64 0, .string ⟨#[]⟩, .bool false, .slice none 0 0, .string ⟨#[]⟩, .slice none 0 0, .slice none 0 0, .slice none 0 0] 35)).setCells w.heap.size 0 VL).frozen? ⟨w.heap.size, j, none⟩ = false := fun j hj => by
    rw [World.frozen?_setCells]
    have := (HTH.out w j hj).2
    rw [Nat.zero_add] at this
    exact this
  generalize (World.alloc w (.cells #[.int .i64 0, .int .i64 0, .int .i64 0, .int .i64 0, .int .i64 0, .int .i64 0, .int .i64 0, .bool false, .int .i64 0, .string ⟨#[]⟩, .string ⟨#[]⟩, .string ⟨#[]⟩, .bool false, .slice none 0 0, .string ⟨#[]⟩, .string ⟨#[]⟩, .int .i64 0, .int .i64 0, .string ⟨#[]⟩, .bool false, .slice none 0 0, .string ⟨#[]⟩, .slice none 0 0, .slice none 0 0, .slice none 0 0] 35)).setCells w.heap.size 0 VL = W1 at hz hrk hfz ⊢
  have HB1 := Lib.hid hz.1
  have hml : mb < W1.heap.size := by rw [hmb]; exact hz.2
  have hmw : w.heap.size ≤ mb := by omega
  have HMW := Lib.hid hmw
  rw [← hmb] at hrk hfz ⊢
  have HRK : Hid (W1.rangeAt mb 0 VKm) := Lib.hid (by rw [← HVK.out]; exact hrk)
  have hc13 := hrk 13 (.slice none 0 0) (by rw [HVK.out]; rfl)
  have hc20 := hrk 20 (.slice none 0 0) (by rw [HVK.out]; rfl)
  have hc22 := hrk 22 (.slice none 0 0) (by rw [HVK.out]; rfl)
  have hc23 := hrk 23 (.slice none 0 0) (by rw [HVK.out]; rfl)
  have hc24 := hrk 24 (.slice none 0 0) (by rw [HVK.out]; rfl)
  have f13 := hfz 13 (by omega)
  have f20 := hfz 20 (by omega)
  have f22 := hfz 22 (by omega)
  have f23 := hfz 23 (by omega)
  have f24 := hfz 24 (by omega)
  clear hz hrk hmb hmw hfz HR1
  simp only [Nat.zero_add] at hc13 hc20 hc22 hc23 hc24
  go_cut [16] from 14 to 49 (fun v wx => ∃ VL : List Value, Hid (MV (LRd wx) VL (mMany r (mostMany r + q))) ∧ Hid (wx.rangeAt mb 0 VL) ∧ Hid (Below w.heap.size w wx) ∧ mb < wx.heap.size)
  case first =>
    obtain rfl | rfl | rfl | rfl | rfl : r = 0 ∨ r = 1 ∨ r = 2 ∨ r = 3 ∨ r = 4 := by omega
    · obtain ⟨n, hn⟩ : ∃ n : Nat, n = 64 + q := ⟨_, rfl⟩
      have hmk := many_mk0 n (by omega)
      have HAR := Lib.hid (many_arm0 (n := n) rfl HB1.out HMW.out hml HRK.out (by omega))
      have hni : (64 : Int) + (q : Int) = (n : Int) := by omega
      have hnw : wrap64 ((n : Int)) = (n : Int) := by unfold wrap64; omega
      have HN : Hid (n = mostMany 0 + q) := Lib.hid hn
      clear hn
      go_wp2_with fail
      go_meet
      obtain ⟨UL, p1, p2, p3, p4⟩ := HAR.out
      exact ⟨UL, by rw [← HN.out]; exact p1, p2, p3, p4⟩
    · obtain ⟨n, hn⟩ : ∃ n : Nat, n = 512 + q := ⟨_, rfl⟩
      have hmk := many_mk1 n (by omega)
      have HAR := Lib.hid (many_arm1 (n := n) rfl HB1.out HMW.out hml HRK.out (by omega))
      have hni : (512 : Int) + (q : Int) = (n : Int) := by omega
      have hnw : wrap64 ((n : Int)) = (n : Int) := by unfold wrap64; omega
      have HN : Hid (n = mostMany 1 + q) := Lib.hid hn
      clear hn
      go_wp2_with fail
      go_meet
      obtain ⟨UL, p1, p2, p3, p4⟩ := HAR.out
      exact ⟨UL, by rw [← HN.out]; exact p1, p2, p3, p4⟩
    · obtain ⟨n, hn⟩ : ∃ n : Nat, n = 64 + q := ⟨_, rfl⟩
      have hmk := many_mk2 n (by omega)
      have HAR := Lib.hid (many_arm2 (n := n) rfl HB1.out HMW.out hml HRK.out (by omega))
      have hni : (64 : Int) + (q : Int) = (n : Int) := by omega
      have hnw : wrap64 ((n : Int)) = (n : Int) := by unfold wrap64; omega
      have HN : Hid (n = mostMany 2 + q) := Lib.hid hn
      clear hn
      go_wp2_with fail
      go_meet
      obtain ⟨UL, p1, p2, p3, p4⟩ := HAR.out
      exact ⟨UL, by rw [← HN.out]; exact p1, p2, p3, p4⟩
    · obtain ⟨n, hn⟩ : ∃ n : Nat, n = 512 + q := ⟨_, rfl⟩
      have hmk := many_mk3 n (by omega)
      have HAR := Lib.hid (many_arm3 (n := n) rfl HB1.out HMW.out hml HRK.out (by omega))
      have hni : (512 : Int) + (q : Int) = (n : Int) := by omega
      have hnw : wrap64 ((n : Int)) = (n : Int) := by unfold wrap64; omega
      have HN : Hid (n = mostMany 3 + q) := Lib.hid hn
      clear hn
      go_wp2_with fail
      go_meet
      obtain ⟨UL, p1, p2, p3, p4⟩ := HAR.out
      exact ⟨UL, by rw [← HN.out]; exact p1, p2, p3, p4⟩
    · obtain ⟨n, hn⟩ : ∃ n : Nat, n = 8 + q := ⟨_, rfl⟩
      have hmk := many_mk4 n (by omega)
      have HAR := Lib.hid (many_arm4 (n := n) rfl HB1.out HMW.out hml HRK.out (by omega))
      have hni : (8 : Int) + (q : Int) = (n : Int) := by omega
      have hnw : wrap64 ((n : Int)) = (n : Int) := by unfold wrap64; omega
      have HN : Hid (n = mostMany 4 + q) := Lib.hid hn
      clear hn
      go_wp2_with fail
      go_meet
      obtain ⟨UL, p1, p2, p3, p4⟩ := HAR.out
      exact ⟨UL, by rw [← HN.out]; exact p1, p2, p3, p4⟩
  case rest =>
    rename World => wx
    obtain ⟨UL, HM, HR, HB, hl⟩ := hcut
    have HUL := Lib.hid (And.intro HM.out.len HM.out.v.one)
    have HSU : Hid ((Try.prog.info? 35).map (·.size) = some UL.length) := Lib.hid (by rw [HUL.out.1]; exact Try.sizeMsg)
    obtain ⟨m, hm⟩ : ∃ m, m = mMany r (mostMany r + q) := ⟨_, rfl⟩
    have h512 : mostMany r ≤ 512 := by
      obtain rfl | rfl | rfl | rfl | rfl : r = 0 ∨ r = 1 ∨ r = 2 ∨ r = 3 ∨ r = 4 := by omega
      all_goals decide
    have hpo := many_put r (mostMany r + q) (by omega)
    have hpk := many_ok r (mostMany r + q)
    have hpb := many_bare r (mostMany r + q)
    have hps := many_size r (mostMany r + q) (by omega)
    rw [← hm] at hpo hpk hpb hps HM
    have HPT := Lib.hid (put16 UL m _ HM.out)
    have HCK := Lib.hid (fun W (hb : Below wx.heap.size wx W) => check16 UL m W (HM.out.old hb))
    obtain rfl | rfl : q = 0 ∨ q = 1 := by omega
    · rw [Nat.add_zero, decide_eq_true (Nat.le_refl _)] at hpo hpk
      rw [show putS m = sealB (txM m) by unfold putS; rw [if_pos hpo], show putE m = 0 by unfold putE; rw [if_pos hpo]] at HPT
      obtain ⟨z1, z2, z3⟩ := HM.out.shl
      have htp := take_put m z1 z2 z3 hpk
      obtain ⟨s, hs⟩ : ∃ s, s = sealB (txM m) := ⟨_, rfl⟩
      rw [← hs] at HPT htp hps
      have HTK : Hid (∀ W, Calls Try.prog 14 #[.string s] W fun e w' => Below W.heap.size W w' ∧ ∃ TL : List Value, e = .returned (.tuple #[.agg TL.toArray, .int .i64 0]) ∧ MV (LRv w') TL (nM m)) := Lib.hid fun W => by
        refine (take16 s W (by omega)).mono ?_
        rintro e w' ⟨hb, h | ⟨_, TL, h1, h2⟩⟩
        · rw [htp.1] at h; cases h.1
        · rw [htp.2] at h2; exact ⟨hb, TL, h1, h2⟩
      have HSM : Hid (∀ W TL, MV (LRv W) UL m → MV (LRv W) TL (nM m) → Calls Try.prog 15 #[.agg UL.toArray, .agg TL.toArray] W fun e w' => e = .returned (.bool true) ∧ Below W.heap.size W w') := Lib.hid fun W TL h k => same16 UL TL m W h k hpb hpk
      clear hpo hpk hpb hps z1 z2 z3 htp hs hm HCK
      go_wp2_with (refine wpList_load_mid rfl 35 (.tmp 6) rfl mb 0 rfl UL _ HR.out Try.underlying35 rfl HSU.out ?_)
      refine HPT.out.mono ?_
      rintro e w2 ⟨rfl, hb⟩
      have HB2 : Hid (Below w.heap.size w w2) := Lib.hid (HB.out.trans (hb.mono HB.out.size))
      have HM2 := Lib.hid (HM.out.v.oldv hb)
      have HR2 : Hid (w2.rangeAt mb 0 UL) := Lib.hid (fun j v hj => (hb.cell (p := ⟨mb, _, none⟩) hl).trans (HR.out j v hj))
      have hl2 : mb < w2.heap.size := Nat.lt_of_lt_of_le hl hb.size
      clear hb HPT HM HR HB hl
      go_wp2_with fail
      refine (HTK.out _).mono ?_
      rintro e w3 ⟨hb, TL, rfl, hmt⟩
      have hz := HBZ.out w3 TL
      have hl3 : mb < w3.heap.size := Nat.lt_of_lt_of_le hl2 hb.size
      have hu1 := hmt.len
      have HB4 : Hid (Below w.heap.size w ((w3.alloc (.cells #[.int .i64 0, .int .i64 0, .int .i64 0, .int .i64 0, .int .i64 0, .int .i64 0, .int .i64 0, .bool false, .int .i64 0, .string ⟨#[]⟩, .string ⟨#[]⟩, .string ⟨#[]⟩, .bool false, .slice none 0 0, .string ⟨#[]⟩, .string ⟨#[]⟩, .int .i64 0, .int .i64 0, .string ⟨#[]⟩, .bool false, .slice none 0 0, .string ⟨#[]⟩, .slice none 0 0, .slice none 0 0, .slice none 0 0] 35)).setCells w3.heap.size 0 TL)) := Lib.hid ((HB2.out.trans (hb.mono HB2.out.size)).trans (hz.1.mono (HB2.out.trans (hb.mono HB2.out.size)).size))
      have HM4 := Lib.hid (HM2.out.oldv (hb.trans (hz.1.mono hb.size)))
      have HT4 := Lib.hid (hmt.oldv hz.1)
      have HR4 : Hid (((w3.alloc (.cells #[.int .i64 0, .int .i64 0, .int .i64 0, .int .i64 0, .int .i64 0, .int .i64 0, .int .i64 0, .bool false, .int .i64 0, .string ⟨#[]⟩, .string ⟨#[]⟩, .string ⟨#[]⟩, .bool false, .slice none 0 0, .string ⟨#[]⟩, .string ⟨#[]⟩, .int .i64 0, .int .i64 0, .string ⟨#[]⟩, .bool false, .slice none 0 0, .string ⟨#[]⟩, .slice none 0 0, .slice none 0 0, .slice none 0 0] 35)).setCells w3.heap.size 0 TL).rangeAt mb 0 UL) := Lib.hid (fun j v hj => (hz.1.cell (p := ⟨mb, _, none⟩) hl3).trans ((hb.cell (p := ⟨mb, _, none⟩) hl2).trans (HR2.out j v hj)))
      have HR5 : Hid (((w3.alloc (.cells #[.int .i64 0, .int .i64 0, .int .i64 0, .int .i64 0, .int .i64 0, .int .i64 0, .int .i64 0, .bool false, .int .i64 0, .string ⟨#[]⟩, .string ⟨#[]⟩, .string ⟨#[]⟩, .bool false, .slice none 0 0, .string ⟨#[]⟩, .string ⟨#[]⟩, .int .i64 0, .int .i64 0, .string ⟨#[]⟩, .bool false, .slice none 0 0, .string ⟨#[]⟩, .slice none 0 0, .slice none 0 0, .slice none 0 0] 35)).setCells w3.heap.size 0 TL).rangeAt w3.heap.size 0 TL) := Lib.hid (World.rangeAt_setCells_same _ _ _ _ (by rw [hu1]; exact HTH.out w3))
      have HST : Hid ((Try.prog.info? 35).map (·.size) = some TL.length ∧ (Try.prog.info? 35).map (·.size) = some TL.toArray.size ∧ TL.toArray.all (·.oneCell') = true ∧ TL.length = 25) := Lib.hid ⟨by rw [hu1]; exact Try.sizeMsg, by rw [List.size_toArray, hu1]; exact Try.sizeMsg, hmt.one, hu1⟩
      have HSA := Lib.hid (HSM.out _ TL HM4.out HT4.out)
      clear hb hz hu1 hmt HTK HB2 HR2 HM2
      go_wp2_with (first
        | (refine wpList_store_mid rfl 35 (.tmp 9) (.tmp 71) rfl w3.heap.size 0 TL.toArray ?f1 ?f2 ?f3 ?f4 ?f5 ?_)
        | (refine wpList_load_want rfl 35 (.tmp 6) rfl mb 0 rfl UL _ HR4.out Try.underlying35 rfl HSU.out ?_)
        | (refine wpList_load_want rfl 35 (.tmp 9) rfl w3.heap.size 0 rfl TL _ HR5.out Try.underlying35 rfl HST.out.1 ?_))
      case f4 => exact HST.out.2.1
      case f5 => exact HST.out.2.2.1
      case f1 => rfl
      case f2 => rfl
      case f3 =>
        have h := HTH.out w3
        rw [show 25 = TL.toArray.size by rw [List.size_toArray, HST.out.2.2.2]] at h
        exact h
      refine HSA.out.mono ?_
      rintro e w5 ⟨rfl, hb⟩
      have HB5 := Lib.hid (HB4.out.trans (hb.mono HB4.out.size))
      clear hb
      go_wp2_with fail
      refine (awake16_any w5).mono ?_
      rintro e w6 ⟨rfl, hb⟩
      have HB6 := Lib.hid (HB5.out.trans (hb.mono HB5.out.size))
      clear hb
      go_wp2_with fail
      go_ret
      exact ⟨rfl, HB6.out⟩
    · rw [decide_eq_false (by omega)] at hpo hpk
      rw [show putS m = ⟨#[]⟩ by unfold putS; rw [hpo]; rfl, show putE m = 1 by unfold putE; rw [hpo]; rfl] at HPT
      have HC2 : Hid (∀ W, Below wx.heap.size wx W → Calls Try.prog 12 #[.agg UL.toArray] W fun e w' => e = .returned (.int .i64 1) ∧ Below W.heap.size W w') := Lib.hid fun W hb => by
        have := HCK.out W hb
        rw [hpk] at this
        exact this
      clear hpo hpk hpb hps hm HCK
      go_wp2_with (refine wpList_load_mid rfl 35 (.tmp 6) rfl mb 0 rfl UL _ HR.out Try.underlying35 rfl HSU.out ?_)
      refine HPT.out.mono ?_
      rintro e w2 ⟨rfl, hb⟩
      have HB2 : Hid (Below w.heap.size w w2) := Lib.hid (HB.out.trans (hb.mono HB.out.size))
      have HR2 : Hid (w2.rangeAt mb 0 UL) := Lib.hid (fun j v hj => (hb.cell (p := ⟨mb, _, none⟩) hl).trans (HR.out j v hj))
      have HC3 := Lib.hid (HC2.out w2 hb)
      clear hb HPT HM HR HB hl HC2
      go_wp2_with (refine wpList_load_want rfl 35 (.tmp 6) rfl mb 0 rfl UL _ HR2.out Try.underlying35 rfl HSU.out ?_)
      refine HC3.out.mono ?_
      rintro e w3 ⟨rfl, hb⟩
      have HB3 := Lib.hid (HB2.out.trans (hb.mono HB2.out.size))
      clear hb HC3
      go_wp2_with fail
      refine (awake16_any w3).mono ?_
      rintro e w6 ⟨rfl, hb⟩
      have HB6 := Lib.hid (HB3.out.trans (hb.mono HB3.out.size))
      clear hb
      go_wp2_with fail
      go_ret
      exact ⟨rfl, HB6.out⟩
end Go.Proofs.Ytdnhmkfgcpdbkaa
