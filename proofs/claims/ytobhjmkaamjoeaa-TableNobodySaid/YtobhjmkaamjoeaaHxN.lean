/-
  Layer 10 (table), the walk of the law TableNobody. Conditions: texts within the reach.
-/
import Derived.Test.YtobhjmkaamjoeaaQ6
namespace Go.Proofs.Ytobhjmkaamjoeaa
set_option maxRecDepth 100000
open Go.RowKit
set_option linter.unusedVariables false
set_option linter.unusedSimpArgs false

set_option maxHeartbeats 1000000 in
theorem clip_nil (a : Option Addr) (cap : Nat) (lo hi : ByteArray) (w : World) :
    Calls Try.prog 38 #[.slice a 0 cap, .agg #[.string lo, .string hi]] w fun e w' => e = .returned (.slice none 0 0) ∧ Below w.heap.size w w' := by
  go_enter Try.func38, Try.ntmps38
  go_wp2
  refine wp_loop_rounds 1 ?_
  rw [rounds_succ]
  go_wp2
  go_ret
  exact ⟨rfl, (Below.refl _ _).alloc (Nat.le_refl _) _⟩
theorem TP.nil {w : World} {v : Value} {es : List Ent} (h : TP w v es false) : es = [] := by
  rcases h with ⟨h, _⟩ | ⟨_, h, _⟩
  · cases h
  · exact h
set_option maxHeartbeats 2000000 in
theorem trange_nobody (v : Value) (lo hi : ByteArray) (w : World) (h : TP w v [] false) : Calls Try.prog 22 #[v, .agg #[.string lo, .string hi]] w fun e w' => e = .returned (.slice none 0 0) ∧ Below w.heap.size w w' := by
  obtain ⟨a, cap, ha, hr, hc⟩ := all_at v [] false (w.alloc (.cells #[.string lo, .string hi] 24)) (h.old ((Below.refl _ w).alloc (Nat.le_refl _) _))
  rw [show ([] : List Ent).length = 0 from rfl] at ha
  have HA := Lib.hid ha
  have HC := Lib.hid fun (wx : World) (hx : Below (w.alloc (.cells #[.string lo, .string hi] 24)).heap.size (w.alloc (.cells #[.string lo, .string hi] 24)) wx) => clip_nil a cap lo hi wx
  clear h ha hr hc
  go_enter Try.func22, Try.ntmps22
  go_wp2
  refine wp_region_below (by kernel_rfl) (by kernel_rfl) ?_
  repeat (first
    | go_big_quiet_skip
    | (go_big_quiet_want
       first
       | (refine BigFrame.quiet_move _ rfl ?_)
       | (refine BigFrame.quiet_assign _ rfl ?_)
       | (unfold Oper.quiet
          apply Exists.intro
          refine ⟨fun w' hw' => ?_, ?_⟩
          · (obtain ⟨hc', hf'⟩ := bcell hw'
             go_simp
             first
             | done
             | exact rfl
             | (go_at_call 35; (with_reducible refine (HA.out _ hw').mono ?_); rintro e w'' ⟨rfl, bb⟩; exact ⟨rfl, by first | exact bt hw' bb | simpa using bt hw' bb⟩)
             | (go_at_call 38; (with_reducible refine (HC.out _ hw').mono ?_); rintro e w'' ⟨rfl, bb⟩; exact ⟨rfl, by first | exact bt hw' bb | simpa using bt hw' bb⟩)))
       go_big_quiet_on
       simp only [Act.put, Act.eval, List.setIfInBounds_toArray, List.set_cons_zero, List.set_cons_succ, Array.getD_eq_getD_getElem?, List.getElem?_toArray, List.getElem?_cons_zero, List.getElem?_cons_succ, Option.getD_some]))
  refine wpQuiet_nil ?_
  intro w' hw'
  go_wp2
  go_ret
  exact ⟨rfl, ((Below.refl _ w).alloc (Nat.le_refl _) _).trans (hw'.mono (by simp))⟩
/-- A table's list that nobody made: none, and a bare one. -/
theorem ck_nil {key : ByteArray} {m : Nat} {c : List Ent} {x : ByteArray} (h : CK [] key m c x) : c = [] ∧ x = ⟨#[]⟩ := by
  obtain ⟨k, n, _, _, h3, h4⟩ := h
  exact ⟨by simpa using h3, by simpa using h4⟩
/-- The span's box. -/
def SpanAt (w : World) (x : Nat) (lo hi : ByteArray) : Prop := w.cell? ⟨x, 0, none⟩ = some (.string lo) ∧ w.cell? ⟨x, 1, none⟩ = some (.string hi)
theorem SpanAt.old {w w' : World} {x : Nat} {lo hi : ByteArray} (h : SpanAt w x lo hi) (hx : x + 1 + 1 < w.heap.size) (hb : Below w.heap.size w w') : SpanAt w' x lo hi :=
  ⟨(hb.cell (p := ⟨x, 0, none⟩) (show x < w.heap.size by omega)).trans h.1, (hb.cell (p := ⟨x, 1, none⟩) (show x < w.heap.size by omega)).trans h.2⟩
set_option maxHeartbeats 8000000 in
theorem walk_TableNobody (key : ByteArray) (hkey : key.size ≤ 140737488351232) (lo hi : ByteArray) (h1 : okS lo) (h2 : okS hi) (z : Int) (hz : (Lit.int .i64 z).wf = true) (w : World) :
    Calls Try.prog 7 #[.string key, .agg #[.string lo, .string hi], .int .i64 z] w fun e w' => e = .returned (.bool true) ∧ Below w.heap.size w w' := by
  have HA := Lib.hid fun w => awakeT_any w
  have HG := Lib.hid fun wx v h => tget_any v [] false key z wx h
  rw [show fnd (findB [] key z) = .tuple #[.agg #[.string ⟨#[]⟩, .string ⟨#[]⟩, .bool false, .int .i64 0], .bool false] from rfl] at HG
  have HE := Lib.hid fun wx v h => tends_any v [] false wx h
  rw [show endsE [] = (⟨#[]⟩, ⟨#[]⟩) from rfl] at HE
  have HC := Lib.hid fun wx v h => tchunk_any v [] false key z wx h
  have HM := Lib.hid fun wx v h => tmayk_any v [] false key wx hkey h
  rw [show mayT [] false key = false from rfl] at HM
  have HL := Lib.hid fun wx v h => tlen_any v [] false wx h
  rw [show ((([] : List Ent).length : Nat) : Int) = 0 from rfl] at HL
  have HR := Lib.hid fun wx v h => trange_nobody v lo hi wx h
  obtain ⟨W0, hW0⟩ : ∃ W0, W0 = (((w.alloc (.cells #[.string lo, .string hi] 24)).alloc (.cells #[.pointer none, .slice none 0 0, .string ⟨#[]⟩] 61)).alloc (.cells #[.pointer none, .pointer (some ⟨w.heap.size + 1, 0, none⟩)] 28)) := ⟨_, rfl⟩
  have hs0 : W0.heap[w.heap.size]? = some (.cells #[.string lo, .string hi] 24 (0, 0)) := by rw [hW0]; exact al_old (al_old (al_new w _ _ rfl))
  have ht0 : W0.heap[w.heap.size + 1]? = some (.cells #[.pointer none, .slice none 0 0, .string ⟨#[]⟩] 61 (0, 0)) := by rw [hW0]; exact al_old (al_new _ _ _ (by simp))
  have hl0 : W0.heap[w.heap.size + 1 + 1]? = some (.cells #[.pointer none, .pointer (some ⟨w.heap.size + 1, 0, none⟩)] 28 (0, 0)) := by rw [hW0]; exact al_new _ _ _ (by simp)
  have hb0 : Below w.heap.size w W0 := by rw [hW0]; exact (((Below.refl _ w).alloc (Nat.le_refl _) _).alloc (by simp) _).alloc (by simp; omega) _
  have hz0 : W0.heap.size = w.heap.size + 3 := by rw [hW0]; simp
  have H0 := Lib.hid (And.intro hs0 (And.intro ht0 (And.intro hl0 hb0)))
  have HZ0 := Lib.hid hz0
  have HW0 := Lib.hid hW0
  clear hs0 ht0 hl0 hb0 hz0
  go_enter Try.func7, Try.ntmps7
  go_wp2
  rw [← hW0]
  clear hW0
  go_loopw [8, 9, 10, 11, 12, 13, 14] (fun i _ _ _ _ _ _ wr => ∃ k : Nat, i = .int .i64 k ∧ k ≤ 2 ∧ Hid (Below W0.heap.size W0 wr)) (fun i _ _ _ _ _ _ _ => 2 - (intOf i).toNat)
  case atStart => exact ⟨0, rfl, by omega, Lib.hid (Below.refl _ _)⟩
  case round =>
    obtain ⟨k, rfl, hk, HW⟩ := hrel
    have hws := HW.out.size
    have hlr : w.heap.size + 1 + 1 < wr.heap.size := by have := HZ0.out; omega
    have c0 : wr.cell? ⟨w.heap.size + 1 + 1, 0, none⟩ = some (.pointer none) := by rw [Lib.cell_of_heap ((HW.out.block _ (by rw [HZ0.out]; omega)).trans H0.out.2.2.1)]; rfl
    have c1 : wr.cell? ⟨w.heap.size + 1 + 1, 1, none⟩ = some (.pointer (some ⟨w.heap.size + 1, 0, none⟩)) := by rw [Lib.cell_of_heap ((HW.out.block _ (by rw [HZ0.out]; omega)).trans H0.out.2.2.1)]; rfl
    have HX : Hid (SpanAt wr w.heap.size lo hi) := Lib.hid ⟨by rw [Lib.cell_of_heap ((HW.out.block _ (by rw [HZ0.out]; omega)).trans H0.out.1)]; rfl, by rw [Lib.cell_of_heap ((HW.out.block _ (by rw [HZ0.out]; omega)).trans H0.out.1)]; rfl⟩
    rcases (by omega : k = 0 ∨ k = 1 ∨ k = 2) with rfl | rfl | rfl
    · rw [show ((0 : Nat) : Int) = 0 from rfl]
      have hp : TP wr (.pointer none) [] false := .inr ⟨rfl, rfl, .inl rfl⟩
      have HP := Lib.hid hp
      clear hp
      go_wp2_with fail
      refine (HE.out _ _ HP.out).mono ?_
      rintro e w3 ⟨rfl, b3⟩
      have HP3 := Lib.hid (HP.out.old b3)
      have HW3 := Lib.hid (HW.out.trans (b3.mono hws))
      have hc3 := (b3.cell (p := ⟨w.heap.size + 1 + 1, 0, none⟩) hlr).trans c0
      have hl3 : w.heap.size + 1 + 1 < w3.heap.size := Nat.lt_of_lt_of_le hlr b3.size
      have HX3 := Lib.hid (HX.out.old hlr b3)
      clear b3 HP c0 c1 hlr HX
      go_wp2_with fail
      refine (HG.out _ _ HP3.out).mono ?_
      rintro e w4 ⟨rfl, b4⟩
      have HP4 := Lib.hid ((HP3.out.old b4).old ((Below.refl _ _).alloc (Nat.le_refl _) (.cells #[.string ⟨#[]⟩, .string ⟨#[]⟩, .bool false, .int .i64 0] 32)))
      have HW4 := Lib.hid ((HW3.out.trans (b4.mono HW3.out.size)).alloc (Nat.le_trans HW3.out.size b4.size) (.cells #[.string ⟨#[]⟩, .string ⟨#[]⟩, .bool false, .int .i64 0] 32))
      have HX4 := Lib.hid (HX3.out.old hl3 (b4.trans ((Below.refl _ _).alloc (Nat.le_refl _) (.cells #[.string ⟨#[]⟩, .string ⟨#[]⟩, .bool false, .int .i64 0] 32) |>.mono b4.size)))
      have hc4 := ((b4.trans ((Below.refl _ _).alloc (Nat.le_refl _) (.cells #[.string ⟨#[]⟩, .string ⟨#[]⟩, .bool false, .int .i64 0] 32) |>.mono b4.size)).cell (p := ⟨w.heap.size + 1 + 1, 0, none⟩) hl3).trans hc3
      have hl4 : w.heap.size + 1 + 1 < w4.heap.size := Nat.lt_of_lt_of_le hl3 b4.size
      have HB4 := Lib.hid (EBox.new w4 32 ⟨#[]⟩ ⟨#[]⟩ false 0)
      have HC4 := Lib.hid (HC.out _ _ HP4.out)
      clear b4 HP3 HW3 hc3 hl3 HX3
      go_wp2_with fail
      refine HC4.out.mono ?_
      rintro e w5 ⟨a5, cap5, c5, n5, rfl, hck, _, _, b5⟩
      obtain ⟨rfl, rfl⟩ := ck_nil hck
      rw [show ([] : List Ent).length = 0 from rfl]
      have hs4 : (w4.alloc (.cells #[.string ⟨#[]⟩, .string ⟨#[]⟩, .bool false, .int .i64 0] 32)).heap.size = w4.heap.size + 1 := by simp
      have hl4' : w.heap.size + 1 + 1 < (w4.alloc (.cells #[.string ⟨#[]⟩, .string ⟨#[]⟩, .bool false, .int .i64 0] 32)).heap.size := by omega
      have HP5 := Lib.hid (HP4.out.old b5)
      have HW5 := Lib.hid (HW4.out.trans (b5.mono HW4.out.size))
      have HX5 := HX4.out.old hl4' b5
      have hc5 := (b5.cell (p := ⟨w.heap.size + 1 + 1, 0, none⟩) hl4').trans hc4
      have hl5 : w.heap.size + 1 + 1 < w5.heap.size := Nat.lt_of_lt_of_le hl4' b5.size
      obtain ⟨x0, x1, x2, x3, x4⟩ := HB4.out.below b5
      obtain ⟨y0, y1⟩ := HX5
      have hls5 : w.heap.size < w5.heap.size := by omega
      have HL5 := Lib.hid fun (wx : World) (hx : Below w5.heap.size w5 wx) => HL.out wx _ (HP5.out.old hx)
      have HM5 := Lib.hid fun (wx : World) (hx : Below w5.heap.size w5 wx) => HM.out wx _ (HP5.out.old hx)
      have HR5 := Lib.hid fun (wx : World) (hx : Below w5.heap.size w5 wx) => HR.out wx _ (HP5.out.old hx)
      clear b5 hck HP4 HW4 HX4 hc4 hl4 hl4' hs4 HB4 HC4 HP5
      go_wp2
      refine wp_region_below (by kernel_rfl) (by kernel_rfl) ?_
      repeat (first
        | go_big_quiet_skip
        | (go_big_quiet_want
           first
           | (refine BigFrame.quiet_move _ rfl ?_)
           | (refine BigFrame.quiet_assign _ rfl ?_)
           | (unfold Oper.quiet
              apply Exists.intro
              refine ⟨fun w' hw' => ?_, ?_⟩
              · (obtain ⟨hc', hf'⟩ := bcell hw'
                 go_simp
                 first
                 | done
                 | exact rfl
                 | (go_at_call 26; (with_reducible refine (HL5.out _ hw').mono ?_); rintro e w'' ⟨rfl, bb⟩; exact ⟨rfl, by first | exact bt hw' bb | simpa using bt hw' bb⟩)
                 | (go_at_call 19; (with_reducible refine (HM5.out _ hw').mono ?_); rintro e w'' ⟨rfl, bb⟩; exact ⟨rfl, by first | exact bt hw' bb | simpa using bt hw' bb⟩)
                 | (go_at_call 22; (with_reducible refine (HR5.out _ hw').mono ?_); rintro e w'' ⟨rfl, bb⟩; exact ⟨rfl, by first | exact bt hw' bb | simpa using bt hw' bb⟩)))
           go_big_quiet_on
           simp only [Act.put, Act.eval, List.setIfInBounds_toArray, List.set_cons_zero, List.set_cons_succ, Array.getD_eq_getD_getElem?, List.getElem?_toArray, List.getElem?_cons_zero, List.getElem?_cons_succ, Option.getD_some]))
      refine wpQuiet_nil ?_
      intro w' hw'
      have HW6 := Lib.hid (HW5.out.trans (hw'.mono HW5.out.size))
      clear hw'
      go_wp2
      go_roundw
      case rel => exact ⟨1, rfl, by omega, HW6⟩
      case measure => simp [intOf]
    · rw [show ((1 : Nat) : Int) = 1 from rfl]
      have hp : TP wr (.pointer (some ⟨w.heap.size + 1, 0, none⟩)) [] false := .inr ⟨rfl, rfl, .inr ⟨_, rfl, (HW.out.block _ (by rw [HZ0.out]; omega)).trans H0.out.2.1⟩⟩
      have HP := Lib.hid hp
      clear hp
      go_wp2_with fail
      refine (HE.out _ _ HP.out).mono ?_
      rintro e w3 ⟨rfl, b3⟩
      have HP3 := Lib.hid (HP.out.old b3)
      have HW3 := Lib.hid (HW.out.trans (b3.mono hws))
      have hc3 := (b3.cell (p := ⟨w.heap.size + 1 + 1, 1, none⟩) hlr).trans c1
      have hl3 : w.heap.size + 1 + 1 < w3.heap.size := Nat.lt_of_lt_of_le hlr b3.size
      have HX3 := Lib.hid (HX.out.old hlr b3)
      clear b3 HP c0 c1 hlr HX
      go_wp2_with fail
      refine (HG.out _ _ HP3.out).mono ?_
      rintro e w4 ⟨rfl, b4⟩
      have HP4 := Lib.hid ((HP3.out.old b4).old ((Below.refl _ _).alloc (Nat.le_refl _) (.cells #[.string ⟨#[]⟩, .string ⟨#[]⟩, .bool false, .int .i64 0] 32)))
      have HW4 := Lib.hid ((HW3.out.trans (b4.mono HW3.out.size)).alloc (Nat.le_trans HW3.out.size b4.size) (.cells #[.string ⟨#[]⟩, .string ⟨#[]⟩, .bool false, .int .i64 0] 32))
      have HX4 := Lib.hid (HX3.out.old hl3 (b4.trans ((Below.refl _ _).alloc (Nat.le_refl _) (.cells #[.string ⟨#[]⟩, .string ⟨#[]⟩, .bool false, .int .i64 0] 32) |>.mono b4.size)))
      have hc4 := ((b4.trans ((Below.refl _ _).alloc (Nat.le_refl _) (.cells #[.string ⟨#[]⟩, .string ⟨#[]⟩, .bool false, .int .i64 0] 32) |>.mono b4.size)).cell (p := ⟨w.heap.size + 1 + 1, 1, none⟩) hl3).trans hc3
      have hl4 : w.heap.size + 1 + 1 < w4.heap.size := Nat.lt_of_lt_of_le hl3 b4.size
      have HB4 := Lib.hid (EBox.new w4 32 ⟨#[]⟩ ⟨#[]⟩ false 0)
      have HC4 := Lib.hid (HC.out _ _ HP4.out)
      clear b4 HP3 HW3 hc3 hl3 HX3
      go_wp2_with fail
      refine HC4.out.mono ?_
      rintro e w5 ⟨a5, cap5, c5, n5, rfl, hck, _, _, b5⟩
      obtain ⟨rfl, rfl⟩ := ck_nil hck
      rw [show ([] : List Ent).length = 0 from rfl]
      have hs4 : (w4.alloc (.cells #[.string ⟨#[]⟩, .string ⟨#[]⟩, .bool false, .int .i64 0] 32)).heap.size = w4.heap.size + 1 := by simp
      have hl4' : w.heap.size + 1 + 1 < (w4.alloc (.cells #[.string ⟨#[]⟩, .string ⟨#[]⟩, .bool false, .int .i64 0] 32)).heap.size := by omega
      have HP5 := Lib.hid (HP4.out.old b5)
      have HW5 := Lib.hid (HW4.out.trans (b5.mono HW4.out.size))
      have HX5 := HX4.out.old hl4' b5
      have hc5 := (b5.cell (p := ⟨w.heap.size + 1 + 1, 1, none⟩) hl4').trans hc4
      have hl5 : w.heap.size + 1 + 1 < w5.heap.size := Nat.lt_of_lt_of_le hl4' b5.size
      obtain ⟨x0, x1, x2, x3, x4⟩ := HB4.out.below b5
      obtain ⟨y0, y1⟩ := HX5
      have hls5 : w.heap.size < w5.heap.size := by omega
      have HL5 := Lib.hid fun (wx : World) (hx : Below w5.heap.size w5 wx) => HL.out wx _ (HP5.out.old hx)
      have HM5 := Lib.hid fun (wx : World) (hx : Below w5.heap.size w5 wx) => HM.out wx _ (HP5.out.old hx)
      have HR5 := Lib.hid fun (wx : World) (hx : Below w5.heap.size w5 wx) => HR.out wx _ (HP5.out.old hx)
      clear b5 hck HP4 HW4 HX4 hc4 hl4 hl4' hs4 HB4 HC4 HP5
      go_wp2
      refine wp_region_below (by kernel_rfl) (by kernel_rfl) ?_
      repeat (first
        | go_big_quiet_skip
        | (go_big_quiet_want
           first
           | (refine BigFrame.quiet_move _ rfl ?_)
           | (refine BigFrame.quiet_assign _ rfl ?_)
           | (unfold Oper.quiet
              apply Exists.intro
              refine ⟨fun w' hw' => ?_, ?_⟩
              · (obtain ⟨hc', hf'⟩ := bcell hw'
                 go_simp
                 first
                 | done
                 | exact rfl
                 | (go_at_call 26; (with_reducible refine (HL5.out _ hw').mono ?_); rintro e w'' ⟨rfl, bb⟩; exact ⟨rfl, by first | exact bt hw' bb | simpa using bt hw' bb⟩)
                 | (go_at_call 19; (with_reducible refine (HM5.out _ hw').mono ?_); rintro e w'' ⟨rfl, bb⟩; exact ⟨rfl, by first | exact bt hw' bb | simpa using bt hw' bb⟩)
                 | (go_at_call 22; (with_reducible refine (HR5.out _ hw').mono ?_); rintro e w'' ⟨rfl, bb⟩; exact ⟨rfl, by first | exact bt hw' bb | simpa using bt hw' bb⟩)))
           go_big_quiet_on
           simp only [Act.put, Act.eval, List.setIfInBounds_toArray, List.set_cons_zero, List.set_cons_succ, Array.getD_eq_getD_getElem?, List.getElem?_toArray, List.getElem?_cons_zero, List.getElem?_cons_succ, Option.getD_some]))
      refine wpQuiet_nil ?_
      intro w' hw'
      have HW6 := Lib.hid (HW5.out.trans (hw'.mono HW5.out.size))
      clear hw'
      go_wp2
      go_roundw
      case rel => exact ⟨2, rfl, by omega, HW6⟩
      case measure => simp [intOf]
    · rw [show ((2 : Nat) : Int) = 2 from rfl]
      go_wp2_with fail
      refine (HA.out _).mono ?_
      rintro e w3 ⟨rfl, b3⟩
      have HW3 := Lib.hid ((H0.out.2.2.2.trans (HW.out.mono H0.out.2.2.2.size)).trans (b3.mono (by have := H0.out.2.2.2.size; omega)))
      clear b3
      go_wp2
      go_ret
      exact ⟨rfl, HW3.out⟩
end Go.Proofs.Ytobhjmkaamjoeaa
