/-
  Texts of mine as one, in the order in which they build: Ko, Kh, Ki, Kj, Kk, Ku. Conditions: as each says.
-/
import Derived.Test.YtdpinkipcaolhaaKg
import Derived.Test.YtdpinkipcaolhaaKr
import Derived.Test.YtdpinkipcaolhaaAp
namespace Go.Proofs.Ytdpinkipcaolhaa
set_option maxRecDepth 100000
open Go.RowKit
set_option linter.unusedVariables false
set_option linter.unusedSimpArgs false

theorem add_bytes (last : ByteArray) (n : Nat) (t key : List UInt8) (hn : n ≤ last.size) (hl : last.size ≤ 16777216) (ht : t.length ≤ 16777216) (hk : key = last.data.toList.take n ++ t) (P : Program) (w : World) :
    (Op.stringOp .add (last.extract 0 n) ⟨t.toArray⟩).run P w = .ok (.string ⟨key.toArray⟩) w := by
  rw [run_string_add_sum]
  · refine congrArg (fun x => Result.ok (Value.string x) w) ?_
    apply ByteArray.ext
    apply Array.toList_inj.1
    rw [hk]
    simp
  · rw [size_mkl t]
    show (last.extract 0 n).size + _ ≤ _
    rw [ByteArray.size_extract]
    omega
end Go.Proofs.Ytdpinkipcaolhaa
namespace Go.Proofs.Ytdpinkipcaolhaa
set_option maxRecDepth 100000
open Go.RowKit
set_option linter.unusedVariables false
set_option linter.unusedSimpArgs false

theorem rcheck_size {s : ByteArray} (h : chk s.data.toList = true) : ∃ m, s.size = m + 4 := by
  have hlen : 4 ≤ s.size := by have := (chk_split h).2; rwa [size_list] at this
  exact ⟨s.size - 4, by omega⟩
theorem map_app2 (ts : List Ent) (e : Ent) (o : Option (List Ent × List UInt8)) : (o.map fun p => (e :: p.1, p.2)).map (fun p => (ts ++ p.1, p.2)) = o.map fun p => ((ts ++ [e]) ++ p.1, p.2) := by
  cases o <;> simp
theorem partB_none {t : List UInt8} {n a x : Nat} (h : tk t 0 0 = (n, a, x)) (hn : ¬ (x = 0 ∧ n ≤ 4096)) : partB t = none := by
  unfold partB
  rw [h, if_neg hn]
theorem partB_many {t : List UInt8} {n a : Nat} (h : tk t 0 0 = (n, a, 0)) (hn : n ≤ 4096) : partB t = match manyB n (t.drop a) [] with | some (es, []) => if chainE zE es = true then some es else none | _ => none := by
  unfold partB
  rw [h]
  simp only [hn, and_self, if_true]
  rfl
end Go.Proofs.Ytdpinkipcaolhaa
namespace Go.Proofs.Ytdpinkipcaolhaa
set_option maxRecDepth 100000
open Go.RowKit
set_option linter.unusedVariables false
set_option linter.unusedSimpArgs false

/-- What Find looks at: the slice's box, what is asked for. -/
def FQ (L K : Nat) (w : World) (a : Option Addr) (n cap : Nat) (key : ByteArray) (at_ : Int) : Prop :=
  w.cell? ⟨L, 0, none⟩ = some (.slice a n cap) ∧ EBox w K key ⟨#[]⟩ false at_ ∧ L < w.heap.size
theorem FQ.old {L K : Nat} {w w' : World} {a : Option Addr} {n cap : Nat} {key : ByteArray} {at_ : Int} (h : FQ L K w a n cap key at_) (hb : Below w.heap.size w w') : FQ L K w' a n cap key at_ :=
  ⟨(hb.cell (p := ⟨L, 0, none⟩) h.2.2).trans h.1, h.2.1.below hb, Nat.lt_of_lt_of_le h.2.2 hb.size⟩
/-- What Find answers. -/
def fnd (o : Option Ent) : Value := match o with
  | some (k, v, g, q) => .tuple #[.agg #[.string k, .string v, .bool g, .int .i64 q], .bool true]
  | none => .tuple #[.agg #[.string ⟨#[]⟩, .string ⟨#[]⟩, .bool false, .int .i64 0], .bool false]
def FB (es : List Ent) (key : ByteArray) (at_ : Int) : Option Ent := if okB es = true then findB es key at_ else none
end Go.Proofs.Ytdpinkipcaolhaa
namespace Go.Proofs.Ytdpinkipcaolhaa
set_option maxRecDepth 100000
open Go.RowKit
set_option linter.unusedVariables false
set_option linter.unusedSimpArgs false

abbrev zObj : Obj := .cells #[.string ⟨#[]⟩, .string ⟨#[]⟩, .bool false, .int .i64 0] 37
end Go.Proofs.Ytdpinkipcaolhaa
namespace Go.Proofs.Ytdpinkipcaolhaa
set_option maxRecDepth 100000
open Go.RowKit
set_option linter.unusedVariables false
set_option linter.unusedSimpArgs false

theorem find_snoc {es : List Ent} {key : ByteArray} {at_ : Int} {k : Nat} (h : k < es.length) (hp : (es.take k).find? (isE key at_) = none) : (es.take (k + 1)).find? (isE key at_) = if isE key at_ es[k] = true then some es[k] else none := by
  rw [List.take_succ_eq_append_getElem h, List.find?_append, hp]
  simp only [Option.none_or, List.find?_cons, List.find?_nil]
  cases isE key at_ es[k] <;> rfl
theorem find_took {es : List Ent} {f : Ent → Bool} {k : Nat} {e : Ent} (h : (es.take k).find? f = some e) : es.find? f = some e := by
  rw [← List.take_append_drop k es, List.find?_append, h]
  rfl
end Go.Proofs.Ytdpinkipcaolhaa
namespace Go.Proofs.Ytdpinkipcaolhaa
set_option maxRecDepth 100000
open Go.RowKit
set_option linter.unusedVariables false
set_option linter.unusedSimpArgs false

theorem addp (b off j : Nat) : (⟨b, off, none⟩ : Addr).add j = ⟨b, off + j, none⟩ := by unfold Addr.add; split <;> simp_all
theorem EAt.news {w : World} {b off : Nat} {es : List Ent} (h : EAt w b off es) : ∀ j u, (ev4 es)[j]? = some u → w.cell? ⟨b, off + j, none⟩ = some u := by
  intro j u hj
  have hjl : j < es.length * 4 := by have := (List.getElem?_eq_some_iff.1 hj).1; rwa [ev4_length] at this
  obtain ⟨i, hi4⟩ : ∃ i, j = i * 4 ∨ j = i * 4 + 1 ∨ j = i * 4 + 2 ∨ j = i * 4 + 3 := ⟨j / 4, by omega⟩
  have hi : i < es.length := by omega
  obtain ⟨e0, e1, e2, e3⟩ := ev4_get es i hi
  obtain ⟨c0, c1, c2, c3⟩ := h i hi
  rcases hi4 with rfl | rfl | rfl | rfl
  · rw [c0, ← hj, e0]
  · rw [← Nat.add_assoc, c1, ← hj, e1]
  · rw [← Nat.add_assoc, c2, ← hj, e2]
  · rw [← Nat.add_assoc, c3, ← hj, e3]
theorem EAt.take {w : World} {b off : Nat} {es : List Ent} (h : EAt w b off es) (k : Nat) : EAt w b off (es.take k) := by
  intro i hi
  rw [List.length_take] at hi
  simp only [List.getElem_take]
  exact h i (by omega)
theorem EAt.drop {w : World} {b off : Nat} {es : List Ent} (h : EAt w b off es) (k : Nat) : EAt w b (off + k * 4) (es.drop k) := by
  intro i hi
  rw [List.length_drop] at hi
  simp only [List.getElem_drop]
  have := h (k + i) (by omega)
  rw [show off + (k + i) * 4 = off + k * 4 + i * 4 by omega] at this
  exact this
theorem EAt.news' {w : World} {b off : Nat} {es : List Ent} (h : EAt w b off es) : ∀ y, some (⟨b, off, none⟩ : Addr) = some y → ∀ j u, (ev4 es)[j]? = some u → w.cell? (y.add j) = some u := by
  intro y hy j u hj
  injection hy with hy
  subst hy
  rw [addp]
  exact h.news j u hj
theorem ev4_app (a b : List Ent) : ev4 a ++ ev4 b = ev4 (a ++ b) := by simp [ev4]
/-- A slice of entries in a row that is owned, as what others read. -/
def SE (w : World) (a : Option Addr) (n cap : Nat) (es : List Ent) : Prop := es.length = n ∧ RdE w a es ∧ n ≤ cap ∧ cap ≤ maxLen
theorem own_se {w : World} {base n : Nat} {v : Value} {es : List Ent} (h : w.ownsRow base 37 4 v n (ev4 es)) (hn : es.length = n) : ∃ a cap, v = .slice a n cap ∧ SE w a n cap es := by
  rcases h.2 with ⟨rfl, hnil⟩ | ⟨g, cap, cur, rfl, hbg, hh, hnc, hcm, _⟩
  · have h0 : es = [] := List.length_eq_zero_iff.1 (hn.trans hnil)
    subst h0
    have : n = 0 := by simpa using hn.symm
    subst this
    exact ⟨none, 0, rfl, rfl, .inl rfl, Nat.le_refl _, Nat.zero_le _⟩
  · exact ⟨_, cap, rfl, hn, own_rde h hn, hnc, hcm⟩
/-- What Put1 leaves. -/
def P1 (es : List Ent) (w : World) (e : Ending) (w' : World) : Prop := ∃ a n cap, e = .returned (.slice a n cap) ∧ SE w' a n cap es ∧ Below w.heap.size w w'
set_option maxHeartbeats 2000000 in
theorem put1_no (a : Option Addr) (n cap : Nat) (es : List Ent) (k v : ByteArray) (g : Bool) (q : Int) (w : World) (h : SE w a n cap es) (h1 : okS k) (h2 : okS v) (hm : mayE (k, v, g, q) = false) :
    Calls Try.prog 28 #[.slice a n cap, .agg #[.string k, .string v, .bool g, .int .i64 q]] w (P1 (putE es (k, v, g, q)) w) := by
  have HM := Lib.hid fun w => rmay09_any k v g q _ hm h1 h2 w
  have HP : Hid (putE es (k, v, g, q) = es) := Lib.hid (by unfold putE; rw [hm]; rfl)
  have HS := Lib.hid h
  clear h hm
  go_enter Try.func28, Try.ntmps28
  go_wp2_with fail
  refine (HM.out _).mono ?_
  rintro e w1 ⟨rfl, b1⟩
  have hb := below_al b1
  have HB := Lib.hid hb
  have HS1 : Hid (SE w1 a n cap es) := Lib.hid ⟨HS.out.1, HS.out.2.1.old hb, HS.out.2.2.1, HS.out.2.2.2⟩
  clear b1 hb
  go_wp2
  go_ret
  exact ⟨a, n, cap, rfl, by rw [HP.out]; exact HS1.out, HB.out⟩
set_option maxRecDepth 100000 in
set_option maxHeartbeats 16000000 in
theorem put1_yes (a : Option Addr) (n cap : Nat) (es : List Ent) (k0 v0 : ByteArray) (g0 : Bool) (q0 : Int) (w : World) (hn60 : n ≤ 4096) (hs : SE w a n cap es) (h1 : okS k0) (h2 : okS v0) (hm : mayE (k0, v0, g0, q0) = true) :
    Calls Try.prog 28 #[.slice a n cap, .agg #[.string k0, .string v0, .bool g0, .int .i64 q0]] w (P1 (putE es (k0, v0, g0, q0)) w) := by
  obtain ⟨i0, hi, hz0, hz1, hz2⟩ := info_parts Try.infoEnt9
  obtain ⟨hl, hrd, hnc, hcm⟩ := hs
  obtain ⟨b, off, ha, hb, hat⟩ := hrd.at_
  rw [hl] at ha hb
  have HNT : Hid (∀ wx, Below w.heap.size w wx → ∀ k, k ≤ n → ∀ y, a = some y → ∀ j u, (ev4 (es.take k))[j]? = some u → wx.cell? (y.add j) = some u) := Lib.hid (by
    intro wx hx k hk y hy j u hj
    by_cases h0 : 0 < n
    · rw [ha h0] at hy
      exact ((hat.old (hb h0) hx).take k).news' y hy j u hj
    · have : es = [] := List.length_eq_zero_iff.1 (by omega)
      subst this
      simp [ev4] at hj)
  have HNL : Hid (∀ k, k ≤ n → (ev4 (es.take k)).length = k * 4) := Lib.hid fun k hk => by rw [ev4_length, List.length_take]; omega
  have HM := Lib.hid fun w => rmay09_any k0 v0 g0 q0 _ hm h1 h2 w
  have HPU : Hid (putE es (k0, v0, g0, q0) = insE es (k0, v0, g0, q0)) := Lib.hid (by unfold putE; rw [if_pos hm])
  have HL := Lib.hid hl
  have HAT := Lib.hid hat
  have HCM := Lib.hid hcm
  clear hm hl hat hrd hcm
  go_enter Try.func28, Try.ntmps28
  go_wp2_with fail
  refine (HM.out _).mono ?_
  rintro e w1 ⟨rfl, b1⟩
  have HB := Lib.hid (below_al b1)
  have HX := Lib.hid ((EBox.new w 37 k0 v0 g0 q0).below b1)
  clear b1
  go_wp2
  go_loopw [5] (fun i wr => ∃ k : Nat, i = .int .i64 k ∧ k ≤ n ∧ Hid (∀ i (h : i < es.length), i < k → lessE es[i] (k0, v0, g0, q0) = true) ∧ Hid (Below w1.heap.size w1 wr)) (fun i _ => n - (intOf i).toNat)
  case atStart => exact ⟨0, rfl, by omega, Lib.hid (fun i h hi => absurd hi (Nat.not_lt_zero _)), Lib.hid (Below.refl _ _)⟩
  case round =>
    obtain ⟨k, rfl, hk, HLE, HWr⟩ := hrel
    obtain ⟨x0, x1, x2, x3, x4⟩ := HX.out.below HWr.out
    have hkn60 : k ≤ 4096 := by omega
    by_cases hlt : k < n
    · obtain rfl := ha (by omega)
      have hbw := hb (by omega)
      have hkl : k < es.length := by rw [HL.out]; exact hlt
      have hki : (k : Int) < (n : Int) := by omega
      have hw01 := HB.out.size
      obtain ⟨g0', g1', g2', g3'⟩ := HAT.out.old hbw (HB.out.trans (HWr.out.mono HB.out.size)) k hkl
      obtain ⟨r, hr⟩ : ∃ r, lessE es[k] (k0, v0, g0, q0) = r := ⟨_, rfl⟩
      obtain ⟨E, hE⟩ : ∃ E, E = es[k] := ⟨_, rfl⟩
      have HGE : Hid (∀ wx, Below w.heap.size w wx → (wx.cell? ⟨b, off + k * 4, none⟩ = some (.string E.1) ∧ wx.cell? ⟨b, off + k * 4 + 1, none⟩ = some (.string E.2.1) ∧
          wx.cell? ⟨b, off + k * 4 + 2, none⟩ = some (.bool E.2.2.1) ∧ wx.cell? ⟨b, off + k * 4 + 3, none⟩ = some (.int .i64 E.2.2.2)) ∧ b < wx.heap.size) :=
        Lib.hid fun wx hx => ⟨by rw [hE]; exact HAT.out.old hbw hx k hkl, Nat.lt_of_lt_of_le hbw hx.size⟩
      have HR := Lib.hid hr
      have hr' := hr
      rw [← hE] at g0' g1' g2' g3' hr'
      obtain ⟨ek, evl, eg, eq⟩ := E
      have HLs := Lib.hid fun w => rless_any ek evl eg eq k0 v0 g0 q0 r hr' w
      obtain ⟨r2, hr2⟩ : ∃ r2, lessE (k0, v0, g0, q0) (ek, evl, eg, eq) = r2 := ⟨_, rfl⟩
      have HL2 := Lib.hid fun w => rless_any k0 v0 g0 q0 ek evl eg eq r2 hr2 w
      have HR2 := Lib.hid (show lessE (k0, v0, g0, q0) es[k] = r2 by rw [← hE]; exact hr2)
      have hbr : b < wr.heap.size := (HGE.out wr (HB.out.trans (HWr.out.mono HB.out.size))).2
      have HKL := Lib.hid hkl
      clear hr hr' hr2 hE
      cases r with
      | true =>
        go_wp2
        refine wp_region_below (by kernel_rfl) (by kernel_rfl) ?_
        repeat (first
          | go_big_quiet_skip
          | (go_big_quiet_want
             first
             | (refine BigFrame.quiet_move _ rfl ?_)
             | (refine BigFrame.quiet_assign _ rfl ?_)
             | (unfold Oper.quiet
                apply Exists.intro
                refine ⟨fun w' hw' => ?_, ?_⟩
                · (obtain ⟨hc', hf'⟩ := bcell hw'
                   go_simp
                   first
                   | done
                   | exact rfl
                   | (go_at_call 41; (with_reducible refine (HLs.out _).mono ?_); rintro e w'' ⟨rfl, bb⟩; exact ⟨rfl, by first | exact bt hw' bb | simpa using bt hw' bb⟩)))
             go_big_quiet_on
             simp only [Act.put, Act.eval, List.setIfInBounds_toArray, List.set_cons_zero, List.set_cons_succ, Array.getD_eq_getD_getElem?, List.getElem?_toArray, List.getElem?_cons_zero, List.getElem?_cons_succ, Option.getD_some]))
        refine wpQuiet_nil ?_
        intro w' hw'
        have HW2 := Lib.hid (HWr.out.trans (hw'.mono HWr.out.size))
        have HLE2 : Hid (∀ i (h : i < es.length), i < k + 1 → lessE es[i] (k0, v0, g0, q0) = true) := Lib.hid fun i h hi => by
          rcases Nat.lt_succ_iff_lt_or_eq.1 hi with h' | rfl
          · exact HLE.out i h h'
          · exact HR.out
        clear hw'
        go_wp2
        go_roundw
        case rel => exact ⟨k + 1, by go_num, by omega, HLE2, HW2⟩
        case measure => simp [intOf]; omega
      | false =>
        have HPT := Lib.hid (insE_at es (k0, v0, g0, q0) k (by omega) HLE.out (fun h => HR.out))
        go_wp2
        refine wp_region_below (by kernel_rfl) (by kernel_rfl) ?_
        repeat (first
          | go_big_quiet_skip
          | (go_big_quiet_want
             first
             | (refine BigFrame.quiet_move _ rfl ?_)
             | (refine BigFrame.quiet_assign _ rfl ?_)
             | (unfold Oper.quiet
                apply Exists.intro
                refine ⟨fun w' hw' => ?_, ?_⟩
                · (obtain ⟨hc', hf'⟩ := bcell hw'
                   go_simp
                   first
                   | done
                   | exact rfl
                   | (go_at_call 41; (with_reducible refine (HLs.out _).mono ?_); rintro e w'' ⟨rfl, bb⟩; exact ⟨rfl, by first | exact bt hw' bb | simpa using bt hw' bb⟩)))
             go_big_quiet_on
             simp only [Act.put, Act.eval, List.setIfInBounds_toArray, List.set_cons_zero, List.set_cons_succ, Array.getD_eq_getD_getElem?, List.getElem?_toArray, List.getElem?_cons_zero, List.getElem?_cons_succ, Option.getD_some]))
        refine wpQuiet_nil ?_
        intro w' hw'
        have HW : Hid (Below w1.heap.size w1 w') := Lib.hid (HWr.out.trans (hw'.mono HWr.out.size))
        clear hw' x0 x1 x2 x3 x4 g0' g1' g2' g3' hbr
        have hkc : k ≤ cap := by omega
        have hkci : (k : Int) ≤ (cap : Int) := by omega
        go_wp2_with (at_builtin; refine wpList_append_any rfl (.tmp 25) (.tmp 28) 22 rfl w1.heap.size 37 i0 (.agg #[.string ⟨#[]⟩, .string ⟨#[]⟩, .bool false, .int .i64 0]) 4 48 Try.underlying22 hi hz0 hz1 hz2 rfl (by decide) (.slice none 0 0) 0 (ev4 []) rfl (World.ownsRow_nil _ _ _ _) (some ⟨b, off, none⟩) k cap (ev4 (es.take k)) rfl (by intro h; cases h) (HNL.out k hk) (fun y hy => HNT.out _ (HB.out.trans (HW.out.mono HB.out.size)) k (by omega) y hy) (ev4_one _) (by unfold maxLen; omega) (by omega) HW.out.size ?_)
        intro v3 w3 own3 b3
        rw [ev4_app, List.nil_append] at own3
        have HO3 := Lib.hid own3
        have HW3 := Lib.hid (HW.out.trans b3)
        have hw3 := HW3.out.size
        have HX3 := Lib.hid (HX.out.below HW3.out)
        clear own3 b3
        obtain ⟨x0, x1, x2, x3, x4⟩ := HX3.out
        go_wp2_with (at_builtin; refine wpList_append_own _ rfl (.tmp 30) (.tmp 32) 22 rfl w1.heap.size 37 i0 (.agg #[.string ⟨#[]⟩, .string ⟨#[]⟩, .bool false, .int .i64 0]) 4 48 Try.underlying22 hi hz0 hz1 hz2 rfl (by decide) v3 k (ev4 (es.take k)) rfl (HO3.out.alloc _) ⟨w3.heap.size, 0, none⟩ 1 1 (ev (k0, v0, g0, q0)) rfl rfl (cell_new4 _ _ _ _ _ _) (by intro u hu; simp [ev] at hu; rcases hu with rfl | rfl | rfl | rfl <;> rfl) (by unfold maxLen; omega) (by omega) (by simp; omega) ?_)
        intro v4 w4 own4 gr4 _
        have HW4 := Lib.hid ((HW3.out.alloc hw3 (.cells #[.string k0, .string v0, .bool g0, .int .i64 q0] 37)).grown gr4 (by simp; omega) (fun k hk => (HO3.out.lt k hk).1))
        rw [ev4_snoc] at own4
        have HO4 := Lib.hid own4
        have hw4 := HW4.out.size
        have HX4 := Lib.hid (HX.out.below HW4.out)
        clear own4 gr4 HX3 HO3 HW3 hw3 x0 x1 x2 x3 x4
        obtain ⟨x0, x1, x2, x3, x4⟩ := HX4.out
        obtain ⟨⟨g0', g1', g2', g3'⟩, hbr⟩ := HGE.out w4 (HB.out.trans (HW4.out.mono HB.out.size))
        try simp only at g0' g1' g2' g3'
        cases r2 with
        | true =>
          have HP2 : Hid (putE es (k0, v0, g0, q0) = es.take k ++ [(k0, v0, g0, q0)] ++ es.drop k) := Lib.hid (by
            rw [HPU.out, HPT.out, dif_pos HKL.out, if_pos HR2.out, List.append_assoc]; rfl)
          have HLR : Hid ((es.take k ++ [(k0, v0, g0, q0)] ++ es.drop k).length = k + 1 + (n - k)) := Lib.hid (by
            have := HL.out; simp only [List.length_append, List.length_take, List.length_drop, List.length_singleton]; omega)
          go_wp2
          refine wp_region_below (by kernel_rfl) (by kernel_rfl) ?_
          repeat (first
            | go_big_quiet_skip
            | (go_big_quiet_want
               first
               | (refine BigFrame.quiet_move _ rfl ?_)
               | (refine BigFrame.quiet_assign _ rfl ?_)
               | (unfold Oper.quiet
                  apply Exists.intro
                  refine ⟨fun w' hw' => ?_, ?_⟩
                  · (obtain ⟨hc', hf'⟩ := bcell hw'
                     go_simp
                     first
                     | done
                     | exact rfl
                     | (go_at_call 41; (with_reducible refine (HL2.out _).mono ?_); rintro e w'' ⟨rfl, bb⟩; exact ⟨rfl, by first | exact bt hw' bb | simpa using bt hw' bb⟩)))
               go_big_quiet_on
               simp only [Act.put, Act.eval, List.setIfInBounds_toArray, List.set_cons_zero, List.set_cons_succ, Array.getD_eq_getD_getElem?, List.getElem?_toArray, List.getElem?_cons_zero, List.getElem?_cons_succ, Option.getD_some]))
          refine wpQuiet_nil ?_
          intro w' hw'
          have HW5 := Lib.hid (HW4.out.trans (hw'.mono hw4))
          have HO5 := Lib.hid (below_own HO4.out hw')
          have hw5s := HW5.out.size
          clear hw'
          clear g0' g1' g2' g3' hbr x0 x1 x2 x3 x4
          go_wp2_with (at_builtin; refine wpList_append_any rfl (.tmp 49) (.tmp 52) 22 rfl w1.heap.size 37 i0 (.agg #[.string ⟨#[]⟩, .string ⟨#[]⟩, .bool false, .int .i64 0]) 4 48 Try.underlying22 hi hz0 hz1 hz2 rfl (by decide) v4 (k + 1) (ev4 (es.take k ++ [(k0, v0, g0, q0)])) rfl HO5.out (some ⟨b, off + k * 4, none⟩) (n - k) _ (ev4 (es.drop k)) rfl (by intro h; cases h) (by rw [ev4_length, List.length_drop, HL.out]) ((HAT.out.old hbw (HB.out.trans (HW5.out.mono HB.out.size))).drop k).news' (ev4_one _) (by unfold maxLen; omega) (by omega) hw5s ?_)
          intro v6 w6 own6 b6
          rw [ev4_app] at own6
          have HW6 := Lib.hid (HB.out.trans ((HW5.out.trans b6).mono HB.out.size))
          obtain ⟨a6, c6, rfl, hse⟩ := own_se own6 HLR.out
          have HSE := Lib.hid hse
          clear own6 b6 hse
          go_wp2
          go_ret
          exact ⟨a6, _, c6, rfl, by rw [HP2.out]; exact HSE.out, HW6.out⟩
        | false =>
          have HP2 : Hid (putE es (k0, v0, g0, q0) = es.take k ++ [(k0, v0, g0, q0)] ++ es.drop (k + 1)) := Lib.hid (by
            rw [HPU.out, HPT.out, dif_pos HKL.out, if_neg (by rw [HR2.out]; decide), List.append_assoc]; rfl)
          have HLR : Hid ((es.take k ++ [(k0, v0, g0, q0)] ++ es.drop (k + 1)).length = k + 1 + (n - (k + 1))) := Lib.hid (by
            have := HL.out; simp only [List.length_append, List.length_take, List.length_drop, List.length_singleton]; omega)
          by_cases hcp : cap = k + 1
          · have HD0 : Hid (es.drop (k + 1) = []) := Lib.hid (List.drop_eq_nil_of_le (by rw [HL.out]; omega))
            have hnl : n ≤ k + 1 := by omega
            have HCP := Lib.hid hcp
            clear hcp
            go_wp2
            refine wp_region_below (by kernel_rfl) (by kernel_rfl) ?_
            repeat (first
              | go_big_quiet_skip
              | (go_big_quiet_want
                 first
                 | (refine BigFrame.quiet_move _ rfl ?_)
                 | (refine BigFrame.quiet_assign _ rfl ?_)
                 | (unfold Oper.quiet
                    apply Exists.intro
                    refine ⟨fun w' hw' => ?_, ?_⟩
                    · (obtain ⟨hc', hf'⟩ := bcell hw'
                       go_simp
                       first
                       | done
                       | exact rfl
                       | (go_at_call 41; (with_reducible refine (HL2.out _).mono ?_); rintro e w'' ⟨rfl, bb⟩; exact ⟨rfl, by first | exact bt hw' bb | simpa using bt hw' bb⟩)))
                 go_big_quiet_on
                 simp only [Act.put, Act.eval, List.setIfInBounds_toArray, List.set_cons_zero, List.set_cons_succ, Array.getD_eq_getD_getElem?, List.getElem?_toArray, List.getElem?_cons_zero, List.getElem?_cons_succ, Option.getD_some]))
            refine wpQuiet_nil ?_
            intro w' hw'
            have HW5 := Lib.hid (HW4.out.trans (hw'.mono hw4))
            have HO5 := Lib.hid (below_own HO4.out hw')
            have hw5s := HW5.out.size
            clear hw'
            clear g0' g1' g2' g3' hbr x0 x1 x2 x3 x4
            have hcp := HCP.out
            clear HCP
            subst hcp
            have HP3 := Lib.hid (show putE es (k0, v0, g0, q0) = es.take k ++ [(k0, v0, g0, q0)] ++ [] by rw [HP2.out, HD0.out])
            have HLR3 : Hid ((es.take k ++ [(k0, v0, g0, q0)] ++ ([] : List Ent)).length = k + 1) := Lib.hid (by have := HL.out; simp only [List.length_append, List.length_take, List.length_singleton, List.length_nil]; omega)
            go_wp2_with (at_builtin; refine wpList_append_any rfl (.tmp 49) (.tmp 52) 22 rfl w1.heap.size 37 i0 (.agg #[.string ⟨#[]⟩, .string ⟨#[]⟩, .bool false, .int .i64 0]) 4 48 Try.underlying22 hi hz0 hz1 hz2 rfl (by decide) v4 (k + 1) (ev4 (es.take k ++ [(k0, v0, g0, q0)])) rfl HO5.out (some ⟨b, off, none⟩) 0 _ (ev4 ([] : List Ent)) rfl (by intro h; cases h) rfl (by intro y _ j u hj; simp [ev4] at hj) (ev4_one _) (by unfold maxLen; omega) (by omega) hw5s ?_)
            intro v6 w6 own6 b6
            rw [ev4_app] at own6
            have HW6 := Lib.hid (HB.out.trans ((HW5.out.trans b6).mono HB.out.size))
            obtain ⟨a6, c6, rfl, hse⟩ := own_se own6 HLR3.out
            have HSE := Lib.hid hse
            clear own6 b6 hse
            go_wp2
            go_ret
            exact ⟨a6, _, c6, rfl, by rw [HP3.out]; exact HSE.out, HW6.out⟩
          · have hcp' : k + 1 < cap := by omega
            have hcpi : (k : Int) + 1 < (cap : Int) := by omega
            go_wp2
            refine wp_region_below (by kernel_rfl) (by kernel_rfl) ?_
            repeat (first
              | go_big_quiet_skip
              | (go_big_quiet_want
                 first
                 | (refine BigFrame.quiet_move _ rfl ?_)
                 | (refine BigFrame.quiet_assign _ rfl ?_)
                 | (unfold Oper.quiet
                    apply Exists.intro
                    refine ⟨fun w' hw' => ?_, ?_⟩
                    · (obtain ⟨hc', hf'⟩ := bcell hw'
                       go_simp
                       first
                       | done
                       | exact rfl
                       | (go_at_call 41; (with_reducible refine (HL2.out _).mono ?_); rintro e w'' ⟨rfl, bb⟩; exact ⟨rfl, by first | exact bt hw' bb | simpa using bt hw' bb⟩)))
                 go_big_quiet_on
                 simp only [Act.put, Act.eval, List.setIfInBounds_toArray, List.set_cons_zero, List.set_cons_succ, Array.getD_eq_getD_getElem?, List.getElem?_toArray, List.getElem?_cons_zero, List.getElem?_cons_succ, Option.getD_some]))
            refine wpQuiet_nil ?_
            intro w' hw'
            have HW5 := Lib.hid (HW4.out.trans (hw'.mono hw4))
            have HO5 := Lib.hid (below_own HO4.out hw')
            have hw5s := HW5.out.size
            clear hw'
            clear g0' g1' g2' g3' hbr x0 x1 x2 x3 x4
            go_wp2_with (at_builtin; refine wpList_append_any rfl (.tmp 49) (.tmp 52) 22 rfl w1.heap.size 37 i0 (.agg #[.string ⟨#[]⟩, .string ⟨#[]⟩, .bool false, .int .i64 0]) 4 48 Try.underlying22 hi hz0 hz1 hz2 rfl (by decide) v4 (k + 1) (ev4 (es.take k ++ [(k0, v0, g0, q0)])) rfl HO5.out (some ⟨b, off + (k + 1) * 4, none⟩) (n - (k + 1)) _ (ev4 (es.drop (k + 1))) rfl (by intro h; cases h) (by rw [ev4_length, List.length_drop, HL.out]) ((HAT.out.old hbw (HB.out.trans (HW5.out.mono HB.out.size))).drop (k + 1)).news' (ev4_one _) (by unfold maxLen; omega) (by omega) hw5s ?_)
            intro v6 w6 own6 b6
            rw [ev4_app] at own6
            have HW6 := Lib.hid (HB.out.trans ((HW5.out.trans b6).mono HB.out.size))
            obtain ⟨a6, c6, rfl, hse⟩ := own_se own6 HLR.out
            have HSE := Lib.hid hse
            clear own6 b6 hse
            go_wp2
            go_ret
            exact ⟨a6, _, c6, rfl, by rw [HP2.out]; exact HSE.out, HW6.out⟩
    · obtain rfl : k = n := by omega
      have HPT := Lib.hid (insE_at es (k0, v0, g0, q0) k (by rw [HL.out]; exact Nat.le_refl _) HLE.out (fun h => by rw [HL.out] at h; omega))
      have HP2 : Hid (putE es (k0, v0, g0, q0) = es.take k ++ [(k0, v0, g0, q0)] ++ []) := Lib.hid (by
        rw [HPU.out, HPT.out, dif_neg (by rw [HL.out]; omega)]; simp)
      have HLR : Hid ((es.take k ++ [(k0, v0, g0, q0)] ++ []).length = k + 1) := Lib.hid (by
        have := HL.out; simp only [List.length_append, List.length_take, List.length_singleton, List.length_nil]; omega)
      have hkci : (k : Int) ≤ (cap : Int) := by omega
      rcases a with _ | x
      · have hk0 : k ≤ 0 := by
          rcases Nat.eq_zero_or_pos k with h | h
          · omega
          · exact absurd (ha h) (by simp)
        have HK0 := Lib.hid hk0
        clear hk0
        go_wp2
        refine wp_region_below (by kernel_rfl) (by kernel_rfl) ?_
        repeat (first
          | go_big_quiet_skip
          | (go_big_quiet_want
             first
             | (refine BigFrame.quiet_move _ rfl ?_)
             | (refine BigFrame.quiet_assign _ rfl ?_)
             | (unfold Oper.quiet
                apply Exists.intro
                refine ⟨fun w' hw' => ?_, ?_⟩
                · (obtain ⟨hc', hf'⟩ := bcell hw'
                   go_simp
                   first
                   | done
                   | exact rfl))
             go_big_quiet_on
             simp only [Act.put, Act.eval, List.setIfInBounds_toArray, List.set_cons_zero, List.set_cons_succ, Array.getD_eq_getD_getElem?, List.getElem?_toArray, List.getElem?_cons_zero, List.getElem?_cons_succ, Option.getD_some]))
        refine wpQuiet_nil ?_
        intro w' hw'
        have HW : Hid (Below w1.heap.size w1 w') := Lib.hid (HWr.out.trans (hw'.mono HWr.out.size))
        clear hw' x0 x1 x2 x3 x4
        go_wp2_with (at_builtin; refine wpList_append_any rfl (.tmp 25) (.tmp 28) 22 rfl w1.heap.size 37 i0 (.agg #[.string ⟨#[]⟩, .string ⟨#[]⟩, .bool false, .int .i64 0]) 4 48 Try.underlying22 hi hz0 hz1 hz2 rfl (by decide) (.slice none 0 0) 0 (ev4 []) rfl (World.ownsRow_nil _ _ _ _) none k cap (ev4 (es.take k)) rfl (fun _ => by have := HK0.out; omega) (HNL.out k (Nat.le_refl _)) (fun y hy => HNT.out _ (HB.out.trans (HW.out.mono HB.out.size)) k (Nat.le_refl _) y hy) (ev4_one _) (by unfold maxLen; omega) (by omega) HW.out.size ?_)
        intro v3 w3 own3 b3
        rw [ev4_app, List.nil_append] at own3
        have HO3 := Lib.hid own3
        have HW3 := Lib.hid (HW.out.trans b3)
        have hw3 := HW3.out.size
        have HX3 := Lib.hid (HX.out.below HW3.out)
        clear own3 b3
        obtain ⟨x0, x1, x2, x3, x4⟩ := HX3.out
        go_wp2_with (at_builtin; refine wpList_append_own _ rfl (.tmp 30) (.tmp 32) 22 rfl w1.heap.size 37 i0 (.agg #[.string ⟨#[]⟩, .string ⟨#[]⟩, .bool false, .int .i64 0]) 4 48 Try.underlying22 hi hz0 hz1 hz2 rfl (by decide) v3 k (ev4 (es.take k)) rfl (HO3.out.alloc _) ⟨w3.heap.size, 0, none⟩ 1 1 (ev (k0, v0, g0, q0)) rfl rfl (cell_new4 _ _ _ _ _ _) (by intro u hu; simp [ev] at hu; rcases hu with rfl | rfl | rfl | rfl <;> rfl) (by unfold maxLen; omega) (by omega) (by simp; omega) ?_)
        intro v4 w4 own4 gr4 _
        have HW4 := Lib.hid ((HW3.out.alloc hw3 (.cells #[.string k0, .string v0, .bool g0, .int .i64 q0] 37)).grown gr4 (by simp; omega) (fun k hk => (HO3.out.lt k hk).1))
        rw [ev4_snoc] at own4
        have HO4 := Lib.hid own4
        have hw4 := HW4.out.size
        have HX4 := Lib.hid (HX.out.below HW4.out)
        clear own4 gr4 HX3 HO3 HW3 hw3 x0 x1 x2 x3 x4
        obtain ⟨x0, x1, x2, x3, x4⟩ := HX4.out
        go_wp2
        refine wp_region_below (by kernel_rfl) (by kernel_rfl) ?_
        repeat (first
          | go_big_quiet_skip
          | (go_big_quiet_want
             first
             | (refine BigFrame.quiet_move _ rfl ?_)
             | (refine BigFrame.quiet_assign _ rfl ?_)
             | (unfold Oper.quiet
                apply Exists.intro
                refine ⟨fun w' hw' => ?_, ?_⟩
                · (obtain ⟨hc', hf'⟩ := bcell hw'
                   go_simp
                   first
                   | done
                   | exact rfl))
             go_big_quiet_on
             simp only [Act.put, Act.eval, List.setIfInBounds_toArray, List.set_cons_zero, List.set_cons_succ, Array.getD_eq_getD_getElem?, List.getElem?_toArray, List.getElem?_cons_zero, List.getElem?_cons_succ, Option.getD_some]))
        refine wpQuiet_nil ?_
        intro w' hw'
        have HW5 := Lib.hid (HW4.out.trans (hw'.mono hw4))
        have HO5 := Lib.hid (below_own HO4.out hw')
        have hw5s := HW5.out.size
        clear hw'
        go_wp2_with (at_builtin; refine wpList_append_any rfl (.tmp 49) (.tmp 52) 22 rfl w1.heap.size 37 i0 (.agg #[.string ⟨#[]⟩, .string ⟨#[]⟩, .bool false, .int .i64 0]) 4 48 Try.underlying22 hi hz0 hz1 hz2 rfl (by decide) v4 (k + 1) (ev4 (es.take k ++ [(k0, v0, g0, q0)])) rfl HO5.out none 0 _ (ev4 ([] : List Ent)) rfl (fun _ => rfl) rfl (by intro y _ j u hj; simp [ev4] at hj) (ev4_one _) (by unfold maxLen; omega) (by omega) hw5s ?_)
        intro v6 w6 own6 b6
        rw [ev4_app] at own6
        have HW6 := Lib.hid (HB.out.trans ((HW5.out.trans b6).mono HB.out.size))
        obtain ⟨a6, c6, rfl, hse⟩ := own_se own6 HLR.out
        have HSE := Lib.hid hse
        clear own6 b6 hse
        go_wp2
        go_ret
        exact ⟨a6, _, c6, rfl, by rw [HP2.out]; exact HSE.out, HW6.out⟩
      · by_cases hcp : cap = k
        · have HCP := Lib.hid hcp
          clear hcp
          go_wp2
          refine wp_region_below (by kernel_rfl) (by kernel_rfl) ?_
          repeat (first
            | go_big_quiet_skip
            | (go_big_quiet_want
               first
               | (refine BigFrame.quiet_move _ rfl ?_)
               | (refine BigFrame.quiet_assign _ rfl ?_)
               | (unfold Oper.quiet
                  apply Exists.intro
                  refine ⟨fun w' hw' => ?_, ?_⟩
                  · (obtain ⟨hc', hf'⟩ := bcell hw'
                     go_simp
                     first
                     | done
                     | exact rfl))
               go_big_quiet_on
               simp only [Act.put, Act.eval, List.setIfInBounds_toArray, List.set_cons_zero, List.set_cons_succ, Array.getD_eq_getD_getElem?, List.getElem?_toArray, List.getElem?_cons_zero, List.getElem?_cons_succ, Option.getD_some]))
          refine wpQuiet_nil ?_
          intro w' hw'
          have HW : Hid (Below w1.heap.size w1 w') := Lib.hid (HWr.out.trans (hw'.mono HWr.out.size))
          clear hw' x0 x1 x2 x3 x4
          go_wp2_with (at_builtin; refine wpList_append_any rfl (.tmp 25) (.tmp 28) 22 rfl w1.heap.size 37 i0 (.agg #[.string ⟨#[]⟩, .string ⟨#[]⟩, .bool false, .int .i64 0]) 4 48 Try.underlying22 hi hz0 hz1 hz2 rfl (by decide) (.slice none 0 0) 0 (ev4 []) rfl (World.ownsRow_nil _ _ _ _) (some x) k cap (ev4 (es.take k)) rfl (by intro h; cases h) (HNL.out k (Nat.le_refl _)) (fun y hy => HNT.out _ (HB.out.trans (HW.out.mono HB.out.size)) k (Nat.le_refl _) y hy) (ev4_one _) (by unfold maxLen; omega) (by omega) HW.out.size ?_)
          intro v3 w3 own3 b3
          rw [ev4_app, List.nil_append] at own3
          have HO3 := Lib.hid own3
          have HW3 := Lib.hid (HW.out.trans b3)
          have hw3 := HW3.out.size
          have HX3 := Lib.hid (HX.out.below HW3.out)
          clear own3 b3
          obtain ⟨x0, x1, x2, x3, x4⟩ := HX3.out
          go_wp2_with (at_builtin; refine wpList_append_own _ rfl (.tmp 30) (.tmp 32) 22 rfl w1.heap.size 37 i0 (.agg #[.string ⟨#[]⟩, .string ⟨#[]⟩, .bool false, .int .i64 0]) 4 48 Try.underlying22 hi hz0 hz1 hz2 rfl (by decide) v3 k (ev4 (es.take k)) rfl (HO3.out.alloc _) ⟨w3.heap.size, 0, none⟩ 1 1 (ev (k0, v0, g0, q0)) rfl rfl (cell_new4 _ _ _ _ _ _) (by intro u hu; simp [ev] at hu; rcases hu with rfl | rfl | rfl | rfl <;> rfl) (by unfold maxLen; omega) (by omega) (by simp; omega) ?_)
          intro v4 w4 own4 gr4 _
          have HW4 := Lib.hid ((HW3.out.alloc hw3 (.cells #[.string k0, .string v0, .bool g0, .int .i64 q0] 37)).grown gr4 (by simp; omega) (fun k hk => (HO3.out.lt k hk).1))
          rw [ev4_snoc] at own4
          have HO4 := Lib.hid own4
          have hw4 := HW4.out.size
          have HX4 := Lib.hid (HX.out.below HW4.out)
          clear own4 gr4 HX3 HO3 HW3 hw3 x0 x1 x2 x3 x4
          obtain ⟨x0, x1, x2, x3, x4⟩ := HX4.out
          go_wp2
          refine wp_region_below (by kernel_rfl) (by kernel_rfl) ?_
          repeat (first
            | go_big_quiet_skip
            | (go_big_quiet_want
               first
               | (refine BigFrame.quiet_move _ rfl ?_)
               | (refine BigFrame.quiet_assign _ rfl ?_)
               | (unfold Oper.quiet
                  apply Exists.intro
                  refine ⟨fun w' hw' => ?_, ?_⟩
                  · (obtain ⟨hc', hf'⟩ := bcell hw'
                     go_simp
                     first
                     | done
                     | exact rfl))
               go_big_quiet_on
               simp only [Act.put, Act.eval, List.setIfInBounds_toArray, List.set_cons_zero, List.set_cons_succ, Array.getD_eq_getD_getElem?, List.getElem?_toArray, List.getElem?_cons_zero, List.getElem?_cons_succ, Option.getD_some]))
          refine wpQuiet_nil ?_
          intro w' hw'
          have HW5 := Lib.hid (HW4.out.trans (hw'.mono hw4))
          have HO5 := Lib.hid (below_own HO4.out hw')
          have hw5s := HW5.out.size
          clear hw'
          have hcp := HCP.out.symm
          clear HCP
          subst hcp
          go_wp2_with (at_builtin; refine wpList_append_any rfl (.tmp 49) (.tmp 52) 22 rfl w1.heap.size 37 i0 (.agg #[.string ⟨#[]⟩, .string ⟨#[]⟩, .bool false, .int .i64 0]) 4 48 Try.underlying22 hi hz0 hz1 hz2 rfl (by decide) v4 (k + 1) (ev4 (es.take k ++ [(k0, v0, g0, q0)])) rfl HO5.out (some x) 0 _ (ev4 ([] : List Ent)) rfl (by intro h; cases h) rfl (by intro y _ j u hj; simp [ev4] at hj) (ev4_one _) (by unfold maxLen; omega) (by omega) hw5s ?_)
          intro v6 w6 own6 b6
          rw [ev4_app] at own6
          have HW6 := Lib.hid (HB.out.trans ((HW5.out.trans b6).mono HB.out.size))
          obtain ⟨a6, c6, rfl, hse⟩ := own_se own6 HLR.out
          have HSE := Lib.hid hse
          clear own6 b6 hse
          go_wp2
          go_ret
          exact ⟨a6, _, c6, rfl, by rw [HP2.out]; exact HSE.out, HW6.out⟩
        · have hcp' : k < cap := by omega
          have hcpi : (k : Int) < (cap : Int) := by omega
          go_wp2
          refine wp_region_below (by kernel_rfl) (by kernel_rfl) ?_
          repeat (first
            | go_big_quiet_skip
            | (go_big_quiet_want
               first
               | (refine BigFrame.quiet_move _ rfl ?_)
               | (refine BigFrame.quiet_assign _ rfl ?_)
               | (unfold Oper.quiet
                  apply Exists.intro
                  refine ⟨fun w' hw' => ?_, ?_⟩
                  · (obtain ⟨hc', hf'⟩ := bcell hw'
                     go_simp
                     first
                     | done
                     | exact rfl))
               go_big_quiet_on
               simp only [Act.put, Act.eval, List.setIfInBounds_toArray, List.set_cons_zero, List.set_cons_succ, Array.getD_eq_getD_getElem?, List.getElem?_toArray, List.getElem?_cons_zero, List.getElem?_cons_succ, Option.getD_some]))
          refine wpQuiet_nil ?_
          intro w' hw'
          have HW : Hid (Below w1.heap.size w1 w') := Lib.hid (HWr.out.trans (hw'.mono HWr.out.size))
          clear hw' x0 x1 x2 x3 x4
          go_wp2_with (at_builtin; refine wpList_append_any rfl (.tmp 25) (.tmp 28) 22 rfl w1.heap.size 37 i0 (.agg #[.string ⟨#[]⟩, .string ⟨#[]⟩, .bool false, .int .i64 0]) 4 48 Try.underlying22 hi hz0 hz1 hz2 rfl (by decide) (.slice none 0 0) 0 (ev4 []) rfl (World.ownsRow_nil _ _ _ _) (some x) k cap (ev4 (es.take k)) rfl (by intro h; cases h) (HNL.out k (Nat.le_refl _)) (fun y hy => HNT.out _ (HB.out.trans (HW.out.mono HB.out.size)) k (Nat.le_refl _) y hy) (ev4_one _) (by unfold maxLen; omega) (by omega) HW.out.size ?_)
          intro v3 w3 own3 b3
          rw [ev4_app, List.nil_append] at own3
          have HO3 := Lib.hid own3
          have HW3 := Lib.hid (HW.out.trans b3)
          have hw3 := HW3.out.size
          have HX3 := Lib.hid (HX.out.below HW3.out)
          clear own3 b3
          obtain ⟨x0, x1, x2, x3, x4⟩ := HX3.out
          go_wp2_with (at_builtin; refine wpList_append_own _ rfl (.tmp 30) (.tmp 32) 22 rfl w1.heap.size 37 i0 (.agg #[.string ⟨#[]⟩, .string ⟨#[]⟩, .bool false, .int .i64 0]) 4 48 Try.underlying22 hi hz0 hz1 hz2 rfl (by decide) v3 k (ev4 (es.take k)) rfl (HO3.out.alloc _) ⟨w3.heap.size, 0, none⟩ 1 1 (ev (k0, v0, g0, q0)) rfl rfl (cell_new4 _ _ _ _ _ _) (by intro u hu; simp [ev] at hu; rcases hu with rfl | rfl | rfl | rfl <;> rfl) (by unfold maxLen; omega) (by omega) (by simp; omega) ?_)
          intro v4 w4 own4 gr4 _
          have HW4 := Lib.hid ((HW3.out.alloc hw3 (.cells #[.string k0, .string v0, .bool g0, .int .i64 q0] 37)).grown gr4 (by simp; omega) (fun k hk => (HO3.out.lt k hk).1))
          rw [ev4_snoc] at own4
          have HO4 := Lib.hid own4
          have hw4 := HW4.out.size
          have HX4 := Lib.hid (HX.out.below HW4.out)
          clear own4 gr4 HX3 HO3 HW3 hw3 x0 x1 x2 x3 x4
          obtain ⟨x0, x1, x2, x3, x4⟩ := HX4.out
          go_wp2
          refine wp_region_below (by kernel_rfl) (by kernel_rfl) ?_
          repeat (first
            | go_big_quiet_skip
            | (go_big_quiet_want
               first
               | (refine BigFrame.quiet_move _ rfl ?_)
               | (refine BigFrame.quiet_assign _ rfl ?_)
               | (unfold Oper.quiet
                  apply Exists.intro
                  refine ⟨fun w' hw' => ?_, ?_⟩
                  · (obtain ⟨hc', hf'⟩ := bcell hw'
                     go_simp
                     first
                     | done
                     | exact rfl))
               go_big_quiet_on
               simp only [Act.put, Act.eval, List.setIfInBounds_toArray, List.set_cons_zero, List.set_cons_succ, Array.getD_eq_getD_getElem?, List.getElem?_toArray, List.getElem?_cons_zero, List.getElem?_cons_succ, Option.getD_some]))
          refine wpQuiet_nil ?_
          intro w' hw'
          have HW5 := Lib.hid (HW4.out.trans (hw'.mono hw4))
          have HO5 := Lib.hid (below_own HO4.out hw')
          have hw5s := HW5.out.size
          clear hw'
          go_wp2_with (at_builtin; refine wpList_append_any rfl (.tmp 49) (.tmp 52) 22 rfl w1.heap.size 37 i0 (.agg #[.string ⟨#[]⟩, .string ⟨#[]⟩, .bool false, .int .i64 0]) 4 48 Try.underlying22 hi hz0 hz1 hz2 rfl (by decide) v4 (k + 1) (ev4 (es.take k ++ [(k0, v0, g0, q0)])) rfl HO5.out (some (x.add (k * 4))) 0 _ (ev4 ([] : List Ent)) rfl (by intro h; cases h) rfl (by intro y _ j u hj; simp [ev4] at hj) (ev4_one _) (by unfold maxLen; omega) (by omega) hw5s ?_)
          intro v6 w6 own6 b6
          rw [ev4_app] at own6
          have HW6 := Lib.hid (HB.out.trans ((HW5.out.trans b6).mono HB.out.size))
          obtain ⟨a6, c6, rfl, hse⟩ := own_se own6 HLR.out
          have HSE := Lib.hid hse
          clear own6 b6 hse
          go_wp2
          go_ret
          exact ⟨a6, _, c6, rfl, by rw [HP2.out]; exact HSE.out, HW6.out⟩
theorem put1_any (a : Option Addr) (n cap : Nat) (es : List Ent) (k0 v0 : ByteArray) (g0 : Bool) (q0 : Int) (w : World) (hn60 : n ≤ 4096) (hs : SE w a n cap es) (h1 : okS k0) (h2 : okS v0) :
    Calls Try.prog 28 #[.slice a n cap, .agg #[.string k0, .string v0, .bool g0, .int .i64 q0]] w (P1 (putE es (k0, v0, g0, q0)) w) := by
  cases hm : mayE (k0, v0, g0, q0) with
  | false => exact put1_no a n cap es k0 v0 g0 q0 w hs h1 h2 hm
  | true => exact put1_yes a n cap es k0 v0 g0 q0 w hn60 hs h1 h2 hm
end Go.Proofs.Ytdpinkipcaolhaa
