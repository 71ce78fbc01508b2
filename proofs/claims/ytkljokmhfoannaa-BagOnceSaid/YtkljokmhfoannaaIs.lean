/-
  Layer 15 (bag): the walk of BagOnce. Conditions: none.
-/
import Derived.Test.YtkljokmhfoannaaIr
namespace Go.Proofs.Ytkljokmhfoannaa
open Go.RowKit Go.Maps
set_option linter.unusedVariables false
set_option linter.unusedSimpArgs false

/-- A row of numbers that can be written. -/
def WRow (w : World) (g : Nat) (W : List Int) : Prop := g < w.heap.size ∧ ∀ k (h : k < W.length), w.cell? ⟨g, k, none⟩ = some (.int .i64 W[k]) ∧ w.frozen? ⟨g, k, none⟩ = false
theorem WRow.kp {w w' : World} {g : Nat} {W : List Int} (h : WRow w g W) (hb : w'.heap[g]? = w.heap[g]?) (hs : w.heap.size ≤ w'.heap.size) : WRow w' g W :=
  ⟨Nat.lt_of_lt_of_le h.1 hs, fun k hk => ⟨(World.cell?_of_block (w := w) (a := ⟨g, k, none⟩) hb).trans (h.2 k hk).1, (World.frozen?_of_block (w := w) (a := ⟨g, k, none⟩) hb).trans (h.2 k hk).2⟩⟩
theorem WRow.below {w w' : World} {g : Nat} {W : List Int} (h : WRow w g W) (hb : Below w.heap.size w w') : WRow w' g W := h.kp (hb.block g h.1) hb.size
theorem WRow.set {w : World} {g : Nat} {W : List Int} (h : WRow w g W) (k : Nat) (hk : k < W.length) (v : Int) : WRow (w.setCell ⟨g, k, none⟩ (.int .i64 v)) g (W.set k v) := by
  refine ⟨by simpa using h.1, fun j hj => ?_⟩
  rw [List.length_set] at hj
  rw [List.getElem_set]
  refine ⟨?_, by rw [World.frozen?_setCell]; exact (h.2 j hj).2⟩
  by_cases e : k = j
  · subst e
    rw [if_pos rfl]
    exact World.cell?_setCell_same _ _ _ (h.2 k hk).1
  · rw [if_neg e]
    exact (World.cell?_setCell_other _ _ _ _ (by simp [e])).trans (h.2 j hj).1
theorem infoInt15 : (Try.prog.info? 3).map (fun i => (i.zero, i.size, i.bytes)) = some (some (.int .i64 0), 1, 8) := by kernel_rfl
theorem make_ints (n : Nat) (hn : n < 30) (W : World) : (Instr.makeSlice 35 (.int .i64 (n : Int)) (.int .i64 (n : Int))).run Try.prog W = .ok (.slice (some ⟨W.heap.size, 0, none⟩) n n) (W.alloc (.cells (madeCells #[Value.int .i64 0] n) 3)) := by
  obtain ⟨i, hi, h⟩ := Option.map_eq_some_iff.1 infoInt15
  simp only [Prod.mk.injEq] at h
  obtain ⟨h0, h1, h2⟩ := h
  have hr := run_make (P := Try.prog) W 35 3 i (.int .i64 0) Try.underlying35 hi h0 .i64 .i64 (n : Int) (n : Int) (by omega) (Int.le_refl _) (by rw [h2]; omega) (by omega)
  rw [h1] at hr
  simp only [Int.toNat_natCast, Nat.mul_one] at hr
  exact hr
theorem made_ints (w : World) (n : Nat) : WRow (w.alloc (.cells (madeCells #[Value.int .i64 0] n) 3)) w.heap.size (List.replicate n 0) := by
  refine ⟨by simp, fun k hk0 => ?_⟩
  have hk := hk0
  rw [List.length_replicate] at hk
  have hh : (w.alloc (.cells (madeCells #[Value.int .i64 0] n) 3)).heap[w.heap.size]? = some (.cells (madeCells #[Value.int .i64 0] n) 3 (0, 0)) := by unfold World.alloc; simp
  refine ⟨?_, ?_⟩
  · have hc : (madeCells #[Value.int .i64 0] n)[k]? = some (.int .i64 0) := by simp [madeCells, hk, Nat.mod_one]
    have hl : (List.replicate n (0 : Int))[k]'hk0 = 0 := by simp
    rw [hl, ← hc, World.cell?]
    generalize madeCells #[Value.int .i64 0] n = c at hh ⊢
    simp only [hh]
    rfl
  · rw [World.frozen?]
    simp only [hh]
    simp
theorem conv_one (W : World) (i : Nat) (hi : i < 30) : (convert 55 9 (.slice (some ⟨W.heap.size, 0, none⟩) 1 1)).run Try.prog (W.alloc (.cells #[.int .u8 (97 + (i : Int))] 5)) = .ok (.string ⟨#[UInt8.ofNat (97 + i)]⟩) (W.alloc (.cells #[.int .u8 (97 + (i : Int))] 5)) := by
  have h := run_convert_bytes_back (P := Try.prog) (W.alloc (.cells #[.int .u8 (97 + (i : Int))] 5)) 55 9 5 ⟨W.heap.size, 0, none⟩ 1 [UInt8.ofNat (97 + i)] Try.underlying55 Try.underlying5 Try.underlying9 (fun j hj => by
    match j, hj with
    | 0, _ =>
      have : (UInt8.ofNat (97 + i)).toNat = 97 + i := by rw [UInt8.toNat_ofNat']; omega
      simp only [List.getElem_cons_zero, this]
      simp [Addr.add])
  exact h
set_option maxRecDepth 100000 in
set_option maxHeartbeats 8000000 in
theorem walk_BagOnce (a : Int) (wfa : (Lit.int .i64 a).wf = true) (tw : Int) (wft : (Lit.int .i64 tw).wf = true) (oa : Option Addr) (on oc : Nat) (os : List Int) (w : World) (ho : IsRow .i64 w oa on oc os) : Calls Try.prog 4 #[.int .i64 a, .int .i64 tw, .slice oa on oc] w fun e w' => e = .returned (.bool true) ∧ Below w.heap.size w w' := by
  obtain ⟨m, hm, hm256⟩ := low8 a
  obtain ⟨n, hn⟩ : ∃ n, n = m % 30 := ⟨_, rfl⟩
  have HN := Lib.hid (show n < 30 by omega)
  have HNN := Lib.hid hn
  have HO := Lib.hid ho
  have hmn : (m : Int) % 30 = (n : Int) := by omega
  have hmk := make_ints n HN.out
  clear ho wfa wft hn
  go_enter Try.func4, Try.ntmps4
  go_wp2_with fail
  refine (new15_yes w 3 1 (by decide) (by decide)).mono ?_
  rintro e w1 ⟨hb1, b, rfl, h1⟩
  have H1 := Lib.hid h1
  have B1 := Lib.hid hb1
  clear h1 hb1
  go_upto_region 6 with fail
  rw [hmn]
  have hbW := bal (Below.refl _ w1) (.cells (madeCells #[Value.int .i64 0] n) 3)
  have hrw := made_ints w1 n
  have hfr := H1.out.fresh hbW
  have hgl : w1.heap.size < (w1.alloc (.cells (madeCells #[Value.int .i64 0] n) 3)).heap.size := by simp
  obtain ⟨W, hW⟩ : ∃ W, W = w1.alloc (.cells (madeCells #[Value.int .i64 0] n) 3) := ⟨_, rfl⟩
  rw [← hW] at hbW hrw hfr hgl ⊢
  obtain ⟨g, hg⟩ : ∃ g, g = w1.heap.size := ⟨_, rfl⟩
  rw [← hg] at hrw hfr hgl ⊢
  have HGL : Hid (w.heap.size ≤ g) := Lib.hid (by rw [hg]; exact B1.out.size)
  have HBA : Hid (BagAt (fun z => z < w.heap.size ∨ z = g) W b 3 1 fun _ => []) := Lib.hid (hfr.weaken fun z hz => by
    rcases hz with hz | rfl
    · exact .inl hz
    · exact .inr ⟨Nat.le_refl _, hgl⟩)
  have HWR := Lib.hid hrw
  have HBW := Lib.hid (B1.out.trans (hbW.mono B1.out.size))
  clear hW hg hfr hrw hbW hgl hmk hmn hm hm256
  go_upto_region 7 with fail
  go_loopw [11] (fun x wr => ∃ i : Nat, x = .int .i64 i ∧ i ≤ n ∧ Hid (∃ r q V, On n i r q V ∧ BagAt (fun z => z < w.heap.size ∨ z = g) wr b 3 1 q ∧ WRow wr g V) ∧ Hid (Below w.heap.size w wr)) (fun x _ => n - (intOf x).toNat)
  case atStart => exact ⟨0, rfl, by omega, Lib.hid ⟨_, _, _, On.start n, HBA.out, HWR.out⟩, HBW⟩
  case round =>
    obtain ⟨i, rfl, hi, HD, HW⟩ := hrel
    obtain ⟨r, q, V, hO, hB, hV⟩ := HD.out
    have HON := Lib.hid hO
    have HBG := Lib.hid hB
    have HV := Lib.hid hV
    clear hO hB hV HD
    by_cases hlt : i < n
    · have hki : (i : Int) < (n : Int) := by omega
      have hi30 : i < 30 := by have := HN.out; omega
      have hw1 : IntKind.i64.wrap (97 + (i : Int)) = 97 + (i : Int) := IntWalk.i64_in _ (by omega)
      have hw2 : IntKind.u8.wrap (97 + (i : Int)) = 97 + (i : Int) := by rw [IntKind.wrap_u8]; omega
      have hcv := fun W => conv_one W i hi30
      obtain ⟨bb, hbb⟩ : ∃ bb, bb = UInt8.ofNat (97 + i) := ⟨_, rfl⟩
      rw [← hbb] at hcv
      obtain ⟨p, hp⟩ : ∃ p, p = i % 3 := ⟨_, rfl⟩
      have hp3 : (i : Int) % 3 = (p : Int) := by omega
      have HP := Lib.hid hp
      clear hp
      have hr30 := HON.out.le p (by omega)
      have hbx := bal (Below.refl _ wr) (.cells #[.int .u8 (97 + (i : Int))] 5)
      have hmk : mkL i = ⟨100, (p : Int), ⟨#[bb]⟩⟩ := by unfold mkL; rw [← HP.out, hbb]
      have hpw : (Lit.int .i64 (p : Int)).wf = true := by
        have h1 : IntKind.i64.min = -9223372036854775808 := rfl
        have h2 : IntKind.i64.max = 9223372036854775807 := rfl
        simp [Lit.wf]
        omega
      have HPW := Lib.hid hpw
      have HPT := Lib.hid (put15_any (HBG.out.below hbx) (mkL i) (by show (Lit.int .i64 100).wf = true; decide) (by rw [hmk]; exact hpw) (by show 1 ≤ 9223372036854775807; decide))
      obtain ⟨e0, eq0⟩ := mk_put HON.out i (by omega) (by rw [← HP.out]; omega)
      have HE := Lib.hid (And.intro e0 eq0)
      rw [hmk] at HPT
      unfold lv at HPT
      have HMK := Lib.hid hmk
      have HBX := Lib.hid hbx
      have HIL : Hid (i < V.length) := Lib.hid (by rw [HON.out.wl]; exact hlt)
      have HV0 := Lib.hid (HON.out.fresh HIL.out)
      have hin : i < n := hlt
      clear hbx hmk e0 eq0 hpw hbb
      go_wp2_with fail
      refine HPT.out.mono ?_
      rintro e w2 ⟨rfl, h2, k2⟩
      rw [← HMK.out] at h2 ⊢
      rw [HE.out.1]
      rw [HE.out.2] at h2
      have hv2 := (HV.out.below HBX.out).kp (k2.block g (.inr rfl)) k2.size
      have c0 := (hv2.2 i HIL.out).1
      have f0 := (hv2.2 i HIL.out).2
      have hgl := hv2.1
      rw [HV0.out] at c0
      have HV2 := Lib.hid (hv2.set i HIL.out 1)
      have H2 := Lib.hid (h2.setCell (.inr rfl) i (.int .i64 1))
      have hB2 : Below w.heap.size w w2 := (HW.out.trans (HBX.out.mono HW.out.size)).trans (k2.below fun _ h => .inl h)
      have HB2 := Lib.hid (hB2.setCell (p := ⟨g, i, none⟩) HGL.out (.int .i64 1))
      have HO2 := Lib.hid (HON.out.put hlt)
      clear h2 k2 hv2 hB2 hcv
      cases htb : (bits .and .i64 (tw / 2 ^ i) 1 == 1) with
      | false =>
        go_wp2_with fail
        go_roundw
        case rel => exact ⟨i + 1, by go_num, by omega, Lib.hid ⟨_, _, _, HO2.out, H2.out, HV2.out⟩, HB2⟩
        case measure => simp [intOf]; omega
      | true =>
        have hp3' : i % 3 < 3 := Nat.mod_lt _ (by decide)
        obtain ⟨s0, hs0⟩ : ∃ s0, s0 = (r (i % 3)).length := ⟨_, rfl⟩
        obtain ⟨L1, hL1⟩ : ∃ L1, L1 = s0 + 1 := ⟨_, rfl⟩
        have hs60 : s0 ≤ 60 := by rw [hs0, ← HP.out]; omega
        have hr1 : updN r (i % 3) (r (i % 3) ++ [i]) (i % 3) = r (i % 3) ++ [i] := by unfold updN; rw [if_pos rfl]
        have HWT := Lib.hid (waits15_any H2.out (p : Int) HPW.out)
        rw [show (upd q ((i % 3 : Nat) : Int) ((r (i % 3) ++ [i]).map mkL) (p : Int)).length = L1 by rw [HP.out, upd_same, List.length_map, List.length_append, hL1, hs0]; rfl] at HWT
        have e1 := mk_twice HO2.out hp3' hr1 rfl (by rw [← hs0]; omega)
        rw [← hs0, ← HP.out, show updN r p (r p ++ [i]) p = r p ++ [i] by unfold updN; rw [if_pos rfl]] at e1
        have hO3 := HO2.out.twice hlt (by rw [hr1]; exact HON.out.once) (by rw [hr1, List.length_append]; have := HON.out.le _ hp3'; simp; omega)
        rw [hr1] at hO3
        have HE1 := Lib.hid e1
        have HO3 := Lib.hid hO3
        have hws : (L1 : Int) - 1 = (s0 : Int) := by omega
        have hws2 : IntKind.i64.wrap ((L1 : Int) - 1) = (s0 : Int) := by rw [IntWalk.i64_in _ (by omega)]; omega
        clear e1 hO3 hr1 hs0 hL1
        go_wp2_with fail
        refine HWT.out.mono ?_
        rintro e w4 ⟨rfl, hb4⟩
        have H4 := Lib.hid (H2.out.below hb4)
        have HV4 := Lib.hid (HV2.out.below hb4)
        have HB4 := Lib.hid (HB2.out.trans (hb4.mono HB2.out.size))
        clear hb4
        go_wp2_with fail
        refine (twice15_any H4.out (p : Int) (s0 : Int) HPW.out).mono ?_
        rintro e w5 ⟨rfl, h5, k5⟩
        rw [← HP.out] at h5
        rw [← HP.out, HE1.out.1]
        rw [HE1.out.2] at h5
        have hv5 := HV4.out.kp (k5.block g (.inr rfl)) k5.size
        have hil5 : i < (V.set i 1).length := by rw [List.length_set]; exact HIL.out
        have c5 := (hv5.2 i hil5).1
        have f5 := (hv5.2 i hil5).2
        have hgl5 := hv5.1
        rw [List.getElem_set_self] at c5
        have HV5 := Lib.hid (hv5.set i hil5 2)
        have H5 := Lib.hid (h5.setCell (.inr rfl) i (.int .i64 2))
        have hB5 : Below w.heap.size w w5 := HB4.out.trans (k5.below fun _ h => .inl h)
        have HB5 := Lib.hid (hB5.setCell (p := ⟨g, i, none⟩) HGL.out (.int .i64 2))
        clear h5 k5 hv5 hB5 hil5
        go_wp2_with fail
        go_roundw
        case rel =>
          refine ⟨i + 1, by go_num, by omega, Lib.hid ⟨_, _, _, HO3.out, ?_, HV5.out⟩, HB5⟩
          rw [← HP.out]
          exact H5.out
        case measure => simp [intOf]; omega
    · obtain rfl : i = n := by omega
      obtain ⟨n, hn⟩ : ∃ n, n = i := ⟨_, rfl⟩
      subst hn
      go_upto_region 17 with fail
      go_loopw [12, 15] (fun x _ wr => ∃ t : Nat, x = .int .i64 t ∧ t ≤ 3 ∧ Hid (∃ r q V, On n n r q V ∧ BagAt (fun z => z < w.heap.size ∨ z = g) wr b 3 1 q ∧ WRow wr g V ∧ ∀ s, s < t → r s = []) ∧ Hid (Below w.heap.size w wr)) (fun x _ _ => 3 - (intOf x).toNat)
      case atStart => exact ⟨0, rfl, by omega, Lib.hid ⟨_, _, _, HON.out, HBG.out, HV.out, fun s hs => absurd hs (by omega)⟩, HW⟩
      case round =>
        clear HON HBG HV HW
        obtain ⟨t, rfl, ht3, HD, HW⟩ := hrel
        by_cases hlt : t < 3
        · have hki : (t : Int) < 3 := by omega
          have ht := hlt
          have HTW : Hid ((Lit.int .i64 (t : Int)).wf = true) := Lib.hid (by
            have h1 : IntKind.i64.min = -9223372036854775808 := rfl
            have h2 : IntKind.i64.max = 9223372036854775807 := rfl
            simp [Lit.wf]
            omega)
          go_upto_region 20 with fail
          go_loopw [13, 15] (fun y _ wr => ∃ k : Nat, y = .int .i64 k ∧ Hid (∃ r q V, On n n r q V ∧ BagAt (fun z => z < w.heap.size ∨ z = g) wr b 3 1 q ∧ WRow wr g V ∧ (∀ s, s < t → r s = []) ∧ k + (r t).length ≤ 60) ∧ Hid (Below w.heap.size w wr)) (fun y _ _ => 100 - (intOf y).toNat)
          case atStart =>
            obtain ⟨r, q, V, h1, h2, h3, h4⟩ := HD.out
            exact ⟨0, rfl, Lib.hid ⟨r, q, V, h1, h2, h3, h4, by have := h1.le t ht; have := HN.out; omega⟩, HW⟩
          case round =>
            clear HD HW
            obtain ⟨k, rfl, HD, HW⟩ := hrel
            obtain ⟨r, q, V, hO, hB, hV, hE0, hL⟩ := HD.out
            have HON := Lib.hid hO
            have HV0 := Lib.hid hV
            have HE0 := Lib.hid hE0
            have HL := Lib.hid hL
            have HWT := Lib.hid (waits15_any hB (t : Int) HTW.out)
            rw [hO.qs t ht, List.length_map] at HWT
            have HB0 := Lib.hid hB
            have hk60 : k ≤ 60 := by omega
            have hl60 : (r t).length ≤ 60 := by omega
            obtain ⟨L, hLL⟩ : ∃ L, L = (r t).length := ⟨_, rfl⟩
            rw [← hLL] at HWT hl60
            have HLL := Lib.hid hLL
            clear hO hB hV hE0 hL HD hLL
            by_cases hL0 : L = 0
            · subst hL0
              go_wp2_with (go_at_call 22; refine HWT.out.mono ?_; rintro e w2 ⟨rfl, hb2⟩)
              go_roundw
              case rel =>
                refine ⟨t + 1, by go_num, by omega, Lib.hid ⟨r, q, V, HON.out, HB0.out.below hb2, HV0.out.below hb2, fun s hs => ?_⟩, Lib.hid (HW.out.trans (hb2.mono HW.out.size))⟩
                by_cases e : s = t
                · rw [e]; exact List.eq_nil_of_length_eq_zero HLL.out.symm
                · exact HE0.out s (by omega)
              case measure => simp [intOf]; omega
            · have hLp : (0 : Int) < (L : Int) := by omega
              go_upto_region 23 with (go_at_call 22; refine HWT.out.mono ?_; rintro e w2 ⟨rfl, hb2⟩)
              have HB2 := Lib.hid (HB0.out.below hb2)
              have HV2 := Lib.hid (HV0.out.below hb2)
              have HW2 := Lib.hid (HW.out.trans (hb2.mono HW.out.size))
              clear hb2 HWT
              by_cases hon : 0 < on
              · have honi : (0 : Int) < (on : Int) := by omega
                obtain ⟨ob, off, hoa, hob, hoz, hocm, honc, hoc, hwz⟩ := HO.out.at_ hon
                obtain ⟨ix, hix⟩ : ∃ ix, ix = k % on := ⟨_, rfl⟩
                have hixl : ix < on := by rw [hix]; exact Nat.mod_lt _ hon
                have hixe : (k : Int) % (on : Int) = (ix : Int) := by rw [hix]; simp
                have hixi : (ix : Int) < (on : Int) := by omega
                have ho2 := (HW2.out.cell (p := ⟨ob, off + ix, none⟩) hob).trans (hoc ix (by omega))
                have hobl : ob < w2.heap.size := Nat.lt_of_lt_of_le hob HW2.out.size
                obtain ⟨z, hz⟩ : ∃ z, z = os.getD ix 0 := ⟨_, rfl⟩
                rw [← hz] at ho2
                obtain ⟨mm, hmm, hmm256⟩ := low8 z
                obtain ⟨A, hAe⟩ : ∃ A, A = mm % L := ⟨_, rfl⟩
                have hA : A < (r t).length := by rw [hAe, ← HLL.out]; exact Nat.mod_lt _ (by omega)
                have hAi : (mm : Int) % (L : Int) = (A : Int) := by rw [hAe]; simp
                have hon0 : ¬ on = 0 := by omega
                have htm1 : (k : Int).tmod (on : Int) = (ix : Int) := by rw [Int.tmod_eq_emod_of_nonneg (by omega)]; exact hixe
                have htm2 : (mm : Int).tmod (L : Int) = (A : Int) := by rw [Int.tmod_eq_emod_of_nonneg (by omega)]; exact hAi
                have hone : ¬ (on : Int) = 0 := by omega
                have hLe : ¬ (L : Int) = 0 := by omega
                have hone2 : ((on : Int) == 0) = false := beq_eq_false_iff_ne.2 hone
                have hLe2 : ((L : Int) == 0) = false := beq_eq_false_iff_ne.2 hLe
                have HW3 := Lib.hid (fun (w' : World) (hb : Below w2.heap.size w2 w') => waits15_any (HB2.out.below hb) (t : Int) HTW.out)
                simp only [HON.out.qs t ht, List.length_map, ← HLL.out] at HW3
                subst hoa
                clear hz hix hAe hoc hoz hwz
                go_upto_region 24 with fail
                refine wp_region_below (by kernel_rfl) (by kernel_rfl) ?_
                repeat (first
                  | go_big_quiet_skip
                  | (go_big_quiet_want
                     first
                     | (refine BigFrame.quiet_move _ rfl ?_)
                     | (refine BigFrame.quiet_assign _ rfl ?_)
                     | (unfold Oper.quiet
                        apply Exists.intro
                        refine ⟨fun w' hw' => ?_, ?_⟩
                        · (obtain ⟨hc', hf'⟩ := bcell hw'
                           go_simp
                           first
                           | done
                           | exact rfl
                           | (go_at_call 22; (with_reducible refine (HW3.out _ hw').mono ?_); rintro e w'' ⟨rfl, bb⟩; exact ⟨rfl, by first | exact bt hw' bb | simpa using bt hw' bb⟩)))
                     go_big_quiet_on
                     simp only [Act.put, Act.eval, List.setIfInBounds_toArray, List.set_cons_zero, List.set_cons_succ, Array.getD_eq_getD_getElem?, List.getElem?_toArray, List.getElem?_cons_zero, List.getElem?_cons_succ, Option.getD_some]))
                refine wpQuiet_nil ?_
                intro w' hw'
                have HBG := Lib.hid (HB2.out.below hw')
                have HV := Lib.hid (HV2.out.below hw')
                have HW := Lib.hid (HW2.out.trans (hw'.mono HW2.out.size))
                clear HW3 hw' ho2
                obtain ⟨j, hjl, hjn0, hvp0, hF1, hF2, hOT⟩ := HON.out.took ht hA
                have HTK0 := take15_any HBG.out (t : Int) (A : Int) HTW.out
                have HTK := Lib.hid HTK0
                have HF := Lib.hid (And.intro hF1 hF2)
                have HJ := Lib.hid hjn0
                have HJL := Lib.hid hjl
                have HVP := Lib.hid hvp0
                have HOT := Lib.hid hOT
                have HA := Lib.hid hA
                have HLP : Hid (0 < (r t).length) := Lib.hid (by omega)
                have HV4 := HV
                have HB4 := HW
                have H4 := HBG
                clear hvp0 hjn0 hF1 hF2 hOT HTK0 hA
                go_upto_region 26 with (go_at_call 16; refine HTK.out.mono ?_; rintro e w5 ⟨rfl, h5, k5⟩; unfold lv; rw [HF.out.2, HF.out.1])
                have hbx := bal (Below.refl _ w5) (.cells #[.int .i64 (mkL j).fr, .int .i64 (mkL j).to, .string (mkL j).tx] 39)
                have hx := LBox.new w5 (mkL j)
                have hv5 := HV4.out.kp (k5.block g (.inr rfl)) k5.size
                have h5' := h5.below hbx
                obtain ⟨W5, hW5⟩ : ∃ W, W = w5.alloc (.cells #[.int .i64 (mkL j).fr, .int .i64 (mkL j).to, .string (mkL j).tx] 39) := ⟨_, rfl⟩
                rw [← hW5] at hbx hx h5' ⊢
                have hv6 := hv5.below hbx
                have HB6 := Lib.hid ((HB4.out.trans (k5.below fun _ h => .inl h)).trans (hbx.mono (by have := HB4.out.size; have := k5.size; omega)))
                have H6 := Lib.hid h5'
                obtain ⟨yb, hyb⟩ : ∃ yb, yb = w5.heap.size := ⟨_, rfl⟩
                rw [← hyb] at hx ⊢
                obtain ⟨TX, hTX⟩ : ∃ TX, TX = (mkL j).tx := ⟨_, rfl⟩
                have x1 := hx.c1
                have x2 := hx.c2
                have xl := hx.lt
                rw [show (mkL j).to = (t : Int) by rw [mk_to, HJ.out.2]] at x1
                rw [← hTX] at x2
                have hj30 : j < 30 := by have := HJ.out.1; have := HN.out; omega
                obtain ⟨bj, hbj⟩ : ∃ bj, bj = UInt8.ofNat (97 + j) := ⟨_, rfl⟩
                have hTX2 : TX = ⟨#[bj]⟩ := by rw [hTX, hbj]; rfl
                have hts : TX.size = 1 := by rw [hTX2]; rfl
                have ht0 : ∀ h, TX[0]'h = bj := fun h => by subst hTX2; rfl
                have hbn : (bj.toNat : Int) = 97 + (j : Int) := by rw [hbj, UInt8.toNat_ofNat']; omega
                have hbw : IntKind.i64.wrap (bj.toNat : Int) = 97 + (j : Int) := by rw [IntWalk.i64_in _ (by omega), hbn]
                have hbs : (97 : Int) + (j : Int) - 97 = (j : Int) := by omega
                have hbs2 : IntKind.i64.wrap ((97 : Int) + (j : Int) - 97) = (j : Int) := by rw [IntWalk.i64_in _ (by omega), hbs]
                clear hTX hTX2 hbj hW5 hyb h5 h5' k5 hv5 hbx hx
                obtain ⟨vj, hvj⟩ : ∃ vj, vj = V[j]'HJL.out := ⟨_, rfl⟩
                have cj := (hv6.2 j HJL.out).1
                have fj := (hv6.2 j HJL.out).2
                have gl := hv6.1
                rw [← hvj] at cj
                have hvp : 0 < vj := by rw [hvj]; exact HVP.out
                have hvm : vj ≤ 60 := by
                  rw [hvj, HON.out.ws j HJL.out]
                  have := List.count_le_length (a := j) (l := r (j % 3))
                  rw [HJ.out.2] at this ⊢
                  have := HL.out
                  omega
                have hvz : (vj == 0) = false := beq_eq_false_iff_ne.2 (by omega)
                have hvw : IntKind.i64.wrap (vj - 1) = vj - 1 := IntWalk.i64_in _ (by omega)
                have HV6 := Lib.hid (hv6.set j HJL.out (vj - 1))
                have HB7 := Lib.hid (HB6.out.setCell (p := ⟨g, j, none⟩) HGL.out (.int .i64 (vj - 1)))
                have H7 := Lib.hid (H6.out.setCell (x := g) (.inr rfl) j (.int .i64 (vj - 1)))
                have hO7 := HOT.out
                rw [← hvj] at hO7
                have HO7 := Lib.hid hO7
                clear hO7
                have hjn : (j : Int) < (n : Int) := by have := HJ.out.1; omega
                have hj3 : (j : Int) % 3 = (t : Int) := by have := HJ.out.2; omega
                have hj3b : j % 3 = t := HJ.out.2
                have hk100 : (k : Int) ≤ 100 := by have := HL.out; omega
                clear hv6 hvj
                go_wp2_with fail
                go_roundw
                case rel =>
                  refine ⟨k + 1, by go_num, Lib.hid ⟨_, _, _, HO7.out, H7.out, HV6.out, ?_, ?_⟩, HB7⟩
                  · intro s hs
                    unfold updN
                    rw [if_neg (by omega)]
                    exact HE0.out s hs
                  · unfold updN
                    rw [if_pos rfl, List.length_eraseIdx, if_pos HA.out]
                    have := HL.out
                    have := HLP.out
                    omega
                case measure =>
                  have := HL.out
                  have := HLP.out
                  simp [intOf]
                  omega
              · obtain rfl : on = 0 := by omega
                have hA : 0 < (r t).length := by rw [← HLL.out]; omega
                obtain ⟨A, hAe⟩ : ∃ A : Nat, A = 0 := ⟨_, rfl⟩
                rw [← hAe] at hA
                have hAz : ((A : Nat) : Int) = 0 := by omega
                have HBG := HB2
                have HV := HV2
                have HW := HW2
                obtain ⟨j, hjl, hjn0, hvp0, hF1, hF2, hOT⟩ := HON.out.took ht hA
                have HTK0 := take15_any HBG.out (t : Int) (A : Int) HTW.out
                rw [hAz] at HTK0 hF1 hF2 hOT
                have HTK := Lib.hid HTK0
                have HF := Lib.hid (And.intro hF1 hF2)
                have HJ := Lib.hid hjn0
                have HJL := Lib.hid hjl
                have HVP := Lib.hid hvp0
                have HOT := Lib.hid hOT
                have HA := Lib.hid hA
                have HLP : Hid (0 < (r t).length) := Lib.hid (by omega)
                have HV4 := HV
                have HB4 := HW
                have H4 := HBG
                clear hvp0 hjn0 hF1 hF2 hOT HTK0 hA
                clear hAz hAe
                go_upto_region 25 with fail
                go_upto_region 26 with (go_at_call 16; refine HTK.out.mono ?_; rintro e w5 ⟨rfl, h5, k5⟩; unfold lv; rw [HF.out.2, HF.out.1])
                have hbx := bal (Below.refl _ w5) (.cells #[.int .i64 (mkL j).fr, .int .i64 (mkL j).to, .string (mkL j).tx] 39)
                have hx := LBox.new w5 (mkL j)
                have hv5 := HV4.out.kp (k5.block g (.inr rfl)) k5.size
                have h5' := h5.below hbx
                obtain ⟨W5, hW5⟩ : ∃ W, W = w5.alloc (.cells #[.int .i64 (mkL j).fr, .int .i64 (mkL j).to, .string (mkL j).tx] 39) := ⟨_, rfl⟩
                rw [← hW5] at hbx hx h5' ⊢
                have hv6 := hv5.below hbx
                have HB6 := Lib.hid ((HB4.out.trans (k5.below fun _ h => .inl h)).trans (hbx.mono (by have := HB4.out.size; have := k5.size; omega)))
                have H6 := Lib.hid h5'
                obtain ⟨yb, hyb⟩ : ∃ yb, yb = w5.heap.size := ⟨_, rfl⟩
                rw [← hyb] at hx ⊢
                obtain ⟨TX, hTX⟩ : ∃ TX, TX = (mkL j).tx := ⟨_, rfl⟩
                have x1 := hx.c1
                have x2 := hx.c2
                have xl := hx.lt
                rw [show (mkL j).to = (t : Int) by rw [mk_to, HJ.out.2]] at x1
                rw [← hTX] at x2
                have hj30 : j < 30 := by have := HJ.out.1; have := HN.out; omega
                obtain ⟨bj, hbj⟩ : ∃ bj, bj = UInt8.ofNat (97 + j) := ⟨_, rfl⟩
                have hTX2 : TX = ⟨#[bj]⟩ := by rw [hTX, hbj]; rfl
                have hts : TX.size = 1 := by rw [hTX2]; rfl
                have ht0 : ∀ h, TX[0]'h = bj := fun h => by subst hTX2; rfl
                have hbn : (bj.toNat : Int) = 97 + (j : Int) := by rw [hbj, UInt8.toNat_ofNat']; omega
                have hbw : IntKind.i64.wrap (bj.toNat : Int) = 97 + (j : Int) := by rw [IntWalk.i64_in _ (by omega), hbn]
                have hbs : (97 : Int) + (j : Int) - 97 = (j : Int) := by omega
                have hbs2 : IntKind.i64.wrap ((97 : Int) + (j : Int) - 97) = (j : Int) := by rw [IntWalk.i64_in _ (by omega), hbs]
                clear hTX hTX2 hbj hW5 hyb h5 h5' k5 hv5 hbx hx
                obtain ⟨vj, hvj⟩ : ∃ vj, vj = V[j]'HJL.out := ⟨_, rfl⟩
                have cj := (hv6.2 j HJL.out).1
                have fj := (hv6.2 j HJL.out).2
                have gl := hv6.1
                rw [← hvj] at cj
                have hvp : 0 < vj := by rw [hvj]; exact HVP.out
                have hvm : vj ≤ 60 := by
                  rw [hvj, HON.out.ws j HJL.out]
                  have := List.count_le_length (a := j) (l := r (j % 3))
                  rw [HJ.out.2] at this ⊢
                  have := HL.out
                  omega
                have hvz : (vj == 0) = false := beq_eq_false_iff_ne.2 (by omega)
                have hvw : IntKind.i64.wrap (vj - 1) = vj - 1 := IntWalk.i64_in _ (by omega)
                have HV6 := Lib.hid (hv6.set j HJL.out (vj - 1))
                have HB7 := Lib.hid (HB6.out.setCell (p := ⟨g, j, none⟩) HGL.out (.int .i64 (vj - 1)))
                have H7 := Lib.hid (H6.out.setCell (x := g) (.inr rfl) j (.int .i64 (vj - 1)))
                have hO7 := HOT.out
                rw [← hvj] at hO7
                have HO7 := Lib.hid hO7
                clear hO7
                have hjn : (j : Int) < (n : Int) := by have := HJ.out.1; omega
                have hj3 : (j : Int) % 3 = (t : Int) := by have := HJ.out.2; omega
                have hj3b : j % 3 = t := HJ.out.2
                have hk100 : (k : Int) ≤ 100 := by have := HL.out; omega
                clear hv6 hvj
                go_wp2_with fail
                go_roundw
                case rel =>
                  refine ⟨k + 1, by go_num, Lib.hid ⟨_, _, _, HO7.out, H7.out, HV6.out, ?_, ?_⟩, HB7⟩
                  · intro s hs
                    unfold updN
                    rw [if_neg (by omega)]
                    exact HE0.out s hs
                  · unfold updN
                    rw [if_pos rfl, List.length_eraseIdx, if_pos HA.out]
                    have := HL.out
                    have := HLP.out
                    omega
                case measure =>
                  have := HL.out
                  have := HLP.out
                  simp [intOf]
                  omega
        · obtain rfl : t = 3 := by omega
          obtain ⟨r2, q2, V2, hO, hB, hV, hE⟩ := HD.out
          have HZ := Lib.hid (hO.done fun s hs => hE s hs)
          have HVL := Lib.hid hO.wl
          have HV2 := Lib.hid hV
          clear hO hB hV hE HD
          go_upto_region 33 with fail
          go_loopw [18] (fun x wz => ∃ i : Nat, x = .int .i64 i ∧ i ≤ n ∧ Hid (Below wr.heap.size wr wz)) (fun x _ => n - (intOf x).toNat)
          case atStart => exact ⟨0, rfl, by omega, Lib.hid (Below.refl _ _)⟩
          case round =>
            rename World => wo
            obtain ⟨i, rfl, hi, HZB⟩ := hrel
            by_cases hlt2 : i < n
            · have hn30 : n < 30 := HN.out
              have hki : (i : Int) < (n : Int) := by omega
              have hil : i < V2.length := by rw [HVL.out]; exact hlt2
              have ci := ((HV2.out.below HZB.out).2 i hil).1
              have gl := (HV2.out.below HZB.out).1
              rw [HZ.out i hil] at ci
              clear hil
              go_wp2_with fail
              go_roundw
              case rel => exact ⟨i + 1, by go_num, by omega, HZB⟩
              case measure => simp [intOf]; omega
            · obtain rfl : i = n := by omega
              go_wp2_with fail
              refine (awake15_any _).mono ?_
              rintro e w8 ⟨rfl, b8⟩
              have B8 := Lib.hid (HW.out.trans ((HZB.out.trans (b8.mono HZB.out.size)).mono HW.out.size))
              clear b8
              go_wp2_with fail
              go_ret
              exact ⟨rfl, B8.out⟩
end Go.Proofs.Ytkljokmhfoannaa
