/-
  Texts of mine as one, in the order in which they build: Lg, Lr, Ll, Lo. Conditions: as each says.
-/
import Derived.Test.YtkfmjkcomjmedaaGreatLe
import Derived.Test.YtkfmjkcomjmedaaGreatDr
namespace Go.Proofs.YtkfmjkcomjmedaaGreat
open Go.RowKit Go.Lib
set_option linter.unusedVariables false
set_option linter.unusedSimpArgs false

theorem lname_size (n : Nat) : (⟨(lname n).toArray⟩ : ByteArray).size ≤ maxLen := by
  rw [size_mkl (lname n), lname_length]; decide
set_option maxRecDepth 100000 in
set_option maxHeartbeats 1000000 in
theorem ltell_skip {B : Nat} {w : World} {d fr : Nat} {pv : Value} {G : List Gp} (h : LdS B w d fr pv G) (n : Nat) (hn : n ≤ 99999998) (hlt : (n : Int) < (fr : Int)) :
    Calls Tryz.prog 60 #[.int .i64 (n : Int), .pointer (some ⟨B + 1, 0, none⟩), .pointer (some ⟨B, 0, none⟩), .pointer (some ⟨B + 2, 0, none⟩)] w fun e w' => e = .returned (.int .i64 0) ∧ w = w' := by
  have c1 := h.c1
  clear h
  go_enter Tryz.func60, Tryz.ntmps60
  go_wp2
  go_ret
  exact ⟨rfl, rfl⟩
set_option maxRecDepth 100000 in
set_option maxHeartbeats 1000000 in
theorem ltell_off {own : Nat → Prop} {B : Nat} {w : World} {d fr : Nat} {S : Ds} {pv : Value} {G : List Gp} (hd : DiskAt own w d S) (h : LdS B w d fr pv G) (n : Nat) (hn : n ≤ 99999998) (hlt : (fr : Int) ≤ (n : Int)) (hoff : S.off = true) :
    Calls Tryz.prog 60 #[.int .i64 (n : Int), .pointer (some ⟨B + 1, 0, none⟩), .pointer (some ⟨B, 0, none⟩), .pointer (some ⟨B + 2, 0, none⟩)] w fun e w' => e = .returned (.int .i64 50) ∧ Below w.heap.size w w' := by
  have c0 := h.c0
  have c1 := h.c1
  have hs := h.size
  have hB : B < w.heap.size := by omega
  have hE : S.lookE (lname n) = 50 := by unfold Ds.lookE askE; rw [if_pos (lname_ok n), if_pos hoff]; rfl
  have hF := Lib.hid (file_any n (by omega))
  have hR : ∀ w', Below w.heap.size w w' → Calls Tryz.prog 29 #[.pointer (some ⟨d, 0, none⟩), .string ⟨(lname n).toArray⟩] w' fun e w'' => e = .returned (.tuple #[.string ⟨(S.bytesOf (lname n)).toArray⟩, .int .i64 50]) ∧ Below w'.heap.size w' w'' := fun w' hb => by
    have := read_any (hd.below hb) ⟨(lname n).toArray⟩ (lname_size n)
    rw [show (⟨(lname n).toArray⟩ : ByteArray).data.toList = lname n from rfl, hE] at this
    exact this
  have HR := Lib.hid hR
  clear h hd hE hR hs
  go_enter Tryz.func60, Tryz.ntmps60
  go_wp2_with fail
  refine wp_region_below (by kernel_rfl) (by kernel_rfl) ?_
  repeat (first
    | go_big_quiet_skip
    | (go_big_quiet_want
       first
       | (refine BigFrame.quiet_move _ rfl ?_)
       | (refine BigFrame.quiet_assign _ rfl ?_)
       | (unfold Oper.quiet
          apply Exists.intro
          refine ⟨fun w' hw' => ?_, ?_⟩
          · (obtain ⟨hc', hf'⟩ := bcell hw'
             go_simp
             first
             | done
             | exact rfl
             | (go_at_call 46; refine (hF.out _).mono ?_; rintro e w'' ⟨rfl, bb⟩; exact ⟨rfl, bt hw' bb⟩)
             | (go_at_call 29; refine (HR.out _ hw').mono ?_; rintro e w'' ⟨rfl, bb⟩; exact ⟨rfl, bt hw' bb⟩)))
       go_big_quiet_on
       simp only [Act.put, Act.eval, List.setIfInBounds_toArray, List.set_cons_zero, List.set_cons_succ, Array.getD_eq_getD_getElem?, List.getElem?_toArray, List.getElem?_cons_zero, List.getElem?_cons_succ, Option.getD_some]))
  refine wpQuiet_nil ?_
  intro w' hw'
  go_wp2
  go_ret
  exact ⟨rfl, hw'⟩
set_option maxRecDepth 100000 in
set_option maxHeartbeats 2000000 in
theorem ltell_yes {own : Nat → Prop} {B : Nat} {w : World} {d fr : Nat} {S : Ds} {pv : Value} {G : List Gp} (hd : DiskAt own w d S) (h : LdS B w d fr pv G) (n : Nat) (hn : n ≤ 99999998) (hlt : (fr : Int) ≤ (n : Int)) (hoff : S.off = false) (f : Fl) (hg : getL (lname n) S.files = some f) (hl : f.bytes.length ≤ 4194304) (hG : G.length ≤ 256) :
    Calls Tryz.prog 60 #[.int .i64 (n : Int), .pointer (some ⟨B + 1, 0, none⟩), .pointer (some ⟨B, 0, none⟩), .pointer (some ⟨B + 2, 0, none⟩)] w fun e w' => e = .returned (.int .i64 0) ∧ ∃ pv' tv, LdS B w' d fr pv' (G ++ [⟨n, (fa f.bytes).1, tv⟩]) ∧ Keeps (Lone B w pv) w w' := by
  have c0 := h.c0
  have c1 := h.c1
  have hs := h.size
  have hB : B < w.heap.size := by omega
  have hE : S.lookE (lname n) = 0 := by
    have h0 : askE (namL (lname n)) S.off = 0 := by unfold askE; rw [if_pos (lname_ok n), hoff]; rfl
    unfold Ds.lookE; rw [if_pos h0, hg]; rfl
  have hbs : S.bytesOf (lname n) = f.bytes := by unfold Ds.bytesOf; rw [if_pos hE, hg]
  have hF := Lib.hid (file_any n (by omega))
  have hR : ∀ w', Below w.heap.size w w' → Calls Tryz.prog 29 #[.pointer (some ⟨d, 0, none⟩), .string ⟨(lname n).toArray⟩] w' fun e w'' => e = .returned (.tuple #[.string ⟨f.bytes.toArray⟩, .int .i64 0]) ∧ Below w'.heap.size w' w'' := fun w' hb => by
    have := read_any (hd.below hb) ⟨(lname n).toArray⟩ (lname_size n)
    rw [show (⟨(lname n).toArray⟩ : ByteArray).data.toList = lname n from rfl, hE, hbs] at this
    exact this
  have HR := Lib.hid hR
  obtain ⟨ts, hts⟩ : ∃ ts, ts = (fa f.bytes).1 := ⟨_, rfl⟩
  have hfal := fa_len _ f.bytes (Nat.le_refl _)
  have ha : ∀ w, Calls Tryz.prog 61 #[.string ⟨f.bytes.toArray⟩] w (FO f.bytes w) := fun w => all_own ⟨f.bytes.toArray⟩ w (by rw [size_mkl f.bytes]; omega)
  unfold FO at ha
  rw [← hts] at ha hfal ⊢
  have HA := Lib.hid ha
  clear ha hts
  have HL := Lib.hid h
  obtain ⟨i0, hi, hz0, hz1, hz2⟩ := info_parts infoPart
  have hfal := Lib.hid hfal
  clear h hd hE hR hg hbs hl
  go_enter Tryz.func60, Tryz.ntmps60
  go_wp2_with fail
  refine wp_region_below (by kernel_rfl) (by kernel_rfl) ?_
  repeat (first
    | go_big_quiet_skip
    | (go_big_quiet_want
       first
       | (refine BigFrame.quiet_move _ rfl ?_)
       | (refine BigFrame.quiet_assign _ rfl ?_)
       | (unfold Oper.quiet
          apply Exists.intro
          refine ⟨fun w' hw' => ?_, ?_⟩
          · (obtain ⟨hc', hf'⟩ := bcell hw'
             go_simp
             first
             | done
             | exact rfl
             | (go_at_call 46; refine (hF.out _).mono ?_; rintro e w'' ⟨rfl, bb⟩; exact ⟨rfl, bt hw' bb⟩)
             | (go_at_call 29; refine (HR.out _ hw').mono ?_; rintro e w'' ⟨rfl, bb⟩; exact ⟨rfl, bt hw' bb⟩)))
       go_big_quiet_on
       simp only [Act.put, Act.eval, List.setIfInBounds_toArray, List.set_cons_zero, List.set_cons_succ, Array.getD_eq_getD_getElem?, List.getElem?_toArray, List.getElem?_cons_zero, List.getElem?_cons_succ, Option.getD_some]))
  refine wpQuiet_nil ?_
  intro w' hw'
  have HW := Lib.hid hw'
  have hw1s := hw'.size
  clear hw'
  go_wp2_with fail
  refine (HA.out w').mono ?_
  rintro e w2 ⟨a, cap, rfl, hown, hb⟩
  have hb2 := bt HW.out hb
  have hL2 := HL.out.old hb2
  have c2 := hL2.c2
  have f2 := hL2.f2
  have hp := hL2.pa.row
  obtain ⟨pa, pc, rfl⟩ := row_slice hp
  have HO := Lib.hid hown
  have HB2 := Lib.hid hb2
  have hs2 := hL2.size
  have HP := Lib.hid hp
  clear hown hb hL2 hb2 HA
  go_wp2_with (at_builtin; refine wpList_append_own _ rfl _ _ 73 rfl (B + 3) 78 i0 (.agg #[.int .i64 0, .slice none 0 0]) 2 32 Tryz.underlying73 hi hz0 hz1 hz2 rfl (by decide) _ _ _ rfl (HP.out.alloc _) ⟨w2.heap.size, 0, none⟩ 1 1 [.int .i64 (n : Int), .slice a ts.length cap] rfl rfl ?c1 ?c2 ?c3 ?c4 ?c5 ?_)
  case c1 => exact cell_pair _ _ _ _
  case c2 => exact pair_one _ _ _ _
  case c3 => unfold maxLen; omega
  case c4 => omega
  case c5 => simp; omega
  · intro pv' w3 hown3 hgrow _
    have hal : Below w2.heap.size w2 (w2.alloc (.cells #[.int .i64 (n : Int), .slice a ts.length cap] 78)) := (Below.refl _ _).alloc (Nat.le_refl _) _
    have hst := HL.out.stored (g := ⟨n, ts, .slice a ts.length cap⟩) (bt HB2.out hal) hown3 hgrow (own_low (below_own HO.out hal) hw1s)
    have hc3 : w3.cell? ⟨B + 2, 0, none⟩ = some (.slice pa G.length pc) := by
      have e1 : w3.heap[B + 2]? = (w2.alloc (.cells #[.int .i64 (n : Int), .slice a ts.length cap] 78)).heap[B + 2]? := hgrow.block _ (by simp; omega) (fun e => by have := (HP.out.lt _ e.symm).1; omega)
      exact (World.cell?_of_block e1).trans ((hal.cell (p := ⟨B + 2, 0, none⟩) (by show B + 2 < _; omega)).trans c2)
    have hf3 : w3.frozen? ⟨B + 2, 0, none⟩ = false := by
      have e1 : w3.heap[B + 2]? = (w2.alloc (.cells #[.int .i64 (n : Int), .slice a ts.length cap] 78)).heap[B + 2]? := hgrow.block _ (by simp; omega) (fun e => by have := (HP.out.lt _ e.symm).1; omega)
      exact (World.frozen?_of_block e1).trans ((hal.frozen (p := ⟨B + 2, 0, none⟩) (by show B + 2 < _; omega)).trans f2)
    have hs3 : B + 2 < w3.heap.size := by have := hgrow.size; simp at this; omega
    obtain ⟨a3, cap3, rfl⟩ := row_slice hown3
    have HS := Lib.hid hst
    clear hst hown3 hgrow hal c2 f2
    go_wp2
    go_ret
    exact ⟨rfl, _, _, HS.out.1, HS.out.2⟩

/-! ### each, with load's closure -/
theorem bt' {B : Nat} {W w w1 : World} (e : B = W.heap.size) (h : Below W.heap.size W w) (k : Below w.heap.size w w1) : Below B W w1 := by rw [e]; exact bt h k
theorem load_none (fr : Nat) (F : List (List UInt8 × Fl)) (q : Nat) (h : q < F.length) (hp : partOf fr F[q] = none) : loadL fr (F.take (q + 1)) = loadL fr (F.take q) := by
  unfold loadL
  rw [List.take_succ_eq_append_getElem h, List.filterMap_append, List.filterMap_cons_none hp]
  simp
theorem load_some (fr : Nat) (F : List (List UInt8 × Fl)) (q : Nat) (h : q < F.length) {p : Nat × List (List UInt8)} (hp : partOf fr F[q] = some p) : loadL fr (F.take (q + 1)) = loadL fr (F.take q) ++ [p] := by
  unfold loadL
  rw [List.take_succ_eq_append_getElem h, List.filterMap_append, List.filterMap_cons_some hp]
  simp
/-- What each leaves, with load's closure. -/
def LeE (W : World) (d fr : Nat) (S : Ds) (e : Ending) (w' : World) : Prop := ∃ pv' G, LdS W.heap.size w' d fr pv' G ∧ Below W.heap.size W w' ∧
  ((e = .returned (.int .i64 0) ∧ G.map Gp.lt = loadL fr S.files ∧ (S.off = true → loadL fr S.files = [])) ∨ (e = .returned (.int .i64 50) ∧ S.off = true))
set_option maxRecDepth 100000 in
set_option maxHeartbeats 2000000 in
theorem leach_any {own : Nat → Prop} {W w : World} {d fr : Nat} {S : Ds} {pv : Value} (hd : DiskAt own W d S) (hb : Below W.heap.size W w) (h : LdS W.heap.size w d fr pv []) :
    Calls Tryz.prog 59 #[.pointer (some ⟨d, 0, none⟩), .func (.func 60) #[] #[.pointer (some ⟨W.heap.size + 1, 0, none⟩), .pointer (some ⟨W.heap.size, 0, none⟩), .pointer (some ⟨W.heap.size + 2, 0, none⟩)]] w (LeE W d fr S) := by
  obtain ⟨f1, f2, f3⟩ := hd.facts
  have hN := names_any (hd.below hb)
  obtain ⟨F, hF⟩ : ∃ F, F = S.files := ⟨_, rfl⟩
  rw [← hF] at hN f1 f2 f3
  have hBs := h.size
  obtain ⟨B, hB⟩ : ∃ B, B = W.heap.size := ⟨_, rfl⟩
  rw [← hB] at hBs
  have HF := Lib.hid hF
  have HD := Lib.hid hd
  have H := Lib.hid h
  have HB := Lib.hid hb
  have F1 := Lib.hid f1
  have F3 := Lib.hid f3
  have HBe := Lib.hid hB
  clear hd h hb f1 f3 hF
  rw [← hB] at H
  rw [← hB]
  clear hB
  go_enter Tryz.func59, Tryz.ntmps59
  go_wp2_with fail
  refine hN.mono ?_
  rintro e w1 ⟨v, rfl, hn, hb1⟩
  clear hN
  unfold NamesV at hn
  obtain ⟨na, ncap, rfl⟩ := own_slice hn
  have hlen : (F.map (·.1)).length = F.length := by simp
  rw [hlen] at hn
  have HN := Lib.hid (own_low hn hBs)
  have H1 := Lib.hid (H.out.old hb1)
  have HB1 := Lib.hid (bt' HBe.out HB.out hb1)
  clear hn H HB hb1
  rw [hlen]
  go_wp2
  go_loopw [13] (fun i wr => ∃ (q : Nat) (pv' : Value) (G : List Gp), i = .int .i64 q ∧ q ≤ F.length ∧ Hid (LdS B wr d fr pv' G) ∧ Below B W wr ∧ Hid (wr.ownsRow (B + 3) 9 1 (.slice na F.length ncap) F.length (sv (F.map (·.1)))) ∧ Hid (G.map Gp.lt = loadL fr (F.take q)) ∧ Hid (S.off = true → loadL fr (F.take q) = [])) (fun i _ => F.length - (intOf i).toNat)
  case atStart => exact ⟨0, _, [], rfl, Nat.zero_le _, H1, HB1.out, HN, Lib.hid rfl, Lib.hid fun _ => rfl⟩
  case round =>
    obtain ⟨q, pv', G, rfl, hq, hl, hbw, hn, hG, hO⟩ := hrel
    clear HN H1 HB1
    by_cases hlt : q < F.length
    · have hlti : (q : Int) < (F.length : Int) := by omega
      have hrd : Rd wr na (F.map (·.1)) := by
        have h := hn.out
        rw [← hlen] at h
        exact own_rd h
      obtain ⟨b, off, rfl, hbl, hcell⟩ : ∃ b off, na = some ⟨b, off, none⟩ ∧ b < wr.heap.size ∧ wr.cell? ⟨b, off + q, none⟩ = some (.string ⟨F[q].1.toArray⟩) := by
        rcases hrd with h | ⟨b, off, h1, h2, h3⟩
        · have : (F.map (·.1)).length = 0 := by rw [h]; rfl
          rw [hlen] at this; omega
        · refine ⟨b, off, h1, h2, ?_⟩
          rw [h3 q (by simpa using hlt)]
          simp
      clear hrd
      have hmem : F[q] ∈ F := List.getElem_mem hlt
      have hsz := (F3.out _ hmem).1
      have C := numbered_any ⟨F[q].1.toArray⟩ (by rw [size_mkl F[q].1]; exact hsz) wr
      unfold NumE at C
      rw [show (⟨F[q].1.toArray⟩ : ByteArray).data.toList = F[q].1 from rfl] at C
      have hcl : G.length ≤ 256 := by
        have h1 := congrArg List.length hG.out
        rw [List.length_map] at h1
        have h2 := List.length_filterMap_le (partOf fr) (F.take q)
        unfold loadL at h1
        rw [List.length_take] at h2
        omega
      cases hnum : numb F[q].1 with
      | none =>
        have hp : partOf fr F[q] = none := by unfold partOf; rw [hnum]
        have HP := Lib.hid (load_none fr F q hlt hp)
        rw [hnum] at C
        have HC := Lib.hid C
        clear C hp hnum hsz hmem
        generalize F[q].1 = nm at hcell HC
        go_wp2_with fail
        refine HC.out.mono ?_
        rintro e w2 ⟨⟨x, rfl, -⟩, rfl⟩
        clear HC hcell
        rw [show ((none : Option Nat)).isSome = false from rfl]
        go_wp2
        go_roundw
        case rel => exact ⟨q + 1, pv', G, by go_num, by omega, hl, hbw, hn, Lib.hid (by rw [HP.out]; exact hG.out), Lib.hid fun ho => by rw [HP.out]; exact hO.out ho⟩
        case measure => simp [intOf]; omega
      | some m =>
        have hm := numb_le hnum
        have hnm := numb_name hnum
        rw [hnum] at C
        have HC := Lib.hid C
        clear C hsz
        by_cases hfr : m < fr
        · have hp : partOf fr F[q] = none := by unfold partOf; rw [hnum]; simp only; rw [if_neg (by omega)]
          have HP := Lib.hid (load_none fr F q hlt hp)
          have T := Lib.hid (ltell_skip hl.out m hm (by omega))
          clear hp hnum hnm hmem
          generalize F[q].1 = nm at hcell HC
          go_wp2_with fail
          refine HC.out.mono ?_
          rintro e w2 ⟨⟨x, rfl, hx⟩, rfl⟩
          obtain rfl : x = (m : Int) := hx m rfl
          clear HC hcell hx
          rw [show (some m).isSome = true from rfl]
          go_wp2_with (go_at_call 60; refine T.out.mono ?_; rintro e w3 ⟨rfl, rfl⟩)
          go_roundw
          case rel => exact ⟨q + 1, pv', G, by go_num, by omega, hl, hbw, hn, Lib.hid (by rw [HP.out]; exact hG.out), Lib.hid fun ho => by rw [HP.out]; exact hO.out ho⟩
          case measure => simp [intOf]; omega
        · cases hoff : S.off with
          | true =>
            have T := Lib.hid (ltell_off (HD.out.below (by rw [← HBe.out]; exact hbw)) hl.out m hm (by omega) hoff)
            clear hnum hnm hmem
            generalize F[q].1 = nm at hcell HC
            have HOF := Lib.hid hoff
            clear hoff
            go_wp2_with fail
            refine HC.out.mono ?_
            rintro e w2 ⟨⟨x, rfl, hx⟩, rfl⟩
            obtain rfl : x = (m : Int) := hx m rfl
            clear HC hcell hx
            rw [show (some m).isSome = true from rfl]
            go_wp2_with (go_at_call 60; refine T.out.mono ?_; rintro e w3 ⟨rfl, hb3⟩)
            go_ret
            unfold LeE
            rw [← HBe.out]
            exact ⟨pv', G, hl.out.old hb3, hbw.trans (hb3.mono (by have := hl.out.size; omega)), .inr ⟨rfl, HOF.out⟩⟩
          | false =>
            have hget : getL (lname m) S.files = some F[q].2 := by
              rw [← HF.out, ← hnm]
              exact (getL_iff F1.out).2 hmem
            have T := Lib.hid (ltell_yes (HD.out.below (by rw [← HBe.out]; exact hbw)) hl.out m hm (by omega) hoff _ hget (F3.out _ hmem).2.2 hcl)
            have hp : partOf fr F[q] = some (m, (fa F[q].2.bytes).1) := by unfold partOf; rw [hnum]; simp only; rw [if_pos (by omega)]
            have HP := Lib.hid (load_some fr F q hlt hp)
            have HOF := Lib.hid hoff
            clear hp hnum hnm hmem hget hoff
            generalize F[q].2 = f at T HP
            generalize F[q].1 = nm at hcell HC
            go_wp2_with fail
            refine HC.out.mono ?_
            rintro e w2 ⟨⟨x, rfl, hx⟩, rfl⟩
            obtain rfl : x = (m : Int) := hx m rfl
            clear HC hcell hx
            rw [show (some m).isSome = true from rfl]
            go_wp2_with (go_at_call 60; refine T.out.mono ?_; rintro e w3 ⟨rfl, pv3, tv3, hl3, hk3⟩)
            have HK := Lib.hid hk3
            have HL3 := Lib.hid hl3
            clear hk3 hl3
            go_roundw
            case rel =>
              refine ⟨q + 1, pv3, _, by go_num, by omega, HL3, ?_, Lib.hid (lone_row hl.out HK.out hn.out (Nat.le_refl _)), Lib.hid ?_, Lib.hid fun ho => ?_⟩
              · exact hbw.trans (lone_below hl.out HK.out)
              · rw [HP.out, List.map_append, hG.out]; rfl
              · cases ho
            case measure => simp [intOf]; omega
    · have hqe : q = F.length := by omega
      have HQ := Lib.hid hqe
      have hlti : ¬ (q : Int) < (F.length : Int) := by omega
      clear hqe
      go_wp2
      go_ret
      unfold LeE
      rw [← HBe.out, ← HF.out]
      have h1 := hG.out
      have h2 := hO.out
      rw [HQ.out, List.take_length] at h1 h2
      exact ⟨pv', G, hl.out, hbw, .inl ⟨rfl, h1, h2⟩⟩

/-! ### load -/
theorem lds_start (w : World) (d fr : Nat) (t1 t2 t3 : TypeId) : LdS w.heap.size (((w.alloc (.cells #[.pointer (some ⟨d, 0, none⟩)] t1)).alloc (.cells #[.int .i64 (fr : Int)] t2)).alloc (.cells #[.slice none 0 0] t3)) d fr (.slice none 0 0) [] := by
  have s1 : (w.alloc (.cells #[.pointer (some ⟨d, 0, none⟩)] t1)).heap.size = w.heap.size + 1 := by simp
  have s2 : ((w.alloc (.cells #[.pointer (some ⟨d, 0, none⟩)] t1)).alloc (.cells #[.int .i64 (fr : Int)] t2)).heap.size = w.heap.size + 2 := by simp
  have h0 := heap_alloc_new w (.cells #[.pointer (some ⟨d, 0, none⟩)] t1)
  have h0 := (Below.heap_alloc _ (.cells #[.int .i64 (fr : Int)] t2) _ (by rw [s1]; omega)).trans h0
  have h0 := (Below.heap_alloc _ (.cells #[.slice none 0 0] t3) _ (by rw [s2]; omega)).trans h0
  have h1 := heap_alloc_new (w.alloc (.cells #[.pointer (some ⟨d, 0, none⟩)] t1)) (.cells #[.int .i64 (fr : Int)] t2)
  rw [s1] at h1
  have h1 := (Below.heap_alloc _ (.cells #[.slice none 0 0] t3) _ (by rw [s2]; omega)).trans h1
  have h2 := heap_alloc_new ((w.alloc (.cells #[.pointer (some ⟨d, 0, none⟩)] t1)).alloc (.cells #[.int .i64 (fr : Int)] t2)) (.cells #[.slice none 0 0] t3)
  rw [s2] at h2
  exact ⟨by simp, by rw [cell_of h0 0]; rfl, by rw [cell_of h1 0]; rfl, by rw [cell_of h2 0]; rfl, frozen_of h2 0, ⟨World.ownsRow_nil _ _ _ _, by simp, List.Pairwise.nil⟩⟩
set_option maxRecDepth 100000 in
set_option maxHeartbeats 1000000 in
theorem load_any {own : Nat → Prop} {w : World} {d fr : Nat} {S : Ds} (hd : DiskAt own w d S) :
    Calls Tryz.prog 35 #[.pointer (some ⟨d, 0, none⟩), .int .i64 (fr : Int)] w fun e w' => ∃ pv G, PartsAt w' w.heap.size pv G ∧ Below w.heap.size w w' ∧
      ((e = .returned (.tuple #[pv, .int .i64 0]) ∧ G.map Gp.lt = loadL fr S.files ∧ (S.off = true → loadL fr S.files = [])) ∨ (e = .returned (.tuple #[pv, .int .i64 50]) ∧ S.off = true)) := by
  have hb : Below w.heap.size w (((w.alloc (.cells #[.pointer (some ⟨d, 0, none⟩)] 24)).alloc (.cells #[.int .i64 (fr : Int)] 76)).alloc (.cells #[.slice none 0 0] 73)) := (((Below.refl _ _).alloc (Nat.le_refl _) _).alloc (by simp) _).alloc (by simp; omega) _
  have C := Lib.hid (leach_any hd hb (lds_start w d fr _ _ _))
  clear hd hb
  go_enter Tryz.func35, Tryz.ntmps35
  go_wp2_with fail
  refine C.out.mono ?_
  rintro e w2 ⟨pv, G, hl, hbw, hr⟩
  have c2 := hl.c2
  have HP := Lib.hid (hl.pa.mono (show w.heap.size ≤ w.heap.size + 3 by omega))
  have HB := Lib.hid hbw
  obtain ⟨a, cap, rfl⟩ := row_slice hl.pa.row
  clear C hl hbw
  rcases hr with ⟨rfl, h1, h2⟩ | ⟨rfl, h1⟩
  · have H1 := Lib.hid (And.intro h1 h2)
    clear h1 h2
    go_wp2
    go_ret2
    exact ⟨_, G, HP.out, HB.out, .inl ⟨rfl, H1.out.1, H1.out.2⟩⟩
  · go_wp2
    go_ret2
    exact ⟨_, G, HP.out, HB.out, .inr ⟨rfl, h1⟩⟩
end Go.Proofs.YtkfmjkcomjmedaaGreat
namespace Go.Proofs.YtkfmjkcomjmedaaGreat
open Go.RowKit Go.Lib
set_option linter.unusedVariables false
set_option linter.unusedSimpArgs false

theorem geq_skip (n : Nat) (bl : Int) : (n : Int) < bl ∨ bl ≤ (n : Int) := by omega
set_option maxRecDepth 100000 in
set_option maxHeartbeats 1000000 in
theorem rtell_skip {B : Nat} {w : World} {bl : Int} (c1 : w.cell? ⟨B + 1, 0, none⟩ = some (.int .i64 bl)) (n : Nat) (hlt : bl ≤ (n : Int)) :
    Calls Tryz.prog 63 #[.int .i64 (n : Int), .pointer (some ⟨B + 1, 0, none⟩), .pointer (some ⟨B, 0, none⟩)] w fun e w' => e = .returned (.int .i64 0) ∧ w = w' := by
  go_enter Tryz.func63, Tryz.ntmps63
  go_wp2
  go_ret
  exact ⟨rfl, rfl⟩
set_option maxRecDepth 100000 in
set_option maxHeartbeats 1000000 in
theorem rtell_yes {own : Nat → Prop} {B : Nat} {w : World} {d : Nat} {bl : Int} {S : Ds} (hd : DiskAt own w d S) (hB : B + 1 < w.heap.size) (c0 : w.cell? ⟨B, 0, none⟩ = some (.pointer (some ⟨d, 0, none⟩))) (c1 : w.cell? ⟨B + 1, 0, none⟩ = some (.int .i64 bl)) (n : Nat) (hn : n ≤ 99999998) (hlt : (n : Int) < bl) :
    Calls Tryz.prog 63 #[.int .i64 (n : Int), .pointer (some ⟨B + 1, 0, none⟩), .pointer (some ⟨B, 0, none⟩)] w fun e w' => e = .returned (.int .i64 (S.remove (lname n)).2) ∧ DiskAt own w' d (S.remove (lname n)).1 ∧ Keeps own w w' := by
  have hB0 : B < w.heap.size := by omega
  have hF := Lib.hid (file_any n (by omega))
  have HD := Lib.hid hd
  clear hd
  go_enter Tryz.func63, Tryz.ntmps63
  go_wp2_with fail
  refine below_tail 3 (by kernel_rfl) (by kernel_rfl) ?_
  simp only [List.take_succ_cons, List.take_zero, List.drop_succ_cons, List.drop_zero]
  repeat (first
    | go_big_quiet_skip
    | (go_big_quiet_want
       first
       | (refine BigFrame.quiet_move _ rfl ?_)
       | (refine BigFrame.quiet_assign _ rfl ?_)
       | (unfold Oper.quiet
          apply Exists.intro
          refine ⟨fun w' hw' => ?_, ?_⟩
          · (obtain ⟨hc', hf'⟩ := bcell hw'
             go_simp
             first
             | done
             | exact rfl
             | (go_at_call 46; refine (hF.out _).mono ?_; rintro e w'' ⟨rfl, bb⟩; exact ⟨rfl, bt hw' bb⟩)))
       go_big_quiet_on
       simp only [Act.put, Act.eval, List.setIfInBounds_toArray, List.set_cons_zero, List.set_cons_succ, Array.getD_eq_getD_getElem?, List.getElem?_toArray, List.getElem?_cons_zero, List.getElem?_cons_succ, Option.getD_some]))
  refine wpQuiet_nil ?_
  intro w' hw'
  have C := remove_any (HD.out.below hw') ⟨(lname n).toArray⟩ (lname_size n)
  rw [show (⟨(lname n).toArray⟩ : ByteArray).data.toList = lname n from rfl] at C
  have HC := Lib.hid C
  have HK := Lib.hid (Keeps.of_below hw' fun b (hb : own b) => HD.out.own hb)
  clear C hw'
  go_wp2_with fail
  refine HC.out.mono ?_
  rintro e w2 ⟨rfl, hd2, hk⟩
  have HK2 := Lib.hid (HK.out.trans hk)
  have HD2 := Lib.hid hd2
  clear hk hd2
  go_wp2
  go_ret
  exact ⟨rfl, HD2.out, HK2.out⟩

/-! ### each, with remove's closure -/
theorem rmL_cons (bl : Int) (S : Ds) (k : List UInt8) (r : List (List UInt8)) : rmL bl S (k :: r) = match numb k with
    | some n => if (n : Int) < bl then (if (S.remove k).2 = 0 then rmL bl (S.remove k).1 r else S.remove k) else rmL bl S r
    | none => rmL bl S r := by rw [rmL]; rfl
set_option maxRecDepth 100000 in
set_option maxHeartbeats 2000000 in
theorem reach_any {own : Nat → Prop} {W w : World} {d : Nat} {bl : Int} {S : Ds} (hd : DiskAt own W d S) (hb : Below W.heap.size W w) (hBs : W.heap.size + 2 ≤ w.heap.size) (c0 : w.cell? ⟨W.heap.size, 0, none⟩ = some (.pointer (some ⟨d, 0, none⟩))) (c1 : w.cell? ⟨W.heap.size + 1, 0, none⟩ = some (.int .i64 bl)) :
    Calls Tryz.prog 59 #[.pointer (some ⟨d, 0, none⟩), .func (.func 63) #[] #[.pointer (some ⟨W.heap.size + 1, 0, none⟩), .pointer (some ⟨W.heap.size, 0, none⟩)]] w fun e w' => e = .returned (.int .i64 (S.rm bl).2) ∧ DiskAt own w' d (S.rm bl).1 ∧ Keeps own W w' := by
  obtain ⟨f1, f2, f3⟩ := hd.facts
  have hN := names_any (hd.below hb)
  obtain ⟨F, hF⟩ : ∃ F, F = S.files.map (·.1) := ⟨_, rfl⟩
  have f3' : ∀ k ∈ F, k.length ≤ maxLen := fun k hk => by
    rw [hF] at hk
    obtain ⟨p, hp, rfl⟩ := List.mem_map.1 hk
    exact (f3 p hp).1
  have f2' : F.length ≤ 256 := by rw [hF, List.length_map]; exact f2
  have HR : Hid (S.rm bl = rmL bl S F) := Lib.hid (by rw [hF]; rfl)
  rw [← hF] at hN
  obtain ⟨B, hB⟩ : ∃ B, B = W.heap.size := ⟨_, rfl⟩
  have HD := Lib.hid hd
  have HB := Lib.hid hb
  have F3 := Lib.hid f3'
  have HBe := Lib.hid hB
  have C0 := Lib.hid c0
  have C1 := Lib.hid c1
  clear hd hb f1 f2 f3 f3' hF c0 c1
  rw [← hB] at hBs C0 C1 ⊢
  rw [HR.out]
  clear hB
  go_enter Tryz.func59, Tryz.ntmps59
  go_wp2_with fail
  refine hN.mono ?_
  rintro e w1 ⟨v, rfl, hn, hb1⟩
  clear hN
  unfold NamesV at hn
  obtain ⟨na, ncap, rfl⟩ := own_slice hn
  have hb01 := bt HB.out hb1
  have hc0 := (hb1.cell (p := ⟨B, 0, none⟩) (by show B < _; omega)).trans C0.out
  have hc1 := (hb1.cell (p := ⟨B + 1, 0, none⟩) (by show B + 1 < _; omega)).trans C1.out
  obtain ⟨own1, ho1⟩ : ∃ own1 : Nat → Prop, own1 = fun b => own b ∨ (W.heap.size ≤ b ∧ b < w1.heap.size) := ⟨_, rfl⟩
  have hd1 : DiskAt own1 w1 d S := by rw [ho1]; exact HD.out.fresh hb01
  have hk1 : Keeps own W w1 := Keeps.of_below hb01 fun b hb => HD.out.own hb
  have HO : Hid (∀ b, own b → own1 b) := Lib.hid fun b hb => by rw [ho1]; exact .inl hb
  have HO2 : Hid (∀ b, B ≤ b → b < w1.heap.size → own1 b) := Lib.hid fun b h1 h2 => by rw [ho1]; exact .inr ⟨by rw [← HBe.out]; exact h1, h2⟩
  have hB1 : B + 2 ≤ w1.heap.size := Nat.le_trans hBs hb1.size
  have HN := Lib.hid (own_low hn (show B ≤ _ by omega))
  have H1 := Lib.hid hd1
  have K1 := Lib.hid hk1
  have D0 := Lib.hid hc0
  have D1 := Lib.hid hc1
  clear hn HB hb1 hb01 hd1 hk1 hc0 hc1 C0 C1 ho1
  go_wp2
  go_loopw [13] (fun i wr => ∃ (q : Nat) (Sq : Ds), i = .int .i64 q ∧ q ≤ F.length ∧ Hid (DiskAt own1 wr d Sq) ∧ Hid (Keeps own W wr) ∧ Hid (Keeps own1 w1 wr) ∧ Hid (rmL bl S F = rmL bl Sq (F.drop q))) (fun i _ => F.length - (intOf i).toNat)
  case atStart => exact ⟨0, S, rfl, Nat.zero_le _, H1, K1, Lib.hid (Keeps.refl _ _), Lib.hid rfl⟩
  case round =>
    obtain ⟨q, Sq, rfl, hq, hds, hkw, hk1, hrm⟩ := hrel
    clear H1 K1
    have hws := hk1.out.size
    by_cases hlt : q < F.length
    · have hlti : (q : Int) < (F.length : Int) := by omega
      have hrow : wr.ownsRow B 9 1 (.slice na F.length ncap) F.length (sv F) := own_same HN.out fun r hr => hk1.out.block r (HO2.out r (HN.out.lt r hr).1 (HN.out.lt r hr).2)
      obtain ⟨b, off, rfl, hbl, hcell⟩ : ∃ b off, na = some ⟨b, off, none⟩ ∧ b < wr.heap.size ∧ wr.cell? ⟨b, off + q, none⟩ = some (.string ⟨F[q].toArray⟩) := by
        rcases own_rd hrow with h | ⟨b, off, h1, h2, h3⟩
        · rw [h] at hlt; simp at hlt
        · exact ⟨b, off, h1, h2, h3 q hlt⟩
      have hB0 := hk1.out.cell B 0 (HO2.out B (Nat.le_refl _) (by omega))
      have hB1c := hk1.out.cell (B + 1) 0 (HO2.out (B + 1) (by omega) (by omega))
      rw [D0.out] at hB0
      rw [D1.out] at hB1c
      have C0 := Lib.hid hB0
      have C1 := Lib.hid hB1c
      have C := numbered_any ⟨F[q].toArray⟩ (by rw [size_mkl F[q]]; exact F3.out _ (List.getElem_mem hlt)) wr
      unfold NumE at C
      rw [show (⟨F[q].toArray⟩ : ByteArray).data.toList = F[q] from rfl] at C
      have hdr : F.drop q = F[q] :: F.drop (q + 1) := List.drop_eq_getElem_cons hlt
      have hstep := hrm.out
      rw [hdr] at hstep
      rw [rmL_cons] at hstep
      clear hrow hB0 hB1c hdr hrm
      cases hnum : numb F[q] with
      | none =>
        rw [hnum] at C hstep
        have HC := Lib.hid C
        have HS := Lib.hid hstep
        clear C hnum hstep
        generalize F[q] = nm at hcell HC
        go_wp2_with fail
        refine HC.out.mono ?_
        rintro e w2 ⟨⟨x, rfl, -⟩, rfl⟩
        clear HC hcell
        rw [show ((none : Option Nat)).isSome = false from rfl]
        go_wp2
        go_roundw
        case rel => exact ⟨q + 1, Sq, by go_num, by omega, hds, hkw, hk1, HS⟩
        case measure => simp [intOf]; omega
      | some m =>
        have hm := numb_le hnum
        have hnm := numb_name hnum
        rw [hnum] at C hstep
        simp only at hstep
        have HC := Lib.hid C
        clear C
        rcases geq_skip m bl with hfr | hfr
        · rw [if_pos hfr, hnm] at hstep
          have T := rtell_yes hds.out (by omega) C0.out C1.out m hm hfr
          cases hrme : (decide ((Sq.remove (lname m)).2 = 0)) with
          | true =>
            have h0 : (Sq.remove (lname m)).2 = 0 := by simpa using hrme
            rw [if_pos h0] at hstep
            rw [h0] at T
            have HT := Lib.hid T
            have HS := Lib.hid hstep
            clear hnum hnm hstep T h0 hrme
            generalize F[q] = nm at hcell HC
            go_wp2_with fail
            refine HC.out.mono ?_
            rintro e w2 ⟨⟨x, rfl, hx⟩, rfl⟩
            obtain rfl : x = (m : Int) := hx m rfl
            clear HC hcell hx
            rw [show (some m).isSome = true from rfl]
            go_wp2_with (go_at_call 63; refine HT.out.mono ?_; rintro e w3 ⟨rfl, hd3, hk3⟩)
            have HD3 := Lib.hid hd3
            have HK3 := Lib.hid hk3
            clear hd3 hk3
            go_roundw
            case rel => exact ⟨q + 1, _, by go_num, by omega, HD3, Lib.hid (hkw.out.trans (HK3.out.mono HO.out)), Lib.hid (hk1.out.trans HK3.out), HS⟩
            case measure => simp [intOf]; omega
          | false =>
            have h0 : ¬ (Sq.remove (lname m)).2 = 0 := by simpa using hrme
            rw [if_neg h0] at hstep
            have HT := Lib.hid T
            have HS := Lib.hid hstep
            clear hnum hnm hstep T hrme
            generalize hX : (Sq.remove (lname m)).2 = X at HT h0
            have HX := Lib.hid hX
            clear hX
            generalize F[q] = nm at hcell HC
            have hXb : (X == 0) = false := by simpa using h0
            have hXn : (X != 0) = true := by simpa using h0
            go_wp2_with fail
            refine HC.out.mono ?_
            rintro e w2 ⟨⟨x, rfl, hx⟩, rfl⟩
            obtain rfl : x = (m : Int) := hx m rfl
            clear HC hcell hx
            rw [show (some m).isSome = true from rfl]
            go_wp2_with (go_at_call 63; refine HT.out.mono ?_; rintro e w3 ⟨rfl, hd3, hk3⟩)
            have HD3 := Lib.hid hd3
            have HK3 := Lib.hid hk3
            clear hd3 hk3
            go_ret
            rw [HS.out]
            exact ⟨by rw [HX.out]; rfl, HD3.out.weaken HO.out, hkw.out.trans (HK3.out.mono HO.out)⟩
        · rw [if_neg (by omega)] at hstep
          have T := Lib.hid (rtell_skip (B := B) C1.out m hfr)
          have HS := Lib.hid hstep
          clear hnum hnm hstep
          generalize F[q] = nm at hcell HC
          go_wp2_with fail
          refine HC.out.mono ?_
          rintro e w2 ⟨⟨x, rfl, hx⟩, rfl⟩
          obtain rfl : x = (m : Int) := hx m rfl
          clear HC hcell hx
          rw [show (some m).isSome = true from rfl]
          go_wp2_with (go_at_call 63; refine T.out.mono ?_; rintro e w3 ⟨rfl, rfl⟩)
          go_roundw
          case rel => exact ⟨q + 1, Sq, by go_num, by omega, hds, hkw, hk1, HS⟩
          case measure => simp [intOf]; omega
    · have hqe : q = F.length := by omega
      have hr := hrm.out
      rw [hqe, List.drop_length] at hr
      have HR := Lib.hid hr
      have hlti : ¬ (q : Int) < (F.length : Int) := by omega
      clear hqe hr
      go_wp2
      go_ret
      rw [HR.out]
      exact ⟨rfl, hds.out.weaken HO.out, hkw.out⟩
set_option maxRecDepth 100000 in
set_option maxHeartbeats 1000000 in
theorem removes_any {own : Nat → Prop} {w : World} {d : Nat} {bl : Int} {S : Ds} (hd : DiskAt own w d S) :
    Calls Tryz.prog 37 #[.pointer (some ⟨d, 0, none⟩), .int .i64 bl] w fun e w' => e = .returned (.int .i64 (S.rm bl).2) ∧ DiskAt own w' d (S.rm bl).1 ∧ Keeps own w w' := by
  have hb : Below w.heap.size w ((w.alloc (.cells #[.pointer (some ⟨d, 0, none⟩)] 24)).alloc (.cells #[.int .i64 bl] 76)) := ((Below.refl _ _).alloc (Nat.le_refl _) _).alloc (by simp) _
  have C := Lib.hid (reach_any (bl := bl) hd hb (by simp) (by rw [World.cell?_alloc2_first]; rfl) (by rw [World.cell?_alloc2_new]; rfl))
  clear hd hb
  go_enter Tryz.func37, Tryz.ntmps37
  go_wp2_with fail
  refine C.out.mono ?_
  rintro e w2 ⟨rfl, hd2, hk2⟩
  have HD := Lib.hid hd2
  have HK := Lib.hid hk2
  clear C hd2 hk2
  go_wp2
  go_ret
  exact ⟨rfl, HD.out, HK.out⟩
/-! ### mayMake -/
theorem mayE_cases (S : Ds) (n : Nat) : (S.off = true ∧ mayE S n = 50) ∨ (S.off = false ∧ 99999998 < n ∧ mayE S n = 2) ∨ (S.off = false ∧ n ≤ 99999998 ∧ mayE S n = 0) := by
  unfold mayE
  cases S.off
  · by_cases h : 99999998 < n
    · right; left; exact ⟨rfl, h, by rw [if_neg (by decide), if_pos h]⟩
    · right; right; exact ⟨rfl, by omega, by rw [if_neg (by decide), if_neg h]⟩
  · left; exact ⟨rfl, by rw [if_pos rfl]⟩
set_option maxRecDepth 100000 in
set_option maxHeartbeats 1000000 in
theorem mayMake_any {own : Nat → Prop} {w : World} {d n : Nat} {S : Ds} (hd : DiskAt own w d S) (hn : n ≤ 99999999) :
    Calls Tryz.prog 36 #[.pointer (some ⟨d, 0, none⟩), .int .i64 (n : Int)] w fun e w' => e = .returned (.int .i64 (mayE S n)) ∧ Below w.heap.size w w' := by
  have hF := Lib.hid (file_any n hn)
  have HD := Lib.hid hd
  have hS : ∀ w', Below w.heap.size w w' → Calls Tryz.prog 62 #[.pointer (some ⟨d, 0, none⟩), .string ⟨(lname n).toArray⟩] w' fun e w'' => e = .returned (.tuple #[.int .i64 (S.sureOf (lname n) : Nat), .int .i64 (S.lookE (lname n))]) ∧ Below w'.heap.size w' w'' := fun w' hb => by
    have := sure_any (hd.below hb) ⟨(lname n).toArray⟩ (lname_size n)
    rw [show (⟨(lname n).toArray⟩ : ByteArray).data.toList = lname n from rfl] at this
    exact this
  have hE : S.lookE (lname n) = if S.off = true then 50 else fE (getL (lname n) S.files) := by
    unfold Ds.lookE askE
    rw [if_pos (lname_ok n)]
    cases S.off <;> rfl
  have hf : fE (getL (lname n) S.files) = 0 ∨ fE (getL (lname n) S.files) = 3 := by unfold fE; split <;> simp
  have hc := mayE_cases S n
  generalize S.sureOf (lname n) = su at hS
  have walk : ∀ X : Int, S.lookE (lname n) = X → (X = 50 ∨ X = 0 ∨ X = 3) → (X = 50 → mayE S n = 50) → (X ≠ 50 → (99999998 < (n : Int) → mayE S n = 2) ∧ ((n : Int) ≤ 99999998 → mayE S n = 0)) → Calls Tryz.prog 36 #[.pointer (some ⟨d, 0, none⟩), .int .i64 (n : Int)] w fun e w' => e = .returned (.int .i64 (mayE S n)) ∧ Below w.heap.size w w' := by
    intro X hX hX3 h50 hno
    rw [hX] at hS
    have HS := Lib.hid hS
    have H50 := Lib.hid h50
    have HNO := Lib.hid hno
    clear hS hE hd hf hc hX h50 hno
    rcases hX3 with rfl | rfl | rfl
    · go_enter Tryz.func36, Tryz.ntmps36
      go_wp2_with fail
      refine (hF.out _).mono ?_
      rintro e w1 ⟨rfl, hb1⟩
      have HB := Lib.hid hb1
      clear hb1
      go_wp2_with fail
      refine (HS.out _ HB.out).mono ?_
      rintro e w2 ⟨rfl, hb2⟩
      have HB2 := Lib.hid (bt HB.out hb2)
      clear hb2
      go_wp2
      go_ret
      rw [H50.out (by trivial)]
      exact ⟨rfl, HB2.out⟩
    all_goals
      rcases (by omega : 99999998 < (n : Int) ∨ (n : Int) ≤ 99999998) with hl | hl
      all_goals
        go_enter Tryz.func36, Tryz.ntmps36
        go_wp2_with fail
        refine (hF.out _).mono ?_
        rintro e w1 ⟨rfl, hb1⟩
        have HB := Lib.hid hb1
        clear hb1
        go_wp2_with fail
        refine (HS.out _ HB.out).mono ?_
        rintro e w2 ⟨rfl, hb2⟩
        have HB2 := Lib.hid (bt HB.out hb2)
        clear hb2
        go_wp2
        go_ret
        first
        | (rw [(HNO.out (by decide)).1 hl]; exact ⟨rfl, HB2.out⟩)
        | (rw [(HNO.out (by decide)).2 hl]; exact ⟨rfl, HB2.out⟩)
  rcases hc with ⟨h1, h2⟩ | ⟨h1, h3, h2⟩ | ⟨h1, h3, h2⟩
  · rw [h1, if_pos rfl] at hE
    exact walk 50 hE (.inl rfl) (fun _ => h2) (fun h => absurd rfl h)
  · rw [h1, if_neg (by decide)] at hE
    exact walk _ hE (by omega) (fun h => by omega) (fun _ => ⟨fun _ => h2, fun h => by omega⟩)
  · rw [h1, if_neg (by decide)] at hE
    exact walk _ hE (by omega) (fun h => by omega) (fun _ => ⟨fun h => by omega, fun _ => h2⟩)
end Go.Proofs.YtkfmjkcomjmedaaGreat
namespace Go.Proofs.YtkfmjkcomjmedaaGreat
open Go.RowKit Go.Lib
set_option linter.unusedVariables false
set_option linter.unusedSimpArgs false

/-- A log's own blocks, the numbers and texts of its files. -/
structure LogAt (lo : Nat → Prop) (w : World) (l d : Nat) (pv : Value) (G : List Gp) : Prop where
  lb : w.heap[l]? = some (.cells #[.pointer (some ⟨l, 0, none⟩), .pointer (some ⟨d, 0, none⟩), pv] 75 (0, 0))
  pa : PartsAt w 0 pv G
  ll : lo l
  lp : ∀ r, pv.ownBlock = some r → lo r
  lt : ∀ g ∈ G, ∀ r, g.tv.ownBlock = some r → lo r
  num : ∀ g ∈ G, g.n ≤ 99999998
theorem LogAt.same {lo : Nat → Prop} {w w' : World} {l d : Nat} {pv : Value} {G : List Gp} (h : LogAt lo w l d pv G) (hs : ∀ b, lo b → w'.heap[b]? = w.heap[b]?) : LogAt lo w' l d pv G :=
  ⟨(hs _ h.ll).trans h.lb, h.pa.same (fun r hr => hs _ (h.lp r hr)) (fun g hg r hr => hs _ (h.lt g hg r hr)), h.ll, h.lp, h.lt, h.num⟩
/-- A log beside its disk; the blocks of 'own' are neither's. -/
def WalAt (own : Nat → Prop) (w : World) (l d : Nat) (S : Ds) (L : Lt) : Prop := ∃ lo pv G, DiskAt (fun b => own b ∨ lo b) w d S ∧ LogAt lo w l d pv G ∧ G.map Gp.lt = L ∧ ∀ b, lo b → ¬ own b
theorem WalAt.own {own : Nat → Prop} {w : World} {l d : Nat} {S : Ds} {L : Lt} (h : WalAt own w l d S L) {b : Nat} (hb : own b) : b < w.heap.size := by
  obtain ⟨lo, pv, G, hd, _⟩ := h
  exact hd.own (.inl hb)
section
variable {own : Nat → Prop} {w w' : World} {l d : Nat} {S : Ds} {L : Lt}
theorem WalAt.below (h : WalAt own w l d S L) (hb : Below w.heap.size w w') : WalAt own w' l d S L := by
  obtain ⟨lo, pv, G, hd, hl, hL, hn⟩ := h
  exact ⟨lo, pv, G, hd.below hb, hl.same fun b hb' => hb.block b (hd.own (.inr hb')), hL, hn⟩
theorem WalAt.drew (h : WalAt own w l d S L) : WalAt own w.drew l d S L := h.below ((Below.refl _ _).drew)
theorem WalAt.weaken (h : WalAt own w l d S L) {own' : Nat → Prop} (ho : ∀ b, own' b → own b) : WalAt own' w l d S L := by
  obtain ⟨lo, pv, G, hd, hl, hL, hn⟩ := h
  exact ⟨lo, pv, G, hd.weaken fun b hb => hb.imp (ho b) id, hl, hL, fun b hb hb' => hn b hb (ho b hb')⟩
theorem WalAt.fresh (h : WalAt own w l d S L) (hb : Below w.heap.size w w') : WalAt (fun b => own b ∨ (w.heap.size ≤ b ∧ b < w'.heap.size)) w' l d S L := by
  obtain ⟨lo, pv, G, hd, hl, hL, hn⟩ := h
  refine ⟨lo, pv, G, (hd.fresh hb).weaken fun b h => ?_, hl.same fun b hb' => hb.block b (hd.own (.inr hb')), hL, fun b hb1 hb2 => ?_⟩
  · rcases h with (h | h) | h
    · exact .inl (.inl h)
    · exact .inr h
    · exact .inl (.inr h)
  · rcases hb2 with h | h
    · exact hn b hb1 h
    · have := hd.own (b := b) (.inr hb1)
      omega
theorem WalAt.lent (h : WalAt own w l d S L) (o : Obj) : WalAt (fun b => own b ∨ b = w.heap.size) (w.alloc o) l d S L :=
  (h.fresh ((Below.refl _ _).alloc (Nat.le_refl _) o)).weaken fun b hb => hb.imp id fun e => by rw [e]; simp
theorem WalAt.setCell (h : WalAt own w l d S L) {a : Addr} (ha : own a.block) (u : Value) : WalAt own (w.setCell a u) l d S L := by
  obtain ⟨lo, pv, G, hd, hl, hL, hn⟩ := h
  exact ⟨lo, pv, G, hd.setCell (a := a) (.inl ha) u, hl.same fun b hb => Below.heap_setCell _ _ _ _ (fun e => hn b hb (e ▸ ha)), hL, hn⟩
/-- The disk alone, and the log beside it behind what is done to the disk. -/
theorem WalAt.disk (h : WalAt own w l d S L) : ∃ own', DiskAt own' w d S ∧ (∀ b, own b → own' b) ∧ ∀ w' S', DiskAt own' w' d S' → Keeps own' w w' → WalAt own w' l d S' L := by
  obtain ⟨lo, pv, G, hd, hl, hL, hn⟩ := h
  exact ⟨_, hd, fun b hb => .inl hb, fun w' S' hd' hk => ⟨lo, pv, G, hd', hl.same fun b hb => hk.block b (.inr hb), hL, hn⟩⟩
theorem WalAt.toDisk (h : WalAt own w l d S L) : DiskAt own w d S := by
  obtain ⟨lo, pv, G, hd, _⟩ := h
  exact hd.weaken fun b hb => .inl hb
end
/-! ### given, end -/
theorem infoLog : (Tryz.prog.info? 75).map (·.size) = some 3 := by kernel_rfl
theorem lptr_same (a : Addr) (w : World) : (binOp .eql 30 (.pointer (some a)) (.pointer (some a))).run Tryz.prog w = .ok (.bool true) w := by
  obtain ⟨j, hj, _⟩ := Option.map_eq_some_iff.1 infoLog
  exact run_eql_ptr_same w a Tryz.underlying30 hj
theorem lptr_nil_left (a : Addr) (w : World) : (binOp .eql 30 (.pointer none) (.pointer (some a))).run Tryz.prog w = .ok (.bool false) w := by
  have h : ∀ d : Nat, (Op.equalIn (d + 1) 30 (.pointer none) (.pointer (some a))).run Tryz.prog w = .ok false w := fun d => by
    simp [Op.equalIn, run_underlying Tryz.underlying30]
  simp only [binOp]
  simp [Op.equal, Op.maxDepth, h 9999]
theorem lgiven_yes (l : Nat) (w : World) (h : w.cell? ⟨l, 0, none⟩ = some (.pointer (some ⟨l, 0, none⟩))) : Calls Tryz.prog 31 #[.pointer (some ⟨l, 0, none⟩)] w fun e w' => e = .returned (.bool true) ∧ w = w' := by
  have E := lptr_same ⟨l, 0, none⟩
  go_enter Tryz.func31, Tryz.ntmps31
  go_wp2
  go_ret
  exact ⟨rfl, rfl⟩
theorem lgiven_nil (w : World) : Calls Tryz.prog 31 #[.pointer none] w fun e w' => e = .returned (.bool false) ∧ w = w' := by
  go_enter Tryz.func31, Tryz.ntmps31
  go_wp2
  go_ret
  exact ⟨rfl, rfl⟩
theorem lgiven_no (l : Nat) (w : World) (h : w.cell? ⟨l, 0, none⟩ = some (.pointer none)) : Calls Tryz.prog 31 #[.pointer (some ⟨l, 0, none⟩)] w fun e w' => e = .returned (.bool false) ∧ w = w' := by
  have E := lptr_nil_left ⟨l, 0, none⟩
  go_enter Tryz.func31, Tryz.ntmps31
  go_wp2
  go_ret
  exact ⟨rfl, rfl⟩
/-- What a walk reads of a log: its cells; its last part's. -/
structure LCells (w : World) (l d : Nat) (pv : Value) : Prop where
  c0 : w.cell? ⟨l, 0, none⟩ = some (.pointer (some ⟨l, 0, none⟩))
  c1 : w.cell? ⟨l, 1, none⟩ = some (.pointer (some ⟨d, 0, none⟩))
  c2 : w.cell? ⟨l, 2, none⟩ = some pv
  f2 : w.frozen? ⟨l, 2, none⟩ = false
  lt : l < w.heap.size
theorem LogAt.cells {lo : Nat → Prop} {w : World} {l d : Nat} {pv : Value} {G : List Gp} (h : LogAt lo w l d pv G) : LCells w l d pv :=
  ⟨cell_of h.lb 0, cell_of h.lb 1, cell_of h.lb 2, frozen_of h.lb 2, heap_lt h.lb⟩
theorem gcs_length (G : List Gp) : (gcs G).length = G.length * 2 := by
  induction G with
  | nil => rfl
  | cons g G ih =>
    have : gcs (g :: G) = [.int .i64 (g.n : Int), g.tv] ++ gcs G := rfl
    rw [this, List.length_append, ih, List.length_cons]
    simp only [List.length_cons, List.length_nil]
    omega
theorem gcs_last (G : List Gp) (g : Gp) : (gcs (G ++ [g]))[G.length * 2]? = some (.int .i64 (g.n : Int)) ∧ (gcs (G ++ [g]))[G.length * 2 + 1]? = some g.tv := by
  rw [← gcs_snoc, List.getElem?_append_right (by rw [gcs_length]; omega), List.getElem?_append_right (by rw [gcs_length]; omega), gcs_length]
  constructor
  · rw [Nat.sub_self]; rfl
  · rw [show G.length * 2 + 1 - G.length * 2 = 1 by omega]; rfl
/-- The last part's place and cells. -/
theorem LogAt.last {lo : Nat → Prop} {w : World} {l d : Nat} {pv : Value} {G : List Gp} {g : Gp} (h : LogAt lo w l d pv (G ++ [g])) : ∃ pb cap, pv = .slice (some ⟨pb, 0, none⟩) (G.length + 1) cap ∧ pb < w.heap.size ∧ lo pb ∧ G.length + 1 ≤ maxLen ∧
    w.cell? ⟨pb, G.length * 2, none⟩ = some (.int .i64 (g.n : Int)) ∧ w.cell? ⟨pb, G.length * 2 + 1, none⟩ = some g.tv ∧ w.frozen? ⟨pb, G.length * 2 + 1, none⟩ = false := by
  have hr := h.pa.row
  have hlen : (G ++ [g]).length = G.length + 1 := by simp
  rw [hlen] at hr
  have hl := h.lp
  rcases hr.2 with ⟨_, h0⟩ | ⟨pb, cap, cur, rfl, _, hh, hnc, hcm, _⟩
  · omega
  · have e1 := hr.cellAt (G.length * 2) (by omega)
    have e2 := hr.cellAt (G.length * 2 + 1) (by omega)
    rw [(gcs_last G g).1] at e1
    rw [(gcs_last G g).2] at e2
    exact ⟨pb, cap, rfl, heap_lt hh, hl pb rfl, by omega, e1, e2, hr.frozenAt _⟩
set_option maxRecDepth 100000 in
set_option maxHeartbeats 1000000 in
theorem end_any {w : World} {l d pb q cap : Nat} (h : LCells w l d (.slice (some ⟨pb, 0, none⟩) (q + 1) cap)) (hq : q + 1 ≤ maxLen) :
    Calls Tryz.prog 32 #[.pointer (some ⟨l, 0, none⟩)] w fun e w' => e = .returned (.pointer (some ⟨pb, q * 2, none⟩)) ∧ Below w.heap.size w w' := by
  obtain ⟨c0, c1, c2, f2, lt⟩ := h
  unfold maxLen at hq
  have hq1 : (q : Int) < (q : Int) + 1 := by omega
  have hwr := i64_wrap_nat q (by omega)
  go_enter Tryz.func32, Tryz.ntmps32
  go_wp2_with fail
  refine wp_region_below (by kernel_rfl) (by kernel_rfl) ?_
  repeat (first
    | go_big_quiet_skip
    | (go_big_quiet_want
       first
       | (refine BigFrame.quiet_move _ rfl ?_)
       | (refine BigFrame.quiet_assign _ rfl ?_)
       | (unfold Oper.quiet
          apply Exists.intro
          refine ⟨fun w' hw' => ?_, ?_⟩
          · (obtain ⟨hc', hf'⟩ := bcell hw'
             go_simp
             first
             | done
             | exact rfl))
       go_big_quiet_on
       simp only [Act.put, Act.eval, List.setIfInBounds_toArray, List.set_cons_zero, List.set_cons_succ, Array.getD_eq_getD_getElem?, List.getElem?_toArray, List.getElem?_cons_zero, List.getElem?_cons_succ, Option.getD_some]))
  refine wpQuiet_nil ?_
  intro w' hw'
  go_wp2
  go_ret
  exact ⟨rfl, hw'⟩

/-! ### Last, Flush -/
theorem snoc_of {L : Lt} {L0 : Lt} {n : Nat} {ts : List (List UInt8)} {G : List Gp} (h : G.map Gp.lt = L0 ++ [(n, ts)]) : ∃ G0 g, G = G0 ++ [g] ∧ G0.map Gp.lt = L0 ∧ g.n = n ∧ g.ts = ts := by
  have hne : G ≠ [] := by rintro rfl; simp at h
  obtain ⟨G0, g, rfl⟩ : ∃ G0 g, G = G0 ++ [g] := ⟨G.dropLast, G.getLast hne, (List.dropLast_concat_getLast _).symm⟩
  rw [List.map_append, List.map_singleton] at h
  have h2 := List.append_inj' h rfl
  have h3 : g.lt = (n, ts) := by simpa using h2.2
  exact ⟨G0, g, rfl, h2.1, congrArg Prod.fst h3, congrArg Prod.snd h3⟩
set_option maxRecDepth 100000 in
set_option maxHeartbeats 1000000 in
theorem last_any {own : Nat → Prop} {w : World} {l d n : Nat} {S : Ds} {L0 : Lt} {ts : List (List UInt8)} (h : WalAt own w l d S (L0 ++ [(n, ts)])) :
    Calls Tryz.prog 12 #[.pointer (some ⟨l, 0, none⟩)] w fun e w' => e = .returned (.int .i64 (n : Int)) ∧ Below w.heap.size w w' := by
  obtain ⟨lo, pv, G, hd, hl, hL, hno⟩ := h
  obtain ⟨G0, g, rfl, -, rfl, -⟩ := snoc_of (L := []) hL
  obtain ⟨pb, cap, rfl, hpb, hlo, hml, e1, e2, e3⟩ := hl.last
  have hnum := hl.num g (by simp)
  have hg := lgiven_yes l w hl.cells.c0
  have he := Lib.hid (end_any hl.cells hml)
  clear hd hl hL hno hlo e2 e3
  generalize G0.length = q at he e1 hml
  obtain ⟨j, hj⟩ : ∃ j, j = q * 2 := ⟨_, rfl⟩
  rw [← hj] at he e1
  clear hj
  go_enter Tryz.func12, Tryz.ntmps12
  go_wp2_with (first
    | (go_at_call 31; refine hg.mono ?_; rintro e w' ⟨rfl, rfl⟩)
    | (go_at_call 32; refine he.out.mono ?_; rintro e w2 ⟨rfl, hb⟩; have e1 := (hb.cell (p := ⟨pb, j, none⟩) hpb).trans e1; have HB := Lib.hid hb; clear hb))
  go_ret
  exact ⟨rfl, HB.out⟩
set_option maxRecDepth 100000 in
set_option maxHeartbeats 1000000 in
theorem flush_any {own : Nat → Prop} {w : World} {l d n : Nat} {S : Ds} {L0 : Lt} {ts : List (List UInt8)} (h : WalAt own w l d S (L0 ++ [(n, ts)])) :
    Calls Tryz.prog 18 #[.pointer (some ⟨l, 0, none⟩)] w fun e w' => e = .returned (.int .i64 (S.sync (lname n)).2) ∧ WalAt own w' l d (S.sync (lname n)).1 (L0 ++ [(n, ts)]) ∧ Keeps own w w' := by
  obtain ⟨own', hd, ho, hre⟩ := h.disk
  obtain ⟨lo, pv, G, -, hl, hL, -⟩ := h
  obtain ⟨G0, g, rfl, -, rfl, -⟩ := snoc_of (L := []) hL
  obtain ⟨pb, cap, rfl, hpb, hlo, hml, e1, e2, e3⟩ := hl.last
  have hnum := hl.num g (by simp)
  have hg := lgiven_yes l w hl.cells.c0
  obtain ⟨c0, c1, c2, f2, lt⟩ := hl.cells
  have he : ∀ w', Below w.heap.size w w' → Calls Tryz.prog 32 #[.pointer (some ⟨l, 0, none⟩)] w' fun e w'' => e = .returned (.pointer (some ⟨pb, G0.length * 2, none⟩)) ∧ Below w'.heap.size w' w'' := fun w' hb =>
    end_any ⟨(hb.cell (p := ⟨l, 0, none⟩) lt).trans c0, (hb.cell (p := ⟨l, 1, none⟩) lt).trans c1, (hb.cell (p := ⟨l, 2, none⟩) lt).trans c2, (hb.frozen (p := ⟨l, 2, none⟩) lt).trans f2, Nat.lt_of_lt_of_le lt hb.size⟩ hml
  have hF := Lib.hid (file_any g.n (by omega))
  have HRE := Lib.hid hre
  have HD := Lib.hid hd
  have HO := Lib.hid ho
  generalize G0.length = q at he e1 hml
  obtain ⟨j, hj⟩ : ∃ j, j = q * 2 := ⟨_, rfl⟩
  rw [← hj] at he e1
  have HE := Lib.hid he
  clear hd hre hl hL hlo e2 e3 hj he c0 c2 f2 ho
  generalize g.n = n at *
  go_enter Tryz.func18, Tryz.ntmps18
  go_wp2_with (go_at_call 31; refine hg.mono ?_; rintro e w' ⟨rfl, rfl⟩)
  refine below_tail 10 (by kernel_rfl) (by kernel_rfl) ?_
  simp only [List.take_succ_cons, List.take_zero, List.drop_succ_cons, List.drop_zero]
  repeat (first
    | go_big_quiet_skip
    | (go_big_quiet_want
       first
       | (refine BigFrame.quiet_move _ rfl ?_)
       | (refine BigFrame.quiet_assign _ rfl ?_)
       | (unfold Oper.quiet
          apply Exists.intro
          refine ⟨fun w' hw' => ?_, ?_⟩
          · (obtain ⟨hc', hf'⟩ := bcell hw'
             go_simp
             first
             | done
             | exact rfl
             | (go_at_call 32; refine (HE.out _ hw').mono ?_; rintro e w'' ⟨rfl, bb⟩; exact ⟨rfl, bt hw' bb⟩)
             | (go_at_call 46; refine (hF.out _).mono ?_; rintro e w'' ⟨rfl, bb⟩; exact ⟨rfl, bt hw' bb⟩)))
       go_big_quiet_on
       simp only [Act.put, Act.eval, List.setIfInBounds_toArray, List.set_cons_zero, List.set_cons_succ, Array.getD_eq_getD_getElem?, List.getElem?_toArray, List.getElem?_cons_zero, List.getElem?_cons_succ, Option.getD_some]))
  refine wpQuiet_nil ?_
  intro w' hw'
  have C := sync_any (HD.out.below hw') ⟨(lname n).toArray⟩ (lname_size n)
  rw [show (⟨(lname n).toArray⟩ : ByteArray).data.toList = lname n from rfl] at C
  have HC := Lib.hid C
  have HK := Lib.hid (Keeps.of_below hw' fun b (hb : own' b) => HD.out.own hb)
  clear C hw'
  go_wp2_with fail
  refine HC.out.mono ?_
  rintro e w2 ⟨rfl, hd2, hk⟩
  have HK2 := Lib.hid (HK.out.trans hk)
  have HD2 := Lib.hid hd2
  clear hk hd2
  go_wp2
  go_ret
  exact ⟨rfl, HRE.out _ _ HD2.out HK2.out, HK2.out.mono HO.out⟩
end Go.Proofs.YtkfmjkcomjmedaaGreat
namespace Go.Proofs.YtkfmjkcomjmedaaGreat
open Go.RowKit Go.Lib
set_option linter.unusedVariables false
set_option linter.unusedSimpArgs false

/-- The disk, whatever was done to the blocks of 'own', and to new ones. -/
theorem DiskAt.others {own : Nat → Prop} {w w' : World} {d : Nat} {S : Ds} (h : DiskAt own w d S) (hs : ∀ b, b < w.heap.size → ¬ own b → w'.heap[b]? = w.heap[b]?) (hsz : w.heap.size ≤ w'.heap.size) : DiskAt (fun b => own b ∨ (w.heap.size ≤ b ∧ b < w'.heap.size)) w' d S := by
  obtain ⟨m, G, h, hF⟩ := h
  have k1 := hs d h.d_lt fun e => (h.own d e).2.1 rfl
  have k2 := hs m h.m_lt fun e => (h.own m e).2.2.1 rfl
  have k3 : ∀ p ∈ G, w'.heap[p.2.blk]? = w.heap[p.2.blk]? := fun p hp => hs _ (h.file p hp).lt fun e => ((h.own _ e).2.2.2 p hp).1 rfl
  have k4 : ∀ p ∈ G, ∀ r, p.2.row = some r → w'.heap[r]? = w.heap[r]? := fun p hp r hr => hs _ ((h.file p hp).row_lt hr) fun e => ((h.own _ e).2.2.2 p hp).2 hr
  have h' := h.same k1 k2 k3 k4 hsz
  refine ⟨m, G, ⟨h'.db, h'.mp, h'.srt, h'.file, h'.blk, h'.row, h'.len, h'.fz, fun b ho => ?_⟩, hF⟩
  rcases ho with ho | ⟨h1, h2⟩
  · exact h'.own b ho
  · have := h.d_lt
    have := h.m_lt
    refine ⟨h2, by omega, by omega, fun p hp => ⟨?_, fun hr => ?_⟩⟩
    · have := (h.file p hp).lt; omega
    · have := (h.file p hp).row_lt hr; omega
/-- The parts, the log's own block being written. -/
theorem PartsAt.cellL {w : World} {base l : Nat} {pv : Value} {G : List Gp} {cs : Array Value} {fz : Nat × Nat} (h : PartsAt w base pv G) (hl : w.heap[l]? = some (.cells cs 75 fz)) (i : Nat) (u : Value) : PartsAt (w.setCell ⟨l, i, none⟩ u) base pv G := by
  refine h.same (fun r hr => Below.heap_setCell _ _ _ _ ?_) fun g hg r hr => Below.heap_setCell _ _ _ _ ?_
  · rintro rfl
    obtain ⟨_, c, e⟩ := row_at h.row hr
    rw [hl] at e; cases e
  · rintro rfl
    obtain ⟨_, c, e⟩ := row_at (h.tx g hg) hr
    rw [hl] at e; cases e
/-- Behind an append to the parts, and the store of their row. -/
theorem WalAt.grown {own lo : Nat → Prop} {w w1 w2 : World} {l d : Nat} {S : Ds} {pv : Value} {G : List Gp} {g cap : Nat} {n : Nat} (hd : DiskAt (fun b => own b ∨ lo b) w d S) (hl : LogAt lo w l d pv G) (hno : ∀ b, lo b → ¬ own b) (hn : n ≤ 99999998) (hb1 : Below w.heap.size w w1)
    (hown : w2.ownsRow 0 78 2 (.slice (some ⟨g, 0, none⟩) (G.length + 1) cap) (G.length + 1) (gcs G ++ [.int .i64 (n : Int), .slice none 0 0])) (hg : w1.grownBy w2 pv.ownBlock) (hpl : pv.ownBlock = some g ∨ g = w1.heap.size) (hglt : g < w2.heap.size) :
    WalAt own (w2.setCell ⟨l, 2, none⟩ (.slice (some ⟨g, 0, none⟩) (G.length + 1) cap)) l d S (G.map Gp.lt ++ [(n, [])]) ∧ Keeps own w (w2.setCell ⟨l, 2, none⟩ (.slice (some ⟨g, 0, none⟩) (G.length + 1) cap)) := by
  have hl1 : LogAt lo w1 l d pv G := hl.same fun b hb => hb1.block b (hd.own (.inr hb))
  have hs1 := hb1.size
  have hs2 := hg.size
  have hlw := hd.own (b := l) (.inr hl.ll)
  have hlp : pv.ownBlock ≠ some l := by
    intro e
    obtain ⟨_, c, e⟩ := row_at hl.pa.row e
    rw [hl.lb] at e; cases e
  have hl2 : w2.heap[l]? = some (.cells #[.pointer (some ⟨l, 0, none⟩), .pointer (some ⟨d, 0, none⟩), pv] 75 (0, 0)) := (hg.block l (by omega) (fun e => hlp e.symm)).trans hl1.lb
  have hsz : (w2.setCell ⟨l, 2, none⟩ (.slice (some ⟨g, 0, none⟩) (G.length + 1) cap)).heap.size = w2.heap.size := by simp [World.setCell]
  have same : ∀ b, b < w.heap.size → b ≠ l → pv.ownBlock ≠ some b → (w2.setCell ⟨l, 2, none⟩ (.slice (some ⟨g, 0, none⟩) (G.length + 1) cap)).heap[b]? = w.heap[b]? := fun b hb h1 h2 =>
    (Below.heap_setCell _ _ _ _ h1).trans ((hg.block b (by omega) (fun e => h2 e.symm)).trans (hb1.block b hb))
  have hd2 := hd.others (w' := w2.setCell ⟨l, 2, none⟩ (.slice (some ⟨g, 0, none⟩) (G.length + 1) cap)) (fun b hb hb' => same b hb (fun e => hb' (.inr (e ▸ hl.ll))) (fun e => hb' (.inr (hl.lp b e)))) (by rw [hsz]; omega)
  have hp := hl1.pa.snoc (g := ⟨n, [], .slice none 0 0⟩) hown hg (World.ownsRow_nil _ _ _ _) (fun h _ r _ e => by simp [Value.ownBlock] at e)
  refine ⟨⟨fun b => lo b ∨ (w.heap.size ≤ b ∧ b < w2.heap.size), _, _, hd2.weaken fun b hb => ?_, ⟨?_, hp.cellL hl2 2 _, .inl hl.ll, fun r hr => ?_, fun k hk r hr => ?_, fun k hk => ?_⟩, by rw [List.map_append]; rfl, fun b hb hb' => ?_⟩, ⟨?_, ?_, ?_, by rw [hsz]; omega, fun b hb => ?_⟩⟩
  · rw [hsz]
    rcases hb with h | h | h
    · exact .inl (.inl h)
    · exact .inl (.inr h)
    · exact .inr h
  · rw [setCell_at hl2]; rfl
  · simp [Value.ownBlock] at hr
    subst hr
    rcases hpl with e | rfl
    · exact .inl (hl.lp _ e)
    · exact .inr ⟨by omega, hglt⟩
  · rcases List.mem_append.1 hk with hk | hk
    · exact .inl (hl.lt k hk r hr)
    · simp at hk; subst hk; simp [Value.ownBlock] at hr
  · rcases List.mem_append.1 hk with hk | hk
    · exact hl.num k hk
    · simp at hk; subst hk; exact hn
  · rcases hb with h | h
    · exact hno b h hb'
    · have := hd.own (b := b) (.inl hb'); omega
  · exact hg.os.trans hb1.os
  · exact hg.tape.trans hb1.tape
  · exact hg.output.trans hb1.output
  · exact same b (hd.own (.inl hb)) (fun e => hno l hl.ll (e ▸ hb)) (fun e => hno b (hl.lp b e) hb)
set_option maxRecDepth 100000 in
set_option maxHeartbeats 2000000 in
theorem grow_any {own : Nat → Prop} {w : World} {l d n : Nat} {S : Ds} {L : Lt} (h : WalAt own w l d S L) (hn : n ≤ 99999998) (hlen : L.length ≤ 1000000) :
    Calls Tryz.prog 38 #[.pointer (some ⟨l, 0, none⟩), .int .i64 (n : Int)] w fun e w' => e = .returned (.int .i64 (S.make (lname n)).2) ∧ WalAt own w' l d (S.make (lname n)).1 (if (S.make (lname n)).2 = 0 then L ++ [(n, [])] else L) ∧ Keeps own w w' := by
  obtain ⟨lo, pv, G, hd, hl, rfl, hno⟩ := h
  rw [List.length_map] at hlen
  obtain ⟨c0, c1, c2, f2, lt⟩ := hl.cells
  have hF := Lib.hid (file_any n (by omega))
  have HD := Lib.hid hd
  have HL := Lib.hid hl
  have HNO := Lib.hid hno
  obtain ⟨i0, hi, hz0, hz1, hz2⟩ := info_parts infoPart
  clear hd hl hno c0 c2 f2
  obtain ⟨⟨S1, E⟩, hR⟩ : ∃ R, R = S.make (lname n) := ⟨_, rfl⟩
  have HR := Lib.hid hR
  rw [← hR]
  clear hR
  simp only
  by_cases h0 : E = 0
  · subst h0
    rw [if_pos rfl]
    go_enter Tryz.func38, Tryz.ntmps38
    go_wp2_with fail
    refine below_tail 6 (by kernel_rfl) (by kernel_rfl) ?_
    simp only [List.take_succ_cons, List.take_zero, List.drop_succ_cons, List.drop_zero]
    repeat (first
      | go_big_quiet_skip
      | (go_big_quiet_want
         first
         | (refine BigFrame.quiet_move _ rfl ?_)
         | (refine BigFrame.quiet_assign _ rfl ?_)
         | (unfold Oper.quiet
            apply Exists.intro
            refine ⟨fun w' hw' => ?_, ?_⟩
            · (obtain ⟨hc', hf'⟩ := bcell hw'
               go_simp
               first
               | done
               | exact rfl
               | (go_at_call 46; refine (hF.out _).mono ?_; rintro e w'' ⟨rfl, bb⟩; exact ⟨rfl, bt hw' bb⟩)))
         go_big_quiet_on
         simp only [Act.put, Act.eval, List.setIfInBounds_toArray, List.set_cons_zero, List.set_cons_succ, Array.getD_eq_getD_getElem?, List.getElem?_toArray, List.getElem?_cons_zero, List.getElem?_cons_succ, Option.getD_some]))
    refine wpQuiet_nil ?_
    intro w' hw'
    have C := make_any (HD.out.below hw') ⟨(lname n).toArray⟩ (lname_size n)
    rw [show (⟨(lname n).toArray⟩ : ByteArray).data.toList = lname n from rfl, ← HR.out] at C
    have HC := Lib.hid C
    have HK := Lib.hid (Keeps.of_below hw' fun b (hb : own b ∨ lo b) => HD.out.own hb)
    clear C hw' c1
    go_wp2_with fail
    refine HC.out.mono ?_
    rintro e w2 ⟨rfl, hd2, hk⟩
    have hk2 := HK.out.trans hk
    have hl2 := HL.out.same fun b hb => hk2.block b (.inr hb)
    have HK2 := Lib.hid (hk2.mono fun b (hb : own b) => .inl hb)
    have HD2 := Lib.hid hd2
    have HL2 := Lib.hid hl2
    obtain ⟨-, -, c2, f2, lt2⟩ := hl2.cells
    clear hk hd2 hl2 hk2 HC HK
    obtain ⟨pa, pc, rfl⟩ := row_slice HL.out.pa.row
    go_wp2_with (at_builtin; refine wpList_append_lies _ rfl _ _ 73 rfl 0 78 i0 (.agg #[.int .i64 0, .slice none 0 0]) 2 32 Tryz.underlying73 hi hz0 hz1 hz2 rfl (by decide) _ _ _ rfl (HL2.out.pa.old ((Below.refl _ _).alloc (Nat.le_refl _) _)).row ⟨w2.heap.size, 0, none⟩ 1 1 [.int .i64 (n : Int), .slice none 0 0] rfl rfl ?c1 ?c2 (by decide) ?c3 ?c4 ?c5 _ rfl ?_)
    case c1 => exact cell_pair _ _ _ _
    case c2 => exact pair_one _ _ _ _
    case c3 => unfold maxLen; omega
    case c4 => omega
    case c5 => exact Nat.zero_le _
    · intro g cap w3 hown3 hgrow hpl hglt
      have hal : Below w2.heap.size w2 (w2.alloc (.cells #[.int .i64 (n : Int), .slice none 0 0] 78)) := (Below.refl _ _).alloc (Nat.le_refl _) _
      have hst := WalAt.grown HD2.out HL2.out HNO.out hn hal hown3 hgrow (by rcases hpl with e | e; exact .inl e; exact .inr (by simp; exact e)) hglt
      have hblk : w3.heap[l]? = (w2.alloc (.cells #[.int .i64 (n : Int), .slice none 0 0] 78)).heap[l]? := hgrow.block l (by simp; omega) (fun e => by
        obtain ⟨_, c, e⟩ := row_at HL2.out.pa.row e.symm
        rw [HL2.out.lb] at e; cases e)
      have hc3 := (World.cell?_of_block (a := ⟨l, 2, none⟩) hblk).trans ((hal.cell (p := ⟨l, 2, none⟩) lt2).trans c2)
      have hf3 := (World.frozen?_of_block (a := ⟨l, 2, none⟩) hblk).trans ((hal.frozen (p := ⟨l, 2, none⟩) lt2).trans f2)
      have hs3 : l < w3.heap.size := by have := hgrow.size; simp at this; omega
      have HS := Lib.hid hst
      clear hst hown3 hgrow hal c2 f2 hblk
      go_wp2
      go_ret
      exact ⟨rfl, HS.out.1, HK2.out.trans HS.out.2⟩
  · rw [if_neg h0]
    have hX : (E != 0) = true := by simpa using h0
    go_enter Tryz.func38, Tryz.ntmps38
    go_wp2_with fail
    refine below_tail 6 (by kernel_rfl) (by kernel_rfl) ?_
    simp only [List.take_succ_cons, List.take_zero, List.drop_succ_cons, List.drop_zero]
    repeat (first
      | go_big_quiet_skip
      | (go_big_quiet_want
         first
         | (refine BigFrame.quiet_move _ rfl ?_)
         | (refine BigFrame.quiet_assign _ rfl ?_)
         | (unfold Oper.quiet
            apply Exists.intro
            refine ⟨fun w' hw' => ?_, ?_⟩
            · (obtain ⟨hc', hf'⟩ := bcell hw'
               go_simp
               first
               | done
               | exact rfl
               | (go_at_call 46; refine (hF.out _).mono ?_; rintro e w'' ⟨rfl, bb⟩; exact ⟨rfl, bt hw' bb⟩)))
         go_big_quiet_on
         simp only [Act.put, Act.eval, List.setIfInBounds_toArray, List.set_cons_zero, List.set_cons_succ, Array.getD_eq_getD_getElem?, List.getElem?_toArray, List.getElem?_cons_zero, List.getElem?_cons_succ, Option.getD_some]))
    refine wpQuiet_nil ?_
    intro w' hw'
    have C := make_any (HD.out.below hw') ⟨(lname n).toArray⟩ (lname_size n)
    rw [show (⟨(lname n).toArray⟩ : ByteArray).data.toList = lname n from rfl, ← HR.out] at C
    have HC := Lib.hid C
    have HK := Lib.hid (Keeps.of_below hw' fun b (hb : own b ∨ lo b) => HD.out.own hb)
    clear C hw' c1
    go_wp2_with fail
    refine HC.out.mono ?_
    rintro e w2 ⟨rfl, hd2, hk⟩
    have hk2 := HK.out.trans hk
    have hl2 := HL.out.same fun b hb => hk2.block b (.inr hb)
    have HK2 := Lib.hid (hk2.mono fun b (hb : own b) => .inl hb)
    have HD2 := Lib.hid hd2
    have HL2 := Lib.hid hl2
    obtain ⟨-, -, c2, f2, lt2⟩ := hl2.cells
    clear hk hd2 hl2 hk2 HC HK
    clear c2 f2
    go_wp2
    go_ret
    exact ⟨rfl, ⟨lo, pv, G, HD2.out, HL2.out, rfl, HNO.out⟩, HK2.out⟩

/-! ### Roll -/
def Ds.roll (S : Ds) (n : Nat) : Ds × Int :=
  if mayE S (n + 1) = 0 then (if (S.sync (lname n)).2 = 0 then (S.sync (lname n)).1.make (lname (n + 1)) else S.sync (lname n)) else (S, mayE S (n + 1))
set_option maxRecDepth 100000 in
set_option maxHeartbeats 2000000 in
theorem roll_any {own : Nat → Prop} {w : World} {l d n : Nat} {S : Ds} {L0 : Lt} {ts : List (List UInt8)} (h : WalAt own w l d S (L0 ++ [(n, ts)])) (hlen : L0.length + 1 ≤ 1000000) :
    Calls Tryz.prog 22 #[.pointer (some ⟨l, 0, none⟩)] w fun e w' => e = .returned (.tuple #[.int .i64 (if (S.roll n).2 = 0 then ((n + 1 : Nat) : Int) else 0), .int .i64 (S.roll n).2]) ∧ WalAt own w' l d (S.roll n).1 (if (S.roll n).2 = 0 then L0 ++ [(n, ts)] ++ [(n + 1, [])] else L0 ++ [(n, ts)]) ∧ Keeps own w w' := by
  have H := Lib.hid h
  obtain ⟨lo, pv, G, hd, hl, hL, hno⟩ := h
  obtain ⟨G0, g, rfl, -, hgn, -⟩ := snoc_of (L := []) hL
  obtain ⟨pb, cap, rfl, hpb, hlo, hml, e1, e2, e3⟩ := hl.last
  have hnum := hl.num g (by simp)
  rw [hgn] at hnum e1
  have hg := lgiven_yes l w hl.cells.c0
  have he := Lib.hid (end_any hl.cells hml)
  obtain ⟨-, c1, -, -, lt⟩ := hl.cells
  have hM := Lib.hid fun w' (hb : Below w.heap.size w w') => mayMake_any (n := n + 1) (hd.below hb) (by omega)
  clear hd hl hL hno hlo e2 e3 hgn
  generalize G0.length = q at he e1 hml
  obtain ⟨j, hj⟩ : ∃ j, j = q * 2 := ⟨_, rfl⟩
  rw [← hj] at he e1
  clear hj
  have hR : Hid (S.roll n = if mayE S (n + 1) = 0 then (if (S.sync (lname n)).2 = 0 then (S.sync (lname n)).1.make (lname (n + 1)) else S.sync (lname n)) else (S, mayE S (n + 1))) := Lib.hid rfl
  have hgrow : Hid (mayE S (n + 1) = 0 → n + 1 ≤ 99999998) := Lib.hid fun e => by
    rcases mayE_cases S (n + 1) with ⟨_, h⟩ | ⟨_, _, h⟩ | ⟨_, h, _⟩
    · rw [h] at e; cases e
    · rw [h] at e; cases e
    · exact h
  generalize mayE S (n + 1) = M at hM hR hgrow
  by_cases hM0 : M = 0
  · subst hM0
    have hR := Lib.hid (hR.out.trans (if_pos rfl))
    have hn1 := hgrow.out rfl
    have hFl := Lib.hid fun w' (hb : Below w.heap.size w w') => flush_any (H.out.below hb)
    by_cases hS0 : (S.sync (lname n)).2 = 0
    · have hR := hR.out.trans (if_pos hS0)
      rw [hR]
      obtain ⟨⟨S1, E1⟩, hR1⟩ : ∃ R, R = S.sync (lname n) := ⟨_, rfl⟩
      rw [← hR1] at hFl hS0 ⊢
      simp only at hS0
      subst hS0
      simp only at hFl ⊢
      obtain ⟨⟨S2, E2⟩, hR2⟩ : ∃ R, R = S1.make (lname (n + 1)) := ⟨_, rfl⟩
      have HR2 := Lib.hid hR2
      rw [← hR2]
      simp only
      clear hR hR1 hR2 hgrow
      by_cases hE : E2 = 0
      · subst hE
        rw [if_pos rfl, if_pos rfl]
        go_enter Tryz.func22, Tryz.ntmps22
        go_wp2_with (first
          | (go_at_call 31; refine hg.mono ?_; rintro e w' ⟨rfl, rfl⟩)
          | (go_at_call 32; refine he.out.mono ?_; rintro e w1 ⟨rfl, hb⟩; have e1 := (hb.cell (p := ⟨pb, j, none⟩) hpb).trans e1; have c1 := (hb.cell (p := ⟨l, 1, none⟩) lt).trans c1; have HB := Lib.hid hb; have lt1 := Nat.lt_of_lt_of_le lt hb.size; clear hb)
          | (go_at_call 36; refine (hM.out _ HB.out).mono ?_; rintro e w2 ⟨rfl, hb2⟩; have HB2 := Lib.hid (bt HB.out hb2); clear hb2)
          | (go_at_call 18; refine (hFl.out _ HB2.out).mono ?_; rintro e w3 ⟨rfl, hw3, hk3⟩; have HW3 := Lib.hid hw3; have HK3 := Lib.hid (Keeps.trans (Keeps.of_below HB2.out fun b (hb : own b) => H.out.own hb) hk3); clear hw3 hk3)
          | (go_at_call 38; refine (grow_any HW3.out hn1 (by rw [List.length_append]; exact hlen)).mono ?_; rw [← HR2.out]; rintro e w4 ⟨rfl, hw4, hk4⟩; rw [if_pos rfl] at hw4; have HW4 := Lib.hid hw4; have HK4 := Lib.hid (HK3.out.trans hk4); clear hw4 hk4))
        go_ret2
        exact ⟨rfl, HW4.out, HK4.out⟩
      · rw [if_neg hE, if_neg hE]
        have hX : (E2 != 0) = true := by simpa using hE
        go_enter Tryz.func22, Tryz.ntmps22
        go_wp2_with (first
          | (go_at_call 31; refine hg.mono ?_; rintro e w' ⟨rfl, rfl⟩)
          | (go_at_call 32; refine he.out.mono ?_; rintro e w1 ⟨rfl, hb⟩; have e1 := (hb.cell (p := ⟨pb, j, none⟩) hpb).trans e1; have c1 := (hb.cell (p := ⟨l, 1, none⟩) lt).trans c1; have HB := Lib.hid hb; have lt1 := Nat.lt_of_lt_of_le lt hb.size; clear hb)
          | (go_at_call 36; refine (hM.out _ HB.out).mono ?_; rintro e w2 ⟨rfl, hb2⟩; have HB2 := Lib.hid (bt HB.out hb2); clear hb2)
          | (go_at_call 18; refine (hFl.out _ HB2.out).mono ?_; rintro e w3 ⟨rfl, hw3, hk3⟩; have HW3 := Lib.hid hw3; have HK3 := Lib.hid (Keeps.trans (Keeps.of_below HB2.out fun b (hb : own b) => H.out.own hb) hk3); clear hw3 hk3)
          | (go_at_call 38; refine (grow_any HW3.out hn1 (by rw [List.length_append]; exact hlen)).mono ?_; rw [← HR2.out]; rintro e w4 ⟨rfl, hw4, hk4⟩; rw [if_neg hE] at hw4; have HW4 := Lib.hid hw4; have HK4 := Lib.hid (HK3.out.trans hk4); clear hw4 hk4))
        go_ret2
        exact ⟨rfl, HW4.out, HK4.out⟩
    · have hR := hR.out.trans (if_neg hS0)
      rw [hR]
      obtain ⟨⟨S1, E1⟩, hR1⟩ : ∃ R, R = S.sync (lname n) := ⟨_, rfl⟩
      rw [← hR1] at hFl hS0 ⊢
      simp only at hS0
      simp only at hFl ⊢
      rw [if_neg hS0, if_neg hS0]
      have hX : (E1 != 0) = true := by simpa using hS0
      clear hR hR1 hgrow
      go_enter Tryz.func22, Tryz.ntmps22
      go_wp2_with (first
        | (go_at_call 31; refine hg.mono ?_; rintro e w' ⟨rfl, rfl⟩)
        | (go_at_call 32; refine he.out.mono ?_; rintro e w1 ⟨rfl, hb⟩; have e1 := (hb.cell (p := ⟨pb, j, none⟩) hpb).trans e1; have c1 := (hb.cell (p := ⟨l, 1, none⟩) lt).trans c1; have HB := Lib.hid hb; have lt1 := Nat.lt_of_lt_of_le lt hb.size; clear hb)
        | (go_at_call 36; refine (hM.out _ HB.out).mono ?_; rintro e w2 ⟨rfl, hb2⟩; have HB2 := Lib.hid (bt HB.out hb2); clear hb2)
        | (go_at_call 18; refine (hFl.out _ HB2.out).mono ?_; rintro e w3 ⟨rfl, hw3, hk3⟩; have HW3 := Lib.hid hw3; have HK3 := Lib.hid (Keeps.trans (Keeps.of_below HB2.out fun b (hb : own b) => H.out.own hb) hk3); clear hw3 hk3))
      go_ret2
      exact ⟨rfl, HW3.out, HK3.out⟩
  · have hR := hR.out.trans (if_neg hM0)
    rw [hR]
    simp only
    rw [if_neg hM0, if_neg hM0]
    have hX : (M != 0) = true := by simpa using hM0
    clear hR hgrow
    go_enter Tryz.func22, Tryz.ntmps22
    go_wp2_with (first
      | (go_at_call 31; refine hg.mono ?_; rintro e w' ⟨rfl, rfl⟩)
      | (go_at_call 32; refine he.out.mono ?_; rintro e w1 ⟨rfl, hb⟩; have e1 := (hb.cell (p := ⟨pb, j, none⟩) hpb).trans e1; have c1 := (hb.cell (p := ⟨l, 1, none⟩) lt).trans c1; have HB := Lib.hid hb; have lt1 := Nat.lt_of_lt_of_le lt hb.size; clear hb)
      | (go_at_call 36; refine (hM.out _ HB.out).mono ?_; rintro e w2 ⟨rfl, hb2⟩; have HB2 := Lib.hid (bt HB.out hb2); clear hb2))
    go_ret2
    exact ⟨rfl, H.out.below HB2.out, Keeps.of_below HB2.out fun b hb => H.out.own hb⟩
end Go.Proofs.YtkfmjkcomjmedaaGreat
