/-
  Layer 6 (wal), contract of load (with each, and its closure). Conditions: none.
-/
import Derived.Test.YthikedhbjphmeaaLe
namespace Go.Proofs.Ythikedhbjphmeaa
open Go.RowKit Go.Lib
set_option linter.unusedVariables false
set_option linter.unusedSimpArgs false

theorem lname_size (n : Nat) : (⟨(lname n).toArray⟩ : ByteArray).size ≤ maxLen := by
  rw [size_mkl (lname n), lname_length]; decide
set_option maxRecDepth 100000 in
set_option maxHeartbeats 1000000 in
theorem ltell_skip {B : Nat} {w : World} {d fr : Nat} {pv : Value} {G : List Gp} (h : LdS B w d fr pv G) (n : Nat) (hn : n ≤ 99999998) (hlt : (n : Int) < (fr : Int)) :
    Calls Try.prog 37 #[.int .i64 (n : Int), .pointer (some ⟨B + 1, 0, none⟩), .pointer (some ⟨B, 0, none⟩), .pointer (some ⟨B + 2, 0, none⟩)] w fun e w' => e = .returned (.int .i64 0) ∧ w = w' := by
  have c1 := h.c1
  clear h
  go_enter Try.func37, Try.ntmps37
  go_wp2
  go_ret
  exact ⟨rfl, rfl⟩
set_option maxRecDepth 100000 in
set_option maxHeartbeats 1000000 in
theorem ltell_off {own : Nat → Prop} {B : Nat} {w : World} {d fr : Nat} {S : Ds} {pv : Value} {G : List Gp} (hd : DiskAt own w d S) (h : LdS B w d fr pv G) (n : Nat) (hn : n ≤ 99999998) (hlt : (fr : Int) ≤ (n : Int)) (hoff : S.off = true) :
    Calls Try.prog 37 #[.int .i64 (n : Int), .pointer (some ⟨B + 1, 0, none⟩), .pointer (some ⟨B, 0, none⟩), .pointer (some ⟨B + 2, 0, none⟩)] w fun e w' => e = .returned (.int .i64 50) ∧ Below w.heap.size w w' := by
  have c0 := h.c0
  have c1 := h.c1
  have hs := h.size
  have hB : B < w.heap.size := by omega
  have hE : S.lookE (lname n) = 50 := by unfold Ds.lookE askE; rw [if_pos (lname_ok n), if_pos hoff]; rfl
  have hF := Lib.hid (file_any n (by omega))
  have hR : ∀ w', Below w.heap.size w w' → Calls Try.prog 38 #[.pointer (some ⟨d, 0, none⟩), .string ⟨(lname n).toArray⟩] w' fun e w'' => e = .returned (.tuple #[.string ⟨(S.bytesOf (lname n)).toArray⟩, .int .i64 50]) ∧ Below w'.heap.size w' w'' := fun w' hb => by
    have := read_any (hd.below hb) ⟨(lname n).toArray⟩ (lname_size n)
    rw [show (⟨(lname n).toArray⟩ : ByteArray).data.toList = lname n from rfl, hE] at this
    exact this
  have HR := Lib.hid hR
  clear h hd hE hR hs
  go_enter Try.func37, Try.ntmps37
  go_wp2_with fail
  refine wp_region_below (by kernel_rfl) (by kernel_rfl) ?_
  repeat (first
    | go_big_quiet_skip
    | (go_big_quiet_want
       first
       | (refine BigFrame.quiet_move _ rfl ?_)
       | (refine BigFrame.quiet_assign _ rfl ?_)
       | (unfold Oper.quiet
          apply Exists.intro
          refine ⟨fun w' hw' => ?_, ?_⟩
          · (obtain ⟨hc', hf'⟩ := bcell hw'
             go_simp
             first
             | done
             | exact rfl
             | (go_at_call 29; refine (hF.out _).mono ?_; rintro e w'' ⟨rfl, bb⟩; exact ⟨rfl, bt hw' bb⟩)
             | (go_at_call 38; refine (HR.out _ hw').mono ?_; rintro e w'' ⟨rfl, bb⟩; exact ⟨rfl, bt hw' bb⟩)))
       go_big_quiet_on
       simp only [Act.put, Act.eval, List.setIfInBounds_toArray, List.set_cons_zero, List.set_cons_succ, Array.getD_eq_getD_getElem?, List.getElem?_toArray, List.getElem?_cons_zero, List.getElem?_cons_succ, Option.getD_some]))
  refine wpQuiet_nil ?_
  intro w' hw'
  go_wp2
  go_ret
  exact ⟨rfl, hw'⟩
set_option maxRecDepth 100000 in
set_option maxHeartbeats 2000000 in
theorem ltell_yes {own : Nat → Prop} {B : Nat} {w : World} {d fr : Nat} {S : Ds} {pv : Value} {G : List Gp} (hd : DiskAt own w d S) (h : LdS B w d fr pv G) (n : Nat) (hn : n ≤ 99999998) (hlt : (fr : Int) ≤ (n : Int)) (hoff : S.off = false) (f : Fl) (hg : getL (lname n) S.files = some f) (hl : f.bytes.length ≤ 4194304) (hG : G.length ≤ 256) :
    Calls Try.prog 37 #[.int .i64 (n : Int), .pointer (some ⟨B + 1, 0, none⟩), .pointer (some ⟨B, 0, none⟩), .pointer (some ⟨B + 2, 0, none⟩)] w fun e w' => e = .returned (.int .i64 0) ∧ ∃ pv' tv, LdS B w' d fr pv' (G ++ [⟨n, (fa f.bytes).1, tv⟩]) ∧ Keeps (Lone B w pv) w w' := by
  have c0 := h.c0
  have c1 := h.c1
  have hs := h.size
  have hB : B < w.heap.size := by omega
  have hE : S.lookE (lname n) = 0 := by
    have h0 : askE (namL (lname n)) S.off = 0 := by unfold askE; rw [if_pos (lname_ok n), hoff]; rfl
    unfold Ds.lookE; rw [if_pos h0, hg]; rfl
  have hbs : S.bytesOf (lname n) = f.bytes := by unfold Ds.bytesOf; rw [if_pos hE, hg]
  have hF := Lib.hid (file_any n (by omega))
  have hR : ∀ w', Below w.heap.size w w' → Calls Try.prog 38 #[.pointer (some ⟨d, 0, none⟩), .string ⟨(lname n).toArray⟩] w' fun e w'' => e = .returned (.tuple #[.string ⟨f.bytes.toArray⟩, .int .i64 0]) ∧ Below w'.heap.size w' w'' := fun w' hb => by
    have := read_any (hd.below hb) ⟨(lname n).toArray⟩ (lname_size n)
    rw [show (⟨(lname n).toArray⟩ : ByteArray).data.toList = lname n from rfl, hE, hbs] at this
    exact this
  have HR := Lib.hid hR
  obtain ⟨ts, hts⟩ : ∃ ts, ts = (fa f.bytes).1 := ⟨_, rfl⟩
  have hfal := fa_len _ f.bytes (Nat.le_refl _)
  have ha : ∀ w, Calls Try.prog 39 #[.string ⟨f.bytes.toArray⟩] w (FO f.bytes w) := fun w => all_own ⟨f.bytes.toArray⟩ w (by rw [size_mkl f.bytes]; omega)
  unfold FO at ha
  rw [← hts] at ha hfal ⊢
  have HA := Lib.hid ha
  clear ha hts
  have HL := Lib.hid h
  obtain ⟨i0, hi, hz0, hz1, hz2⟩ := info_parts infoPart
  have hfal := Lib.hid hfal
  clear h hd hE hR hg hbs hl
  go_enter Try.func37, Try.ntmps37
  go_wp2_with fail
  refine wp_region_below (by kernel_rfl) (by kernel_rfl) ?_
  repeat (first
    | go_big_quiet_skip
    | (go_big_quiet_want
       first
       | (refine BigFrame.quiet_move _ rfl ?_)
       | (refine BigFrame.quiet_assign _ rfl ?_)
       | (unfold Oper.quiet
          apply Exists.intro
          refine ⟨fun w' hw' => ?_, ?_⟩
          · (obtain ⟨hc', hf'⟩ := bcell hw'
             go_simp
             first
             | done
             | exact rfl
             | (go_at_call 29; refine (hF.out _).mono ?_; rintro e w'' ⟨rfl, bb⟩; exact ⟨rfl, bt hw' bb⟩)
             | (go_at_call 38; refine (HR.out _ hw').mono ?_; rintro e w'' ⟨rfl, bb⟩; exact ⟨rfl, bt hw' bb⟩)))
       go_big_quiet_on
       simp only [Act.put, Act.eval, List.setIfInBounds_toArray, List.set_cons_zero, List.set_cons_succ, Array.getD_eq_getD_getElem?, List.getElem?_toArray, List.getElem?_cons_zero, List.getElem?_cons_succ, Option.getD_some]))
  refine wpQuiet_nil ?_
  intro w' hw'
  have HW := Lib.hid hw'
  have hw1s := hw'.size
  clear hw'
  go_wp2_with fail
  refine (HA.out w').mono ?_
  rintro e w2 ⟨a, cap, rfl, hown, hb⟩
  have hb2 := bt HW.out hb
  have hL2 := HL.out.old hb2
  have c2 := hL2.c2
  have f2 := hL2.f2
  have hp := hL2.pa.row
  obtain ⟨pa, pc, rfl⟩ := row_slice hp
  have HO := Lib.hid hown
  have HB2 := Lib.hid hb2
  have hs2 := hL2.size
  have HP := Lib.hid hp
  clear hown hb hL2 hb2 HA
  go_wp2_with (at_builtin; refine wpList_append_own _ rfl _ _ 46 rfl (B + 3) 55 i0 (.agg #[.int .i64 0, .slice none 0 0]) 2 32 Try.underlying46 hi hz0 hz1 hz2 rfl (by decide) _ _ _ rfl (HP.out.alloc _) ⟨w2.heap.size, 0, none⟩ 1 1 [.int .i64 (n : Int), .slice a ts.length cap] rfl rfl ?c1 ?c2 ?c3 ?c4 ?c5 ?_)
  case c1 => exact cell_pair _ _ _ _
  case c2 => exact pair_one _ _ _ _
  case c3 => unfold maxLen; omega
  case c4 => omega
  case c5 => simp; omega
  · intro pv' w3 hown3 hgrow _
    have hal : Below w2.heap.size w2 (w2.alloc (.cells #[.int .i64 (n : Int), .slice a ts.length cap] 55)) := (Below.refl _ _).alloc (Nat.le_refl _) _
    have hst := HL.out.stored (g := ⟨n, ts, .slice a ts.length cap⟩) (bt HB2.out hal) hown3 hgrow (own_low (below_own HO.out hal) hw1s)
    have hc3 : w3.cell? ⟨B + 2, 0, none⟩ = some (.slice pa G.length pc) := by
      have e1 : w3.heap[B + 2]? = (w2.alloc (.cells #[.int .i64 (n : Int), .slice a ts.length cap] 55)).heap[B + 2]? := hgrow.block _ (by simp; omega) (fun e => by have := (HP.out.lt _ e.symm).1; omega)
      exact (World.cell?_of_block e1).trans ((hal.cell (p := ⟨B + 2, 0, none⟩) (by show B + 2 < _; omega)).trans c2)
    have hf3 : w3.frozen? ⟨B + 2, 0, none⟩ = false := by
      have e1 : w3.heap[B + 2]? = (w2.alloc (.cells #[.int .i64 (n : Int), .slice a ts.length cap] 55)).heap[B + 2]? := hgrow.block _ (by simp; omega) (fun e => by have := (HP.out.lt _ e.symm).1; omega)
      exact (World.frozen?_of_block e1).trans ((hal.frozen (p := ⟨B + 2, 0, none⟩) (by show B + 2 < _; omega)).trans f2)
    have hs3 : B + 2 < w3.heap.size := by have := hgrow.size; simp at this; omega
    obtain ⟨a3, cap3, rfl⟩ := row_slice hown3
    have HS := Lib.hid hst
    clear hst hown3 hgrow hal c2 f2
    go_wp2
    go_ret
    exact ⟨rfl, _, _, HS.out.1, HS.out.2⟩

/-! ### each, with load's closure -/
theorem bt' {B : Nat} {W w w1 : World} (e : B = W.heap.size) (h : Below W.heap.size W w) (k : Below w.heap.size w w1) : Below B W w1 := by rw [e]; exact bt h k
theorem load_none (fr : Nat) (F : List (List UInt8 × Fl)) (q : Nat) (h : q < F.length) (hp : partOf fr F[q] = none) : loadL fr (F.take (q + 1)) = loadL fr (F.take q) := by
  unfold loadL
  rw [List.take_succ_eq_append_getElem h, List.filterMap_append, List.filterMap_cons_none hp]
  simp
theorem load_some (fr : Nat) (F : List (List UInt8 × Fl)) (q : Nat) (h : q < F.length) {p : Nat × List (List UInt8)} (hp : partOf fr F[q] = some p) : loadL fr (F.take (q + 1)) = loadL fr (F.take q) ++ [p] := by
  unfold loadL
  rw [List.take_succ_eq_append_getElem h, List.filterMap_append, List.filterMap_cons_some hp]
  simp
/-- What each leaves, with load's closure. -/
def LeE (W : World) (d fr : Nat) (S : Ds) (e : Ending) (w' : World) : Prop := ∃ pv' G, LdS W.heap.size w' d fr pv' G ∧ Below W.heap.size W w' ∧
  ((e = .returned (.int .i64 0) ∧ G.map Gp.lt = loadL fr S.files ∧ (S.off = true → loadL fr S.files = [])) ∨ (e = .returned (.int .i64 50) ∧ S.off = true))
set_option maxRecDepth 100000 in
set_option maxHeartbeats 2000000 in
theorem leach_any {own : Nat → Prop} {W w : World} {d fr : Nat} {S : Ds} {pv : Value} (hd : DiskAt own W d S) (hb : Below W.heap.size W w) (h : LdS W.heap.size w d fr pv []) :
    Calls Try.prog 36 #[.pointer (some ⟨d, 0, none⟩), .func (.func 37) #[] #[.pointer (some ⟨W.heap.size + 1, 0, none⟩), .pointer (some ⟨W.heap.size, 0, none⟩), .pointer (some ⟨W.heap.size + 2, 0, none⟩)]] w (LeE W d fr S) := by
  obtain ⟨f1, f2, f3⟩ := hd.facts
  have hN := names_any (hd.below hb)
  obtain ⟨F, hF⟩ : ∃ F, F = S.files := ⟨_, rfl⟩
  rw [← hF] at hN f1 f2 f3
  have hBs := h.size
  obtain ⟨B, hB⟩ : ∃ B, B = W.heap.size := ⟨_, rfl⟩
  rw [← hB] at hBs
  have HF := Lib.hid hF
  have HD := Lib.hid hd
  have H := Lib.hid h
  have HB := Lib.hid hb
  have F1 := Lib.hid f1
  have F3 := Lib.hid f3
  have HBe := Lib.hid hB
  clear hd h hb f1 f3 hF
  rw [← hB] at H
  rw [← hB]
  clear hB
  go_enter Try.func36, Try.ntmps36
  go_wp2_with fail
  refine hN.mono ?_
  rintro e w1 ⟨v, rfl, hn, hb1⟩
  clear hN
  unfold NamesV at hn
  obtain ⟨na, ncap, rfl⟩ := own_slice hn
  have hlen : (F.map (·.1)).length = F.length := by simp
  rw [hlen] at hn
  have HN := Lib.hid (own_low hn hBs)
  have H1 := Lib.hid (H.out.old hb1)
  have HB1 := Lib.hid (bt' HBe.out HB.out hb1)
  clear hn H HB hb1
  rw [hlen]
  go_wp2
  go_loopw [13] (fun i wr => ∃ (q : Nat) (pv' : Value) (G : List Gp), i = .int .i64 q ∧ q ≤ F.length ∧ Hid (LdS B wr d fr pv' G) ∧ Below B W wr ∧ Hid (wr.ownsRow (B + 3) 9 1 (.slice na F.length ncap) F.length (sv (F.map (·.1)))) ∧ Hid (G.map Gp.lt = loadL fr (F.take q)) ∧ Hid (S.off = true → loadL fr (F.take q) = [])) (fun i _ => F.length - (intOf i).toNat)
  case atStart => exact ⟨0, _, [], rfl, Nat.zero_le _, H1, HB1.out, HN, Lib.hid rfl, Lib.hid fun _ => rfl⟩
  case round =>
    obtain ⟨q, pv', G, rfl, hq, hl, hbw, hn, hG, hO⟩ := hrel
    clear HN H1 HB1
    by_cases hlt : q < F.length
    · have hlti : (q : Int) < (F.length : Int) := by omega
      have hrd : Rd wr na (F.map (·.1)) := by
        have h := hn.out
        rw [← hlen] at h
        exact own_rd h
      obtain ⟨b, off, rfl, hbl, hcell⟩ : ∃ b off, na = some ⟨b, off, none⟩ ∧ b < wr.heap.size ∧ wr.cell? ⟨b, off + q, none⟩ = some (.string ⟨F[q].1.toArray⟩) := by
        rcases hrd with h | ⟨b, off, h1, h2, h3⟩
        · have : (F.map (·.1)).length = 0 := by rw [h]; rfl
          rw [hlen] at this; omega
        · refine ⟨b, off, h1, h2, ?_⟩
          rw [h3 q (by simpa using hlt)]
          simp
      clear hrd
      have hmem : F[q] ∈ F := List.getElem_mem hlt
      have hsz := (F3.out _ hmem).1
      have C := numbered_any ⟨F[q].1.toArray⟩ (by rw [size_mkl F[q].1]; exact hsz) wr
      unfold NumE at C
      rw [show (⟨F[q].1.toArray⟩ : ByteArray).data.toList = F[q].1 from rfl] at C
      have hcl : G.length ≤ 256 := by
        have h1 := congrArg List.length hG.out
        rw [List.length_map] at h1
        have h2 := List.length_filterMap_le (partOf fr) (F.take q)
        unfold loadL at h1
        rw [List.length_take] at h2
        omega
      cases hnum : numb F[q].1 with
      | none =>
        have hp : partOf fr F[q] = none := by unfold partOf; rw [hnum]
        have HP := Lib.hid (load_none fr F q hlt hp)
        rw [hnum] at C
        have HC := Lib.hid C
        clear C hp hnum hsz hmem
        generalize F[q].1 = nm at hcell HC
        go_wp2_with fail
        refine HC.out.mono ?_
        rintro e w2 ⟨⟨x, rfl, -⟩, rfl⟩
        clear HC hcell
        rw [show ((none : Option Nat)).isSome = false from rfl]
        go_wp2
        go_roundw
        case rel => exact ⟨q + 1, pv', G, by go_num, by omega, hl, hbw, hn, Lib.hid (by rw [HP.out]; exact hG.out), Lib.hid fun ho => by rw [HP.out]; exact hO.out ho⟩
        case measure => simp [intOf]; omega
      | some m =>
        have hm := numb_le hnum
        have hnm := numb_name hnum
        rw [hnum] at C
        have HC := Lib.hid C
        clear C hsz
        by_cases hfr : m < fr
        · have hp : partOf fr F[q] = none := by unfold partOf; rw [hnum]; simp only; rw [if_neg (by omega)]
          have HP := Lib.hid (load_none fr F q hlt hp)
          have T := Lib.hid (ltell_skip hl.out m hm (by omega))
          clear hp hnum hnm hmem
          generalize F[q].1 = nm at hcell HC
          go_wp2_with fail
          refine HC.out.mono ?_
          rintro e w2 ⟨⟨x, rfl, hx⟩, rfl⟩
          obtain rfl : x = (m : Int) := hx m rfl
          clear HC hcell hx
          rw [show (some m).isSome = true from rfl]
          go_wp2_with (go_at_call 37; refine T.out.mono ?_; rintro e w3 ⟨rfl, rfl⟩)
          go_roundw
          case rel => exact ⟨q + 1, pv', G, by go_num, by omega, hl, hbw, hn, Lib.hid (by rw [HP.out]; exact hG.out), Lib.hid fun ho => by rw [HP.out]; exact hO.out ho⟩
          case measure => simp [intOf]; omega
        · cases hoff : S.off with
          | true =>
            have T := Lib.hid (ltell_off (HD.out.below (by rw [← HBe.out]; exact hbw)) hl.out m hm (by omega) hoff)
            clear hnum hnm hmem
            generalize F[q].1 = nm at hcell HC
            have HOF := Lib.hid hoff
            clear hoff
            go_wp2_with fail
            refine HC.out.mono ?_
            rintro e w2 ⟨⟨x, rfl, hx⟩, rfl⟩
            obtain rfl : x = (m : Int) := hx m rfl
            clear HC hcell hx
            rw [show (some m).isSome = true from rfl]
            go_wp2_with (go_at_call 37; refine T.out.mono ?_; rintro e w3 ⟨rfl, hb3⟩)
            go_ret
            unfold LeE
            rw [← HBe.out]
            exact ⟨pv', G, hl.out.old hb3, hbw.trans (hb3.mono (by have := hl.out.size; omega)), .inr ⟨rfl, HOF.out⟩⟩
          | false =>
            have hget : getL (lname m) S.files = some F[q].2 := by
              rw [← HF.out, ← hnm]
              exact (getL_iff F1.out).2 hmem
            have T := Lib.hid (ltell_yes (HD.out.below (by rw [← HBe.out]; exact hbw)) hl.out m hm (by omega) hoff _ hget (F3.out _ hmem).2.2 hcl)
            have hp : partOf fr F[q] = some (m, (fa F[q].2.bytes).1) := by unfold partOf; rw [hnum]; simp only; rw [if_pos (by omega)]
            have HP := Lib.hid (load_some fr F q hlt hp)
            have HOF := Lib.hid hoff
            clear hp hnum hnm hmem hget hoff
            generalize F[q].2 = f at T HP
            generalize F[q].1 = nm at hcell HC
            go_wp2_with fail
            refine HC.out.mono ?_
            rintro e w2 ⟨⟨x, rfl, hx⟩, rfl⟩
            obtain rfl : x = (m : Int) := hx m rfl
            clear HC hcell hx
            rw [show (some m).isSome = true from rfl]
            go_wp2_with (go_at_call 37; refine T.out.mono ?_; rintro e w3 ⟨rfl, pv3, tv3, hl3, hk3⟩)
            have HK := Lib.hid hk3
            have HL3 := Lib.hid hl3
            clear hk3 hl3
            go_roundw
            case rel =>
              refine ⟨q + 1, pv3, _, by go_num, by omega, HL3, ?_, Lib.hid (lone_row hl.out HK.out hn.out (Nat.le_refl _)), Lib.hid ?_, Lib.hid fun ho => ?_⟩
              · exact hbw.trans (lone_below hl.out HK.out)
              · rw [HP.out, List.map_append, hG.out]; rfl
              · cases ho
            case measure => simp [intOf]; omega
    · have hqe : q = F.length := by omega
      have HQ := Lib.hid hqe
      have hlti : ¬ (q : Int) < (F.length : Int) := by omega
      clear hqe
      go_wp2
      go_ret
      unfold LeE
      rw [← HBe.out, ← HF.out]
      have h1 := hG.out
      have h2 := hO.out
      rw [HQ.out, List.take_length] at h1 h2
      exact ⟨pv', G, hl.out, hbw, .inl ⟨rfl, h1, h2⟩⟩

/-! ### load -/
theorem lds_start (w : World) (d fr : Nat) (t1 t2 t3 : TypeId) : LdS w.heap.size (((w.alloc (.cells #[.pointer (some ⟨d, 0, none⟩)] t1)).alloc (.cells #[.int .i64 (fr : Int)] t2)).alloc (.cells #[.slice none 0 0] t3)) d fr (.slice none 0 0) [] := by
  have s1 : (w.alloc (.cells #[.pointer (some ⟨d, 0, none⟩)] t1)).heap.size = w.heap.size + 1 := by simp
  have s2 : ((w.alloc (.cells #[.pointer (some ⟨d, 0, none⟩)] t1)).alloc (.cells #[.int .i64 (fr : Int)] t2)).heap.size = w.heap.size + 2 := by simp
  have h0 := heap_alloc_new w (.cells #[.pointer (some ⟨d, 0, none⟩)] t1)
  have h0 := (Below.heap_alloc _ (.cells #[.int .i64 (fr : Int)] t2) _ (by rw [s1]; omega)).trans h0
  have h0 := (Below.heap_alloc _ (.cells #[.slice none 0 0] t3) _ (by rw [s2]; omega)).trans h0
  have h1 := heap_alloc_new (w.alloc (.cells #[.pointer (some ⟨d, 0, none⟩)] t1)) (.cells #[.int .i64 (fr : Int)] t2)
  rw [s1] at h1
  have h1 := (Below.heap_alloc _ (.cells #[.slice none 0 0] t3) _ (by rw [s2]; omega)).trans h1
  have h2 := heap_alloc_new ((w.alloc (.cells #[.pointer (some ⟨d, 0, none⟩)] t1)).alloc (.cells #[.int .i64 (fr : Int)] t2)) (.cells #[.slice none 0 0] t3)
  rw [s2] at h2
  exact ⟨by simp, by rw [cell_of h0 0]; rfl, by rw [cell_of h1 0]; rfl, by rw [cell_of h2 0]; rfl, frozen_of h2 0, ⟨World.ownsRow_nil _ _ _ _, by simp, List.Pairwise.nil⟩⟩
set_option maxRecDepth 100000 in
set_option maxHeartbeats 1000000 in
theorem load_any {own : Nat → Prop} {w : World} {d fr : Nat} {S : Ds} (hd : DiskAt own w d S) :
    Calls Try.prog 20 #[.pointer (some ⟨d, 0, none⟩), .int .i64 (fr : Int)] w fun e w' => ∃ pv G, PartsAt w' w.heap.size pv G ∧ Below w.heap.size w w' ∧
      ((e = .returned (.tuple #[pv, .int .i64 0]) ∧ G.map Gp.lt = loadL fr S.files ∧ (S.off = true → loadL fr S.files = [])) ∨ (e = .returned (.tuple #[pv, .int .i64 50]) ∧ S.off = true)) := by
  have hb : Below w.heap.size w (((w.alloc (.cells #[.pointer (some ⟨d, 0, none⟩)] 25)).alloc (.cells #[.int .i64 (fr : Int)] 51)).alloc (.cells #[.slice none 0 0] 46)) := (((Below.refl _ _).alloc (Nat.le_refl _) _).alloc (by simp) _).alloc (by simp; omega) _
  have C := Lib.hid (leach_any hd hb (lds_start w d fr _ _ _))
  clear hd hb
  go_enter Try.func20, Try.ntmps20
  go_wp2_with fail
  refine C.out.mono ?_
  rintro e w2 ⟨pv, G, hl, hbw, hr⟩
  have c2 := hl.c2
  have HP := Lib.hid (hl.pa.mono (show w.heap.size ≤ w.heap.size + 3 by omega))
  have HB := Lib.hid hbw
  obtain ⟨a, cap, rfl⟩ := row_slice hl.pa.row
  clear C hl hbw
  rcases hr with ⟨rfl, h1, h2⟩ | ⟨rfl, h1⟩
  · have H1 := Lib.hid (And.intro h1 h2)
    clear h1 h2
    go_wp2
    go_ret2
    exact ⟨_, G, HP.out, HB.out, .inl ⟨rfl, H1.out.1, H1.out.2⟩⟩
  · go_wp2
    go_ret2
    exact ⟨_, G, HP.out, HB.out, .inr ⟨rfl, h1⟩⟩
end Go.Proofs.Ythikedhbjphmeaa
