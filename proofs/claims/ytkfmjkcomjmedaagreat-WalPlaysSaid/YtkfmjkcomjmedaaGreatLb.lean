/-
  Layer 6 (wal), contracts of Open and All. Conditions: a log of at most a million files, of at most 2^30 texts.
-/
import Derived.Test.YtkfmjkcomjmedaaGreatQI
import Derived.Test.YtkfmjkcomjmedaaGreatAp
namespace Go.Proofs.YtkfmjkcomjmedaaGreat
open Go.RowKit Go.Lib
set_option linter.unusedVariables false
set_option linter.unusedSimpArgs false

/-! ### Open -/
theorem open_arg {own : Nat → Prop} (p : Option Addr) (w : World) (fr : Int) (h : fr < 0 ∨ 1048576 < fr) : Calls Tryz.prog 15 #[.pointer p, .int .i64 fr] w fun e w' => e = .returned (.tuple #[.pointer none, .int .i64 1]) ∧ w = w' := by
  rcases h with h | h
  all_goals
    first | have h' : ¬ fr < 0 := by omega | skip
    go_enter Tryz.func15, Tryz.ntmps15
    go_wp2
    go_ret2
    exact ⟨rfl, rfl⟩
/-- What Open leaves. -/
def OpenP (own : Nat → Prop) (w : World) (d fr : Nat) (S : Ds) (e : Ending) (w' : World) : Prop :=
  Keeps own w w' ∧ (((S.opens fr).2.1 = 0 ∧ ∃ l, e = .returned (.tuple #[.pointer (some ⟨l, 0, none⟩), .int .i64 0]) ∧ WalAt own w' l d (S.opens fr).1 (S.opens fr).2.2) ∨
    ((S.opens fr).2.1 ≠ 0 ∧ e = .returned (.tuple #[.pointer none, .int .i64 (S.opens fr).2.1]) ∧ DiskAt own w' d (S.opens fr).1))
theorem opens_may {S : Ds} {fr : Nat} (h : mayE S (lastN fr (loadL fr S.files)) ≠ 0) : S.opens fr = (S, mayE S (lastN fr (loadL fr S.files)), []) := by
  unfold Ds.opens; rw [if_neg h]
theorem opens_rm {S : Ds} {fr : Nat} (h : mayE S (lastN fr (loadL fr S.files)) = 0) (h2 : (S.rm fr).2 ≠ 0) : S.opens fr = ((S.rm fr).1, (S.rm fr).2, []) := by
  unfold Ds.opens; rw [if_pos h, if_neg h2]
theorem opens_make {S : Ds} {fr : Nat} (h : mayE S (lastN fr (loadL fr S.files)) = 0) (h2 : (S.rm fr).2 = 0) : S.opens fr = (((S.rm fr).1.make (lname (lastN fr (loadL fr S.files)))).1, ((S.rm fr).1.make (lname (lastN fr (loadL fr S.files)))).2, loadL fr S.files ++ [(lastN fr (loadL fr S.files), [])]) := by
  unfold Ds.opens; rw [if_pos h, if_pos h2]
theorem load_num {fr : Nat} {F : List (List UInt8 × Fl)} : ∀ p ∈ loadL fr F, p.1 ≤ 99999998 := by
  intro p hp
  unfold loadL at hp
  obtain ⟨q, _, hq⟩ := List.mem_filterMap.1 hp
  unfold partOf at hq
  split at hq
  · rename_i n hn
    split at hq
    · cases hq; exact numb_le hn
    · cases hq
  · cases hq
theorem load_len (fr : Nat) (F : List (List UInt8 × Fl)) : (loadL fr F).length ≤ F.length := List.length_filterMap_le _ _
theorem lastN_snoc (fr : Nat) (L : Lt) (p : Nat × List (List UInt8)) : lastN fr (L ++ [p]) = p.1 + 1 := by unfold lastN; rw [List.getLast?_concat]
/-- A log is made of parts that were loaded. -/
theorem WalAt.made {own : Nat → Prop} {w w1 : World} {d : Nat} {S : Ds} {pv : Value} {G : List Gp} {L : Lt} {B : Nat} (hd : DiskAt (fun b => own b ∨ (B ≤ b ∧ b < w1.heap.size)) w d S) (hs : w1.heap.size ≤ w.heap.size) (ho : ∀ b, own b → b < B) (hp : PartsAt w B pv G)
    (hlt : (∀ r, pv.ownBlock = some r → r < w1.heap.size) ∧ ∀ g ∈ G, ∀ r, g.tv.ownBlock = some r → r < w1.heap.size) (hL : G.map Gp.lt = L) (hnum : ∀ p ∈ L, p.1 ≤ 99999998) :
    WalAt own (w.alloc (.cells #[.pointer (some ⟨w.heap.size, 0, none⟩), .pointer (some ⟨d, 0, none⟩), pv] 75)) w.heap.size d S L := by
  have hal : Below w.heap.size w (w.alloc (.cells #[.pointer (some ⟨w.heap.size, 0, none⟩), .pointer (some ⟨d, 0, none⟩), pv] 75)) := (Below.refl _ _).alloc (Nat.le_refl _) _
  refine ⟨fun b => (B ≤ b ∧ b < w1.heap.size) ∨ b = w.heap.size, pv, G, (hd.lent _).weaken fun b hb => ?_, ⟨heap_alloc_new w _, (hp.old hal).mono (Nat.zero_le _), .inr rfl, fun r hr => .inl ⟨(hp.row.lt r hr).1, hlt.1 r hr⟩, fun g hg r hr => .inl ⟨((hp.tx g hg).lt r hr).1, hlt.2 g hg r hr⟩, fun g hg => ?_⟩, hL, fun b hb hb' => ?_⟩
  · rcases hb with h | h | h
    · exact .inl (.inl h)
    · exact .inl (.inr h)
    · exact .inr h
  · have : g.lt ∈ L := by rw [← hL]; exact List.mem_map.2 ⟨g, hg, rfl⟩
    exact hnum _ this
  · have := ho b hb'
    have := hd.own (b := b) (.inl hb')
    rcases hb with h | h <;> omega
set_option maxRecDepth 100000 in
set_option maxHeartbeats 600000 in
theorem open_any {own : Nat → Prop} {w : World} {d fr : Nat} {S : Ds} (hd : DiskAt own w d S) (hfr : fr ≤ 1048576) :
    Calls Tryz.prog 15 #[.pointer (some ⟨d, 0, none⟩), .int .i64 (fr : Int)] w (OpenP own w d fr S) := by
  have hfi : (fr : Int) ≤ 1048576 := by omega
  have HD := Lib.hid hd
  have hLd := Lib.hid (load_any (fr := fr) hd)
  have hlen := Lib.hid (Nat.le_trans (load_len fr S.files) hd.facts.2.1)
  clear hd
  go_enter Tryz.func15, Tryz.ntmps15
  go_wp2_with fail
  refine hLd.out.mono ?_
  rintro e w1 ⟨pv, G, hp, hb1, hr⟩
  have HP := Lib.hid hp
  have HB1 := Lib.hid hb1
  obtain ⟨pa, pc, rfl⟩ := row_slice hp.row
  clear hLd hp hb1
  rcases hr with ⟨rfl, hL, hO⟩ | ⟨rfl, hoff⟩
  · have HL := Lib.hid hL
    have hGl : G.length ≤ 256 := by have := hlen.out; rw [← hL, List.length_map] at this; exact this
    clear hL hO
    obtain ⟨N, hN⟩ : ∃ N, N = lastN fr (loadL fr S.files) := ⟨_, rfl⟩
    have HN := Lib.hid hN
    have hN9 : N ≤ 99999999 := by
      rw [hN, ← HL.out]
      unfold lastN
      split
      · rename_i p hp
        have := load_num (fr := fr) (F := S.files) p (by rw [← HL.out]; exact List.mem_of_getLast? hp)
        omega
      · omega
    clear hN
    by_cases hG : G = []
    · have hNe : N = fr := by rw [HN.out, ← HL.out, hG]; rfl
      have hGl0 : G.length = 0 := by rw [hG]; rfl
      obtain rfl : fr = N := hNe.symm
      clear hG
      rw [hGl0] at HP ⊢
      clear hGl0
      go_wp2_with fail
      refine (mayMake_any (n := fr) (HD.out.below HB1.out) hN9).mono ?_
      rintro e w2 ⟨rfl, hb2⟩
      have HB2 := Lib.hid (bt HB1.out hb2)
      have HP2 := Lib.hid (HP.out.old hb2)
      have hs12 := hb2.size
      clear hb2
      have hM9 : Hid (mayE S fr = 0 → fr ≤ 99999998) := Lib.hid fun e => by
        rcases mayE_cases S fr with ⟨_, h⟩ | ⟨_, _, h⟩ | ⟨_, h, _⟩
        · rw [h] at e; cases e
        · rw [h] at e; cases e
        · exact h
      obtain ⟨M, hM⟩ : ∃ M, M = mayE S fr := ⟨_, rfl⟩
      rw [← hM] at hM9 ⊢
      have HM := Lib.hid hM
      clear hM
      by_cases hM0 : M = 0
      · subst hM0
        have hN8 := hM9.out rfl
        have hd2 := HD.out.fresh HB2.out
        have HD2 := Lib.hid hd2
        clear hd2
        go_wp2_with fail
        refine (removes_any (bl := (fr : Int)) HD2.out).mono ?_
        rintro e w3 ⟨rfl, hd3, hk3⟩
        have HD3 := Lib.hid hd3
        have HK3 := Lib.hid hk3
        clear hd3 hk3
        obtain ⟨⟨S1, R1⟩, hR⟩ : ∃ R, R = S.rm (fr : Int) := ⟨_, rfl⟩
        rw [← hR] at HD3 ⊢
        have HR := Lib.hid hR
        clear hR
        simp only at HD3 ⊢
        have HK4 := Lib.hid ((Keeps.of_below HB2.out fun b (hb : own b) => HD.out.own hb).trans (HK3.out.mono fun b (hb : own b) => .inl hb))
        by_cases hR0 : R1 = 0
        · subst hR0
          have hs3 := HK3.out.size
          have hp3 : PartsAt w3 w.heap.size (.slice pa 0 pc) G := HP2.out.same (fun r hr => HK3.out.block r (.inr ⟨(HP2.out.row.lt r hr).1, (HP2.out.row.lt r hr).2⟩)) (fun g hg r hr => HK3.out.block r (.inr ⟨((HP2.out.tx g hg).lt r hr).1, ((HP2.out.tx g hg).lt r hr).2⟩))
          have hw := WalAt.made (w1 := w2) HD3.out hs3 (fun b hb => HD.out.own hb) hp3 ⟨fun r hr => (HP2.out.row.lt r hr).2, fun g hg r hr => ((HP2.out.tx g hg).lt r hr).2⟩ HL.out load_num
          have HW := Lib.hid hw
          have hal : Below w3.heap.size w3 (w3.alloc (.cells #[.pointer (some ⟨w3.heap.size, 0, none⟩), .pointer (some ⟨d, 0, none⟩), .slice pa 0 pc] 75)) := (Below.refl _ _).alloc (Nat.le_refl _) _
          have HAL := Lib.hid (HK4.out.trans (Keeps.of_below hal fun b (hb : own b) => Nat.lt_of_lt_of_le (HD.out.own hb) HK4.out.size))
          clear hp3 hw hal
          go_wp2_with fail
          refine (grow_any (n := fr) HW.out hN8 (by have := hlen.out; omega)).mono ?_
          rintro e w4 ⟨rfl, hw4, hk4⟩
          have HK5 := Lib.hid (HAL.out.trans hk4)
          have HW4 := Lib.hid hw4
          clear hw4 hk4
          obtain ⟨⟨S2, E2⟩, hE⟩ : ∃ R, R = S1.make (lname fr) := ⟨_, rfl⟩
          rw [← hE] at HW4 ⊢
          have HE := Lib.hid hE
          clear hE
          simp only at HW4 ⊢
          have HOP : Hid (S.opens fr = (S2, E2, loadL fr S.files ++ [(fr, [])])) := Lib.hid (by
            have e := HN.out.symm
            rw [opens_make (by rw [e]; exact HM.out.symm) (by rw [← HR.out]), e, ← HR.out, ← HE.out])
          by_cases hE0 : E2 = 0
          · subst hE0
            rw [if_pos rfl] at HW4
            go_wp2
            go_ret2
            unfold OpenP
            rw [HOP.out]
            exact ⟨HK5.out, .inl ⟨rfl, _, rfl, HW4.out⟩⟩
          · rw [if_neg hE0] at HW4
            have hX : (E2 != 0) = true := by simpa using hE0
            go_wp2
            go_ret2
            unfold OpenP
            rw [HOP.out]
            exact ⟨HK5.out, .inr ⟨hE0, rfl, HW4.out.toDisk⟩⟩
        · have hX : (R1 != 0) = true := by simpa using hR0
          have HOP : Hid (S.opens fr = (S1, R1, [])) := Lib.hid (by
            have e := HN.out.symm
            rw [opens_rm (by rw [e]; exact HM.out.symm) (by rw [← HR.out]; exact hR0), ← HR.out])
          go_wp2
          go_ret2
          unfold OpenP
          rw [HOP.out]
          exact ⟨HK4.out, .inr ⟨hR0, rfl, HD3.out.weaken fun b hb => .inl hb⟩⟩
      · have hX : (M != 0) = true := by simpa using hM0
        have HOP : Hid (S.opens fr = (S, M, [])) := Lib.hid (by
          have e := HN.out.symm
          rw [opens_may (by rw [e, ← HM.out]; exact hM0), e, ← HM.out])
        go_wp2
        go_ret2
        unfold OpenP
        rw [HOP.out]
        exact ⟨Keeps.of_below HB2.out fun b hb => HD.out.own hb, .inr ⟨hM0, rfl, HD.out.below HB2.out⟩⟩
    · obtain ⟨G0, g, rfl⟩ : ∃ G0 g, G = G0 ++ [g] := ⟨G.dropLast, G.getLast hG, (List.dropLast_concat_getLast _).symm⟩
      have hNe : N = g.n + 1 := by rw [HN.out, ← HL.out, List.map_append, List.map_singleton, lastN_snoc]; rfl
      subst hNe
      have hlen2 : (G0 ++ [g]).length = G0.length + 1 := by simp
      rw [hlen2] at HP hGl ⊢
      have hrow := HP.out.row
      rw [hlen2] at hrow
      obtain ⟨pb, rfl, hpb⟩ : ∃ pb, pa = some ⟨pb, 0, none⟩ ∧ pb < w1.heap.size := by
        rcases hrow.2 with ⟨_, h0⟩ | ⟨pb, cap, cur, hv, _, hh, _⟩
        · omega
        · cases hv; exact ⟨pb, rfl, heap_lt hh⟩
      have hc := hrow.cellAt (G0.length * 2) (by omega)
      rw [(gcs_last G0 g).1] at hc
      clear hrow hlen2 hG
      have hq1 : (G0.length : Int) < (G0.length : Int) + 1 := by omega
      have hwr := i64_wrap_nat G0.length (by omega)
      have hgn : (g.n : Int) ≤ 99999998 := by omega
      go_wp2_with fail
      refine (mayMake_any (n := g.n + 1) (HD.out.below HB1.out) hN9).mono ?_
      rintro e w2 ⟨rfl, hb2⟩
      have HB2 := Lib.hid (bt HB1.out hb2)
      have HP2 := Lib.hid (HP.out.old hb2)
      have hs12 := hb2.size
      clear hb2
      have hM9 : Hid (mayE S (g.n + 1) = 0 → g.n + 1 ≤ 99999998) := Lib.hid fun e => by
        rcases mayE_cases S (g.n + 1) with ⟨_, h⟩ | ⟨_, _, h⟩ | ⟨_, h, _⟩
        · rw [h] at e; cases e
        · rw [h] at e; cases e
        · exact h
      obtain ⟨M, hM⟩ : ∃ M, M = mayE S (g.n + 1) := ⟨_, rfl⟩
      rw [← hM] at hM9 ⊢
      have HM := Lib.hid hM
      clear hM
      by_cases hM0 : M = 0
      · subst hM0
        have hN8 := hM9.out rfl
        have hd2 := HD.out.fresh HB2.out
        have HD2 := Lib.hid hd2
        clear hd2
        go_wp2_with fail
        refine (removes_any (bl := (fr : Int)) HD2.out).mono ?_
        rintro e w3 ⟨rfl, hd3, hk3⟩
        have HD3 := Lib.hid hd3
        have HK3 := Lib.hid hk3
        clear hd3 hk3
        obtain ⟨⟨S1, R1⟩, hR⟩ : ∃ R, R = S.rm (fr : Int) := ⟨_, rfl⟩
        rw [← hR] at HD3 ⊢
        have HR := Lib.hid hR
        clear hR
        simp only at HD3 ⊢
        have HK4 := Lib.hid ((Keeps.of_below HB2.out fun b (hb : own b) => HD.out.own hb).trans (HK3.out.mono fun b (hb : own b) => .inl hb))
        by_cases hR0 : R1 = 0
        · subst hR0
          have hs3 := HK3.out.size
          have hp3 : PartsAt w3 w.heap.size (.slice (some ⟨pb, 0, none⟩) (G0.length + 1) pc) (G0 ++ [g]) := HP2.out.same (fun r hr => HK3.out.block r (.inr ⟨(HP2.out.row.lt r hr).1, (HP2.out.row.lt r hr).2⟩)) (fun g hg r hr => HK3.out.block r (.inr ⟨((HP2.out.tx g hg).lt r hr).1, ((HP2.out.tx g hg).lt r hr).2⟩))
          have hw := WalAt.made (w1 := w2) HD3.out hs3 (fun b hb => HD.out.own hb) hp3 ⟨fun r hr => (HP2.out.row.lt r hr).2, fun g hg r hr => ((HP2.out.tx g hg).lt r hr).2⟩ HL.out load_num
          have HW := Lib.hid hw
          have hal : Below w3.heap.size w3 (w3.alloc (.cells #[.pointer (some ⟨w3.heap.size, 0, none⟩), .pointer (some ⟨d, 0, none⟩), .slice (some ⟨pb, 0, none⟩) (G0.length + 1) pc] 75)) := (Below.refl _ _).alloc (Nat.le_refl _) _
          have HAL := Lib.hid (HK4.out.trans (Keeps.of_below hal fun b (hb : own b) => Nat.lt_of_lt_of_le (HD.out.own hb) HK4.out.size))
          clear hp3 hw hal
          go_wp2_with fail
          refine (grow_any (n := g.n + 1) HW.out hN8 (by have := hlen.out; omega)).mono ?_
          rintro e w4 ⟨rfl, hw4, hk4⟩
          have HK5 := Lib.hid (HAL.out.trans hk4)
          have HW4 := Lib.hid hw4
          clear hw4 hk4
          obtain ⟨⟨S2, E2⟩, hE⟩ : ∃ R, R = S1.make (lname (g.n + 1)) := ⟨_, rfl⟩
          rw [← hE] at HW4 ⊢
          have HE := Lib.hid hE
          clear hE
          simp only at HW4 ⊢
          have HOP : Hid (S.opens fr = (S2, E2, loadL fr S.files ++ [(g.n + 1, [])])) := Lib.hid (by
            have e := HN.out.symm
            rw [opens_make (by rw [e]; exact HM.out.symm) (by rw [← HR.out]), e, ← HR.out, ← HE.out])
          by_cases hE0 : E2 = 0
          · subst hE0
            rw [if_pos rfl] at HW4
            go_wp2
            go_ret2
            unfold OpenP
            rw [HOP.out]
            exact ⟨HK5.out, .inl ⟨rfl, _, rfl, HW4.out⟩⟩
          · rw [if_neg hE0] at HW4
            have hX : (E2 != 0) = true := by simpa using hE0
            go_wp2
            go_ret2
            unfold OpenP
            rw [HOP.out]
            exact ⟨HK5.out, .inr ⟨hE0, rfl, HW4.out.toDisk⟩⟩
        · have hX : (R1 != 0) = true := by simpa using hR0
          have HOP : Hid (S.opens fr = (S1, R1, [])) := Lib.hid (by
            have e := HN.out.symm
            rw [opens_rm (by rw [e]; exact HM.out.symm) (by rw [← HR.out]; exact hR0), ← HR.out])
          go_wp2
          go_ret2
          unfold OpenP
          rw [HOP.out]
          exact ⟨HK4.out, .inr ⟨hR0, rfl, HD3.out.weaken fun b hb => .inl hb⟩⟩
      · have hX : (M != 0) = true := by simpa using hM0
        have HOP : Hid (S.opens fr = (S, M, [])) := Lib.hid (by
          have e := HN.out.symm
          rw [opens_may (by rw [e, ← HM.out]; exact hM0), e, ← HM.out])
        go_wp2
        go_ret2
        unfold OpenP
        rw [HOP.out]
        exact ⟨Keeps.of_below HB2.out fun b hb => HD.out.own hb, .inr ⟨hM0, rfl, HD.out.below HB2.out⟩⟩
  · have hX : mayE S (lastN fr (loadL fr S.files)) = 50 := by unfold mayE; rw [if_pos hoff]
    have HX := Lib.hid hX
    clear hoff hX
    go_wp2
    go_ret2
    unfold OpenP
    rw [opens_may (by rw [HX.out]; decide), HX.out]
    exact ⟨Keeps.of_below HB1.out fun b hb => HD.out.own hb, .inr ⟨by show (50 : Int) ≠ 0; decide, rfl, HD.out.below HB1.out⟩⟩

/-! ### All -/
def flat (L : Lt) : List (List UInt8) := L.flatMap (·.2)
theorem flat_append (L M : Lt) : flat (L ++ M) = flat L ++ flat M := by simp [flat]
theorem flat_one (n : Nat) (ts : List (List UInt8)) : flat [(n, ts)] = ts := by simp [flat]
theorem gcs_get : ∀ (G : List Gp) (q : Nat) (h : q < G.length), (gcs G)[q * 2]? = some (.int .i64 (G[q].n : Int)) ∧ (gcs G)[q * 2 + 1]? = some G[q].tv
  | g :: G, 0, _ => ⟨rfl, rfl⟩
  | g :: G, q + 1, h => by
    have ih := gcs_get G q (by simpa using h)
    have e : gcs (g :: G) = .int .i64 (g.n : Int) :: g.tv :: gcs G := rfl
    rw [e, show (q + 1) * 2 = q * 2 + 1 + 1 by omega, show q * 2 + 1 + 1 + 1 = (q * 2 + 1) + 1 + 1 by omega]
    simp only [List.getElem?_cons_succ, List.getElem_cons_succ]
    exact ih
theorem flat_step (G : List Gp) (q : Nat) (h : q < G.length) : flat ((G.take (q + 1)).map Gp.lt) = flat ((G.take q).map Gp.lt) ++ G[q].ts := by
  rw [List.take_succ_eq_append_getElem h, List.map_append, flat_append]
  simp [flat, Gp.lt]
theorem flat_le (G : List Gp) (q : Nat) : (flat ((G.take q).map Gp.lt)).length ≤ (flat (G.map Gp.lt)).length := by
  have e : G.map Gp.lt = (G.take q).map Gp.lt ++ (G.drop q).map Gp.lt := by rw [← List.map_append, List.take_append_drop]
  rw [e, flat_append, List.length_append]
  omega
set_option maxRecDepth 100000 in
set_option maxHeartbeats 600000 in
theorem logall_any {own : Nat → Prop} {w : World} {l d : Nat} {S : Ds} {L : Lt} (h : WalAt own w l d S L) (hb : (flat L).length ≤ 1073741824) (hlen : L.length ≤ 1000000) :
    Calls Tryz.prog 11 #[.pointer (some ⟨l, 0, none⟩)] w fun e w' => ∃ a cap, e = .returned (.slice a (flat L).length cap) ∧ w'.ownsRow w.heap.size 9 1 (.slice a (flat L).length cap) (flat L).length (sv (flat L)) ∧ Below w.heap.size w w' := by
  obtain ⟨lo, pv, G, -, hl, rfl, -⟩ := h
  have hg := lgiven_yes l w hl.cells.c0
  obtain ⟨c0, c1, c2, f2, lt⟩ := hl.cells
  obtain ⟨pa, pc, rfl⟩ := row_slice hl.pa.row
  rw [List.length_map] at hlen
  have HL := Lib.hid hl
  have HB := Lib.hid hb
  obtain ⟨i0, hi, hz0, hz1, hz2⟩ := info_parts Tryz.infoStr
  clear hl hb c1 f2
  go_enter Tryz.func11, Tryz.ntmps11
  go_wp2_with (go_at_call 31; refine hg.mono ?_; rintro e w' ⟨rfl, rfl⟩)
  clear hg c0 c2
  go_loopw [3, 14] (fun v i wr => ∃ (q : Nat) (V : Value), V = v ∧ i = .int .i64 q ∧ q ≤ G.length ∧ Hid (wr.ownsRow w.heap.size 9 1 V (flat ((G.take q).map Gp.lt)).length (sv (flat ((G.take q).map Gp.lt)))) ∧ Below w.heap.size w wr) (fun _ i _ => G.length - (intOf i).toNat)
  case atStart => exact ⟨0, _, rfl, rfl, Nat.zero_le _, Lib.hid (World.ownsRow_nil _ _ _ _), Below.refl _ _⟩
  case round =>
    obtain ⟨q, V, rfl, rfl, hq, hrow, hbw⟩ := hrel
    have hws := hbw.size
    by_cases hlt : q < G.length
    · have hlti : (q : Int) < (G.length : Int) := by omega
      have hp := HL.out.pa.old hbw
      have hpr := hp.row
      obtain ⟨pb, rfl, hpb⟩ : ∃ pb, pa = some ⟨pb, 0, none⟩ ∧ pb < wr.heap.size := by
        rcases hpr.2 with ⟨_, h0⟩ | ⟨pb, cap, cur, hv, _, hh, _⟩
        · omega
        · cases hv; exact ⟨pb, rfl, heap_lt hh⟩
      have k0 := (hpr.cellAt (q * 2) (by omega)).trans (gcs_get G q hlt).1
      have k1 := (hpr.cellAt (q * 2 + 1) (by omega)).trans (gcs_get G q hlt).2
      have htx := hp.tx _ (List.getElem_mem hlt)
      have hstep := flat_step G q hlt
      have hle := flat_le G (q + 1)
      rw [hstep, List.length_append] at hle
      have HS := Lib.hid hstep
      have hB := HB.out
      generalize hgg : G[q] = g at k0 k1 htx HS hle
      obtain ⟨ta, tc, htv⟩ := row_slice htx
      rw [htv] at k1 htx
      have hrd := own_rd htx
      have HT := Lib.hid htx
      clear hp hpr hgg htv hstep htx
      have hmt : (flat ((G.take q).map Gp.lt)).length + g.ts.length ≤ 1073741824 := by omega
      generalize hft : flat ((G.take q).map Gp.lt) = ft at hrow HS hmt
      have HR := Lib.hid hrd
      clear hrd hle hB
      go_wp2_with (at_builtin; refine wpList_append_any rfl _ _ 31 rfl w.heap.size 9 i0 (.string ⟨#[]⟩) 1 16 Tryz.underlying31 hi hz0 hz1 hz2 rfl (by decide) V ft.length (sv ft) rfl ?d0 ta g.ts.length tc (sv g.ts) rfl ?d1 ?d2 ?d3 ?d4 ?d5 ?d6 ?d7 ?_)
      case d0 => exact hrow.out.alloc _
      case d1 => exact HR.out.isNone
      case d2 => rw [sv_length]; omega
      case d3 => exact (HR.out.old ((Below.refl _ _).alloc (Nat.le_refl _) _)).news
      case d4 => exact sv_one _
      case d5 => unfold maxLen; omega
      case d6 => omega
      case d7 => simp; omega
      intro v' w2 hown2 hbel2
      rw [sv_append, ← List.length_append, ← HS.out] at hown2
      have hal : Below w.heap.size w (wr.alloc (.cells #[.int .i64 (g.n : Int), .slice ta g.ts.length tc] 78)) := hbw.alloc hws _
      have HO := Lib.hid hown2
      have HB2 := Lib.hid (hal.trans hbel2)
      clear hown2 hbel2 hal k0 k1
      go_wp2
      go_roundw
      case rel => exact ⟨q + 1, _, rfl, by go_num, by omega, HO, HB2.out⟩
      case measure => simp [intOf]; omega
    · have hqe : q = G.length := by omega
      subst hqe
      have hlti : ¬ (G.length : Int) < (G.length : Int) := by omega
      have hr := hrow.out
      rw [List.take_length] at hr
      obtain ⟨a, cap, rfl⟩ := row_slice hr
      have HR := Lib.hid hr
      clear hr hrow
      go_wp2
      go_ret
      exact ⟨a, cap, rfl, HR.out, hbw⟩
end Go.Proofs.YtkfmjkcomjmedaaGreat
