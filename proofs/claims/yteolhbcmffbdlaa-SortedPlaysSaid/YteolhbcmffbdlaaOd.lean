/-
  Layer 7 (sorted): the contract of the document's own cut. Conditions: none.
-/
import Derived.Test.YteolhbcmffbdlaaOc
namespace Go.Proofs.Yteolhbcmffbdlaa
open Go.RowKit
set_option linter.unusedVariables false
set_option linter.unusedSimpArgs false

theorem Try.strInfo : (Try.prog.info? 9).map (fun i => (i.zero, i.size, i.bytes)) = some (some (.string ⟨#[]⟩), 1, 16) := by kernel_rfl
theorem Try.intInfo : (Try.prog.info? 3).map (fun i => (i.zero, i.size, i.bytes)) = some (some (.int .i64 0), 1, 8) := by kernel_rfl
theorem own_under {w w' : World} {base t size n B : Nat} {v : Value} {xs : List Value} (h : w.ownsRow base t size v n xs) (hb : Below B w w') (hB : ∀ k, v.ownBlock = some k → k < B) : w'.ownsRow base t size v n xs := by
  rcases h.2 with h2 | ⟨g, cap, cur, hv, hbg, hh, h3⟩
  · exact ⟨h.1, .inl h2⟩
  · refine ⟨h.1, .inr ⟨g, cap, cur, hv, hbg, ?_, h3⟩⟩
    rw [hb.block g (hB g (by rw [hv]; rfl))]
    exact hh
theorem own_lower {w : World} {b b' t size n : Nat} {v : Value} {xs : List Value} (h : w.ownsRow b t size v n xs) (hb : b' ≤ b) : w.ownsRow b' t size v n xs := by
  rcases h.2 with h2 | ⟨g, cap, cur, hv, hbg, hh⟩
  · exact ⟨h.1, .inl h2⟩
  · exact ⟨h.1, .inr ⟨g, cap, cur, hv, Nat.le_trans hb hbg, hh⟩⟩
/-- What cut has in its four boxes. -/
def CutSt (B : Nat) (w W : World) (A1 A2 M1 M2 v1 v2 : Value) : Prop :=
  Below B w W ∧ B + 1 + 1 + 1 < W.heap.size ∧ (W.cell? ⟨B, 0, none⟩ = some A1 ∧ W.cell? ⟨B, 1, none⟩ = some A2 ∧ W.cell? ⟨B + 1, 0, none⟩ = some M1 ∧ W.cell? ⟨B + 1, 1, none⟩ = some M2) ∧
    ((∃ x, W.cell? ⟨B + 1 + 1, 0, none⟩ = some x) ∧ (∃ x, W.cell? ⟨B + 1 + 1, 1, none⟩ = some x) ∧ W.frozen? ⟨B + 1 + 1, 0, none⟩ = false ∧ W.frozen? ⟨B + 1 + 1, 1, none⟩ = false) ∧
    W.cell? ⟨B + 1 + 1 + 1, 0, none⟩ = some v1 ∧ W.cell? ⟨B + 1 + 1 + 1, 1, none⟩ = some v2 ∧ W.frozen? ⟨B + 1 + 1 + 1, 0, none⟩ = false ∧ W.frozen? ⟨B + 1 + 1 + 1, 1, none⟩ = false
theorem CutSt.next {B D : Nat} {w W W' : World} {A1 A2 M1 M2 v1 v2 : Value} (h : CutSt B w W A1 A2 M1 M2 v1 v2) (hb : Below D W W') (hD : B + 1 + 1 + 1 < D) : CutSt B w W' A1 A2 M1 M2 v1 v2 := by
  obtain ⟨h0, hs, ⟨a1, a2, a3, a4⟩, ⟨⟨x, r1⟩, ⟨y, r2⟩, r3, r4⟩, n1, n2, n3, n4⟩ := h
  refine ⟨h0.trans (hb.mono (by omega)), Nat.lt_of_lt_of_le hs hb.size, ⟨?_, ?_, ?_, ?_⟩, ⟨⟨x, ?_⟩, ⟨y, ?_⟩, ?_, ?_⟩, ?_, ?_, ?_, ?_⟩
  all_goals first
    | (rw [hb.cell (by simp only []; omega)]; assumption)
    | (rw [hb.frozen (by simp only []; omega)]; assumption)
theorem CutSt.set0 {B : Nat} {w W : World} {A1 A2 M1 M2 v1 v2 : Value} (h : CutSt B w W A1 A2 M1 M2 v1 v2) (u : Value) : CutSt B w (W.setCell ⟨B + 1 + 1 + 1, 0, none⟩ u) A1 A2 M1 M2 u v2 := by
  obtain ⟨h0, hs, ⟨a1, a2, a3, a4⟩, ⟨⟨x, r1⟩, ⟨y, r2⟩, r3, r4⟩, n1, n2, n3, n4⟩ := h
  refine ⟨h0.setCell (by simp only []; omega) _, by simpa [World.setCell] using hs, ⟨?_, ?_, ?_, ?_⟩, ⟨⟨x, ?_⟩, ⟨y, ?_⟩, ?_, ?_⟩, ?_, ?_, ?_, ?_⟩
  all_goals first
    | (rw [World.frozen?_setCell]; assumption)
    | exact World.cell?_setCell_same' _ _ _ (by rw [n1]; rfl)
    | (rw [World.cell?_setCell_other _ _ _ _ (by intro e; simp at e)]; assumption)
theorem CutSt.set1 {B : Nat} {w W : World} {A1 A2 M1 M2 v1 v2 : Value} (h : CutSt B w W A1 A2 M1 M2 v1 v2) (u : Value) : CutSt B w (W.setCell ⟨B + 1 + 1 + 1, 1, none⟩ u) A1 A2 M1 M2 v1 u := by
  obtain ⟨h0, hs, ⟨a1, a2, a3, a4⟩, ⟨⟨x, r1⟩, ⟨y, r2⟩, r3, r4⟩, n1, n2, n3, n4⟩ := h
  refine ⟨h0.setCell (by simp only []; omega) _, by simpa [World.setCell] using hs, ⟨?_, ?_, ?_, ?_⟩, ⟨⟨x, ?_⟩, ⟨y, ?_⟩, ?_, ?_⟩, ?_, ?_, ?_, ?_⟩
  all_goals first
    | (rw [World.frozen?_setCell]; assumption)
    | exact World.cell?_setCell_same' _ _ _ (by rw [n2]; rfl)
    | (rw [World.cell?_setCell_other _ _ _ _ (by intro e; simp at e)]; assumption)

set_option maxRecDepth 100000 in
set_option maxHeartbeats 8000000 in
theorem cut_any (a va ma ua : Option Addr) (cap vcap mcap ucap k many : Nat) (ks ms : List (List UInt8)) (vs us : List Int) (w : World) (ha : Rd w a ks) (hva : RdZ w va vs) (hma : Rd w ma ms) (hua : RdZ w ua us)
    (hk : k + many ≤ ks.length) (hv : vs.length = ks.length) (hu : us.length = ms.length) (hc : ks.length ≤ cap) (hvc : vs.length ≤ vcap) (hcm : cap ≤ maxLen) (hvm : vcap ≤ maxLen) (hl : ks.length ≤ 1000) (hml : ms.length ≤ 1000) :
    Calls Try.prog 30 #[.agg #[.slice a ks.length cap, .slice va vs.length vcap], .int .i64 (k : Nat), .int .i64 (many : Nat), .agg #[.slice ma ms.length mcap, .slice ua us.length ucap]] w fun e w' =>
      ∃ v1 v2, e = .returned (.agg #[v1, v2]) ∧ w'.ownsRow w.heap.size 9 1 v1 (k + ms.length + (ks.length - (k + many))) (sv (ks.take k ++ ms ++ ks.drop (k + many))) ∧
        w'.ownsRow w.heap.size 3 1 v2 (k + us.length + (vs.length - (k + many))) (iv (vs.take k ++ us ++ vs.drop (k + many))) ∧ Below w.heap.size w w' := by
  have HA := Lib.hid ha
  have HVA := Lib.hid hva
  have HMA := Lib.hid hma
  have HUA := Lib.hid hua
  have HC := Lib.hid hc
  have HVC := Lib.hid hvc
  obtain ⟨i0, hi, hz0, hz1, hz2⟩ := info_parts Try.strInfo
  obtain ⟨j0, hj, hy0, hy1, hy2⟩ := info_parts Try.intInfo
  obtain ⟨n, hn⟩ : ∃ n, n = ks.length := ⟨_, rfl⟩
  obtain ⟨vn, hvn⟩ : ∃ n, n = vs.length := ⟨_, rfl⟩
  obtain ⟨mn, hmn⟩ : ∃ n, n = ms.length := ⟨_, rfl⟩
  obtain ⟨un, hun⟩ : ∃ n, n = us.length := ⟨_, rfl⟩
  have HL1 : Hid ((ks.take k).length = k) := Lib.hid (by rw [List.length_take]; omega)
  have HL2 : Hid ((ks.drop (k + many)).length = n - (k + many)) := Lib.hid (by rw [List.length_drop, hn])
  have HL3 : Hid ((vs.take k).length = k) := Lib.hid (by rw [List.length_take]; omega)
  have HL4 : Hid ((vs.drop (k + many)).length = vn - (k + many)) := Lib.hid (by rw [List.length_drop, hvn])
  have HN := Lib.hid (And.intro hn (And.intro hvn (And.intro hmn hun)))
  rw [← hn] at hk hv hc hl ⊢
  rw [← hvn] at hv hvc ⊢
  rw [← hmn] at hu hml ⊢
  rw [← hun] at hu ⊢
  clear ha hva hma hua hn hvn hmn hun
  have hv' := hv.symm
  have hu' := hu.symm
  clear hv hu
  subst hv'
  subst hu'
  unfold maxLen at hcm hvm
  have hkc : k ≤ cap := by omega
  have hkc2 : (k : Int) ≤ (cap : Int) := by omega
  have hk0 : (0 : Int) ≤ (k : Int) := by omega
  have hkv : k ≤ vcap := by omega
  have hkv2 : (k : Int) ≤ (vcap : Int) := by omega
  have hkn2 : (k : Int) + (many : Int) ≤ (n : Int) := by omega
  have hkn0 : (0 : Int) ≤ (k : Int) + (many : Int) := by omega

  go_enter Try.func30, Try.ntmps30
  go_wp2_with fail
  obtain ⟨W, hW⟩ : ∃ W, W = ((((w.alloc (.cells #[.slice a n cap, .slice va n vcap] 28)).alloc (.cells #[.slice ma mn mcap, .slice ua mn ucap] 28)).alloc (.cells #[.slice none 0 0, .slice none 0 0] 28)).alloc (.cells #[.slice none 0 0, .slice none 0 0] 28)) := ⟨_, rfl⟩
  have S := Lib.hid (show CutSt w.heap.size w W (.slice a n cap) (.slice va n vcap) (.slice ma mn mcap) (.slice ua mn ucap) (.slice none 0 0) (.slice none 0 0) from by
    rw [hW]
    refine ⟨((((Below.refl _ w).alloc (Nat.le_refl _) _).alloc (by simp) _).alloc (by simp; omega) _).alloc (by simp; omega) _, by simp, ⟨?_, ?_, ?_, ?_⟩, ⟨⟨.slice none 0 0, ?_⟩, ⟨.slice none 0 0, ?_⟩, ?_, ?_⟩, ?_, ?_, ?_, ?_⟩ <;> go_simp)
  rw [← hW]
  clear hW
  obtain ⟨hB0, hs0, ⟨a1, a2, a3, a4⟩, _, n1, n2, f1, f2⟩ := S.out
  have b0 : w.heap.size < W.heap.size := by omega
  have b1 : w.heap.size + 1 < W.heap.size := by omega
  refine below_tail 6 (by kernel_rfl) (by kernel_rfl) ?_
  simp only [List.take_succ_cons, List.take_zero, List.drop_succ_cons, List.drop_zero]
  repeat (first
    | go_big_quiet_skip
    | (go_big_quiet_want
       first
       | (refine BigFrame.quiet_move _ rfl ?_)
       | (refine BigFrame.quiet_assign _ rfl ?_)
       | (unfold Oper.quiet
          apply Exists.intro
          refine ⟨fun w' hw' => ?_, ?_⟩
          · (obtain ⟨hc', hf'⟩ := bcell hw'
             go_simp
             first
             | done
             | exact rfl))
       go_big_quiet_on
       simp only [Act.put, Act.eval, List.setIfInBounds_toArray, List.set_cons_zero, List.set_cons_succ, Array.getD_eq_getD_getElem?, List.getElem?_toArray, List.getElem?_cons_zero, List.getElem?_cons_succ, Option.getD_some]))
  refine wpQuiet_nil ?_
  intro w' hw'
  have S1 := Lib.hid (S.out.next hw' hs0)
  have R1 := Lib.hid ((HA.out.old S1.out.1).take k)
  clear hB0 hs0 a1 a2 a3 a4 n1 n2 f1 f2 hw'
  obtain ⟨hB0, hs0, ⟨a1, a2, a3, a4⟩, _, n1, n2, f1, f2⟩ := S1.out
  go_wp2_with (at_builtin; refine wpList_append_any rfl (.tmp 12) (.tmp 16) 25 rfl (w.heap.size + 1 + 1 + 1 + 1) 9 i0 (.string ⟨#[]⟩) 1 16 Try.underlying25 hi hz0 hz1 hz2 rfl (by decide) _ 0 [] rfl (World.ownsRow_nil _ _ _ _) a k cap (sv (ks.take k)) rfl (fun h => HL1.out.symm.trans (R1.out.isNone h)) (by rw [sv_length]; exact HL1.out.trans (Nat.mul_one k).symm) R1.out.news (sv_one _) (by unfold maxLen; omega) (by omega) hs0 ?_)
  intro v1 w2 own1 bl2
  have S2 := Lib.hid (S1.out.next bl2 (Nat.lt_succ_self _))
  clear hB0 hs0 a1 a2 a3 a4 n1 n2 f1 f2 S1 R1 S b0 b1
  obtain ⟨x1, c1, rfl⟩ := own_slice own1
  have S3 := Lib.hid (S2.out.set0 (.slice x1 k c1))
  have O3 := Lib.hid (ownsRow_setCell_below own1 (a := ⟨w.heap.size + 1 + 1 + 1, 0, none⟩) (Nat.lt_succ_self _) (.slice x1 k c1))
  have R3 := Lib.hid (HMA.out.old S3.out.1)
  clear own1 bl2
  obtain ⟨hB0, hs0, ⟨a1, a2, a3, a4⟩, _, n1, n2, f1, f2⟩ := S2.out
  have s3 := S3.out.2.1
  go_wp2_with (at_builtin; refine wpList_append_any rfl (.tmp 20) (.tmp 22) 25 rfl (w.heap.size + 1 + 1 + 1 + 1) 9 i0 (.string ⟨#[]⟩) 1 16 Try.underlying25 hi hz0 hz1 hz2 rfl (by decide) _ k (sv (ks.take k)) rfl O3.out ma mn mcap (sv ms) rfl (fun h => HN.out.2.2.1.trans (R3.out.isNone h)) (by rw [sv_length]; exact HN.out.2.2.1.symm.trans (Nat.mul_one mn).symm) R3.out.news (sv_one _) (by unfold maxLen; omega) (by omega) s3 ?_)
  intro v2 w4 own2 bl4
  have S4 := Lib.hid (S3.out.next bl4 (Nat.lt_succ_self _))
  clear hB0 hs0 a1 a2 a3 a4 n1 n2 f1 f2 S2 S3 O3 R3 s3
  rw [sv_append] at own2
  obtain ⟨x2, c2, rfl⟩ := own_slice own2
  have S5 := Lib.hid (S4.out.set0 (.slice x2 (k + mn) c2))
  have O5 := Lib.hid (ownsRow_setCell_below own2 (a := ⟨w.heap.size + 1 + 1 + 1, 0, none⟩) (Nat.lt_succ_self _) (.slice x2 (k + mn) c2))
  clear own2 bl4
  obtain ⟨hB0, hs0, ⟨a1, a2, a3, a4⟩, _, n1, n2, f1, f2⟩ := S4.out
  go_wp2_with fail
  generalize w4.setCell ⟨w.heap.size + 1 + 1 + 1, 0, none⟩ (.slice x2 (k + mn) c2) = W5 at *
  clear hB0 hs0 a1 a2 a3 a4 n1 n2 f1 f2 S4
  obtain ⟨hB0, hs0, ⟨a1, a2, a3, a4⟩, _, n1, n2, f1, f2⟩ := S5.out
  have b0 : w.heap.size < W5.heap.size := by omega
  have b1 : w.heap.size + 1 < W5.heap.size := by omega
  obtain ⟨q, hq⟩ : ∃ q, q = k + many := ⟨_, rfl⟩
  have hwr : IntKind.i64.wrap ((k : Int) + (many : Int)) = (q : Int) := by rw [hq, IntKind.wrap_i64]; omega
  have hqn : q ≤ n := by omega
  have hqn2 : (q : Int) ≤ (n : Int) := by omega
  have hq0 : (0 : Int) ≤ (q : Int) := by omega
  have HQ := Lib.hid hq
  clear hq hkn2 hkn0
  refine below_tail 8 (by kernel_rfl) (by kernel_rfl) ?_
  simp only [List.take_succ_cons, List.take_zero, List.drop_succ_cons, List.drop_zero]
  repeat (first
    | go_big_quiet_skip
    | (go_big_quiet_want
       first
       | (refine BigFrame.quiet_move _ rfl ?_)
       | (refine BigFrame.quiet_assign _ rfl ?_)
       | (unfold Oper.quiet
          apply Exists.intro
          refine ⟨fun w' hw' => ?_, ?_⟩
          · (obtain ⟨hc', hf'⟩ := bcell hw'
             go_simp
             first
             | done
             | exact rfl))
       go_big_quiet_on
       simp only [Act.put, Act.eval, List.setIfInBounds_toArray, List.set_cons_zero, List.set_cons_succ, Array.getD_eq_getD_getElem?, List.getElem?_toArray, List.getElem?_cons_zero, List.getElem?_cons_succ, Option.getD_some]))
  refine wpQuiet_nil ?_
  intro w' hw'
  have S6 := Lib.hid (S5.out.next hw' hs0)
  have R6 := Lib.hid ((HA.out.old S6.out.1).cut (l := q) (by have := HN.out.1; omega) HC.out)
  have O6 := Lib.hid (below_own O5.out hw')
  clear hB0 hs0 a1 a2 a3 a4 n1 n2 f1 f2 hw' b0 b1 S5 O5
  obtain ⟨hB0, hs0, ⟨a1, a2, a3, a4⟩, _, n1, n2, f1, f2⟩ := S6.out
  obtain ⟨ad, hAd⟩ : ∃ ad, ad = (if cap = q then a else Option.map (fun x => x.add q) a) := ⟨_, rfl⟩
  rw [← hAd]
  have R7 : Hid (Rd w' ad (ks.drop q)) := Lib.hid (by rw [hAd]; exact R6.out)
  clear hAd
  have HL5 : Hid ((ks.drop q).length = n - q) := Lib.hid (by rw [HQ.out]; exact HL2.out)
  go_wp2_with (at_builtin; refine wpList_append_any rfl (.tmp 26) (.tmp 32) 25 rfl (w.heap.size + 1 + 1 + 1 + 1) 9 i0 (.string ⟨#[]⟩) 1 16 Try.underlying25 hi hz0 hz1 hz2 rfl (by decide) _ (k + mn) (sv (ks.take k ++ ms)) rfl O6.out ad (n - q) (cap - q) (sv (ks.drop q)) rfl (fun h => HL5.out.symm.trans (R7.out.isNone h)) (by rw [sv_length]; exact HL5.out.trans (Nat.mul_one _).symm) R7.out.news (sv_one _) (by unfold maxLen; omega) (by omega) hs0 ?_)
  intro v3 w7 own3 bl7
  have S7 := Lib.hid (S6.out.next bl7 (Nat.lt_succ_self _))
  clear hB0 hs0 a1 a2 a3 a4 n1 n2 f1 f2 S6 O6 R6 R7
  rw [sv_append] at own3
  obtain ⟨x3, c3, rfl⟩ := own_slice own3
  have S8 := Lib.hid (S7.out.set0 (.slice x3 (k + mn + (n - q)) c3))
  have O8 := Lib.hid (ownsRow_setCell_below own3 (a := ⟨w.heap.size + 1 + 1 + 1, 0, none⟩) (Nat.lt_succ_self _) (.slice x3 (k + mn + (n - q)) c3))
  clear own3 bl7
  obtain ⟨hB0, hs0, ⟨a1, a2, a3, a4⟩, _, n1, n2, f1, f2⟩ := S7.out
  go_wp2_with fail
  generalize w7.setCell ⟨w.heap.size + 1 + 1 + 1, 0, none⟩ (.slice x3 (k + mn + (n - q)) c3) = W8 at *
  clear hB0 hs0 a1 a2 a3 a4 n1 n2 f1 f2 S7
  have HG := Lib.hid (fun g e => (O8.out.lt g e).2)
  obtain ⟨hB0, hs0, ⟨a1, a2, a3, a4⟩, _, n1, n2, f1, f2⟩ := S8.out
  have b0 : w.heap.size < W8.heap.size := by omega
  have b1 : w.heap.size + 1 < W8.heap.size := by omega
  have HW8 := Lib.hid hs0
  refine below_tail 6 (by kernel_rfl) (by kernel_rfl) ?_
  simp only [List.take_succ_cons, List.take_zero, List.drop_succ_cons, List.drop_zero]
  repeat (first
    | go_big_quiet_skip
    | (go_big_quiet_want
       first
       | (refine BigFrame.quiet_move _ rfl ?_)
       | (refine BigFrame.quiet_assign _ rfl ?_)
       | (unfold Oper.quiet
          apply Exists.intro
          refine ⟨fun w' hw' => ?_, ?_⟩
          · (obtain ⟨hc', hf'⟩ := bcell hw'
             go_simp
             first
             | done
             | exact rfl))
       go_big_quiet_on
       simp only [Act.put, Act.eval, List.setIfInBounds_toArray, List.set_cons_zero, List.set_cons_succ, Array.getD_eq_getD_getElem?, List.getElem?_toArray, List.getElem?_cons_zero, List.getElem?_cons_succ, Option.getD_some]))
  refine wpQuiet_nil ?_
  intro w' hw'
  have S9 := Lib.hid (S8.out.next hw' hs0)
  have R9 := Lib.hid ((HVA.out.old S9.out.1).take k)
  have O9 := Lib.hid (below_own O8.out hw')
  have Z9 := Lib.hid hw'.size
  clear hB0 hs0 a1 a2 a3 a4 n1 n2 f1 f2 hw' b0 b1 S8 O8
  obtain ⟨hB0, hs0, ⟨a1, a2, a3, a4⟩, _, n1, n2, f1, f2⟩ := S9.out
  have z9 := Z9.out
  go_wp2_with (at_builtin; refine wpList_append_any rfl (.tmp 36) (.tmp 40) 26 rfl W8.heap.size 3 j0 (.int .i64 0) 1 8 Try.underlying26 hj hy0 hy1 hy2 rfl (by decide) _ 0 [] rfl (World.ownsRow_nil _ _ _ _) va k vcap (iv (vs.take k)) rfl (fun h => HL3.out.symm.trans (R9.out.isNone h)) (by rw [iv_length]; exact HL3.out.trans (Nat.mul_one k).symm) R9.out.news (iv_one _) (by unfold maxLen; omega) (by omega) z9 ?_)
  intro v4 w10 own4 bl10
  have S10 := Lib.hid (S9.out.next bl10 HW8.out)
  have O10 := Lib.hid (own_under O9.out bl10 HG.out)
  clear hB0 hs0 a1 a2 a3 a4 n1 n2 f1 f2 S9 R9 O9
  obtain ⟨y1, d1, rfl⟩ := own_slice own4
  have S11 := Lib.hid (S10.out.set1 (.slice y1 k d1))
  have O11 := Lib.hid (ownsRow_setCell_below O10.out (a := ⟨w.heap.size + 1 + 1 + 1, 1, none⟩) (Nat.lt_succ_self _) (.slice y1 k d1))
  have N11 := Lib.hid (ownsRow_setCell_below own4 (a := ⟨w.heap.size + 1 + 1 + 1, 1, none⟩) HW8.out (.slice y1 k d1))
  have R11 := Lib.hid (HUA.out.old S11.out.1)
  have Z11 := Lib.hid (show W8.heap.size ≤ (w10.setCell ⟨w.heap.size + 1 + 1 + 1, 1, none⟩ (.slice y1 k d1)).heap.size from by have := bl10.size; have := Z9.out; simp [World.setCell]; omega)
  clear own4 bl10 O10 z9 Z9
  obtain ⟨hB0, hs0, ⟨a1, a2, a3, a4⟩, _, n1, n2, f1, f2⟩ := S10.out
  have z11 := Z11.out
  go_wp2_with (at_builtin; refine wpList_append_any rfl (.tmp 44) (.tmp 46) 26 rfl W8.heap.size 3 j0 (.int .i64 0) 1 8 Try.underlying26 hj hy0 hy1 hy2 rfl (by decide) _ k (iv (vs.take k)) rfl N11.out ua mn ucap (iv us) rfl (fun h => HN.out.2.2.2.trans (R11.out.isNone h)) (by rw [iv_length]; exact HN.out.2.2.2.symm.trans (Nat.mul_one mn).symm) R11.out.news (iv_one _) (by unfold maxLen; omega) (by omega) z11 ?_)
  intro v5 w12 own5 bl12
  have S12 := Lib.hid (S11.out.next bl12 HW8.out)
  have O12 := Lib.hid (own_under O11.out bl12 HG.out)
  clear hB0 hs0 a1 a2 a3 a4 n1 n2 f1 f2 S10 S11 O11 N11 R11
  rw [iv_append] at own5
  obtain ⟨y2, d2, rfl⟩ := own_slice own5
  have S13 := Lib.hid (S12.out.set1 (.slice y2 (k + mn) d2))
  have O13 := Lib.hid (ownsRow_setCell_below O12.out (a := ⟨w.heap.size + 1 + 1 + 1, 1, none⟩) (Nat.lt_succ_self _) (.slice y2 (k + mn) d2))
  have N13 := Lib.hid (ownsRow_setCell_below own5 (a := ⟨w.heap.size + 1 + 1 + 1, 1, none⟩) HW8.out (.slice y2 (k + mn) d2))
  have Z13 := Lib.hid (show W8.heap.size ≤ (w12.setCell ⟨w.heap.size + 1 + 1 + 1, 1, none⟩ (.slice y2 (k + mn) d2)).heap.size from by have h1 := bl12.size; have h2 := Z11.out; simp only [World.setCell, Array.size_modify] at h1 h2 ⊢; omega)
  clear own5 bl12 O12 z11 Z11
  obtain ⟨hB0, hs0, ⟨a1, a2, a3, a4⟩, _, n1, n2, f1, f2⟩ := S12.out
  go_wp2_with fail
  generalize w12.setCell ⟨w.heap.size + 1 + 1 + 1, 1, none⟩ (.slice y2 (k + mn) d2) = W13 at *
  clear hB0 hs0 a1 a2 a3 a4 n1 n2 f1 f2 S12
  obtain ⟨hB0, hs0, ⟨a1, a2, a3, a4⟩, _, n1, n2, f1, f2⟩ := S13.out
  have b0 : w.heap.size < W13.heap.size := by omega
  have b1 : w.heap.size + 1 < W13.heap.size := by omega
  refine below_tail 8 (by kernel_rfl) (by kernel_rfl) ?_
  simp only [List.take_succ_cons, List.take_zero, List.drop_succ_cons, List.drop_zero]
  repeat (first
    | go_big_quiet_skip
    | (go_big_quiet_want
       first
       | (refine BigFrame.quiet_move _ rfl ?_)
       | (refine BigFrame.quiet_assign _ rfl ?_)
       | (unfold Oper.quiet
          apply Exists.intro
          refine ⟨fun w' hw' => ?_, ?_⟩
          · (obtain ⟨hc', hf'⟩ := bcell hw'
             go_simp
             first
             | done
             | exact rfl))
       go_big_quiet_on
       simp only [Act.put, Act.eval, List.setIfInBounds_toArray, List.set_cons_zero, List.set_cons_succ, Array.getD_eq_getD_getElem?, List.getElem?_toArray, List.getElem?_cons_zero, List.getElem?_cons_succ, Option.getD_some]))
  refine wpQuiet_nil ?_
  intro w' hw'
  have S14 := Lib.hid (S13.out.next hw' hs0)
  have R14 := Lib.hid ((HVA.out.old S14.out.1).cut (l := q) (by have := HN.out.2.1; omega) HVC.out)
  have O14 := Lib.hid (below_own O13.out hw')
  have N14 := Lib.hid (below_own N13.out hw')
  have Z14 := Lib.hid (Nat.le_trans Z13.out hw'.size)
  clear hB0 hs0 a1 a2 a3 a4 n1 n2 f1 f2 hw' b0 b1 S13 O13 N13 Z13
  obtain ⟨hB0, hs0, ⟨a1, a2, a3, a4⟩, _, n1, n2, f1, f2⟩ := S14.out
  obtain ⟨vd, hVd⟩ : ∃ vd, vd = (if vcap = q then va else Option.map (fun x => x.add q) va) := ⟨_, rfl⟩
  rw [← hVd]
  have R15 : Hid (RdZ w' vd (vs.drop q)) := Lib.hid (by rw [hVd]; exact R14.out)
  clear hVd
  have HL6 : Hid ((vs.drop q).length = n - q) := Lib.hid (by rw [HQ.out]; exact HL4.out)
  have z14 := Z14.out
  go_wp2_with (at_builtin; refine wpList_append_any rfl (.tmp 50) (.tmp 56) 26 rfl W8.heap.size 3 j0 (.int .i64 0) 1 8 Try.underlying26 hj hy0 hy1 hy2 rfl (by decide) _ (k + mn) (iv (vs.take k ++ us)) rfl N14.out vd (n - q) (vcap - q) (iv (vs.drop q)) rfl (fun h => HL6.out.symm.trans (R15.out.isNone h)) (by rw [iv_length]; exact HL6.out.trans (Nat.mul_one _).symm) R15.out.news (iv_one _) (by unfold maxLen; omega) (by omega) z14 ?_)
  intro v6 w15 own6 bl15
  have S15 := Lib.hid (S14.out.next bl15 HW8.out)
  have O15 := Lib.hid (own_under O14.out bl15 HG.out)
  clear hB0 hs0 a1 a2 a3 a4 n1 n2 f1 f2 S14 O14 N14 R14 R15 z14 Z14
  rw [iv_append] at own6
  obtain ⟨y3, d3, rfl⟩ := own_slice own6
  have S16 := Lib.hid (S15.out.set1 (.slice y3 (k + mn + (n - q)) d3))
  have O16 := Lib.hid (ownsRow_setCell_below O15.out (a := ⟨w.heap.size + 1 + 1 + 1, 1, none⟩) (Nat.lt_succ_self _) (.slice y3 (k + mn + (n - q)) d3))
  have N16 := Lib.hid (ownsRow_setCell_below own6 (a := ⟨w.heap.size + 1 + 1 + 1, 1, none⟩) HW8.out (.slice y3 (k + mn + (n - q)) d3))
  clear own6 bl15 O15
  obtain ⟨hB0, hs0, ⟨a1, a2, a3, a4⟩, _, n1, n2, f1, f2⟩ := S15.out
  obtain ⟨-, -, -, ⟨⟨xx, r1⟩, ⟨yy, r2⟩, r3, r4⟩, -⟩ := S15.out
  go_wp2_with fail
  clear hB0 hs0 a1 a2 a3 a4 n1 n2 f1 f2 r1 r2 r3 r4 S15
  generalize w15.setCell ⟨w.heap.size + 1 + 1 + 1, 1, none⟩ (.slice y3 (k + mn + (n - q)) d3) = W16 at *
  obtain ⟨hB0, hs0, -, ⟨⟨xx, r1⟩, ⟨yy, r2⟩, r3, r4⟩, -⟩ := S16.out
  have c0 : ((W16.setCell ⟨w.heap.size + 1 + 1, 0, none⟩ (.slice x3 (k + mn + (n - q)) c3)).setCell ⟨w.heap.size + 1 + 1, 1, none⟩ (.slice y3 (k + mn + (n - q)) d3)).cell? ⟨w.heap.size + 1 + 1, 0, none⟩ = some (.slice x3 (k + mn + (n - q)) c3) := by
    rw [World.cell?_setCell_other _ _ _ _ (by intro e; simp at e)]
    exact World.cell?_setCell_same' _ _ _ (by rw [r1]; rfl)
  have c1 : ((W16.setCell ⟨w.heap.size + 1 + 1, 0, none⟩ (.slice x3 (k + mn + (n - q)) c3)).setCell ⟨w.heap.size + 1 + 1, 1, none⟩ (.slice y3 (k + mn + (n - q)) d3)).cell? ⟨w.heap.size + 1 + 1, 1, none⟩ = some (.slice y3 (k + mn + (n - q)) d3) := by
    refine World.cell?_setCell_same' _ _ _ ?_
    rw [World.cell?_setCell_other _ _ _ _ (by intro e; simp at e), r2]; rfl
  have hB : Below w.heap.size w ((W16.setCell ⟨w.heap.size + 1 + 1, 0, none⟩ (.slice x3 (k + mn + (n - q)) c3)).setCell ⟨w.heap.size + 1 + 1, 1, none⟩ (.slice y3 (k + mn + (n - q)) d3)) :=
    (hB0.setCell (by show w.heap.size ≤ w.heap.size + 1 + 1; omega) _).setCell (by show w.heap.size ≤ w.heap.size + 1 + 1; omega) _
  have hw8 := HW8.out
  have O := own_lower (ownsRow_setCell_below (ownsRow_setCell_below O16.out (a := ⟨w.heap.size + 1 + 1, 0, none⟩) (by show w.heap.size + 1 + 1 < _; omega) (.slice x3 (k + mn + (n - q)) c3)) (a := ⟨w.heap.size + 1 + 1, 1, none⟩) (by show w.heap.size + 1 + 1 < _; omega) (.slice y3 (k + mn + (n - q)) d3)) (b' := w.heap.size) (by omega)
  have N := own_lower (ownsRow_setCell_below (ownsRow_setCell_below N16.out (a := ⟨w.heap.size + 1 + 1, 0, none⟩) (by show w.heap.size + 1 + 1 < _; omega) (.slice x3 (k + mn + (n - q)) c3)) (a := ⟨w.heap.size + 1 + 1, 1, none⟩) (by show w.heap.size + 1 + 1 < _; omega) (.slice y3 (k + mn + (n - q)) d3)) (b' := w.heap.size) (by omega)
  refine bodyPost_ret (v := .agg #[.slice x3 (k + mn + (n - q)) c3, .slice y3 (k + mn + (n - q)) d3]) (by simp [results, Try.f30, go_sem, c0, c1]) rfl ?_
  rw [← HQ.out]
  exact ⟨_, _, rfl, O, N, hB⟩
end Go.Proofs.Yteolhbcmffbdlaa
