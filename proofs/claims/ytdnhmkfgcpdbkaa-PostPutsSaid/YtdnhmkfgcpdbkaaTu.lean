/-
  Layer 16 (post): the contract of Check. Conditions: as each says.
-/
import Derived.Test.YtdnhmkfgcpdbkaaTt
namespace Go.Proofs.Ytdnhmkfgcpdbkaa
open Go.RowKit
set_option linter.unusedVariables false
set_option linter.unusedSimpArgs false

/-- How many pairs a client's reply has. -/
def prN : List Fld → Nat
  | [_, _, _, _, _, .r (.slice _ n _), _] => n
  | _ => 0
def bareL (L : List (List Fld)) : Bool := L.all fun x => decide (prN x = 0)
theorem bareL_take {L : List (List Fld)} {k : Nat} (hk : k < L.length) : bareL (L.take (k + 1)) = (bareL (L.take k) && decide (prN L[k] = 0)) := by
  unfold bareL
  rw [List.take_succ_eq_append_getElem hk, List.all_append]
  simp
/-- The pairs of a client's reply are a slice. -/
def slPr (x : List Fld) : Prop := ∃ cc sq er va g a n c u, x = [.n 0 maxN cc, .n 0 maxN sq, .n 0 maxN er, .t va, .f g, .r (.slice a n c), .t u]
theorem below_lk {w W : World} {lb : Nat} {B : Nat} (h : Below B w W) (hb : B ≤ lb) (v : Value) : Below B w (W.setCell ⟨lb, 0, none⟩ v) := h.setCell (p := ⟨lb, 0, none⟩) hb v
set_option maxRecDepth 100000 in
set_option maxHeartbeats 4000000 in
theorem check16_any (kd a1 a2 a3 a4 a5 a6 : Int) (wh : Bool) (ok : Int) (oy ov od : ByteArray) (og : Bool) (OW : List (List Fld)) (ol oh : ByteArray) (om : Int) (er : Int) (rv : ByteArray) (rg : Bool) (RP : List (List Fld)) (ru : ByteArray) (MP EN SE : List (List Fld)) (v1 v2 v3 v4 v5 : Value) (w : World) (d1 : LRd w 3 v1 OW) (h1 : ∀ x ∈ OW, isWrite x) (d2 : LRd w 2 v2 RP) (h2 : ∀ x ∈ RP, isPair x) (d3 : LRd w 6 v3 MP) (h3 : ∀ x ∈ MP, isShard x) (d4 : LRd w 4 v4 EN) (h4 : ∀ x ∈ EN, isEntry x) (d5 : LRd w 7 v5 SE) (h5 : ∀ x ∈ SE, isSeen x) (hsp : ∀ x ∈ SE, slPr x) :
    Calls Try.prog 12 #[.agg #[.int .i64 kd, .int .i64 a1, .int .i64 a2, .int .i64 a3, .int .i64 a4, .int .i64 a5, .int .i64 a6, .bool wh, .int .i64 ok, .string oy, .string ov, .string od, .bool og, v1, .string ol, .string oh, .int .i64 om, .int .i64 er, .string rv, .bool rg, v2, .string ru, v3, v4, v5]] w fun e w' => e = .returned (.int .i64 (if (okM ⟨[.n 1 15 kd, .n 0 maxN a1, .n 0 maxN a2, .n 0 maxN a3, .n 0 maxN a4, .n 0 maxN a5, .n 0 maxN a6, .f wh], [.n 0 maxN ok, .t oy, .t ov, .t od, .f og], OW, [.t ol, .t oh, .n 0 maxN om], [.n 0 maxN er, .t rv, .f rg], RP, [.t ru], MP, EN, SE⟩ && bareL SE) = true then 0 else 1)) ∧ Below w.heap.size w w' := by
  obtain ⟨r0, hr0⟩ : ∃ r, r = okM ⟨[.n 1 15 kd, .n 0 maxN a1, .n 0 maxN a2, .n 0 maxN a3, .n 0 maxN a4, .n 0 maxN a5, .n 0 maxN a6, .f wh], [.n 0 maxN ok, .t oy, .t ov, .t od, .f og], OW, [.t ol, .t oh, .n 0 maxN om], [.n 0 maxN er, .t rv, .f rg], RP, [.t ru], MP, EN, SE⟩ := ⟨_, rfl⟩
  rw [← hr0]
  obtain ⟨R, hR⟩ : ∃ R : Int, R = if (r0 && bareL SE) = true then 0 else 1 := ⟨_, rfl⟩
  rw [← hR]
  have HRR := Lib.hid hR
  clear hR
  obtain ⟨W1, hW1⟩ : ∃ W, W = (w.alloc (.cells #[.int .i64 kd, .int .i64 a1, .int .i64 a2, .int .i64 a3, .int .i64 a4, .int .i64 a5, .int .i64 a6, .bool wh, .int .i64 ok, .string oy, .string ov, .string od, .bool og, v1, .string ol, .string oh, .int .i64 om, .int .i64 er, .string rv, .bool rg, v2, .string ru, v3, v4, v5] 35)).alloc (.cells #[.bool false] 73) := ⟨_, rfl⟩
  obtain ⟨mb, hmb⟩ : ∃ x, x = w.heap.size := ⟨_, rfl⟩
  obtain ⟨lb, hlb⟩ : ∃ x, x = w.heap.size + 1 := ⟨_, rfl⟩
  have hb0 : Below w.heap.size w (w.alloc (.cells #[.int .i64 kd, .int .i64 a1, .int .i64 a2, .int .i64 a3, .int .i64 a4, .int .i64 a5, .int .i64 a6, .bool wh, .int .i64 ok, .string oy, .string ov, .string od, .bool og, v1, .string ol, .string oh, .int .i64 om, .int .i64 er, .string rv, .bool rg, v2, .string ru, v3, v4, v5] 35)) := (Below.refl _ w).alloc (Nat.le_refl _) _
  have hs0 : (w.alloc (.cells #[.int .i64 kd, .int .i64 a1, .int .i64 a2, .int .i64 a3, .int .i64 a4, .int .i64 a5, .int .i64 a6, .bool wh, .int .i64 ok, .string oy, .string ov, .string od, .bool og, v1, .string ol, .string oh, .int .i64 om, .int .i64 er, .string rv, .bool rg, v2, .string ru, v3, v4, v5] 35)).heap.size = w.heap.size + 1 := by simp
  have hb1 : Below w.heap.size w W1 := by rw [hW1]; exact hb0.alloc hb0.size _
  have hs1 : W1.heap.size = w.heap.size + 2 := by rw [hW1]; simp
  have hfa : FAt W1 mb 0 (mflds ⟨[.n 1 15 kd, .n 0 maxN a1, .n 0 maxN a2, .n 0 maxN a3, .n 0 maxN a4, .n 0 maxN a5, .n 0 maxN a6, .f wh], [.n 0 maxN ok, .t oy, .t ov, .t od, .f og], OW, [.t ol, .t oh, .n 0 maxN om], [.n 0 maxN er, .t rv, .f rg], RP, [.t ru], MP, EN, SE⟩ v1 v2 v3 v4 v5) := by
    have h := FAt.new w (mflds ⟨[.n 1 15 kd, .n 0 maxN a1, .n 0 maxN a2, .n 0 maxN a3, .n 0 maxN a4, .n 0 maxN a5, .n 0 maxN a6, .f wh], [.n 0 maxN ok, .t oy, .t ov, .t od, .f og], OW, [.t ol, .t oh, .n 0 maxN om], [.n 0 maxN er, .t rv, .f rg], RP, [.t ru], MP, EN, SE⟩ v1 v2 v3 v4 v5) 35
    have hk : KB lb 0 (w.alloc (.cells ((mflds ⟨[.n 1 15 kd, .n 0 maxN a1, .n 0 maxN a2, .n 0 maxN a3, .n 0 maxN a4, .n 0 maxN a5, .n 0 maxN a6, .f wh], [.n 0 maxN ok, .t oy, .t ov, .t od, .f og], OW, [.t ol, .t oh, .n 0 maxN om], [.n 0 maxN er, .t rv, .f rg], RP, [.t ru], MP, EN, SE⟩ v1 v2 v3 v4 v5).map Fld.cell).toArray 35)) W1 := by rw [hW1]; exact KB.of ((Below.refl _ _).alloc (Nat.le_refl _) _) (Nat.zero_le _)
    have hl : Loc True lb 0 (w.alloc (.cells ((mflds ⟨[.n 1 15 kd, .n 0 maxN a1, .n 0 maxN a2, .n 0 maxN a3, .n 0 maxN a4, .n 0 maxN a5, .n 0 maxN a6, .f wh], [.n 0 maxN ok, .t oy, .t ov, .t od, .f og], OW, [.t ol, .t oh, .n 0 maxN om], [.n 0 maxN er, .t rv, .f rg], RP, [.t ru], MP, EN, SE⟩ v1 v2 v3 v4 v5).map Fld.cell).toArray 35)) w.heap.size := ⟨by omega, by simp, .inr ⟨Nat.zero_le _, _, _, heap_alloc_new w _, by decide⟩⟩
    rw [hmb]
    exact h.keep hl hk
  have hlo : Loc True lb mb W1 mb := by
    refine ⟨by omega, by omega, .inr ⟨Nat.le_refl _, #[.int .i64 kd, .int .i64 a1, .int .i64 a2, .int .i64 a3, .int .i64 a4, .int .i64 a5, .int .i64 a6, .bool wh, .int .i64 ok, .string oy, .string ov, .string od, .bool og, v1, .string ol, .string oh, .int .i64 om, .int .i64 er, .string rv, .bool rg, v2, .string ru, v3, v4, v5], 35, ?_, by decide⟩⟩
    rw [hW1, hmb, Below.heap_alloc _ _ _ (by rw [hs0]; omega)]
    exact heap_alloc_new w _
  have hat : AtL lb mb W1 false := by
    have hc : (((w.alloc (.cells #[.int .i64 kd, .int .i64 a1, .int .i64 a2, .int .i64 a3, .int .i64 a4, .int .i64 a5, .int .i64 a6, .bool wh, .int .i64 ok, .string oy, .string ov, .string od, .bool og, v1, .string ol, .string oh, .int .i64 om, .int .i64 er, .string rv, .bool rg, v2, .string ru, v3, v4, v5] 35)).alloc (.cells #[.bool false] 73))).heap[w.heap.size + 1]? = some (.cells #[.bool false] 73) := by
      have := heap_alloc_new (w.alloc (.cells #[.int .i64 kd, .int .i64 a1, .int .i64 a2, .int .i64 a3, .int .i64 a4, .int .i64 a5, .int .i64 a6, .bool wh, .int .i64 ok, .string oy, .string ov, .string od, .bool og, v1, .string ol, .string oh, .int .i64 om, .int .i64 er, .string rv, .bool rg, v2, .string ru, v3, v4, v5] 35)) (.cells #[.bool false] 73)
      rw [hs0] at this
      exact this
    rw [← hW1, ← hlb] at hc
    refine ⟨by unfold World.cell?; simp [hc], by unfold World.frozen?; simp [hc], by omega, by omega⟩
  have HM := Lib.hid (tmsg_any (looks_way lb mb (by omega)) W1 false mb 0 kd a1 a2 a3 a4 a5 a6 wh ok oy ov od og OW ol oh om er rv rg RP ru MP EN SE v1 v2 v3 v4 v5 hat hlo hfa (d1.row hb1 (by omega) (by omega) (by omega)) h1 (.inl trivial) d1.len (d2.row hb1 (by omega) (by omega) (by omega)) h2 (.inl trivial) d2.len (d3.row hb1 (by omega) (by omega) (by omega)) h3 (.inl trivial) d3.len (d4.row hb1 (by omega) (by omega) (by omega)) h4 (.inl trivial) d4.len (d5.row hb1 (by omega) (by omega) (by omega)) h5 (.inl trivial) d5.len trivial)
  rw [looks_m, ← hr0] at HM
  have HB1 := Lib.hid hb1
  have HSP := Lib.hid hsp
  have HX := Lib.hid (And.intro hmb (And.intro hlb hs1))
  have HFA := Lib.hid hfa
  have HLO := Lib.hid hlo
  have HSL : Hid (SE.length ≤ maxLen) := Lib.hid d5.len
  clear hr0 hb0 hb1 hs0 hfa hlo hat d1 h1 d2 h2 d3 h3 d4 h4 d5 h5 hsp hs1
  go_enter Try.func12, Try.ntmps12
  go_upto_region 2 with fail
  rw [← hW1, ← hlb, ← hmb]
  clear hW1 hmb hlb
  go_wp2_with fail
  refine HM.out.mono ?_
  rintro e w2 ⟨rfl, hpo⟩
  obtain ⟨u1, u2, u3, u4, u5, p1, p2, p3, p4, p5, p6, p7⟩ := hpo
  obtain ⟨aS, nS, cS, e5, hn5, hr5⟩ := p7
  subst e5
  obtain ⟨vs, l1, e24, pk⟩ : ∃ vs : List Value, vs.length = 25 ∧ vs[24]? = some (.slice aS nS cS) ∧ KB lb mb (W1.setCells mb 0 vs) w2 := ⟨_, rfl, rfl, p2⟩
  obtain ⟨fs, l2, hfl⟩ : ∃ fs : List Fld, fs.length = 25 ∧ FAt W1 mb 0 fs := ⟨_, rfl, HFA.out⟩
  have hc24 : w2.cell? ⟨mb, 24, none⟩ = some (.slice aS nS cS) := by
    rw [(Loc.sets mb _ 0 W1 HLO.out).cell pk]
    exact sets_at hfl (by omega) e24
  have HB2 : Hid (Below w.heap.size w w2) := Lib.hid ((below_sets vs 0 W1 HB1.out (by have := HX.out; omega)).trans (pk.l.mono (by have := HX.out; omega)))
  have HA2 : Hid (AtL lb mb w2 (!r0)) := Lib.hid (show AtL lb mb w2 (false || !r0) from p1)
  have HLM : Hid (Loc True lb mb w2 mb) := Lib.hid ((Loc.sets mb _ 0 W1 HLO.out).keep pk)
  have HR5 := Lib.hid hr5
  have HN5 := Lib.hid hn5
  have hnm : nS ≤ maxLen := by rw [← hn5]; exact HSL.out
  unfold maxLen at hnm
  have hml := HLM.out.2.1
  have hlbb := HA2.out.2.2.1
  have HMB : Hid (w.heap.size ≤ mb ∧ mb ≤ lb ∧ w.heap.size ≤ lb) := Lib.hid (by have := HX.out; omega)
  clear p1 p2 p3 p4 p5 p6 pk l1 e24 l2 hfl hr5 hn5 HM HB1 HX HFA HLO HSL
  go_wp2_with fail
  go_loopw [5, 14] (fun _ i wr => ∃ k : Nat, i = .int .i64 k ∧ k ≤ nS ∧ Hid (AtL lb mb wr (!r0 || !bareL (SE.take k))) ∧ Hid (KB lb mb w2 wr)) (fun _ i _ => nS - (intOf i).toNat)
  case atStart => exact ⟨0, by first | rfl | go_num, by omega, Lib.hid (by have := HA2.out; simpa [bareL] using this), Lib.hid (KB.refl _ _ _)⟩
  case round =>
    obtain ⟨k, rfl, hk, HA, HK⟩ := hrel
    by_cases hlt : k < nS
    · have hki : (k : Int) < (nS : Int) := by omega
      have hkl : k < SE.length := by rw [HN5.out]; exact hlt
      obtain ⟨x, hx⟩ : ∃ x, x = SE[k] := ⟨_, rfl⟩
      have hsx := HSP.out x (by rw [hx]; exact List.getElem_mem hkl)
      have htk := bareL_take hkl
      rw [← hx] at htk
      rcases HR5.out with e0 | ⟨rb, ro, ha, g1, g2, g4⟩
      · rw [e0] at hkl; simp at hkl
      subst ha
      have hfx := (g4.keep g1 HK.out) k hkl
      rw [← hx] at hfx
      have hrl := (g1.keep HK.out).2.1
      obtain ⟨cc, sq, er, va, g, pa, pn, pc, pu, rfl⟩ := hsx
      have c0 := hfx 0 (by simp)
      have c1 := hfx 1 (by simp)
      have c2 := hfx 2 (by simp)
      have c3 := hfx 3 (by simp)
      have c4 := hfx 4 (by simp)
      have cS' := hfx 5 (by simp)
      have c6 := hfx 6 (by simp)
      simp only [List.getElem_cons_zero, List.getElem_cons_succ, Fld.cell, Nat.add_zero] at c0 c1 c2 c3 c4 cS' c6
      obtain ⟨q, hq⟩ : ∃ q, q = (!r0 || !bareL (SE.take k)) := ⟨_, rfl⟩
      rw [← hq] at HA
      have HQ : Hid ((!r0 || !bareL (SE.take (k + 1))) = (q || decide (0 < pn))) := Lib.hid (by
        rw [htk, hq]
        have e1 : prN [Fld.n 0 maxN cc, .n 0 maxN sq, .n 0 maxN er, .t va, .f g, .r (.slice pa pn pc), .t pu] = pn := rfl
        rw [e1]
        by_cases h0 : pn = 0
        · subst h0; simp
        · simp [h0, show 0 < pn by omega])
      have HG1 := Lib.hid g1
      clear hx htk hfx g1 g2 g4 hq hkl
      go_upto_region 6 with fail
      have hbn := (Below.refl wr.heap.size wr).alloc (Nat.le_refl _) (.cells #[.int .i64 cc, .int .i64 sq, .int .i64 er, .string va, .bool g, .slice pa pn pc, .string pu] 58)
      have HA3 := Lib.hid ((looks_way lb mb HMB.out.2.1).old _ _ _ HA.out hbn)
      have HK3 := Lib.hid (HK.out.alloc HA.out.2.2.2 (.cells #[.int .i64 cc, .int .i64 sq, .int .i64 er, .string va, .bool g, .slice pa pn pc, .string pu] 58))
      have hp5 : (wr.alloc (.cells #[.int .i64 cc, .int .i64 sq, .int .i64 er, .string va, .bool g, .slice pa pn pc, .string pu] 58)).cell? ⟨wr.heap.size, 5, none⟩ = some (.slice pa pn pc) := (alloc_cell _ _ _ 5).trans rfl
      have hpz : wr.heap.size < (wr.alloc (.cells #[.int .i64 cc, .int .i64 sq, .int .i64 er, .string va, .bool g, .slice pa pn pc, .string pu] 58)).heap.size := by simp
      generalize wr.alloc (.cells #[.int .i64 cc, .int .i64 sq, .int .i64 er, .string va, .bool g, .slice pa pn pc, .string pu] 58) = w3 at *
      generalize wr.heap.size = xb at *
      clear c0 c1 c2 c3 c4 cS' c6 hrl hbn
      obtain ⟨d0, d1, d2, d3⟩ := HA3.out
      cases q with
      | true =>
        have HF : Hid (AtL lb mb (w3.setCell ⟨lb, 0, none⟩ (.bool true)) (!r0 || !bareL (SE.take (k + 1)))) := Lib.hid (by rw [HQ.out]; exact ⟨World.cell?_setCell_same' _ _ _ (by rw [d0]; rfl), by rw [World.frozen?_setCell]; exact d1, by simpa using d2, by simpa using d3⟩)
        have HG := Lib.hid (HK3.out.own 0 HMB.out.2.1 (.bool true))
        go_wp2_with fail
        go_roundw
        case rel => exact ⟨k + 1, by go_num, by omega, HF, HG⟩
        case measure => simp [intOf]; omega
      | false =>
        obtain ⟨z, hz⟩ : ∃ z, z = decide (0 < pn) := ⟨_, rfl⟩
        have HF : Hid (AtL lb mb (w3.setCell ⟨lb, 0, none⟩ (.bool z)) (!r0 || !bareL (SE.take (k + 1)))) := Lib.hid (by rw [HQ.out, ← hz]; exact ⟨World.cell?_setCell_same' _ _ _ (by rw [d0]; rfl), by rw [World.frozen?_setCell]; exact d1, by simpa using d2, by simpa using d3⟩)
        have HG := Lib.hid (HK3.out.own 0 HMB.out.2.1 (.bool z))
        by_cases hp : 0 < pn
        · obtain rfl : z = true := by rw [hz]; exact decide_eq_true hp
          have hpi : (0 : Int) < (pn : Int) := by omega
          clear hz
          go_wp2_with fail
          go_roundw
          case rel => exact ⟨k + 1, by go_num, by omega, HF, HG⟩
          case measure => simp [intOf]; omega
        · obtain rfl : z = false := by rw [hz]; exact decide_eq_false hp
          obtain rfl : pn = 0 := by omega
          clear hz
          go_wp2_with fail
          go_roundw
          case rel => exact ⟨k + 1, by go_num, by omega, HF, HG⟩
          case measure => simp [intOf]; omega
    · obtain rfl : k = nS := by omega
      have hki : ¬ (k : Int) < (k : Int) := by omega
      have hA := HA.out
      rw [← HN5.out, List.take_length] at hA
      obtain ⟨d0, d1, d2, d3⟩ := hA
      have HBF := Lib.hid (HB2.out.trans (HK.out.l.mono HMB.out.1))
      have HQ : Hid (R = if (!(!r0 || !bareL SE)) = true then 0 else 1) := Lib.hid (by rw [HRR.out]; cases r0 <;> simp)
      clear HRR
      clear hlt hk
      generalize (!r0 || !bareL SE) = q at *
      cases q
      · obtain rfl : R = 0 := HQ.out
        go_wp2_with fail
        go_ret
        exact ⟨rfl, HBF.out⟩
      · obtain rfl : R = 1 := HQ.out
        go_wp2_with fail
        go_ret
        exact ⟨rfl, HBF.out⟩
end Go.Proofs.Ytdnhmkfgcpdbkaa
