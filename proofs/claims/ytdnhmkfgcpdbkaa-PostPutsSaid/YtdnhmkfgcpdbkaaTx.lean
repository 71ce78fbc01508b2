/-
  Layer 16 (post): the contract of Put. Conditions: as each says.
-/
import Derived.Test.YtdnhmkfgcpdbkaaTu
import Derived.Test.YtdnhmkfgcpdbkaaA3
import Derived.Deep.MidRow
namespace Go.Proofs.Ytdnhmkfgcpdbkaa
open Go.RowKit
set_option linter.unusedVariables false
set_option linter.unusedSimpArgs false

def sealB (l : List UInt8) : ByteArray := ⟨(l ++ CR.tailL l).toArray⟩
theorem seal_eq (l : List UInt8) : ((⟨l.toArray⟩ : ByteArray) ++ ⟨(CR.tailL l).toArray⟩) = sealB l := by
  apply ByteArray.ext
  simp [sealB]
theorem Try.sizeMsg : (Try.prog.info? 35).map (·.size) = some 25 := by kernel_rfl
def putOk (m : Mg) : Bool := okM m && bareL m.SE && decide ((sealB (txM m)).size ≤ 262144)
def putS (m : Mg) : ByteArray := if putOk m = true then sealB (txM m) else ⟨#[]⟩
def putE (m : Mg) : Int := if putOk m = true then 0 else 1
set_option maxRecDepth 100000 in
set_option maxHeartbeats 4000000 in
theorem put16_any (kd a1 a2 a3 a4 a5 a6 : Int) (wh : Bool) (ok : Int) (oy ov od : ByteArray) (og : Bool) (OW : List (List Fld)) (ol oh : ByteArray) (om : Int) (er : Int) (rv : ByteArray) (rg : Bool) (RP : List (List Fld)) (ru : ByteArray) (MP EN SE : List (List Fld)) (v1 v2 v3 v4 v5 : Value) (w : World) (d1 : LRd w 3 v1 OW) (h1 : ∀ x ∈ OW, isWrite x) (d2 : LRd w 2 v2 RP) (h2 : ∀ x ∈ RP, isPair x) (d3 : LRd w 6 v3 MP) (h3 : ∀ x ∈ MP, isShard x) (d4 : LRd w 4 v4 EN) (h4 : ∀ x ∈ EN, isEntry x) (d5 : LRd w 7 v5 SE) (h5 : ∀ x ∈ SE, isSeen x) (hsp : ∀ x ∈ SE, slPr x) :
    Calls Try.prog 10 #[.agg #[.int .i64 kd, .int .i64 a1, .int .i64 a2, .int .i64 a3, .int .i64 a4, .int .i64 a5, .int .i64 a6, .bool wh, .int .i64 ok, .string oy, .string ov, .string od, .bool og, v1, .string ol, .string oh, .int .i64 om, .int .i64 er, .string rv, .bool rg, v2, .string ru, v3, v4, v5]] w fun e w' => e = .returned (.tuple #[.string (putS ⟨[.n 1 15 kd, .n 0 maxN a1, .n 0 maxN a2, .n 0 maxN a3, .n 0 maxN a4, .n 0 maxN a5, .n 0 maxN a6, .f wh], [.n 0 maxN ok, .t oy, .t ov, .t od, .f og], OW, [.t ol, .t oh, .n 0 maxN om], [.n 0 maxN er, .t rv, .f rg], RP, [.t ru], MP, EN, SE⟩), .int .i64 (putE ⟨[.n 1 15 kd, .n 0 maxN a1, .n 0 maxN a2, .n 0 maxN a3, .n 0 maxN a4, .n 0 maxN a5, .n 0 maxN a6, .f wh], [.n 0 maxN ok, .t oy, .t ov, .t od, .f og], OW, [.t ol, .t oh, .n 0 maxN om], [.n 0 maxN er, .t rv, .f rg], RP, [.t ru], MP, EN, SE⟩)]) ∧ Below w.heap.size w w' := by
  obtain ⟨rS, hrS⟩ : ∃ r, r = putS ⟨[.n 1 15 kd, .n 0 maxN a1, .n 0 maxN a2, .n 0 maxN a3, .n 0 maxN a4, .n 0 maxN a5, .n 0 maxN a6, .f wh], [.n 0 maxN ok, .t oy, .t ov, .t od, .f og], OW, [.t ol, .t oh, .n 0 maxN om], [.n 0 maxN er, .t rv, .f rg], RP, [.t ru], MP, EN, SE⟩ := ⟨_, rfl⟩
  obtain ⟨rE, hrE⟩ : ∃ r, r = putE ⟨[.n 1 15 kd, .n 0 maxN a1, .n 0 maxN a2, .n 0 maxN a3, .n 0 maxN a4, .n 0 maxN a5, .n 0 maxN a6, .f wh], [.n 0 maxN ok, .t oy, .t ov, .t od, .f og], OW, [.t ol, .t oh, .n 0 maxN om], [.n 0 maxN er, .t rv, .f rg], RP, [.t ru], MP, EN, SE⟩ := ⟨_, rfl⟩
  rw [← hrS, ← hrE]
  obtain ⟨q0, hq0⟩ : ∃ q, q = (okM ⟨[.n 1 15 kd, .n 0 maxN a1, .n 0 maxN a2, .n 0 maxN a3, .n 0 maxN a4, .n 0 maxN a5, .n 0 maxN a6, .f wh], [.n 0 maxN ok, .t oy, .t ov, .t od, .f og], OW, [.t ol, .t oh, .n 0 maxN om], [.n 0 maxN er, .t rv, .f rg], RP, [.t ru], MP, EN, SE⟩ && bareL SE) := ⟨_, rfl⟩
  obtain ⟨T, hT⟩ : ∃ T, T = txM ⟨[.n 1 15 kd, .n 0 maxN a1, .n 0 maxN a2, .n 0 maxN a3, .n 0 maxN a4, .n 0 maxN a5, .n 0 maxN a6, .f wh], [.n 0 maxN ok, .t oy, .t ov, .t od, .f og], OW, [.t ol, .t oh, .n 0 maxN om], [.n 0 maxN er, .t rv, .f rg], RP, [.t ru], MP, EN, SE⟩ := ⟨_, rfl⟩
  have hres : rS = (if (q0 && decide ((sealB T).size ≤ 262144)) = true then sealB T else ⟨#[]⟩) ∧ rE = (if (q0 && decide ((sealB T).size ≤ 262144)) = true then 0 else 1) := by
    rw [hrS, hrE, hq0, hT]
    unfold putS putE putOk
    exact ⟨rfl, rfl⟩
  have hsl : ShL ⟨[.n 1 15 kd, .n 0 maxN a1, .n 0 maxN a2, .n 0 maxN a3, .n 0 maxN a4, .n 0 maxN a5, .n 0 maxN a6, .f wh], [.n 0 maxN ok, .t oy, .t ov, .t od, .f og], OW, [.t ol, .t oh, .n 0 maxN om], [.n 0 maxN er, .t rv, .f rg], RP, [.t ru], MP, EN, SE⟩ := ⟨h1, h2, h3, h4, h5⟩
  have hsf : ShF ⟨[.n 1 15 kd, .n 0 maxN a1, .n 0 maxN a2, .n 0 maxN a3, .n 0 maxN a4, .n 0 maxN a5, .n 0 maxN a6, .f wh], [.n 0 maxN ok, .t oy, .t ov, .t od, .f og], OW, [.t ol, .t oh, .n 0 maxN om], [.n 0 maxN er, .t rv, .f rg], RP, [.t ru], MP, EN, SE⟩ := ⟨⟨rfl, by simp⟩, ⟨rfl, by simp⟩, ⟨rfl, by simp⟩, ⟨rfl, by simp⟩, ⟨rfl, by simp⟩⟩
  have hpm : q0 = true → msgW putsW ([], true) ⟨[.n 1 15 kd, .n 0 maxN a1, .n 0 maxN a2, .n 0 maxN a3, .n 0 maxN a4, .n 0 maxN a5, .n 0 maxN a6, .f wh], [.n 0 maxN ok, .t oy, .t ov, .t od, .f og], OW, [.t ol, .t oh, .n 0 maxN om], [.n 0 maxN er, .t rv, .f rg], RP, [.t ru], MP, EN, SE⟩ = ((T, true), ⟨[.n 1 15 kd, .n 0 maxN a1, .n 0 maxN a2, .n 0 maxN a3, .n 0 maxN a4, .n 0 maxN a5, .n 0 maxN a6, .f wh], [.n 0 maxN ok, .t oy, .t ov, .t od, .f og], OW, [.t ol, .t oh, .n 0 maxN om], [.n 0 maxN er, .t rv, .f rg], RP, [.t ru], MP, EN, SE⟩) ∧ T.length ≤ 20000000 := fun hq => by
    rw [hq0, Bool.and_eq_true] at hq
    rw [hT]
    exact puts_m _ hsl hsf hq.1
  have hTn : T ≠ [] := by
    rw [hT]
    intro e
    have : (txM ⟨[.n 1 15 kd, .n 0 maxN a1, .n 0 maxN a2, .n 0 maxN a3, .n 0 maxN a4, .n 0 maxN a5, .n 0 maxN a6, .f wh], [.n 0 maxN ok, .t oy, .t ov, .t od, .f og], OW, [.t ol, .t oh, .n 0 maxN om], [.n 0 maxN er, .t rv, .f rg], RP, [.t ru], MP, EN, SE⟩).length = 0 := by rw [e]; rfl
    have h2 : (vL kd.toNat).length ≤ (txM ⟨[.n 1 15 kd, .n 0 maxN a1, .n 0 maxN a2, .n 0 maxN a3, .n 0 maxN a4, .n 0 maxN a5, .n 0 maxN a6, .f wh], [.n 0 maxN ok, .t oy, .t ov, .t od, .f og], OW, [.t ol, .t oh, .n 0 maxN om], [.n 0 maxN er, .t rv, .f rg], RP, [.t ru], MP, EN, SE⟩).length := by
      unfold txM
      rw [List.length_append]
      refine Nat.le_trans ?_ (Nat.le_add_right _ _)
      show _ ≤ (txE (.n 1 15 kd :: _)).length
      unfold txE
      rw [List.flatMap_cons, List.length_append]
      exact Nat.le_add_right _ _
    have h3 := vL_pos kd.toNat
    omega
  obtain ⟨R0, hR0⟩ : ∃ R : Int, R = if q0 = true then 0 else 1 := ⟨_, rfl⟩
  obtain ⟨mb, hmb⟩ : ∃ x, x = w.heap.size := ⟨_, rfl⟩
  have hb0 : Below w.heap.size w (w.alloc (.cells #[.int .i64 kd, .int .i64 a1, .int .i64 a2, .int .i64 a3, .int .i64 a4, .int .i64 a5, .int .i64 a6, .bool wh, .int .i64 ok, .string oy, .string ov, .string od, .bool og, v1, .string ol, .string oh, .int .i64 om, .int .i64 er, .string rv, .bool rg, v2, .string ru, v3, v4, v5] 35)) := (Below.refl _ w).alloc (Nat.le_refl _) _
  have HC := Lib.hid (check16_any kd a1 a2 a3 a4 a5 a6 wh ok oy ov od og OW ol oh om er rv rg RP ru MP EN SE v1 v2 v3 v4 v5 (w.alloc (.cells #[.int .i64 kd, .int .i64 a1, .int .i64 a2, .int .i64 a3, .int .i64 a4, .int .i64 a5, .int .i64 a6, .bool wh, .int .i64 ok, .string oy, .string ov, .string od, .bool og, v1, .string ol, .string oh, .int .i64 om, .int .i64 er, .string rv, .bool rg, v2, .string ru, v3, v4, v5] 35)) (d1.old hb0) h1 (d2.old hb0) h2 (d3.old hb0) h3 (d4.old hb0) h4 (d5.old hb0) h5 hsp)
  rw [← hq0, ← hR0] at HC
  have hfa : FAt (w.alloc (.cells #[.int .i64 kd, .int .i64 a1, .int .i64 a2, .int .i64 a3, .int .i64 a4, .int .i64 a5, .int .i64 a6, .bool wh, .int .i64 ok, .string oy, .string ov, .string od, .bool og, v1, .string ol, .string oh, .int .i64 om, .int .i64 er, .string rv, .bool rg, v2, .string ru, v3, v4, v5] 35)) mb 0 (mflds ⟨[.n 1 15 kd, .n 0 maxN a1, .n 0 maxN a2, .n 0 maxN a3, .n 0 maxN a4, .n 0 maxN a5, .n 0 maxN a6, .f wh], [.n 0 maxN ok, .t oy, .t ov, .t od, .f og], OW, [.t ol, .t oh, .n 0 maxN om], [.n 0 maxN er, .t rv, .f rg], RP, [.t ru], MP, EN, SE⟩ v1 v2 v3 v4 v5) := by rw [hmb]; exact FAt.new w (mflds ⟨[.n 1 15 kd, .n 0 maxN a1, .n 0 maxN a2, .n 0 maxN a3, .n 0 maxN a4, .n 0 maxN a5, .n 0 maxN a6, .f wh], [.n 0 maxN ok, .t oy, .t ov, .t od, .f og], OW, [.t ol, .t oh, .n 0 maxN om], [.n 0 maxN er, .t rv, .f rg], RP, [.t ru], MP, EN, SE⟩ v1 v2 v3 v4 v5) 35
  have HFA : Hid (∀ W, Below (w.alloc (.cells #[.int .i64 kd, .int .i64 a1, .int .i64 a2, .int .i64 a3, .int .i64 a4, .int .i64 a5, .int .i64 a6, .bool wh, .int .i64 ok, .string oy, .string ov, .string od, .bool og, v1, .string ol, .string oh, .int .i64 om, .int .i64 er, .string rv, .bool rg, v2, .string ru, v3, v4, v5] 35)).heap.size (w.alloc (.cells #[.int .i64 kd, .int .i64 a1, .int .i64 a2, .int .i64 a3, .int .i64 a4, .int .i64 a5, .int .i64 a6, .bool wh, .int .i64 ok, .string oy, .string ov, .string od, .bool og, v1, .string ol, .string oh, .int .i64 om, .int .i64 er, .string rv, .bool rg, v2, .string ru, v3, v4, v5] 35)) W → FAt W mb 0 (mflds ⟨[.n 1 15 kd, .n 0 maxN a1, .n 0 maxN a2, .n 0 maxN a3, .n 0 maxN a4, .n 0 maxN a5, .n 0 maxN a6, .f wh], [.n 0 maxN ok, .t oy, .t ov, .t od, .f og], OW, [.t ol, .t oh, .n 0 maxN om], [.n 0 maxN er, .t rv, .f rg], RP, [.t ru], MP, EN, SE⟩ v1 v2 v3 v4 v5)) := Lib.hid fun W hW i hi => (hW.cell (p := ⟨mb, _, none⟩) (by rw [hmb]; simp)).trans (hfa i hi)
  have HMG : Hid (q0 = true → ∀ W, Below (w.alloc (.cells #[.int .i64 kd, .int .i64 a1, .int .i64 a2, .int .i64 a3, .int .i64 a4, .int .i64 a5, .int .i64 a6, .bool wh, .int .i64 ok, .string oy, .string ov, .string od, .bool og, v1, .string ol, .string oh, .int .i64 om, .int .i64 er, .string rv, .bool rg, v2, .string ru, v3, v4, v5] 35)).heap.size (w.alloc (.cells #[.int .i64 kd, .int .i64 a1, .int .i64 a2, .int .i64 a3, .int .i64 a4, .int .i64 a5, .int .i64 a6, .bool wh, .int .i64 ok, .string oy, .string ov, .string od, .bool og, v1, .string ol, .string oh, .int .i64 om, .int .i64 er, .string rv, .bool rg, v2, .string ru, v3, v4, v5] 35)) W → Calls Try.prog 17 #[.iface 59 (.pointer (some ⟨W.heap.size, 0, none⟩)), .pointer (some ⟨mb, 0, none⟩)] (W.alloc (.cells #[.pointer none, .slice none 0 0] 64)) fun e w' => e = .returned (.tuple #[]) ∧ Bld W.heap.size W.heap.size T w' ∧ Below w.heap.size w w' ∧ W.heap.size ≤ w'.heap.size) := Lib.hid fun hq W hW => by
    obtain ⟨p1, p2⟩ := hpm hq
    have hWs := hW.size
    have hsw : w.heap.size < W.heap.size := by have : (w.alloc (.cells #[.int .i64 kd, .int .i64 a1, .int .i64 a2, .int .i64 a3, .int .i64 a4, .int .i64 a5, .int .i64 a6, .bool wh, .int .i64 ok, .string oy, .string ov, .string od, .bool og, v1, .string ol, .string oh, .int .i64 om, .int .i64 er, .string rv, .bool rg, v2, .string ru, v3, v4, v5] 35)).heap.size = w.heap.size + 1 := by simp
                                               omega
    have hbW : Below w.heap.size w W := hb0.trans (hW.mono (by simp))
    have hbn := (Below.refl W.heap.size W).alloc (Nat.le_refl _) (.cells #[.pointer none, .slice none 0 0] 64)
    have hb3 : Below w.heap.size w (W.alloc (.cells #[.pointer none, .slice none 0 0] 64)) := hbW.trans (hbn.mono (by omega))
    have hat : AtP W.heap.size W.heap.size (W.alloc (.cells #[.pointer none, .slice none 0 0] 64)) ([], true) := ⟨Bld.new W, by simp⟩
    have hlo : Loc True W.heap.size W.heap.size (W.alloc (.cells #[.pointer none, .slice none 0 0] 64)) mb := ⟨by omega, by simp; omega, .inl ⟨by omega, trivial⟩⟩
    have hf3 : FAt (W.alloc (.cells #[.pointer none, .slice none 0 0] 64)) mb 0 (mflds ⟨[.n 1 15 kd, .n 0 maxN a1, .n 0 maxN a2, .n 0 maxN a3, .n 0 maxN a4, .n 0 maxN a5, .n 0 maxN a6, .f wh], [.n 0 maxN ok, .t oy, .t ov, .t od, .f og], OW, [.t ol, .t oh, .n 0 maxN om], [.n 0 maxN er, .t rv, .f rg], RP, [.t ru], MP, EN, SE⟩ v1 v2 v3 v4 v5) := fun i hi => (hbn.cell (p := ⟨mb, _, none⟩) (by show mb < _; omega)).trans ((hW.cell (p := ⟨mb, _, none⟩) (by rw [hmb]; simp)).trans (hfa i hi))
    have := tmsg_any (puts_way W.heap.size W.heap.size (Nat.le_refl _)) (W.alloc (.cells #[.pointer none, .slice none 0 0] 64)) ([], true) mb 0 kd a1 a2 a3 a4 a5 a6 wh ok oy ov od og OW ol oh om er rv rg RP ru MP EN SE v1 v2 v3 v4 v5 hat hlo hf3 (d1.row hb3 (by omega) (by omega) (by omega)) h1 (.inl trivial) d1.len (d2.row hb3 (by omega) (by omega) (by omega)) h2 (.inl trivial) d2.len (d3.row hb3 (by omega) (by omega) (by omega)) h3 (.inl trivial) d3.len (d4.row hb3 (by omega) (by omega) (by omega)) h4 (.inl trivial) d4.len (d5.row hb3 (by omega) (by omega) (by omega)) h5 (.inl trivial) d5.len (by rw [p1]; rfl)
    rw [p1] at this
    refine this.mono ?_
    rintro e w' ⟨rfl, u1, u2, u3, u4, u5, k1, k2, _⟩
    obtain ⟨vs, k3⟩ : ∃ vs : List Value, KB W.heap.size W.heap.size ((W.alloc (.cells #[.pointer none, .slice none 0 0] 64)).setCells mb 0 vs) w' := ⟨_, k2⟩
    refine ⟨rfl, k1.1, (below_sets vs 0 _ hb3 (by omega)).trans (k3.l.mono (by omega)), k1.2⟩
  have HRES := Lib.hid hres
  have HR0 := Lib.hid hR0
  have HTN := Lib.hid (And.intro hTn (fun hq => (hpm hq).2))
  have HW0 := Lib.hid hb0
  clear hres hR0 hTn hpm hsl hsf hT hq0 hrE hrS hfa hb0 d1 h1 d2 h2 d3 h3 d4 h4 d5 h5 hsp
  obtain ⟨VL, hVL⟩ : ∃ VL : List Value, VL = [.int .i64 kd, .int .i64 a1, .int .i64 a2, .int .i64 a3, .int .i64 a4, .int .i64 a5, .int .i64 a6, .bool wh, .int .i64 ok, .string oy, .string ov, .string od, .bool og, v1, .string ol, .string oh, .int .i64 om, .int .i64 er, .string rv, .bool rg, v2, .string ru, v3, v4, v5] := ⟨_, rfl⟩
  have HRG : Hid ((w.alloc (.cells #[.int .i64 kd, .int .i64 a1, .int .i64 a2, .int .i64 a3, .int .i64 a4, .int .i64 a5, .int .i64 a6, .bool wh, .int .i64 ok, .string oy, .string ov, .string od, .bool og, v1, .string ol, .string oh, .int .i64 om, .int .i64 er, .string rv, .bool rg, v2, .string ru, v3, v4, v5] 35)).rangeAt mb 0 VL) := Lib.hid (fun j u hj => by rw [hmb, Nat.zero_add, alloc_cell]; rw [hVL] at hj; simpa using hj)
  have HSZ : Hid ((Try.prog.info? 35).map (·.size) = some VL.length) := Lib.hid (by rw [hVL]; exact Try.sizeMsg)
  have hVA : VL.toArray = #[.int .i64 kd, .int .i64 a1, .int .i64 a2, .int .i64 a3, .int .i64 a4, .int .i64 a5, .int .i64 a6, .bool wh, .int .i64 ok, .string oy, .string ov, .string od, .bool og, v1, .string ol, .string oh, .int .i64 om, .int .i64 er, .string rv, .bool rg, v2, .string ru, v3, v4, v5] := by rw [hVL]
  have HVA := Lib.hid hVA
  have HMB := Lib.hid hmb
  clear hVL hVA hmb
  go_enter Try.func10, Try.ntmps10
  go_upto_region 1 with fail
  rw [← HMB.out]
  generalize w.alloc (.cells #[.int .i64 kd, .int .i64 a1, .int .i64 a2, .int .i64 a3, .int .i64 a4, .int .i64 a5, .int .i64 a6, .bool wh, .int .i64 ok, .string oy, .string ov, .string od, .bool og, v1, .string ol, .string oh, .int .i64 om, .int .i64 er, .string rv, .bool rg, v2, .string ru, v3, v4, v5] 35) = W0 at *
  go_wp2_with (refine wpList_load_mid rfl 35 (.tmp 1) rfl mb 0 rfl VL _ HRG.out Try.underlying35 rfl HSZ.out ?_)
  rw [HVA.out]
  refine HC.out.mono ?_
  rintro e w2 ⟨rfl, hb2⟩
  have HM2 := Lib.hid (fun hq => HMG.out hq w2 hb2)
  have HB2 := Lib.hid (HW0.out.trans (hb2.mono HW0.out.size))
  clear hb2 HC HMG
  cases q0 with
  | false =>
    obtain rfl : R0 = 1 := HR0.out
    obtain ⟨rfl, rfl⟩ : rS = ⟨#[]⟩ ∧ rE = 1 := HRES.out
    go_wp2_with fail
    go_ret2
    exact ⟨rfl, HB2.out⟩
  | true =>
    obtain rfl : R0 = 0 := HR0.out
    have HM3 := Lib.hid (HM2.out rfl)
    clear HM2 HR0
    go_wp2_with fail
    refine HM3.out.mono ?_
    rintro e w4 ⟨rfl, k1, k2, k3⟩
    have HS := Lib.hid (bstring_any _ _ T w4 k1 HTN.out.1)
    have HB4 := Lib.hid (And.intro k2 k3)
    clear k1 k2 k3 HM3
    go_wp2_with fail
    refine HS.out.mono ?_
    rintro e w5 ⟨rfl, k1⟩
    have HB5 := Lib.hid (HB4.out.1.trans (k1.mono (by have := HB2.out.size; omega)))
    have HSE := Lib.hid (CR.seal_code ⟨T.toArray⟩ w5 (by have := HTN.out.2 (by first | rfl | trivial); show T.toArray.size ≤ _; rw [List.size_toArray]; omega))
    clear k1 HS
    go_wp2_with fail
    refine HSE.out.mono ?_
    rintro e w6 ⟨rfl, k1⟩
    have HB6 := Lib.hid (HB5.out.trans (k1.mono HB5.out.size))
    clear k1 HSE HB5 HB4
    rw [show ((⟨T.toArray⟩ : ByteArray) ++ ⟨(CR.tailL (⟨T.toArray⟩ : ByteArray).data.toList).toArray⟩) = sealB T from seal_eq T]
    by_cases hz : (sealB T).size ≤ 262144
    · obtain ⟨rfl, rfl⟩ : rS = sealB T ∧ rE = 0 := by have h5 := HRES.out; rw [decide_eq_true hz] at h5; exact h5
      have hzi : ¬ (262144 : Int) < ((sealB T).size : Int) := by omega
      go_wp2_with fail
      go_ret2
      exact ⟨rfl, HB6.out⟩
    · obtain ⟨rfl, rfl⟩ : rS = ⟨#[]⟩ ∧ rE = 1 := by have h5 := HRES.out; rw [decide_eq_false hz] at h5; exact h5
      have hzi : (262144 : Int) < ((sealB T).size : Int) := by omega
      go_wp2_with fail
      go_ret2
      exact ⟨rfl, HB6.out⟩
end Go.Proofs.Ytdnhmkfgcpdbkaa
