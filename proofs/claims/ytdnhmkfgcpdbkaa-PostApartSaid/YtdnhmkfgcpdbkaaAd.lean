/-
  Layer 16 (post): the document's Same of messages, exact. Conditions: as each says.
-/
import Derived.Test.YtdnhmkfgcpdbkaaAc
import Derived.Test.YtdnhmkfgcpdbkaaUh
namespace Go.Proofs.Ytdnhmkfgcpdbkaa
open Go.RowKit
set_option linter.unusedVariables false
set_option linter.unusedSimpArgs false

theorem nM_iff (kd : Int) (a1 : Int) (a2 : Int) (a3 : Int) (a4 : Int) (a5 : Int) (a6 : Int) (wh : Bool) (ok : Int) (oy : ByteArray) (ov : ByteArray) (od : ByteArray) (og : Bool) (OW : List (List Fld)) (ol : ByteArray) (oh : ByteArray) (om : Int) (er : Int) (rv : ByteArray) (rg : Bool) (RP : List (List Fld)) (ru : ByteArray) (MP : List (List Fld)) (EN : List (List Fld)) (SE : List (List Fld)) (kd2 : Int) (a12 : Int) (a22 : Int) (a32 : Int) (a42 : Int) (a52 : Int) (a62 : Int) (wh2 : Bool) (ok2 : Int) (oy2 : ByteArray) (ov2 : ByteArray) (od2 : ByteArray) (og2 : Bool) (OW2 : List (List Fld)) (ol2 : ByteArray) (oh2 : ByteArray) (om2 : Int) (er2 : Int) (rv2 : ByteArray) (rg2 : Bool) (RP2 : List (List Fld)) (ru2 : ByteArray) (MP2 : List (List Fld)) (EN2 : List (List Fld)) (SE2 : List (List Fld)) (s1 : ∀ x ∈ OW, isWrite x) (t1 : ∀ x ∈ OW2, isWrite x) (s2 : ∀ x ∈ RP, isPair x) (t2 : ∀ x ∈ RP2, isPair x) (s3 : ∀ x ∈ MP, isShard x) (t3 : ∀ x ∈ MP2, isShard x) (s4 : ∀ x ∈ EN, isEntry x) (t4 : ∀ x ∈ EN2, isEntry x) (s5 : ∀ x ∈ SE, slPr x) (t5 : ∀ x ∈ SE2, slPr x) : nM (⟨[.n 1 15 kd, .n 0 maxN a1, .n 0 maxN a2, .n 0 maxN a3, .n 0 maxN a4, .n 0 maxN a5, .n 0 maxN a6, .f wh], [.n 0 maxN ok, .t oy, .t ov, .t od, .f og], OW, [.t ol, .t oh, .n 0 maxN om], [.n 0 maxN er, .t rv, .f rg], RP, [.t ru], MP, EN, SE⟩ : Mg) = nM (⟨[.n 1 15 kd2, .n 0 maxN a12, .n 0 maxN a22, .n 0 maxN a32, .n 0 maxN a42, .n 0 maxN a52, .n 0 maxN a62, .f wh2], [.n 0 maxN ok2, .t oy2, .t ov2, .t od2, .f og2], OW2, [.t ol2, .t oh2, .n 0 maxN om2], [.n 0 maxN er2, .t rv2, .f rg2], RP2, [.t ru2], MP2, EN2, SE2⟩ : Mg) ↔ (kd = kd2 ∧ a1 = a12 ∧ a2 = a22 ∧ a3 = a32 ∧ a4 = a42 ∧ a5 = a52 ∧ a6 = a62 ∧ wh = wh2) ∧ (ok, oy, ov, od, og, ol, oh, om, OW) = (ok2, oy2, ov2, od2, og2, ol2, oh2, om2, OW2) ∧ (er, rv, rg, ru, RP) = (er2, rv2, rg2, ru2, RP2) ∧ MP = MP2 ∧ EN = EN2 ∧ SE.map (·.map nF) = SE2.map (·.map nF) := by
  have e1 := nf_id (fun x hx => nWrite (s1 x hx))
  have e2 := nf_id (fun x hx => nPair (s2 x hx))
  have e3 := nf_id (fun x hx => nShard (s3 x hx))
  have e4 := nf_id (fun x hx => nEntry (s4 x hx))
  have d1 := nf_id (fun x hx => nWrite (t1 x hx))
  have d2 := nf_id (fun x hx => nPair (t2 x hx))
  have d3 := nf_id (fun x hx => nShard (t3 x hx))
  have d4 := nf_id (fun x hx => nEntry (t4 x hx))
  simp only [nM, e1, e2, e3, e4, d1, d2, d3, d4, Mg.mk.injEq, List.map_cons, List.map_nil, nF, List.cons.injEq, Fld.n.injEq, Fld.f.injEq, Fld.t.injEq, true_and, and_true, Prod.mk.injEq]
  constructor
  · rintro ⟨g1, g2, g3, g4, g5, g6, g7, g8, g9, g10⟩
    obtain ⟨b1, b2, b3, b4, b5⟩ := g2
    obtain ⟨c1, c2, c3⟩ := g4
    obtain ⟨f1, f2, f3⟩ := g5
    exact ⟨g1, ⟨b1, b2, b3, b4, b5, c1, c2, c3, g3⟩, ⟨f1, f2, f3, g7, g6⟩, g8, g9, g10⟩
  · rintro ⟨g1, ⟨b1, b2, b3, b4, b5, c1, c2, c3, g3⟩, ⟨f1, f2, f3, g7, g6⟩, g8, g9, g10⟩
    exact ⟨g1, ⟨b1, b2, b3, b4, b5⟩, g3, ⟨c1, c2, c3⟩, ⟨f1, f2, f3⟩, g6, g7, g8, g9, g10⟩
set_option maxRecDepth 100000 in
set_option maxHeartbeats 8000000 in
theorem same16x_any (w : World) (kd : Int) (a1 : Int) (a2 : Int) (a3 : Int) (a4 : Int) (a5 : Int) (a6 : Int) (wh : Bool) (ok : Int) (oy : ByteArray) (ov : ByteArray) (od : ByteArray) (og : Bool) (OW : List (List Fld)) (ol : ByteArray) (oh : ByteArray) (om : Int) (er : Int) (rv : ByteArray) (rg : Bool) (RP : List (List Fld)) (ru : ByteArray) (MP : List (List Fld)) (EN : List (List Fld)) (SE : List (List Fld)) (kd2 : Int) (a12 : Int) (a22 : Int) (a32 : Int) (a42 : Int) (a52 : Int) (a62 : Int) (wh2 : Bool) (ok2 : Int) (oy2 : ByteArray) (ov2 : ByteArray) (od2 : ByteArray) (og2 : Bool) (OW2 : List (List Fld)) (ol2 : ByteArray) (oh2 : ByteArray) (om2 : Int) (er2 : Int) (rv2 : ByteArray) (rg2 : Bool) (RP2 : List (List Fld)) (ru2 : ByteArray) (MP2 : List (List Fld)) (EN2 : List (List Fld)) (SE2 : List (List Fld)) (xa1 : Option Addr) (xn1 xc1 : Nat) (xa2 : Option Addr) (xn2 xc2 : Nat) (xa3 : Option Addr) (xn3 xc3 : Nat) (xa4 : Option Addr) (xn4 xc4 : Nat) (xa5 : Option Addr) (xn5 xc5 : Nat) (ya1 : Option Addr) (yn1 yc1 : Nat) (ya2 : Option Addr) (yn2 yc2 : Nat) (ya3 : Option Addr) (yn3 yc3 : Nat) (ya4 : Option Addr) (yn4 yc4 : Nat) (ya5 : Option Addr) (yn5 yc5 : Nat) (h1 : LRv w 3 (.slice xa1 xn1 xc1) OW) (k1 : LRv w 3 (.slice ya1 yn1 yc1) OW2) (m1 : OW.length ≤ maxLen) (l1 : OW2.length ≤ maxLen) (h2 : LRv w 2 (.slice xa2 xn2 xc2) RP) (k2 : LRv w 2 (.slice ya2 yn2 yc2) RP2) (m2 : RP.length ≤ maxLen) (l2 : RP2.length ≤ maxLen) (h3 : LRv w 6 (.slice xa3 xn3 xc3) MP) (k3 : LRv w 6 (.slice ya3 yn3 yc3) MP2) (m3 : MP.length ≤ maxLen) (l3 : MP2.length ≤ maxLen) (h4 : LRv w 4 (.slice xa4 xn4 xc4) EN) (k4 : LRv w 4 (.slice ya4 yn4 yc4) EN2) (m4 : EN.length ≤ maxLen) (l4 : EN2.length ≤ maxLen) (h5 : LRv w 7 (.slice xa5 xn5 xc5) SE) (k5 : LRv w 7 (.slice ya5 yn5 yc5) SE2) (m5 : SE.length ≤ maxLen) (l5 : SE2.length ≤ maxLen) (s1 : ∀ x ∈ OW, isWrite x) (t1 : ∀ x ∈ OW2, isWrite x) (s2 : ∀ x ∈ RP, isPair x) (t2 : ∀ x ∈ RP2, isPair x) (s3 : ∀ x ∈ MP, isShard x) (t3 : ∀ x ∈ MP2, isShard x) (s4 : ∀ x ∈ EN, isEntry x) (t4 : ∀ x ∈ EN2, isEntry x) (s5 : ∀ x ∈ SE, slPr x) (t5 : ∀ x ∈ SE2, slPr x) (hb : bareL SE = true) (hb2 : bareL SE2 = true) :
    Calls Try.prog 15 #[.agg #[.int .i64 kd, .int .i64 a1, .int .i64 a2, .int .i64 a3, .int .i64 a4, .int .i64 a5, .int .i64 a6, .bool wh, .int .i64 ok, .string oy, .string ov, .string od, .bool og, .slice xa1 xn1 xc1, .string ol, .string oh, .int .i64 om, .int .i64 er, .string rv, .bool rg, .slice xa2 xn2 xc2, .string ru, .slice xa3 xn3 xc3, .slice xa4 xn4 xc4, .slice xa5 xn5 xc5], .agg #[.int .i64 kd2, .int .i64 a12, .int .i64 a22, .int .i64 a32, .int .i64 a42, .int .i64 a52, .int .i64 a62, .bool wh2, .int .i64 ok2, .string oy2, .string ov2, .string od2, .bool og2, .slice ya1 yn1 yc1, .string ol2, .string oh2, .int .i64 om2, .int .i64 er2, .string rv2, .bool rg2, .slice ya2 yn2 yc2, .string ru2, .slice ya3 yn3 yc3, .slice ya4 yn4 yc4, .slice ya5 yn5 yc5]] w fun e w' => SamB (nM (⟨[.n 1 15 kd, .n 0 maxN a1, .n 0 maxN a2, .n 0 maxN a3, .n 0 maxN a4, .n 0 maxN a5, .n 0 maxN a6, .f wh], [.n 0 maxN ok, .t oy, .t ov, .t od, .f og], OW, [.t ol, .t oh, .n 0 maxN om], [.n 0 maxN er, .t rv, .f rg], RP, [.t ru], MP, EN, SE⟩ : Mg)) (nM (⟨[.n 1 15 kd2, .n 0 maxN a12, .n 0 maxN a22, .n 0 maxN a32, .n 0 maxN a42, .n 0 maxN a52, .n 0 maxN a62, .f wh2], [.n 0 maxN ok2, .t oy2, .t ov2, .t od2, .f og2], OW2, [.t ol2, .t oh2, .n 0 maxN om2], [.n 0 maxN er2, .t rv2, .f rg2], RP2, [.t ru2], MP2, EN2, SE2⟩ : Mg)) e ∧ Below w.heap.size w w' := by
  have HC0 : Hid (∀ W, Below w.heap.size w W → Calls Try.prog 23 #[.agg #[.int .i64 ok, .string oy, .string ov, .string od, .bool og, .slice xa1 xn1 xc1, .string ol, .string oh, .int .i64 om], .agg #[.int .i64 ok2, .string oy2, .string ov2, .string od2, .bool og2, .slice ya1 yn1 yc1, .string ol2, .string oh2, .int .i64 om2]] W fun e w' => SamB (ok, oy, ov, od, og, ol, oh, om, OW) (ok2, oy2, ov2, od2, og2, ol2, oh2, om2, OW2) e ∧ Below W.heap.size W w') := Lib.hid fun W hb => sameOpx W ok oy ov od og ol oh om xa1 xn1 xc1 ok2 oy2 ov2 od2 og2 ol2 oh2 om2 ya1 yn1 yc1 OW OW2 (h1.old hb) (k1.old hb) s1 t1 m1 l1
  have HC1 : Hid (∀ W, Below w.heap.size w W → Calls Try.prog 24 #[.agg #[.int .i64 er, .string rv, .bool rg, .slice xa2 xn2 xc2, .string ru], .agg #[.int .i64 er2, .string rv2, .bool rg2, .slice ya2 yn2 yc2, .string ru2]] W fun e w' => SamB (er, rv, rg, ru, RP) (er2, rv2, rg2, ru2, RP2) e ∧ Below W.heap.size W w') := Lib.hid fun W hb => sameRepx W er rv rg ru xa2 xn2 xc2 er2 rv2 rg2 ru2 ya2 yn2 yc2 RP RP2 (h2.old hb) (k2.old hb) s2 t2 m2 l2
  have HC2 : Hid (∀ W, Below w.heap.size w W → Calls Try.prog 25 #[.slice xa3 xn3 xc3, .slice ya3 yn3 yc3] W fun e w' => SamB MP MP2 e ∧ Below W.heap.size W w') := Lib.hid fun W hb => sameMapx W xa3 xn3 xc3 ya3 yn3 yc3 MP MP2 (h3.old hb) (k3.old hb) s3 t3 m3 l3
  have HC3 : Hid (∀ W, Below w.heap.size w W → Calls Try.prog 26 #[.slice xa4 xn4 xc4, .slice ya4 yn4 yc4] W fun e w' => SamB EN EN2 e ∧ Below W.heap.size W w') := Lib.hid fun W hb => same04x W xa4 xn4 xc4 ya4 yn4 yc4 EN EN2 (h4.old hb) (k4.old hb) s4 t4 m4 l4
  have HC4 : Hid (∀ W, Below w.heap.size w W → Calls Try.prog 27 #[.slice xa5 xn5 xc5, .slice ya5 yn5 yc5] W fun e w' => SamB (SE.map (·.map nF)) (SE2.map (·.map nF)) e ∧ Below W.heap.size W w') := Lib.hid fun W hb' => same14x W xa5 xn5 xc5 ya5 yn5 yc5 SE SE2 (h5.old hb') (k5.old hb') s5 t5 hb hb2 m5 l5
  have HIF := Lib.hid (nM_iff kd a1 a2 a3 a4 a5 a6 wh ok oy ov od og OW ol oh om er rv rg RP ru MP EN SE kd2 a12 a22 a32 a42 a52 a62 wh2 ok2 oy2 ov2 od2 og2 OW2 ol2 oh2 om2 er2 rv2 rg2 RP2 ru2 MP2 EN2 SE2 s1 t1 s2 t2 s3 t3 s4 t4 s5 t5)
  obtain ⟨P1, hP1⟩ : ∃ P : Mg, P = nM (⟨[.n 1 15 kd, .n 0 maxN a1, .n 0 maxN a2, .n 0 maxN a3, .n 0 maxN a4, .n 0 maxN a5, .n 0 maxN a6, .f wh], [.n 0 maxN ok, .t oy, .t ov, .t od, .f og], OW, [.t ol, .t oh, .n 0 maxN om], [.n 0 maxN er, .t rv, .f rg], RP, [.t ru], MP, EN, SE⟩ : Mg) := ⟨_, rfl⟩
  obtain ⟨P2, hP2⟩ : ∃ P : Mg, P = nM (⟨[.n 1 15 kd2, .n 0 maxN a12, .n 0 maxN a22, .n 0 maxN a32, .n 0 maxN a42, .n 0 maxN a52, .n 0 maxN a62, .f wh2], [.n 0 maxN ok2, .t oy2, .t ov2, .t od2, .f og2], OW2, [.t ol2, .t oh2, .n 0 maxN om2], [.n 0 maxN er2, .t rv2, .f rg2], RP2, [.t ru2], MP2, EN2, SE2⟩ : Mg) := ⟨_, rfl⟩
  rw [← hP1, ← hP2] at HIF ⊢
  clear hP1 hP2
  obtain ⟨rx, hrx⟩ : ∃ x, x = w.heap.size := ⟨_, rfl⟩
  obtain ⟨ry, hry⟩ : ∃ x, x = w.heap.size + 1 := ⟨_, rfl⟩
  obtain ⟨W1, hW1⟩ : ∃ W, W = (w.alloc (.cells #[.int .i64 kd, .int .i64 a1, .int .i64 a2, .int .i64 a3, .int .i64 a4, .int .i64 a5, .int .i64 a6, .bool wh, .int .i64 ok, .string oy, .string ov, .string od, .bool og, .slice xa1 xn1 xc1, .string ol, .string oh, .int .i64 om, .int .i64 er, .string rv, .bool rg, .slice xa2 xn2 xc2, .string ru, .slice xa3 xn3 xc3, .slice xa4 xn4 xc4, .slice xa5 xn5 xc5] 35)).alloc (.cells #[.int .i64 kd2, .int .i64 a12, .int .i64 a22, .int .i64 a32, .int .i64 a42, .int .i64 a52, .int .i64 a62, .bool wh2, .int .i64 ok2, .string oy2, .string ov2, .string od2, .bool og2, .slice ya1 yn1 yc1, .string ol2, .string oh2, .int .i64 om2, .int .i64 er2, .string rv2, .bool rg2, .slice ya2 yn2 yc2, .string ru2, .slice ya3 yn3 yc3, .slice ya4 yn4 yc4, .slice ya5 yn5 yc5] 35) := ⟨_, rfl⟩
  have e1 : (w.alloc (.cells #[.int .i64 kd, .int .i64 a1, .int .i64 a2, .int .i64 a3, .int .i64 a4, .int .i64 a5, .int .i64 a6, .bool wh, .int .i64 ok, .string oy, .string ov, .string od, .bool og, .slice xa1 xn1 xc1, .string ol, .string oh, .int .i64 om, .int .i64 er, .string rv, .bool rg, .slice xa2 xn2 xc2, .string ru, .slice xa3 xn3 xc3, .slice xa4 xn4 xc4, .slice xa5 xn5 xc5] 35)).heap.size = w.heap.size + 1 := by simp
  have e2 : W1.heap.size = w.heap.size + 2 := by rw [hW1]; simp
  have b1 : Below w.heap.size w W1 := by rw [hW1]; exact ((Below.refl _ w).alloc (Nat.le_refl _) _).alloc (by rw [e1]; omega) _
  have hx : W1.heap[rx]? = some (.cells #[.int .i64 kd, .int .i64 a1, .int .i64 a2, .int .i64 a3, .int .i64 a4, .int .i64 a5, .int .i64 a6, .bool wh, .int .i64 ok, .string oy, .string ov, .string od, .bool og, .slice xa1 xn1 xc1, .string ol, .string oh, .int .i64 om, .int .i64 er, .string rv, .bool rg, .slice xa2 xn2 xc2, .string ru, .slice xa3 xn3 xc3, .slice xa4 xn4 xc4, .slice xa5 xn5 xc5] 35 (0, 0)) := by
    rw [hW1, hrx, Below.heap_alloc _ _ _ (by rw [e1]; omega)]
    exact heap_alloc_new w _
  have hy : W1.heap[ry]? = some (.cells #[.int .i64 kd2, .int .i64 a12, .int .i64 a22, .int .i64 a32, .int .i64 a42, .int .i64 a52, .int .i64 a62, .bool wh2, .int .i64 ok2, .string oy2, .string ov2, .string od2, .bool og2, .slice ya1 yn1 yc1, .string ol2, .string oh2, .int .i64 om2, .int .i64 er2, .string rv2, .bool rg2, .slice ya2 yn2 yc2, .string ru2, .slice ya3 yn3 yc3, .slice ya4 yn4 yc4, .slice ya5 yn5 yc5] 35 (0, 0)) := by
    have := heap_alloc_new (w.alloc (.cells #[.int .i64 kd, .int .i64 a1, .int .i64 a2, .int .i64 a3, .int .i64 a4, .int .i64 a5, .int .i64 a6, .bool wh, .int .i64 ok, .string oy, .string ov, .string od, .bool og, .slice xa1 xn1 xc1, .string ol, .string oh, .int .i64 om, .int .i64 er, .string rv, .bool rg, .slice xa2 xn2 xc2, .string ru, .slice xa3 xn3 xc3, .slice xa4 xn4 xc4, .slice xa5 xn5 xc5] 35)) (.cells #[.int .i64 kd2, .int .i64 a12, .int .i64 a22, .int .i64 a32, .int .i64 a42, .int .i64 a52, .int .i64 a62, .bool wh2, .int .i64 ok2, .string oy2, .string ov2, .string od2, .bool og2, .slice ya1 yn1 yc1, .string ol2, .string oh2, .int .i64 om2, .int .i64 er2, .string rv2, .bool rg2, .slice ya2 yn2 yc2, .string ru2, .slice ya3 yn3 yc3, .slice ya4 yn4 yc4, .slice ya5 yn5 yc5] 35)
    rw [e1] at this
    rw [hW1, hry]
    exact this
  have hlx : rx < W1.heap.size := by omega
  have hly : ry < W1.heap.size := by omega
  have HXC : Hid (∀ W, Below W1.heap.size W1 W → ∀ i v, (#[.int .i64 kd, .int .i64 a1, .int .i64 a2, .int .i64 a3, .int .i64 a4, .int .i64 a5, .int .i64 a6, .bool wh, .int .i64 ok, .string oy, .string ov, .string od, .bool og, .slice xa1 xn1 xc1, .string ol, .string oh, .int .i64 om, .int .i64 er, .string rv, .bool rg, .slice xa2 xn2 xc2, .string ru, .slice xa3 xn3 xc3, .slice xa4 xn4 xc4, .slice xa5 xn5 xc5] : Array Value)[i]? = some v → W.cell? ⟨rx, i, none⟩ = some v) := Lib.hid fun W hb i v hv => (hb.cell (p := ⟨rx, i, none⟩) hlx).trans (by unfold World.cell?; simp only [hx]; exact hv)
  have HYC : Hid (∀ W, Below W1.heap.size W1 W → ∀ i v, (#[.int .i64 kd2, .int .i64 a12, .int .i64 a22, .int .i64 a32, .int .i64 a42, .int .i64 a52, .int .i64 a62, .bool wh2, .int .i64 ok2, .string oy2, .string ov2, .string od2, .bool og2, .slice ya1 yn1 yc1, .string ol2, .string oh2, .int .i64 om2, .int .i64 er2, .string rv2, .bool rg2, .slice ya2 yn2 yc2, .string ru2, .slice ya3 yn3 yc3, .slice ya4 yn4 yc4, .slice ya5 yn5 yc5] : Array Value)[i]? = some v → W.cell? ⟨ry, i, none⟩ = some v) := Lib.hid fun W hb i v hv => (hb.cell (p := ⟨ry, i, none⟩) hly).trans (by unfold World.cell?; simp only [hy]; exact hv)
  have HX := Lib.hid (And.intro hrx hry)
  have HB := Lib.hid b1
  clear e1 e2 b1 hx hy hrx hry h1 k1 m1 l1 h2 k2 m2 l2 h3 k3 m3 l3 h4 k4 m4 l4 h5 k5 m5 l5 s1 s2 s3 s4 s5 t1 t2 t3 t4 t5 hb hb2
  by_cases ekd : kd = kd2
  case neg =>
    have HF : Hid (SamB P1 P2 (.returned (.bool false))) := Lib.hid (SamB.no (fun c => ekd (by have c := HIF.out.1 c; exact c.1.1)))
    clear HIF HC0 HC1 HC2 HC3 HC4
    go_enter Try.func15, Try.ntmps15
    go_upto_region 1 with fail
    rw [← hW1]
    rw [show w.heap.size + 1 = ry from HX.out.2.symm]
    rw [show (Value.pointer (some ⟨w.heap.size, 0, none⟩)) = .pointer (some ⟨rx, 0, none⟩) by rw [HX.out.1]]
    clear hW1
    have z0 := HXC.out W1 (Below.refl _ _) 0 _ rfl
    have y0 := HYC.out W1 (Below.refl _ _) 0 _ rfl
    go_wp2_with fail
    go_ret
    exact ⟨HF.out, HB.out⟩
  subst ekd
  by_cases ea1 : a1 = a12
  case neg =>
    have HF : Hid (SamB P1 P2 (.returned (.bool false))) := Lib.hid (SamB.no (fun c => ea1 (by have c := HIF.out.1 c; exact c.1.2.1)))
    clear HIF HC0 HC1 HC2 HC3 HC4
    go_enter Try.func15, Try.ntmps15
    go_upto_region 1 with fail
    rw [← hW1]
    rw [show w.heap.size + 1 = ry from HX.out.2.symm]
    rw [show (Value.pointer (some ⟨w.heap.size, 0, none⟩)) = .pointer (some ⟨rx, 0, none⟩) by rw [HX.out.1]]
    clear hW1
    have z0 := HXC.out W1 (Below.refl _ _) 0 _ rfl
    have y0 := HYC.out W1 (Below.refl _ _) 0 _ rfl
    have z1 := HXC.out W1 (Below.refl _ _) 1 _ rfl
    have y1 := HYC.out W1 (Below.refl _ _) 1 _ rfl
    go_wp2_with fail
    go_ret
    exact ⟨HF.out, HB.out⟩
  subst ea1
  by_cases ea2 : a2 = a22
  case neg =>
    have HF : Hid (SamB P1 P2 (.returned (.bool false))) := Lib.hid (SamB.no (fun c => ea2 (by have c := HIF.out.1 c; exact c.1.2.2.1)))
    clear HIF HC0 HC1 HC2 HC3 HC4
    go_enter Try.func15, Try.ntmps15
    go_upto_region 1 with fail
    rw [← hW1]
    rw [show w.heap.size + 1 = ry from HX.out.2.symm]
    rw [show (Value.pointer (some ⟨w.heap.size, 0, none⟩)) = .pointer (some ⟨rx, 0, none⟩) by rw [HX.out.1]]
    clear hW1
    have z0 := HXC.out W1 (Below.refl _ _) 0 _ rfl
    have y0 := HYC.out W1 (Below.refl _ _) 0 _ rfl
    have z1 := HXC.out W1 (Below.refl _ _) 1 _ rfl
    have y1 := HYC.out W1 (Below.refl _ _) 1 _ rfl
    have z2 := HXC.out W1 (Below.refl _ _) 2 _ rfl
    have y2 := HYC.out W1 (Below.refl _ _) 2 _ rfl
    go_wp2_with fail
    go_ret
    exact ⟨HF.out, HB.out⟩
  subst ea2
  by_cases ea3 : a3 = a32
  case neg =>
    have HF : Hid (SamB P1 P2 (.returned (.bool false))) := Lib.hid (SamB.no (fun c => ea3 (by have c := HIF.out.1 c; exact c.1.2.2.2.1)))
    clear HIF HC0 HC1 HC2 HC3 HC4
    go_enter Try.func15, Try.ntmps15
    go_upto_region 1 with fail
    rw [← hW1]
    rw [show w.heap.size + 1 = ry from HX.out.2.symm]
    rw [show (Value.pointer (some ⟨w.heap.size, 0, none⟩)) = .pointer (some ⟨rx, 0, none⟩) by rw [HX.out.1]]
    clear hW1
    have z0 := HXC.out W1 (Below.refl _ _) 0 _ rfl
    have y0 := HYC.out W1 (Below.refl _ _) 0 _ rfl
    have z1 := HXC.out W1 (Below.refl _ _) 1 _ rfl
    have y1 := HYC.out W1 (Below.refl _ _) 1 _ rfl
    have z2 := HXC.out W1 (Below.refl _ _) 2 _ rfl
    have y2 := HYC.out W1 (Below.refl _ _) 2 _ rfl
    have z3 := HXC.out W1 (Below.refl _ _) 3 _ rfl
    have y3 := HYC.out W1 (Below.refl _ _) 3 _ rfl
    go_wp2_with fail
    go_ret
    exact ⟨HF.out, HB.out⟩
  subst ea3
  by_cases ea4 : a4 = a42
  case neg =>
    have HF : Hid (SamB P1 P2 (.returned (.bool false))) := Lib.hid (SamB.no (fun c => ea4 (by have c := HIF.out.1 c; exact c.1.2.2.2.2.1)))
    clear HIF HC0 HC1 HC2 HC3 HC4
    go_enter Try.func15, Try.ntmps15
    go_upto_region 1 with fail
    rw [← hW1]
    rw [show w.heap.size + 1 = ry from HX.out.2.symm]
    rw [show (Value.pointer (some ⟨w.heap.size, 0, none⟩)) = .pointer (some ⟨rx, 0, none⟩) by rw [HX.out.1]]
    clear hW1
    have z0 := HXC.out W1 (Below.refl _ _) 0 _ rfl
    have y0 := HYC.out W1 (Below.refl _ _) 0 _ rfl
    have z1 := HXC.out W1 (Below.refl _ _) 1 _ rfl
    have y1 := HYC.out W1 (Below.refl _ _) 1 _ rfl
    have z2 := HXC.out W1 (Below.refl _ _) 2 _ rfl
    have y2 := HYC.out W1 (Below.refl _ _) 2 _ rfl
    have z3 := HXC.out W1 (Below.refl _ _) 3 _ rfl
    have y3 := HYC.out W1 (Below.refl _ _) 3 _ rfl
    have z4 := HXC.out W1 (Below.refl _ _) 4 _ rfl
    have y4 := HYC.out W1 (Below.refl _ _) 4 _ rfl
    go_wp2_with fail
    go_ret
    exact ⟨HF.out, HB.out⟩
  subst ea4
  by_cases ea5 : a5 = a52
  case neg =>
    have HF : Hid (SamB P1 P2 (.returned (.bool false))) := Lib.hid (SamB.no (fun c => ea5 (by have c := HIF.out.1 c; exact c.1.2.2.2.2.2.1)))
    clear HIF HC0 HC1 HC2 HC3 HC4
    go_enter Try.func15, Try.ntmps15
    go_upto_region 1 with fail
    rw [← hW1]
    rw [show w.heap.size + 1 = ry from HX.out.2.symm]
    rw [show (Value.pointer (some ⟨w.heap.size, 0, none⟩)) = .pointer (some ⟨rx, 0, none⟩) by rw [HX.out.1]]
    clear hW1
    have z0 := HXC.out W1 (Below.refl _ _) 0 _ rfl
    have y0 := HYC.out W1 (Below.refl _ _) 0 _ rfl
    have z1 := HXC.out W1 (Below.refl _ _) 1 _ rfl
    have y1 := HYC.out W1 (Below.refl _ _) 1 _ rfl
    have z2 := HXC.out W1 (Below.refl _ _) 2 _ rfl
    have y2 := HYC.out W1 (Below.refl _ _) 2 _ rfl
    have z3 := HXC.out W1 (Below.refl _ _) 3 _ rfl
    have y3 := HYC.out W1 (Below.refl _ _) 3 _ rfl
    have z4 := HXC.out W1 (Below.refl _ _) 4 _ rfl
    have y4 := HYC.out W1 (Below.refl _ _) 4 _ rfl
    have z5 := HXC.out W1 (Below.refl _ _) 5 _ rfl
    have y5 := HYC.out W1 (Below.refl _ _) 5 _ rfl
    go_wp2_with fail
    go_ret
    exact ⟨HF.out, HB.out⟩
  subst ea5
  by_cases ea6 : a6 = a62
  case neg =>
    have HF : Hid (SamB P1 P2 (.returned (.bool false))) := Lib.hid (SamB.no (fun c => ea6 (by have c := HIF.out.1 c; exact c.1.2.2.2.2.2.2.1)))
    clear HIF HC0 HC1 HC2 HC3 HC4
    go_enter Try.func15, Try.ntmps15
    go_upto_region 1 with fail
    rw [← hW1]
    rw [show w.heap.size + 1 = ry from HX.out.2.symm]
    rw [show (Value.pointer (some ⟨w.heap.size, 0, none⟩)) = .pointer (some ⟨rx, 0, none⟩) by rw [HX.out.1]]
    clear hW1
    have z0 := HXC.out W1 (Below.refl _ _) 0 _ rfl
    have y0 := HYC.out W1 (Below.refl _ _) 0 _ rfl
    have z1 := HXC.out W1 (Below.refl _ _) 1 _ rfl
    have y1 := HYC.out W1 (Below.refl _ _) 1 _ rfl
    have z2 := HXC.out W1 (Below.refl _ _) 2 _ rfl
    have y2 := HYC.out W1 (Below.refl _ _) 2 _ rfl
    have z3 := HXC.out W1 (Below.refl _ _) 3 _ rfl
    have y3 := HYC.out W1 (Below.refl _ _) 3 _ rfl
    have z4 := HXC.out W1 (Below.refl _ _) 4 _ rfl
    have y4 := HYC.out W1 (Below.refl _ _) 4 _ rfl
    have z5 := HXC.out W1 (Below.refl _ _) 5 _ rfl
    have y5 := HYC.out W1 (Below.refl _ _) 5 _ rfl
    have z6 := HXC.out W1 (Below.refl _ _) 6 _ rfl
    have y6 := HYC.out W1 (Below.refl _ _) 6 _ rfl
    go_wp2_with fail
    go_ret
    exact ⟨HF.out, HB.out⟩
  subst ea6
  by_cases ewh : wh = wh2
  case neg =>
    have HF : Hid (SamB P1 P2 (.returned (.bool false))) := Lib.hid (SamB.no (fun c => ewh (by have c := HIF.out.1 c; exact c.1.2.2.2.2.2.2.2)))
    clear HIF HC0 HC1 HC2 HC3 HC4
    cases wh <;> cases wh2
    · exact absurd rfl ewh
    rotate_right
    · exact absurd rfl ewh
    all_goals
      go_enter Try.func15, Try.ntmps15
      go_upto_region 1 with fail
      rw [← hW1]
      rw [show w.heap.size + 1 = ry from HX.out.2.symm]
      rw [show (Value.pointer (some ⟨w.heap.size, 0, none⟩)) = .pointer (some ⟨rx, 0, none⟩) by rw [HX.out.1]]
      clear hW1
      have z0 := HXC.out W1 (Below.refl _ _) 0 _ rfl
      have y0 := HYC.out W1 (Below.refl _ _) 0 _ rfl
      have z1 := HXC.out W1 (Below.refl _ _) 1 _ rfl
      have y1 := HYC.out W1 (Below.refl _ _) 1 _ rfl
      have z2 := HXC.out W1 (Below.refl _ _) 2 _ rfl
      have y2 := HYC.out W1 (Below.refl _ _) 2 _ rfl
      have z3 := HXC.out W1 (Below.refl _ _) 3 _ rfl
      have y3 := HYC.out W1 (Below.refl _ _) 3 _ rfl
      have z4 := HXC.out W1 (Below.refl _ _) 4 _ rfl
      have y4 := HYC.out W1 (Below.refl _ _) 4 _ rfl
      have z5 := HXC.out W1 (Below.refl _ _) 5 _ rfl
      have y5 := HYC.out W1 (Below.refl _ _) 5 _ rfl
      have z6 := HXC.out W1 (Below.refl _ _) 6 _ rfl
      have y6 := HYC.out W1 (Below.refl _ _) 6 _ rfl
      have z7 := HXC.out W1 (Below.refl _ _) 7 _ rfl
      have y7 := HYC.out W1 (Below.refl _ _) 7 _ rfl
      go_wp2_with fail
      go_ret
      exact ⟨HF.out, HB.out⟩
  subst ewh
  cases wh
  all_goals
    go_enter Try.func15, Try.ntmps15
    go_upto_region 1 with fail
    rw [← hW1]
    rw [show w.heap.size + 1 = ry from HX.out.2.symm]
    rw [show (Value.pointer (some ⟨w.heap.size, 0, none⟩)) = .pointer (some ⟨rx, 0, none⟩) by rw [HX.out.1]]
    clear hW1
    have z0 := HXC.out W1 (Below.refl _ _) 0 _ rfl
    have y0 := HYC.out W1 (Below.refl _ _) 0 _ rfl
    have z1 := HXC.out W1 (Below.refl _ _) 1 _ rfl
    have y1 := HYC.out W1 (Below.refl _ _) 1 _ rfl
    have z2 := HXC.out W1 (Below.refl _ _) 2 _ rfl
    have y2 := HYC.out W1 (Below.refl _ _) 2 _ rfl
    have z3 := HXC.out W1 (Below.refl _ _) 3 _ rfl
    have y3 := HYC.out W1 (Below.refl _ _) 3 _ rfl
    have z4 := HXC.out W1 (Below.refl _ _) 4 _ rfl
    have y4 := HYC.out W1 (Below.refl _ _) 4 _ rfl
    have z5 := HXC.out W1 (Below.refl _ _) 5 _ rfl
    have y5 := HYC.out W1 (Below.refl _ _) 5 _ rfl
    have z6 := HXC.out W1 (Below.refl _ _) 6 _ rfl
    have y6 := HYC.out W1 (Below.refl _ _) 6 _ rfl
    have z7 := HXC.out W1 (Below.refl _ _) 7 _ rfl
    have y7 := HYC.out W1 (Below.refl _ _) 7 _ rfl
    have z8 := HXC.out W1 (Below.refl _ _) 8 _ rfl
    have y8 := HYC.out W1 (Below.refl _ _) 8 _ rfl
    have z9 := HXC.out W1 (Below.refl _ _) 9 _ rfl
    have y9 := HYC.out W1 (Below.refl _ _) 9 _ rfl
    have z10 := HXC.out W1 (Below.refl _ _) 10 _ rfl
    have y10 := HYC.out W1 (Below.refl _ _) 10 _ rfl
    have z11 := HXC.out W1 (Below.refl _ _) 11 _ rfl
    have y11 := HYC.out W1 (Below.refl _ _) 11 _ rfl
    have z12 := HXC.out W1 (Below.refl _ _) 12 _ rfl
    have y12 := HYC.out W1 (Below.refl _ _) 12 _ rfl
    have z13 := HXC.out W1 (Below.refl _ _) 13 _ rfl
    have y13 := HYC.out W1 (Below.refl _ _) 13 _ rfl
    have z14 := HXC.out W1 (Below.refl _ _) 14 _ rfl
    have y14 := HYC.out W1 (Below.refl _ _) 14 _ rfl
    have z15 := HXC.out W1 (Below.refl _ _) 15 _ rfl
    have y15 := HYC.out W1 (Below.refl _ _) 15 _ rfl
    have z16 := HXC.out W1 (Below.refl _ _) 16 _ rfl
    have y16 := HYC.out W1 (Below.refl _ _) 16 _ rfl
    go_wp2_with fail
    refine (HC0.out W1 HB.out).mono ?_
    rintro e w2 ⟨⟨q0, rfl, hq0⟩, hb⟩
    have HB2 := Lib.hid hb
    have HQ0 := Lib.hid hq0
    clear hb hq0 z0 y0 z1 y1 z2 y2 z3 y3 z4 y4 z5 y5 z6 y6 z7 y7 z8 y8 z9 y9 z10 y10 z11 y11 z12 y12 z13 y13 z14 y14 z15 y15 z16 y16
    cases q0 with
    | false =>
      have HF : Hid (SamB P1 P2 (.returned (.bool false))) := Lib.hid (SamB.no (fun c => by have := HQ0.out.2 ((HIF.out.1 c).2.1); cases this))
      go_wp2_with fail
      go_ret
      exact ⟨HF.out, HB.out.trans (HB2.out.mono HB.out.size)⟩
    | true =>
    have z17 := HXC.out w2 HB2.out 17 _ rfl
    have y17 := HYC.out w2 HB2.out 17 _ rfl
    have z18 := HXC.out w2 HB2.out 18 _ rfl
    have y18 := HYC.out w2 HB2.out 18 _ rfl
    have z19 := HXC.out w2 HB2.out 19 _ rfl
    have y19 := HYC.out w2 HB2.out 19 _ rfl
    have z20 := HXC.out w2 HB2.out 20 _ rfl
    have y20 := HYC.out w2 HB2.out 20 _ rfl
    have z21 := HXC.out w2 HB2.out 21 _ rfl
    have y21 := HYC.out w2 HB2.out 21 _ rfl
    go_wp2_with fail
    refine (HC1.out w2 (HB.out.trans (HB2.out.mono HB.out.size))).mono ?_
    rintro e w3 ⟨⟨q1, rfl, hq1⟩, hb⟩
    have HB3 := Lib.hid (HB2.out.trans (hb.mono HB2.out.size))
    have HQ1 := Lib.hid hq1
    clear hb hq1 z17 y17 z18 y18 z19 y19 z20 y20 z21 y21
    cases q1 with
    | false =>
      have HF : Hid (SamB P1 P2 (.returned (.bool false))) := Lib.hid (SamB.no (fun c => by have := HQ1.out.2 ((HIF.out.1 c).2.2.1); cases this))
      go_wp2_with fail
      go_ret
      exact ⟨HF.out, HB.out.trans (HB3.out.mono HB.out.size)⟩
    | true =>
    have z22 := HXC.out w3 HB3.out 22 _ rfl
    have y22 := HYC.out w3 HB3.out 22 _ rfl
    go_wp2_with fail
    refine (HC2.out w3 (HB.out.trans (HB3.out.mono HB.out.size))).mono ?_
    rintro e w4 ⟨⟨q2, rfl, hq2⟩, hb⟩
    have HB4 := Lib.hid (HB3.out.trans (hb.mono HB3.out.size))
    have HQ2 := Lib.hid hq2
    clear hb hq2 z22 y22
    cases q2 with
    | false =>
      have HF : Hid (SamB P1 P2 (.returned (.bool false))) := Lib.hid (SamB.no (fun c => by have := HQ2.out.2 ((HIF.out.1 c).2.2.2.1); cases this))
      go_wp2_with fail
      go_ret
      exact ⟨HF.out, HB.out.trans (HB4.out.mono HB.out.size)⟩
    | true =>
    have z23 := HXC.out w4 HB4.out 23 _ rfl
    have y23 := HYC.out w4 HB4.out 23 _ rfl
    go_wp2_with fail
    refine (HC3.out w4 (HB.out.trans (HB4.out.mono HB.out.size))).mono ?_
    rintro e w5 ⟨⟨q3, rfl, hq3⟩, hb⟩
    have HB5 := Lib.hid (HB4.out.trans (hb.mono HB4.out.size))
    have HQ3 := Lib.hid hq3
    clear hb hq3 z23 y23
    cases q3 with
    | false =>
      have HF : Hid (SamB P1 P2 (.returned (.bool false))) := Lib.hid (SamB.no (fun c => by have := HQ3.out.2 ((HIF.out.1 c).2.2.2.2.1); cases this))
      go_wp2_with fail
      go_ret
      exact ⟨HF.out, HB.out.trans (HB5.out.mono HB.out.size)⟩
    | true =>
    have z24 := HXC.out w5 HB5.out 24 _ rfl
    have y24 := HYC.out w5 HB5.out 24 _ rfl
    go_wp2_with fail
    refine (HC4.out w5 (HB.out.trans (HB5.out.mono HB.out.size))).mono ?_
    rintro e w6 ⟨⟨q4, rfl, hq4⟩, hb⟩
    have HB6 := Lib.hid (HB5.out.trans (hb.mono HB5.out.size))
    have HQ4 := Lib.hid hq4
    clear hb hq4 z24 y24
    cases q4 with
    | false =>
      have HF : Hid (SamB P1 P2 (.returned (.bool false))) := Lib.hid (SamB.no (fun c => by have := HQ4.out.2 ((HIF.out.1 c).2.2.2.2.2); cases this))
      go_wp2_with fail
      go_ret
      exact ⟨HF.out, HB.out.trans (HB6.out.mono HB.out.size)⟩
    | true =>
    have HF : Hid (SamB P1 P2 (.returned (.bool true))) := Lib.hid (SamB.yes (HIF.out.2 ⟨by simp, HQ0.out.1 (by simp), HQ1.out.1 (by simp), HQ2.out.1 (by simp), HQ3.out.1 (by simp), HQ4.out.1 (by simp)⟩))
    go_wp2_with fail
    go_ret
    exact ⟨HF.out, HB.out.trans (HB6.out.mono HB.out.size)⟩
/-- Same, over cells as lists. -/
theorem same16x (VL UL : List Value) (a b : Mg) (w : World) (h : MV (LRv w) VL a) (k : MV (LRv w) UL b) (ha : bareL a.SE = true) (hb : bareL b.SE = true) (hla : okM a = true) (hlb : okM b = true) :
    Calls Try.prog 15 #[.agg VL.toArray, .agg UL.toArray] w fun e w' => SamB (nM a) (nM b) e ∧ Below w.heap.size w w' := by
  have hl1 := okM_len hla
  have hl2 := okM_len hlb
  clear hla hlb
  obtain ⟨kd, a1, a2, a3, a4, a5, a6, wh, ok, oy, ov, od, og, OW, ol, oh, om, er, rv, rg, RP, ru, MP, EN, SE, v1, v2, v3, v4, v5, e1, e2, r1, r2, r3, r4, r5, s1, s2, s3, s4, s5⟩ := h
  obtain ⟨kd2, a12, a22, a32, a42, a52, a62, wh2, ok2, oy2, ov2, od2, og2, OW2, ol2, oh2, om2, er2, rv2, rg2, RP2, ru2, MP2, EN2, SE2, u1, u2, u3, u4, u5, e1', e2', r1', r2', r3', r4', r5', t1, t2, t3, t4, t5⟩ := k
  subst e1 e2 e1' e2'
  simp only at hl1 hl2 ha hb
  obtain ⟨l1, l2, l3, l4, l5⟩ := hl1
  obtain ⟨j1, j2, j3, j4, j5⟩ := hl2
  obtain ⟨xa1, xn1, xc1, rfl, p1⟩ := r1
  obtain ⟨xa2, xn2, xc2, rfl, p2⟩ := r2
  obtain ⟨xa3, xn3, xc3, rfl, p3⟩ := r3
  obtain ⟨xa4, xn4, xc4, rfl, p4⟩ := r4
  obtain ⟨xa5, xn5, xc5, rfl, p5⟩ := r5
  obtain ⟨ya1, yn1, yc1, rfl, q1⟩ := r1'
  obtain ⟨ya2, yn2, yc2, rfl, q2⟩ := r2'
  obtain ⟨ya3, yn3, yc3, rfl, q3⟩ := r3'
  obtain ⟨ya4, yn4, yc4, rfl, q4⟩ := r4'
  obtain ⟨ya5, yn5, yc5, rfl, q5⟩ := r5'
  have hm : (512 : Nat) ≤ maxLen := by decide
  exact same16x_any w kd a1 a2 a3 a4 a5 a6 wh ok oy ov od og OW ol oh om er rv rg RP ru MP EN SE kd2 a12 a22 a32 a42 a52 a62 wh2 ok2 oy2 ov2 od2 og2 OW2 ol2 oh2 om2 er2 rv2 rg2 RP2 ru2 MP2 EN2 SE2 xa1 xn1 xc1 xa2 xn2 xc2 xa3 xn3 xc3 xa4 xn4 xc4 xa5 xn5 xc5 ya1 yn1 yc1 ya2 yn2 yc2 ya3 yn3 yc3 ya4 yn4 yc4 ya5 yn5 yc5 ⟨_, _, _, rfl, p1⟩ ⟨_, _, _, rfl, q1⟩ (by omega) (by omega) ⟨_, _, _, rfl, p2⟩ ⟨_, _, _, rfl, q2⟩ (by omega) (by omega) ⟨_, _, _, rfl, p3⟩ ⟨_, _, _, rfl, q3⟩ (by omega) (by omega) ⟨_, _, _, rfl, p4⟩ ⟨_, _, _, rfl, q4⟩ (by omega) (by omega) ⟨_, _, _, rfl, p5⟩ ⟨_, _, _, rfl, q5⟩ (by omega) (by omega) s1 t1 s2 t2 s3 t3 s4 t4 s5 t5 ha hb
end Go.Proofs.Ytdnhmkfgcpdbkaa
