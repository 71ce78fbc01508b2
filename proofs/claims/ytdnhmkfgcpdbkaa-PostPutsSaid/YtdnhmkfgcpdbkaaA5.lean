/-
  Texts of mine as one, in the order in which they build: Uf, Ug, Uh. Conditions: as each says.
-/
import Derived.Test.YtdnhmkfgcpdbkaaUe
namespace Go.Proofs.Ytdnhmkfgcpdbkaa
open Go.RowKit
set_option linter.unusedVariables false
set_option linter.unusedSimpArgs false

def mK : Mg := { zM with A := [.n 1 15 15, .n 0 maxN 0, .n 0 maxN 0, .n 0 maxN 0, .n 0 maxN 0, .n 0 maxN 0, .n 0 maxN 0, .f false] }
theorem ok_rep (most n : Nat) (z : List Fld) (hz : okE z = true) : okLs most (List.replicate n z) = decide (n ≤ most) := by
  unfold okLs
  rw [List.length_replicate]
  have : (List.replicate n z).all okE = true := List.all_eq_true.2 fun x hx => by rw [List.eq_of_mem_replicate hx]; exact hz
  rw [this, Bool.and_true]
theorem tx_rep (n k : Nat) (z : List Fld) (hz : (txE z).length ≤ k) (hn : n ≤ 600) : (txLs (List.replicate n z)).length ≤ 9 + n * k := by
  unfold txLs
  rw [List.length_append, List.length_replicate]
  have h1 := vL_len9 (n := n) (by omega)
  have h2 : ((List.replicate n z).flatMap txE).length ≤ n * k := by
    induction n with
    | zero => simp
    | succ n ih =>
      rw [List.replicate_succ, List.flatMap_cons, List.length_append, Nat.add_mul, Nat.one_mul]
      have := ih (by omega) (vL_len9 (by omega))
      omega
  omega
theorem vL0 : vL 0 = [0] := vL_lt (by decide)
theorem z_len : (txE zeroWrite).length ≤ 7 ∧ (txE zeroPair).length ≤ 7 ∧ (txE zeroShard).length ≤ 7 ∧ (txE zeroEntry).length ≤ 7 ∧ (txE zeroSeen).length ≤ 7 := by
  have t0 : txL ((⟨#[]⟩ : ByteArray).data.toList) = [0] := by show vL 0 ++ [] = _; rw [vL0]; rfl
  have n0 : vL (0 : Int).toNat = [0] := vL0
  have f0 : vL 0 = [0] := vL0
  unfold zeroWrite zeroPair zeroShard zeroEntry zeroSeen txE
  simp only [List.flatMap_cons, List.flatMap_nil, txF, t0, n0, f0, Bool.false_eq_true, if_false, List.append_nil]
  decide
theorem z_ok : okE zeroWrite = true ∧ okE zeroPair = true ∧ okE zeroShard = true ∧ okE zeroEntry = true ∧ okE zeroSeen = true := by decide
theorem b_len : (txE mK.A).length ≤ 72 ∧ (txE zM.OA).length ≤ 45 ∧ (txE zM.OC).length ≤ 27 ∧ (txE zM.RA).length ≤ 27 ∧ (txE zM.RC).length ≤ 9 := by
  have t0 : txL ((⟨#[]⟩ : ByteArray).data.toList) = [0] := by show vL 0 ++ [] = _; rw [vL0]; rfl
  have n0 : vL (0 : Int).toNat = [0] := vL0
  have n1 : vL (15 : Int).toNat = [15] := vL_lt (by decide)
  have f0 : vL 0 = [0] := vL0
  unfold mK zM txE
  simp only [List.flatMap_cons, List.flatMap_nil, txF, t0, n0, n1, f0, Bool.false_eq_true, if_false, List.append_nil]
  decide
theorem seal_size (l : List UInt8) : (sealB l).size = l.length + 4 := by
  show (l ++ CR.tailL l).toArray.size = _
  rw [List.size_toArray, List.length_append, CR.tailL_length]
theorem nil_ls : (txLs []).length ≤ 9 := by
  unfold txLs
  rw [List.length_append]
  have := vL_len9 (n := ([] : List (List Fld)).length) (by simp)
  simpa using this
theorem b_ok : okE mK.A = true ∧ okE zM.OA = true ∧ okE zM.OC = true ∧ okE zM.RA = true ∧ okE zM.RC = true := by decide
/-- The five messages. -/
def mMany (i n : Nat) : Mg := match i with
  | 0 => { mK with OW := List.replicate n zeroWrite }
  | 1 => { mK with RP := List.replicate n zeroPair }
  | 2 => { mK with MP := List.replicate n zeroShard }
  | 3 => { mK with EN := List.replicate n zeroEntry }
  | _ => { mK with SE := List.replicate n zeroSeen }
def mostMany : Nat → Nat
  | 0 => 64
  | 1 => 512
  | 2 => 64
  | 3 => 512
  | _ => 8
theorem many_ok (i n : Nat) : okM (mMany i n) = decide (n ≤ mostMany i) := by
  obtain ⟨z1, z2, z3, z4, z5⟩ := z_ok
  obtain ⟨b1, b2, b3, b4, b5⟩ := b_ok
  have n0 : ∀ m, okLs m [] = true := fun m => by simp [okLs]
  match i with
  | 0 =>
    show (okE mK.A && (okSg 64 zM.OA (List.replicate n zeroWrite) zM.OC && (okSg 512 zM.RA [] zM.RC && (okLs 64 [] && (okLs 512 [] && okLs 8 []))))) = _
    unfold okSg; rw [b1, b2, b3, b4, b5, ok_rep 64 n _ z1]; simp [n0, mostMany]
  | 1 =>
    show (okE mK.A && (okSg 64 zM.OA [] zM.OC && (okSg 512 zM.RA (List.replicate n zeroPair) zM.RC && (okLs 64 [] && (okLs 512 [] && okLs 8 []))))) = _
    unfold okSg; rw [b1, b2, b3, b4, b5, ok_rep 512 n _ z2]; simp [n0, mostMany]
  | 2 =>
    show (okE mK.A && (okSg 64 zM.OA [] zM.OC && (okSg 512 zM.RA [] zM.RC && (okLs 64 (List.replicate n zeroShard) && (okLs 512 [] && okLs 8 []))))) = _
    unfold okSg; rw [b1, b2, b3, b4, b5, ok_rep 64 n _ z3]; simp [n0, mostMany]
  | 3 =>
    show (okE mK.A && (okSg 64 zM.OA [] zM.OC && (okSg 512 zM.RA [] zM.RC && (okLs 64 [] && (okLs 512 (List.replicate n zeroEntry) && okLs 8 []))))) = _
    unfold okSg; rw [b1, b2, b3, b4, b5, ok_rep 512 n _ z4]; simp [n0, mostMany]
  | i + 4 =>
    show (okE mK.A && (okSg 64 zM.OA [] zM.OC && (okSg 512 zM.RA [] zM.RC && (okLs 64 [] && (okLs 512 [] && okLs 8 (List.replicate n zeroSeen)))))) = _
    unfold okSg; rw [b1, b2, b3, b4, b5, ok_rep 8 n _ z5]; simp [n0, mostMany]
theorem many_bare (i n : Nat) : bareL (mMany i n).SE = true := by
  match i with
  | 0 => rfl
  | 1 => rfl
  | 2 => rfl
  | 3 => rfl
  | i + 4 =>
    show bareL (List.replicate n zeroSeen) = true
    unfold bareL
    exact List.all_eq_true.2 fun x hx => by rw [List.eq_of_mem_replicate hx]; rfl
theorem many_size (i n : Nat) (hn : n ≤ 600) : (sealB (txM (mMany i n))).size ≤ 262144 := by
  rw [seal_size]
  obtain ⟨b1, b2, b3, b4, b5⟩ := b_len
  obtain ⟨z1, z2, z3, z4, z5⟩ := z_len
  have q := nil_ls
  have r1 := tx_rep n 7 _ z1 hn
  have r2 := tx_rep n 7 _ z2 hn
  have r3 := tx_rep n 7 _ z3 hn
  have r4 := tx_rep n 7 _ z4 hn
  have r5 := tx_rep n 7 _ z5 hn
  match i with
  | 0 =>
    show (txE mK.A ++ (txSg zM.OA (List.replicate n zeroWrite) zM.OC ++ (txSg zM.RA [] zM.RC ++ (txLs [] ++ (txLs [] ++ txLs []))))).length + 4 ≤ _
    unfold txSg; simp only [List.length_append]; omega
  | 1 =>
    show (txE mK.A ++ (txSg zM.OA [] zM.OC ++ (txSg zM.RA (List.replicate n zeroPair) zM.RC ++ (txLs [] ++ (txLs [] ++ txLs []))))).length + 4 ≤ _
    unfold txSg; simp only [List.length_append]; omega
  | 2 =>
    show (txE mK.A ++ (txSg zM.OA [] zM.OC ++ (txSg zM.RA [] zM.RC ++ (txLs (List.replicate n zeroShard) ++ (txLs [] ++ txLs []))))).length + 4 ≤ _
    unfold txSg; simp only [List.length_append]; omega
  | 3 =>
    show (txE mK.A ++ (txSg zM.OA [] zM.OC ++ (txSg zM.RA [] zM.RC ++ (txLs [] ++ (txLs (List.replicate n zeroEntry) ++ txLs []))))).length + 4 ≤ _
    unfold txSg; simp only [List.length_append]; omega
  | i + 4 =>
    show (txE mK.A ++ (txSg zM.OA [] zM.OC ++ (txSg zM.RA [] zM.RC ++ (txLs [] ++ (txLs [] ++ txLs (List.replicate n zeroSeen)))))).length + 4 ≤ _
    unfold txSg; simp only [List.length_append]; omega
theorem many_put (i n : Nat) (hn : n ≤ 600) : putOk (mMany i n) = decide (n ≤ mostMany i) := by
  unfold putOk
  rw [many_ok, many_bare, decide_eq_true (many_size i n hn)]
  simp
end Go.Proofs.Ytdnhmkfgcpdbkaa
namespace Go.Proofs.Ytdnhmkfgcpdbkaa
open Go.RowKit
set_option linter.unusedVariables false
set_option linter.unusedSimpArgs false

/-- A message's cells, and what its slices lead to (told by R). -/
def MV (R : Nat → Value → List (List Fld) → Prop) (VL : List Value) (m : Mg) : Prop :=
  ∃ (kd a1 a2 a3 a4 a5 a6 : Int) (wh : Bool) (ok : Int) (oy ov od : ByteArray) (og : Bool) (OW : List (List Fld)) (ol oh : ByteArray) (om er : Int) (rv : ByteArray) (rg : Bool) (RP : List (List Fld)) (ru : ByteArray) (MP EN SE : List (List Fld)) (v1 v2 v3 v4 v5 : Value), m = (⟨[.n 1 15 kd, .n 0 maxN a1, .n 0 maxN a2, .n 0 maxN a3, .n 0 maxN a4, .n 0 maxN a5, .n 0 maxN a6, .f wh], [.n 0 maxN ok, .t oy, .t ov, .t od, .f og], OW, [.t ol, .t oh, .n 0 maxN om], [.n 0 maxN er, .t rv, .f rg], RP, [.t ru], MP, EN, SE⟩ : Mg) ∧ VL = [.int .i64 kd, .int .i64 a1, .int .i64 a2, .int .i64 a3, .int .i64 a4, .int .i64 a5, .int .i64 a6, .bool wh, .int .i64 ok, .string oy, .string ov, .string od, .bool og, v1, .string ol, .string oh, .int .i64 om, .int .i64 er, .string rv, .bool rg, v2, .string ru, v3, v4, v5] ∧
    R 3 v1 OW ∧ R 2 v2 RP ∧ R 6 v3 MP ∧ R 4 v4 EN ∧ R 7 v5 SE ∧ (∀ x ∈ OW, isWrite x) ∧ (∀ x ∈ RP, isPair x) ∧ (∀ x ∈ MP, isShard x) ∧ (∀ x ∈ EN, isEntry x) ∧ (∀ x ∈ SE, slPr x)
theorem MV.imp {R R' : Nat → Value → List (List Fld) → Prop} {VL : List Value} {m : Mg} (h : MV R VL m) (hi : ∀ z v L, R z v L → R' z v L) : MV R' VL m := by
  obtain ⟨kd, a1, a2, a3, a4, a5, a6, wh, ok, oy, ov, od, og, OW, ol, oh, om, er, rv, rg, RP, ru, MP, EN, SE, v1, v2, v3, v4, v5, e1, e2, r1, r2, r3, r4, r5, s⟩ := h
  exact ⟨kd, a1, a2, a3, a4, a5, a6, wh, ok, oy, ov, od, og, OW, ol, oh, om, er, rv, rg, RP, ru, MP, EN, SE, v1, v2, v3, v4, v5, e1, e2, hi _ _ _ r1, hi _ _ _ r2, hi _ _ _ r3, hi _ _ _ r4, hi _ _ _ r5, s⟩
theorem MV.old {w w' : World} {VL : List Value} {m : Mg} (h : MV (LRd w) VL m) (hb : Below w.heap.size w w') : MV (LRd w') VL m := h.imp fun _ _ _ r => r.old hb
theorem MV.oldv {w w' : World} {VL : List Value} {m : Mg} (h : MV (LRv w) VL m) (hb : Below w.heap.size w w') : MV (LRv w') VL m := h.imp fun _ _ _ r => r.old hb
theorem MV.v {w : World} {VL : List Value} {m : Mg} (h : MV (LRd w) VL m) : MV (LRv w) VL m := h.imp fun _ _ _ r => r.v
theorem MV.len {R : Nat → Value → List (List Fld) → Prop} {VL : List Value} {m : Mg} (h : MV R VL m) : VL.length = 25 := by
  obtain ⟨kd, a1, a2, a3, a4, a5, a6, wh, ok, oy, ov, od, og, OW, ol, oh, om, er, rv, rg, RP, ru, MP, EN, SE, v1, v2, v3, v4, v5, e1, e2, _⟩ := h
  rw [e2]; rfl
theorem LRv.one {w : World} {z : Nat} {v : Value} {L : List (List Fld)} (h : LRv w z v L) : v.oneCell' = true := by obtain ⟨_, _, _, rfl, _⟩ := h; rfl
theorem MV.one {w : World} {VL : List Value} {m : Mg} (h : MV (LRv w) VL m) : VL.toArray.all (·.oneCell') = true := by
  obtain ⟨kd, a1, a2, a3, a4, a5, a6, wh, ok, oy, ov, od, og, OW, ol, oh, om, er, rv, rg, RP, ru, MP, EN, SE, v1, v2, v3, v4, v5, e1, e2, r1, r2, r3, r4, r5, s⟩ := h
  subst e2
  have h1 := r1.one
  have h2 := r2.one
  have h3 := r3.one
  have h4 := r4.one
  have h5 := r5.one
  refine all_oneCell_toArray ?_
  intro v hv
  simp only [List.mem_cons, List.not_mem_nil, or_false] at hv
  rcases hv with rfl | rfl | rfl | rfl | rfl | rfl | rfl | rfl | rfl | rfl | rfl | rfl | rfl | rfl | rfl | rfl | rfl | rfl | rfl | rfl | rfl | rfl | rfl | rfl | rfl <;> first | rfl | assumption
theorem slSeen {x : List Fld} (h : slPr x) : isSeen x := by obtain ⟨cc, sq, er, va, g, a, n, c, u, rfl⟩ := h; exact ⟨cc, sq, er, va, g, _, u, rfl⟩
theorem MV.shl {R : Nat → Value → List (List Fld) → Prop} {VL : List Value} {m : Mg} (h : MV R VL m) : ShL m ∧ ShF m ∧ ZMs m := by
  obtain ⟨kd, a1, a2, a3, a4, a5, a6, wh, ok, oy, ov, od, og, OW, ol, oh, om, er, rv, rg, RP, ru, MP, EN, SE, v1, v2, v3, v4, v5, e1, e2, r1, r2, r3, r4, r5, s1, s2, s3, s4, s5⟩ := h
  subst e1
  exact ⟨⟨s1, s2, s3, s4, fun x hx => slSeen (s5 x hx)⟩, ⟨⟨rfl, by simp⟩, ⟨rfl, by simp⟩, ⟨rfl, by simp⟩, ⟨rfl, by simp⟩, ⟨rfl, by simp⟩⟩, ⟨rfl, rfl, rfl, rfl, rfl⟩⟩
theorem check16 (VL : List Value) (m : Mg) (w : World) (h : MV (LRd w) VL m) :
    Calls Try.prog 12 #[.agg VL.toArray] w fun e w' => e = .returned (.int .i64 (if (okM m && bareL m.SE) = true then 0 else 1)) ∧ Below w.heap.size w w' := by
  obtain ⟨kd, a1, a2, a3, a4, a5, a6, wh, ok, oy, ov, od, og, OW, ol, oh, om, er, rv, rg, RP, ru, MP, EN, SE, v1, v2, v3, v4, v5, e1, e2, r1, r2, r3, r4, r5, s1, s2, s3, s4, s5⟩ := h
  subst e1 e2
  exact check16_any kd a1 a2 a3 a4 a5 a6 wh ok oy ov od og OW ol oh om er rv rg RP ru MP EN SE v1 v2 v3 v4 v5 w r1 s1 r2 s2 r3 s3 r4 s4 r5 (fun x hx => slSeen (s5 x hx)) s5
theorem put16 (VL : List Value) (m : Mg) (w : World) (h : MV (LRd w) VL m) :
    Calls Try.prog 10 #[.agg VL.toArray] w fun e w' => e = .returned (.tuple #[.string (putS m), .int .i64 (putE m)]) ∧ Below w.heap.size w w' := by
  obtain ⟨kd, a1, a2, a3, a4, a5, a6, wh, ok, oy, ov, od, og, OW, ol, oh, om, er, rv, rg, RP, ru, MP, EN, SE, v1, v2, v3, v4, v5, e1, e2, r1, r2, r3, r4, r5, s1, s2, s3, s4, s5⟩ := h
  subst e1 e2
  exact put16_any kd a1 a2 a3 a4 a5 a6 wh ok oy ov od og OW ol oh om er rv rg RP ru MP EN SE v1 v2 v3 v4 v5 w r1 s1 r2 s2 r3 s3 r4 s4 r5 (fun x hx => slSeen (s5 x hx)) s5
theorem one_els {σ : Type} (W : Way σ) (P : List Fld → Prop) (z : List Fld) (hz : ∀ s, P (elemW W s z).2) (s : σ) (most : Nat) : ∀ x ∈ (listW W z most s []).2, P x := by
  have h1 : ∀ (n : Nat) (s : σ), ∀ x ∈ (elsW W s (List.replicate n z)).2, P x := by
    intro n
    induction n with
    | zero => intro s x hx; simp [elsW, stepsW] at hx
    | succ n ih =>
      intro s x hx
      rw [List.replicate_succ] at hx
      have e : (elsW W s (z :: List.replicate n z)).2 = (elemW W s z).2 :: (elsW W (elemW W s z).1 (List.replicate n z)).2 := rfl
      rw [e, List.mem_cons] at hx
      rcases hx with rfl | hx
      · exact hz s
      · exact ih _ x hx
  intro x hx
  unfold listW at hx
  split at hx
  · simp [elsW, stepsW] at hx
  · exact h1 _ _ x hx
/-- What is taken from the zero message is a message. -/
theorem taken_MV {σ : Type} (W : Way σ) (s : σ) (R : Nat → Value → List (List Fld) → Prop) (u1 u2 u3 u4 u5 : Value)
    (h1 : R 3 u1 (msgW W s zM).2.OW) (h2 : R 2 u2 (msgW W s zM).2.RP) (h3 : R 6 u3 (msgW W s zM).2.MP) (h4 : R 4 u4 (msgW W s zM).2.EN) (h5 : R 7 u5 (msgW W s zM).2.SE) : MV R (mcells (msgW W s zM).2 u1 u2 u3 u4 u5) (msgW W s zM).2 := by
  have hA : ∃ (kd a1 a2 a3 a4 a5 a6 : Int) (wh : Bool), (msgW W s zM).2.A = [.n 1 15 kd, .n 0 maxN a1, .n 0 maxN a2, .n 0 maxN a3, .n 0 maxN a4, .n 0 maxN a5, .n 0 maxN a6, .f wh] := ⟨_, _, _, _, _, _, _, _, rfl⟩
  have hOA : ∃ (ok : Int) (oy ov od : ByteArray) (og : Bool), (msgW W s zM).2.OA = [.n 0 maxN ok, .t oy, .t ov, .t od, .f og] := ⟨_, _, _, _, _, rfl⟩
  have hOC : ∃ (ol oh : ByteArray) (om : Int), (msgW W s zM).2.OC = [.t ol, .t oh, .n 0 maxN om] := ⟨_, _, _, rfl⟩
  have hRA : ∃ (er : Int) (rv : ByteArray) (rg : Bool), (msgW W s zM).2.RA = [.n 0 maxN er, .t rv, .f rg] := ⟨_, _, _, rfl⟩
  have hRC : ∃ (ru : ByteArray), (msgW W s zM).2.RC = [.t ru] := ⟨_, rfl⟩
  have k1 : ∀ x ∈ (msgW W s zM).2.OW, isWrite x := one_els W isWrite zeroWrite (fun s => ⟨_, _, _, rfl⟩) _ 64
  have k2 : ∀ x ∈ (msgW W s zM).2.RP, isPair x := one_els W isPair zeroPair (fun s => ⟨_, _, rfl⟩) _ 512
  have k3 : ∀ x ∈ (msgW W s zM).2.MP, isShard x := one_els W isShard zeroShard (fun s => ⟨_, _, _, _, _, _, rfl⟩) _ 64
  have k4 : ∀ x ∈ (msgW W s zM).2.EN, isEntry x := one_els W isEntry zeroEntry (fun s => ⟨_, _, _, _, rfl⟩) _ 512
  have k5 : ∀ x ∈ (msgW W s zM).2.SE, slPr x := one_els W slPr zeroSeen (fun s => ⟨_, _, _, _, _, _, _, _, _, rfl⟩) _ 8
  generalize (msgW W s zM).2 = M at hA hOA hOC hRA hRC k1 k2 k3 k4 k5 h1 h2 h3 h4 h5 ⊢
  obtain ⟨A, OA, OW, OC, RA, RP, RC, MP, EN, SE⟩ := M
  dsimp only at hA hOA hOC hRA hRC k1 k2 k3 k4 k5 h1 h2 h3 h4 h5
  obtain ⟨kd, a1, a2, a3, a4, a5, a6, wh, rfl⟩ := hA
  obtain ⟨ok, oy, ov, od, og, rfl⟩ := hOA
  obtain ⟨ol, oh, om, rfl⟩ := hOC
  obtain ⟨er, rv, rg, rfl⟩ := hRA
  obtain ⟨ru, rfl⟩ := hRC
  exact ⟨kd, a1, a2, a3, a4, a5, a6, wh, ok, oy, ov, od, og, OW, ol, oh, om, er, rv, rg, RP, ru, MP, EN, SE, u1, u2, u3, u4, u5, rfl, rfl, h1, h2, h3, h4, h5, k1, k2, k3, k4, k5⟩
theorem take16 (s : ByteArray) (w : World) (hs : s.size ≤ 140737488351232) : Calls Try.prog 14 #[.string s] w fun e w' => Below w.heap.size w w' ∧
    ((tkOk s = false ∧ e = .returned (.tuple #[.agg #[.int .i64 0, .int .i64 0, .int .i64 0, .int .i64 0, .int .i64 0, .int .i64 0, .int .i64 0, .bool false, .int .i64 0, .string ⟨#[]⟩, .string ⟨#[]⟩, .string ⟨#[]⟩, .bool false, .slice none 0 0, .string ⟨#[]⟩, .string ⟨#[]⟩, .int .i64 0, .int .i64 0, .string ⟨#[]⟩, .bool false, .slice none 0 0, .string ⟨#[]⟩, .slice none 0 0, .slice none 0 0, .slice none 0 0], .int .i64 160])) ∨
     (tkOk s = true ∧ ∃ VL : List Value, e = .returned (.tuple #[.agg VL.toArray, .int .i64 0]) ∧ MV (LRv w') VL (TKr s).2)) := by
  refine (take16_any s w hs).mono ?_
  rintro e w' ⟨hb, h | ⟨ht, u1, u2, u3, u4, u5, he, r1, r2, r3, r4, r5⟩⟩
  · exact ⟨hb, .inl h⟩
  · exact ⟨hb, .inr ⟨ht, _, he, taken_MV takesW (false, s) _ u1 u2 u3 u4 u5 r1 r2 r3 r4 r5⟩⟩
end Go.Proofs.Ytdnhmkfgcpdbkaa
namespace Go.Proofs.Ytdnhmkfgcpdbkaa
open Go.RowKit
set_option linter.unusedVariables false
set_option linter.unusedSimpArgs false

theorem nf_id {L : List (List Fld)} (h : ∀ x ∈ L, x.map nF = x) : L.map (·.map nF) = L := by
  induction L with
  | nil => rfl
  | cons x r ih => rw [List.map_cons, h x (by simp), ih (fun y hy => h y (by simp [hy]))]
theorem nWrite {x : List Fld} (h : isWrite x) : x.map nF = x := by obtain ⟨_, _, _, rfl⟩ := h; rfl
theorem nPair {x : List Fld} (h : isPair x) : x.map nF = x := by obtain ⟨_, _, rfl⟩ := h; rfl
theorem nShard {x : List Fld} (h : isShard x) : x.map nF = x := by obtain ⟨_, _, _, _, _, _, rfl⟩ := h; rfl
theorem nEntry {x : List Fld} (h : isEntry x) : x.map nF = x := by obtain ⟨_, _, _, _, rfl⟩ := h; rfl
theorem okM_len {m : Mg} (h : okM m = true) : m.OW.length ≤ 64 ∧ m.RP.length ≤ 512 ∧ m.MP.length ≤ 64 ∧ m.EN.length ≤ 512 ∧ m.SE.length ≤ 8 := by
  unfold okM okSg okLs at h
  simp only [Bool.and_eq_true, decide_eq_true_eq] at h
  obtain ⟨_, ⟨_, ⟨h1, _⟩, _⟩, ⟨_, ⟨h2, _⟩, _⟩, ⟨h3, _⟩, ⟨h4, _⟩, h5, _⟩ := h
  exact ⟨h1, h2, h3, h4, h5⟩
theorem same16 (VL UL : List Value) (m : Mg) (w : World) (h : MV (LRv w) VL m) (k : MV (LRv w) UL (nM m)) (hb : bareL m.SE = true) (hok : okM m = true) :
    Calls Try.prog 15 #[.agg VL.toArray, .agg UL.toArray] w fun e w' => e = .returned (.bool true) ∧ Below w.heap.size w w' := by
  have hl := okM_len hok
  clear hok
  obtain ⟨kd, a1, a2, a3, a4, a5, a6, wh, ok, oy, ov, od, og, OW, ol, oh, om, er, rv, rg, RP, ru, MP, EN, SE, v1, v2, v3, v4, v5, e1, e2, r1, r2, r3, r4, r5, s1, s2, s3, s4, s5⟩ := h
  obtain ⟨zkd, za1, za2, za3, za4, za5, za6, zwh, zok, zoy, zov, zod, zog, zOW, zol, zoh, zom, zer, zrv, zrg, zRP, zru, zMP, zEN, zSE, u1, u2, u3, u4, u5, e1', e2', r1', r2', r3', r4', r5', t1, t2, t3, t4, t5⟩ := k
  subst e1 e2 e2'
  have hA := congrArg Mg.A e1'
  have hOA := congrArg Mg.OA e1'
  have hOW := congrArg Mg.OW e1'
  have hOC := congrArg Mg.OC e1'
  have hRA := congrArg Mg.RA e1'
  have hRP := congrArg Mg.RP e1'
  have hRC := congrArg Mg.RC e1'
  have hMP := congrArg Mg.MP e1'
  have hEN := congrArg Mg.EN e1'
  have hSE := congrArg Mg.SE e1'
  clear e1'
  simp only [nM, List.map_cons, List.map_nil, nF, List.cons.injEq, Fld.n.injEq, Fld.f.injEq, Fld.t.injEq, true_and, and_true] at hA hOA hOC hRA hRC
  simp only [nM] at hOW hRP hMP hEN hSE
  rw [nf_id (fun x hx => nWrite (s1 x hx))] at hOW
  rw [nf_id (fun x hx => nPair (s2 x hx))] at hRP
  rw [nf_id (fun x hx => nShard (s3 x hx))] at hMP
  rw [nf_id (fun x hx => nEntry (s4 x hx))] at hEN
  obtain ⟨rfl, rfl, rfl, rfl, rfl, rfl, rfl, rfl⟩ := hA
  obtain ⟨rfl, rfl, rfl, rfl, rfl⟩ := hOA
  obtain ⟨rfl, rfl, rfl⟩ := hOC
  obtain ⟨rfl, rfl, rfl⟩ := hRA
  obtain rfl := hRC
  subst hOW hRP hMP hEN hSE
  simp only at hl hb
  obtain ⟨l1, l2, l3, l4, l5⟩ := hl
  obtain ⟨xa1, xn1, xc1, rfl, p1⟩ := r1
  obtain ⟨xa2, xn2, xc2, rfl, p2⟩ := r2
  obtain ⟨xa3, xn3, xc3, rfl, p3⟩ := r3
  obtain ⟨xa4, xn4, xc4, rfl, p4⟩ := r4
  obtain ⟨xa5, xn5, xc5, rfl, p5⟩ := r5
  obtain ⟨ya1, yn1, yc1, rfl, q1⟩ := r1'
  obtain ⟨ya2, yn2, yc2, rfl, q2⟩ := r2'
  obtain ⟨ya3, yn3, yc3, rfl, q3⟩ := r3'
  obtain ⟨ya4, yn4, yc4, rfl, q4⟩ := r4'
  obtain ⟨ya5, yn5, yc5, rfl, q5⟩ := r5'
  have hm : (512 : Nat) ≤ maxLen := by decide
  exact same16_any w kd a1 a2 a3 a4 a5 a6 wh ok oy ov od og OW ol oh om er rv rg RP ru MP EN SE xa1 xn1 xc1 xa2 xn2 xc2 xa3 xn3 xc3 xa4 xn4 xc4 xa5 xn5 xc5 ya1 yn1 yc1 ya2 yn2 yc2 ya3 yn3 yc3 ya4 yn4 yc4 ya5 yn5 yc5 ⟨_, _, _, rfl, p1⟩ ⟨_, _, _, rfl, q1⟩ s1 (by omega) ⟨_, _, _, rfl, p2⟩ ⟨_, _, _, rfl, q2⟩ s2 (by omega) ⟨_, _, _, rfl, p3⟩ ⟨_, _, _, rfl, q3⟩ s3 (by omega) ⟨_, _, _, rfl, p4⟩ ⟨_, _, _, rfl, q4⟩ s4 (by omega) ⟨_, _, _, rfl, p5⟩ ⟨_, _, _, rfl, q5⟩ (by omega) s5 hb
end Go.Proofs.Ytdnhmkfgcpdbkaa
