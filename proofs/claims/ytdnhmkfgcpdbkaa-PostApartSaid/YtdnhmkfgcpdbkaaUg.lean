/-
  Layer 16 (post): a message by value, its cells as one list: contracts of Check, Put, Take over it. Conditions: as each says.
-/
import Derived.Test.YtdnhmkfgcpdbkaaUe
namespace Go.Proofs.Ytdnhmkfgcpdbkaa
open Go.RowKit
set_option linter.unusedVariables false
set_option linter.unusedSimpArgs false

/-- A message's cells, and what its slices lead to (told by R). -/
def MV (R : Nat → Value → List (List Fld) → Prop) (VL : List Value) (m : Mg) : Prop :=
  ∃ (kd a1 a2 a3 a4 a5 a6 : Int) (wh : Bool) (ok : Int) (oy ov od : ByteArray) (og : Bool) (OW : List (List Fld)) (ol oh : ByteArray) (om er : Int) (rv : ByteArray) (rg : Bool) (RP : List (List Fld)) (ru : ByteArray) (MP EN SE : List (List Fld)) (v1 v2 v3 v4 v5 : Value), m = (⟨[.n 1 15 kd, .n 0 maxN a1, .n 0 maxN a2, .n 0 maxN a3, .n 0 maxN a4, .n 0 maxN a5, .n 0 maxN a6, .f wh], [.n 0 maxN ok, .t oy, .t ov, .t od, .f og], OW, [.t ol, .t oh, .n 0 maxN om], [.n 0 maxN er, .t rv, .f rg], RP, [.t ru], MP, EN, SE⟩ : Mg) ∧ VL = [.int .i64 kd, .int .i64 a1, .int .i64 a2, .int .i64 a3, .int .i64 a4, .int .i64 a5, .int .i64 a6, .bool wh, .int .i64 ok, .string oy, .string ov, .string od, .bool og, v1, .string ol, .string oh, .int .i64 om, .int .i64 er, .string rv, .bool rg, v2, .string ru, v3, v4, v5] ∧
    R 3 v1 OW ∧ R 2 v2 RP ∧ R 6 v3 MP ∧ R 4 v4 EN ∧ R 7 v5 SE ∧ (∀ x ∈ OW, isWrite x) ∧ (∀ x ∈ RP, isPair x) ∧ (∀ x ∈ MP, isShard x) ∧ (∀ x ∈ EN, isEntry x) ∧ (∀ x ∈ SE, slPr x)
theorem MV.imp {R R' : Nat → Value → List (List Fld) → Prop} {VL : List Value} {m : Mg} (h : MV R VL m) (hi : ∀ z v L, R z v L → R' z v L) : MV R' VL m := by
  obtain ⟨kd, a1, a2, a3, a4, a5, a6, wh, ok, oy, ov, od, og, OW, ol, oh, om, er, rv, rg, RP, ru, MP, EN, SE, v1, v2, v3, v4, v5, e1, e2, r1, r2, r3, r4, r5, s⟩ := h
  exact ⟨kd, a1, a2, a3, a4, a5, a6, wh, ok, oy, ov, od, og, OW, ol, oh, om, er, rv, rg, RP, ru, MP, EN, SE, v1, v2, v3, v4, v5, e1, e2, hi _ _ _ r1, hi _ _ _ r2, hi _ _ _ r3, hi _ _ _ r4, hi _ _ _ r5, s⟩
theorem MV.old {w w' : World} {VL : List Value} {m : Mg} (h : MV (LRd w) VL m) (hb : Below w.heap.size w w') : MV (LRd w') VL m := h.imp fun _ _ _ r => r.old hb
theorem MV.oldv {w w' : World} {VL : List Value} {m : Mg} (h : MV (LRv w) VL m) (hb : Below w.heap.size w w') : MV (LRv w') VL m := h.imp fun _ _ _ r => r.old hb
theorem MV.v {w : World} {VL : List Value} {m : Mg} (h : MV (LRd w) VL m) : MV (LRv w) VL m := h.imp fun _ _ _ r => r.v
theorem MV.len {R : Nat → Value → List (List Fld) → Prop} {VL : List Value} {m : Mg} (h : MV R VL m) : VL.length = 25 := by
  obtain ⟨kd, a1, a2, a3, a4, a5, a6, wh, ok, oy, ov, od, og, OW, ol, oh, om, er, rv, rg, RP, ru, MP, EN, SE, v1, v2, v3, v4, v5, e1, e2, _⟩ := h
  rw [e2]; rfl
theorem LRv.one {w : World} {z : Nat} {v : Value} {L : List (List Fld)} (h : LRv w z v L) : v.oneCell' = true := by obtain ⟨_, _, _, rfl, _⟩ := h; rfl
theorem MV.one {w : World} {VL : List Value} {m : Mg} (h : MV (LRv w) VL m) : VL.toArray.all (·.oneCell') = true := by
  obtain ⟨kd, a1, a2, a3, a4, a5, a6, wh, ok, oy, ov, od, og, OW, ol, oh, om, er, rv, rg, RP, ru, MP, EN, SE, v1, v2, v3, v4, v5, e1, e2, r1, r2, r3, r4, r5, s⟩ := h
  subst e2
  have h1 := r1.one
  have h2 := r2.one
  have h3 := r3.one
  have h4 := r4.one
  have h5 := r5.one
  refine all_oneCell_toArray ?_
  intro v hv
  simp only [List.mem_cons, List.not_mem_nil, or_false] at hv
  rcases hv with rfl | rfl | rfl | rfl | rfl | rfl | rfl | rfl | rfl | rfl | rfl | rfl | rfl | rfl | rfl | rfl | rfl | rfl | rfl | rfl | rfl | rfl | rfl | rfl | rfl <;> first | rfl | assumption
theorem slSeen {x : List Fld} (h : slPr x) : isSeen x := by obtain ⟨cc, sq, er, va, g, a, n, c, u, rfl⟩ := h; exact ⟨cc, sq, er, va, g, _, u, rfl⟩
theorem MV.shl {R : Nat → Value → List (List Fld) → Prop} {VL : List Value} {m : Mg} (h : MV R VL m) : ShL m ∧ ShF m ∧ ZMs m := by
  obtain ⟨kd, a1, a2, a3, a4, a5, a6, wh, ok, oy, ov, od, og, OW, ol, oh, om, er, rv, rg, RP, ru, MP, EN, SE, v1, v2, v3, v4, v5, e1, e2, r1, r2, r3, r4, r5, s1, s2, s3, s4, s5⟩ := h
  subst e1
  exact ⟨⟨s1, s2, s3, s4, fun x hx => slSeen (s5 x hx)⟩, ⟨⟨rfl, by simp⟩, ⟨rfl, by simp⟩, ⟨rfl, by simp⟩, ⟨rfl, by simp⟩, ⟨rfl, by simp⟩⟩, ⟨rfl, rfl, rfl, rfl, rfl⟩⟩
theorem check16 (VL : List Value) (m : Mg) (w : World) (h : MV (LRd w) VL m) :
    Calls Try.prog 12 #[.agg VL.toArray] w fun e w' => e = .returned (.int .i64 (if (okM m && bareL m.SE) = true then 0 else 1)) ∧ Below w.heap.size w w' := by
  obtain ⟨kd, a1, a2, a3, a4, a5, a6, wh, ok, oy, ov, od, og, OW, ol, oh, om, er, rv, rg, RP, ru, MP, EN, SE, v1, v2, v3, v4, v5, e1, e2, r1, r2, r3, r4, r5, s1, s2, s3, s4, s5⟩ := h
  subst e1 e2
  exact check16_any kd a1 a2 a3 a4 a5 a6 wh ok oy ov od og OW ol oh om er rv rg RP ru MP EN SE v1 v2 v3 v4 v5 w r1 s1 r2 s2 r3 s3 r4 s4 r5 (fun x hx => slSeen (s5 x hx)) s5
theorem put16 (VL : List Value) (m : Mg) (w : World) (h : MV (LRd w) VL m) :
    Calls Try.prog 10 #[.agg VL.toArray] w fun e w' => e = .returned (.tuple #[.string (putS m), .int .i64 (putE m)]) ∧ Below w.heap.size w w' := by
  obtain ⟨kd, a1, a2, a3, a4, a5, a6, wh, ok, oy, ov, od, og, OW, ol, oh, om, er, rv, rg, RP, ru, MP, EN, SE, v1, v2, v3, v4, v5, e1, e2, r1, r2, r3, r4, r5, s1, s2, s3, s4, s5⟩ := h
  subst e1 e2
  exact put16_any kd a1 a2 a3 a4 a5 a6 wh ok oy ov od og OW ol oh om er rv rg RP ru MP EN SE v1 v2 v3 v4 v5 w r1 s1 r2 s2 r3 s3 r4 s4 r5 (fun x hx => slSeen (s5 x hx)) s5
theorem one_els {σ : Type} (W : Way σ) (P : List Fld → Prop) (z : List Fld) (hz : ∀ s, P (elemW W s z).2) (s : σ) (most : Nat) : ∀ x ∈ (listW W z most s []).2, P x := by
  have h1 : ∀ (n : Nat) (s : σ), ∀ x ∈ (elsW W s (List.replicate n z)).2, P x := by
    intro n
    induction n with
    | zero => intro s x hx; simp [elsW, stepsW] at hx
    | succ n ih =>
      intro s x hx
      rw [List.replicate_succ] at hx
      have e : (elsW W s (z :: List.replicate n z)).2 = (elemW W s z).2 :: (elsW W (elemW W s z).1 (List.replicate n z)).2 := rfl
      rw [e, List.mem_cons] at hx
      rcases hx with rfl | hx
      · exact hz s
      · exact ih _ x hx
  intro x hx
  unfold listW at hx
  split at hx
  · simp [elsW, stepsW] at hx
  · exact h1 _ _ x hx
/-- What is taken from the zero message is a message. -/
theorem taken_MV {σ : Type} (W : Way σ) (s : σ) (R : Nat → Value → List (List Fld) → Prop) (u1 u2 u3 u4 u5 : Value)
    (h1 : R 3 u1 (msgW W s zM).2.OW) (h2 : R 2 u2 (msgW W s zM).2.RP) (h3 : R 6 u3 (msgW W s zM).2.MP) (h4 : R 4 u4 (msgW W s zM).2.EN) (h5 : R 7 u5 (msgW W s zM).2.SE) : MV R (mcells (msgW W s zM).2 u1 u2 u3 u4 u5) (msgW W s zM).2 := by
  have hA : ∃ (kd a1 a2 a3 a4 a5 a6 : Int) (wh : Bool), (msgW W s zM).2.A = [.n 1 15 kd, .n 0 maxN a1, .n 0 maxN a2, .n 0 maxN a3, .n 0 maxN a4, .n 0 maxN a5, .n 0 maxN a6, .f wh] := ⟨_, _, _, _, _, _, _, _, rfl⟩
  have hOA : ∃ (ok : Int) (oy ov od : ByteArray) (og : Bool), (msgW W s zM).2.OA = [.n 0 maxN ok, .t oy, .t ov, .t od, .f og] := ⟨_, _, _, _, _, rfl⟩
  have hOC : ∃ (ol oh : ByteArray) (om : Int), (msgW W s zM).2.OC = [.t ol, .t oh, .n 0 maxN om] := ⟨_, _, _, rfl⟩
  have hRA : ∃ (er : Int) (rv : ByteArray) (rg : Bool), (msgW W s zM).2.RA = [.n 0 maxN er, .t rv, .f rg] := ⟨_, _, _, rfl⟩
  have hRC : ∃ (ru : ByteArray), (msgW W s zM).2.RC = [.t ru] := ⟨_, rfl⟩
  have k1 : ∀ x ∈ (msgW W s zM).2.OW, isWrite x := one_els W isWrite zeroWrite (fun s => ⟨_, _, _, rfl⟩) _ 64
  have k2 : ∀ x ∈ (msgW W s zM).2.RP, isPair x := one_els W isPair zeroPair (fun s => ⟨_, _, rfl⟩) _ 512
  have k3 : ∀ x ∈ (msgW W s zM).2.MP, isShard x := one_els W isShard zeroShard (fun s => ⟨_, _, _, _, _, _, rfl⟩) _ 64
  have k4 : ∀ x ∈ (msgW W s zM).2.EN, isEntry x := one_els W isEntry zeroEntry (fun s => ⟨_, _, _, _, rfl⟩) _ 512
  have k5 : ∀ x ∈ (msgW W s zM).2.SE, slPr x := one_els W slPr zeroSeen (fun s => ⟨_, _, _, _, _, _, _, _, _, rfl⟩) _ 8
  generalize (msgW W s zM).2 = M at hA hOA hOC hRA hRC k1 k2 k3 k4 k5 h1 h2 h3 h4 h5 ⊢
  obtain ⟨A, OA, OW, OC, RA, RP, RC, MP, EN, SE⟩ := M
  dsimp only at hA hOA hOC hRA hRC k1 k2 k3 k4 k5 h1 h2 h3 h4 h5
  obtain ⟨kd, a1, a2, a3, a4, a5, a6, wh, rfl⟩ := hA
  obtain ⟨ok, oy, ov, od, og, rfl⟩ := hOA
  obtain ⟨ol, oh, om, rfl⟩ := hOC
  obtain ⟨er, rv, rg, rfl⟩ := hRA
  obtain ⟨ru, rfl⟩ := hRC
  exact ⟨kd, a1, a2, a3, a4, a5, a6, wh, ok, oy, ov, od, og, OW, ol, oh, om, er, rv, rg, RP, ru, MP, EN, SE, u1, u2, u3, u4, u5, rfl, rfl, h1, h2, h3, h4, h5, k1, k2, k3, k4, k5⟩
theorem take16 (s : ByteArray) (w : World) (hs : s.size ≤ 140737488351232) : Calls Try.prog 14 #[.string s] w fun e w' => Below w.heap.size w w' ∧
    ((tkOk s = false ∧ e = .returned (.tuple #[.agg #[.int .i64 0, .int .i64 0, .int .i64 0, .int .i64 0, .int .i64 0, .int .i64 0, .int .i64 0, .bool false, .int .i64 0, .string ⟨#[]⟩, .string ⟨#[]⟩, .string ⟨#[]⟩, .bool false, .slice none 0 0, .string ⟨#[]⟩, .string ⟨#[]⟩, .int .i64 0, .int .i64 0, .string ⟨#[]⟩, .bool false, .slice none 0 0, .string ⟨#[]⟩, .slice none 0 0, .slice none 0 0, .slice none 0 0], .int .i64 160])) ∨
     (tkOk s = true ∧ ∃ VL : List Value, e = .returned (.tuple #[.agg VL.toArray, .int .i64 0]) ∧ MV (LRv w') VL (TKr s).2)) := by
  refine (take16_any s w hs).mono ?_
  rintro e w' ⟨hb, h | ⟨ht, u1, u2, u3, u4, u5, he, r1, r2, r3, r4, r5⟩⟩
  · exact ⟨hb, .inl h⟩
  · exact ⟨hb, .inr ⟨ht, _, he, taken_MV takesW (false, s) _ u1 u2 u3 u4 u5 r1 r2 r3 r4 r5⟩⟩
end Go.Proofs.Ytdnhmkfgcpdbkaa
