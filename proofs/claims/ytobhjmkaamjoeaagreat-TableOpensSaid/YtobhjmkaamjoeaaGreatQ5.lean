/-
  Texts of mine as one, in the order in which they build: Hm, Qs, Hk, Hc, Hn, Hb, Ho. Conditions: as each says.
-/
import Derived.Test.YtobhjmkaamjoeaaGreatKp
import Derived.Test.YtobhjmkaamjoeaaGreatBm
import Derived.Test.YtobhjmkaamjoeaaGreatWl
import Derived.Test.YtobhjmkaamjoeaaGreatQw
import Derived.Lib.AppendStr
import Derived.Lib.Slices
import Derived.Lib.UnsafeStr
import Derived.Test.YtobhjmkaamjoeaaGreatQ4
import Derived.Test.YtobhjmkaamjoeaaGreatBe
import Derived.Test.YtobhjmkaamjoeaaGreatVf
import Derived.Test.YtobhjmkaamjoeaaGreatRows
import Derived.Shelf.SlicesG.CompactS
import Derived.Test.YtobhjmkaamjoeaaGreatBd
import Derived.Lib.OwnBridge
import Derived.Test.YtobhjmkaamjoeaaGreatKq
import Derived.Lib.MinMax
namespace Go.Proofs.YtobhjmkaamjoeaaGreat
set_option linter.unusedVariables false
set_option linter.unusedSimpArgs false

/-! ### keys, blocks -/
/-- The keys, each once, behind a key that was. -/
def keysG : Option (List UInt8) → List Ent → List (List UInt8)
  | _, [] => []
  | p, e :: es => if p = some e.1.data.toList then keysG (some e.1.data.toList) es else e.1.data.toList :: keysG (some e.1.data.toList) es
def keysT (es : List Ent) : List (List UInt8) := keysG none es
def lastK : Option (List UInt8) → List Ent → Option (List UInt8)
  | p, [] => p
  | _, e :: es => lastK (some e.1.data.toList) es
theorem keysG_snoc : ∀ (es : List Ent) (p : Option (List UInt8)) (e : Ent), keysG p (es ++ [e]) = keysG p es ++ if lastK p es = some e.1.data.toList then [] else [e.1.data.toList]
  | [], p, e => by by_cases h : p = some e.1.data.toList <;> simp [keysG, lastK, h]
  | x :: es, p, e => by
    simp only [List.cons_append, keysG, lastK]
    split
    · exact keysG_snoc es _ e
    · rw [keysG_snoc es _ e]; rfl
theorem lastK_snoc : ∀ (es : List Ent) (p : Option (List UInt8)) (e : Ent), lastK p (es ++ [e]) = some e.1.data.toList
  | [], _, _ => rfl
  | x :: es, _, e => lastK_snoc es _ e
theorem keysG_length : ∀ (es : List Ent) (p : Option (List UInt8)), (keysG p es).length ≤ es.length
  | [], _ => by simp [keysG]
  | e :: es, p => by
    have := keysG_length es (some e.1.data.toList)
    unfold keysG
    split
    · simp; omega
    · simp; omega
theorem keysG_mem : ∀ (es : List Ent) (p : Option (List UInt8)) (L : List UInt8), L ∈ keysG p es → ∃ e ∈ es, L = e.1.data.toList
  | [], _, L, h => by simp [keysG] at h
  | e :: es, p, L, h => by
    unfold keysG at h
    split at h
    · obtain ⟨x, hx, hL⟩ := keysG_mem es _ L h
      exact ⟨x, by simp [hx], hL⟩
    · rcases List.mem_cons.1 h with rfl | h
      · exact ⟨e, by simp, rfl⟩
      · obtain ⟨x, hx, hL⟩ := keysG_mem es _ L h
        exact ⟨x, by simp [hx], hL⟩
theorem keysG_has : ∀ (es : List Ent) (p : Option (List UInt8)) (e : Ent), e ∈ es → e.1.data.toList ∈ keysG p es ∨ p = some e.1.data.toList
  | [], _, e, h => by simp at h
  | x :: es, p, e, h => by
    unfold keysG
    rcases List.mem_cons.1 h with rfl | h
    · split
      · rename_i hp; exact .inr hp
      · exact .inl (by simp)
    · rcases keysG_has es (some x.1.data.toList) e h with h1 | h1
      · split
        · exact .inl h1
        · exact .inl (by simp [h1])
      · injection h1 with h1
        split
        · rename_i hp; rw [← h1]; exact .inr hp
        · rw [← h1]; exact .inl (by simp)
def numB (es : List Ent) : Nat := (es.length + 15) / 16
def blk (es : List Ent) (i : Nat) : List Ent := (es.drop (16 * i)).take 16
def fstK (es : List Ent) : List UInt8 := match es with | [] => [] | e :: _ => e.1.data.toList
def outT (es : List Ent) (k : Nat) : List UInt8 := (List.range k).flatMap fun i => putB (blk es i)
def idxT (es : List Ent) (k : Nat) : List UInt8 := (List.range k).flatMap fun i => txL (fstK (blk es i)) ++ vL (putB (blk es i)).length
theorem outT_succ (es : List Ent) (k : Nat) : outT es (k + 1) = outT es k ++ putB (blk es k) := by simp [outT, List.range_succ]
theorem idxT_succ (es : List Ent) (k : Nat) : idxT es (k + 1) = idxT es k ++ (txL (fstK (blk es k)) ++ vL (putB (blk es k)).length) := by simp [idxT, List.range_succ]
/-- The foot without its seal; with it; a table's bytes. -/
def footF (es : List Ent) : List UInt8 := vL (numB es) ++ idxT es (numB es) ++ txL (makeL (keysT es))
def footS (es : List Ent) : List UInt8 := footF es ++ tailL (footF es)
def buildT (es : List Ent) : List UInt8 := outT es (numB es) ++ footS es ++ fixL (footS es).length
/-- May entries be a table's? -/
def okT (es : List Ent) : Bool := !es.isEmpty && okB es
theorem okT_iff {es : List Ent} : okT es = true ↔ es ≠ [] ∧ okB es = true := by
  unfold okT
  rw [Bool.and_eq_true]
  cases es <;> simp

theorem chain_take : ∀ {es : List Ent} {p : Ent} (i : Nat), chainE p es = true → chainE p (es.take i) = true
  | [], _, i, _ => by simp [chainE]
  | e :: es, p, 0, _ => by simp [chainE]
  | e :: es, p, i + 1, h => by
    simp only [List.take_succ_cons, chainE, Bool.and_eq_true] at h ⊢
    exact ⟨h.1, chain_take i h.2⟩
theorem chain_from {es : List Ent} (h : chainE zE es = true) (i : Nat) : chainE zE (es.drop i) = true := by
  cases i with
  | zero => simpa using h
  | succ i =>
    by_cases hi : i < es.length
    · exact chain_mono (zE_less (chain_may h _ (List.getElem_mem hi))) (chain_drop i hi h)
    · rw [List.drop_eq_nil_of_le (by omega)]
      rfl
theorem okB_iff {es : List Ent} : okB es = true ↔ es.length ≤ 4096 ∧ chainE zE es = true := by
  unfold okB
  simp only [Bool.and_eq_true, decide_eq_true_eq]
theorem blk_ok {es : List Ent} (h : okB es = true) (i : Nat) : okB (blk es i) = true := by
  obtain ⟨_, h2⟩ := okB_iff.1 h
  refine okB_iff.2 ⟨?_, chain_take 16 (chain_from h2 _)⟩
  unfold blk
  rw [List.length_take]
  omega
theorem blk_len (es : List Ent) (i : Nat) : (blk es i).length ≤ 16 := by
  unfold blk
  rw [List.length_take]
  omega
theorem blk_get {es : List Ent} {i : Nat} (h : 16 * i < es.length) : ∃ r, blk es i = es[16 * i] :: r := by
  unfold blk
  rw [List.drop_eq_getElem_cons h]
  exact ⟨_, rfl⟩
theorem fst_blk {es : List Ent} {i : Nat} (h : 16 * i < es.length) : fstK (blk es i) = (es[16 * i]).1.data.toList := by
  obtain ⟨r, hr⟩ := blk_get h
  rw [hr]
  rfl
theorem putB_le {es : List Ent} (h : okB es = true) (hl : es.length ≤ 16) : (putB es).length ≤ 6413 ∧ 5 ≤ (putB es).length := by
  have h1 := headB_len h
  unfold putB
  rw [List.length_append, tailL_length]
  omega
theorem numB_lt {es : List Ent} {i : Nat} (h : i < numB es) : 16 * i < es.length := by
  unfold numB at h
  omega
theorem key_le {e : Ent} (h : mayE e = true) : e.1.data.toList.length ≤ 64 := by
  obtain ⟨k, v, g, q⟩ := e
  have h1 := (may_iff.1 h).1
  unfold keyB at h1
  simp only [Bool.and_eq_true, decide_eq_true_eq] at h1
  rw [size_list]
  exact h1.2
theorem fst_le {es : List Ent} (h : okB es = true) (i : Nat) : (fstK (blk es i)).length ≤ 64 := by
  have hb := (okB_iff.1 (blk_ok h i)).2
  cases hbl : blk es i with
  | nil => simp [fstK]
  | cons e r =>
    rw [hbl] at hb
    exact key_le (chain_may hb e (by simp))
theorem outT_len {es : List Ent} (h : okB es = true) : ∀ k, (outT es k).length ≤ 6413 * k
  | 0 => by simp [outT]
  | k + 1 => by
    have := outT_len h k
    have := (putB_le (blk_ok h k) (blk_len es k)).1
    rw [outT_succ, List.length_append]
    omega
theorem idxT_len {es : List Ent} (h : okB es = true) : ∀ k, (idxT es k).length ≤ 82 * k
  | 0 => by simp [idxT]
  | k + 1 => by
    have h1 := idxT_len h k
    have h2 := (putB_le (blk_ok h k) (blk_len es k)).1
    have h3 := fst_le h k
    have h4 := vL_len9 (n := (putB (blk es k)).length) (by omega)
    have h5 := vL_len9 (n := (fstK (blk es k)).length) (by omega)
    rw [idxT_succ, List.length_append, List.length_append]
    unfold txL
    rw [List.length_append]
    omega
theorem numB_le {es : List Ent} (h : okB es = true) : numB es ≤ 256 := by
  have := (okB_iff.1 h).1
  unfold numB
  omega
theorem footF_len {es : List Ent} (h : okB es = true) : (footF es).length ≤ 27000 := by
  have h1 := idxT_len h (numB es)
  have h2 := numB_le h
  have h3 := vL_len9 (n := numB es) (by omega)
  have h4 := nBytes_le (keysT es).length
  have h5 := vL_len9 (n := (makeL (keysT es)).length) (by rw [makeL_length]; omega)
  unfold footF txL
  simp only [List.length_append]
  rw [makeL_length] at h5 ⊢
  omega
theorem footS_len {es : List Ent} (h : okB es = true) : (footS es).length ≤ 27004 := by
  have := footF_len h
  unfold footS
  rw [List.length_append, tailL_length]
  omega
theorem buildT_len {es : List Ent} (h : okB es = true) : (buildT es).length ≤ 1700000 := by
  have h1 := outT_len h (numB es)
  have h2 := numB_le h
  have h3 := footS_len h
  unfold buildT
  simp only [List.length_append, fixL_length]
  omega

/-! ### back -/
/-- The lengths of so many blocks. -/
def lenL : Nat → List UInt8 → Option (List Nat)
  | 0, _ => some []
  | n + 1, s => if (ttR s).2.2 = 0 ∧ (tk (s.drop (ttR s).2.1) 0 0).2.2 = 0 then (lenL n (s.drop ((ttR s).2.1 + (tk (s.drop (ttR s).2.1) 0 0).2.1))).map ((tk (s.drop (ttR s).2.1) 0 0).1 :: ·) else none
theorem lenL_eq {s t : List UInt8} {n a x m b y : Nat} (h1 : ttR s = (t, a, x)) (h2 : tk (s.drop a) 0 0 = (m, b, y)) : lenL (n + 1) s = if x = 0 ∧ y = 0 then (lenL n (s.drop (a + b))).map (m :: ·) else none := by
  rw [lenL, h1]
  simp only [h2]
def lensT (foot : List UInt8) : Option (List Nat) := if (tk foot 0 0).2.2 = 0 ∧ (tk foot 0 0).1 ≤ 4096 then lenL (tk foot 0 0).1 (foot.drop (tk foot 0 0).2.1) else none
/-- The entries of blocks of such lengths. -/
def decT : List Nat → List UInt8 → Option (List Ent)
  | [], _ => some []
  | n :: ns, s => if n ≤ s.length then (match takeB (s.take n) with | some b => (decT ns (s.drop n)).map (b ++ ·) | none => none) else none
/-- The entries of a table's bytes. -/
def openT (s : List UInt8) : Option (List Ent) :=
  if 4 ≤ s.length ∧ fixV (s.drop (s.length - 4)) ≤ s.length - 4 then
    match lensT ((s.take (s.length - 4)).drop (s.length - 4 - fixV (s.drop (s.length - 4)))) with
    | some ls => match decT ls s with
      | some es => if okT es = true ∧ buildT es = s then some es else none
      | none => none
    | none => none
  else none
def lensOf (es : List Ent) (i k : Nat) : List Nat := (List.range k).map fun j => (putB (blk es (i + j))).length
theorem lensOf_succ (es : List Ent) (i k : Nat) : lensOf es i (k + 1) = (putB (blk es i)).length :: lensOf es (i + 1) k := by
  unfold lensOf
  rw [List.range_succ_eq_map, List.map_cons, List.map_map, Nat.add_zero]
  congr 1
  apply List.map_congr_left
  intro j _
  show (putB (blk es (i + (j + 1)))).length = (putB (blk es (i + 1 + j))).length
  rw [show i + (j + 1) = i + 1 + j by omega]
def idxF (es : List Ent) (i k : Nat) : List UInt8 := (List.range k).flatMap fun j => txL (fstK (blk es (i + j))) ++ vL (putB (blk es (i + j))).length
theorem idxF_succ (es : List Ent) (i k : Nat) : idxF es i (k + 1) = txL (fstK (blk es i)) ++ vL (putB (blk es i)).length ++ idxF es (i + 1) k := by
  unfold idxF
  rw [List.range_succ_eq_map, List.flatMap_cons, List.flatMap_map, Nat.add_zero]
  congr 1
  congr 1
  funext j
  show txL (fstK (blk es (i + (j + 1)))) ++ vL (putB (blk es (i + (j + 1)))).length = _
  rw [show i + (j + 1) = i + 1 + j by omega]
def outF (es : List Ent) (i k : Nat) : List UInt8 := (List.range k).flatMap fun j => putB (blk es (i + j))
theorem outF_succ (es : List Ent) (i k : Nat) : outF es i (k + 1) = putB (blk es i) ++ outF es (i + 1) k := by
  unfold outF
  rw [List.range_succ_eq_map, List.flatMap_cons, List.flatMap_map, Nat.add_zero]
  congr 1
  congr 1
  funext j
  show putB (blk es (i + (j + 1))) = _
  rw [show i + (j + 1) = i + 1 + j by omega]
theorem idxT_F (es : List Ent) (k : Nat) : idxT es k = idxF es 0 k := by unfold idxT idxF; simp
theorem outT_F (es : List Ent) (k : Nat) : outT es k = outF es 0 k := by unfold outT outF; simp
theorem lenL_put {es : List Ent} (h : okB es = true) : ∀ (k i : Nat) (t : List UInt8), lenL k (idxF es i k ++ t) = some (lensOf es i k)
  | 0, i, t => rfl
  | k + 1, i, t => by
    have h2 := (putB_le (blk_ok h i) (blk_len es i)).1
    have h3 := fst_le h i
    have e0 : idxF es i (k + 1) ++ t = txL (fstK (blk es i)) ++ (vL (putB (blk es i)).length ++ (idxF es (i + 1) k ++ t)) := by rw [idxF_succ]; simp
    have e1 := ttR_back (fstK (blk es i)) (vL (putB (blk es i)).length ++ (idxF es (i + 1) k ++ t)) (by omega)
    have e2 := tk_fore (putB (blk es i)).length (idxF es (i + 1) k ++ t) (by omega)
    have e3 : tk ((txL (fstK (blk es i)) ++ (vL (putB (blk es i)).length ++ (idxF es (i + 1) k ++ t))).drop (txL (fstK (blk es i))).length) 0 0 = ((putB (blk es i)).length, (vL (putB (blk es i)).length).length, 0) := by rw [List.drop_left]; exact e2
    rw [e0, lenL_eq e1 e3, if_pos ⟨rfl, rfl⟩, ← List.drop_drop, List.drop_left, List.drop_left, lenL_put h k (i + 1) t, lensOf_succ]
    rfl
theorem blks_all (es : List Ent) : ∀ (k i : Nat), es.length ≤ 16 * (i + k) → ((List.range k).flatMap fun j => blk es (i + j)) = es.drop (16 * i)
  | 0, i, h => by rw [List.drop_eq_nil_of_le (by omega)]; rfl
  | k + 1, i, h => by
    rw [List.range_succ_eq_map, List.flatMap_cons, List.flatMap_map, Nat.add_zero]
    have := blks_all es k (i + 1) (by omega)
    have e : (fun j => blk es (i + 1 + j)) = fun j => blk es (i + Nat.succ j) := by funext j; rw [show i + 1 + j = i + Nat.succ j by omega]
    rw [e] at this
    rw [this]
    unfold blk
    rw [show 16 * (i + 1) = 16 * i + 16 by omega, ← List.drop_drop, List.take_append_drop]
theorem decT_put {es : List Ent} (h : okB es = true) : ∀ (k i : Nat) (t : List UInt8), decT (lensOf es i k) (outF es i k ++ t) = some ((List.range k).flatMap fun j => blk es (i + j))
  | 0, i, t => by simp [lensOf, decT]
  | k + 1, i, t => by
    rw [lensOf_succ, outF_succ]
    unfold decT
    rw [if_pos (by simp), List.append_assoc, List.take_left, takeB_put (blk_ok h i), List.drop_left]
    simp only [decT_put h k (i + 1) t, Option.map_some]
    rw [List.range_succ_eq_map, List.flatMap_cons, List.flatMap_map, Nat.add_zero]
    congr 2
    congr 1
    funext j
    show blk es (i + 1 + j) = blk es (i + (j + 1))
    rw [show i + (j + 1) = i + 1 + j by omega]
theorem openT_put {es : List Ent} (h : okT es = true) : openT (buildT es) = some es := by
  obtain ⟨hne, hk⟩ := okT_iff.1 h
  have hfl := footS_len hk
  have hn := numB_le hk
  obtain ⟨O, hO⟩ : ∃ O, O = outT es (numB es) := ⟨_, rfl⟩
  obtain ⟨F, hF⟩ : ∃ F, F = footS es := ⟨_, rfl⟩
  have hb : buildT es = O ++ F ++ fixL F.length := by rw [hO, hF]; rfl
  have hl : (buildT es).length = O.length + F.length + 4 := by rw [hb]; simp only [List.length_append, fixL_length]
  have hd : (buildT es).drop ((buildT es).length - 4) = fixL F.length := by
    rw [hl, hb, show O.length + F.length + 4 - 4 = (O ++ F).length by simp, List.drop_left]
  have hv : fixV (fixL F.length) = F.length := by
    have := fixV_fixL F.length (by rw [hF]; omega) []
    rwa [List.append_nil] at this
  have ht : ((buildT es).take ((buildT es).length - 4)).drop ((buildT es).length - 4 - F.length) = F := by
    rw [hl, hb, show O.length + F.length + 4 - 4 = (O ++ F).length by simp, List.take_left, show (O ++ F).length - F.length = O.length by simp, List.drop_left]
  have hlens : lensT F = some (lensOf es 0 (numB es)) := by
    have e0 : F = vL (numB es) ++ (idxF es 0 (numB es) ++ (txL (makeL (keysT es)) ++ tailL (footF es))) := by
      have e1 : footF es = vL (numB es) ++ (idxF es 0 (numB es) ++ txL (makeL (keysT es))) := by
        unfold footF
        rw [idxT_F, List.append_assoc]
      rw [hF]
      unfold footS
      generalize tailL (footF es) = TT
      rw [e1]
      simp only [List.append_assoc]
    have e1 := tk_fore (numB es) (idxF es 0 (numB es) ++ (txL (makeL (keysT es)) ++ tailL (footF es))) (by omega)
    unfold lensT
    rw [e0, e1]
    simp only [List.drop_left]
    rw [if_pos ⟨trivial, by omega⟩, lenL_put hk]
  have hdec : decT (lensOf es 0 (numB es)) (buildT es) = some es := by
    rw [hb, hO, outT_F, List.append_assoc, decT_put hk]
    have := blks_all es (numB es) 0 (by unfold numB; omega)
    simp only [Nat.mul_zero, List.drop_zero] at this
    rw [this]
  unfold openT
  rw [hd, hv, if_pos ⟨by rw [hl]; omega, by rw [hl]; omega⟩, ht, hlens]
  simp only [hdec]
  rw [if_pos ⟨h, trivial⟩]
theorem openT_some {s : List UInt8} {es : List Ent} : openT s = some es ↔ okT es = true ∧ buildT es = s := by
  constructor
  · intro h
    unfold openT at h
    split at h
    · split at h
      · split at h
        · split at h
          · rename_i hc
            injection h with h
            subst h
            exact hc
          · cases h
        · cases h
      · cases h
    · cases h
  · rintro ⟨h1, rfl⟩
    exact openT_put h1
end Go.Proofs.YtobhjmkaamjoeaaGreat
namespace Go.Proofs.YtobhjmkaamjoeaaGreat
open Go.RowKit Go.Lib
set_option linter.unusedVariables false
set_option linter.unusedSimpArgs false

theorem str_ownR {P : Program} (w : World) (t u ty e : TypeId) (i : TypeInfo) (ht : P.underlying t = some (.slice e)) (hu : P.underlying u = some .string) (hi : P.info? e = some i) (hz : i.zero = some (.int .u8 0))
    (hsize : i.size = 1) (hby : i.bytes = 1) (v : Value) (n : Nat) (xs : List Value) (hown : w.ownsRow 0 e 1 v n xs) (s : ByteArray) (h63 : n + s.size ≤ maxLen) (hbytes : n + s.size ≤ 140737488355328) :
    ∃ v' w', (Builtin.append_ #[t, u] ty #[v, .string s]).run P w = .ok v' w' ∧ w'.ownsRow 0 e 1 v' (n + s.size) (xs ++ strCells s) ∧ w.grownBy w' v.ownBlock ∧ ∀ r, v'.ownBlock = some r → v.ownBlock = some r ∨ w.heap.size ≤ r := by
  rcases hown.2 with ⟨rfl, rfl⟩ | ⟨g, cap, cur, rfl, hbg, hg, hnc, hcm, hcs, htake⟩
  · have hx : xs = [] := List.eq_nil_of_length_eq_zero (by simpa using hown.1)
    subst hx
    obtain ⟨v', w', h1, h2, h3, h4⟩ := run_append_own_string (P := P) w w.heap.size t u ty e i ht hu hi hz hsize hby (.slice none 0 0) 0 [] (World.ownsRow_nil ..) s h63 hbytes (Nat.le_refl _)
    refine ⟨v', w', h1, ⟨h2.1, ?_⟩, h3, fun r hr => .inr (h2.lt r hr).1⟩
    rcases h2.2 with h | ⟨g, cap, cur, hv, hb, h⟩
    · exact .inl h
    · exact .inr ⟨g, cap, cur, hv, Nat.zero_le _, h⟩
  · have hsmall : n + s.size ≤ 9223372036854775807 := by simp only [maxLen] at h63; omega
    have hxl : xs.length = n := by simpa using hown.1
    have hlen : (xs ++ strCells s).length = (n + s.size) * 1 := by rw [List.length_append, hxl, strCells_length, Nat.mul_one]
    by_cases hroom : n + s.size ≤ cap
    · have hcs' : cur.size = cap := by simpa using hcs
      have hr := run_append_room_string (P := P) w t u ty e i ht hu hi hsize g n cap cur hg s hroom (by omega)
      refine ⟨_, _, hr, ⟨hlen, .inr ⟨g, cap, _, rfl, hbg, setRow_heap w g cur _ e _ hg, hroom, hcm, ?_, ?_⟩⟩, ⟨rfl, rfl, rfl, by simp, fun k _ hk => setRow_other w g k _ (fun e => hk (by simp [Value.ownBlock, e]))⟩, fun r hr => .inl hr⟩
      · simp only [List.size_toArray, List.length_append, List.length_take, List.length_drop, Array.length_toList, strCells_length]
        omega
      · have ht' : cur.toList.take n = xs := by simpa using htake
        rw [ht', ← hlen]
        exact List.take_left
    · have holds : ∀ j u, xs[j]? = some u → w.cell? ((⟨g, 0, none⟩ : Addr).add j) = some u := hown.cells (g := g) rfl
      have hr := run_append_grow_string (P := P) w t u ty e i (.int .u8 0) ht hu hi hz ⟨g, 0, none⟩ n cap xs (by rw [hsize]; simpa using hxl) holds s (by omega) (by omega) (by rw [hby]; exact growslice_fits (by omega) (by omega))
      have hge := grownCap_ge w (n + s.size) cap e
      have hcm2 : grownCap w (n + s.size) cap e ≤ maxLen := grownCap_le_maxLen w (n + s.size) cap e h63
      refine ⟨_, _, hr, ⟨hlen, .inr ⟨w.heap.size, _, _, rfl, Nat.zero_le _, heap_alloc_new w.drew _, hge, hcm2, ?_, ?_⟩⟩, ⟨rfl, rfl, rfl, by simp, fun k hk _ => Below.heap_alloc w.drew _ k hk⟩, fun r hr => .inr (by simp [Value.ownBlock] at hr; omega)⟩
      · have hz1 : (Value.int IntKind.u8 0).cells.size = 1 := rfl
        simp only [Array.size_append, List.size_toArray, size_zeroCells, hz1, hxl, strCells_length]
        omega
      · simp only [Array.toList_append, List.append_assoc]
        rw [← List.append_assoc, ← hlen]
        exact List.take_left
theorem wpList_str_ownR {P : Program} {w : World} {ops : Array Oper} {rest : List Oper} {o : Oper} {a : Act} {Q : Exit → Act → World → Prop} (hgd : o.guard = none) (sl x : Operand) (t u : TypeId)
    (ho : o.op = .call { callee := .builtin .append, args := #[sl, x], argTypes := #[t, u] })
    (e : TypeId) (i : TypeInfo) (ht : P.underlying t = some (.slice e)) (hu : P.underlying u = some .string) (hi : P.info? e = some i) (hz : i.zero = some (.int .u8 0))
    (hsize : i.size = 1) (hby : i.bytes = 1)
    (v : Value) (n : Nat) (xs : List Value) (hs : a.eval sl = v) (hown : w.ownsRow 0 e 1 v n xs) (s : ByteArray) (hx : a.eval x = .string s)
    (h63 : n + s.size ≤ maxLen) (hbytes : n + s.size ≤ 140737488355328)
    (h : ∀ v' w', w'.ownsRow 0 e 1 v' (n + s.size) (xs ++ strCells s) → w.grownBy w' v.ownBlock → (∀ r, v'.ownBlock = some r → v.ownBlock = some r ∨ w.heap.size ≤ r) → wpList P ops Q rest (a.put o.dst v') w') : wpList P ops Q (o :: rest) a w := by
  refine wpList_plain hgd fun K hK => ?_
  obtain ⟨v', w', hr, h2, h3, h4⟩ := str_ownR (P := P) w t u o.type e i ht hu hi hz hsize hby v n xs hown s h63 hbytes
  unfold Oper.wp execOp
  simp only [ho, resolve, invoke, builtin, Sem.run_bind, Sem.run_pure, Result.andThen_ok, List.map_toArray, List.map_cons, List.map_nil, hs, hx, hr]
  exact hK _ _ (h v' w' h2 h3 h4)
/-- Two rows of bytes that a call owns, in two blocks. -/
def R2 (e : TypeId) (B : Nat) (w : World) (v u : Value) (l m : List UInt8) : Prop :=
  w.ownsRow B e 1 v l.length (byteCells l) ∧ w.ownsRow B e 1 u m.length (byteCells m) ∧ Apt v u
theorem R2.swap {e : TypeId} {B : Nat} {w : World} {v u : Value} {l m : List UInt8} (h : R2 e B w v u l m) : R2 e B w u v m l := ⟨h.2.1, h.1, h.2.2.symm⟩
theorem R2.old {e : TypeId} {B : Nat} {w w' : World} {v u : Value} {l m : List UInt8} (h : R2 e B w v u l m) (hb : Below w.heap.size w w') : R2 e B w' v u l m := ⟨below_own h.1 hb, below_own h.2.1 hb, h.2.2⟩
theorem R2.nil (e : TypeId) (B : Nat) (w : World) : R2 e B w (.slice none 0 0) (.slice none 0 0) [] [] := ⟨World.ownsRow_nil _ _ _ _, World.ownsRow_nil _ _ _ _, apt_nil _⟩
theorem own_base0 {w : World} {b b' t size n : Nat} {v : Value} {xs : List Value} (h : w.ownsRow b t size v n xs) (hb : b' ≤ b) : w.ownsRow b' t size v n xs := by
  refine ⟨h.1, ?_⟩
  rcases h.2 with h | ⟨g, cap, cur, hv, hbg, hrest⟩
  · exact .inl h
  · exact .inr ⟨g, cap, cur, hv, Nat.le_trans hb hbg, hrest⟩
theorem own_rebase {w : World} {b t size n : Nat} {v : Value} {xs : List Value} (h : w.ownsRow 0 t size v n xs) (hb : ∀ r, v.ownBlock = some r → b ≤ r) : w.ownsRow b t size v n xs := by
  refine ⟨h.1, ?_⟩
  rcases h.2 with h | ⟨g, cap, cur, hv, hbg, hrest⟩
  · exact .inl h
  · exact .inr ⟨g, cap, cur, hv, hb g (by rw [hv]; rfl), hrest⟩
theorem wpList_r2 {P : Program} {w : World} {ops : Array Oper} {rest : List Oper} {o : Oper} {a : Act} {Q : Exit → Act → World → Prop} (hgd : o.guard = none) (sl x : Operand) (t ty : TypeId)
    (ho : o.op = .call { callee := .builtin .append, args := #[sl, x], argTypes := #[t, ty] })
    (e : TypeId) (i : TypeInfo) (ht : P.underlying t = some (.slice e)) (hu : P.underlying ty = some .string) (hi : P.info? e = some i) (hz : i.zero = some (.int .u8 0))
    (hsize : i.size = 1) (hby : i.bytes = 1) (B : Nat)
    (v u : Value) (l m : List UInt8) (hs : a.eval sl = v) (hr : R2 e B w v u l m) (x1 : List UInt8) (hx : a.eval x = .string ⟨x1.toArray⟩)
    (hl : l.length + x1.length ≤ 100000000) (hB : B ≤ w.heap.size)
    (h : ∀ v' w', R2 e B w' v' u (l ++ x1) m → Below B w w' → wpList P ops Q rest (a.put o.dst v') w') : wpList P ops Q (o :: rest) a w := by
  obtain ⟨h1, h2, h3⟩ := hr
  have hsz : (⟨x1.toArray⟩ : ByteArray).size = x1.length := size_mkl x1
  refine wpList_str_ownR hgd sl x t ty ho e i ht hu hi hz hsize hby v l.length (byteCells l) hs (own_base0 h1 (Nat.zero_le _)) ⟨x1.toArray⟩ hx (by rw [hsz]; unfold maxLen; omega) (by rw [hsz]; omega) fun v' w' k1 k2 k3 => ?_
  have hbl : ∀ r, v'.ownBlock = some r → B ≤ r := fun r hr => by
    rcases k3 r hr with hr | hr
    · exact (h1.lt r hr).1
    · omega
  refine h v' w' ⟨?_, own_other h2 h3 k2, h3.grow k3 (fun r hr => (h2.lt r hr).2)⟩ ((Below.refl _ _).grown k2 hB (fun k hk => (h1.lt k hk).1))
  rw [hsz] at k1
  have hc : byteCells l ++ strCells ⟨x1.toArray⟩ = byteCells (l ++ x1) := by simp [byteCells, strCells]
  rw [hc] at k1
  rw [List.length_append]
  exact own_rebase k1 hbl
end Go.Proofs.YtobhjmkaamjoeaaGreat
namespace Go.Proofs.YtobhjmkaamjoeaaGreat
set_option maxRecDepth 100000
open Go.RowKit
set_option linter.unusedVariables false
set_option linter.unusedSimpArgs false

theorem tnum_any (z : Int) (n : Nat) (hz : z = (n : Int)) (hn : n ≤ 4611686018427387904) (w : World) :
    Calls Tryz.prog 22 #[.int .i64 z] w fun e w' => e = .returned (.string ⟨(vL n).toArray⟩) ∧ Below w.heap.size w w' := by
  subst hz
  go_enter Tryz.func22, Tryz.ntmps22
  go_wp2_with fail
  refine (put_ref n _ hn).mono ?_
  rintro e w1 ⟨rfl, b1⟩
  go_wp2
  go_ret
  exact ⟨rfl, b1⟩
theorem ttext_any (s : ByteArray) (hs : s.size ≤ 262144) (w : World) :
    Calls Tryz.prog 24 #[.string s] w fun e w' => e = .returned (.string ⟨(txL s.data.toList).toArray⟩) ∧ Below w.heap.size w w' := by
  go_enter Tryz.func24, Tryz.ntmps24
  go_wp2_with fail
  refine (text_ref s _ hs).mono ?_
  rintro e w1 ⟨rfl, b1⟩
  go_wp2
  go_ret
  exact ⟨rfl, b1⟩
theorem Tryz.infoStrH : (Tryz.prog.info? 9).map (fun i => (i.zero, i.size, i.bytes)) = some (some (.string ⟨#[]⟩), 1, 16) := by kernel_rfl
theorem keysT_snoc {es : List Ent} {k : Nat} (h : k < es.length) : keysT (es.take (k + 1)) = keysT (es.take k) ++ if lastK none (es.take k) = some es[k].1.data.toList then [] else [es[k].1.data.toList] := by
  unfold keysT
  rw [List.take_succ_eq_append_getElem h, keysG_snoc]
theorem lastK_at {es : List Ent} {p : Nat} (h : p < es.length) : lastK none (es.take (p + 1)) = some es[p].1.data.toList := by
  rw [List.take_succ_eq_append_getElem h, lastK_snoc]
theorem list_str {a b : ByteArray} : a.data.toList = b.data.toList ↔ a = b := by
  constructor
  · intro h; exact ByteArray.ext (Array.toList_inj.1 h)
  · rintro rfl; rfl
/-- What Keys leaves. -/
def KS (es : List Ent) (w : World) (e : Ending) (w' : World) : Prop := ∃ a cap, e = .returned (.slice a (keysT es).length cap) ∧ Rd w' a (keysT es) ∧ Below w.heap.size w w'
set_option maxRecDepth 100000 in
set_option maxHeartbeats 8000000 in
theorem rkeys_any (a : Option Addr) (n cap : Nat) (es : List Ent) (w : World) (hn : n ≤ 4096) (hl : es.length = n) (h : RdE w a es) :
    Calls Tryz.prog 26 #[.slice a n cap] w (KS es w) := by
  obtain ⟨i0, hi, hz0, hz1, hz2⟩ := info_parts Tryz.infoStrH
  obtain ⟨b, off, ha, hb, hat⟩ := h.at_
  rw [hl] at ha hb
  have HL := Lib.hid hl
  have HAT := Lib.hid hat
  clear hl hat h
  go_enter Tryz.func26, Tryz.ntmps26
  go_wp2
  go_loopw [3, 4] (fun v i wr => ∃ (k : Nat) (ts : List (List UInt8)), i = .int .i64 k ∧ k ≤ n ∧ ts.length ≤ k ∧ Hid (ts = keysT (es.take k)) ∧ Hid (wr.ownsRow w.heap.size 9 1 v ts.length (sv ts)) ∧ Hid (Below w.heap.size w wr)) (fun _ i _ => n - (intOf i).toNat)
  case atStart => exact ⟨0, [], rfl, by omega, by simp, Lib.hid rfl, Lib.hid (World.ownsRow_nil _ _ _ _), Lib.hid (Below.refl _ _)⟩
  case round =>
    obtain ⟨k, ts, rfl, hk, htk, HT, HO, HW⟩ := hrel
    have hws := HW.out.size
    by_cases hlt : k < n
    · obtain rfl := ha (by omega)
      have hbw := hb (by omega)
      have hkl : k < es.length := by rw [HL.out]; exact hlt
      have hki : (k : Int) < (n : Int) := by omega
      have HG : Hid (∀ wx, Below w.heap.size w wx → wx.cell? ⟨b, off + k * 4, none⟩ = some (.string es[k].1) ∧ b < wx.heap.size) := Lib.hid fun wx hx => ⟨(HAT.out.old hbw hx k hkl).1, Nat.lt_of_lt_of_le hbw hx.size⟩
      have hsn := keysT_snoc hkl
      have hprev : ∀ p, k = p + 1 → ∀ hp : p < es.length, lastK none (es.take k) = some es[p].1.data.toList := fun p hp hpl => by subst hp; exact lastK_at hpl
      have HPC : Hid (∀ p (hp : p < es.length) wx, Below w.heap.size w wx → wx.cell? ⟨b, off + p * 4, none⟩ = some (.string es[p].1)) := Lib.hid fun p hp wx hx => (HAT.out.old hbw hx p hp).1
      obtain ⟨ek, hek⟩ : ∃ ek, ek = es[k].1 := ⟨_, rfl⟩
      rw [← hek] at HG hsn
      clear hek
      obtain ⟨g0, hbr⟩ := HG.out _ HW.out
      by_cases h0 : k = 0
      · subst h0
        have HSN : Hid (keysT (es.take (0 + 1)) = keysT (es.take 0) ++ [ek.data.toList]) := Lib.hid (by rw [hsn]; rfl)
        clear hsn hprev
        simp only [Nat.zero_mul, Nat.add_zero] at g0 HG
        go_wp2
        refine wp_region_below (by kernel_rfl) (by kernel_rfl) ?_
        repeat (first
          | go_big_quiet_skip
          | (go_big_quiet_want
             first
             | (refine BigFrame.quiet_move _ rfl ?_)
             | (refine BigFrame.quiet_assign _ rfl ?_)
             | (unfold Oper.quiet
                apply Exists.intro
                refine ⟨fun w' hw' => ?_, ?_⟩
                · (obtain ⟨hc', hf'⟩ := bcell hw'
                   go_simp
                   first
                   | done
                   | exact rfl))
             go_big_quiet_on
             simp only [Act.put, Act.eval, List.setIfInBounds_toArray, List.set_cons_zero, List.set_cons_succ, Array.getD_eq_getD_getElem?, List.getElem?_toArray, List.getElem?_cons_zero, List.getElem?_cons_succ, Option.getD_some]))
        refine wpQuiet_nil ?_
        intro w' hw'
        have HW2 := Lib.hid (HW.out.trans (hw'.mono hws))
        have HO2 := Lib.hid (below_own HO.out hw')
        have hw2 := HW2.out.size
        clear hw' g0 hbr HO HW hws
        obtain ⟨g0, hbr⟩ := HG.out _ HW2.out
        go_wp2_with (at_builtin; refine wpList_append_own _ rfl _ _ 53 rfl w.heap.size 9 i0 (.string ⟨#[]⟩) 1 16 Tryz.underlying53 hi hz0 hz1 hz2 rfl (by decide) _ _ _ rfl (HO2.out.alloc _) ⟨w'.heap.size, 0, none⟩ 1 1 [.string ek] rfl rfl (cell_new1 _ _ _) (by intro u hu; simp at hu; subst hu; rfl) (by unfold maxLen; omega) (by omega) (by simp; omega) ?_)
        intro v' w3 own3 gr3 _
        have HW3 := Lib.hid ((HW2.out.alloc hw2 (.cells #[.string ek] 9)).grown gr3 (by simp; omega) (fun k hk => (HO2.out.lt k hk).1))
        rw [show [Value.string ek] = [Value.string ⟨ek.data.toList.toArray⟩] by simp, sv_snoc] at own3
        have HO3 : Hid (w3.ownsRow w.heap.size 9 1 v' (ts ++ [ek.data.toList]).length (sv (ts ++ [ek.data.toList]))) := Lib.hid (by rw [List.length_append]; exact own3)
        clear own3 gr3 HO2 HW2 hw2 g0 hbr
        go_wp2
        go_roundw
        case rel => exact ⟨0 + 1, ts ++ [ek.data.toList], by go_num, by omega, by rw [List.length_append, List.length_singleton]; omega, Lib.hid (by rw [HSN.out, ← HT.out]), HO3, HW3⟩
        case measure => simp [intOf]; omega
      · obtain ⟨p, hp⟩ : ∃ p, k = p + 1 := ⟨k - 1, by omega⟩
        have hpl : p < es.length := by omega
        have hla := hprev p hp hpl
        have c0 := HPC.out p hpl _ HW.out
        obtain ⟨pk, hpk⟩ : ∃ pk, pk = es[p].1 := ⟨_, rfl⟩
        rw [← hpk] at hla c0
        rw [hla] at hsn
        have hwr : IntKind.i64.wrap ((k : Int) - 1) = (p : Int) := by rw [IntWalk.i64_in _ (by omega)]; omega
        have hkb : ((k : Int) == 0) = false := by simp; omega
        have hpn : (p : Int) < (n : Int) := by omega
        have hk1 : 0 < k := by omega
        clear hprev hpk hla hp
        by_cases hs : pk = ek
        · have hsk := hs.symm
          clear hs
          subst hsk
          have HSN : Hid (keysT (es.take (k + 1)) = keysT (es.take k)) := Lib.hid (by rw [hsn, if_pos rfl, List.append_nil])
          clear hsn
          go_wp2
          refine wp_region_below (by kernel_rfl) (by kernel_rfl) ?_
          repeat (first
            | go_big_quiet_skip
            | (go_big_quiet_want
               first
               | (refine BigFrame.quiet_move _ rfl ?_)
               | (refine BigFrame.quiet_assign _ rfl ?_)
               | (unfold Oper.quiet
                  apply Exists.intro
                  refine ⟨fun w' hw' => ?_, ?_⟩
                  · (obtain ⟨hc', hf'⟩ := bcell hw'
                     go_simp
                     first
                     | done
                     | exact rfl))
               go_big_quiet_on
               simp only [Act.put, Act.eval, List.setIfInBounds_toArray, List.set_cons_zero, List.set_cons_succ, Array.getD_eq_getD_getElem?, List.getElem?_toArray, List.getElem?_cons_zero, List.getElem?_cons_succ, Option.getD_some]))
          refine wpQuiet_nil ?_
          intro w' hw'
          have HW2 := Lib.hid (HW.out.trans (hw'.mono hws))
          have HO2 := Lib.hid (below_own HO.out hw')
          clear hw'
          go_wp2
          go_roundw
          case rel => exact ⟨k + 1, ts, by go_num, by omega, by omega, Lib.hid (by rw [HSN.out]; exact HT.out), HO2, HW2⟩
          case measure => simp [intOf]; omega
        · have HSN : Hid (keysT (es.take (k + 1)) = keysT (es.take k) ++ [ek.data.toList]) := Lib.hid (by rw [hsn, if_neg (fun h => hs (list_str.1 (by injection h)))])
          have hsb := str_ne (fun h => hs h.symm : ¬ ek = pk)
          clear hsn hs
          go_wp2
          refine wp_region_below (by kernel_rfl) (by kernel_rfl) ?_
          repeat (first
            | go_big_quiet_skip
            | (go_big_quiet_want
               first
               | (refine BigFrame.quiet_move _ rfl ?_)
               | (refine BigFrame.quiet_assign _ rfl ?_)
               | (unfold Oper.quiet
                  apply Exists.intro
                  refine ⟨fun w' hw' => ?_, ?_⟩
                  · (obtain ⟨hc', hf'⟩ := bcell hw'
                     go_simp
                     first
                     | done
                     | exact rfl))
               go_big_quiet_on
               simp only [Act.put, Act.eval, List.setIfInBounds_toArray, List.set_cons_zero, List.set_cons_succ, Array.getD_eq_getD_getElem?, List.getElem?_toArray, List.getElem?_cons_zero, List.getElem?_cons_succ, Option.getD_some]))
          refine wpQuiet_nil ?_
          intro w' hw'
          have HW2 := Lib.hid (HW.out.trans (hw'.mono hws))
          have HO2 := Lib.hid (below_own HO.out hw')
          have hw2 := HW2.out.size
          clear hw' g0 hbr HO HW hws c0
          obtain ⟨g0, hbr⟩ := HG.out _ HW2.out
          go_wp2_with (at_builtin; refine wpList_append_own _ rfl _ _ 53 rfl w.heap.size 9 i0 (.string ⟨#[]⟩) 1 16 Tryz.underlying53 hi hz0 hz1 hz2 rfl (by decide) _ _ _ rfl (HO2.out.alloc _) ⟨w'.heap.size, 0, none⟩ 1 1 [.string ek] rfl rfl (cell_new1 _ _ _) (by intro u hu; simp at hu; subst hu; rfl) (by unfold maxLen; omega) (by omega) (by simp; omega) ?_)
          intro v' w3 own3 gr3 _
          have HW3 := Lib.hid ((HW2.out.alloc hw2 (.cells #[.string ek] 9)).grown gr3 (by simp; omega) (fun k hk => (HO2.out.lt k hk).1))
          rw [show [Value.string ek] = [Value.string ⟨ek.data.toList.toArray⟩] by simp, sv_snoc] at own3
          have HO3 : Hid (w3.ownsRow w.heap.size 9 1 v' (ts ++ [ek.data.toList]).length (sv (ts ++ [ek.data.toList]))) := Lib.hid (by rw [List.length_append]; exact own3)
          clear own3 gr3 HO2 HW2 hw2 g0 hbr
          go_wp2
          go_roundw
          case rel => exact ⟨k + 1, ts ++ [ek.data.toList], by go_num, by omega, by rw [List.length_append, List.length_singleton]; omega, Lib.hid (by rw [HSN.out, ← HT.out]), HO3, HW3⟩
          case measure => simp [intOf]; omega
    · obtain rfl : k = n := by omega
      obtain ⟨a', cap', hv⟩ := own_slice HO.out
      have HT2 := HT.out
      rw [← HL.out, List.take_length] at HT2
      have HT3 := Lib.hid HT2
      have HO2 := Lib.hid (own_rd (hv ▸ HO.out))
      subst hv
      clear HT2
      go_wp2
      go_ret
      exact ⟨a', cap', by rw [← HT3.out]; rfl, by rw [← HT3.out]; exact HO2.out, HW.out⟩
end Go.Proofs.YtobhjmkaamjoeaaGreat
namespace Go.Proofs.YtobhjmkaamjoeaaGreat
open Go.Shelf
def laysCompact_ren : Go.Shelf.Ren := ⟨fun | 44 => 53 | n => n, fun | 25 => 53 | 26 => 9 | 3 => 3 | 4 => 4 | 0 => 0 | n => n, fun | n => n⟩
theorem laysCompact : Go.Proofs.SlLaysN.n44 Tryz.prog laysCompact_ren := {
  mixed := by kernel_rfl
  f44 := ⟨Tryz.f53.name, by decide, Tryz.func53.trans (congrArg some (by kernel_rfl))⟩
  t0 := Tryz.underlying0
  a0 := Tryz.isAgg0
  z0 := Tryz.sizeOf0
  v0 := Tryz.zeroValue0
  t3 := Tryz.underlying3
  a3 := Tryz.isAgg3
  z3 := Tryz.sizeOf3
  v3 := Tryz.zeroValue3
  t4 := Tryz.underlying4
  a4 := Tryz.isAgg4
  z4 := Tryz.sizeOf4
  v4 := Tryz.zeroValue4
  t25 := Tryz.underlying53
  a25 := Tryz.isAgg53
  z25 := Tryz.sizeOf53
  v25 := Tryz.zeroValue53
  t26 := Tryz.underlying9
  a26 := Tryz.isAgg9
  z26 := Tryz.sizeOf9
  v26 := Tryz.zeroValue9
  i26 := by kernel_rfl }
end Go.Proofs.YtobhjmkaamjoeaaGreat
namespace Go.Proofs.YtobhjmkaamjoeaaGreat
set_option maxRecDepth 100000
open Go.RowKit
set_option linter.unusedVariables false
set_option linter.unusedSimpArgs false

theorem okB_len4 {es : List Ent} (h : okB es = true) : es.length ≤ 4096 := (okB_iff.1 h).1
theorem okB_key64 {es : List Ent} (h : okB es = true) : ∀ e ∈ es, e.1.size ≤ 64 := by
  intro e he
  have hm := chain_may (okB_iff.1 h).2 e he
  obtain ⟨k, v, g, q⟩ := e
  obtain ⟨h1, h2, _⟩ := may_iff.1 hm
  unfold keyB at h1
  simp only [Bool.and_eq_true, decide_eq_true_eq] at h1
  exact h1.2
theorem okB_okW {es : List Ent} (h : okB es = true) : okV es := by
  intro e he
  have hm := chain_may (okB_iff.1 h).2 e he
  obtain ⟨k, v, g, q⟩ := e
  obtain ⟨h1, h2, _⟩ := may_iff.1 hm
  unfold keyB at h1
  simp only [Bool.and_eq_true, decide_eq_true_eq] at h1
  exact ⟨by unfold okS; show k.size ≤ _; omega, by unfold okS; show v.size ≤ _; omega⟩
set_option maxHeartbeats 1000000 in
theorem tmay_any (a : Option Addr) (n cap : Nat) (es : List Ent) (w : World) (hn : n ≤ 9223372036854775807) (hl : es.length = n) (h : RdE w a es) (hok : okV es) (r : Bool) (hr : okT es = r) :
    Calls Tryz.prog 18 #[.slice a n cap] w fun e w' => e = .returned (.bool r) ∧ Below w.heap.size w w' := by
  by_cases h0 : n = 0
  · obtain rfl : r = false := by rw [← hr]; obtain rfl := List.length_eq_zero_iff.1 (hl.trans h0); rfl
    subst h0
    clear hl h hok hr
    go_enter Tryz.func18, Tryz.ntmps18
    go_wp2
    go_ret
    exact ⟨rfl, Below.refl _ _⟩
  · have hb : okB es = r := by
      rw [← hr]
      unfold okT
      cases es with
      | nil => exact absurd hl.symm h0
      | cons x l => rfl
    have HC := Lib.hid (chk9_any a n cap es w hn hl h hok _ hb)
    have hn0 : (0 : Int) < (n : Int) := by omega
    clear hl h hok hr hb h0
    go_enter Tryz.func18, Tryz.ntmps18
    go_wp2_with fail
    refine HC.out.mono ?_
    rintro e w1 ⟨rfl, b1⟩
    cases r with
    | true =>
      rw [show chkV true = 0 from rfl]
      go_wp2
      go_ret
      exact ⟨rfl, b1⟩
    | false =>
      rw [show chkV false = 1 from rfl]
      go_wp2
      go_ret
      exact ⟨rfl, b1⟩

/-! ### the keys, each once -/
def keyZ (es : List Ent) : List (List UInt8) := es.map fun e => e.1.data.toList
theorem keyZ_length (es : List Ent) : (keyZ es).length = es.length := by simp [keyZ]
theorem keyZ_snoc {es : List Ent} {k : Nat} (h : k < es.length) : keyZ (es.take (k + 1)) = keyZ (es.take k) ++ [es[k].1.data.toList] := by
  unfold keyZ
  rw [List.take_succ_eq_append_getElem h, List.map_append]
  rfl
theorem compact_up (es : List Ent) : ∀ k, k ≤ es.length → Lib.compactUpTo (keyZ es).toArray k = keysT (es.take k)
  | 0, _ => by simp [Lib.compactUpTo, keysT, keysG]
  | k + 1, h => by
    have hk : k < es.length := by omega
    have hg : ∀ j (hj : j < es.length), (keyZ es).toArray[j]! = es[j].1.data.toList := fun j hj => by
      rw [getElem!_pos _ j (by simpa [keyZ] using hj)]
      simp [keyZ]
    rw [Lib.compactUpTo_succ, compact_up es k (by omega), keysT_snoc hk, hg k hk]
    congr 1
    cases k with
    | zero => simp [Lib.keeps, lastK]
    | succ p =>
      have hp : p < es.length := by omega
      rw [lastK_at hp]
      unfold Lib.keeps
      rw [hg (p + 1) hk, show p + 1 - 1 = p from rfl, hg p hp]
      by_cases he : es[p].1.data.toList = es[p + 1].1.data.toList
      · simp [he]
      · have he' : ¬ es[p + 1].1.data.toList = es[p].1.data.toList := fun h => he h.symm
        simp [he, he']
theorem compact_keys (es : List Ent) : Lib.compact (keyZ es) = keysT es := by
  have h := compact_up es es.length (Nat.le_refl _)
  rw [List.take_length] at h
  unfold Lib.compact
  rw [← h]
  simp [keyZ]
theorem sv_enc (ts : List (List UInt8)) : sv ts = ts.map encStr := rfl
set_option maxHeartbeats 4000000 in
theorem tbits_any (a : Option Addr) (n cap : Nat) (es : List Ent) (w : World) (hl : es.length = n) (h : RdE w a es) (hr : okT es = true) :
    Calls Tryz.prog 20 #[.slice a n cap] w fun e w' => e = .returned (.string ⟨(makeL (keysT es)).toArray⟩) ∧ Below w.heap.size w w' := by
  obtain ⟨i0, hi, hz0, hz1, hz2⟩ := info_parts Tryz.infoStrH
  obtain ⟨hne, hok⟩ := okT_iff.1 hr
  have hn : n ≤ 4096 := by rw [← hl]; exact okB_len4 hok
  have hn0 : 0 < n := by
    rcases Nat.eq_zero_or_pos n with h | h
    · exact absurd (List.length_eq_zero_iff.1 (hl.trans h)) hne
    · exact h
  obtain ⟨b, off, ha, hb, hat⟩ := h.at_
  rw [hl] at ha hb
  obtain rfl := ha hn0
  have hbw := hb hn0
  have HL := Lib.hid hl
  have HAT := Lib.hid hat
  have H64 := Lib.hid (okB_key64 hok)
  clear hl hat h hr hne hok ha hb
  go_enter Tryz.func20, Tryz.ntmps20
  go_wp2
  go_loopw [3, 10] (fun v i wr => ∃ (k : Nat), i = .int .i64 k ∧ k ≤ n ∧ Hid (wr.ownsRow w.heap.size 9 1 v k (sv (keyZ (es.take k)))) ∧ Hid (Below w.heap.size w wr)) (fun _ i _ => n - (intOf i).toNat)
  case atStart => exact ⟨0, rfl, by omega, Lib.hid (World.ownsRow_nil _ _ _ _), Lib.hid (Below.refl _ _)⟩
  case round =>
    obtain ⟨k, rfl, hk, HO, HW⟩ := hrel
    have hws := HW.out.size
    by_cases hlt : k < n
    · have hkl : k < es.length := by rw [HL.out]; exact hlt
      have hki : (k : Int) < (n : Int) := by omega
      obtain ⟨g0, g1, g2, g3⟩ := HAT.out.old hbw HW.out k hkl
      have hbr : b < wr.heap.size := Nat.lt_of_lt_of_le hbw hws
      have hsn := keyZ_snoc hkl
      obtain ⟨E, hE⟩ : ∃ E, E = es[k] := ⟨_, rfl⟩
      rw [← hE] at g0 g1 g2 g3 hsn
      obtain ⟨ek, evl, eg, eq⟩ := E
      have HSN := Lib.hid (show keyZ (es.take (k + 1)) = keyZ (es.take k) ++ [ek.data.toList] from hsn)
      have hW1 := HW.out.alloc hws (.cells #[.string ek, .string evl, .bool eg, .int .i64 eq] 41)
      have hO1 := HO.out.alloc (.cells #[.string ek, .string evl, .bool eg, .int .i64 eq] 41)
      have HW1 := Lib.hid hW1
      have HO1 := Lib.hid hO1
      have hw1 := hW1.size
      clear hsn hE hW1 hO1 HO HW
      go_wp2_with (at_builtin; refine wpList_append_own _ rfl _ _ 53 rfl w.heap.size 9 i0 (.string ⟨#[]⟩) 1 16 Tryz.underlying53 hi hz0 hz1 hz2 rfl (by decide) _ _ _ rfl (HO1.out.alloc _) ⟨wr.heap.size + 1, 0, none⟩ 1 1 [.string ek] rfl rfl (by intro j u hu; cases j with | zero => simp at hu; subst hu; simp [go_sem] | succ j => simp at hu) (by intro u hu; simp at hu; subst hu; rfl) (by unfold maxLen; omega) (by omega) (by simp; omega) ?_)
      intro v' w3 own3 gr3 _
      have HW3 := Lib.hid ((HW1.out.alloc hw1 (.cells #[.string ek] 9)).grown gr3 (by simp; omega) (fun k hk => (HO1.out.lt k hk).1))
      rw [show [Value.string ek] = [Value.string ⟨ek.data.toList.toArray⟩] by simp, sv_snoc, ← HSN.out] at own3
      have HO3 := Lib.hid own3
      clear own3 gr3 HO1 HW1 hw1 g0 g1 g2 g3 hbr
      go_wp2
      go_roundw
      case rel => exact ⟨k + 1, by go_num, by omega, HO3, HW3⟩
      case measure => simp [intOf]; omega
    · obtain rfl : k = n := by omega
      have hown := HO.out
      rw [← HL.out, List.take_length, HL.out, sv_enc] at hown
      obtain ⟨g, cap', rfl, hbg, hgw, hnc, hcm, hzl, hH⟩ := Lib.holds_of_ownsRow hown (fun e => by
        rw [e] at hown
        rcases hown.2 with ⟨_, h0⟩ | ⟨g, cap, cur, hv, _⟩
        · have h1 := hown.1; have : k = 0 := by first | exact h0 | (simp at h0; have := congrArg List.length h0; simp at this; omega)
          omega
        · cases hv)
      have hle : (Lib.compact (keyZ es)).length ≤ k := by
        rw [compact_keys]
        have := keysG_length es none
        have := HL.out
        unfold keysT
        omega
      have hcmp := AnyG.slices_Compact_string laysCompact g 0 cap' (keyZ es) wr hH (by rw [hzl]; omega) (by rw [hzl]; omega)
      rw [hzl] at hcmp
      have HCM := Lib.hid hcmp
      have HOW := Lib.hid hown
      have HZ := Lib.hid hzl
      have hbg' := hbg
      clear hcmp hown hzl hH HO
      go_wp2_with fail
      refine HCM.out.mono ?_
      rintro e w2 ⟨rfl, q, rfl⟩
      have hW2 := Lib.below_putRow (enc := encStr) (q := q) (d := (Lib.compact (keyZ es) ++ List.replicate (k - (Lib.compact (keyZ es)).length) []).toArray) HW.out hbg'
      have hO2 := Lib.ownsRow_putRow (q := q) (k := (Lib.compact (keyZ es)).length) (ys := Lib.compact (keyZ es) ++ List.replicate (k - (Lib.compact (keyZ es)).length) []) HOW.out (by simp; omega) hle
      rw [List.take_left, ← sv_enc] at hO2
      have hrd := own_rd hO2
      generalize Sort.putRow encStr (Sort.ahead wr q) g 0 (Lib.compact (keyZ es) ++ List.replicate (k - (Lib.compact (keyZ es)).length) []).toArray = w2 at hW2 hrd ⊢
      rw [compact_keys] at hrd ⊢
      have hkl : (keysT es).length ≤ 4096 := by rw [compact_keys] at hle; omega
      have HM := Lib.hid (make_code (some ⟨g, 0, none⟩) cap' (keysT es) w2 hrd (fun t ht => by
        obtain ⟨e, he, rfl⟩ := keysG_mem es none t ht
        have := H64.out e he
        rw [size_list]
        omega) hkl)
      have HW2 := Lib.hid hW2
      clear hW2 hO2 hrd HCM HOW
      go_wp2_with fail
      refine HM.out.mono ?_
      rintro e w3 ⟨rfl, b3⟩
      have HW3 := Lib.hid (HW2.out.trans (b3.mono HW2.out.size))
      go_wp2
      go_ret
      exact ⟨rfl, HW3.out⟩
end Go.Proofs.YtobhjmkaamjoeaaGreat
namespace Go.Proofs.YtobhjmkaamjoeaaGreat
set_option maxRecDepth 100000
open Go.RowKit
set_option linter.unusedVariables false
set_option linter.unusedSimpArgs false

theorem bcheck2_any (B b : Nat) (l : List UInt8) (w : World) (h : Bld B b l w) :
    Calls Tryz.prog 85 #[.pointer (some ⟨b, 0, none⟩)] w fun e w' => e = .returned (.tuple #[]) ∧ Lib.BuilderAt 74 5 B b (.pointer (some ⟨b, 0, none⟩)) (Lib.byteCells l) w' ∧ Below B w w' ∧ KeepT b w w' ∧ (w' = w ∨ w' = w.setCell ⟨b, 0, none⟩ (.pointer (some ⟨b, 0, none⟩))) := by
  rcases h with h | h
  · refine (bcheck_new b w h.cell0 h.shape h.frozen0).mono ?_
    rintro e w' ⟨rfl, rfl⟩
    exact ⟨rfl, h.used _, (Below.refl B w).setCell (p := ⟨b, 0, none⟩) h.1 _, KeepT.set b 0 w _, .inr rfl⟩
  · refine (bcheck_used b w h.cell0).mono ?_
    rintro e w' ⟨rfl, rfl⟩
    exact ⟨rfl, h, Below.refl B _, KeepT.refl b _, .inl rfl⟩
/-- What a write into the builder at b leaves of the others. -/
def WK (b : Nat) (w w' : World) : Prop := ∃ v v', w.cell? ⟨b, 1, none⟩ = some v ∧ w'.cell? ⟨b, 1, none⟩ = some v' ∧ w.heap.size ≤ w'.heap.size ∧
  (∀ g, g < w.heap.size → g ≠ b → v.ownBlock ≠ some g → w'.heap[g]? = w.heap[g]?) ∧ ∀ r, v'.ownBlock = some r → v.ownBlock = some r ∨ w.heap.size ≤ r
set_option maxHeartbeats 1000000 in
theorem bwrite2_any (B b : Nat) (l : List UInt8) (s : ByteArray) (w : World) (h : Bld B b l w) (hlen : l.length + s.size ≤ 140737488355328) (hBw : B ≤ w.heap.size) :
    Calls Tryz.prog 45 #[.pointer (some ⟨b, 0, none⟩), .string s] w fun e w' => e = .returned (.tuple #[.int .i64 s.size, .nilIface]) ∧ Bld B b (l ++ s.data.toList) w' ∧ Below B w w' ∧ KeepT b w w' ∧ WK b w w' := by
  obtain ⟨i0, hi, hz0, hz1, hz2⟩ := info_parts Tryz.infoU8k
  go_enter Tryz.func45, Tryz.ntmps45
  go_wp2_with (go_at_call 85; refine (bcheck2_any B b l _ h).mono ?_)
  rintro e w1 ⟨rfl, h1, hb1, hk1, hq1⟩
  obtain ⟨hB, v, hbk, hown, hne⟩ := h1
  have c0 : w1.cell? ⟨b, 0, none⟩ = some (.pointer (some ⟨b, 0, none⟩)) := by rw [Lib.cell_of_heap hbk]; rfl
  have c1 : w1.cell? ⟨b, 1, none⟩ = some v := by rw [Lib.cell_of_heap hbk]; rfl
  have hq2 : w1.heap.size = w.heap.size ∧ (∀ g, g ≠ b → w1.heap[g]? = w.heap[g]?) ∧ w.cell? ⟨b, 1, none⟩ = some v := by
    rcases hq1 with rfl | rfl
    · exact ⟨rfl, fun g hg => rfl, c1⟩
    · refine ⟨by simp, fun g hg => Below.heap_setCell _ _ _ _ hg, ?_⟩
      rw [← c1]
      first
        | (rw [World.cell?_setCell_ne]; simp)
        | simp [go_sem]
  obtain ⟨hq3, hq4, hq5⟩ := hq2
  have hll := Lib.byteCells_length l
  rw [hll] at hown
  go_wp2_with (at_builtin; refine wpList_str_ownR rfl _ _ 49 9 rfl 5 i0 Tryz.underlying49 Tryz.underlying9 hi hz0 hz1 hz2 _ _ _ rfl (own_base0 hown (Nat.zero_le _)) s rfl ?c3 ?c4 ?_)
  case c3 => unfold maxLen; omega
  case c4 => omega
  intro v' w2 hown' hgrow hnew
  have hown' := own_rebase hown' (fun r hr => by
    rcases hnew r hr with h | h
    · exact (hown.lt r h).1
    · have := hb1.size; omega)
  have hlt : b < w1.heap.size := by
    rcases Nat.lt_or_ge b w1.heap.size with h' | h'
    · exact h'
    · simp [Array.getElem?_eq_none h'] at hbk
  have hb2 : w2.heap[b]? = some (.cells #[.pointer (some ⟨b, 0, none⟩), v] 74 (0, 0)) := by
    rw [hgrow.block b hlt (fun e => hne e.symm)]
    exact hbk
  have d0 : w2.cell? ⟨b, 0, none⟩ = some (.pointer (some ⟨b, 0, none⟩)) := by rw [Lib.cell_of_heap hb2]; rfl
  have d1 : w2.cell? ⟨b, 1, none⟩ = some v := by rw [Lib.cell_of_heap hb2]; rfl
  have f1 : w2.frozen? ⟨b, 1, none⟩ = false := Lib.frozen_of_heap hb2 1
  obtain ⟨ao, n', cap, rfl⟩ : ∃ ao n' cap, v' = .slice ao n' cap := by
    rcases hown'.2 with ⟨hv, _⟩ | ⟨g, cap, cur, hv, _⟩
    · exact ⟨_, _, _, hv⟩
    · exact ⟨_, _, _, hv⟩
  have hlen2 : (Lib.byteCells l ++ Lib.strCells s).length = l.length + s.size := by rw [List.length_append, hll, Lib.strCells_length]
  have HB : Hid (Bld B b (l ++ s.data.toList) (w2.setCell ⟨b, 1, none⟩ (.slice ao n' cap)) ∧ (w2.setCell ⟨b, 1, none⟩ (.slice ao n' cap)).cell? ⟨b, 1, none⟩ = some (.slice ao n' cap)) := by
    have h2 := Lib.BuilderAt.put (T := 74) (e := 5) hB hb2 (bs' := Lib.byteCells l ++ Lib.strCells s) (by rw [hlen2]; exact hown') (by decide)
    have h3 : (w2.setCell ⟨b, 1, none⟩ (.slice ao n' cap)).cell? ⟨b, 1, none⟩ = some (.slice ao n' cap) := by simp [go_sem, d1]
    rw [bcells] at h2
    exact Lib.hid ⟨Or.inr h2, h3⟩
  have HW : Hid (Below B w (w2.setCell ⟨b, 1, none⟩ (.slice ao n' cap))) := Lib.hid ((hb1.grown hgrow (by have := hb1.size; omega) (fun k hk => (hown.lt k hk).1)).setCell (p := ⟨b, 1, none⟩) hB _)
  have HKp : Hid (KeepT b w (w2.setCell ⟨b, 1, none⟩ (.slice ao n' cap))) := by
    refine Lib.hid ((hk1.trans ⟨fun x cs T fr hx h0 hT => ?_, hgrow.size⟩).trans (KeepT.set b 1 w2 _))
    rw [hgrow.block x (heap_lt h0) (fun e => ?_)]
    · exact h0
    · rcases hown.2 with ⟨rfl, _⟩ | ⟨g, c, cur, rfl, _, hg, _⟩
      · simp [Value.ownBlock] at e
      · simp only [Value.ownBlock, Option.some.injEq] at e
        subst e
        rw [hg] at h0
        simp only [Option.some.injEq, Obj.cells.injEq] at h0
        exact hT h0.2.1.symm
  have HQ : Hid (WK b w (w2.setCell ⟨b, 1, none⟩ (.slice ao n' cap))) := by
    refine Lib.hid ⟨v, _, hq5, HB.out.2, by have := hgrow.size; simp; omega, fun g hg hgb hgv => ?_, fun r hr => ?_⟩
    · rw [Below.heap_setCell _ _ _ _ hgb, hgrow.block g (by omega) (fun e => hgv e.symm), hq4 g hgb]
    · rcases hnew r hr with h | h
      · exact .inl h
      · exact .inr (by omega)
  clear hown hown' hgrow hb1 hll hlen2 hk1 hnew hq1 hq3 hq4 hq5
  go_wp2
  go_ret2
  exact ⟨rfl, HB.out.1, HW.out, HKp.out, HQ.out⟩
/-- Two builders, apart. -/
def BB (B x y : Nat) (l m : List UInt8) (w : World) : Prop := Bld B x l w ∧ Bld B y m w ∧ x ≠ y ∧ ∀ v u, w.cell? ⟨x, 1, none⟩ = some v → w.cell? ⟨y, 1, none⟩ = some u → Apt v u
theorem BB.swap {B x y : Nat} {l m : List UInt8} {w : World} (h : BB B x y l m w) : BB B y x m l w := ⟨h.2.1, h.1, h.2.2.1.symm, fun v u hv hu => (h.2.2.2 u v hu hv).symm⟩
theorem Bld.at_ {B b : Nat} {l : List UInt8} {w : World} (h : Bld B b l w) : B ≤ b ∧ ∃ p v, w.heap[b]? = some (.cells #[p, v] 74 (0, 0)) ∧ w.ownsRow B 5 1 v (Lib.byteCells l).length (Lib.byteCells l) ∧ v.ownBlock ≠ some b ∧ w.cell? ⟨b, 1, none⟩ = some v := by
  rcases h with h | h
  · obtain ⟨hB, v, hb, ho, hn⟩ := h
    exact ⟨hB, _, v, hb, ho, hn, by rw [Lib.cell_of_heap hb]; rfl⟩
  · obtain ⟨hB, v, hb, ho, hn⟩ := h
    exact ⟨hB, _, v, hb, ho, hn, by rw [Lib.cell_of_heap hb]; rfl⟩
theorem BB.old {B x y : Nat} {l m : List UInt8} {w w' : World} (h : BB B x y l m w) (hb : Below w.heap.size w w') : BB B x y l m w' := by
  obtain ⟨h1, h2, h3, h4⟩ := h
  refine ⟨h1.old hb, h2.old hb, h3, fun v u hv hu => h4 v u ?_ ?_⟩
  · rw [← hb.cell (p := ⟨x, 1, none⟩) h1.lt]; exact hv
  · rw [← hb.cell (p := ⟨y, 1, none⟩) h2.lt]; exact hu
theorem BB.new (w : World) : BB w.heap.size w.heap.size (w.heap.size + 1) [] [] ((w.alloc (.cells #[.pointer none, .slice none 0 0] 74)).alloc (.cells #[.pointer none, .slice none 0 0] 74)) := by
  have h1 := (Bld.new w).old ((Below.refl _ _).alloc (Nat.le_refl _) (.cells #[.pointer none, .slice none 0 0] 74))
  have h2 := Bld.new (w.alloc (.cells #[.pointer none, .slice none 0 0] 74))
  have e : (w.alloc (.cells #[.pointer none, .slice none 0 0] 74)).heap.size = w.heap.size + 1 := by simp
  rw [e] at h2
  refine ⟨h1, ?_, by omega, fun v u hv hu => ?_⟩
  · rcases h2 with h | h
    · obtain ⟨hB, v, hb, ho, hn⟩ := h
      exact .inl ⟨by omega, v, hb, own_base0 ho (by omega), hn⟩
    · obtain ⟨hB, v, hb, ho, hn⟩ := h
      exact .inr ⟨by omega, v, hb, own_base0 ho (by omega), hn⟩
  · obtain rfl : v = .slice none 0 0 := by
      have : ((w.alloc (.cells #[.pointer none, .slice none 0 0] 74)).alloc (.cells #[.pointer none, .slice none 0 0] 74)).cell? ⟨w.heap.size, 1, none⟩ = some (.slice none 0 0) := by simp [go_sem]
      rw [this] at hv
      injection hv with hv
      exact hv.symm
    exact apt_nil _
theorem BB.write {B x y : Nat} {l m l' : List UInt8} {w w' : World} (h : BB B x y l m w) (h1 : Bld B x l' w') (hk : KeepT x w w') (hw : WK x w w') : BB B x y l' m w' := by
  obtain ⟨g1, g2, g3, g4⟩ := h
  obtain ⟨v, v', hv, hv', hs, hkeep, hnew⟩ := hw
  obtain ⟨hBy, p, u, hyb, hyo, hyn, hyc⟩ := g2.at_
  have hap := g4 v u hv hyc
  have hyb' := hk.1 y _ _ _ g3.symm hyb (by decide)
  have hyo' : w'.ownsRow B 5 1 u (Lib.byteCells m).length (Lib.byteCells m) := by
    refine ⟨hyo.1, ?_⟩
    rcases hyo.2 with h0 | ⟨g, cap, cur, hu, hbg, hg, hrest⟩
    · exact .inl h0
    · have hgx : g ≠ x := by
        intro e
        subst e
        obtain ⟨_, px, vx, hxb, _⟩ := g1.at_
        rw [hxb] at hg
        simp only [Option.some.injEq, Obj.cells.injEq] at hg
        exact absurd hg.2.1 (by decide)
      refine .inr ⟨g, cap, cur, hu, hbg, ?_, hrest⟩
      rw [hkeep g (heap_lt hg) hgx (fun e => hap g e (by rw [hu]; rfl))]
      exact hg
  refine ⟨h1, ?_, g3, fun v1 u1 hv1 hu1 => ?_⟩
  · rcases g2 with g | g
    · obtain ⟨_, v2, hb2, _⟩ := g
      have := hb2.symm.trans hyb
      simp only [Option.some.injEq, Obj.cells.injEq] at this
      obtain ⟨rfl, rfl⟩ : v2 = u ∧ p = .pointer none := by simpa [and_comm, eq_comm] using this.1
      exact .inl ⟨hBy, _, hyb', hyo', hyn⟩
    · obtain ⟨_, v2, hb2, _⟩ := g
      have := hb2.symm.trans hyb
      simp only [Option.some.injEq, Obj.cells.injEq] at this
      obtain ⟨rfl, rfl⟩ : v2 = u ∧ p = .pointer (some ⟨y, 0, none⟩) := by simpa [and_comm, eq_comm] using this.1
      exact .inr ⟨hBy, _, hyb', hyo', hyn⟩
  · rw [hv'] at hv1
    injection hv1 with hv1
    subst hv1
    rw [Lib.cell_of_heap hyb'] at hu1
    have hu2 : u1 = u := by
      have : some u = some u1 := hu1
      injection this with this
      exact this.symm
    subst hu2
    exact hap.grow hnew (fun r hr => (hyo.lt r hr).2)
set_option maxHeartbeats 2000000 in
theorem bstring2_any (B b : Nat) (l : List UInt8) (w : World) (h : Bld B b l w) (h0 : l ≠ []) :
    Calls Tryz.prog 50 #[.pointer (some ⟨b, 0, none⟩)] w fun e w' => e = .returned (.string ⟨l.toArray⟩) ∧ ∃ g cap, w.cell? ⟨b, 1, none⟩ = some (.slice (some ⟨g, 0, none⟩) l.length cap) ∧ B ≤ g ∧ w' = w.drew.freeze ⟨g, 0, none⟩ l.length := by
  obtain ⟨hB, p, v, hbk, hown, hne, hc⟩ := h.at_
  rw [Lib.byteCells_length] at hown
  have hl0 : l.length ≠ 0 := by simpa using h0
  have hrow := hown.2
  rcases hrow with ⟨_, hz⟩ | ⟨g, cap, cur, rfl, hbg, hg, hnc, hcm, hcs, htake⟩
  · exact absurd hz hl0
  have hcap : cap ≠ 0 := by omega
  have hsz : cur.size = cap := by omega
  have hd : w.drew.heap[g]? = some (.cells cur 5 (0, 0)) := hg
  have c1 : w.drew.cell? ⟨b, 1, none⟩ = some (.slice (some ⟨g, 0, none⟩) l.length cap) := hc
  have hxs : ∀ (j : Nat) (x : UInt8), l[j]? = some x → w.drew.cell? ((⟨g, 0, none⟩ : Addr).add j) = some (.int .u8 x.toNat) := fun j x hx => hown.cells (g := g) rfl j (.int .u8 x.toNat) (by simp [Lib.byteCells, hx])
  have hSD : (Builtin.unsafeSliceData_ #[49] 104 #[.slice (some ⟨g, 0, none⟩) l.length cap]).run Tryz.prog w.drew = .ok (.pointer (some ⟨g, 0, none⟩)) w.drew := Lib.run_unsafeSliceData_row _ _ _ _ _ _ hcap
  have hUS : (Builtin.unsafeString_ #[104, 3] 9 #[.pointer (some ⟨g, 0, none⟩), .int .i64 l.length]).run Tryz.prog w.drew = .ok (.string ⟨l.toArray⟩) (w.drew.freeze ⟨g, 0, none⟩ l.length) :=
    Lib.run_unsafeString_row w.drew 104 3 9 5 Tryz.underlying104 bstr_extra.cellsByte g cur.size (by simp [World.shape?, hd]) l h0 (by omega) (by unfold maxLen at hcm; omega) (fun j x hx => hxs j x hx)
  have mixed := bstr_lays.mixed
  clear hxs hown hbk hd hg htake hcs h
  go_enter Tryz.func50, Tryz.ntmps50
  go_wp2
  go_region_o
  all_goals (go_wp2; go_ret; exact ⟨rfl, g, cap, hc, hbg, rfl⟩)
theorem heap_freeze (w : World) (g n x : Nat) (h : x ≠ g) : (w.drew.freeze ⟨g, 0, none⟩ n).heap[x]? = w.heap[x]? := by
  unfold World.freeze
  split
  · rfl
  · show (Array.modify w.heap g _)[x]? = _
    rw [Array.getElem?_modify, if_neg (fun e => h e.symm)]
theorem size_freeze (w : World) (g n : Nat) : (w.drew.freeze ⟨g, 0, none⟩ n).heap.size = w.heap.size := by
  unfold World.freeze
  split
  · rfl
  · show (Array.modify w.heap g _).size = _
    rw [Array.size_modify]
theorem BB.froze {B x y g n cap : Nat} {l m : List UInt8} {w : World} (h : BB B x y l m w) (hc : w.cell? ⟨x, 1, none⟩ = some (.slice (some ⟨g, 0, none⟩) n cap)) : Bld B y m (w.drew.freeze ⟨g, 0, none⟩ n) ∧ (B ≤ g → Below B w (w.drew.freeze ⟨g, 0, none⟩ n)) := by
  obtain ⟨g1, g2, g3, g4⟩ := h
  obtain ⟨hBy, p, u, hyb, hyo, hyn, hyc⟩ := g2.at_
  obtain ⟨hBx, px, vx, hxb, hxo, hxn, hxc⟩ := g1.at_
  have hap := g4 _ u hc hyc
  obtain rfl : vx = .slice (some ⟨g, 0, none⟩) n cap := by rw [hc] at hxc; injection hxc with hxc; exact hxc.symm
  have hgy : y ≠ g := by
    rintro rfl
    rcases hxo.2 with ⟨h0, _⟩ | ⟨g', cap', cur', hv, _, hg', _⟩
    · cases h0
    · injection hv with hv
      injection hv with hv
      injection hv with hv
      subst hv
      rw [hyb] at hg'
      simp only [Option.some.injEq, Obj.cells.injEq] at hg'
      exact absurd hg'.2.1 (by decide)
  have hyb' : (w.drew.freeze ⟨g, 0, none⟩ n).heap[y]? = some (.cells #[p, u] 74 (0, 0)) := (heap_freeze w g n y hgy).trans hyb
  have hyo' : (w.drew.freeze ⟨g, 0, none⟩ n).ownsRow B 5 1 u (Lib.byteCells m).length (Lib.byteCells m) := by
    refine ⟨hyo.1, ?_⟩
    rcases hyo.2 with h0 | ⟨r, cap', cur, hu, hbr, hr, hrest⟩
    · exact .inl h0
    · refine .inr ⟨r, cap', cur, hu, hbr, ?_, hrest⟩
      rw [heap_freeze w g n r (fun e => hap g rfl (by rw [hu, e]; rfl))]
      exact hr
  refine ⟨?_, fun hBg => Lib.below_freeze (Below.drew (Below.refl B w)) (p := ⟨g, 0, none⟩) hBg _⟩
  rcases g2 with g2 | g2
  · obtain ⟨_, v2, hb2, _⟩ := g2
    have := hb2.symm.trans hyb
    simp only [Option.some.injEq, Obj.cells.injEq] at this
    obtain ⟨rfl, rfl⟩ : v2 = u ∧ p = .pointer none := by simpa [and_comm, eq_comm] using this.1
    exact .inl ⟨hBy, _, hyb', hyo', hyn⟩
  · obtain ⟨_, v2, hb2, _⟩ := g2
    have := hb2.symm.trans hyb
    simp only [Option.some.injEq, Obj.cells.injEq] at this
    obtain ⟨rfl, rfl⟩ : v2 = u ∧ p = .pointer (some ⟨y, 0, none⟩) := by simpa [and_comm, eq_comm] using this.1
    exact .inr ⟨hBy, _, hyb', hyo', hyn⟩
theorem tpnum_any (B x y : Nat) (l m : List UInt8) (z : Int) (n : Nat) (hz : z = (n : Int)) (hn : n ≤ 4611686018427387904) (w : World) (h : BB B x y l m w) (hl : l.length ≤ 100000000) (hB : B ≤ w.heap.size) :
    Calls Tryz.prog 43 #[.int .i64 z, .pointer (some ⟨x, 0, none⟩)] w fun e w' => e = .returned (.tuple #[]) ∧ BB B x y (l ++ vL n) m w' ∧ Below B w w' := by
  subst hz
  have h9 := vL_len9 hn
  have H := Lib.hid h
  clear h
  go_enter Tryz.func43, Tryz.ntmps43
  go_wp2_with fail
  refine (put_code n _ hn).mono ?_
  rintro e w1 ⟨rfl, b1⟩
  have hB1 : B ≤ w1.heap.size := Nat.le_trans hB b1.size
  have HO := Lib.hid (H.out.old b1)
  have HB1 := Lib.hid (b1.mono hB)
  clear b1
  go_wp2_with fail
  refine (bwrite2_any B x l ⟨(vL n).toArray⟩ _ HO.out.1 (by rw [size_mkl]; omega) hB1).mono ?_
  rintro e w2 ⟨rfl, b2, hb2, hk2, hw2⟩
  have HW := Lib.hid (HB1.out.trans hb2)
  have HD := Lib.hid (HO.out.write b2 hk2 hw2)
  clear b2 hb2 hk2 hw2
  go_wp2
  go_end0
  exact ⟨rfl, HD.out, HW.out⟩
theorem tptext_any (B x y : Nat) (l m : List UInt8) (s : ByteArray) (hs : s.size ≤ 262144) (w : World) (h : BB B x y l m w) (hl : l.length ≤ 100000000) (hB : B ≤ w.heap.size) :
    Calls Tryz.prog 46 #[.string s, .pointer (some ⟨x, 0, none⟩)] w fun e w' => e = .returned (.tuple #[]) ∧ BB B x y (l ++ txL s.data.toList) m w' ∧ Below B w w' := by
  have h9 := txL_size s.data.toList (by rw [size_list]; exact hs)
  have H := Lib.hid h
  clear h
  go_enter Tryz.func46, Tryz.ntmps46
  go_wp2_with fail
  refine (text_code s _ hs).mono ?_
  rintro e w1 ⟨rfl, b1⟩
  have hB1 : B ≤ w1.heap.size := Nat.le_trans hB b1.size
  have HO := Lib.hid (H.out.old b1)
  have HB1 := Lib.hid (b1.mono hB)
  clear b1
  go_wp2_with fail
  refine (bwrite2_any B x l ⟨(txL s.data.toList).toArray⟩ _ HO.out.1 (by rw [size_mkl]; omega) hB1).mono ?_
  rintro e w2 ⟨rfl, b2, hb2, hk2, hw2⟩
  have HW := Lib.hid (HB1.out.trans hb2)
  have HD := Lib.hid (HO.out.write b2 hk2 hw2)
  clear b2 hb2 hk2 hw2
  go_wp2
  go_end0
  exact ⟨rfl, HD.out, HW.out⟩
end Go.Proofs.YtobhjmkaamjoeaaGreat
namespace Go.Proofs.YtobhjmkaamjoeaaGreat
set_option maxRecDepth 100000
open Go.RowKit
set_option linter.unusedVariables false
set_option linter.unusedSimpArgs false

theorem put9_ok (a : Option Addr) (n cap : Nat) (es : List Ent) (w : World) (hn : n ≤ 9223372036854775807) (hl : es.length = n) (h : RdE w a es) (ho : okB es = true) :
    Calls Tryz.prog 48 #[.slice a n cap] w fun e w' => e = .returned (.tuple #[.string ⟨(putB es).toArray⟩, .int .i64 0]) ∧ Below w.heap.size w w' :=
  (put9_any a n cap es w hn hl h (okB_okW ho)).mono fun e w' hp => ⟨by rw [hp.1, if_pos ho], hp.2⟩
theorem EAt.rd {w : World} {b off : Nat} {es : List Ent} (h : EAt w b off es) (hb : b < w.heap.size) : RdE w (some ⟨b, off, none⟩) es := .inr ⟨b, off, rfl, hb, h⟩
theorem footF_ne (es : List Ent) : footF es ≠ [] := by
  unfold footF
  intro h
  have h1 := congrArg List.length h
  have h2 := vL_pos (numB es)
  simp only [List.length_append, List.length_nil] at h1
  omega
set_option maxHeartbeats 8000000 in
theorem twr_any (a : Option Addr) (n cap : Nat) (es : List Ent) (bits : ByteArray) (w : World) (hl : es.length = n) (hnc : n ≤ cap) (h : RdE w a es) (hr : okT es = true) (hbits : bits = ⟨(makeL (keysT es)).toArray⟩) :
    Calls Tryz.prog 19 #[.slice a n cap, .string bits] w fun e w' => e = .returned (.string ⟨(buildT es).toArray⟩) ∧ Below w.heap.size w w' := by
  obtain ⟨hne, hok⟩ := okT_iff.1 hr
  have hn : n ≤ 4096 := by rw [← hl]; exact okB_len4 hok
  have hn0 : 0 < n := by
    rcases Nat.eq_zero_or_pos n with h | h
    · exact absurd (List.length_eq_zero_iff.1 (hl.trans h)) hne
    · exact h
  have hnb := numB_le hok
  have hnbe : numB es = (n + 15) / 16 := by unfold numB; rw [hl]
  have hml : (makeL (keysT es)).length ≤ 8192 := by
    have h1 := nBytes_le (keysT es).length
    have h2 := keysG_length es none
    have h3 : (keysT es).length = (keysG none es).length := rfl
    rw [makeL_length]
    omega
  have hbs : bits.size ≤ 8192 := by rw [hbits, size_mkl]; exact hml
  have hbl : bits.data.toList = makeL (keysT es) := by rw [hbits]
  obtain ⟨b, off, ha, hb, hat⟩ := h.at_
  rw [hl] at ha hb
  obtain rfl := ha hn0
  have hbw := hb hn0
  have HL := Lib.hid hl
  have HOK := Lib.hid hok
  have HAT := Lib.hid hat
  have HBL := Lib.hid hbl
  have HNB := Lib.hid hnbe
  have hnbi : ((n : Int) + 16 - 1) / 16 = ((numB es : Nat) : Int) := by omega
  have HFL := Lib.hid (And.intro (outT_len hok) (And.intro (idxT_len hok) (footF_len hok)))
  have HFS := Lib.hid (footS_len hok)
  obtain ⟨nb, hnbv⟩ : ∃ nb, nb = numB es := ⟨_, rfl⟩
  rw [← hnbv] at hnb hnbi HNB
  have HNV := Lib.hid hnbv
  have hv9 := vL_len9 (n := nb) (by omega)
  clear hl hat h hr hne hok ha hb hnbe hbl hbits hml hnbv
  go_enter Tryz.func19, Tryz.ntmps19
  go_wp2_with fail
  refine (tpnum_any w.heap.size (w.heap.size + 1) w.heap.size [] [] _ nb rfl (by omega) _ (BB.new w).swap (by simp) (by simp; omega)).mono ?_
  rintro e w2 ⟨rfl, d2, b2⟩
  have HD2 : Hid (BB w.heap.size (w.heap.size + 1) w.heap.size (vL nb ++ idxT es 0) (outT es 0) w2) := Lib.hid (by simpa [outT, idxT] using d2)
  have HW2 := Lib.hid ((((Below.refl _ w).alloc (Nat.le_refl _) (.cells #[.pointer none, .slice none 0 0] 74)).alloc (by simp) (.cells #[.pointer none, .slice none 0 0] 74)).trans b2)
  clear d2 b2
  go_wp2
  go_loopw [0, 9, 10, 11] (fun v _ _ _ wr => ∃ (k m c' : Nat) (a' : Option Addr), v = .slice a' m c' ∧ k ≤ nb ∧ m ≤ c' ∧ Hid (m = n - 16 * k) ∧ Hid (0 < m → a' = some ⟨b, off + 16 * k * 4, none⟩) ∧ Hid (BB w.heap.size (w.heap.size + 1) w.heap.size (vL nb ++ idxT es k) (outT es k) wr) ∧ Hid (Below w.heap.size w wr)) (fun v _ _ _ _ => match v with | .slice _ m _ => m | _ => 0)
  case atStart => exact ⟨0, n, cap, some ⟨b, off, none⟩, rfl, by omega, hnc, Lib.hid (by omega), Lib.hid (fun _ => by simp), HD2, HW2⟩
  case round =>
    obtain ⟨k, m, c', a', rfl, hk, hmc, HM, HA, HD, HW⟩ := hrel
    have hws := HW.out.size
    by_cases hlt : 0 < m
    · have hmi : (0 : Int) < (m : Int) := by omega
      have hkn : k < nb := by have := HM.out; have := HNB.out; omega
      obtain rfl := HA.out hlt
      obtain ⟨H, hH⟩ : ∃ H : Nat, H = min 16 m := ⟨_, rfl⟩
      have hmin : min (16 : Int) (m : Int) = (H : Int) := by omega
      have hH0 : (0 : Int) ≤ (H : Int) := by omega
      have hHm : (H : Int) ≤ (m : Int) := by omega
      have hHc : (H : Int) ≤ (c' : Int) := by omega
      have hHn : H ≤ m := by omega
      have hHcn : H ≤ c' := by omega
      have hkl : 16 * k < es.length := by rw [HL.out]; have := HM.out; omega
      have hbok := blk_ok HOK.out k
      have hblen : (blk es k).length = H := by
        unfold blk
        rw [List.length_take, List.length_drop, HL.out]
        have := HM.out
        omega
      have hfk := fst_blk hkl
      have hf64 := fst_le HOK.out k
      obtain ⟨ek, hek⟩ : ∃ ek, ek = es[16 * k].1 := ⟨_, rfl⟩
      have HBE : Hid (∀ wx, Below w.heap.size w wx → RdE wx (some ⟨b, off + 16 * k * 4, none⟩) (blk es k) ∧ wx.cell? ⟨b, off + 16 * k * 4, none⟩ = some (.string ek) ∧ b < wx.heap.size) := Lib.hid fun wx hx => by
        have hbx : b < wx.heap.size := Nat.lt_of_lt_of_le hbw hx.size
        have h1 := HAT.out.old hbw hx
        refine ⟨((h1.drop (16 * k)).take 16).rd hbx, ?_, hbx⟩
        rw [hek]
        exact (h1 (16 * k) hkl).1
      rw [← hek] at hfk
      have hek64 : ek.size ≤ 262144 := by rw [hfk, size_list] at hf64; omega
      have hpl := (putB_le hbok (blk_len es k)).1
      have hol := HFL.out.1 k
      have hil := HFL.out.2.1 k
      obtain ⟨PB, hPB⟩ : ∃ PB : ByteArray, PB = ⟨(putB (blk es k)).toArray⟩ := ⟨_, rfl⟩
      have hPs : PB.size = (putB (blk es k)).length := by rw [hPB, size_mkl]
      have hPs9 : PB.size ≤ 6413 := by omega
      have hPBl : PB.data.toList = putB (blk es k) := by rw [hPB]
      have HPt := Lib.hid fun w h => put9_ok (some ⟨b, off + 16 * k * 4, none⟩) H c' (blk es k) w (by omega) hblen h hbok
      have HSO : Hid (outT es (k + 1) = outT es k ++ PB.data.toList) := Lib.hid (by rw [outT_succ, hPBl])
      obtain ⟨I, hI⟩ : ∃ I, I = vL nb ++ idxT es k := ⟨_, rfl⟩
      have hIl : I.length ≤ 30000 := by rw [hI, List.length_append]; omega
      have HSI : Hid (vL nb ++ idxT es (k + 1) = I ++ txL ek.data.toList ++ vL PB.size) := Lib.hid (by rw [idxT_succ, ← hfk, hPs, hI]; simp)
      rw [← hPB] at HPt
      rw [← hI] at HD
      have htl : (txL ek.data.toList).length ≤ 262153 := txL_size _ (by rw [size_list]; omega)
      have hol2 : (outT es k).length ≤ 1700000 := by omega
      clear hbok hfk hf64 hek hpl hol hil hPB hPs hblen hH hI hkl hPBl
      obtain ⟨hrd, g0, hbr⟩ := HBE.out _ HW.out
      have HRD := Lib.hid hrd
      clear hrd
      go_wp2_with fail
      refine (HPt.out _ HRD.out).mono ?_
      rintro e w4 ⟨rfl, b4⟩
      have HD4 := Lib.hid (HD.out.old b4)
      have HW4 := Lib.hid (HW.out.trans (b4.mono hws))
      have hs4 := HW4.out.size
      clear b4 HD HW hws g0 hbr HRD
      go_wp2_with fail
      refine (bwrite2_any w.heap.size w.heap.size (outT es k) PB _ HD4.out.2.1 (by omega) hs4).mono ?_
      rintro e w5 ⟨rfl, d5, b5, k5, q5⟩
      have HD5 := Lib.hid (HD4.out.swap.write d5 k5 q5).swap
      rw [← HSO.out] at HD5
      have HW5 := Lib.hid (HW4.out.trans b5)
      have hs5 := HW5.out.size
      clear d5 b5 k5 q5 HD4 HW4 hs4
      obtain ⟨hrd, g0, hbr⟩ := HBE.out _ HW5.out
      clear hrd
      go_wp2_with fail
      refine (tptext_any w.heap.size (w.heap.size + 1) w.heap.size I (outT es (k + 1)) ek hek64 _ HD5.out (by omega) hs5).mono ?_
      rintro e w6 ⟨rfl, d6, b6⟩
      have HD6 := Lib.hid d6
      have HW6 := Lib.hid (HW5.out.trans b6)
      have hs6 := HW6.out.size
      clear d6 b6 HD5 HW5 hs5 g0 hbr
      obtain ⟨Y, hY⟩ : ∃ Y, Y = I ++ txL ek.data.toList := ⟨_, rfl⟩
      have hYl : Y.length ≤ 300000 := by rw [hY, List.length_append]; omega
      rw [← hY] at HD6
      have HYS : Hid (vL nb ++ idxT es (k + 1) = Y ++ vL PB.size) := Lib.hid (by rw [hY]; exact HSI.out)
      clear hY
      go_wp2_with fail
      refine (tpnum_any w.heap.size (w.heap.size + 1) w.heap.size Y (outT es (k + 1)) _ PB.size rfl (by omega) _ HD6.out (by omega) hs6).mono ?_
      rintro e w7 ⟨rfl, d7, b7⟩
      rw [← HYS.out] at d7
      have HD7 := Lib.hid d7
      have HW7 := Lib.hid (HW6.out.trans b7)
      clear d7 b7 HD6 HW6 hs6
      go_wp2
      go_roundw
      case rel =>
        refine ⟨k + 1, m - H, c' - H, _, rfl, by omega, by omega, Lib.hid (by have := HM.out; omega), Lib.hid (fun h0 => ?_), HD7, HW7⟩
        rw [if_neg (by omega)]
        congr 2
        omega
      case measure => simp; omega
    · obtain rfl : m = 0 := by omega
      obtain rfl : k = nb := by have := HM.out; have := HNB.out; omega
      have hfl := HFL.out.2.2
      have hol := HFL.out.1 k
      have hil := HFL.out.2.1 k
      have hIl : (vL k ++ idxT es k).length ≤ 30000 := by rw [List.length_append]; omega
      go_wp2_with fail
      refine (tptext_any w.heap.size (w.heap.size + 1) w.heap.size (vL k ++ idxT es k) (outT es k) bits (by omega) _ HD.out (by omega) hws).mono ?_
      rintro e w4 ⟨rfl, d4, b4⟩
      have hF : vL k ++ idxT es k ++ txL bits.data.toList = footF es := by rw [HBL.out, HNV.out]; rfl
      rw [hF] at d4
      have HD4 := Lib.hid d4
      have HW4 := Lib.hid (HW.out.trans b4)
      have hs4 := HW4.out.size
      clear d4 b4 HD HW hws hF hil hIl
      have hFne : footF es ≠ [] := footF_ne es
      have hfs := HFS.out
      obtain ⟨F, hF⟩ : ∃ F, F = footF es := ⟨_, rfl⟩
      have HFE : Hid (F ++ tailL F = footS es) := Lib.hid (by rw [hF]; rfl)
      rw [← hF] at HD4 hFne hfl
      clear hF
      go_wp2_with fail
      refine (bstring2_any _ _ _ _ HD4.out.1 hFne).mono ?_
      rintro e w5 ⟨rfl, g, cap5, hc5, hg5, rfl⟩
      obtain ⟨hd5, hb5⟩ := HD4.out.froze hc5
      have hb5 := hb5 hg5
      have hsz5 : w.heap.size ≤ (w4.drew.freeze ⟨g, 0, none⟩ F.length).heap.size := by rw [size_freeze]; exact hs4
      generalize w4.drew.freeze ⟨g, 0, none⟩ F.length = w5 at hd5 hb5 hsz5 ⊢
      have HD5 := Lib.hid hd5
      have HW5 := Lib.hid (HW4.out.trans hb5)
      clear hd5 hb5 hc5 HD4 HW4 hs4
      go_wp2_with fail
      refine (seal_code _ _ (by rw [size_mkl]; omega)).mono ?_
      rintro e w6 ⟨rfl, b6⟩
      have HW6 := Lib.hid (HW5.out.trans (b6.mono hsz5))
      have HD6 := Lib.hid (HD5.out.old b6)
      have hs6 := HW6.out.size
      have hSS : (⟨F.toArray⟩ ++ ⟨(tailL F).toArray⟩ : ByteArray) = ⟨(footS es).toArray⟩ := by
        rw [← HFE.out]
        apply ByteArray.ext
        simp
      have hSS2 : (⟨F.toArray⟩ ++ ⟨(tailL (⟨F.toArray⟩ : ByteArray).data.toList).toArray⟩ : ByteArray) = ⟨(footS es).toArray⟩ := hSS
      rw [hSS2]
      obtain ⟨S, hS⟩ : ∃ S : ByteArray, S = ⟨(footS es).toArray⟩ := ⟨_, rfl⟩
      have hSl : S.size = (footS es).length := by rw [hS, size_mkl]
      rw [← hS]
      have hSz : S.size ≤ 27004 := by omega
      have HSE : Hid ((⟨(outT es k).toArray⟩ ++ S ++ ⟨(fixL S.size).toArray⟩ : ByteArray) = ⟨(buildT es).toArray⟩) := Lib.hid (by
        rw [hSl, hS]
        unfold buildT
        rw [← HNV.out]
        apply ByteArray.ext
        simp)
      clear b6 HW5 HD5 hSS hSS2 hS hSl hsz5 hFne
      go_wp2_with fail
      refine (fix_code S.size _ (by omega)).mono ?_
      rintro e w7 ⟨rfl, b7⟩
      have HW7 := Lib.hid (HW6.out.trans (b7.mono hs6))
      have HD7 := Lib.hid (HD6.out.old b7)
      have hs7 := HW7.out.size
      clear b7 HW6 HD6 hs6
      go_wp2_with fail
      refine (bstring_any _ _ _ _ HD7.out hs7).mono ?_
      rintro e w8 ⟨rfl, b8⟩
      have HW8 := Lib.hid (HW7.out.trans b8)
      clear b8
      have hfx : (fixL S.size).length = 4 := fixL_length _
      have hsum : (outT es k).length + S.size + (fixL S.size).length ≤ 9223372036854775807 := by omega
      go_wp2
      go_ret
      exact ⟨congrArg Ending.returned (congrArg Value.string HSE.out), HW8.out⟩
/-- What Build leaves. -/
def BU (es : List Ent) (w : World) (e : Ending) (w' : World) : Prop :=
  e = .returned (if okT es = true then .tuple #[.string ⟨(buildT es).toArray⟩, .int .i64 0] else .tuple #[.string ⟨#[]⟩, .int .i64 1]) ∧ Below w.heap.size w w'
theorem BU.yes {es : List Ent} {w w' : World} {e : Ending} (h : okT es = true) (he : e = .returned (.tuple #[.string ⟨(buildT es).toArray⟩, .int .i64 0])) (hb : Below w.heap.size w w') : BU es w e w' := by
  unfold BU
  rw [if_pos h]
  exact ⟨he, hb⟩
theorem BU.no {es : List Ent} {w w' : World} {e : Ending} (h : okT es = false) (he : e = .returned (.tuple #[.string ⟨#[]⟩, .int .i64 1])) (hb : Below w.heap.size w w') : BU es w e w' := by
  unfold BU
  rw [h]
  exact ⟨he, hb⟩
set_option maxHeartbeats 1000000 in
theorem tbuild_any (a : Option Addr) (n cap : Nat) (es : List Ent) (w : World) (hn : n ≤ 9223372036854775807) (hl : es.length = n) (hnc : n ≤ cap) (h : RdE w a es) (hok : okV es) :
    Calls Tryz.prog 7 #[.slice a n cap] w (BU es w) := by
  cases hr : okT es with
  | false =>
    have HM := Lib.hid (tmay_any a n cap es w hn hl h hok _ hr)
    have HR := Lib.hid hr
    clear hl h hok hr
    go_enter Tryz.func7, Tryz.ntmps7
    go_wp2_with fail
    refine HM.out.mono ?_
    rintro e w1 ⟨rfl, b1⟩
    go_wp2
    go_ret2
    exact BU.no HR.out rfl b1
  | true =>
    have HM := Lib.hid (tmay_any a n cap es w hn hl h hok _ hr)
    have HR := Lib.hid hr
    have HH := Lib.hid h
    have HL := Lib.hid hl
    clear hl h hok hr
    go_enter Tryz.func7, Tryz.ntmps7
    go_wp2_with fail
    refine HM.out.mono ?_
    rintro e w1 ⟨rfl, b1⟩
    have HW1 := Lib.hid b1
    clear b1
    go_wp2_with fail
    refine (tbits_any a n cap es w1 HL.out (HH.out.old HW1.out) HR.out).mono ?_
    rintro e w2 ⟨rfl, b2⟩
    have HW2 := Lib.hid (HW1.out.trans (b2.mono HW1.out.size))
    clear b2
    go_wp2_with fail
    refine (twr_any a n cap es _ w2 HL.out hnc (HH.out.old HW2.out) HR.out rfl).mono ?_
    rintro e w3 ⟨rfl, b3⟩
    have HW3 := Lib.hid (HW2.out.trans (b3.mono HW2.out.size))
    go_wp2
    go_ret2
    exact BU.yes HR.out rfl HW3.out
end Go.Proofs.YtobhjmkaamjoeaaGreat
