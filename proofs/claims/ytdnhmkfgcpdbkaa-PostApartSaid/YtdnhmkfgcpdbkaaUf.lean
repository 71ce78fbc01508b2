/-
  Layer 16 (post), plain: messages of zeros with a list of zeros: they may be just if the list has no more than may be. Conditions: as each says.
-/
import Derived.Test.YtdnhmkfgcpdbkaaUe
namespace Go.Proofs.Ytdnhmkfgcpdbkaa
open Go.RowKit
set_option linter.unusedVariables false
set_option linter.unusedSimpArgs false

def mK : Mg := { zM with A := [.n 1 15 15, .n 0 maxN 0, .n 0 maxN 0, .n 0 maxN 0, .n 0 maxN 0, .n 0 maxN 0, .n 0 maxN 0, .f false] }
theorem ok_rep (most n : Nat) (z : List Fld) (hz : okE z = true) : okLs most (List.replicate n z) = decide (n ≤ most) := by
  unfold okLs
  rw [List.length_replicate]
  have : (List.replicate n z).all okE = true := List.all_eq_true.2 fun x hx => by rw [List.eq_of_mem_replicate hx]; exact hz
  rw [this, Bool.and_true]
theorem tx_rep (n k : Nat) (z : List Fld) (hz : (txE z).length ≤ k) (hn : n ≤ 600) : (txLs (List.replicate n z)).length ≤ 9 + n * k := by
  unfold txLs
  rw [List.length_append, List.length_replicate]
  have h1 := vL_len9 (n := n) (by omega)
  have h2 : ((List.replicate n z).flatMap txE).length ≤ n * k := by
    induction n with
    | zero => simp
    | succ n ih =>
      rw [List.replicate_succ, List.flatMap_cons, List.length_append, Nat.add_mul, Nat.one_mul]
      have := ih (by omega) (vL_len9 (by omega))
      omega
  omega
theorem vL0 : vL 0 = [0] := vL_lt (by decide)
theorem z_len : (txE zeroWrite).length ≤ 7 ∧ (txE zeroPair).length ≤ 7 ∧ (txE zeroShard).length ≤ 7 ∧ (txE zeroEntry).length ≤ 7 ∧ (txE zeroSeen).length ≤ 7 := by
  have t0 : txL ((⟨#[]⟩ : ByteArray).data.toList) = [0] := by show vL 0 ++ [] = _; rw [vL0]; rfl
  have n0 : vL (0 : Int).toNat = [0] := vL0
  have f0 : vL 0 = [0] := vL0
  unfold zeroWrite zeroPair zeroShard zeroEntry zeroSeen txE
  simp only [List.flatMap_cons, List.flatMap_nil, txF, t0, n0, f0, Bool.false_eq_true, if_false, List.append_nil]
  decide
theorem z_ok : okE zeroWrite = true ∧ okE zeroPair = true ∧ okE zeroShard = true ∧ okE zeroEntry = true ∧ okE zeroSeen = true := by decide
theorem b_len : (txE mK.A).length ≤ 72 ∧ (txE zM.OA).length ≤ 45 ∧ (txE zM.OC).length ≤ 27 ∧ (txE zM.RA).length ≤ 27 ∧ (txE zM.RC).length ≤ 9 := by
  have t0 : txL ((⟨#[]⟩ : ByteArray).data.toList) = [0] := by show vL 0 ++ [] = _; rw [vL0]; rfl
  have n0 : vL (0 : Int).toNat = [0] := vL0
  have n1 : vL (15 : Int).toNat = [15] := vL_lt (by decide)
  have f0 : vL 0 = [0] := vL0
  unfold mK zM txE
  simp only [List.flatMap_cons, List.flatMap_nil, txF, t0, n0, n1, f0, Bool.false_eq_true, if_false, List.append_nil]
  decide
theorem seal_size (l : List UInt8) : (sealB l).size = l.length + 4 := by
  show (l ++ CR.tailL l).toArray.size = _
  rw [List.size_toArray, List.length_append, CR.tailL_length]
theorem nil_ls : (txLs []).length ≤ 9 := by
  unfold txLs
  rw [List.length_append]
  have := vL_len9 (n := ([] : List (List Fld)).length) (by simp)
  simpa using this
theorem b_ok : okE mK.A = true ∧ okE zM.OA = true ∧ okE zM.OC = true ∧ okE zM.RA = true ∧ okE zM.RC = true := by decide
/-- The five messages. -/
def mMany (i n : Nat) : Mg := match i with
  | 0 => { mK with OW := List.replicate n zeroWrite }
  | 1 => { mK with RP := List.replicate n zeroPair }
  | 2 => { mK with MP := List.replicate n zeroShard }
  | 3 => { mK with EN := List.replicate n zeroEntry }
  | _ => { mK with SE := List.replicate n zeroSeen }
def mostMany : Nat → Nat
  | 0 => 64
  | 1 => 512
  | 2 => 64
  | 3 => 512
  | _ => 8
theorem many_ok (i n : Nat) : okM (mMany i n) = decide (n ≤ mostMany i) := by
  obtain ⟨z1, z2, z3, z4, z5⟩ := z_ok
  obtain ⟨b1, b2, b3, b4, b5⟩ := b_ok
  have n0 : ∀ m, okLs m [] = true := fun m => by simp [okLs]
  match i with
  | 0 =>
    show (okE mK.A && (okSg 64 zM.OA (List.replicate n zeroWrite) zM.OC && (okSg 512 zM.RA [] zM.RC && (okLs 64 [] && (okLs 512 [] && okLs 8 []))))) = _
    unfold okSg; rw [b1, b2, b3, b4, b5, ok_rep 64 n _ z1]; simp [n0, mostMany]
  | 1 =>
    show (okE mK.A && (okSg 64 zM.OA [] zM.OC && (okSg 512 zM.RA (List.replicate n zeroPair) zM.RC && (okLs 64 [] && (okLs 512 [] && okLs 8 []))))) = _
    unfold okSg; rw [b1, b2, b3, b4, b5, ok_rep 512 n _ z2]; simp [n0, mostMany]
  | 2 =>
    show (okE mK.A && (okSg 64 zM.OA [] zM.OC && (okSg 512 zM.RA [] zM.RC && (okLs 64 (List.replicate n zeroShard) && (okLs 512 [] && okLs 8 []))))) = _
    unfold okSg; rw [b1, b2, b3, b4, b5, ok_rep 64 n _ z3]; simp [n0, mostMany]
  | 3 =>
    show (okE mK.A && (okSg 64 zM.OA [] zM.OC && (okSg 512 zM.RA [] zM.RC && (okLs 64 [] && (okLs 512 (List.replicate n zeroEntry) && okLs 8 []))))) = _
    unfold okSg; rw [b1, b2, b3, b4, b5, ok_rep 512 n _ z4]; simp [n0, mostMany]
  | i + 4 =>
    show (okE mK.A && (okSg 64 zM.OA [] zM.OC && (okSg 512 zM.RA [] zM.RC && (okLs 64 [] && (okLs 512 [] && okLs 8 (List.replicate n zeroSeen)))))) = _
    unfold okSg; rw [b1, b2, b3, b4, b5, ok_rep 8 n _ z5]; simp [n0, mostMany]
theorem many_bare (i n : Nat) : bareL (mMany i n).SE = true := by
  match i with
  | 0 => rfl
  | 1 => rfl
  | 2 => rfl
  | 3 => rfl
  | i + 4 =>
    show bareL (List.replicate n zeroSeen) = true
    unfold bareL
    exact List.all_eq_true.2 fun x hx => by rw [List.eq_of_mem_replicate hx]; rfl
theorem many_size (i n : Nat) (hn : n ≤ 600) : (sealB (txM (mMany i n))).size ≤ 262144 := by
  rw [seal_size]
  obtain ⟨b1, b2, b3, b4, b5⟩ := b_len
  obtain ⟨z1, z2, z3, z4, z5⟩ := z_len
  have q := nil_ls
  have r1 := tx_rep n 7 _ z1 hn
  have r2 := tx_rep n 7 _ z2 hn
  have r3 := tx_rep n 7 _ z3 hn
  have r4 := tx_rep n 7 _ z4 hn
  have r5 := tx_rep n 7 _ z5 hn
  match i with
  | 0 =>
    show (txE mK.A ++ (txSg zM.OA (List.replicate n zeroWrite) zM.OC ++ (txSg zM.RA [] zM.RC ++ (txLs [] ++ (txLs [] ++ txLs []))))).length + 4 ≤ _
    unfold txSg; simp only [List.length_append]; omega
  | 1 =>
    show (txE mK.A ++ (txSg zM.OA [] zM.OC ++ (txSg zM.RA (List.replicate n zeroPair) zM.RC ++ (txLs [] ++ (txLs [] ++ txLs []))))).length + 4 ≤ _
    unfold txSg; simp only [List.length_append]; omega
  | 2 =>
    show (txE mK.A ++ (txSg zM.OA [] zM.OC ++ (txSg zM.RA [] zM.RC ++ (txLs (List.replicate n zeroShard) ++ (txLs [] ++ txLs []))))).length + 4 ≤ _
    unfold txSg; simp only [List.length_append]; omega
  | 3 =>
    show (txE mK.A ++ (txSg zM.OA [] zM.OC ++ (txSg zM.RA [] zM.RC ++ (txLs [] ++ (txLs (List.replicate n zeroEntry) ++ txLs []))))).length + 4 ≤ _
    unfold txSg; simp only [List.length_append]; omega
  | i + 4 =>
    show (txE mK.A ++ (txSg zM.OA [] zM.OC ++ (txSg zM.RA [] zM.RC ++ (txLs [] ++ (txLs [] ++ txLs (List.replicate n zeroSeen)))))).length + 4 ≤ _
    unfold txSg; simp only [List.length_append]; omega
theorem many_put (i n : Nat) (hn : n ≤ 600) : putOk (mMany i n) = decide (n ≤ mostMany i) := by
  unfold putOk
  rw [many_ok, many_bare, decide_eq_true (many_size i n hn)]
  simp
end Go.Proofs.Ytdnhmkfgcpdbkaa
