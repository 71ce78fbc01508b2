/-
  Layer 16 (post), plain: a message put; what a call has of a message that came in. Conditions: as each says.
-/
import Derived.Test.YtdnhmkfgcpdbkaaTs
namespace Go.Proofs.Ytdnhmkfgcpdbkaa
open Go.RowKit
set_option linter.unusedVariables false
set_option linter.unusedSimpArgs false

theorem puts_sg (z : List Fld) (most sz : Nat) (l : List UInt8) (A : List Fld) (L : List (List Fld)) (C : List Fld) (h : okSg most A L C = true) (hA : wfE A = true) (hw : L.all wfE = true) (hC : wfE C = true) (hs : ∀ x ∈ L, x.length ≤ sz) (hm : most ≤ 512) (hz : sz ≤ 7) (hlA : A.length ≤ 8) (hlC : C.length ≤ 8) (hl : l.length ≤ 1099511627776) :
    segW putsW z most (l, true) A L C = ((l ++ txSg A L C, true), A, L, C) ∧ (txSg A L C).length ≤ 2000000 := by
  unfold okSg at h
  simp only [Bool.and_eq_true] at h
  obtain ⟨h1, h2, h3⟩ := h
  have e1 := txE_len h1 hA
  have e3 := txE_len h3 hC
  have hL : L.length ≤ 512 := by unfold okLs at h2; rw [Bool.and_eq_true, decide_eq_true_eq] at h2; omega
  have hk : 300 * sz * L.length ≤ 300 * 7 * 512 := Nat.mul_le_mul (by omega) hL
  have e2 := txLs_len most sz L h2 hw hs hm
  have hB : BIG = 70368744177664 := rfl
  have p1 := puts_e A l h1 hA (by omega)
  have p2 := puts_ls z most sz (l ++ txE A) L h2 hw hs hm (by rw [List.length_append]; omega)
  have p3 := puts_e C (l ++ txE A ++ txLs L) h3 hC (by rw [List.length_append, List.length_append]; omega)
  constructor
  · unfold segW
    simp only [p1, p2, p3]
    simp [txSg]
  · unfold txSg
    rw [List.length_append, List.length_append]
    omega
theorem wf_of {P : List Fld → Prop} (hP : ∀ x, P x → wfE x = true) {L : List (List Fld)} (h : ∀ x ∈ L, P x) : L.all wfE = true := List.all_eq_true.2 fun x hx => hP x (h x hx)
theorem wfWrite {x : List Fld} (h : isWrite x) : wfE x = true := by obtain ⟨_, _, _, rfl⟩ := h; rfl
theorem wfPair {x : List Fld} (h : isPair x) : wfE x = true := by obtain ⟨_, _, rfl⟩ := h; rfl
theorem wfShard {x : List Fld} (h : isShard x) : wfE x = true := by obtain ⟨_, _, _, _, _, _, rfl⟩ := h; rfl
theorem wfEntry {x : List Fld} (h : isEntry x) : wfE x = true := by obtain ⟨_, _, _, _, rfl⟩ := h; rfl
theorem wfSeen {x : List Fld} (h : isSeen x) : wfE x = true := by obtain ⟨_, _, _, _, _, _, _, rfl⟩ := h; rfl
/-- The lists of a message are of their kinds. -/
structure ShL (m : Mg) : Prop where
  ow : ∀ x ∈ m.OW, isWrite x
  rp : ∀ x ∈ m.RP, isPair x
  mp : ∀ x ∈ m.MP, isShard x
  en : ∀ x ∈ m.EN, isEntry x
  se : ∀ x ∈ m.SE, isSeen x
structure ShF (m : Mg) : Prop where
  a : wfE m.A = true ∧ m.A.length ≤ 8
  oa : wfE m.OA = true ∧ m.OA.length ≤ 8
  oc : wfE m.OC = true ∧ m.OC.length ≤ 8
  ra : wfE m.RA = true ∧ m.RA.length ≤ 8
  rc : wfE m.RC = true ∧ m.RC.length ≤ 8
theorem puts_m (m : Mg) (hs : ShL m) (hf : ShF m) (h : okM m = true) : msgW putsW ([], true) m = ((txM m, true), m) ∧ (txM m).length ≤ 20000000 := by
  unfold okM at h
  simp only [Bool.and_eq_true] at h
  obtain ⟨h1, h2, h3, h4, h5, h6⟩ := h
  have hB : BIG = 70368744177664 := rfl
  have e1 := txE_len h1 hf.a.1
  have hl1 := hf.a.2
  have p1 := puts_e m.A [] h1 hf.a.1 (by rw [List.length_nil]; omega)
  rw [List.nil_append] at p1
  have q2 := puts_sg zeroWrite 64 3 (txE m.A) m.OA m.OW m.OC h2 hf.oa.1 (wf_of (fun _ => wfWrite) hs.ow) hf.oc.1 (fun x hx => by rw [(hs.ow x hx).len]; omega) (by omega) (by omega) hf.oa.2 hf.oc.2 (by omega)
  have q3 := puts_sg zeroPair 512 2 (txE m.A ++ txSg m.OA m.OW m.OC) m.RA m.RP m.RC h3 hf.ra.1 (wf_of (fun _ => wfPair) hs.rp) hf.rc.1 (fun x hx => by rw [(hs.rp x hx).len]; omega) (by omega) (by omega) hf.ra.2 hf.rc.2 (by rw [List.length_append]; omega)
  have k4 : m.MP.length ≤ 512 := by unfold okLs at h4; rw [Bool.and_eq_true, decide_eq_true_eq] at h4; omega
  have k5 : m.EN.length ≤ 512 := by unfold okLs at h5; rw [Bool.and_eq_true, decide_eq_true_eq] at h5; omega
  have k6 : m.SE.length ≤ 512 := by unfold okLs at h6; rw [Bool.and_eq_true, decide_eq_true_eq] at h6; omega
  have t4 := txLs_len 64 6 m.MP h4 (wf_of (fun _ => wfShard) hs.mp) (fun x hx => by rw [(hs.mp x hx).len]; omega) (by omega)
  have t5 := txLs_len 512 4 m.EN h5 (wf_of (fun _ => wfEntry) hs.en) (fun x hx => by rw [(hs.en x hx).len]; omega) (by omega)
  have t6 := txLs_len 8 7 m.SE h6 (wf_of (fun _ => wfSeen) hs.se) (fun x hx => by rw [(hs.se x hx).len]; omega) (by omega)
  have p4 := puts_ls zeroShard 64 6 (txE m.A ++ txSg m.OA m.OW m.OC ++ txSg m.RA m.RP m.RC) m.MP h4 (wf_of (fun _ => wfShard) hs.mp) (fun x hx => by rw [(hs.mp x hx).len]; omega) (by omega) (by simp only [List.length_append]; omega)
  have p5 := puts_ls zeroEntry 512 4 (txE m.A ++ txSg m.OA m.OW m.OC ++ txSg m.RA m.RP m.RC ++ txLs m.MP) m.EN h5 (wf_of (fun _ => wfEntry) hs.en) (fun x hx => by rw [(hs.en x hx).len]; omega) (by omega) (by simp only [List.length_append]; omega)
  have p6 := puts_ls zeroSeen 8 7 (txE m.A ++ txSg m.OA m.OW m.OC ++ txSg m.RA m.RP m.RC ++ txLs m.MP ++ txLs m.EN) m.SE h6 (wf_of (fun _ => wfSeen) hs.se) (fun x hx => by rw [(hs.se x hx).len]; omega) (by omega) (by simp only [List.length_append]; omega)
  constructor
  · unfold msgW
    simp only [p1, q2.1, q3.1, p4, p5, p6]
    simp [txM]
  · unfold txM
    simp only [List.length_append]
    omega
/-- A slice that came in, and what it leads to. -/
def LRd (w : World) (sz : Nat) (sv : Value) (L : List (List Fld)) : Prop := ∃ a n c, sv = .slice a n c ∧ L.length = n ∧ n ≤ maxLen ∧ (L = [] ∨ ∃ rb ro, a = some ⟨rb, ro, none⟩ ∧ rb < w.heap.size ∧ RowAt w rb ro sz L)
theorem LRd.old {w w' : World} {sz : Nat} {sv : Value} {L : List (List Fld)} (h : LRd w sz sv L) (hb : Below w.heap.size w w') : LRd w' sz sv L := by
  obtain ⟨a, n, c, h1, h2, h3, h5⟩ := h
  refine ⟨a, n, c, h1, h2, h3, ?_⟩
  rcases h5 with h5 | ⟨rb, ro, h5, h6, h7⟩
  · exact .inl h5
  · exact .inr ⟨rb, ro, h5, Nat.lt_of_lt_of_le h6 hb.size, fun i hi j hj => (hb.cell (p := ⟨rb, _, none⟩) h6).trans (h7 i hi j hj)⟩
theorem LRd.row {w w' : World} {sz b B p : Nat} {sv : Value} {L : List (List Fld)} (h : LRd w sz sv L) (hb : Below w.heap.size w w') (hbb : w.heap.size ≤ b) (hB : w.heap.size ≤ B) (hp : w.heap.size ≤ p) : LRow True b B w' p sz sv L := by
  obtain ⟨a, n, c, h1, h2, h3, h5⟩ := h.old hb
  refine ⟨a, n, c, h1, h2, ?_⟩
  rcases h5 with h5 | ⟨rb, ro, h5, h6, h7⟩
  · exact .inl h5
  · obtain ⟨a0, n0, c0, k1, k2, k3, k5⟩ := h
    rw [h1] at k1
    injection k1 with m1 _ _
    rcases k5 with k5 | ⟨rb0, ro0, k5, k6, _⟩
    · exact .inl k5
    · rw [h5] at m1
      rw [← m1] at k5
      injection k5 with k5
      injection k5 with k5 _
      subst k5
      exact .inr ⟨rb, ro, h5, ⟨by omega, h6, .inl ⟨by omega, trivial⟩⟩, by omega, h7⟩
theorem LRd.len {w : World} {sz : Nat} {sv : Value} {L : List (List Fld)} (h : LRd w sz sv L) : L.length ≤ maxLen := by
  obtain ⟨a, n, c, h1, h2, h3, h5⟩ := h
  omega
theorem FAt.new (w : World) (l : List Fld) (T : TypeId) : FAt (w.alloc (.cells (l.map Fld.cell).toArray T)) w.heap.size 0 l := fun i hi => by
  rw [Nat.zero_add, alloc_cell]
  simp [hi]
theorem sets_at {w : World} {p i : Nat} {fs : List Fld} {vs : List Value} {v : Value} (h : FAt w p 0 fs) (hl : vs.length = fs.length) (hi : vs[i]? = some v) : (w.setCells p 0 vs).cell? ⟨p, i, none⟩ = some v := by
  obtain ⟨hlt, e⟩ := List.getElem?_eq_some_iff.1 hi
  have := World.cell?_setCells_in p vs 0 w (fun j hj => by rw [h j (by omega)]; rfl) i hlt
  rw [Nat.zero_add] at this
  rw [this, e]
theorem below_sets {B b : Nat} {w0 : World} : ∀ (vs : List Value) (o : Nat) (w : World), Below B w0 w → B ≤ b → Below B w0 (w.setCells b o vs)
  | [], _, _, h, _ => h
  | v :: r, o, w, h, hb => below_sets r (o + 1) _ (h.setCell (p := ⟨b, o, none⟩) hb v) hb
end Go.Proofs.Ytdnhmkfgcpdbkaa
