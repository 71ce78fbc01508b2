/-
  Layer 16 (post), plain: a message is taken out of its text. Conditions: as each says.
-/
import Derived.Test.YtdnhmkfgcpdbkaaTx
import Derived.Test.YtdnhmkfgcpdbkaaTy
import Derived.Test.YtdnhmkfgcpdbkaaA3
import Derived.Test.YtdnhmkfgcpdbkaaVq
namespace Go.Proofs.Ytdnhmkfgcpdbkaa
open Go.RowKit
set_option linter.unusedVariables false
set_option linter.unusedSimpArgs false

def bA (l : List UInt8) : ByteArray := ⟨l.toArray⟩
theorem bA_list (l : List UInt8) : (bA l).data.toList = l := by simp [bA]
theorem bA_size (l : List UInt8) : (bA l).size = l.length := by show l.toArray.size = _; rw [List.size_toArray]
theorem bA_ext (l : List UInt8) (k : Nat) : (bA l).extract k (bA l).size = bA (l.drop k) := by
  rw [Lib.extract_eq, bA_list, bA_size]
  congr 2
  rw [List.take_of_length_le (by rw [List.length_drop]; omega)]
def zF : Fld → Fld
  | .n lo hi _ => .n lo hi 0
  | .t _ => .t ⟨#[]⟩
  | .f _ => .f false
  | .r _ => .r (.slice none 0 0)
def nF : Fld → Fld
  | .r _ => .r (.slice none 0 0)
  | x => x
theorem tkN_ok {lo hi x : Int} {t : List UInt8} (h : lo ≤ x ∧ x ≤ hi) (h0 : 0 ≤ lo) (h1 : hi ≤ maxN) (z : Int) : tkN (false, bA (vL x.toNat ++ t)) lo hi z = ((false, bA t), x) := by
  unfold maxN at h1
  have hv := vL_len9 (n := x.toNat) (by omega)
  have ht := tk_put t x.toNat 0 0 (by simp; omega) (fun _ => rfl) (by omega)
  have h2 : tk (vL x.toNat ++ t) 0 0 = (x.toNat, (vL x.toNat).length, 0) := by rw [ht]; simp
  unfold tkN
  simp only [Bool.false_eq_true, if_false, bA_list, h2]
  rw [if_pos (by refine ⟨by omega, by omega, ?_⟩; first | rfl | trivial)]
  rw [bA_ext]
  have e : ((x.toNat : Nat) : Int) = x := by omega
  rw [e]
  simp
theorem tkX_ok {x : ByteArray} {t : List UInt8} (h : x.size ≤ 256) (z : ByteArray) : tkX (false, bA (txL x.data.toList ++ t)) z = ((false, bA t), x) := by
  have h2 := ttR_back x.data.toList t (by rw [size_list]; omega)
  unfold tkX
  simp only [Bool.false_eq_true, if_false, bA_list, h2]
  rw [if_pos (by refine ⟨by rw [size_list]; omega, ?_⟩; first | rfl | trivial)]
  rw [bA_ext]
  simp
theorem tkF_ok (x : Fld) (t : List UInt8) (h : okF x = true) (hw : wfF x = true) : stepF takesW (false, bA (txF x ++ t)) (zF x) = ((false, bA t), nF x) := by
  cases x with
  | n lo hi x =>
    have h1 := of_decide_eq_true h
    have h2 := of_decide_eq_true hw
    show ((tkN (false, bA (vL x.toNat ++ t)) lo hi 0).1, Fld.n lo hi (tkN (false, bA (vL x.toNat ++ t)) lo hi 0).2) = _
    rw [tkN_ok h1 h2.1 h2.2]
    rfl
  | t x =>
    have h1 : x.size ≤ 256 := of_decide_eq_true h
    show ((tkX (false, bA (txL x.data.toList ++ t)) ⟨#[]⟩).1, Fld.t (tkX (false, bA (txL x.data.toList ++ t)) ⟨#[]⟩).2) = _
    rw [tkX_ok h1]
    rfl
  | f x =>
    have e : txF (.f x) = vL (if x = true then (1 : Int) else 0).toNat := by cases x <;> rfl
    rw [e]
    show ((tkN (false, bA (vL (if x = true then (1 : Int) else 0).toNat ++ t)) 0 1 0).1, Fld.f (decide ((tkN (false, bA (vL (if x = true then (1 : Int) else 0).toNat ++ t)) 0 1 0).2 = 1))) = _
    rw [tkN_ok (by cases x <;> simp) (by omega) (by decide)]
    cases x <;> rfl
  | r v => rfl
theorem tkE_ok : ∀ (l : List Fld) (t : List UInt8), okE l = true → wfE l = true → elemW takesW (false, bA (txE l ++ t)) (l.map zF) = ((false, bA t), l.map nF)
  | [], t, _, _ => by simp [txE, elemW, stepsW]
  | x :: l, t, h, hw => by
    unfold okE at h; unfold wfE at hw
    rw [List.all_cons, Bool.and_eq_true] at h hw
    have e : txE (x :: l) ++ t = txF x ++ (txE l ++ t) := by simp [txE]
    rw [e]
    have h1 := tkF_ok x (txE l ++ t) h.1 hw.1
    have h2 := tkE_ok l t h.2 hw.2
    unfold elemW at h2 ⊢
    rw [List.map_cons, List.map_cons]
    simp only [stepsW, h1, h2]
theorem tkEls_ok (zero : List Fld) : ∀ (L : List (List Fld)) (t : List UInt8), L.all okE = true → L.all wfE = true → (∀ x ∈ L, x.map zF = zero) → elsW takesW (false, bA (L.flatMap txE ++ t)) (List.replicate L.length zero) = ((false, bA t), L.map (·.map nF))
  | [], t, _, _, _ => by simp [elsW, stepsW]
  | x :: L, t, h, hw, hz => by
    rw [List.all_cons, Bool.and_eq_true] at h hw
    have e : (x :: L).flatMap txE ++ t = txE x ++ (L.flatMap txE ++ t) := by simp
    rw [e]
    have h1 := tkE_ok x (L.flatMap txE ++ t) h.1 hw.1
    rw [hz x (by simp)] at h1
    have h2 := tkEls_ok zero L t h.2 hw.2 (fun y hy => hz y (by simp [hy]))
    unfold elsW at h2 ⊢
    rw [List.length_cons, List.replicate_succ, List.map_cons]
    simp only [stepsW, h1, h2]
theorem tkLs_ok (zero : List Fld) (most : Nat) (L : List (List Fld)) (t : List UInt8) (h : okLs most L = true) (hw : L.all wfE = true) (hz : ∀ x ∈ L, x.map zF = zero) (hm : most ≤ 512) : listW takesW zero most (false, bA (txLs L ++ t)) [] = ((false, bA t), L.map (·.map nF)) := by
  unfold okLs at h
  rw [Bool.and_eq_true, decide_eq_true_eq] at h
  have e : txLs L ++ t = vL (L.length : Int).toNat ++ (L.flatMap txE ++ t) := by simp [txLs]
  have h1 : takesW.num (false, bA (txLs L ++ t)) 0 most (([] : List (List Fld)).length) = ((false, bA (L.flatMap txE ++ t)), (L.length : Int)) := by
    rw [e]
    exact tkN_ok ⟨by omega, by omega⟩ (by omega) (by unfold maxN; omega) _
  unfold listW
  rw [h1]
  simp only
  have e2 : (if (L.length : Int) = (([] : List (List Fld)).length : Int) then ([] : List (List Fld)) else List.replicate (L.length : Int).toNat zero) = List.replicate L.length zero := by
    by_cases h0 : L.length = 0
    · rw [if_pos (by rw [h0]; rfl), h0]; rfl
    · rw [if_neg (by simpa using h0)]; rfl
  rw [e2]
  exact tkEls_ok zero L t h.2 hw hz
theorem tkSg_ok (zero : List Fld) (most : Nat) (A : List Fld) (L : List (List Fld)) (C : List Fld) (t : List UInt8) (h : okSg most A L C = true) (hA : wfE A = true) (hw : L.all wfE = true) (hC : wfE C = true) (hz : ∀ x ∈ L, x.map zF = zero) (hm : most ≤ 512) :
    segW takesW zero most (false, bA (txSg A L C ++ t)) (A.map zF) [] (C.map zF) = ((false, bA t), A.map nF, L.map (·.map nF), C.map nF) := by
  unfold okSg at h
  simp only [Bool.and_eq_true] at h
  have e : txSg A L C ++ t = txE A ++ (txLs L ++ (txE C ++ t)) := by simp [txSg]
  unfold segW
  rw [e]
  simp only [tkE_ok A _ h.1 hA, tkLs_ok zero most L _ h.2.1 hw hz hm, tkE_ok C _ h.2.2 hC]
def nM (m : Mg) : Mg := ⟨m.A.map nF, m.OA.map nF, m.OW.map (·.map nF), m.OC.map nF, m.RA.map nF, m.RP.map (·.map nF), m.RC.map nF, m.MP.map (·.map nF), m.EN.map (·.map nF), m.SE.map (·.map nF)⟩
/-- A message has the fields that messages have. -/
structure ZMs (m : Mg) : Prop where
  a : m.A.map zF = zM.A
  oa : m.OA.map zF = zM.OA
  oc : m.OC.map zF = zM.OC
  ra : m.RA.map zF = zM.RA
  rc : m.RC.map zF = zM.RC
theorem zWrite {x : List Fld} (h : isWrite x) : x.map zF = zeroWrite := by obtain ⟨_, _, _, rfl⟩ := h; rfl
theorem zPair {x : List Fld} (h : isPair x) : x.map zF = zeroPair := by obtain ⟨_, _, rfl⟩ := h; rfl
theorem zShard {x : List Fld} (h : isShard x) : x.map zF = zeroShard := by obtain ⟨_, _, _, _, _, _, rfl⟩ := h; rfl
theorem zEntry {x : List Fld} (h : isEntry x) : x.map zF = zeroEntry := by obtain ⟨_, _, _, _, rfl⟩ := h; rfl
theorem zSeen {x : List Fld} (h : isSeen x) : x.map zF = zeroSeen := by obtain ⟨_, _, _, _, _, _, _, rfl⟩ := h; rfl
theorem tkM_ok (m : Mg) (t : List UInt8) (hs : ShL m) (hf : ShF m) (hz : ZMs m) (h : okM m = true) : msgW takesW (false, bA (txM m ++ t)) zM = ((false, bA t), nM m) := by
  unfold okM at h
  simp only [Bool.and_eq_true] at h
  obtain ⟨h1, h2, h3, h4, h5, h6⟩ := h
  have e : txM m ++ t = txE m.A ++ (txSg m.OA m.OW m.OC ++ (txSg m.RA m.RP m.RC ++ (txLs m.MP ++ (txLs m.EN ++ (txLs m.SE ++ t))))) := by simp [txM]
  rw [e]
  have p1 := tkE_ok m.A (txSg m.OA m.OW m.OC ++ (txSg m.RA m.RP m.RC ++ (txLs m.MP ++ (txLs m.EN ++ (txLs m.SE ++ t))))) h1 hf.a.1
  have p2 := tkSg_ok zeroWrite 64 m.OA m.OW m.OC (txSg m.RA m.RP m.RC ++ (txLs m.MP ++ (txLs m.EN ++ (txLs m.SE ++ t)))) h2 hf.oa.1 (wf_of (fun _ => wfWrite) hs.ow) hf.oc.1 (fun x hx => zWrite (hs.ow x hx)) (by omega)
  have p3 := tkSg_ok zeroPair 512 m.RA m.RP m.RC (txLs m.MP ++ (txLs m.EN ++ (txLs m.SE ++ t))) h3 hf.ra.1 (wf_of (fun _ => wfPair) hs.rp) hf.rc.1 (fun x hx => zPair (hs.rp x hx)) (by omega)
  have p4 := tkLs_ok zeroShard 64 m.MP (txLs m.EN ++ (txLs m.SE ++ t)) h4 (wf_of (fun _ => wfShard) hs.mp) (fun x hx => zShard (hs.mp x hx)) (by omega)
  have p5 := tkLs_ok zeroEntry 512 m.EN (txLs m.SE ++ t) h5 (wf_of (fun _ => wfEntry) hs.en) (fun x hx => zEntry (hs.en x hx)) (by omega)
  have p6 := tkLs_ok zeroSeen 8 m.SE t h6 (wf_of (fun _ => wfSeen) hs.se) (fun x hx => zSeen (hs.se x hx)) (by omega)
  rw [hz.a] at p1
  rw [hz.oa, hz.oc] at p2
  rw [hz.ra, hz.rc] at p3
  unfold msgW
  have l1 : zM.OW = [] := rfl
  have l2 : zM.RP = [] := rfl
  have l3 : zM.MP = [] := rfl
  have l4 : zM.EN = [] := rfl
  have l5 : zM.SE = [] := rfl
  simp only [p1, l1, p2, l2, p3, l3, p4, l4, p5, l5, p6]
  rfl
/-- What was put is taken. -/
theorem take_put (m : Mg) (hs : ShL m) (hf : ShF m) (hz : ZMs m) (h : okM m = true) : tkOk (sealB (txM m)) = true ∧ (TKr (sealB (txM m))).2 = nM m := by
  have e : TKr (sealB (txM m)) = ((false, bA (CR.tailL (txM m))), nM m) := tkM_ok m (CR.tailL (txM m)) hs hf hz h
  constructor
  · unfold tkOk
    rw [e]
    have h1 : (bA (CR.tailL (txM m))).size = 4 := by rw [bA_size]; exact CR.tailL_length _
    have h2 : (sealB (txM m)).data.toList = txM m ++ CR.tailL (txM m) := by simp [sealB]
    rw [h2, CR.chk_seal]
    simp [h1]
  · rw [e]
end Go.Proofs.Ytdnhmkfgcpdbkaa
