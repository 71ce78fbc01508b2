/-
  Layer 14 (once), plain: what clients did last, as lists and as eight places. Conditions: as each says.
-/
import Derived.Test.YtemaonfgledcmaaWl
namespace Go.Proofs.Ytemaonfgledcmaa
set_option linter.unusedVariables false
set_option linter.unusedSimpArgs false

/-- What a client did last: client, number, reply (error, value, has, where its pairs lie, how many, their room, upto). -/
structure Sn where
  c : Int
  s : Int
  e : Int
  v : ByteArray
  h : Bool
  p : Option Addr
  n : Nat
  k : Nat
  u : ByteArray
def mayS (x : Sn) : Bool := decide (0 ≤ x.c ∧ x.c ≤ 7) && decide (1 ≤ x.s ∧ x.s ≤ 1099511627775) && decide (x.v.size = 0) && decide (x.n = 0) && decide (x.u.size = 0) && decide (0 ≤ x.e ∧ x.e ≤ 999)
theorem mayS_iff {x : Sn} : mayS x = true ↔ (0 ≤ x.c ∧ x.c ≤ 7) ∧ (1 ≤ x.s ∧ x.s ≤ 1099511627775) ∧ x.v.size = 0 ∧ x.n = 0 ∧ x.u.size = 0 ∧ (0 ≤ x.e ∧ x.e ≤ 999) := by
  unfold mayS; simp only [Bool.and_eq_true, decide_eq_true_eq, and_assoc]
def normS (x : Sn) : Sn := { x with v := ⟨#[]⟩, p := none, n := 0, k := 0, u := ⟨#[]⟩ }
@[simp] theorem normS_c (x : Sn) : (normS x).c = x.c := rfl
@[simp] theorem normS_s (x : Sn) : (normS x).s = x.s := rfl
theorem normS_norm (x : Sn) : normS (normS x) = normS x := rfl
theorem mayS_norm {x : Sn} (h : mayS x = true) : mayS (normS x) = true := by
  rw [mayS_iff] at h ⊢
  exact ⟨h.1, h.2.1, rfl, rfl, rfl, h.2.2.2.2.2⟩
def Z0 : Sn := ⟨0, 0, 0, ⟨#[]⟩, false, none, 0, 0, ⟨#[]⟩⟩
/-- May they be, the clients above b? -/
def up : Int → List Sn → Bool
  | _, [] => true
  | b, x :: l => mayS x && decide (b < x.c) && up x.c l
def chk (l : List Sn) : Bool := up (-1) l
abbrev Asc (l : List Sn) : Prop := l.Pairwise fun a b => a.c < b.c
theorem up_iff : ∀ {l : List Sn} {b : Int}, up b l = true ↔ (∀ x ∈ l, mayS x = true ∧ b < x.c) ∧ Asc l
  | [], b => by simp [up, Asc]
  | x :: l, b => by
    unfold up
    rw [Bool.and_eq_true, Bool.and_eq_true, decide_eq_true_eq, up_iff]
    constructor
    · rintro ⟨⟨h1, h2⟩, h3, h4⟩
      refine ⟨fun y hy => ?_, List.pairwise_cons.2 ⟨fun y hy => (h3 y hy).2, h4⟩⟩
      rcases List.mem_cons.1 hy with rfl | hy
      · exact ⟨h1, h2⟩
      · exact ⟨(h3 y hy).1, by have := (h3 y hy).2; omega⟩
    · rintro ⟨h1, h23⟩
      obtain ⟨h2, h3⟩ := List.pairwise_cons.1 h23
      exact ⟨h1 x (by simp), fun y hy => ⟨(h1 y (by simp [hy])).1, h2 y hy⟩, h3⟩
theorem chk_iff {l : List Sn} : chk l = true ↔ (∀ x ∈ l, mayS x = true) ∧ Asc l := by
  unfold chk
  rw [up_iff]
  exact ⟨fun ⟨h1, h2⟩ => ⟨fun x hx => (h1 x hx).1, h2⟩, fun ⟨h1, h2⟩ => ⟨fun x hx => ⟨h1 x hx, by have := (mayS_iff.1 (h1 x hx)).1; omega⟩, h2⟩⟩
theorem chk_one {x : Sn} : chk [x] = mayS x := by
  cases h : mayS x with
  | true => exact chk_iff.2 ⟨fun y hy => by rw [List.mem_singleton] at hy; rw [hy]; exact h, by simp [Asc]⟩
  | false =>
    cases q : chk [x] with
    | false => rfl
    | true => have := (chk_iff.1 q).1 x (by simp); rw [h] at this; cases this
/-- Where a client's number is looked up. -/
def look (l : List Sn) (c : Int) : Option Sn := l.find? fun x => decide (x.c = c)
theorem look_nil (c : Int) : look [] c = none := rfl
theorem look_cons (x : Sn) (l : List Sn) (c : Int) : look (x :: l) c = if x.c = c then some x else look l c := by
  unfold look
  rw [List.find?_cons]
  by_cases h : x.c = c <;> simp [h]
theorem look_app (a b : List Sn) (c : Int) : look (a ++ b) c = (look a c).or (look b c) := by
  unfold look; rw [List.find?_append]
theorem look_some {l : List Sn} {c : Int} {x : Sn} (h : look l c = some x) : x ∈ l ∧ x.c = c := by
  unfold look at h
  exact ⟨List.mem_of_find?_eq_some h, by simpa using List.find?_some h⟩
theorem look_none {l : List Sn} {c : Int} (h : ∀ x ∈ l, ¬ x.c = c) : look l c = none := by
  unfold look
  rw [List.find?_eq_none]
  intro x hx
  simpa using h x hx
theorem look_none' {l : List Sn} {c : Int} (h : look l c = none) : ∀ x ∈ l, ¬ x.c = c := by
  unfold look at h
  rw [List.find?_eq_none] at h
  intro x hx
  simpa using h x hx
theorem look_mem : ∀ {l : List Sn} {x : Sn}, Asc l → x ∈ l → look l x.c = some x
  | y :: l, x, h, hx => by
    rw [look_cons]
    rcases List.mem_cons.1 hx with rfl | hx
    · rw [if_pos rfl]
    · have := (List.pairwise_cons.1 h).1 x hx
      rw [if_neg (by omega)]
      exact look_mem (List.pairwise_cons.1 h).2 hx
theorem look_map {f : Sn → Sn} (hf : ∀ x, (f x).c = x.c) (l : List Sn) (c : Int) : look (l.map f) c = (look l c).map f := by
  induction l with
  | nil => rfl
  | cons x l ih =>
    rw [List.map_cons, look_cons, look_cons, hf, ih]
    by_cases h : x.c = c
    · rw [if_pos h, if_pos h]; rfl
    · rw [if_neg h, if_neg h]
theorem asc_map {f : Sn → Sn} (hf : ∀ x, (f x).c = x.c) {l : List Sn} (h : Asc l) : Asc (l.map f) := by
  unfold Asc
  rw [List.pairwise_map]
  exact h.imp fun {a b} q => by rw [hf, hf]; exact q
/-- Rising lists in which each client is told the same are the same. -/
theorem asc_ext : ∀ {a b : List Sn}, Asc a → Asc b → (∀ c, look a c = look b c) → a = b
  | [], [], _, _, _ => rfl
  | [], y :: b, _, hb, h => by have := h y.c; rw [look_nil, look_cons, if_pos rfl] at this; cases this
  | x :: a, [], ha, _, h => by have := h x.c; rw [look_nil, look_cons, if_pos rfl] at this; cases this
  | x :: a, y :: b, ha, hb, h => by
    have ha' := List.pairwise_cons.1 ha
    have hb' := List.pairwise_cons.1 hb
    have hx : look (y :: b) x.c = some x := by rw [← h, look_cons, if_pos rfl]
    have hy : look (x :: a) y.c = some y := by rw [h, look_cons, if_pos rfl]
    have e : x = y := by
      rw [look_cons] at hx hy
      by_cases q : y.c = x.c
      · rw [if_pos q] at hx; exact (Option.some.inj hx).symm
      · rw [if_neg q] at hx
        rw [if_neg (fun e => q e.symm)] at hy
        have k1 := hb'.1 _ (look_some hx).1
        have k2 := ha'.1 _ (look_some hy).1
        omega
    subst e
    congr 1
    refine asc_ext ha'.2 hb'.2 fun c => ?_
    by_cases q : x.c = c
    · rw [look_none fun z hz => by have := ha'.1 z hz; omega, look_none fun z hz => by have := hb'.1 z hz; omega]
    · have := h c
      rwa [look_cons, look_cons, if_neg q, if_neg q] at this

/-! ### One more in place of what was there -/
def pt (x : Sn) : Bool → List Sn → List Sn
  | d, [] => if d = true then [] else [x]
  | d, y :: l => (if d = false ∧ x.c ≤ y.c then [x] else []) ++ (if y.c = x.c then [] else [y]) ++ pt x (d || decide (x.c ≤ y.c)) l
theorem pt_true (x : Sn) : ∀ l : List Sn, pt x true l = l.filter fun y => decide (¬ y.c = x.c)
  | [] => rfl
  | y :: l => by
    unfold pt
    rw [Bool.true_or, pt_true x l, List.filter_cons]
    by_cases h : y.c = x.c <;> simp [h]
theorem pt_lt {x y : Sn} (h : ¬ x.c ≤ y.c) (l : List Sn) : pt x false (y :: l) = y :: pt x false l := by
  rw [pt]
  have h2 : ¬ y.c = x.c := by omega
  simp [h, h2]
theorem pt_ge {x y : Sn} (h : x.c ≤ y.c) (l : List Sn) : pt x false (y :: l) = x :: (y :: l).filter fun y => decide (¬ y.c = x.c) := by
  rw [pt, if_pos ⟨rfl, h⟩, Bool.false_or, decide_eq_true h, pt_true, List.filter_cons]
  by_cases h2 : y.c = x.c <;> simp [h2]
theorem look_filter {l : List Sn} {c d : Int} (h : ¬ c = d) : look (l.filter fun y => decide (¬ y.c = d)) c = look l c := by
  induction l with
  | nil => rfl
  | cons x l ih =>
    rw [List.filter_cons, look_cons]
    by_cases q : x.c = d
    · rw [if_neg (by simp [q]), ih, if_neg (by omega)]
    · rw [if_pos (by simp [q]), look_cons, ih]
theorem pt_look (x : Sn) (c : Int) : ∀ l : List Sn, look (pt x false l) c = if c = x.c then some x else look l c
  | [] => by
    rw [show pt x false [] = [x] from rfl, look_cons, look_nil]
    by_cases h : c = x.c
    · rw [if_pos h.symm, if_pos h]
    · rw [if_neg (fun e => h e.symm), if_neg h]
  | y :: l => by
    by_cases h : x.c ≤ y.c
    · rw [pt_ge h, look_cons]
      by_cases q : c = x.c
      · rw [if_pos q.symm, if_pos q]
      · rw [if_neg (fun e => q e.symm), if_neg q, look_filter q]
    · rw [pt_lt h, look_cons, pt_look x c l, look_cons]
      by_cases q : c = x.c
      · rw [if_pos q, if_pos q, if_neg (by omega)]
      · rw [if_neg q, if_neg q]
theorem pt_mem {x z : Sn} : ∀ {l : List Sn} {d : Bool}, z ∈ pt x d l → z = x ∨ z ∈ l
  | [], d, h => by
    unfold pt at h
    cases d <;> simp at h
    exact .inl h
  | y :: l, d, h => by
    unfold pt at h
    rw [List.mem_append, List.mem_append] at h
    rcases h with (h | h) | h
    · split at h
      · simp at h; exact .inl h
      · simp at h
    · split at h
      · simp at h
      · simp at h; exact .inr (by simp [h])
    · rcases pt_mem h with h | h
      · exact .inl h
      · exact .inr (by simp [h])
theorem pt_asc {x : Sn} : ∀ {l : List Sn}, Asc l → Asc (pt x false l)
  | [], _ => by simp [pt, Asc]
  | y :: l, h => by
    have h' := List.pairwise_cons.1 h
    by_cases q : x.c ≤ y.c
    · rw [pt_ge q]
      refine List.pairwise_cons.2 ⟨fun z hz => ?_, h.sublist List.filter_sublist⟩
      rw [List.mem_filter] at hz
      have k := hz.2
      simp only [decide_eq_true_eq] at k
      rcases List.mem_cons.1 hz.1 with rfl | hz
      · omega
      · have := h'.1 z hz; omega
    · rw [pt_lt q]
      refine List.pairwise_cons.2 ⟨fun z hz => ?_, pt_asc h'.2⟩
      rcases pt_mem hz with rfl | hz
      · omega
      · exact h'.1 z hz
theorem pt_chk {x : Sn} {l : List Sn} (h : chk l = true) (hx : mayS x = true) : chk (pt x false l) = true := by
  rw [chk_iff] at h ⊢
  refine ⟨fun z hz => ?_, pt_asc h.2⟩
  rcases pt_mem hz with rfl | hz
  · exact hx
  · exact h.1 z hz
theorem pt_len {x : Sn} : ∀ {l : List Sn} {d : Bool}, (pt x d l).length ≤ l.length + 1
  | [], d => by unfold pt; cases d <;> simp
  | y :: l, true => by rw [pt_true]; exact Nat.le_succ_of_le (List.length_filter_le _ _)
  | y :: l, false => by
    by_cases q : x.c ≤ y.c
    · rw [pt_ge q, List.length_cons]; have := List.length_filter_le (fun z : Sn => decide (¬ z.c = x.c)) (y :: l); omega
    · rw [pt_lt q, List.length_cons, List.length_cons]; have := pt_len (x := x) (l := l) (d := false); omega
/-- Is a number above what was there? -/
def newer : Option Sn → Int → Bool
  | none, _ => true
  | some y, s => decide (y.s < s)
def putE (l : List Sn) (x : Sn) : Int := if (chk l && mayS x) = true then (if newer (look l x.c) x.s = true then 0 else 140) else 1
def putL (l : List Sn) (x : Sn) : List Sn := if putE l x = 0 then pt x false l else []
theorem putL_ok {l : List Sn} {x : Sn} (h : putE l x = 0) : putL l x = pt x false l ∧ chk l = true ∧ mayS x = true ∧ newer (look l x.c) x.s = true := by
  refine ⟨if_pos h, ?_⟩
  unfold putE at h
  by_cases q : (chk l && mayS x) = true
  · rw [if_pos q] at h
    rw [Bool.and_eq_true] at q
    refine ⟨q.1, q.2, ?_⟩
    by_cases k : newer (look l x.c) x.s = true
    · exact k
    · rw [if_neg k] at h; cases h
  · rw [if_neg q] at h; cases h
theorem putL_no {l : List Sn} {x : Sn} (h : ¬ putE l x = 0) : putL l x = [] := if_neg h
theorem putE_cases (l : List Sn) (x : Sn) : putE l x = 0 ∨ putE l x = 1 ∨ putE l x = 140 := by
  unfold putE; split <;> (try split) <;> simp
/-- What clients did last, out of any. -/
def mdS (out : List Sn) (x : Sn) : List Sn := if putE out x = 0 then pt x false out else out
def md (l : List Sn) : List Sn := l.foldl mdS []
theorem md_snoc (l : List Sn) (x : Sn) : md (l ++ [x]) = mdS (md l) x := by unfold md; rw [List.foldl_append]; rfl
theorem mds_chk {out : List Sn} {x : Sn} (h : chk out = true) : chk (mdS out x) = true := by
  unfold mdS
  by_cases q : putE out x = 0
  · rw [if_pos q]; exact pt_chk h (putL_ok q).2.2.1
  · rw [if_neg q]; exact h
theorem md_chk (l : List Sn) : chk (md l) = true := by
  unfold md
  have : ∀ (l out : List Sn), chk out = true → chk (l.foldl mdS out) = true := by
    intro l
    induction l with
    | nil => intro out h; exact h
    | cons x l ih => intro out h; exact ih _ (mds_chk h)
  exact this l [] rfl
/-- There are eight clients. -/
theorem asc_len : ∀ {l : List Sn} {b : Int}, Asc l → (∀ x ∈ l, b < x.c ∧ x.c ≤ 7) → (l.length : Int) ≤ 7 - b ∨ l = []
  | [], _, _, _ => .inr rfl
  | x :: l, b, h, hm => by
    have h' := List.pairwise_cons.1 h
    have hx := hm x (by simp)
    left
    rcases asc_len (b := x.c) h'.2 (fun y hy => ⟨h'.1 y hy, (hm y (by simp [hy])).2⟩) with q | q
    · rw [List.length_cons]; omega
    · subst q; simp; omega
theorem chk_len {l : List Sn} (h : chk l = true) : l.length ≤ 8 := by
  rw [chk_iff] at h
  rcases asc_len (b := -1) h.2 (fun x hx => by have := (mayS_iff.1 (h.1 x hx)).1; omega) with q | q
  · omega
  · rw [q]; exact Nat.zero_le _

/-! ### Eight places -/
abbrev Pl := Nat → Sn
def setP (p : Pl) (x : Sn) : Pl := fun i => if (i : Int) = x.c then normS x else p i
def plc (p : Pl) (l : List Sn) : Pl := l.foldl setP p
def plcd (l : List Sn) : Pl := plc (fun _ => Z0) l
def lstP (p : Pl) : Nat → List Sn
  | 0 => []
  | k + 1 => lstP p k ++ (if 0 < (p k).s then [p k] else [])
theorem lstP_len (p : Pl) : ∀ k, (lstP p k).length ≤ k
  | 0 => Nat.le_refl _
  | k + 1 => by
    unfold lstP
    have := lstP_len p k
    rw [List.length_append]
    split <;> simp <;> omega
structure WfP (p : Pl) : Prop where
  on : ∀ i, i < 8 → 0 < (p i).s → mayS (p i) = true ∧ (p i).c = i ∧ normS (p i) = p i
  off : ∀ i, i < 8 → ¬ 0 < (p i).s → p i = Z0
theorem WfP.zero : WfP fun _ => Z0 := ⟨fun i _ h => by simp [Z0] at h, fun _ _ _ => rfl⟩
theorem WfP.set {p : Pl} (h : WfP p) {x : Sn} (hx : mayS x = true) : WfP (setP p x) := by
  constructor
  · intro i hi hs
    unfold setP at hs ⊢
    by_cases q : (i : Int) = x.c
    · rw [if_pos q] at hs ⊢
      exact ⟨mayS_norm hx, q.symm, rfl⟩
    · rw [if_neg q] at hs ⊢
      exact h.on i hi hs
  · intro i hi hs
    unfold setP at hs ⊢
    by_cases q : (i : Int) = x.c
    · rw [if_pos q] at hs
      have := (mayS_iff.1 hx).2.1
      rw [normS_s] at hs
      omega
    · rw [if_neg q] at hs ⊢
      exact h.off i hi hs
theorem plc_cons (p : Pl) (x : Sn) (l : List Sn) : plc p (x :: l) = plc (setP p x) l := rfl
theorem plc_wf : ∀ {l : List Sn} {p : Pl}, WfP p → (∀ x ∈ l, mayS x = true) → WfP (plc p l)
  | [], p, h, _ => h
  | x :: l, p, h, hm => by rw [plc_cons]; exact plc_wf (h.set (hm x (by simp))) fun y hy => hm y (by simp [hy])
theorem plcd_wf {l : List Sn} (h : chk l = true) : WfP (plcd l) := plc_wf WfP.zero (chk_iff.1 h).1
theorem plc_at : ∀ {l : List Sn} {p : Pl} {i : Nat}, Asc l → plc p l i = match look l i with | some x => normS x | none => p i
  | [], p, i, _ => rfl
  | x :: l, p, i, h => by
    have h' := List.pairwise_cons.1 h
    rw [plc_cons, plc_at h'.2, look_cons]
    by_cases q : x.c = (i : Int)
    · rw [if_pos q, look_none fun z hz => by have := h'.1 z hz; omega]
      simp [setP, q]
    · rw [if_neg q]
      cases look l i with
      | some y => rfl
      | none => simp [setP, show ¬ (i : Int) = x.c from fun e => q e.symm]
theorem lstP_mem {p : Pl} {z : Sn} : ∀ {k : Nat}, z ∈ lstP p k → ∃ i, i < k ∧ z = p i ∧ 0 < (p i).s
  | 0, h => by simp [lstP] at h
  | k + 1, h => by
    unfold lstP at h
    rw [List.mem_append] at h
    rcases h with h | h
    · obtain ⟨i, hi, e⟩ := lstP_mem h
      exact ⟨i, by omega, e⟩
    · by_cases q : 0 < (p k).s
      · rw [if_pos q, List.mem_singleton] at h; exact ⟨k, by omega, h, q⟩
      · rw [if_neg q] at h; simp at h
theorem lstP_asc {p : Pl} (h : WfP p) : ∀ {k : Nat}, k ≤ 8 → Asc (lstP p k)
  | 0, _ => by simp [lstP, Asc]
  | k + 1, hk => by
    unfold lstP Asc
    rw [List.pairwise_append]
    refine ⟨lstP_asc h (by omega), by split <;> simp, fun a ha b hb => ?_⟩
    obtain ⟨i, hi, rfl, hs⟩ := lstP_mem ha
    by_cases q : 0 < (p k).s
    · rw [if_pos q, List.mem_singleton] at hb
      subst hb
      rw [(h.on i (by omega) hs).2.1, (h.on k (by omega) q).2.1]
      omega
    · rw [if_neg q] at hb; simp at hb
theorem lstP_look {p : Pl} (h : WfP p) (c : Int) : ∀ {k : Nat}, k ≤ 8 → look (lstP p k) c = if 0 ≤ c ∧ c < k ∧ 0 < (p c.toNat).s then some (p c.toNat) else none
  | 0, _ => by rw [if_neg (by omega)]; rfl
  | k + 1, hk => by
    unfold lstP
    rw [look_app, lstP_look h c (by omega)]
    by_cases q : 0 ≤ c ∧ c < k ∧ 0 < (p c.toNat).s
    · rw [if_pos q, if_pos (c := 0 ≤ c ∧ c < ((k + 1 : Nat) : Int) ∧ _) ⟨q.1, by omega, q.2.2⟩]; rfl
    · rw [if_neg q, Option.none_or]
      by_cases hs : 0 < (p k).s
      · rw [if_pos hs, look_cons, (h.on k (by omega) hs).2.1, look_nil]
        by_cases hc : (k : Int) = c
        · subst hc
          rw [if_pos rfl, if_pos ⟨by omega, by omega, by simpa using hs⟩]
          simp
        · rw [if_neg hc, if_neg (fun ⟨q1, q2, q3⟩ => q ⟨q1, by omega, q3⟩)]
      · rw [if_neg hs, look_nil]
        rw [if_neg]
        rintro ⟨q1, q2, q3⟩
        by_cases hc : (k : Int) = c
        · subst hc; exact hs (by simpa using q3)
        · exact q ⟨q1, by omega, q3⟩
theorem lstP_chk {p : Pl} (h : WfP p) : chk (lstP p 8) = true := chk_iff.2 ⟨fun z hz => by
  obtain ⟨i, hi, rfl, hs⟩ := lstP_mem hz
  exact (h.on i hi hs).1, lstP_asc h (Nat.le_refl _)⟩
theorem look_rng {l : List Sn} (h : chk l = true) {c : Int} {x : Sn} (hx : look l c = some x) : 0 ≤ c ∧ c ≤ 7 ∧ 1 ≤ x.s := by
  obtain ⟨h1, h2⟩ := look_some hx
  have := mayS_iff.1 ((chk_iff.1 h).1 x h1)
  omega
/-- The places of a list give the list. -/
theorem lst_plcd {l : List Sn} (h : chk l = true) : lstP (plcd l) 8 = l.map normS := by
  have ha := (chk_iff.1 h).2
  refine asc_ext (lstP_asc (plcd_wf h) (Nat.le_refl _)) (asc_map normS_c ha) fun c => ?_
  rw [lstP_look (plcd_wf h) c (Nat.le_refl _), look_map normS_c]
  cases hx : look l c with
  | none =>
    rw [if_neg]; rfl
    rintro ⟨q1, q2, q3⟩
    rw [plcd, plc_at ha, show ((c.toNat : Nat) : Int) = c by omega, hx] at q3
    simp [Z0] at q3
  | some x =>
    have hr := look_rng h hx
    have e : plcd l c.toNat = normS x := by rw [plcd, plc_at ha, show ((c.toNat : Nat) : Int) = c by omega, hx]
    rw [if_pos ⟨hr.1, by omega, by rw [e, normS_s]; omega⟩, e]; rfl
theorem plcd_at {l : List Sn} (h : chk l = true) (i : Nat) : plcd l i = match look l i with | some x => normS x | none => Z0 := plc_at (chk_iff.1 h).2
/-- Put: places and lists. -/
theorem lst_put {l : List Sn} (h : chk l = true) {x : Sn} (hx : mayS x = true) : lstP (setP (plcd l) x) 8 = (pt x false l).map normS := by
  have hw := (plcd_wf h).set hx
  have ha := (chk_iff.1 h).2
  have hc := (mayS_iff.1 hx).1
  have hs := (mayS_iff.1 hx).2.1
  refine asc_ext (lstP_asc hw (Nat.le_refl _)) (asc_map normS_c (pt_asc ha)) fun c => ?_
  rw [lstP_look hw c (Nat.le_refl _), look_map normS_c, pt_look]
  by_cases q : c = x.c
  · subst q
    rw [if_pos rfl]
    have e : setP (plcd l) x x.c.toNat = normS x := by unfold setP; rw [if_pos (by omega)]
    rw [if_pos ⟨hc.1, by omega, by rw [e, normS_s]; omega⟩, e]; rfl
  · rw [if_neg q, ← look_map normS_c, ← lst_plcd h, lstP_look (plcd_wf h) c (Nat.le_refl _)]
    by_cases q0 : 0 ≤ c
    · have e : setP (plcd l) x c.toNat = plcd l c.toNat := by unfold setP; rw [if_neg (by omega)]
      rw [e]
    · rw [if_neg (fun k => q0 k.1), if_neg (fun k => q0 k.1)]
/-- Join, at places: after k rounds. -/
def jp (p q : Pl) : Nat → Pl
  | 0 => p
  | k + 1 => if (jp p q k (q k).c.toNat).s < (q k).s then setP (jp p q k) (q k) else jp p q k
theorem jp_at {p q : Pl} (hp : WfP p) (hq : WfP q) : ∀ {k : Nat}, k ≤ 8 → ∀ i, i < 8 → jp p q k i = if i < k ∧ (p i).s < (q i).s then q i else p i
  | 0, _, i, _ => by rw [if_neg (by omega)]; rfl
  | k + 1, hk, i, hi => by
    have ih := jp_at hp hq (k := k) (by omega)
    unfold jp
    by_cases hs : 0 < (q k).s
    · obtain ⟨m1, m2, m3⟩ := hq.on k (by omega) hs
      rw [m2, show ((k : Int)).toNat = k by omega, ih k (by omega), if_neg (c := k < k ∧ _) (by omega)]
      by_cases hl : (p k).s < (q k).s
      · rw [if_pos hl]
        unfold setP
        by_cases e : i = k
        · subst e; rw [m2, if_pos rfl, if_pos ⟨by omega, hl⟩, m3]
        · rw [m2, if_neg (by omega), ih i hi]
          by_cases z : i < k ∧ (p i).s < (q i).s
          · rw [if_pos z, if_pos ⟨by omega, z.2⟩]
          · rw [if_neg z, if_neg (fun y => z ⟨by omega, y.2⟩)]
      · rw [if_neg hl, ih i hi]
        by_cases z : i < k ∧ (p i).s < (q i).s
        · rw [if_pos z, if_pos ⟨by omega, z.2⟩]
        · rw [if_neg z, if_neg]
          rintro ⟨y1, y2⟩
          by_cases e : i = k
          · subst e; exact hl y2
          · exact z ⟨by omega, y2⟩
    · have hz := hq.off k (by omega) hs
      have hps : ∀ i, i < 8 → 0 ≤ (p i).s := fun i hi => by
        by_cases z : 0 < (p i).s
        · omega
        · rw [hp.off i hi z]; decide
      have hz0 : 0 ≤ (jp p q k 0).s := by
        rw [ih 0 (by omega)]
        split
        · have := hps 0 (by omega); omega
        · exact hps 0 (by omega)
      have hps := hps k (by omega)
      rw [hz]
      rw [if_neg (by simp only [Z0]; show ¬ (jp p q k 0).s < 0; omega), ih i hi]
      by_cases z : i < k ∧ (p i).s < (q i).s
      · rw [if_pos z, if_pos ⟨by omega, z.2⟩]
      · rw [if_neg z, if_neg]
        rintro ⟨y1, y2⟩
        by_cases e : i = k
        · subst e; omega
        · exact z ⟨by omega, y2⟩
theorem jp_wf {p q : Pl} (hp : WfP p) (hq : WfP q) : WfP (jp p q 8) := by
  constructor
  · intro i hi hs
    rw [jp_at hp hq (Nat.le_refl _) i hi] at hs ⊢
    split at hs
    · rename_i z; rw [if_pos z]; exact hq.on i hi hs
    · rename_i z; rw [if_neg z]; exact hp.on i hi hs
  · intro i hi hs
    rw [jp_at hp hq (Nat.le_refl _) i hi] at hs ⊢
    split at hs
    · rename_i z; rw [if_pos z]; exact hq.off i hi hs
    · rename_i z; rw [if_neg z]; exact hp.off i hi hs
theorem jp_any {p q : Pl} (hp : WfP p) (hq : WfP q) {k : Nat} (hk : k ≤ 8) : WfP (jp p q k) := by
  constructor
  · intro i hi hs
    rw [jp_at hp hq hk i hi] at hs ⊢
    split at hs
    · rename_i z; rw [if_pos z]; exact hq.on i hi hs
    · rename_i z; rw [if_neg z]; exact hp.on i hi hs
  · intro i hi hs
    rw [jp_at hp hq hk i hi] at hs ⊢
    split at hs
    · rename_i z; rw [if_pos z]; exact hq.off i hi hs
    · rename_i z; rw [if_neg z]; exact hp.off i hi hs
/-- Join, by the document. -/
def rj (a : List Sn) : List Sn → List Sn → List Sn
  | out, [] => out
  | out, y :: b => rj a (if newer (look a y.c) y.s = true then pt y false out else out) b
def jnL (a b : List Sn) : List Sn := rj a a b
def pick (x y : Option Sn) : Option Sn := match y with | none => x | some z => if newer x z.s = true then some z else x
theorem rj_look (a : List Sn) (c : Int) : ∀ {b out : List Sn}, Asc b → look (rj a out b) c = match look b c with | none => look out c | some z => if newer (look a c) z.s = true then some z else look out c
  | [], out, _ => rfl
  | y :: b, out, h => by
    have h' := List.pairwise_cons.1 h
    unfold rj
    rw [rj_look a c h'.2, look_cons]
    by_cases q : y.c = c
    · subst q
      rw [if_pos rfl, look_none fun z hz => by have := h'.1 z hz; omega]
      by_cases k : newer (look a y.c) y.s = true
      · simp only [if_pos k, pt_look, if_true]
      · simp only [if_neg k]
    · rw [if_neg q]
      have e : look (if newer (look a y.c) y.s = true then pt y false out else out) c = look out c := by
        split
        · rw [pt_look, if_neg (fun e => q e.symm)]
        · rfl
      cases look b c <;> simp only [e]
theorem rj_asc (a : List Sn) : ∀ {b out : List Sn}, Asc out → Asc (rj a out b)
  | [], out, h => h
  | y :: b, out, h => by
    unfold rj
    refine rj_asc a ?_
    split
    · exact pt_asc h
    · exact h
theorem rj_chk (a : List Sn) : ∀ {b out : List Sn}, chk out = true → (∀ x ∈ b, mayS x = true) → chk (rj a out b) = true
  | [], out, h, _ => h
  | y :: b, out, h, hb => by
    unfold rj
    refine rj_chk a ?_ fun x hx => hb x (by simp [hx])
    split
    · exact pt_chk h (hb y (by simp))
    · exact h
theorem jn_look {a b : List Sn} (hb : Asc b) (c : Int) : look (jnL a b) c = pick (look a c) (look b c) := by
  unfold jnL pick
  rw [rj_look a c hb]
theorem jn_chk {a b : List Sn} (ha : chk a = true) (hb : chk b = true) : chk (jnL a b) = true := rj_chk a ha (chk_iff.1 hb).1
/-- Join: places and lists. -/
theorem lst_join {a b : List Sn} (ha : chk a = true) (hb : chk b = true) : lstP (jp (plcd a) (plcd b) 8) 8 = (jnL a b).map normS := by
  have hpa := plcd_wf ha
  have hpb := plcd_wf hb
  have hw := jp_wf hpa hpb
  have hj := (chk_iff.1 (jn_chk ha hb)).2
  have hb2 := (chk_iff.1 hb).2
  refine asc_ext (lstP_asc hw (Nat.le_refl _)) (asc_map normS_c hj) fun c => ?_
  rw [lstP_look hw c (Nat.le_refl _), look_map normS_c, jn_look hb2]
  by_cases q : 0 ≤ c ∧ c < 8
  · have e := jp_at hpa hpb (Nat.le_refl 8) c.toNat (by omega)
    have ea := plcd_at ha c.toNat
    have eb := plcd_at hb c.toNat
    rw [show ((c.toNat : Nat) : Int) = c by omega] at ea eb
    rw [e, ea, eb]
    cases hx : look a c with
    | none =>
      cases hy : look b c with
      | none => simp [pick, Z0]
      | some y =>
        have := look_rng hb hy
        simp only [pick, newer, if_true]
        rw [if_pos (c := c.toNat < 8 ∧ _) ⟨by omega, by simp only [Z0, normS_s]; omega⟩]
        rw [if_pos ⟨q.1, by omega, by rw [normS_s]; omega⟩]; rfl
    | some x =>
      have hx1 := look_rng ha hx
      cases hy : look b c with
      | none =>
        simp only [pick]
        rw [if_neg (c := c.toNat < 8 ∧ _) (fun k => by have := k.2; simp only [Z0, normS_s] at this; omega)]
        rw [if_pos ⟨q.1, by omega, by rw [normS_s]; omega⟩]; rfl
      | some y =>
        have hy1 := look_rng hb hy
        simp only [pick, newer, decide_eq_true_eq]
        by_cases z : x.s < y.s
        · rw [if_pos (c := c.toNat < 8 ∧ _) ⟨by omega, by simp only [normS_s]; exact z⟩, if_pos z]
          rw [if_pos ⟨q.1, by omega, by rw [normS_s]; omega⟩]; rfl
        · rw [if_neg (c := c.toNat < 8 ∧ _) (fun k => z (by have := k.2; simpa only [normS_s] using this)), if_neg z]
          rw [if_pos ⟨q.1, by omega, by rw [normS_s]; omega⟩]; rfl
  · rw [if_neg (fun k => q ⟨k.1, k.2.1⟩)]
    have n1 : look a c = none := by cases h : look a c with | none => rfl | some x => have := look_rng ha h; omega
    have n2 : look b c = none := by cases h : look b c with | none => rfl | some x => have := look_rng hb h; omega
    rw [n1, n2]; rfl
end Go.Proofs.Ytemaonfgledcmaa
