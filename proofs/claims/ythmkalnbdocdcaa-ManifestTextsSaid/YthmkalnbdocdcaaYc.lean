/-
  Layer 12 (manifest), plain: an edit as bytes, and the edit that bytes say. Conditions: as each says.
-/
import Derived.Test.YthmkalnbdocdcaaYb
import Derived.Test.YthmkalnbdocdcaaVq
namespace Go.Proofs.Ythmkalnbdocdcaa
set_option linter.unusedVariables false
set_option linter.unusedSimpArgs false

def tabB (t : Tb) : List UInt8 := vL t.1.toNat ++ vL t.2.1.toNat ++ txL t.2.2.1.data.toList ++ txL t.2.2.2.data.toList
def tabsB (ts : List Tb) : List UInt8 := ts.flatMap tabB
def intsB (zs : List Int) : List UInt8 := zs.flatMap fun z => vL z.toNat
def edB (e : Ed) : List UInt8 := vL e.1.length ++ tabsB e.1 ++ vL e.2.1.length ++ intsB e.2.1 ++ vL e.2.2.1.toNat ++ vL e.2.2.2.toNat
theorem tabsB_snoc (ts : List Tb) (t : Tb) : tabsB (ts ++ [t]) = tabsB ts ++ tabB t := by simp [tabsB]
theorem intsB_snoc (zs : List Int) (z : Int) : intsB (zs ++ [z]) = intsB zs ++ vL z.toNat := by simp [intsB]
theorem tabB_len {t : Tb} (h : mayT t = true) : (tabB t).length ≤ 600000 := by
  obtain ⟨h1, h2, h3, h4, -⟩ := mayT_iff.1 h
  have a1 := vL_len9 (n := t.1.toNat) (by omega)
  have a2 := vL_len9 (n := t.2.1.toNat) (by omega)
  have a3 := txL_size t.2.2.1.data.toList (by rw [size_list]; have := (keyB_iff.1 h3).2; omega)
  have a4 := txL_size t.2.2.2.data.toList (by rw [size_list]; have := (keyB_iff.1 h4).2; omega)
  unfold tabB
  simp only [List.length_append]
  omega
theorem tabsB_len : ∀ {ts : List Tb}, (∀ t ∈ ts, mayT t = true) → (tabsB ts).length ≤ 600000 * ts.length
  | [], _ => by simp [tabsB]
  | t :: ts, h => by
    have a := tabB_len (h t (by simp))
    have b := tabsB_len (ts := ts) (fun x hx => h x (by simp [hx]))
    have e : tabsB (t :: ts) = tabB t ++ tabsB ts := rfl
    rw [e, List.length_append, List.length_cons]
    omega
theorem intsB_len : ∀ {zs : List Int}, (∀ x ∈ zs, 1 ≤ x ∧ x ≤ 1073741824) → (intsB zs).length ≤ 9 * zs.length
  | [], _ => by simp [intsB]
  | z :: zs, h => by
    have a := vL_len9 (n := z.toNat) (by have := h z (by simp); omega)
    have b := intsB_len (zs := zs) (fun x hx => h x (by simp [hx]))
    have e : intsB (z :: zs) = vL z.toNat ++ intsB zs := rfl
    rw [e, List.length_append, List.length_cons]
    omega
/-- The number that bytes begin with, and what is left. -/
def rdN (l : List UInt8) : Option (Nat × List UInt8) := if (tk l 0 0).2.2 = 0 then some ((tk l 0 0).1, l.drop (tk l 0 0).2.1) else none
def rdS (l : List UInt8) : Option (List UInt8 × List UInt8) := if (ttR l).2.2 = 0 then some ((ttR l).1, l.drop (ttR l).2.1) else none
def rdT (l : List UInt8) : Option (Tb × List UInt8) :=
  (rdN l).bind fun p => (rdN p.2).bind fun q => (rdS q.2).bind fun r => (rdS r.2).bind fun s => some ((((p.1 : Nat) : Int), ((q.1 : Nat) : Int), ⟨r.1.toArray⟩, ⟨s.1.toArray⟩), s.2)
def rdTs : Nat → List UInt8 → Option (List Tb × List UInt8)
  | 0, l => some ([], l)
  | n + 1, l => (rdT l).bind fun p => (rdTs n p.2).bind fun q => some (p.1 :: q.1, q.2)
def rdZs : Nat → List UInt8 → Option (List Int × List UInt8)
  | 0, l => some ([], l)
  | n + 1, l => (rdN l).bind fun p => (rdZs n p.2).bind fun q => some (((p.1 : Nat) : Int) :: q.1, q.2)
def rdE (l : List UInt8) : Option Ed :=
  (rdN l).bind fun n => if n.1 ≤ 128 then (rdTs n.1 n.2).bind fun ts => (rdN ts.2).bind fun m => if m.1 ≤ 128 then (rdZs m.1 m.2).bind fun zs => (rdN zs.2).bind fun a => (rdN a.2).bind fun b => if b.2 = [] then some (ts.1, zs.1, ((a.1 : Nat) : Int), ((b.1 : Nat) : Int)) else none else none else none
/-- The edit that a text says. -/
def takE (l : List UInt8) : Option Ed := (rdE l).bind fun e => if mayEd e = true then some e else none
theorem rdN_put (n : Nat) (hn : n ≤ 4611686018427387904) (t : List UInt8) : rdN (vL n ++ t) = some (n, t) := by
  have h := tk_put t n 0 0 (by omega) (fun _ => rfl) (by have := vL_len9 hn; omega)
  unfold rdN
  rw [h]
  simp
theorem rdS_put (l : List UInt8) (hl : l.length ≤ 262144) (t : List UInt8) : rdS (txL l ++ t) = some (l, t) := by
  unfold rdS
  rw [ttR_back l t hl]
  simp
theorem rdT_put {t : Tb} (h : mayT t = true) (u : List UInt8) : rdT (tabB t ++ u) = some (t, u) := by
  obtain ⟨h1, h2, h3, h4, -⟩ := mayT_iff.1 h
  obtain ⟨i, l, lo, hi⟩ := t
  unfold rdT tabB
  simp only [List.append_assoc] at *
  rw [rdN_put _ (by omega)]
  simp only [Option.bind_some]
  rw [rdN_put _ (by omega)]
  simp only [Option.bind_some]
  rw [rdS_put _ (by rw [size_list]; have := (keyB_iff.1 h3).2; omega)]
  simp only [Option.bind_some]
  rw [rdS_put _ (by rw [size_list]; have := (keyB_iff.1 h4).2; omega)]
  simp only [Option.bind_some]
  have e1 : ((i.toNat : Nat) : Int) = i := by omega
  have e2 : ((l.toNat : Nat) : Int) = l := by omega
  rw [e1, e2]
theorem rdTs_put : ∀ {ts : List Tb} (_ : ∀ t ∈ ts, mayT t = true) (u : List UInt8), rdTs ts.length (tabsB ts ++ u) = some (ts, u)
  | [], _, u => rfl
  | t :: ts, h, u => by
    have e : tabsB (t :: ts) = tabB t ++ tabsB ts := rfl
    rw [e, List.append_assoc, List.length_cons, rdTs, rdT_put (h t (by simp))]
    simp only [Option.bind_some]
    rw [rdTs_put (fun x hx => h x (by simp [hx]))]
    rfl
theorem rdZs_put : ∀ {zs : List Int} (_ : ∀ x ∈ zs, 1 ≤ x ∧ x ≤ 1073741824) (u : List UInt8), rdZs zs.length (intsB zs ++ u) = some (zs, u)
  | [], _, u => rfl
  | z :: zs, h, u => by
    have e : intsB (z :: zs) = vL z.toNat ++ intsB zs := rfl
    have hz := h z (by simp)
    rw [e, List.append_assoc, List.length_cons, rdZs, rdN_put _ (by omega)]
    simp only [Option.bind_some]
    rw [rdZs_put (fun x hx => h x (by simp [hx]))]
    have e1 : ((z.toNat : Nat) : Int) = z := by omega
    rw [e1]
    rfl
/-- There and back. -/
theorem takE_put {e : Ed} (h : mayEd e = true) : takE (edB e) = some e := by
  obtain ⟨h1, h2, h3, h4, h5, h6⟩ := mayEd_iff.1 h
  obtain ⟨ts, zs, lg, nx⟩ := e
  have hr : rdE (edB (ts, zs, lg, nx)) = some (ts, zs, lg, nx) := by
    unfold rdE edB
    simp only [List.append_assoc] at *
    rw [rdN_put _ (by omega)]
    simp only [Option.bind_some]
    rw [if_pos h1, rdTs_put h3]
    simp only [Option.bind_some]
    rw [rdN_put _ (by omega)]
    simp only [Option.bind_some]
    rw [if_pos h2, rdZs_put h4]
    simp only [Option.bind_some]
    rw [rdN_put _ (by omega)]
    simp only [Option.bind_some]
    have h7 := rdN_put nx.toNat (by omega) []
    rw [List.append_nil] at h7
    rw [h7]
    simp only [Option.bind_some]
    rw [if_pos trivial]
    have e1 : ((lg.toNat : Nat) : Int) = lg := by omega
    have e2 : ((nx.toNat : Nat) : Int) = nx := by omega
    rw [e1, e2]
  unfold takE
  rw [hr, Option.bind_some, if_pos h]
theorem rdN_some {l r : List UInt8} {n : Nat} (h : rdN l = some (n, r)) : n ≤ 4611686018427387904 ∧ r.length ≤ l.length := by
  unfold rdN at h
  rcases tk_cases l with h1 | ⟨m, k, h1, h2, h3, h4⟩
  · rw [if_neg (by omega)] at h; cases h
  · rw [h1] at h
    simp at h
    obtain ⟨rfl, rfl⟩ := h
    exact ⟨h4, by rw [List.length_drop]; omega⟩
/-- A text that is an edit's is that one's alone. -/
theorem takE_may {l : List UInt8} {e : Ed} (h : takE l = some e) : mayEd e = true := by
  unfold takE at h
  cases hr : rdE l with
  | none => rw [hr] at h; cases h
  | some x =>
    rw [hr, Option.bind_some] at h
    split at h
    · cases h; assumption
    · cases h
end Go.Proofs.Ythmkalnbdocdcaa
