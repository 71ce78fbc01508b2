/-
  Texts of mine as one, in the order in which they build: Lq, Lw, Lv. Conditions: as each says.
-/
import Derived.Test.YtkfmjkcomjmedaaGreatLa
import Derived.Test.YtkfmjkcomjmedaaGreatLb
import Derived.Test.YtkfmjkcomjmedaaGreatSl
import Derived.Test.YtkfmjkcomjmedaaGreatQ8
namespace Go.Proofs.YtkfmjkcomjmedaaGreat
open Go.RowKit Go.Lib
set_option linter.unusedVariables false
set_option linter.unusedSimpArgs false

def fl (ts : List (List UInt8)) (k : Nat) : Fl := ⟨frs ts, (frs (ts.take k)).length⟩
structure PG (m : Nat) (F : List (List UInt8 × Fl)) (N : Nf) (n : Nat) (ts : List (List UInt8)) (k : Nat) : Prop where
  files : F = lf (N ++ [(n, fl ts k)])
  rise : Rise (N ++ [(n, fl ts k)])
  full : ∀ p ∈ N, p.2.sure = p.2.bytes.length
  kle : k ≤ ts.length
  short : ∀ t ∈ ts, t.length ≤ 200
  nl : N.length ≤ m
  nn : n ≤ m + 300
  tl : ts.length ≤ m
def lg (N : Nf) (n : Nat) (ts : List (List UInt8)) : Lt := N.map txt ++ [(n, ts)]
theorem lg_flat (N : Nf) (n : Nat) (ts : List (List UInt8)) : flat (lg N n ts) = flat (N.map txt) ++ ts := by unfold lg; rw [flat_append, flat_one]
section
variable {m n k : Nat} {F : List (List UInt8 × Fl)} {N : Nf} {ts : List (List UInt8)} {t : List UInt8} {fu : Int} {off : Bool}
theorem beg_on (h1 : off = false) (h2 : fu ≠ 0) : begE true fu off = 0 ∧ begO true fu off = false := by
  subst h1
  constructor
  · unfold begE; rw [if_pos rfl, if_neg (by decide), if_neg h2]
  · unfold begO; rw [if_neg (by intro h; exact h2 h.2)]
theorem beg_off (h : ¬ (off = false ∧ fu ≠ 0)) : begE true fu off = 50 ∧ begO true fu off = true := by
  cases off with
  | true =>
    constructor
    · unfold begE; rw [if_pos rfl, if_pos rfl]
    · unfold begO; split <;> rfl
  | false =>
    have h0 : fu = 0 := by
      rcases Decidable.em (fu = 0) with c | c
      · exact c
      · exact absurd ⟨rfl, c⟩ h
    subst h0
    exact ⟨rfl, rfl⟩
theorem PG.get (h : PG m F N n ts k) : getL (lname n) F = some (fl ts k) := by rw [h.files]; exact lf_get h.rise (by simp)
theorem PG.num (h : PG m F N n ts k) : n ≤ 99999998 := h.rise.2 (n, fl ts k) (by simp)
theorem PG.frs_le (h : PG m F N n ts k) : (frs ts).length ≤ 213 * m := by
  have h1 := Go.Proofs.YtkfmjkcomjmedaaGreat.frs_le ts 200 (by omega) h.short
  have h2 := Nat.mul_le_mul_left 213 h.tl
  omega
theorem pg_re (h : PG m F N n ts k) {ts' : List (List UInt8)} {k' m' : Nat} (hk : k' ≤ ts'.length) (hs : ∀ t ∈ ts', t.length ≤ 200) (hl : ts'.length ≤ m') (hm : m ≤ m') : PG m' (lf (N ++ [(n, fl ts' k')])) N n ts' k' :=
  ⟨rfl, h.rise.re _, h.full, hk, hs, by have := h.nl; omega, by have := h.nn; omega, hl⟩
theorem take_snoc_le {α : Type} (l : List α) (x : α) {k : Nat} (h : k ≤ l.length) : (l ++ [x]).take k = l.take k := by rw [List.take_append_of_le_length h]
theorem pg_add (h : PG m F N n ts k) (hm : m ≤ 200) (ht : t.length ≤ 200) :
    (off = false ∧ fu ≠ 0 ∧ ∃ F', (⟨F, fu, off⟩ : Ds).add n t = (⟨F', begF true fu off, false⟩, 0) ∧ PG (m + 1) F' N n (ts ++ [t]) k) ∨
    (¬ (off = false ∧ fu ≠ 0) ∧ ∃ fu', (⟨F, fu, off⟩ : Ds).add n t = (⟨F, fu', true⟩, 50)) := by
  have hfl := frL_le t (by omega)
  have hfr := h.frs_le
  by_cases hc : off = false ∧ fu ≠ 0
  · left
    obtain ⟨e1, e2⟩ := beg_on hc.1 hc.2
    refine ⟨hc.1, hc.2, lf (N ++ [(n, fl (ts ++ [t]) k)]), ?_, pg_re h (by rw [List.length_append]; have := h.kle; omega) ?_ (by rw [List.length_append]; have := h.tl; simp; omega) (by omega)⟩
    · unfold Ds.add Ds.append
      have e3 : (⟨F, fu, off⟩ : Ds).chgE (namL (lname n)) (lname n) = 0 := by
        unfold Ds.chgE
        rw [lname_ok]
        simp only
        rw [e1, if_pos rfl, h.get]
        rfl
      rw [if_pos e3]
      simp only
      rw [h.get]
      simp only
      rw [if_neg (by show ¬ 4194304 < (frs ts).length + (frL t).length; omega), h.files, lf_set _ h.rise, lname_ok]
      unfold Ds.begin
      simp only
      rw [e2]
      have e4 : (⟨(fl ts k).bytes ++ frL t, (fl ts k).sure⟩ : Fl) = fl (ts ++ [t]) k := by unfold fl; rw [frs_snoc, take_snoc_le _ _ h.kle]
      rw [e4]
    · intro x hx
      rcases List.mem_append.1 hx with hx | hx
      · exact h.short x hx
      · simp at hx; subst hx; exact ht
  · right
    obtain ⟨e1, e2⟩ := beg_off hc
    refine ⟨hc, begF true fu off, ?_⟩
    unfold Ds.add Ds.append
    have e3 : (⟨F, fu, off⟩ : Ds).chgE (namL (lname n)) (lname n) = 50 := by
      unfold Ds.chgE
      rw [lname_ok]
      simp only
      rw [e1, if_neg (by decide)]
    rw [e3, if_neg (by decide), lname_ok]
    unfold Ds.begin
    simp only
    rw [e2]
theorem pg_sync (h : PG m F N n ts k) :
    (off = false ∧ fu ≠ 0 ∧ ∃ F', (⟨F, fu, off⟩ : Ds).sync (lname n) = (⟨F', begF true fu off, false⟩, 0) ∧ PG m F' N n ts ts.length) ∨
    (¬ (off = false ∧ fu ≠ 0) ∧ ∃ fu', (⟨F, fu, off⟩ : Ds).sync (lname n) = (⟨F, fu', true⟩, 50)) := by
  by_cases hc : off = false ∧ fu ≠ 0
  · left
    obtain ⟨e1, e2⟩ := beg_on hc.1 hc.2
    refine ⟨hc.1, hc.2, lf (N ++ [(n, fl ts ts.length)]), ?_, pg_re h (Nat.le_refl _) h.short h.tl (Nat.le_refl _)⟩
    unfold Ds.sync
    have e3 : (⟨F, fu, off⟩ : Ds).chgE (namL (lname n)) (lname n) = 0 := by
      unfold Ds.chgE
      rw [lname_ok]
      simp only
      rw [e1, if_pos rfl, h.get]
      rfl
    rw [if_pos e3]
    simp only
    rw [h.get]
    simp only
    rw [h.files, lf_set _ h.rise, lname_ok]
    unfold Ds.begin
    simp only
    rw [e2]
    have e4 : (⟨(fl ts k).bytes, (fl ts k).bytes.length⟩ : Fl) = fl ts ts.length := by unfold fl; rw [List.take_length]
    rw [e4]
  · right
    obtain ⟨e1, e2⟩ := beg_off hc
    refine ⟨hc, begF true fu off, ?_⟩
    unfold Ds.sync
    have e3 : (⟨F, fu, off⟩ : Ds).chgE (namL (lname n)) (lname n) = 50 := by
      unfold Ds.chgE
      rw [lname_ok]
      simp only
      rw [e1, if_neg (by decide)]
    rw [e3, if_neg (by decide), lname_ok]
    unfold Ds.begin
    simp only
    rw [e2]
theorem make_lf {M : Nf} {x : Nat} (h : Rise M) (hx : x ≤ 99999998) (hl : ∀ p ∈ M, p.1 < x) (hM : M.length ≤ 255) :
    (off = false ∧ fu ≠ 0 ∧ (⟨lf M, fu, off⟩ : Ds).make (lname x) = (⟨lf (M ++ [(x, ⟨[], 0⟩)]), begF true fu off, false⟩, 0)) ∨
    (¬ (off = false ∧ fu ≠ 0) ∧ ∃ fu', (⟨lf M, fu, off⟩ : Ds).make (lname x) = (⟨lf M, fu', true⟩, 50)) := by
  have hnone := lf_none h hx fun p hp => by have := hl p hp; omega
  by_cases hc : off = false ∧ fu ≠ 0
  · left
    obtain ⟨e1, e2⟩ := beg_on hc.1 hc.2
    refine ⟨hc.1, hc.2, ?_⟩
    unfold Ds.make
    rw [lname_ok]
    simp only
    rw [e1, if_pos rfl, hnone]
    simp only
    rw [if_neg (by rw [lf_length]; omega), lf_put h _ hx hl]
    unfold Ds.begin
    simp only
    rw [e2]
  · right
    obtain ⟨e1, e2⟩ := beg_off hc
    refine ⟨hc, begF true fu off, ?_⟩
    unfold Ds.make
    rw [lname_ok]
    simp only
    rw [e1, if_neg (by decide)]
    unfold Ds.begin
    simp only
    rw [e2]
theorem fl_nil : fl [] 0 = ⟨[], 0⟩ := rfl
theorem pg_next (h : PG m F N n ts ts.length) (hm : m ≤ 200) : PG (m + 1) (lf (N ++ [(n, fl ts ts.length)] ++ [(n + 1, ⟨[], 0⟩)])) (N ++ [(n, fl ts ts.length)]) (n + 1) [] 0 ∧ txt (n, fl ts ts.length) = (n, ts) := by
  have hn := h.nn
  constructor
  · refine ⟨rfl, h.rise.snoc _ (fun p hp => ?_) ?_, fun p hp => ?_, Nat.le_refl _, by simp, by rw [List.length_append]; have := h.nl; simp; omega, by omega, by simp⟩
    · rcases List.mem_append.1 hp with hp | hp
      · have := h.rise.lt p hp; omega
      · simp at hp; subst hp; simp
    · omega
    · rcases List.mem_append.1 hp with hp | hp
      · exact h.full p hp
      · simp at hp; subst hp; unfold fl; rw [List.take_length]
  · unfold txt fl
    simp only
    have := fa_frs ts [] (fun x hx => by have := h.short x hx; omega)
    rw [List.append_nil] at this
    rw [this, fa_no (by decide +kernel)]
    simp
theorem pg_roll (h : PG m F N n ts k) (hm : m ≤ 200) :
    (off = false ∧ fu ≠ 0 ∧ ∃ F' fu', (⟨F, fu, off⟩ : Ds).roll n = (⟨F', fu', false⟩, 0) ∧ PG (m + 1) F' (N ++ [(n, fl ts ts.length)]) (n + 1) [] 0 ∧ (fu = -1 → fu' = -1)) ∨
    (fu ≠ -1 ∨ off = true) ∧ ∃ F' fu' k', (⟨F, fu, off⟩ : Ds).roll n = (⟨F', fu', true⟩, 50) ∧ PG m F' N n ts k' ∧ k ≤ k' := by
  have hn := h.nn
  unfold Ds.roll
  cases off with
  | true =>
    right
    have e : mayE ⟨F, fu, true⟩ (n + 1) = 50 := by unfold mayE; rw [if_pos rfl]
    rw [e, if_neg (by decide)]
    exact ⟨.inr rfl, F, fu, k, rfl, h, Nat.le_refl _⟩
  | false =>
    have e : mayE ⟨F, fu, false⟩ (n + 1) = 0 := by unfold mayE; rw [if_neg (show ¬ (false = true) by decide), if_neg (by omega)]
    rw [e, if_pos rfl]
    rcases pg_sync (fu := fu) (off := false) h with ⟨_, h2, F', e2, hp⟩ | ⟨hc, fu', e2⟩
    · rw [e2, if_pos rfl]
      simp only
      obtain ⟨hq, _⟩ := pg_next hp hm
      have hlt : ∀ p ∈ N ++ [(n, fl ts ts.length)], p.1 < n + 1 := fun p hp' => by
        rcases List.mem_append.1 hp' with hp' | hp'
        · have := h.rise.lt p hp'; omega
        · simp at hp'; subst hp'; simp
      rw [hp.files]
      rcases make_lf (fu := begF true fu false) (off := false) hp.rise (x := n + 1) (by omega) hlt (by rw [List.length_append]; have := h.nl; simp; omega) with ⟨_, h3, e3⟩ | ⟨hc, fu', e3⟩
      · left
        rw [e3]
        exact ⟨by trivial, h2, _, _, rfl, hq, fun hf => by rw [hf, calm_F, calm_F]⟩
      · right
        rw [e3]
        refine ⟨.inl fun hf => hc ⟨rfl, by rw [hf, calm_F]; decide⟩, _, _, ts.length, rfl, ?_, h.kle⟩
        have := hp.files
        rw [← this]
        exact hp
    · right
      rw [e2, if_neg (show ¬ (50 : Int) = 0 by decide)]
      refine ⟨.inl fun hf => hc ⟨rfl, by rw [hf]; decide⟩, F, fu', k, rfl, h, Nat.le_refl _⟩
/-- How many whole frames a cut leaves. -/
theorem whole_of (ts : List (List UInt8)) (mm : Nat) : ∀ (d k : Nat), d + k = ts.length → (frs (ts.take k)).length ≤ mm → ∃ w, k ≤ w ∧ w ≤ ts.length ∧ (frs (ts.take w)).length ≤ mm ∧ (w < ts.length → mm < (frs (ts.take (w + 1))).length)
  | 0, k, hd, h => ⟨k, Nat.le_refl _, by omega, h, fun c => by omega⟩
  | d + 1, k, hd, h => by
    by_cases c : (frs (ts.take (k + 1))).length ≤ mm
    · obtain ⟨w, h1, h2, h3, h4⟩ := whole_of ts mm d (k + 1) (by omega) c
      exact ⟨w, by omega, h2, h3, h4⟩
    · exact ⟨k, Nat.le_refl _, by omega, h, fun _ => by omega⟩
theorem cut_full {f : Fl} (h : f.sure = f.bytes.length) (c : Int) : cutF c f = f := by
  have e : keepN c f = f.bytes.length := by
    have h1 := keepN_le c f (by omega)
    have h2 := keepN_ge c f
    omega
  unfold cutF
  rw [e, List.take_length]
  cases f
  simp_all
theorem frs_take_le (ts : List (List UInt8)) (k : Nat) : (frs (ts.take k)).length ≤ (frs ts).length := by
  have e : frs ts = frs (ts.take k) ++ frs (ts.drop k) := by rw [← frs_append, List.take_append_drop]
  rw [e, List.length_append]
  omega
/-- Behind a crash: all files whole, the texts a beginning with all that is sure. -/
theorem pg_crash (h : PG m F N n ts k) (ks : List Int) : ∃ g j, (⟨F, fu, off⟩ : Ds).crash ks = calm (lf (N ++ [(n, g)])) ∧ g.sure = g.bytes.length ∧ (fa g.bytes).1 = ts.take j ∧ k ≤ j ∧ j ≤ ts.length := by
  obtain ⟨c, hc⟩ : ∃ c, c = keepAt ks N.length := ⟨_, rfl⟩
  have hle := frs_take_le ts k
  have h1 := keepN_le c (fl ts k) hle
  have h2 := keepN_ge c (fl ts k)
  obtain ⟨w, hw1, hw2, hw3, hw4⟩ := whole_of ts (keepN c (fl ts k)) (ts.length - k) k (by have := h.kle; omega) h2
  refine ⟨cutF c (fl ts k), w, ?_, ?_, ?_, hw1, hw2⟩
  · unfold Ds.crash calm
    simp only
    rw [h.files, lf_append, lf_append]
    have e1 : ((lf N ++ lf [(n, fl ts k)]).mapIdx fun j p => (p.1, cutF (keepAt ks j) p.2)) = lf N ++ lf [(n, cutF c (fl ts k))] := by
      rw [List.mapIdx_append]
      congr 1
      · refine List.ext_getElem (by simp) fun i hi1 hi2 => ?_
        rw [List.getElem_mapIdx]
        have hm : (lf N)[i] ∈ lf N := List.getElem_mem hi2
        obtain ⟨q, hq, e⟩ := List.mem_map.1 hm
        rw [← e]
        simp only
        rw [cut_full (h.full q hq)]
      · simp [lf, hc]
    rw [e1]
  · show keepN c (fl ts k) = ((frs ts).take (keepN c (fl ts k))).length
    rw [List.length_take]
    have : keepN c (fl ts k) ≤ (frs ts).length := h1
    omega
  · show (fa ((frs ts).take (keepN c (fl ts k)))).1 = _
    rw [fa_cut ts _ w (fun x hx => by have := h.short x hx; omega) hw2 hw3 hw4 h1]
/-- What Open finds of whole files, from a number on. -/
theorem opens_full {N : Nf} (h : Rise N) (hlen : N.length ≤ 250) (fr : Nat) (hfr : fr ≤ 1048576) (hnum : ∀ p ∈ N, p.1 ≤ 9999999) :
    ∃ M x, M = N.filter (fun p => decide (fr ≤ p.1)) ∧ x = lastN fr (M.map txt) ∧ (∀ p ∈ M, p.1 < x) ∧ fr ≤ x ∧ x ≤ 10000000 ∧ Rise (M ++ [(x, ⟨[], 0⟩)]) ∧ (calm (lf N)).opens fr = (calm (lf (M ++ [(x, ⟨[], 0⟩)])), 0, M.map txt ++ [(x, [])]) := by
  obtain ⟨M, hM⟩ : ∃ M, M = N.filter (fun p => decide (fr ≤ p.1)) := ⟨_, rfl⟩
  obtain ⟨x, hx⟩ : ∃ x, x = lastN fr (M.map txt) := ⟨_, rfl⟩
  have hr : Rise M := by rw [hM]; exact h.filter _
  have hMn : ∀ p ∈ M, p.1 ≤ 9999999 ∧ fr ≤ p.1 := fun p hp => by
    rw [hM] at hp
    obtain ⟨h1, h2⟩ := List.mem_filter.1 hp
    exact ⟨hnum p h1, by simpa using h2⟩
  have hMl : M.length ≤ 250 := by rw [hM]; exact Nat.le_trans (List.length_filter_le _ _) hlen
  have hxp : (∀ p ∈ M, p.1 < x) ∧ fr ≤ x ∧ x ≤ 10000000 := by
    rcases List.eq_nil_or_concat M with e | ⟨M0, p, e⟩
    · rw [hx, e]
      exact ⟨by simp, Nat.le_refl _, by show fr ≤ _; omega⟩
    · rw [List.concat_eq_append] at e
      have e2 : x = p.1 + 1 := by rw [hx, e, List.map_append, List.map_singleton, lastN_snoc]; rfl
      have hp := hMn p (by rw [e]; simp)
      rw [e2]
      refine ⟨fun q hq => ?_, by omega, by omega⟩
      rw [e] at hq hr
      rcases List.mem_append.1 hq with hq | hq
      · have : q.1 < p.1 := (List.pairwise_append.1 hr.1).2.2 q hq p (by simp)
        omega
      · simp at hq; subst hq; omega
  have hload : loadL fr (calm (lf N)).files = M.map txt := by rw [hM]; exact load_lf fr h
  have hrm : (calm (lf N)).rm (fr : Int) = (calm (lf M), 0) := by
    unfold Ds.rm
    have e := rm_calm (fr : Int) h
    have e2 : (N.filter fun p => decide ((fr : Int) ≤ (p.1 : Int))) = M := by
      rw [hM]
      congr 1
      funext p
      have : ((fr : Int) ≤ (p.1 : Int)) ↔ fr ≤ p.1 := by omega
      simp [this]
    rw [e2] at e
    exact e
  have hmay : mayE (calm (lf N)) (lastN fr (loadL fr (calm (lf N)).files)) = 0 := by
    rw [hload, ← hx]
    unfold mayE
    rw [if_neg (show ¬ (false = true) by decide), if_neg (by omega)]
  have hmk : (calm (lf M)).make (lname x) = (calm (lf (M ++ [(x, ⟨[], 0⟩)])), 0) := by
    rcases make_lf (fu := -1) (off := false) hr (x := x) (by omega) hxp.1 (by omega) with ⟨_, _, e⟩ | ⟨hc, _⟩
    · rw [calm_F] at e; exact e
    · exact absurd ⟨rfl, by decide⟩ hc
  refine ⟨M, x, hM, hx, hxp.1, hxp.2.1, hxp.2.2, hr.snoc _ hxp.1 (by omega), ?_⟩
  rw [opens_make hmay (by rw [hrm]), hrm, hload, ← hx]
  simp only
  rw [hmk]
end
end Go.Proofs.YtkfmjkcomjmedaaGreat
namespace Go.Proofs.YtkfmjkcomjmedaaGreat
open Go.RowKit Go.Lib
set_option linter.unusedVariables false
set_option linter.unusedSimpArgs false

def WP (own : Nat → Prop) (w : World) (l d m : Nat) (N : Nf) (n : Nat) (ts : List (List UInt8)) (k : Nat) : Prop := ∃ F, WalAt own w l d (calm F) (lg N n ts) ∧ PG m F N n ts k
section
variable {own : Nat → Prop} {w w' : World} {l d m n k : Nat} {N : Nf} {ts : List (List UInt8)}
theorem WP.below (h : WP own w l d m N n ts k) (hb : Below w.heap.size w w') : WP own w' l d m N n ts k := by
  obtain ⟨F, h1, h2⟩ := h; exact ⟨F, h1.below hb, h2⟩
theorem WP.up (h : WP own w l d m N n ts k) {m' : Nat} (hm : m ≤ m') : WP own w l d m' N n ts k := by
  obtain ⟨F, h1, h2⟩ := h
  exact ⟨F, h1, ⟨h2.files, h2.rise, h2.full, h2.kle, h2.short, by have := h2.nl; omega, by have := h2.nn; omega, by have := h2.tl; omega⟩⟩
theorem flat_bound : ∀ (N : Nf), (∀ p ∈ N, p.2.bytes.length ≤ 4194304) → (flat (N.map txt)).length ≤ 838861 * N.length
  | [], _ => by simp [flat]
  | p :: N, h => by
    have ih := flat_bound N fun q hq => h q (by simp [hq])
    have h1 := fa_len _ p.2.bytes (Nat.le_refl _)
    have h2 := h p (by simp)
    have e : flat ((p :: N).map txt) = (fa p.2.bytes).1 ++ flat (N.map txt) := rfl
    rw [e, List.length_append, List.length_cons, Nat.mul_succ]
    omega
theorem WP.bound (h : WP own w l d m N n ts k) (hm : m ≤ 200) : (flat (lg N n ts)).length ≤ 1073741824 ∧ (lg N n ts).length ≤ 1000000 ∧ ts.length ≤ 200 := by
  obtain ⟨F, h1, h2⟩ := h
  have hf := h1.toDisk.facts.2.2
  have hN : ∀ p ∈ N, p.2.bytes.length ≤ 4194304 := fun p hp => (hf (lname p.1, p.2) (by
    show _ ∈ F
    rw [h2.files]
    exact List.mem_map.2 ⟨p, by simp [hp], rfl⟩)).2.2
  have h3 := flat_bound N hN
  have h4 := h2.nl
  have h5 := h2.tl
  refine ⟨?_, ?_, by omega⟩
  · rw [lg_flat, List.length_append]
    have := Nat.mul_le_mul_left 838861 h4
    omega
  · unfold lg
    rw [List.length_append, List.length_map]
    simp
    omega
theorem wp_add (h : WP own w l d m N n ts k) (hm : m ≤ 200) (s : ByteArray) (hs : s.size ≤ 200) :
    Calls Tryz.prog 17 #[.pointer (some ⟨l, 0, none⟩), .string s] w fun e w' => e = .returned (.int .i64 0) ∧ WP own w' l d (m + 1) N n (ts ++ [s.data.toList]) k ∧ Keeps own w w' := by
  have hb := h.bound hm
  obtain ⟨F, h1, h2⟩ := h
  have C := add_any h1 s (by omega) (by omega)
  rcases pg_add (fu := -1) (off := false) (t := s.data.toList) h2 hm (by rw [← Lib.size_eq]; exact hs) with ⟨_, _, F', e, hp⟩ | ⟨hc, _⟩
  · rw [calm_F] at e
    have e' : (calm F).add n s.data.toList = (calm F', 0) := e
    rw [e'] at C
    exact C.mono fun e w' ⟨h3, h4, h5⟩ => ⟨h3, ⟨F', by rw [if_pos rfl] at h4; exact h4, hp⟩, h5⟩
  · exact absurd ⟨rfl, by decide⟩ hc
theorem wp_flush (h : WP own w l d m N n ts k) :
    Calls Tryz.prog 18 #[.pointer (some ⟨l, 0, none⟩)] w fun e w' => e = .returned (.int .i64 0) ∧ WP own w' l d m N n ts ts.length ∧ Keeps own w w' := by
  obtain ⟨F, h1, h2⟩ := h
  have C := flush_any h1
  rcases pg_sync (fu := -1) (off := false) h2 with ⟨_, _, F', e, hp⟩ | ⟨hc, _⟩
  · rw [calm_F] at e
    have e' : (calm F).sync (lname n) = (calm F', 0) := e
    rw [e'] at C
    exact C.mono fun e w' ⟨h3, h4, h5⟩ => ⟨h3, ⟨F', h4, hp⟩, h5⟩
  · exact absurd ⟨rfl, by decide⟩ hc
theorem lg_next (h : ∀ t ∈ ts, t.length ≤ 200) : lg (N ++ [(n, fl ts ts.length)]) (n + 1) [] = lg N n ts ++ [(n + 1, [])] := by
  have e : txt (n, fl ts ts.length) = (n, ts) := by
    unfold txt fl
    simp only
    have := fa_frs ts [] (fun x hx => by have := h x hx; omega)
    rw [List.append_nil] at this
    rw [this, fa_no (by decide +kernel)]
    simp
  unfold lg
  rw [List.map_append, List.map_singleton, e]
theorem wp_roll (h : WP own w l d m N n ts k) (hm : m ≤ 200) :
    Calls Tryz.prog 22 #[.pointer (some ⟨l, 0, none⟩)] w fun e w' => e = .returned (.tuple #[.int .i64 ((n + 1 : Nat) : Int), .int .i64 0]) ∧ WP own w' l d (m + 1) (N ++ [(n, fl ts ts.length)]) (n + 1) [] 0 ∧ Keeps own w w' := by
  have hb := h.bound hm
  obtain ⟨F, h1, h2⟩ := h
  have C := roll_any h1 (by have := hb.2.1; unfold lg at this; rw [List.length_append] at this; simpa using this)
  rcases pg_roll (fu := -1) (off := false) h2 hm with ⟨_, _, F', fu', e, hp, hf⟩ | ⟨hc, _⟩
  · obtain rfl := hf rfl
    have e' : (calm F).roll n = (calm F', 0) := e
    rw [e'] at C
    refine C.mono fun e w' ⟨h3, h4, h5⟩ => ⟨by rw [if_pos rfl] at h3; exact h3, ⟨F', ?_, hp⟩, h5⟩
    rw [if_pos rfl] at h4
    rw [lg_next h2.short]
    exact h4
  · rcases hc with hc | hc
    · exact absurd rfl hc
    · cases hc
theorem wp_last (h : WP own w l d m N n ts k) :
    Calls Tryz.prog 12 #[.pointer (some ⟨l, 0, none⟩)] w fun e w' => e = .returned (.int .i64 (n : Int)) ∧ Below w.heap.size w w' := by
  obtain ⟨F, h1, h2⟩ := h
  exact last_any h1
theorem wp_all (h : WP own w l d m N n ts k) (hm : m ≤ 200) (T : List (List UInt8)) (hT : flat (lg N n ts) = T) :
    Calls Tryz.prog 11 #[.pointer (some ⟨l, 0, none⟩)] w fun e w' => ∃ a cap, e = .returned (.slice a T.length cap) ∧ Rd w' a T ∧ Below w.heap.size w w' := by
  have hb := h.bound hm
  obtain ⟨F, h1, h2⟩ := h
  rw [← hT]
  exact (logall_any h1 hb.1 hb.2.1).mono fun e w' ⟨a, cap, h3, h4, h5⟩ => ⟨a, cap, h3, own_rd h4, h5⟩
/-- Whole files. -/
structure Full (m : Nat) (N : Nf) : Prop where
  rise : Rise N
  full : ∀ p ∈ N, p.2.sure = p.2.bytes.length
  nl : N.length ≤ m
  num : ∀ p ∈ N, p.1 ≤ m + 299
theorem wp_open (hd : DiskAt own w d (calm (lf N))) (h : Full m N) (hm : m ≤ 200) (fr : Nat) (hfr : fr ≤ 300) :
    Calls Tryz.prog 15 #[.pointer (some ⟨d, 0, none⟩), .int .i64 (fr : Int)] w fun e w' => ∃ l M x, M = N.filter (fun p => decide (fr ≤ p.1)) ∧ x = lastN fr (M.map txt) ∧ e = .returned (.tuple #[.pointer (some ⟨l, 0, none⟩), .int .i64 0]) ∧ WP own w' l d m M x [] 0 ∧ Keeps own w w' := by
  obtain ⟨M, x, h1, h2, h3, h4, h5, h6, h7⟩ := opens_full h.rise (by have := h.nl; omega) fr (by omega) (fun p hp => by have := h.num p hp; omega)
  refine (open_any hd (by omega)).mono fun e w' ⟨hk, ho⟩ => ?_
  rw [h7] at ho
  rcases ho with ⟨_, l, he, hw⟩ | ⟨hc, _⟩
  · refine ⟨l, M, x, h1, h2, he, ⟨_, hw, ⟨rfl, h6, fun p hp => ?_, Nat.le_refl _, by simp, ?_, ?_, by simp⟩⟩, hk⟩
    · rw [h1] at hp; exact h.full p (List.mem_filter.1 hp).1
    · rw [h1]; exact Nat.le_trans (List.length_filter_le _ _) h.nl
    · rw [h2]
      rcases List.eq_nil_or_concat M with c | ⟨M0, p, c⟩
      · rw [c]; show fr ≤ _; omega
      · rw [List.concat_eq_append] at c
        have hp : p ∈ N := by
          have : p ∈ M := by rw [c]; simp
          rw [h1] at this
          exact (List.mem_filter.1 this).1
        have := h.num p hp
        rw [c, List.map_append, List.map_singleton, lastN_snoc]
        show p.1 + 1 ≤ _
        omega
  · exact absurd rfl hc
theorem wp_new (hd : DiskAt own w d ⟨[], -1, false⟩) (fr : Nat) (hfr : fr ≤ 300) :
    Calls Tryz.prog 15 #[.pointer (some ⟨d, 0, none⟩), .int .i64 (fr : Int)] w fun e w' => ∃ l, e = .returned (.tuple #[.pointer (some ⟨l, 0, none⟩), .int .i64 0]) ∧ WP own w' l d 0 [] fr [] 0 ∧ Keeps own w w' := by
  refine (wp_open (N := []) (m := 0) hd ⟨⟨List.Pairwise.nil, by simp⟩, by simp, Nat.le_refl _, by simp⟩ (by omega) fr hfr).mono fun e w' ⟨l, M, x, h1, h2, h3, h4, h5⟩ => ?_
  obtain rfl : M = [] := by rw [h1]; rfl
  obtain rfl : x = fr := h2
  exact ⟨l, h3, h4, h5⟩
theorem pg_full {F : List (List UInt8 × Fl)} (h : PG m F N n ts k) {g : Fl} (hg : g.sure = g.bytes.length) : Full (m + 1) (N ++ [(n, g)]) :=
  ⟨h.rise.re g, fun p hp => by
    rcases List.mem_append.1 hp with hp | hp
    · exact h.full p hp
    · simp at hp; subst hp; exact hg, by rw [List.length_append]; have := h.nl; simp; omega, fun p hp => by
    rcases List.mem_append.1 hp with hp | hp
    · have := h.rise.lt p hp; have := h.nn; omega
    · simp at hp; subst hp; have := h.nn; simp; omega⟩
theorem wp_crash (h : WP own w l d m N n ts k) (a : Option Addr) (cap : Nat) (ks : List Int) (hk : Kp own w a ks) (hkl : ks.length ≤ maxLen) :
    Calls Tryz.prog 14 #[.pointer (some ⟨d, 0, none⟩), .slice a ks.length cap] w fun e w' => e = .returned (.int .i64 0) ∧ ∃ g j, DiskAt own w' d (calm (lf (N ++ [(n, g)]))) ∧ Full (m + 1) (N ++ [(n, g)]) ∧ flat ((N ++ [(n, g)]).map txt) = flat (N.map txt) ++ ts.take j ∧ k ≤ j ∧ j ≤ ts.length ∧ Keeps own w w' := by
  obtain ⟨F, h1, h2⟩ := h
  obtain ⟨g, j, e, hg, hf, h3, h4⟩ := pg_crash (fu := -1) (off := false) h2 ks
  have C := crash_any h1.toDisk a cap ks hk hkl
  have e' : (calm F).crash ks = calm (lf (N ++ [(n, g)])) := e
  rw [e'] at C
  refine C.mono fun e w' ⟨h5, h6, h7⟩ => ⟨h5, g, j, h6, pg_full h2 hg, ?_, h3, h4, h7⟩
  rw [List.map_append, flat_append, List.map_singleton]
  show _ ++ flat [(n, (fa g.bytes).1)] = _
  rw [flat_one, hf]
/-- Nothing that is not sure is kept. -/
theorem wp_crash0 (h : WP own w l d m N n ts k) (cap : Nat) :
    Calls Tryz.prog 14 #[.pointer (some ⟨d, 0, none⟩), .slice none 0 cap] w fun e w' => e = .returned (.int .i64 0) ∧ DiskAt own w' d (calm (lf (N ++ [(n, fl (ts.take k) k)]))) ∧ Full (m + 1) (N ++ [(n, fl (ts.take k) k)]) ∧ txt (n, fl (ts.take k) k) = (n, ts.take k) ∧ Keeps own w w' := by
  obtain ⟨F, h1, h2⟩ := h
  have hle := frs_take_le ts k
  have ht : (ts.take k).take k = ts.take k := by rw [List.take_take, Nat.min_self]
  have hcut : cutF 0 (fl ts k) = fl (ts.take k) k := by
    rw [cut_zero (by exact hle)]
    unfold fl
    simp only
    rw [ht]
    have e : frs ts = frs (ts.take k) ++ frs (ts.drop k) := by rw [← frs_append, List.take_append_drop]
    have e2 : (frs ts).take (frs (ts.take k)).length = frs (ts.take k) := by rw [e, List.take_left]
    rw [e2]
  have hg : (fl (ts.take k) k).sure = (fl (ts.take k) k).bytes.length := by unfold fl; simp only; rw [ht]
  have hcr : (calm F).crash [] = calm (lf (N ++ [(n, fl (ts.take k) k)])) := by
    show (⟨F, -1, false⟩ : Ds).crash [] = _
    rw [crash_none, mapIdx_map, h2.files, lf_append, lf_append]
    have e1 : mapL (cutF 0) (lf N ++ lf [(n, fl ts k)]) = lf N ++ lf [(n, fl (ts.take k) k)] := by
      unfold mapL
      rw [List.map_append]
      congr 1
      · conv => rhs; rw [← List.map_id (lf N)]
        refine List.map_congr_left fun p hp => ?_
        obtain ⟨q, hq, rfl⟩ := List.mem_map.1 hp
        simp only
        rw [cut_full (h2.full q hq)]
        rfl
      · simp [lf, hcut]
    rw [e1]
  have C := crash_any h1.toDisk none cap [] (Kp.nil _ _ _) (by simp)
  rw [hcr] at C
  refine C.mono fun e w' ⟨h5, h6, h7⟩ => ⟨h5, h6, pg_full h2 hg, ?_, h7⟩
  unfold txt fl
  simp only
  have := fa_frs (ts.take k) [] (fun x hx => by have := h2.short x (List.mem_of_mem_take hx); omega)
  rw [List.append_nil] at this
  rw [this, fa_no (by decide +kernel)]
  simp
end
end Go.Proofs.YtkfmjkcomjmedaaGreat
namespace Go.Proofs.YtkfmjkcomjmedaaGreat
open Go.RowKit Go.Lib
set_option linter.unusedVariables false
set_option linter.unusedSimpArgs false

theorem WP.kb {own : Nat → Prop} {w w' : World} {l d m n k : Nat} {N : Nf} {ts : List (List UInt8)} (h : WP own w l d m N n ts k) (hb : Below w.heap.size w w') : Keeps own w w' := by
  obtain ⟨F, h, _⟩ := h
  exact Keeps.of_below hb fun b hb => h.own hb
theorem al1 (w : World) (o : Obj) : Below w.heap.size w (w.alloc o) := (Below.refl _ _).alloc (Nat.le_refl _) o
theorem aw_names : (lf [(3, fl [[111, 110, 101]] 1)] ++ lf [(4, ⟨[], 0⟩)]).map (·.1) = [[108, 111, 103, 45, 48, 48, 48, 48, 48, 48, 48, 51], [108, 111, 103, 45, 48, 48, 48, 48, 48, 48, 48, 52]] := by
  simp only [lf, List.map_cons, List.map_nil, List.cons_append, List.nil_append]
  decide
set_option maxRecDepth 100000 in
set_option maxHeartbeats 600000 in
theorem awake_any (w : World) : Calls Tryz.prog 7 #[] w fun e w' => e = .returned (.bool true) ∧ Below w.heap.size w w' := by
  go_enter Tryz.func7, Tryz.ntmps7
  go_wp2_with fail
  refine (new_any _).mono ?_
  rintro e w1 ⟨rfl, hd, hb⟩
  have HB := Lib.hid hb
  have C := wp_new hd 3 (by omega)
  rw [show ((3 : Nat) : Int) = 3 from rfl] at C
  have HC := Lib.hid C
  clear C hd hb
  go_wp2_with fail
  refine HC.out.mono ?_
  rintro e w2 ⟨l, rfl, hw, hk⟩
  have HK := Lib.hid hk
  have HW := Lib.hid hw
  have C := wp_last hw
  rw [show ((3 : Nat) : Int) = 3 from rfl] at C
  clear HC
  have HC := Lib.hid C
  clear C hw hk
  go_wp2_with fail
  refine HC.out.mono ?_
  rintro e w3 ⟨rfl, hb3⟩
  have HW3 := Lib.hid (HW.out.below hb3)
  have HK3 := Lib.hid (HK.out.trans (HW.out.kb hb3))
  clear hb3 HC HK HW
  go_wp2_with fail
  refine (wp_add HW3.out (by omega) ⟨#[111, 110, 101]⟩ (by decide)).mono ?_
  rintro e w4 ⟨rfl, hw, hk⟩
  have HW4 := Lib.hid hw
  have HK4 := Lib.hid (HK3.out.trans hk)
  clear hw hk HW3 HK3
  go_wp2_with fail
  refine (wp_flush HW4.out).mono ?_
  rintro e w5 ⟨rfl, hw, hk⟩
  have HW5 := Lib.hid hw
  have HK5 := Lib.hid (HK4.out.trans hk)
  clear hw hk HW4 HK4
  go_wp2_with fail
  refine (wp_add HW5.out (by omega) ⟨#[116, 119, 111]⟩ (by decide)).mono ?_
  rintro e w6 ⟨rfl, hw, hk⟩
  have HW6 := Lib.hid hw
  have HK6 := Lib.hid (HK5.out.trans hk)
  clear hw hk HW5 HK5
  go_wp2_with fail
  refine (wp_all HW6.out (by omega) [[111, 110, 101], [116, 119, 111]] rfl).mono ?_
  rintro e w7 ⟨a, cap, rfl, hrd, hb7⟩
  have HW7 := Lib.hid (HW6.out.below hb7)
  have HK7 := Lib.hid (HK6.out.trans (HW6.out.kb hb7))
  have HR7 := Lib.hid hrd
  clear hb7 hrd HW6 HK6
  go_wp2_with fail
  refine (same_at a _ 2 2 cap 2 [[111, 110, 101], [116, 119, 111]] [[111, 110, 101], [116, 119, 111]] true _ (HR7.out.old (al1 _ _)) (lit_rd2 w7 _ ⟨#[111, 110, 101]⟩ ⟨#[116, 119, 111]⟩) rfl rfl (by decide) (by simp)).mono ?_
  rintro e w8 ⟨rfl, hb8⟩
  have hb78 := bt (al1 w7 (.cells #[.string ⟨#[111, 110, 101]⟩, .string ⟨#[116, 119, 111]⟩] 9)) hb8
  have HW8 := Lib.hid (HW7.out.below hb78)
  have HK8 := Lib.hid (HK7.out.trans (HW7.out.kb hb78))
  clear hb8 hb78 HW7 HK7 HR7
  go_wp2_with fail
  refine (wp_crash0 HW8.out 0).mono ?_
  rintro e w9 ⟨rfl, hd, hf, htx, hk⟩
  have HK9 := Lib.hid (HK8.out.trans hk)
  have hd' : DiskAt (fun b => b < w.heap.size) w9 (w.heap.size + 1) (calm (lf [(3, fl [[111, 110, 101]] 1)])) := hd
  have htx' : txt (3, fl [[111, 110, 101]] 1) = (3, [[111, 110, 101]]) := htx
  have C := wp_open hd' hf (by omega) 3 (by omega)
  rw [show ((3 : Nat) : Int) = 3 from rfl] at C
  have HC := Lib.hid C
  have HT := Lib.hid htx'
  clear C hd hd' hf htx htx' hk HW8 HK8
  go_wp2_with fail
  refine HC.out.mono ?_
  rintro e w10 ⟨l2, M, x, hM, hx, rfl, hw, hk⟩
  have hM' : M = [(3, fl [[111, 110, 101]] 1)] := hM
  have hx' : x = 4 := by rw [hx, hM']; rfl
  subst hM' hx'
  have HW10 := Lib.hid hw
  have HK10 := Lib.hid (HK9.out.trans hk)
  clear hM hx hw hk HC HK9
  go_wp2_with fail
  refine (wp_all HW10.out (by omega) [[111, 110, 101]] (by rw [lg_flat, List.map_singleton, HT.out]; rfl)).mono ?_
  rintro e w11 ⟨a2, cap2, rfl, hrd, hb11⟩
  have HW11 := Lib.hid (HW10.out.below hb11)
  have HK11 := Lib.hid (HK10.out.trans (HW10.out.kb hb11))
  have HR11 := Lib.hid hrd
  clear hb11 hrd HW10 HK10
  go_wp2_with fail
  refine (same_at a2 _ 1 1 cap2 1 [[111, 110, 101]] [[111, 110, 101]] true _ (HR11.out.old (al1 _ _)) (names1 w11 ⟨#[111, 110, 101]⟩) rfl rfl (by decide) (by simp)).mono ?_
  rintro e w12 ⟨rfl, hb12⟩
  have hb112 := bt (al1 w11 (.cells #[.string ⟨#[111, 110, 101]⟩] 9)) hb12
  have HW12 := Lib.hid (HW11.out.below hb112)
  have HK12 := Lib.hid (HK11.out.trans (HW11.out.kb hb112))
  clear hb12 hb112 HW11 HK11 HR11
  have C := wp_last HW12.out
  rw [show ((4 : Nat) : Int) = 4 from rfl] at C
  have HC := Lib.hid C
  clear C
  go_wp2_with fail
  refine HC.out.mono ?_
  rintro e w13 ⟨rfl, hb13⟩
  have HW13 := Lib.hid (HW12.out.below hb13)
  have HK13 := Lib.hid (HK12.out.trans (HW12.out.kb hb13))
  clear hb13 HW12 HK12 HC
  obtain ⟨F, hF1, hF2⟩ := HW13.out
  have hFn : F.map (·.1) = [[108, 111, 103, 45, 48, 48, 48, 48, 48, 48, 48, 51], [108, 111, 103, 45, 48, 48, 48, 48, 48, 48, 48, 52]] := by
    rw [hF2.files, lf_append]
    exact aw_names
  have C := names_any hF1.toDisk
  have C : Calls Tryz.prog 19 #[.pointer (some ⟨w.heap.size + 1, 0, none⟩)] w13 fun e w' => ∃ v, e = .returned v ∧ NamesV w' w13.heap.size [[108, 111, 103, 45, 48, 48, 48, 48, 48, 48, 48, 51], [108, 111, 103, 45, 48, 48, 48, 48, 48, 48, 48, 52]] v ∧ Below w13.heap.size w13 w' := by
    rw [← hFn]; exact C
  have HC := Lib.hid C
  clear C hF1 hF2 hFn
  go_wp2_with fail
  refine HC.out.mono ?_
  rintro e w14 ⟨v, rfl, hn, hb14⟩
  unfold NamesV at hn
  obtain ⟨na, ncap, rfl⟩ := own_slice hn
  have HN := Lib.hid (own_rd hn)
  have HW14 := Lib.hid (HW13.out.below hb14)
  have HK14 := Lib.hid (HK13.out.trans (HW13.out.kb hb14))
  clear hn hb14 HC HW13 HK13
  go_wp2_with fail
  refine (same_at na _ 2 2 ncap 2 [[108, 111, 103, 45, 48, 48, 48, 48, 48, 48, 48, 51], [108, 111, 103, 45, 48, 48, 48, 48, 48, 48, 48, 52]] [[108, 111, 103, 45, 48, 48, 48, 48, 48, 48, 48, 51], [108, 111, 103, 45, 48, 48, 48, 48, 48, 48, 48, 52]] true _ (HN.out.old (al1 _ _)) (lit_rd2 w14 _ ⟨#[108, 111, 103, 45, 48, 48, 48, 48, 48, 48, 48, 51]⟩ ⟨#[108, 111, 103, 45, 48, 48, 48, 48, 48, 48, 48, 52]⟩) rfl rfl (by decide) (by simp)).mono ?_
  rintro e w15 ⟨rfl, hb15⟩
  have hb145 := bt (al1 w14 (.cells #[.string ⟨#[108, 111, 103, 45, 48, 48, 48, 48, 48, 48, 48, 51]⟩, .string ⟨#[108, 111, 103, 45, 48, 48, 48, 48, 48, 48, 48, 52]⟩] 9)) hb15
  have HK15 := Lib.hid (HK14.out.trans (HW14.out.kb hb145))
  clear hb15 hb145 HW14 HK14 HN
  go_wp2
  go_ret
  exact ⟨rfl, HB.out.trans (HK15.out.below fun b hb => hb)⟩
end Go.Proofs.YtkfmjkcomjmedaaGreat
