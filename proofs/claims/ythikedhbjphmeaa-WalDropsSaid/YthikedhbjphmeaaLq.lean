/-
  Layer 6 (wal), plain: a log whose files are whole frames, what each call makes of it, what is left of it behind a crash, what Open then finds. Conditions: few files, short texts.
-/
import Derived.Test.YthikedhbjphmeaaLa
import Derived.Test.YthikedhbjphmeaaLb
namespace Go.Proofs.Ythikedhbjphmeaa
open Go.RowKit Go.Lib
set_option linter.unusedVariables false
set_option linter.unusedSimpArgs false

def fl (ts : List (List UInt8)) (k : Nat) : Fl := ⟨frs ts, (frs (ts.take k)).length⟩
structure PG (m : Nat) (F : List (List UInt8 × Fl)) (N : Nf) (n : Nat) (ts : List (List UInt8)) (k : Nat) : Prop where
  files : F = lf (N ++ [(n, fl ts k)])
  rise : Rise (N ++ [(n, fl ts k)])
  full : ∀ p ∈ N, p.2.sure = p.2.bytes.length
  kle : k ≤ ts.length
  short : ∀ t ∈ ts, t.length ≤ 200
  nl : N.length ≤ m
  nn : n ≤ m + 300
  tl : ts.length ≤ m
def lg (N : Nf) (n : Nat) (ts : List (List UInt8)) : Lt := N.map txt ++ [(n, ts)]
theorem lg_flat (N : Nf) (n : Nat) (ts : List (List UInt8)) : flat (lg N n ts) = flat (N.map txt) ++ ts := by unfold lg; rw [flat_append, flat_one]
section
variable {m n k : Nat} {F : List (List UInt8 × Fl)} {N : Nf} {ts : List (List UInt8)} {t : List UInt8} {fu : Int} {off : Bool}
theorem beg_on (h1 : off = false) (h2 : fu ≠ 0) : begE true fu off = 0 ∧ begO true fu off = false := by
  subst h1
  constructor
  · unfold begE; rw [if_pos rfl, if_neg (by decide), if_neg h2]
  · unfold begO; rw [if_neg (by intro h; exact h2 h.2)]
theorem beg_off (h : ¬ (off = false ∧ fu ≠ 0)) : begE true fu off = 50 ∧ begO true fu off = true := by
  cases off with
  | true =>
    constructor
    · unfold begE; rw [if_pos rfl, if_pos rfl]
    · unfold begO; split <;> rfl
  | false =>
    have h0 : fu = 0 := by
      rcases Decidable.em (fu = 0) with c | c
      · exact c
      · exact absurd ⟨rfl, c⟩ h
    subst h0
    exact ⟨rfl, rfl⟩
theorem PG.get (h : PG m F N n ts k) : getL (lname n) F = some (fl ts k) := by rw [h.files]; exact lf_get h.rise (by simp)
theorem PG.num (h : PG m F N n ts k) : n ≤ 99999998 := h.rise.2 (n, fl ts k) (by simp)
theorem PG.frs_le (h : PG m F N n ts k) : (frs ts).length ≤ 213 * m := by
  have h1 := Go.Proofs.Ythikedhbjphmeaa.frs_le ts 200 (by omega) h.short
  have h2 := Nat.mul_le_mul_left 213 h.tl
  omega
theorem pg_re (h : PG m F N n ts k) {ts' : List (List UInt8)} {k' m' : Nat} (hk : k' ≤ ts'.length) (hs : ∀ t ∈ ts', t.length ≤ 200) (hl : ts'.length ≤ m') (hm : m ≤ m') : PG m' (lf (N ++ [(n, fl ts' k')])) N n ts' k' :=
  ⟨rfl, h.rise.re _, h.full, hk, hs, by have := h.nl; omega, by have := h.nn; omega, hl⟩
theorem take_snoc_le {α : Type} (l : List α) (x : α) {k : Nat} (h : k ≤ l.length) : (l ++ [x]).take k = l.take k := by rw [List.take_append_of_le_length h]
theorem pg_add (h : PG m F N n ts k) (hm : m ≤ 200) (ht : t.length ≤ 200) :
    (off = false ∧ fu ≠ 0 ∧ ∃ F', (⟨F, fu, off⟩ : Ds).add n t = (⟨F', begF true fu off, false⟩, 0) ∧ PG (m + 1) F' N n (ts ++ [t]) k) ∨
    (¬ (off = false ∧ fu ≠ 0) ∧ ∃ fu', (⟨F, fu, off⟩ : Ds).add n t = (⟨F, fu', true⟩, 50)) := by
  have hfl := frL_le t (by omega)
  have hfr := h.frs_le
  by_cases hc : off = false ∧ fu ≠ 0
  · left
    obtain ⟨e1, e2⟩ := beg_on hc.1 hc.2
    refine ⟨hc.1, hc.2, lf (N ++ [(n, fl (ts ++ [t]) k)]), ?_, pg_re h (by rw [List.length_append]; have := h.kle; omega) ?_ (by rw [List.length_append]; have := h.tl; simp; omega) (by omega)⟩
    · unfold Ds.add Ds.append
      have e3 : (⟨F, fu, off⟩ : Ds).chgE (namL (lname n)) (lname n) = 0 := by
        unfold Ds.chgE
        rw [lname_ok]
        simp only
        rw [e1, if_pos rfl, h.get]
        rfl
      rw [if_pos e3]
      simp only
      rw [h.get]
      simp only
      rw [if_neg (by show ¬ 4194304 < (frs ts).length + (frL t).length; omega), h.files, lf_set _ h.rise, lname_ok]
      unfold Ds.begin
      simp only
      rw [e2]
      have e4 : (⟨(fl ts k).bytes ++ frL t, (fl ts k).sure⟩ : Fl) = fl (ts ++ [t]) k := by unfold fl; rw [frs_snoc, take_snoc_le _ _ h.kle]
      rw [e4]
    · intro x hx
      rcases List.mem_append.1 hx with hx | hx
      · exact h.short x hx
      · simp at hx; subst hx; exact ht
  · right
    obtain ⟨e1, e2⟩ := beg_off hc
    refine ⟨hc, begF true fu off, ?_⟩
    unfold Ds.add Ds.append
    have e3 : (⟨F, fu, off⟩ : Ds).chgE (namL (lname n)) (lname n) = 50 := by
      unfold Ds.chgE
      rw [lname_ok]
      simp only
      rw [e1, if_neg (by decide)]
    rw [e3, if_neg (by decide), lname_ok]
    unfold Ds.begin
    simp only
    rw [e2]
theorem pg_sync (h : PG m F N n ts k) :
    (off = false ∧ fu ≠ 0 ∧ ∃ F', (⟨F, fu, off⟩ : Ds).sync (lname n) = (⟨F', begF true fu off, false⟩, 0) ∧ PG m F' N n ts ts.length) ∨
    (¬ (off = false ∧ fu ≠ 0) ∧ ∃ fu', (⟨F, fu, off⟩ : Ds).sync (lname n) = (⟨F, fu', true⟩, 50)) := by
  by_cases hc : off = false ∧ fu ≠ 0
  · left
    obtain ⟨e1, e2⟩ := beg_on hc.1 hc.2
    refine ⟨hc.1, hc.2, lf (N ++ [(n, fl ts ts.length)]), ?_, pg_re h (Nat.le_refl _) h.short h.tl (Nat.le_refl _)⟩
    unfold Ds.sync
    have e3 : (⟨F, fu, off⟩ : Ds).chgE (namL (lname n)) (lname n) = 0 := by
      unfold Ds.chgE
      rw [lname_ok]
      simp only
      rw [e1, if_pos rfl, h.get]
      rfl
    rw [if_pos e3]
    simp only
    rw [h.get]
    simp only
    rw [h.files, lf_set _ h.rise, lname_ok]
    unfold Ds.begin
    simp only
    rw [e2]
    have e4 : (⟨(fl ts k).bytes, (fl ts k).bytes.length⟩ : Fl) = fl ts ts.length := by unfold fl; rw [List.take_length]
    rw [e4]
  · right
    obtain ⟨e1, e2⟩ := beg_off hc
    refine ⟨hc, begF true fu off, ?_⟩
    unfold Ds.sync
    have e3 : (⟨F, fu, off⟩ : Ds).chgE (namL (lname n)) (lname n) = 50 := by
      unfold Ds.chgE
      rw [lname_ok]
      simp only
      rw [e1, if_neg (by decide)]
    rw [e3, if_neg (by decide), lname_ok]
    unfold Ds.begin
    simp only
    rw [e2]
theorem make_lf {M : Nf} {x : Nat} (h : Rise M) (hx : x ≤ 99999998) (hl : ∀ p ∈ M, p.1 < x) (hM : M.length ≤ 255) :
    (off = false ∧ fu ≠ 0 ∧ (⟨lf M, fu, off⟩ : Ds).make (lname x) = (⟨lf (M ++ [(x, ⟨[], 0⟩)]), begF true fu off, false⟩, 0)) ∨
    (¬ (off = false ∧ fu ≠ 0) ∧ ∃ fu', (⟨lf M, fu, off⟩ : Ds).make (lname x) = (⟨lf M, fu', true⟩, 50)) := by
  have hnone := lf_none h hx fun p hp => by have := hl p hp; omega
  by_cases hc : off = false ∧ fu ≠ 0
  · left
    obtain ⟨e1, e2⟩ := beg_on hc.1 hc.2
    refine ⟨hc.1, hc.2, ?_⟩
    unfold Ds.make
    rw [lname_ok]
    simp only
    rw [e1, if_pos rfl, hnone]
    simp only
    rw [if_neg (by rw [lf_length]; omega), lf_put h _ hx hl]
    unfold Ds.begin
    simp only
    rw [e2]
  · right
    obtain ⟨e1, e2⟩ := beg_off hc
    refine ⟨hc, begF true fu off, ?_⟩
    unfold Ds.make
    rw [lname_ok]
    simp only
    rw [e1, if_neg (by decide)]
    unfold Ds.begin
    simp only
    rw [e2]
theorem fl_nil : fl [] 0 = ⟨[], 0⟩ := rfl
theorem pg_next (h : PG m F N n ts ts.length) (hm : m ≤ 200) : PG (m + 1) (lf (N ++ [(n, fl ts ts.length)] ++ [(n + 1, ⟨[], 0⟩)])) (N ++ [(n, fl ts ts.length)]) (n + 1) [] 0 ∧ txt (n, fl ts ts.length) = (n, ts) := by
  have hn := h.nn
  constructor
  · refine ⟨rfl, h.rise.snoc _ (fun p hp => ?_) ?_, fun p hp => ?_, Nat.le_refl _, by simp, by rw [List.length_append]; have := h.nl; simp; omega, by omega, by simp⟩
    · rcases List.mem_append.1 hp with hp | hp
      · have := h.rise.lt p hp; omega
      · simp at hp; subst hp; simp
    · omega
    · rcases List.mem_append.1 hp with hp | hp
      · exact h.full p hp
      · simp at hp; subst hp; unfold fl; rw [List.take_length]
  · unfold txt fl
    simp only
    have := fa_frs ts [] (fun x hx => by have := h.short x hx; omega)
    rw [List.append_nil] at this
    rw [this, fa_no (by decide +kernel)]
    simp
theorem pg_roll (h : PG m F N n ts k) (hm : m ≤ 200) :
    (off = false ∧ fu ≠ 0 ∧ ∃ F' fu', (⟨F, fu, off⟩ : Ds).roll n = (⟨F', fu', false⟩, 0) ∧ PG (m + 1) F' (N ++ [(n, fl ts ts.length)]) (n + 1) [] 0 ∧ (fu = -1 → fu' = -1)) ∨
    (fu ≠ -1 ∨ off = true) ∧ ∃ F' fu' k', (⟨F, fu, off⟩ : Ds).roll n = (⟨F', fu', true⟩, 50) ∧ PG m F' N n ts k' ∧ k ≤ k' := by
  have hn := h.nn
  unfold Ds.roll
  cases off with
  | true =>
    right
    have e : mayE ⟨F, fu, true⟩ (n + 1) = 50 := by unfold mayE; rw [if_pos rfl]
    rw [e, if_neg (by decide)]
    exact ⟨.inr rfl, F, fu, k, rfl, h, Nat.le_refl _⟩
  | false =>
    have e : mayE ⟨F, fu, false⟩ (n + 1) = 0 := by unfold mayE; rw [if_neg (show ¬ (false = true) by decide), if_neg (by omega)]
    rw [e, if_pos rfl]
    rcases pg_sync (fu := fu) (off := false) h with ⟨_, h2, F', e2, hp⟩ | ⟨hc, fu', e2⟩
    · rw [e2, if_pos rfl]
      simp only
      obtain ⟨hq, _⟩ := pg_next hp hm
      have hlt : ∀ p ∈ N ++ [(n, fl ts ts.length)], p.1 < n + 1 := fun p hp' => by
        rcases List.mem_append.1 hp' with hp' | hp'
        · have := h.rise.lt p hp'; omega
        · simp at hp'; subst hp'; simp
      rw [hp.files]
      rcases make_lf (fu := begF true fu false) (off := false) hp.rise (x := n + 1) (by omega) hlt (by rw [List.length_append]; have := h.nl; simp; omega) with ⟨_, h3, e3⟩ | ⟨hc, fu', e3⟩
      · left
        rw [e3]
        exact ⟨by trivial, h2, _, _, rfl, hq, fun hf => by rw [hf, calm_F, calm_F]⟩
      · right
        rw [e3]
        refine ⟨.inl fun hf => hc ⟨rfl, by rw [hf, calm_F]; decide⟩, _, _, ts.length, rfl, ?_, h.kle⟩
        have := hp.files
        rw [← this]
        exact hp
    · right
      rw [e2, if_neg (show ¬ (50 : Int) = 0 by decide)]
      refine ⟨.inl fun hf => hc ⟨rfl, by rw [hf]; decide⟩, F, fu', k, rfl, h, Nat.le_refl _⟩
/-- How many whole frames a cut leaves. -/
theorem whole_of (ts : List (List UInt8)) (mm : Nat) : ∀ (d k : Nat), d + k = ts.length → (frs (ts.take k)).length ≤ mm → ∃ w, k ≤ w ∧ w ≤ ts.length ∧ (frs (ts.take w)).length ≤ mm ∧ (w < ts.length → mm < (frs (ts.take (w + 1))).length)
  | 0, k, hd, h => ⟨k, Nat.le_refl _, by omega, h, fun c => by omega⟩
  | d + 1, k, hd, h => by
    by_cases c : (frs (ts.take (k + 1))).length ≤ mm
    · obtain ⟨w, h1, h2, h3, h4⟩ := whole_of ts mm d (k + 1) (by omega) c
      exact ⟨w, by omega, h2, h3, h4⟩
    · exact ⟨k, Nat.le_refl _, by omega, h, fun _ => by omega⟩
theorem cut_full {f : Fl} (h : f.sure = f.bytes.length) (c : Int) : cutF c f = f := by
  have e : keepN c f = f.bytes.length := by
    have h1 := keepN_le c f (by omega)
    have h2 := keepN_ge c f
    omega
  unfold cutF
  rw [e, List.take_length]
  cases f
  simp_all
theorem frs_take_le (ts : List (List UInt8)) (k : Nat) : (frs (ts.take k)).length ≤ (frs ts).length := by
  have e : frs ts = frs (ts.take k) ++ frs (ts.drop k) := by rw [← frs_append, List.take_append_drop]
  rw [e, List.length_append]
  omega
/-- Behind a crash: all files whole, the texts a beginning with all that is sure. -/
theorem pg_crash (h : PG m F N n ts k) (ks : List Int) : ∃ g j, (⟨F, fu, off⟩ : Ds).crash ks = calm (lf (N ++ [(n, g)])) ∧ g.sure = g.bytes.length ∧ (fa g.bytes).1 = ts.take j ∧ k ≤ j ∧ j ≤ ts.length := by
  obtain ⟨c, hc⟩ : ∃ c, c = keepAt ks N.length := ⟨_, rfl⟩
  have hle := frs_take_le ts k
  have h1 := keepN_le c (fl ts k) hle
  have h2 := keepN_ge c (fl ts k)
  obtain ⟨w, hw1, hw2, hw3, hw4⟩ := whole_of ts (keepN c (fl ts k)) (ts.length - k) k (by have := h.kle; omega) h2
  refine ⟨cutF c (fl ts k), w, ?_, ?_, ?_, hw1, hw2⟩
  · unfold Ds.crash calm
    simp only
    rw [h.files, lf_append, lf_append]
    have e1 : ((lf N ++ lf [(n, fl ts k)]).mapIdx fun j p => (p.1, cutF (keepAt ks j) p.2)) = lf N ++ lf [(n, cutF c (fl ts k))] := by
      rw [List.mapIdx_append]
      congr 1
      · refine List.ext_getElem (by simp) fun i hi1 hi2 => ?_
        rw [List.getElem_mapIdx]
        have hm : (lf N)[i] ∈ lf N := List.getElem_mem hi2
        obtain ⟨q, hq, e⟩ := List.mem_map.1 hm
        rw [← e]
        simp only
        rw [cut_full (h.full q hq)]
      · simp [lf, hc]
    rw [e1]
  · show keepN c (fl ts k) = ((frs ts).take (keepN c (fl ts k))).length
    rw [List.length_take]
    have : keepN c (fl ts k) ≤ (frs ts).length := h1
    omega
  · show (fa ((frs ts).take (keepN c (fl ts k)))).1 = _
    rw [fa_cut ts _ w (fun x hx => by have := h.short x hx; omega) hw2 hw3 hw4 h1]
/-- What Open finds of whole files, from a number on. -/
theorem opens_full {N : Nf} (h : Rise N) (hlen : N.length ≤ 250) (fr : Nat) (hfr : fr ≤ 1048576) (hnum : ∀ p ∈ N, p.1 ≤ 9999999) :
    ∃ M x, M = N.filter (fun p => decide (fr ≤ p.1)) ∧ x = lastN fr (M.map txt) ∧ (∀ p ∈ M, p.1 < x) ∧ fr ≤ x ∧ x ≤ 10000000 ∧ Rise (M ++ [(x, ⟨[], 0⟩)]) ∧ (calm (lf N)).opens fr = (calm (lf (M ++ [(x, ⟨[], 0⟩)])), 0, M.map txt ++ [(x, [])]) := by
  obtain ⟨M, hM⟩ : ∃ M, M = N.filter (fun p => decide (fr ≤ p.1)) := ⟨_, rfl⟩
  obtain ⟨x, hx⟩ : ∃ x, x = lastN fr (M.map txt) := ⟨_, rfl⟩
  have hr : Rise M := by rw [hM]; exact h.filter _
  have hMn : ∀ p ∈ M, p.1 ≤ 9999999 ∧ fr ≤ p.1 := fun p hp => by
    rw [hM] at hp
    obtain ⟨h1, h2⟩ := List.mem_filter.1 hp
    exact ⟨hnum p h1, by simpa using h2⟩
  have hMl : M.length ≤ 250 := by rw [hM]; exact Nat.le_trans (List.length_filter_le _ _) hlen
  have hxp : (∀ p ∈ M, p.1 < x) ∧ fr ≤ x ∧ x ≤ 10000000 := by
    rcases List.eq_nil_or_concat M with e | ⟨M0, p, e⟩
    · rw [hx, e]
      exact ⟨by simp, Nat.le_refl _, by show fr ≤ _; omega⟩
    · rw [List.concat_eq_append] at e
      have e2 : x = p.1 + 1 := by rw [hx, e, List.map_append, List.map_singleton, lastN_snoc]; rfl
      have hp := hMn p (by rw [e]; simp)
      rw [e2]
      refine ⟨fun q hq => ?_, by omega, by omega⟩
      rw [e] at hq hr
      rcases List.mem_append.1 hq with hq | hq
      · have : q.1 < p.1 := (List.pairwise_append.1 hr.1).2.2 q hq p (by simp)
        omega
      · simp at hq; subst hq; omega
  have hload : loadL fr (calm (lf N)).files = M.map txt := by rw [hM]; exact load_lf fr h
  have hrm : (calm (lf N)).rm (fr : Int) = (calm (lf M), 0) := by
    unfold Ds.rm
    have e := rm_calm (fr : Int) h
    have e2 : (N.filter fun p => decide ((fr : Int) ≤ (p.1 : Int))) = M := by
      rw [hM]
      congr 1
      funext p
      have : ((fr : Int) ≤ (p.1 : Int)) ↔ fr ≤ p.1 := by omega
      simp [this]
    rw [e2] at e
    exact e
  have hmay : mayE (calm (lf N)) (lastN fr (loadL fr (calm (lf N)).files)) = 0 := by
    rw [hload, ← hx]
    unfold mayE
    rw [if_neg (show ¬ (false = true) by decide), if_neg (by omega)]
  have hmk : (calm (lf M)).make (lname x) = (calm (lf (M ++ [(x, ⟨[], 0⟩)])), 0) := by
    rcases make_lf (fu := -1) (off := false) hr (x := x) (by omega) hxp.1 (by omega) with ⟨_, _, e⟩ | ⟨hc, _⟩
    · rw [calm_F] at e; exact e
    · exact absurd ⟨rfl, by decide⟩ hc
  refine ⟨M, x, hM, hx, hxp.1, hxp.2.1, hxp.2.2, hr.snoc _ hxp.1 (by omega), ?_⟩
  rw [opens_make hmay (by rw [hrm]), hrm, hload, ← hx]
  simp only
  rw [hmk]
end
end Go.Proofs.Ythikedhbjphmeaa
