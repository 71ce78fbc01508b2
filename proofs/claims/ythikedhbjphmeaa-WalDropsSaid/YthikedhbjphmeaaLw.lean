/-
  Layer 6 (wal): a log on a calm disk whose files are whole frames: contracts of its calls; the laws' own awake. Conditions: few files, short texts.
-/
import Derived.Test.YthikedhbjphmeaaLq
import Derived.Test.YthikedhbjphmeaaSl
import Derived.Test.YthikedhbjphmeaaDu
namespace Go.Proofs.Ythikedhbjphmeaa
open Go.RowKit Go.Lib
set_option linter.unusedVariables false
set_option linter.unusedSimpArgs false

def WP (own : Nat → Prop) (w : World) (l d m : Nat) (N : Nf) (n : Nat) (ts : List (List UInt8)) (k : Nat) : Prop := ∃ F, WalAt own w l d (calm F) (lg N n ts) ∧ PG m F N n ts k
section
variable {own : Nat → Prop} {w w' : World} {l d m n k : Nat} {N : Nf} {ts : List (List UInt8)}
theorem WP.below (h : WP own w l d m N n ts k) (hb : Below w.heap.size w w') : WP own w' l d m N n ts k := by
  obtain ⟨F, h1, h2⟩ := h; exact ⟨F, h1.below hb, h2⟩
theorem WP.up (h : WP own w l d m N n ts k) {m' : Nat} (hm : m ≤ m') : WP own w l d m' N n ts k := by
  obtain ⟨F, h1, h2⟩ := h
  exact ⟨F, h1, ⟨h2.files, h2.rise, h2.full, h2.kle, h2.short, by have := h2.nl; omega, by have := h2.nn; omega, by have := h2.tl; omega⟩⟩
theorem flat_bound : ∀ (N : Nf), (∀ p ∈ N, p.2.bytes.length ≤ 4194304) → (flat (N.map txt)).length ≤ 838861 * N.length
  | [], _ => by simp [flat]
  | p :: N, h => by
    have ih := flat_bound N fun q hq => h q (by simp [hq])
    have h1 := fa_len _ p.2.bytes (Nat.le_refl _)
    have h2 := h p (by simp)
    have e : flat ((p :: N).map txt) = (fa p.2.bytes).1 ++ flat (N.map txt) := rfl
    rw [e, List.length_append, List.length_cons, Nat.mul_succ]
    omega
theorem WP.bound (h : WP own w l d m N n ts k) (hm : m ≤ 200) : (flat (lg N n ts)).length ≤ 1073741824 ∧ (lg N n ts).length ≤ 1000000 ∧ ts.length ≤ 200 := by
  obtain ⟨F, h1, h2⟩ := h
  have hf := h1.toDisk.facts.2.2
  have hN : ∀ p ∈ N, p.2.bytes.length ≤ 4194304 := fun p hp => (hf (lname p.1, p.2) (by
    show _ ∈ F
    rw [h2.files]
    exact List.mem_map.2 ⟨p, by simp [hp], rfl⟩)).2.2
  have h3 := flat_bound N hN
  have h4 := h2.nl
  have h5 := h2.tl
  refine ⟨?_, ?_, by omega⟩
  · rw [lg_flat, List.length_append]
    have := Nat.mul_le_mul_left 838861 h4
    omega
  · unfold lg
    rw [List.length_append, List.length_map]
    simp
    omega
theorem wp_add (h : WP own w l d m N n ts k) (hm : m ≤ 200) (s : ByteArray) (hs : s.size ≤ 200) :
    Calls Try.prog 10 #[.pointer (some ⟨l, 0, none⟩), .string s] w fun e w' => e = .returned (.int .i64 0) ∧ WP own w' l d (m + 1) N n (ts ++ [s.data.toList]) k ∧ Keeps own w w' := by
  have hb := h.bound hm
  obtain ⟨F, h1, h2⟩ := h
  have C := add_any h1 s (by omega) (by omega)
  rcases pg_add (fu := -1) (off := false) (t := s.data.toList) h2 hm (by rw [← Lib.size_eq]; exact hs) with ⟨_, _, F', e, hp⟩ | ⟨hc, _⟩
  · rw [calm_F] at e
    have e' : (calm F).add n s.data.toList = (calm F', 0) := e
    rw [e'] at C
    exact C.mono fun e w' ⟨h3, h4, h5⟩ => ⟨h3, ⟨F', by rw [if_pos rfl] at h4; exact h4, hp⟩, h5⟩
  · exact absurd ⟨rfl, by decide⟩ hc
theorem wp_flush (h : WP own w l d m N n ts k) :
    Calls Try.prog 11 #[.pointer (some ⟨l, 0, none⟩)] w fun e w' => e = .returned (.int .i64 0) ∧ WP own w' l d m N n ts ts.length ∧ Keeps own w w' := by
  obtain ⟨F, h1, h2⟩ := h
  have C := flush_any h1
  rcases pg_sync (fu := -1) (off := false) h2 with ⟨_, _, F', e, hp⟩ | ⟨hc, _⟩
  · rw [calm_F] at e
    have e' : (calm F).sync (lname n) = (calm F', 0) := e
    rw [e'] at C
    exact C.mono fun e w' ⟨h3, h4, h5⟩ => ⟨h3, ⟨F', h4, hp⟩, h5⟩
  · exact absurd ⟨rfl, by decide⟩ hc
theorem lg_next (h : ∀ t ∈ ts, t.length ≤ 200) : lg (N ++ [(n, fl ts ts.length)]) (n + 1) [] = lg N n ts ++ [(n + 1, [])] := by
  have e : txt (n, fl ts ts.length) = (n, ts) := by
    unfold txt fl
    simp only
    have := fa_frs ts [] (fun x hx => by have := h x hx; omega)
    rw [List.append_nil] at this
    rw [this, fa_no (by decide +kernel)]
    simp
  unfold lg
  rw [List.map_append, List.map_singleton, e]
theorem wp_roll (h : WP own w l d m N n ts k) (hm : m ≤ 200) :
    Calls Try.prog 12 #[.pointer (some ⟨l, 0, none⟩)] w fun e w' => e = .returned (.tuple #[.int .i64 ((n + 1 : Nat) : Int), .int .i64 0]) ∧ WP own w' l d (m + 1) (N ++ [(n, fl ts ts.length)]) (n + 1) [] 0 ∧ Keeps own w w' := by
  have hb := h.bound hm
  obtain ⟨F, h1, h2⟩ := h
  have C := roll_any h1 (by have := hb.2.1; unfold lg at this; rw [List.length_append] at this; simpa using this)
  rcases pg_roll (fu := -1) (off := false) h2 hm with ⟨_, _, F', fu', e, hp, hf⟩ | ⟨hc, _⟩
  · obtain rfl := hf rfl
    have e' : (calm F).roll n = (calm F', 0) := e
    rw [e'] at C
    refine C.mono fun e w' ⟨h3, h4, h5⟩ => ⟨by rw [if_pos rfl] at h3; exact h3, ⟨F', ?_, hp⟩, h5⟩
    rw [if_pos rfl] at h4
    rw [lg_next h2.short]
    exact h4
  · rcases hc with hc | hc
    · exact absurd rfl hc
    · cases hc
theorem wp_last (h : WP own w l d m N n ts k) :
    Calls Try.prog 18 #[.pointer (some ⟨l, 0, none⟩)] w fun e w' => e = .returned (.int .i64 (n : Int)) ∧ Below w.heap.size w w' := by
  obtain ⟨F, h1, h2⟩ := h
  exact last_any h1
theorem wp_all (h : WP own w l d m N n ts k) (hm : m ≤ 200) (T : List (List UInt8)) (hT : flat (lg N n ts) = T) :
    Calls Try.prog 14 #[.pointer (some ⟨l, 0, none⟩)] w fun e w' => ∃ a cap, e = .returned (.slice a T.length cap) ∧ Rd w' a T ∧ Below w.heap.size w w' := by
  have hb := h.bound hm
  obtain ⟨F, h1, h2⟩ := h
  rw [← hT]
  exact (logall_any h1 hb.1 hb.2.1).mono fun e w' ⟨a, cap, h3, h4, h5⟩ => ⟨a, cap, h3, own_rd h4, h5⟩
/-- Whole files. -/
structure Full (m : Nat) (N : Nf) : Prop where
  rise : Rise N
  full : ∀ p ∈ N, p.2.sure = p.2.bytes.length
  nl : N.length ≤ m
  num : ∀ p ∈ N, p.1 ≤ m + 299
theorem wp_open (hd : DiskAt own w d (calm (lf N))) (h : Full m N) (hm : m ≤ 200) (fr : Nat) (hfr : fr ≤ 300) :
    Calls Try.prog 8 #[.pointer (some ⟨d, 0, none⟩), .int .i64 (fr : Int)] w fun e w' => ∃ l M x, M = N.filter (fun p => decide (fr ≤ p.1)) ∧ x = lastN fr (M.map txt) ∧ e = .returned (.tuple #[.pointer (some ⟨l, 0, none⟩), .int .i64 0]) ∧ WP own w' l d m M x [] 0 ∧ Keeps own w w' := by
  obtain ⟨M, x, h1, h2, h3, h4, h5, h6, h7⟩ := opens_full h.rise (by have := h.nl; omega) fr (by omega) (fun p hp => by have := h.num p hp; omega)
  refine (open_any hd (by omega)).mono fun e w' ⟨hk, ho⟩ => ?_
  rw [h7] at ho
  rcases ho with ⟨_, l, he, hw⟩ | ⟨hc, _⟩
  · refine ⟨l, M, x, h1, h2, he, ⟨_, hw, ⟨rfl, h6, fun p hp => ?_, Nat.le_refl _, by simp, ?_, ?_, by simp⟩⟩, hk⟩
    · rw [h1] at hp; exact h.full p (List.mem_filter.1 hp).1
    · rw [h1]; exact Nat.le_trans (List.length_filter_le _ _) h.nl
    · rw [h2]
      rcases List.eq_nil_or_concat M with c | ⟨M0, p, c⟩
      · rw [c]; show fr ≤ _; omega
      · rw [List.concat_eq_append] at c
        have hp : p ∈ N := by
          have : p ∈ M := by rw [c]; simp
          rw [h1] at this
          exact (List.mem_filter.1 this).1
        have := h.num p hp
        rw [c, List.map_append, List.map_singleton, lastN_snoc]
        show p.1 + 1 ≤ _
        omega
  · exact absurd rfl hc
theorem wp_new (hd : DiskAt own w d ⟨[], -1, false⟩) (fr : Nat) (hfr : fr ≤ 300) :
    Calls Try.prog 8 #[.pointer (some ⟨d, 0, none⟩), .int .i64 (fr : Int)] w fun e w' => ∃ l, e = .returned (.tuple #[.pointer (some ⟨l, 0, none⟩), .int .i64 0]) ∧ WP own w' l d 0 [] fr [] 0 ∧ Keeps own w w' := by
  refine (wp_open (N := []) (m := 0) hd ⟨⟨List.Pairwise.nil, by simp⟩, by simp, Nat.le_refl _, by simp⟩ (by omega) fr hfr).mono fun e w' ⟨l, M, x, h1, h2, h3, h4, h5⟩ => ?_
  obtain rfl : M = [] := by rw [h1]; rfl
  obtain rfl : x = fr := h2
  exact ⟨l, h3, h4, h5⟩
theorem pg_full {F : List (List UInt8 × Fl)} (h : PG m F N n ts k) {g : Fl} (hg : g.sure = g.bytes.length) : Full (m + 1) (N ++ [(n, g)]) :=
  ⟨h.rise.re g, fun p hp => by
    rcases List.mem_append.1 hp with hp | hp
    · exact h.full p hp
    · simp at hp; subst hp; exact hg, by rw [List.length_append]; have := h.nl; simp; omega, fun p hp => by
    rcases List.mem_append.1 hp with hp | hp
    · have := h.rise.lt p hp; have := h.nn; omega
    · simp at hp; subst hp; have := h.nn; simp; omega⟩
theorem wp_crash (h : WP own w l d m N n ts k) (a : Option Addr) (cap : Nat) (ks : List Int) (hk : Kp own w a ks) (hkl : ks.length ≤ maxLen) :
    Calls Try.prog 13 #[.pointer (some ⟨d, 0, none⟩), .slice a ks.length cap] w fun e w' => e = .returned (.int .i64 0) ∧ ∃ g j, DiskAt own w' d (calm (lf (N ++ [(n, g)]))) ∧ Full (m + 1) (N ++ [(n, g)]) ∧ flat ((N ++ [(n, g)]).map txt) = flat (N.map txt) ++ ts.take j ∧ k ≤ j ∧ j ≤ ts.length ∧ Keeps own w w' := by
  obtain ⟨F, h1, h2⟩ := h
  obtain ⟨g, j, e, hg, hf, h3, h4⟩ := pg_crash (fu := -1) (off := false) h2 ks
  have C := crash_any h1.toDisk a cap ks hk hkl
  have e' : (calm F).crash ks = calm (lf (N ++ [(n, g)])) := e
  rw [e'] at C
  refine C.mono fun e w' ⟨h5, h6, h7⟩ => ⟨h5, g, j, h6, pg_full h2 hg, ?_, h3, h4, h7⟩
  rw [List.map_append, flat_append, List.map_singleton]
  show _ ++ flat [(n, (fa g.bytes).1)] = _
  rw [flat_one, hf]
/-- Nothing that is not sure is kept. -/
theorem wp_crash0 (h : WP own w l d m N n ts k) (cap : Nat) :
    Calls Try.prog 13 #[.pointer (some ⟨d, 0, none⟩), .slice none 0 cap] w fun e w' => e = .returned (.int .i64 0) ∧ DiskAt own w' d (calm (lf (N ++ [(n, fl (ts.take k) k)]))) ∧ Full (m + 1) (N ++ [(n, fl (ts.take k) k)]) ∧ txt (n, fl (ts.take k) k) = (n, ts.take k) ∧ Keeps own w w' := by
  obtain ⟨F, h1, h2⟩ := h
  have hle := frs_take_le ts k
  have ht : (ts.take k).take k = ts.take k := by rw [List.take_take, Nat.min_self]
  have hcut : cutF 0 (fl ts k) = fl (ts.take k) k := by
    rw [cut_zero (by exact hle)]
    unfold fl
    simp only
    rw [ht]
    have e : frs ts = frs (ts.take k) ++ frs (ts.drop k) := by rw [← frs_append, List.take_append_drop]
    have e2 : (frs ts).take (frs (ts.take k)).length = frs (ts.take k) := by rw [e, List.take_left]
    rw [e2]
  have hg : (fl (ts.take k) k).sure = (fl (ts.take k) k).bytes.length := by unfold fl; simp only; rw [ht]
  have hcr : (calm F).crash [] = calm (lf (N ++ [(n, fl (ts.take k) k)])) := by
    show (⟨F, -1, false⟩ : Ds).crash [] = _
    rw [crash_none, mapIdx_map, h2.files, lf_append, lf_append]
    have e1 : mapL (cutF 0) (lf N ++ lf [(n, fl ts k)]) = lf N ++ lf [(n, fl (ts.take k) k)] := by
      unfold mapL
      rw [List.map_append]
      congr 1
      · conv => rhs; rw [← List.map_id (lf N)]
        refine List.map_congr_left fun p hp => ?_
        obtain ⟨q, hq, rfl⟩ := List.mem_map.1 hp
        simp only
        rw [cut_full (h2.full q hq)]
        rfl
      · simp [lf, hcut]
    rw [e1]
  have C := crash_any h1.toDisk none cap [] (Kp.nil _ _ _) (by simp)
  rw [hcr] at C
  refine C.mono fun e w' ⟨h5, h6, h7⟩ => ⟨h5, h6, pg_full h2 hg, ?_, h7⟩
  unfold txt fl
  simp only
  have := fa_frs (ts.take k) [] (fun x hx => by have := h2.short x (List.mem_of_mem_take hx); omega)
  rw [List.append_nil] at this
  rw [this, fa_no (by decide +kernel)]
  simp
end
end Go.Proofs.Ythikedhbjphmeaa
