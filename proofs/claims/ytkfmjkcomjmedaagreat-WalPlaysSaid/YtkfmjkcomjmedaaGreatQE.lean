/-
  Texts of mine as one, in the order in which they build: Xr, Xs, Xt. Conditions: as each says.
-/
import Derived.Test.YtkfmjkcomjmedaaGreatXm
import Derived.Test.YtkfmjkcomjmedaaGreatXi
import Derived.Test.YtkfmjkcomjmedaaGreatXj
import Derived.Test.YtkfmjkcomjmedaaGreatXk
import Derived.Test.YtkfmjkcomjmedaaGreatXl
import Derived.Test.YtkfmjkcomjmedaaGreatXn
import Derived.Test.YtkfmjkcomjmedaaGreatXo
import Derived.Test.YtkfmjkcomjmedaaGreatXp
import Derived.Test.YtkfmjkcomjmedaaGreatXq
import Derived.Test.YtkfmjkcomjmedaaGreatQD
namespace Go.Proofs.YtkfmjkcomjmedaaGreat
open Go.RowKit
set_option linter.unusedVariables false
set_option linter.unusedSimpArgs false

/-- Bounds of a disk and a log after fl rounds. -/
structure Pz (bb nb fl : Nat) (S : Ds) (L0 : Lt) (n : Nat) (ts : List (List UInt8)) : Prop where
  ok : OkS bb nb S
  nn : n ≤ nb
  ln : L0.length ≤ 256 + fl
  tl : ts.length ≤ fl
  fl : (flat (L0 ++ [(n, ts)])).length ≤ 9300000 + fl
section
variable {bb nb fl : Nat} {S : Ds} {L0 : Lt} {n : Nat} {ts : List (List UInt8)}
theorem Pz.add (h : Pz bb nb fl S L0 n ts) {s : List UInt8} (hs : s.length ≤ 512) :
    ∃ ts', (if (S.append (lname n) (frL s)).2 = 0 then L0 ++ [(n, ts ++ [s])] else L0 ++ [(n, ts)]) = L0 ++ [(n, ts')] ∧ Pz (bb + 600) (nb + 1) (fl + 1) (S.append (lname n) (frL s)).1 L0 n ts' := by
  have hf := frL_le s (by omega)
  have h1 := h.fl
  have ok := (h.ok.append (n := lname n) (s := frL s) (bb' := bb + 600) (by omega)).mono (Nat.le_refl _) (Nat.le_succ nb)
  have h2 := h.nn
  have h3 := h.ln
  have h4 := h.tl
  rw [flat_append, flat_one, List.length_append] at h1
  by_cases c : (S.append (lname n) (frL s)).2 = 0
  · rw [if_pos c]
    exact ⟨_, rfl, ok, by omega, by omega, by simp; omega, by rw [flat_append, flat_one]; simp; omega⟩
  · rw [if_neg c]
    exact ⟨_, rfl, ok, by omega, by omega, by omega, by rw [flat_append, flat_one, List.length_append]; omega⟩
theorem Pz.same (h : Pz bb nb fl S L0 n ts) {T : Ds} (hk : OkS bb nb T) : Pz (bb + 600) (nb + 1) (fl + 1) T L0 n ts :=
  ⟨hk.mono (by omega) (by omega), by have := h.nn; omega, by have := h.ln; omega, by have := h.tl; omega, by have := h.fl; omega⟩
theorem Pz.roll (h : Pz bb nb fl S L0 n ts) (hn : n ≤ 99999997) : Pz (bb + 600) (nb + 1) (fl + 1) (rollR S n).1 (L0 ++ [(n, ts)]) (n + 1) [] := by
  have h2 := h.nn
  refine ⟨?_, by omega, by have := h.ln; simp; omega, by simp, by rw [(flat_roll _ _).1]; have := h.fl; omega⟩
  unfold rollR
  split
  · refine OkS.make ((h.ok.sync).mono (by omega) (by omega)) fun m hm => ?_
    rw [numb_lname _ (by omega)] at hm
    cases hm
    omega
  · exact (h.ok.sync).mono (by omega) (by omega)
theorem Pz.rollno (h : Pz bb nb fl S L0 n ts) (hn : n ≤ 99999997) : Pz (bb + 600) (nb + 1) (fl + 1) (rollR S n).1 L0 n ts := by
  refine ⟨?_, by have := h.nn; omega, by have := h.ln; omega, by have := h.tl; omega, by have := h.fl; omega⟩
  have h2 := h.nn
  unfold rollR
  split
  · refine OkS.make ((h.ok.sync).mono (by omega) (by omega)) fun m hm => ?_
    rw [numb_lname _ (by omega)] at hm
    cases hm
    omega
  · exact (h.ok.sync).mono (by omega) (by omega)
theorem flat_filter_le (c : Nat × List (List UInt8) → Bool) : ∀ L : Lt, (flat (L.filter c)).length ≤ (flat L).length
  | [] => Nat.le_refl _
  | p :: L => by
    have ih := flat_filter_le c L
    rw [List.filter_cons, flat_cons, List.length_append]
    split
    · rw [flat_cons, List.length_append]; omega
    · omega
theorem Pz.drop (h : Pz bb nb fl S L0 n ts) {N : Int} (hN : N ≤ (n : Int)) :
    ∃ L1, (if (S.rm N).2 = 0 then (L0 ++ [(n, ts)]).filter (fun p => !decide ((p.1 : Int) < N)) else L0 ++ [(n, ts)]) = L1 ++ [(n, ts)] ∧ Pz (bb + 600) (nb + 1) (fl + 1) (S.rm N).1 L1 n ts := by
  have ok : OkS (bb + 600) (nb + 1) (S.rm N).1 := (OkS.rm N _ h.ok).mono (by omega) (by omega)
  have h1 := h.nn
  have h2 := h.ln
  have h3 := h.tl
  have h4 := h.fl
  by_cases c : (S.rm N).2 = 0
  · rw [if_pos c]
    refine ⟨L0.filter (fun p => !decide ((p.1 : Int) < N)), ?_, ok, by omega, ?_, by omega, ?_⟩
    · rw [List.filter_append, List.filter_cons_of_pos (by simp; omega)]
      rfl
    · exact Nat.le_trans (List.length_filter_le _ _) (by omega)
    · have := flat_filter_le (fun p => !decide ((p.1 : Int) < N)) L0
      rw [flat_append, List.length_append] at h4 ⊢
      omega
  · rw [if_neg c]
    exact ⟨L0, rfl, ok, by omega, by omega, by omega, by omega⟩
theorem OkS.fuse2 (h : OkS bb nb S) {N : Int} (hN : -9223372036854775808 ≤ N ∧ N ≤ 9223372036854775807) : OkS bb nb ⟨S.files, max N (-1), S.off⟩ :=
  ⟨h.srt, h.len, h.fb, h.nm, by simp only; omega⟩
theorem load_bound (fr : Nat) : ∀ F : List (List UInt8 × Fl), (∀ p ∈ F, p.2.bytes.length ≤ bb) → (loadL fr F).length ≤ F.length ∧ 5 * (flat (loadL fr F)).length ≤ bb * F.length
  | [], _ => by simp [loadL, flat]
  | p :: F, h => by
    have ih := load_bound fr F fun q hq => h q (by simp [hq])
    have h1 := fa_len _ p.2.bytes (Nat.le_refl _)
    have h2 := h p (by simp)
    unfold loadL at ih ⊢
    rw [List.filterMap_cons, List.length_cons, Nat.mul_succ]
    cases hp : partOf fr p with
    | none => simp only; omega
    | some x =>
      have hx : x.2 = (fa p.2.bytes).1 := by
        unfold partOf at hp
        split at hp
        · split at hp
          · cases hp; rfl
          · cases hp
        · cases hp
      simp only [flat_cons, List.length_append, List.length_cons]
      rw [hx]
      omega
theorem opens_ok (h : OkS bb nb S) {fr : Nat} (hb : bb ≤ 180000) (hfr : fr ≤ nb) (hnb : nb ≤ 99999000) : OkS bb (nb + 1) (S.opens fr).1 ∧
    ((S.opens fr).2.1 = 0 → (S.opens fr).2.2 = loadL fr S.files ++ [(lastN fr (loadL fr S.files), [])] ∧ ∀ fl, Pz bb (nb + 1) fl (S.opens fr).1 (loadL fr S.files) (lastN fr (loadL fr S.files)) []) := by
  have hm := h.mono (Nat.le_refl bb) (Nat.le_succ nb)
  have hl := lastN_le (fr := fr) h.nm
  have hr : OkS bb (nb + 1) (S.rm fr).1 := OkS.rm fr _ hm
  have hlb := load_bound (bb := bb) fr S.files fun p hp => (h.fb p hp).2
  have hsz := h.len
  have hmul : bb * S.files.length ≤ 180000 * 256 := Nat.mul_le_mul hb hsz
  have hK : OkS bb (nb + 1) (S.opens fr).1 := by
    unfold Ds.opens
    split
    · split
      · refine OkS.make hr fun m e => ?_
        rw [numb_lname _ (by omega)] at e
        cases e
        omega
      · exact hr
    · exact hm
  refine ⟨hK, fun h0 => ?_⟩
  have he : (S.opens fr).2.2 = loadL fr S.files ++ [(lastN fr (loadL fr S.files), [])] := by
    unfold Ds.opens at h0 ⊢
    split
    · split
      · rfl
      · rename_i c1 c2
        rw [if_pos c1, if_neg c2] at h0
        exact absurd h0 c2
    · rename_i c1
      rw [if_neg c1] at h0
      exact absurd h0 c1
  refine ⟨he, fun fl => ⟨hK, by omega, by omega, by simp, ?_⟩⟩
  rw [(flat_roll _ _).1]
  omega
end
end Go.Proofs.YtkfmjkcomjmedaaGreat
namespace Go.Proofs.YtkfmjkcomjmedaaGreat
open Go.RowKit
set_option linter.unusedVariables false
set_option linter.unusedSimpArgs false

/-- What does leaves, whatever it was asked. -/
def StepE (own : Nat → Prop) (w : World) (G d l bb nb fl : Nat) (e : Ending) (w' : World) : Prop :=
  ∃ own' m' T L1 n1 ts1 r, e = .returned (.tuple #[.bool true, .bool r]) ∧ (∀ b, own b → own' b) ∧ Keeps (fun b => own b ∧ b ≠ G) w w' ∧ SideL own' w' G d l T (L1 ++ [(n1, ts1)]) n1 m' ∧ Pz bb nb fl T L1 n1 ts1
theorem DoE.step {bb nb fl : Nat} {own : Nat → Prop} {w : World} {G d l : Nat} {T : Ds} {F : Int} {L' : Lt} {n' : Nat} {e : Ending} {w' : World} (h : DoE own w G d l T F L' n' e w') {L1 : Lt} {ts1 : List (List UInt8)} (hL : L' = L1 ++ [(n', ts1)]) (hz : Pz bb nb fl T L1 n' ts1) : StepE own w G d l bb nb fl e w' := by
  obtain ⟨own', m', rfl, h1, h2, h3⟩ := h
  exact ⟨own', m', T, L1, n', ts1, _, rfl, h1, h2, hL ▸ h3, hz⟩
theorem does_all {bb nb fl : Nat} {own : Nat → Prop} {w : World} {G d l : Nat} {S : Ds} {L0 : Lt} {n : Nat} {ts : List (List UInt8)} {m : Value} (h : SideL own w G d l S (L0 ++ [(n, ts)]) n m) (hz : Pz bb nb fl S L0 n ts) (hbb : bb ≤ 180000) (hnb : nb ≤ 99999000) (hfl : fl ≤ 1000) (K N : Int) (hK : 1 ≤ K ∧ K ≤ 5) (hN : -9223372036854775808 ≤ N ∧ N ≤ 9223372036854775807) (s : ByteArray) (hs : s.size ≤ 512 ∨ 131072 < s.size) (hs2 : s.size ≤ 140737488351232) (ka : Option Addr) (kn kc : Nat) :
    Calls Tryz.prog 8 #[.pointer (some ⟨G, 0, none⟩), .agg #[.int .i64 K, .int .i64 N, .string s, .slice ka kn kc]] w (StepE own w G d l (bb + 600) (nb + 1) (fl + 1)) := by
  have hnn := hz.nn
  have hln := hz.ln
  have htl := hz.tl
  have hff := hz.fl
  have hnl : ∀ p ∈ S.files, p.1.length ≤ maxLen := by
    obtain ⟨C, hCS, hdk⟩ := h.sd.dk
    intro p hp
    have := (hdk.facts.2.2 p (by rw [hCS.1]; exact hp)).1
    exact this
  rcases (by omega : K = 1 ∨ K = 2 ∨ K = 3 ∨ K = 4 ∨ K = 5) with rfl | rfl | rfl | rfl | rfl
  · rcases hs with hs | hs
    · have hsl : s.data.toList.length ≤ 512 := by rw [Array.length_toList]; exact hs
      have hse : s = ⟨s.data.toList.toArray⟩ := by cases s; simp
      obtain ⟨ts1, hL, hz1⟩ := hz.add hsl
      rw [hse]
      exact (does_add h hz.ok (by omega) (by omega) (by omega) (by omega) N s.data.toList (by omega) ka kn kc).mono fun e w' he => DoE.step he hL hz1
    · exact (does_addbig h hz.ok s hs hs2 N ka kn kc).mono fun e w' he => DoE.step he rfl (hz.same hz.ok)
  · exact (does_flush h hz.ok (by omega) N s ka kn kc).mono fun e w' he => DoE.step he rfl (hz.same hz.ok.sync)
  · by_cases c : (rollR S n).2 = 0
    · exact (does_rollok h hz.ok (by omega) (by omega) c N s ka kn kc).mono fun e w' he => DoE.step he rfl (hz.roll (by omega))
    · exact (does_rollno h hz.ok (by omega) (by omega) c N s ka kn kc).mono fun e w' he => DoE.step he rfl (hz.rollno (by omega))
  · by_cases c : N ≤ (n : Int)
    · obtain ⟨L1, hL, hz1⟩ := hz.drop c
      exact (does_drop h hz.ok (by omega) (by omega) (by omega) hnl N c hN.1 s ka kn kc).mono fun e w' he => DoE.step he hL hz1
    · exact (does_dropbig h hz.ok N (by omega) s ka kn kc).mono fun e w' he => DoE.step he rfl (hz.same hz.ok)
  · exact (does_fuse h hz.ok N hN s ka kn kc).mono fun e w' he => DoE.step he rfl (hz.same (hz.ok.fuse2 hN))
/-- What the law has at every place: a log, or none. -/
def LogP (own : Nat → Prop) (w : World) (G d : Nat) (bb nb fl : Nat) (p : Value) (S : Ds) (m : Value) : Prop :=
  p = .pointer none ∨ ∃ l L0 n ts, p = .pointer (some ⟨l, 0, none⟩) ∧ SideL own w G d l S (L0 ++ [(n, ts)]) n m ∧ Pz bb nb fl S L0 n ts
def OpE (own : Nat → Prop) (w : World) (G d bb nb fl : Nat) (e : Ending) (w' : World) : Prop :=
  ∃ own' p' m' T, e = .returned (.bool true) ∧ (∀ b, own b → own' b) ∧ Keeps (fun b => own b ∧ b ≠ G) w w' ∧ SideD own' w' G d p' T m' ∧ OkS bb nb T ∧ LogP own' w' G d bb nb fl p' T m'
theorem opens_all {bb nb : Nat} (fl : Nat) {own : Nat → Prop} {w : World} {G d : Nat} {p m : Value} {S : Ds} (h : SideD own w G d p S m) (hp : ∃ po, p = .pointer po) (hk : OkS bb nb S) (hbb : bb ≤ 180000) (hnb : nb ≤ 99998000) (hn1 : 1048576 ≤ nb) (ka : Option Addr) (kc : Nat) (ks : List Int) (hkp : Kp own w ka ks) (hkG : ∀ b off, ka = some ⟨b, off, none⟩ → ks = [] ∨ b ≠ G) (hkl : ks.length ≤ 140737488355328) (N : Int) :
    Calls Tryz.prog 6 #[.pointer (some ⟨G, 0, none⟩), .int .i64 N, .slice ka ks.length kc] w (OpE own w G d bb (nb + 1) fl) := by
  have hkc := hk.crash ks
  by_cases c : 0 ≤ N ∧ N ≤ 1048576
  · obtain ⟨fr, rfl⟩ : ∃ fr : Nat, N = (fr : Int) := ⟨N.toNat, by omega⟩
    obtain ⟨hok, hlog⟩ := opens_ok hkc (fr := fr) hbb (by omega) (by omega)
    refine (opens_in h hp hk (by omega) (by omega) ka kc ks hkp hkG hkl fr (by omega)).mono ?_
    rintro e w' ⟨own', p', m', rfl, h1, h2, h3, h4, h5⟩
    refine ⟨own', p', m', _, rfl, h1, h2, h3, hok, ?_⟩
    by_cases c0 : ((S.crash ks).opens fr).2.1 = 0
    · obtain ⟨l, rfl, hw, hr⟩ := h4 c0
      obtain ⟨he, hz⟩ := hlog c0
      rw [he] at hw hr
      exact .inr ⟨l, _, _, _, rfl, ⟨h3, ⟨_, EqD.refl _, hw⟩, hr⟩, hz fl⟩
    · exact .inl (h5 c0)
  · refine (opens_out h hp hk (by omega) (by omega) ka kc ks hkp hkG hkl N (by omega)).mono ?_
    rintro e w' ⟨own', p', m', rfl, h1, h2, h3, h4, h5⟩
    exact ⟨own', p', m', _, rfl, h1, h2, h3, hkc.mono (Nat.le_refl _) (by omega), .inl (h5 (show (1 : Int) ≠ 0 by decide))⟩
end Go.Proofs.YtkfmjkcomjmedaaGreat
namespace Go.Proofs.YtkfmjkcomjmedaaGreat
open Go.RowKit
set_option linter.unusedVariables false
set_option linter.unusedSimpArgs false

section
variable {own : Nat → Prop} {w w' : World} {G d bb nb fl : Nat} {p m : Value} {S : Ds}
theorem SideD.fresh (h : SideD own w G d p S m) (hb : Below w.heap.size w w') : SideD (fun b => own b ∨ (w.heap.size ≤ b ∧ b < w'.heap.size)) w' G d p S m := by
  obtain ⟨⟨a, c, a1, n1, c1, a2, n2, c2, x, hg, hq, rfl⟩, hG, ht, ⟨C, hC, hd⟩⟩ := h
  exact ⟨⟨a, c, a1, n1, c1, a2, n2, c2, x, hg.old hb, hq.old hb, rfl⟩, .inl hG, tf_below ht hb, ⟨C, hC, hd.fresh hb⟩⟩
theorem SideL.fresh {l n : Nat} {L : Lt} (h : SideL own w G d l S L n m) (hb : Below w.heap.size w w') : SideL (fun b => own b ∨ (w.heap.size ≤ b ∧ b < w'.heap.size)) w' G d l S L n m := by
  obtain ⟨h1, ⟨C, hC, hw⟩, h3⟩ := h
  exact ⟨h1.fresh hb, ⟨C, hC, hw.fresh hb⟩, (h3.old hb).mono fun b _ h => ⟨.inl h.1, h.2⟩⟩
theorem LogP.fresh (h : LogP own w G d bb nb fl p S m) (hb : Below w.heap.size w w') : LogP (fun b => own b ∨ (w.heap.size ≤ b ∧ b < w'.heap.size)) w' G d bb nb fl p S m := by
  rcases h with h | ⟨l, L0, n, ts, h1, h2, h3⟩
  · exact .inl h
  · exact .inr ⟨l, L0, n, ts, h1, h2.fresh hb, h3⟩
theorem Pz.mono {L0 : Lt} {n : Nat} {ts : List (List UInt8)} (h : Pz bb nb fl S L0 n ts) {bb' nb' fl' : Nat} (h1 : bb ≤ bb') (h2 : nb ≤ nb') (h3 : fl ≤ fl') : Pz bb' nb' fl' S L0 n ts :=
  ⟨h.ok.mono h1 h2, by have := h.nn; omega, by have := h.ln; omega, by have := h.tl; omega, by have := h.fl; omega⟩
/-- What holds at each place of a script, with the blocks Q kept. -/
def PlB (Q : Nat → Prop) (G d bb nb fl : Nat) (p : Value) (W : World) : Prop :=
  ∃ own S m, SideD own W G d p S m ∧ OkS bb nb S ∧ LogP own W G d bb nb fl p S m ∧ ∀ b, Q b → own b ∧ b ≠ G
variable {Q : Nat → Prop} {W W' : World}
theorem PlB.weaken (h : PlB Q G d bb nb fl p W) {Q' : Nat → Prop} (hq : ∀ b, Q' b → Q b) : PlB Q' G d bb nb fl p W := by
  obtain ⟨own, S, m, h1, h2, h3, h4⟩ := h
  exact ⟨own, S, m, h1, h2, h3, fun b hb => h4 b (hq b hb)⟩
theorem PlB.g_lt (h : PlB Q G d bb nb fl p W) : G < W.heap.size := by
  obtain ⟨own, S, m, h1, -⟩ := h
  obtain ⟨a, c, a1, n1, c1, a2, n2, c2, x, hg, -⟩ := h1.gx
  exact cell_lt hg.g0
theorem PlB.q_lt (h : PlB Q G d bb nb fl p W) {b : Nat} (hb : Q b) : b < W.heap.size := by
  obtain ⟨own, S, m, h1, -, -, h4⟩ := h
  obtain ⟨C, -, hd⟩ := h1.dk
  exact hd.own (h4 b hb).1
theorem PlB.cell (h : PlB Q G d bb nb fl p W) : W.cell? ⟨G, 1, none⟩ = some p := by
  obtain ⟨own, S, m, h1, -⟩ := h
  obtain ⟨a, c, a1, n1, c1, a2, n2, c2, x, hg, -⟩ := h1.gx
  exact hg.g1
theorem PlB.shape (h : PlB Q G d bb nb fl p W) : p = .pointer none ∨ ∃ l, p = .pointer (some ⟨l, 0, none⟩) := by
  obtain ⟨own, S, m, -, -, h3, -⟩ := h
  rcases h3 with h | ⟨l, L0, n, ts, h, -⟩
  · exact .inl h
  · exact .inr ⟨l, h⟩
theorem PlB.fresh (h : PlB Q G d bb nb fl p W) (hb : Below W.heap.size W W') : PlB (fun b => Q b ∨ (W.heap.size ≤ b ∧ b < W'.heap.size)) G d bb nb fl p W' := by
  have hG := h.g_lt
  obtain ⟨own, S, m, h1, h2, h3, h4⟩ := h
  exact ⟨_, S, m, h1.fresh hb, h2, h3.fresh hb, fun b hb => hb.elim (fun h => ⟨.inl (h4 b h).1, (h4 b h).2⟩) (fun h => ⟨.inr h, by omega⟩)⟩
theorem PlB.mono (h : PlB Q G d bb nb fl p W) {bb' nb' fl' : Nat} (h1 : bb ≤ bb') (h2 : nb ≤ nb') (h3 : fl ≤ fl') : PlB Q G d bb' nb' fl' p W := by
  obtain ⟨own, S, m, a, b, c, e⟩ := h
  refine ⟨own, S, m, a, b.mono h1 h2, ?_, e⟩
  rcases c with c | ⟨l, L0, n, ts, c1, c2, c3⟩
  · exact .inl c
  · exact .inr ⟨l, L0, n, ts, c1, c2, c3.mono h1 h2 h3⟩
theorem PlB.does {l : Nat} (h : PlB Q G d bb nb fl (.pointer (some ⟨l, 0, none⟩)) W) (hbb : bb ≤ 180000) (hnb : nb ≤ 99999000) (hfl : fl ≤ 1000) (K N : Int) (hK : 1 ≤ K ∧ K ≤ 5) (hN : -9223372036854775808 ≤ N ∧ N ≤ 9223372036854775807) (s : ByteArray) (hs : s.size ≤ 512 ∨ 131072 < s.size) (hs2 : s.size ≤ 140737488351232) (ka : Option Addr) (kn kc : Nat) :
    Calls Tryz.prog 8 #[.pointer (some ⟨G, 0, none⟩), .agg #[.int .i64 K, .int .i64 N, .string s, .slice ka kn kc]] W fun e w' => ∃ r, e = .returned (.tuple #[.bool true, .bool r]) ∧ PlB Q G d (bb + 600) (nb + 1) (fl + 1) (.pointer (some ⟨l, 0, none⟩)) w' ∧ Keeps Q W w' := by
  obtain ⟨own, S, m, h1, h2, h3, h4⟩ := h
  rcases h3 with h3 | ⟨l', L0, n, ts, h3, h5, h6⟩
  · simp at h3
  · have hl : l' = l := by simpa using h3.symm
    subst hl
    refine (does_all h5 h6 hbb hnb hfl K N hK hN s hs hs2 ka kn kc).mono ?_
    rintro e w' ⟨own', m', T, L1, n1, ts1, r, rfl, e1, e2, e3, e4⟩
    exact ⟨r, rfl, ⟨own', T, m', e3.sd, e4.ok, .inr ⟨l', L1, n1, ts1, rfl, e3, e4⟩, fun b hb => ⟨e1 b (h4 b hb).1, (h4 b hb).2⟩⟩, e2.mono h4⟩
theorem PlB.opens (h : PlB Q G d bb nb fl p W) (hbb : bb ≤ 180000) (hnb : nb ≤ 99998000) (hn1 : 1048576 ≤ nb) (ka : Option Addr) (kc : Nat) (ks : List Int) (hkp : Kp Q W ka ks) (hkl : ks.length ≤ 140737488355328) (hkG : ∀ b off, ka = some ⟨b, off, none⟩ → ks = [] ∨ b ≠ G) (N : Int) :
    Calls Tryz.prog 6 #[.pointer (some ⟨G, 0, none⟩), .int .i64 N, .slice ka ks.length kc] W fun e w' => e = .returned (.bool true) ∧ (∃ p', PlB Q G d bb (nb + 1) fl p' w') ∧ Keeps Q W w' := by
  have hsh := h.shape
  obtain ⟨own, S, m, h1, h2, h3, h4⟩ := h
  have hkp' : Kp own W ka ks := ⟨hkp.1, by
    rcases hkp.2 with h | ⟨b, off, e1, e2, e3⟩
    · exact .inl h
    · exact .inr ⟨b, off, e1, (h4 b e2).1, e3⟩⟩
  refine (opens_all fl h1 (by rcases hsh with h | ⟨l, h⟩; exact ⟨_, h⟩; exact ⟨_, h⟩) h2 hbb hnb hn1 ka kc ks hkp' hkG hkl N).mono ?_
  rintro e w' ⟨own', p', m', T, rfl, e1, e2, e3, e4, e5⟩
  exact ⟨rfl, ⟨p', own', T, m', e3, e4, e5, fun b hb => ⟨e1 b (h4 b hb).1, (h4 b hb).2⟩⟩, e2.mono h4⟩
/-- What the law's check meets. -/
theorem PlB.check {l : Nat} (h : PlB Q G d bb nb fl (.pointer (some ⟨l, 0, none⟩)) W) (hfl : fl ≤ 1000) :
    ∃ (a1 : Option Addr) (c1 : Nat) (tx : List (List UInt8)) (n : Nat), W.cell? ⟨G, 5, none⟩ = some (.slice a1 tx.length c1) ∧ W.cell? ⟨G, 7, none⟩ = some (.int .i64 (n : Int)) ∧ Rd W a1 tx ∧ tx.length ≤ 100000000 ∧
      ∀ W', Below W.heap.size W W' → (Calls Tryz.prog 9 #[.pointer (some ⟨G, 0, none⟩)] W' fun e w' => e = .returned (.bool true) ∧ Below W'.heap.size W' w') ∧
        (Calls Tryz.prog 11 #[.pointer (some ⟨l, 0, none⟩)] W' fun e w' => ∃ a cap, e = .returned (.slice a tx.length cap) ∧ Rd w' a tx ∧ Below W'.heap.size W' w') ∧
        (Calls Tryz.prog 12 #[.pointer (some ⟨l, 0, none⟩)] W' fun e w' => e = .returned (.int .i64 (n : Int)) ∧ Below W'.heap.size W' w') := by
  obtain ⟨own, S, m, h1, h2, h3, h4⟩ := h
  rcases h3 with h3 | ⟨l', L0, n, ts, h3, h5, h6⟩
  · simp at h3
  · have hl : l' = l := by simpa using h3.symm
    subst hl
    have hff := h6.fl
    have hln := h6.ln
    obtain ⟨a, c, a1, n1, c1, a2, n2, c2, x, hg, -, hm⟩ := h5.sd.gx
    obtain ⟨b1, e1, b2, e2, hm2, hr, -⟩ := h5.rl
    rw [hm] at hm2
    simp at hm2
    obtain ⟨⟨rfl, rfl, rfl⟩, -, rfl⟩ := hm2
    refine ⟨a1, c1, flat (L0 ++ [(n, ts)]), n, hg.g5, hg.g7, hr, by omega, fun W' hb => ⟨same_yes (h5.sd.fresh hb), ?_, ?_⟩⟩
    · obtain ⟨C, -, hw⟩ := h5.wl
      refine (logall_any (hw.below hb) (by omega) (by simp; omega)).mono ?_
      rintro e w' ⟨a, cap, rfl, hr, hb'⟩
      exact ⟨a, cap, rfl, own_rd hr, hb'⟩
    · obtain ⟨C, -, hw⟩ := h5.wl
      exact last_any (hw.below hb)
end
end Go.Proofs.YtkfmjkcomjmedaaGreat
