/-
  Layer 14 (once), plain: what the laws ask. Conditions: as each says.
-/
import Derived.Test.YtemaonfgledcmaaNp
namespace Go.Proofs.Ytemaonfgledcmaa
open Go.RowKit
set_option linter.unusedVariables false
set_option linter.unusedSimpArgs false

theorem chk_map {l : List Sn} (h : chk l = true) : chk (l.map normS) = true := by
  rw [chk_iff] at h ⊢
  refine ⟨fun x hx => ?_, asc_map normS_c h.2⟩
  rw [List.mem_map] at hx
  obtain ⟨y, hy, rfl⟩ := hx
  exact mayS_norm (h.1 y hy)
theorem jn_ok {a b : List Sn} (ha : chk a = true) (hb : chk b = true) : jnE a b = 0 ∧ jnR a b = jnL a b := by
  unfold jnE jnR
  rw [ha, hb]; exact ⟨rfl, rfl⟩
abbrev NO (x : Option Sn) : Option Sn := x.map normS
theorem pick_three (X Y Z : Option Sn) : NO (pick (NO (pick X Y)) Z) = NO (pick X (NO (pick Y Z))) := by
  cases X with
  | none =>
    cases Y with
    | none => cases Z <;> simp [pick, newer, NO, normS_norm]
    | some y =>
      cases Z with
      | none => simp [pick, newer, NO]
      | some z =>
        simp only [pick, newer, NO, if_true, Option.map_some, normS_s]
        by_cases h : y.s < z.s
        · simp [h, normS_norm]
        · simp [h, normS_norm]
  | some x =>
    cases Y with
    | none =>
      cases Z with
      | none => simp [pick, newer, NO, normS_norm]
      | some z =>
        simp only [pick, newer, NO, if_true, Option.map_some, normS_s]
        by_cases h : x.s < z.s
        · simp [h, normS_norm]
        · simp [h, normS_norm]
    | some y =>
      cases Z with
      | none =>
        simp only [pick, newer, NO, Option.map_some, normS_s]
        by_cases h : x.s < y.s
        · simp [h, normS_norm]
        · simp [h, normS_norm]
      | some z =>
        simp only [pick, newer, NO, Option.map_some, normS_s]
        by_cases h1 : x.s < y.s
        · by_cases h2 : y.s < z.s
          · have h3 : x.s < z.s := by omega
            simp [h1, h2, h3, normS_norm]
          · simp [h1, h2, normS_norm]
        · by_cases h2 : y.s < z.s
          · by_cases h3 : x.s < z.s
            · simp [h1, h2, h3, normS_norm]
            · simp [h1, h2, h3, normS_norm]
          · have h3 : ¬ x.s < z.s := by omega
            simp [h1, h2, h3, normS_norm]
/-- Join, as the code has it. -/
def jc (a b : List Sn) : List Sn := (jnL a b).map normS
theorem jc_chk {a b : List Sn} (ha : chk a = true) (hb : chk b = true) : chk (jc a b) = true := chk_map (jn_chk ha hb)
theorem jc_look {a b : List Sn} (hb : chk b = true) (c : Int) : look (jc a b) c = NO (pick (look a c) (look b c)) := by
  unfold jc
  rw [look_map normS_c, jn_look (chk_iff.1 hb).2]
theorem jc_three {x y z : List Sn} (hx : chk x = true) (hy : chk y = true) (hz : chk z = true) : jc (jc x y) z = jc x (jc y z) := by
  have h1 := jc_chk (jc_chk hx hy) hz
  have h2 := jc_chk hx (jc_chk hy hz)
  refine asc_ext (chk_iff.1 h1).2 (chk_iff.1 h2).2 fun c => ?_
  rw [jc_look hz, jc_look hy, jc_look (jc_chk hy hz), jc_look hz]
  exact pick_three _ _ _
def csS (x : Sn) : Sn := ⟨x.c, x.s, 0, ⟨#[]⟩, false, none, 0, 0, ⟨#[]⟩⟩
theorem jc_sides {x y : List Sn} (hx : chk x = true) (hy : chk y = true) : (jc x y).map csS = (jc y x).map csS := by
  have h1 := jc_chk hx hy
  have h2 := jc_chk hy hx
  have hc : ∀ x : Sn, (csS x).c = x.c := fun _ => rfl
  refine asc_ext (asc_map hc (chk_iff.1 h1).2) (asc_map hc (chk_iff.1 h2).2) fun c => ?_
  rw [look_map hc, look_map hc, jc_look hy, jc_look hx]
  cases hX : look x c with
  | none =>
    cases hY : look y c with
    | none => rfl
    | some b => simp [pick, newer, NO, csS]
  | some a =>
    cases hY : look y c with
    | none => simp [pick, newer, NO, csS]
    | some b =>
      have e1 := (look_some hX).2
      have e2 := (look_some hY).2
      simp only [pick, newer, NO]
      rcases Int.lt_trichotomy a.s b.s with h | h | h
      · have h' : ¬ b.s < a.s := by omega
        simp [h, h', csS]
      · have h' : ¬ b.s < a.s := by omega
        have h'' : ¬ a.s < b.s := by omega
        simp [h, csS, normS, e1, e2]
      · have h' : ¬ a.s < b.s := by omega
        simp [h, h', csS]
theorem jc_same {x : List Sn} (hx : chk x = true) : jc x x = x.map normS := by
  refine asc_ext (chk_iff.1 (jc_chk hx hx)).2 (asc_map normS_c (chk_iff.1 hx).2) fun c => ?_
  rw [jc_look hx, look_map normS_c]
  cases look x c with
  | none => rfl
  | some a => simp [pick, newer, NO]
theorem may_cs {x : Sn} (h : mayS x = true) : cliB x.c = true ∧ seqB x.s = true := by
  have := mayS_iff.1 h
  exact ⟨cliB_iff.2 this.1, seqB_iff.2 this.2.1⟩
/-- Find, where a number is there that is not less. -/
theorem fnd_old {l : List Sn} {x y : Sn} (hl : chk l = true) (hx : mayS x = true) (hy : look l x.c = some y) (hs : ¬ y.s < x.s) : (fndE l x.c x.s = 0 ∨ fndE l x.c x.s = 140) := by
  have h := may_cs hx
  have e : fndE l x.c x.s = if y.s < x.s then 3 else if x.s < y.s then 140 else 0 := by
    unfold fndE
    rw [if_pos (by rw [hl, h.1, h.2]; rfl), hy]
  rw [e, if_neg hs]
  split
  · exact .inr rfl
  · exact .inl rfl
theorem jc_found {x y : List Sn} (hx : chk x = true) (hy : chk y = true) {a : Sn} (ha : a ∈ x) : fndE (jc x y) a.c a.s = 0 ∨ fndE (jc x y) a.c a.s = 140 := by
  have hm := (chk_iff.1 hx).1 a ha
  have hl := look_mem (chk_iff.1 hx).2 ha
  have hj := jc_look (a := x) hy a.c
  rw [hl] at hj
  cases hY : look y a.c with
  | none =>
    rw [hY] at hj
    exact fnd_old (jc_chk hx hy) hm (y := normS a) (by rw [hj]; rfl) (by rw [normS_s]; omega)
  | some b =>
    rw [hY] at hj
    by_cases h : a.s < b.s
    · exact fnd_old (jc_chk hx hy) hm (y := normS b) (by rw [hj]; simp [pick, newer, h, NO]) (by rw [normS_s]; omega)
    · exact fnd_old (jc_chk hx hy) hm (y := normS a) (by rw [hj]; simp [pick, newer, h, NO]) (by rw [normS_s]; omega)
theorem put_codes {l : List Sn} {x : Sn} (hl : chk l = true) (hx : mayS x = true) : putE l x = if newer (look l x.c) x.s = true then 0 else 140 := by
  unfold putE; rw [hl, hx]; rfl
theorem put_not {l : List Sn} {x : Sn} (hl : chk l = true) (hx : mayS x = true) (h : ¬ putE l x = 0) : putE l x = 140 ∧ (fndE l x.c x.s = 0 ∨ fndE l x.c x.s = 140) := by
  rw [put_codes hl hx] at h ⊢
  by_cases q : newer (look l x.c) x.s = true
  · rw [if_pos q] at h; exact absurd rfl h
  · rw [if_neg q]
    refine ⟨rfl, ?_⟩
    cases hy : look l x.c with
    | none => rw [hy] at q; exact absurd rfl q
    | some y =>
      rw [hy] at q
      exact fnd_old hl hx hy (by simpa [newer] using q)
/-- What is put is found; others are as they were. -/
theorem put_yes {l : List Sn} {x : Sn} (hl : chk l = true) (hx : mayS x = true) (h : putE l x = 0) :
    chk ((putL l x).map normS) = true ∧ fndE ((putL l x).map normS) x.c x.s = 0 ∧ fndS ((putL l x).map normS) x.c x.s = normS x ∧ putE ((putL l x).map normS) x = 140 ∧
      ∀ k, ¬ k = x.c → fndE ((putL l x).map normS) k 5 = fndE l k 5 ∧ normS (fndS ((putL l x).map normS) k 5) = normS (fndS l k 5) := by
  rw [(putL_ok h).1]
  have hc := chk_map (pt_chk hl hx)
  have hlk : look ((pt x false l).map normS) x.c = some (normS x) := by rw [look_map normS_c, pt_look, if_pos rfl]; rfl
  have hm := may_cs hx
  have he : fndE ((pt x false l).map normS) x.c x.s = 0 := by
    unfold fndE
    rw [if_pos (by rw [hc, hm.1, hm.2]; rfl), hlk]
    simp
  refine ⟨hc, he, ?_, ?_, fun k hk => ?_⟩
  · unfold fndS; rw [if_pos he, hlk]; rfl
  · rw [put_codes hc hx, hlk]; simp [newer]
  · have hlk2 : look ((pt x false l).map normS) k = NO (look l k) := by rw [look_map normS_c, pt_look, if_neg hk]
    have e : fndE ((pt x false l).map normS) k 5 = fndE l k 5 := by
      unfold fndE
      rw [hc, hl, hlk2]
      cases look l k <;> rfl
    refine ⟨e, ?_⟩
    unfold fndS
    rw [e, hlk2]
    by_cases h0 : fndE l k 5 = 0
    · rw [if_pos h0, if_pos h0]
      cases look l k <;> rfl
    · rw [if_neg h0, if_neg h0]
end Go.Proofs.Ytemaonfgledcmaa
