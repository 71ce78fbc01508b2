/-
  Layer 5 (fs), contract of Crash. Conditions: texts within the form's reach.
-/
import Derived.Test.YthikedhbjphmeaaDs
import Derived.Test.YthikedhbjphmeaaDt
import Derived.LoopN
namespace Go.Proofs.Ythikedhbjphmeaa
open Go.RowKit Go.Lib
set_option linter.unusedVariables false

/-! ### plain -/
def keepAt (ks : List Int) (i : Nat) : Int := if ks.length = 0 then 0 else ks.getD (i % ks.length) 0
def crashTo {α : Type} (c : Nat → α → α) (i : Nat) (l : List (List UInt8 × α)) : List (List UInt8 × α) := l.mapIdx fun j p => if j < i then (p.1, c j p.2) else p
def Ds.crash (S : Ds) (ks : List Int) : Ds := ⟨S.files.mapIdx fun j p => (p.1, cutF (keepAt ks j) p.2), -1, false⟩
theorem crashTo_zero {α : Type} (c : Nat → α → α) (l : List (List UInt8 × α)) : crashTo c 0 l = l := by
  unfold crashTo
  apply List.ext_getElem (by simp)
  intro j h1 h2
  simp
theorem crashTo_length {α : Type} (c : Nat → α → α) (i : Nat) (l : List (List UInt8 × α)) : (crashTo c i l).length = l.length := by simp [crashTo]
theorem crashTo_all {α : Type} (c : Nat → α → α) (l : List (List UInt8 × α)) : crashTo c l.length l = l.mapIdx fun j p => (p.1, c j p.2) := by
  unfold crashTo
  apply List.ext_getElem (by simp)
  intro j h1 h2
  simp at h1
  simp [h1]
theorem crashTo_get {α : Type} (c : Nat → α → α) (i : Nat) (l : List (List UInt8 × α)) (h : i < l.length) : (crashTo c i l)[i]'(by rw [crashTo_length]; exact h) = l[i] := by
  simp [crashTo]
theorem crashTo_keys {α : Type} (c : Nat → α → α) (i : Nat) (l : List (List UInt8 × α)) : (crashTo c i l).map (·.1) = l.map (·.1) := by
  unfold crashTo
  apply List.ext_getElem (by simp)
  intro j h1 h2
  simp
  split <;> rfl
theorem setL_at {α : Type} : ∀ {l : List (List UInt8 × α)} (_ : Srt l) (i : Nat) (h : i < l.length) (v : α), setL l[i].1 v l = l.set i (l[i].1, v)
  | [], _, i, h, _ => by simp at h
  | y :: r, hs, i, h, v => by
    obtain ⟨h1, h2⟩ := List.pairwise_cons.1 hs
    match i with
    | 0 =>
      have hr : r.map (fun p => if p.1 == y.1 then (p.1, v) else p) = r := by
        conv => rhs; rw [← List.map_id r]
        refine List.map_congr_left fun p hp => ?_
        have := h1 p hp
        rw [if_neg]
        · rfl
        · intro e
          rw [beq_iff_eq.1 e, WideAt.bytes_irrefl] at this; cases this
      unfold setL
      simp only [List.getElem_cons_zero, List.map_cons, List.set_cons_zero]
      rw [hr, if_pos (by simp)]
    | i + 1 =>
      have hi : i < r.length := by simpa using h
      have ih := setL_at h2 i hi v
      have hne : ¬ (y.1 == r[i].1) = true := by
        intro e
        have := h1 _ (List.getElem_mem hi)
        rw [← beq_iff_eq.1 e, WideAt.bytes_irrefl] at this; cases this
      unfold setL at ih ⊢
      simp only [List.getElem_cons_succ, List.map_cons, List.set_cons_succ]
      rw [ih, if_neg hne]
theorem crashTo_step {α : Type} (c : Nat → α → α) {l : List (List UInt8 × α)} (hs : Srt l) (i : Nat) (h : i < l.length) : setL l[i].1 (c i l[i].2) (crashTo c i l) = crashTo c (i + 1) l := by
  have hs2 : Srt (crashTo c i l) := by
    unfold Srt
    have e := crashTo_keys c i l
    have h3 : (l.map (·.1)).Pairwise fun p q => bytesBefore p q = true := by rw [List.pairwise_map]; exact hs
    rw [← e, List.pairwise_map] at h3
    exact h3
  have h1 := setL_at hs2 i (by rw [crashTo_length]; exact h) (c i l[i].2)
  rw [crashTo_get c i l h] at h1
  rw [h1]
  apply List.ext_getElem (by simp [crashTo])
  intro j h2 h3
  simp [crashTo] at h3
  rw [List.getElem_set]
  by_cases e : i = j
  · subst e
    simp [crashTo]
  · rw [if_neg e]
    simp only [crashTo, List.getElem_mapIdx]
    by_cases e2 : j < i
    · rw [if_pos e2, if_pos (by omega)]
    · rw [if_neg e2, if_neg (by omega)]
theorem srt_getL {α : Type} {l : List (List UInt8 × α)} (hs : Srt l) (i : Nat) (h : i < l.length) : getL l[i].1 l = some l[i].2 := (getL_iff hs).2 (List.getElem_mem h)

/-! ### in memory -/
/-- A ghost's file is cut. -/
def cutG (ks : List Int) (j : Nat) (g : Gf) : Gf := ⟨cutF (keepAt ks j) g.fl, g.blk, g.row⟩
theorem crash_fl (ks : List Int) (G : List (List UInt8 × Gf)) : mapL Gf.fl (G.mapIdx fun j p => (p.1, cutG ks j p.2)) = (mapL Gf.fl G).mapIdx fun j p => (p.1, cutF (keepAt ks j) p.2) := by
  unfold mapL
  apply List.ext_getElem (by simp)
  intro j h1 h2
  simp [cutG]
/-- A list of numbers that a caller has. -/
def Kp (own : Nat → Prop) (w : World) (a : Option Addr) (ks : List Int) : Prop :=
  (∀ n ∈ ks, -9223372036854775808 ≤ n ∧ n ≤ 9223372036854775807) ∧ (ks = [] ∨ ∃ b off, a = some ⟨b, off, none⟩ ∧ own b ∧ ∀ i (h : i < ks.length), w.cell? ⟨b, off + i, none⟩ = some (.int .i64 ks[i]))
theorem Kp.keeps {own : Nat → Prop} {w w' : World} {a : Option Addr} {ks : List Int} (h : Kp own w a ks) (k : Keeps own w w') : Kp own w' a ks := by
  refine ⟨h.1, ?_⟩
  rcases h.2 with h | ⟨b, off, h1, h2, h3⟩
  · exact .inl h
  · exact .inr ⟨b, off, h1, h2, fun i hi => (k.cell b _ h2).trans (h3 i hi)⟩
theorem Kp.nil (own : Nat → Prop) (w : World) (a : Option Addr) : Kp own w a [] := ⟨by simp, .inl rfl⟩
theorem Dsk.key {own : Nat → Prop} {w : World} {d m : Nat} {G : List (List UInt8 × Gf)} {fuse : Int} {off : Bool} (h : Dsk own w d m G fuse off) {p : List UInt8 × Gf} (hp : p ∈ G) :
    keyOf Try.prog 9 (.string ⟨p.1.toArray⟩) = some (.string p.1) := by
  obtain ⟨es, c, h1, F, h3, hD⟩ := h.mp
  unfold fD at hD
  simp only [DataW.map.injEq] at hD
  have hm : (Lit.string p.1, (DataW.lit (.int .i64 (p.2.blk : Int)) : DataW Unit)) ∈ (es.toList.map (WideElems.rg Try.prog 9 fR)).foldr DataW.insert [] := by
    rw [← hD]
    unfold mapL
    rw [List.map_map]
    exact List.mem_map.2 ⟨p, hp, rfl⟩
  rw [mem_sorted] at hm
  obtain ⟨x, hx, hx2⟩ := List.mem_map.1 hm
  obtain ⟨y, hy⟩ := F.reads x hx
  have hk := WideElems.rd_key hy
  have he : WideElems.rg Try.prog 9 fR x = y := by unfold WideElems.rg; rw [hy]; rfl
  rw [he] at hx2
  subst hx2
  obtain ⟨s, hs1, hs2, hs3⟩ := Maps.keyOf_str Try.underlying9 hk
  cases hs2
  rw [hs1] at hk
  exact hk
theorem names_at {w1 : World} {base : Nat} {ns : List (List UInt8)} {a : Option Addr} {n cap : Nat} (h : NamesV w1 base ns (.slice a n cap)) :
    ns = [] ∨ ∃ b, a = some ⟨b, 0, none⟩ ∧ base ≤ b ∧ b < w1.heap.size ∧ ∀ i (h : i < ns.length), w1.cell? ⟨b, i, none⟩ = some (.string ⟨ns[i].toArray⟩) := by
  unfold NamesV at h
  rcases h.2 with ⟨hv, hn⟩ | ⟨g, cap', cur, hv, hbg, hh, _⟩
  · exact .inl (List.eq_nil_of_length_eq_zero hn)
  · simp only [Value.slice.injEq] at hv
    obtain ⟨rfl, rfl, rfl⟩ := hv
    refine .inr ⟨g, rfl, hbg, heap_lt hh, fun i hi => ?_⟩
    rw [h.cellAt i (by omega)]
    simp [sv, hi]
theorem names_get {w1 : World} {base : Nat} {ns : List (List UInt8)} {a : Option Addr} (h : ns = [] ∨ ∃ b, a = some ⟨b, 0, none⟩ ∧ base ≤ b ∧ b < w1.heap.size ∧ ∀ i (h : i < ns.length), w1.cell? ⟨b, i, none⟩ = some (.string ⟨ns[i].toArray⟩)) {i : Nat} (hi : i < ns.length) :
    ∃ b, a = some ⟨b, 0, none⟩ ∧ base ≤ b ∧ b < w1.heap.size ∧ w1.cell? ⟨b, i, none⟩ = some (.string ⟨ns[i].toArray⟩) := by
  rcases h with rfl | ⟨b, h1, h2, h3, h4⟩
  · simp at hi
  · exact ⟨b, h1, h2, h3, h4 i hi⟩
theorem crashTo_mem {ks : List Int} {G : List (List UInt8 × Gf)} {i : Nat} (h : i < G.length) : G[i].1 = ((G.map (·.1))[i]'(by simpa using h)) := by simp
set_option maxRecDepth 100000 in
set_option maxHeartbeats 4000000 in
theorem crash_any {own : Nat → Prop} {w : World} {d : Nat} {S : Ds} (h : DiskAt own w d S) (a : Option Addr) (cap : Nat) (ks : List Int) (hk : Kp own w a ks) (hkl : ks.length ≤ maxLen) :
    Calls Try.prog 13 #[.pointer (some ⟨d, 0, none⟩), .slice a ks.length cap] w fun e w' => e = .returned (.int .i64 0) ∧ DiskAt own w' d (S.crash ks) ∧ Keeps own w w' := by
  obtain ⟨m, G, h, hF⟩ := h
  have hG := given_yes d w h.cells.c0
  have hN := names_dsk h
  have hlen := h.len
  have HKp := Lib.hid hk
  have HF := Lib.hid hF
  have H := Lib.hid h
  unfold maxLen at hkl
  clear hk hF h
  go_enter Try.func13, Try.ntmps13
  go_wp2_with (go_at_call 32; refine hG.mono ?_; rintro e w' ⟨rfl, rfl⟩)
  refine hN.mono ?_
  rintro e w1 ⟨v, rfl, hv, hb⟩
  have h1 := H.out.fresh hb
  have k1 : Keeps own w w1 := Keeps.of_below hb fun b hb => (H.out.own b hb).1
  obtain ⟨na, ncap, rfl⟩ := own_slice hv
  have hrd := names_at hv
  have H1 := Lib.hid h1
  have K1 := Lib.hid k1
  have HRD := Lib.hid hrd
  simp only [List.length_map]
  clear h1 k1 hrd hv hb hN hG
  go_wp2
  go_loopw [14] (fun i wr => ∃ k : Nat, k ≤ G.length ∧ i = .int .i64 k ∧ Dsk (fun b => own b ∨ (w.heap.size ≤ b ∧ b < w1.heap.size)) wr d m (crashTo (cutG ks) k G) S.fuse S.off ∧ Keeps (fun b => own b ∨ (w.heap.size ≤ b ∧ b < w1.heap.size)) w1 wr) (fun i _ => G.length - (intOf i).toNat)
  case atStart => exact ⟨0, Nat.zero_le _, rfl, by rw [crashTo_zero]; exact H1.out, Keeps.refl _ _⟩
  case round =>
    obtain ⟨k, hkn, rfl, hd, hkk⟩ := hrel
    by_cases hlt : k < G.length
    · obtain ⟨nb, rfl, hnb1, hnb2, hnc⟩ := names_get HRD.out (i := k) (by simpa using hlt)
      have hnc2 : wr.cell? ⟨nb, k, none⟩ = some (.string ⟨G[k].1.toArray⟩) := by
        rw [hkk.cell nb k (.inr ⟨hnb1, hnb2⟩), hnc]
        simp
      have hin : G[k] ∈ crashTo (cutG ks) k G := by
        have := List.getElem_mem (l := crashTo (cutG ks) k G) (n := k) (by rw [crashTo_length]; exact hlt)
        rwa [crashTo_get] at this
      have hget : getL G[k].1 (crashTo (cutG ks) k G) = some G[k].2 := (getL_iff hd.srt).2 hin
      have hkey := hd.key hin
      obtain ⟨lv, lps, hrun, hlv⟩ := hd.mp.lookup (Maps.string_keyed Try.underlying9) Try.underlying43 (Try.zeroValue65 wr) (zd := .nil) (zp := []) rfl hkey
      rw [fD_at, getL_mapL, hget] at hlv
      obtain rfl := fR_inv hlv
      obtain ⟨c0, c1, c2, c3, f2, f3, lt⟩ := hd.cells
      have hkp := HKp.out.keeps K1.out
      have hkp2 := (show Kp (fun b => own b ∨ (w.heap.size ≤ b ∧ b < w1.heap.size)) w1 a ks from ⟨hkp.1, hkp.2.imp id fun ⟨b, off, h1, h2, h3⟩ => ⟨b, off, h1, .inl h2, h3⟩⟩).keeps hkk
      have hstep := crashTo_step (cutG ks) H1.out.srt k hlt
      have HD := Lib.hid hd
      have HKK := Lib.hid hkk
      have HST := Lib.hid hstep
      have HGT := Lib.hid hget
      have HKP2 := Lib.hid hkp2
      clear hd hkk hstep hget hkp hkp2 hlv hkey hin hnc
      have hnil : (⟨G[k].1.toArray⟩ : ByteArray) = ⟨G[k].1.toArray⟩ := rfl
      generalize hnm : (⟨G[k].1.toArray⟩ : ByteArray) = nm at hnc2 hrun
      clear hnm hnil
      by_cases hz : ks.length = 0
      · have hz0 : ¬ (0 : Int) < (ks.length : Int) := by omega
        have C := fcrash_any HD.out HGT.out (keepAt ks k) (by unfold keepAt; rw [if_pos hz]; omega)
        have e0 : keepAt ks k = 0 := by unfold keepAt; rw [if_pos hz]
        rw [e0] at C
        have HC := Lib.hid C
        have HE := Lib.hid e0
        have HZ := Lib.hid hz
        clear C e0 hz
        go_wp2_with (go_at_call 33; refine HC.out.mono ?_; rintro e w3 ⟨⟨v3, rfl⟩, h3, k3⟩; (have H3 := Lib.hid h3); (have K3 := Lib.hid k3); clear h3 k3)
        go_roundw
        case rel =>
          refine ⟨k + 1, by omega, by go_num, ?_, HKK.out.trans K3.out⟩
          have h4 := H3.out
          rw [← HE.out] at h4
          rw [← HST.out]
          exact h4
        case measure => simp [intOf]; omega
      · have hz0 : (0 : Int) < (ks.length : Int) := by omega
        have hrl : k % ks.length < ks.length := Nat.mod_lt _ (by omega)
        obtain ⟨kb, off, rfl, hkb⟩ : ∃ kb off, a = some ⟨kb, off, none⟩ ∧ wr.cell? ⟨kb, off + k % ks.length, none⟩ = some (.int .i64 (keepAt ks k)) := by
          rcases HKP2.out.2 with h | ⟨b, off, h1, _, h3⟩
          · rw [h] at hz; exact absurd rfl hz
          · refine ⟨b, off, h1, ?_⟩
            rw [h3 _ hrl]
            unfold keepAt
            rw [if_neg hz, List.getD_eq_getElem?_getD, List.getElem?_eq_getElem hrl]
            rfl
        have hrange : -9223372036854775808 ≤ keepAt ks k ∧ keepAt ks k ≤ 9223372036854775807 := by
          unfold keepAt
          rw [if_neg hz, List.getD_eq_getElem?_getD, List.getElem?_eq_getElem hrl]
          exact HKP2.out.1 _ (List.getElem_mem hrl)
        have C := fcrash_any HD.out HGT.out (keepAt ks k) hrange
        have em : (k : Int) % (ks.length : Int) = ((k % ks.length : Nat) : Int) := by omega
        have em2 : (k : Int).tmod (ks.length : Int) = ((k % ks.length : Nat) : Int) := by rw [Int.tmod_eq_emod_of_nonneg (by omega)]; exact em
        generalize hr : k % ks.length = r at em em2 hkb hrl
        generalize hka : keepAt ks k = q at hkb C hrange
        have HC := Lib.hid C
        have HE := Lib.hid hka
        have HZ := Lib.hid hz
        clear C hka hz hr
        go_wp2_with (go_at_call 33; refine HC.out.mono ?_; rintro e w3 ⟨⟨v3, rfl⟩, h3, k3⟩; (have H3 := Lib.hid h3); (have K3 := Lib.hid k3); clear h3 k3)
        go_roundw
        case rel =>
          refine ⟨k + 1, by omega, by go_num, ?_, HKK.out.trans K3.out⟩
          have h4 := H3.out
          rw [← HE.out] at h4
          rw [← HST.out]
          exact h4
        case measure => simp [intOf]; omega
    · have hke : k = G.length := by omega
      have HK := Lib.hid hke
      obtain ⟨c0, c1, c2, c3, f2, f3, lt⟩ := hd.cells
      have HD := Lib.hid hd
      have HKK := Lib.hid hkk
      clear hke hd hkk
      go_wp2
      go_ret
      have h5 := HD.out
      rw [HK.out, crashTo_all] at h5
      have h6 := h5.setOff false
      have h7 := h6.setFuse (-1) (by omega)
      refine ⟨rfl, ⟨m, _, h7.weaken (fun b hb => .inl hb), by rw [crash_fl, HF.out]; rfl⟩, ?_⟩
      exact K1.out.trans (((HKK.out.trans (h5.keepsCell _ _)).trans (h6.keepsCell _ _)).mono fun b hb => .inl hb)
end Go.Proofs.Ythikedhbjphmeaa
