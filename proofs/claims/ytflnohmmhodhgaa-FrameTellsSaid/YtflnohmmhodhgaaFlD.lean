/-
  Layer 3 (frame): the walk of the law FrameTells. Conditions: the slice within the form's reach.
-/
import Derived.Test.YtflnohmmhodhgaaFlC
import Derived.RegionTactic
import Derived.BigRegion
import Derived.StillTailTactics
namespace Go.Proofs.Ytflnohmmhodhgaa
open Go.RowKit

theorem turnL_same (S Y : List UInt8) (p m : Nat) (hp : p + m ≤ S.length) (hm : m ≤ Y.length) (ht : tn Y m = false) : turnL S p Y m = S := by
  have hx : ((S.drop p).take m).length = (Y.take m).length := by
    simp only [List.length_take, List.length_drop]
    omega
  have e := (zxl_same hx).2 ht
  unfold turnL
  rw [e, List.append_assoc, ← List.drop_drop, List.take_append_drop, List.take_append_drop]
theorem turnL_mid (A M C Y : List UInt8) (r m : Nat) (h : r + m ≤ M.length) : turnL (A ++ M ++ C) (A.length + r) Y m = A ++ turnL M r Y m ++ C := by
  unfold turnL
  rw [show A ++ M ++ C = A ++ (M ++ C) from List.append_assoc A M C, List.take_append, List.take_of_length_le (by omega : A.length ≤ A.length + r), List.drop_append, List.drop_of_length_le (by omega : A.length ≤ A.length + r), List.nil_append,
    List.drop_append (l₁ := A), List.drop_of_length_le (by omega : A.length ≤ A.length + r + m), List.nil_append,
    show A.length + r - A.length = r by omega, show A.length + r + m - A.length = r + m by omega,
    List.take_append_of_le_length (by omega : r ≤ M.length), List.drop_append_of_le_length (by omega : r ≤ M.length), List.drop_append_of_le_length (by omega : r + m ≤ M.length),
    List.take_append_of_le_length (by simp; omega)]
  simp
theorem frL_turn (x Y : List UInt8) (q j : Nat) (hq : q + j ≤ x.length) (hj : j ≤ Y.length) :
    turnL (frL x) ((vL x.length).length + q) Y j = txL (turnL x q Y j) ++ tailL (txL x) := by
  have hl := turnL_length x q Y j hq hj
  have h1 := turnL_mid (vL x.length) x (tailL (txL x)) Y q j hq
  have e : frL x = vL x.length ++ x ++ tailL (txL x) := rfl
  rw [e, h1]
  unfold txL
  rw [hl]
/-- What is read of frames of which one's text has bytes turned. -/
theorem fa_turn (ts : List (List UInt8)) (k q m : Nat) (Y : List UInt8) (hk : k < ts.length) (h : ∀ t ∈ ts, t.length ≤ 262144) (hq : q + m ≤ ts[k].length) (hm : m ≤ Y.length) (hY : Y.length = 4) (ht : tn Y m = true) :
    (fa (turnL (frs ts) ((frs (ts.take k)).length + ((vL ts[k].length).length + q)) Y m)).1 = ts.take k := by
  have e : frs ts = frs (ts.take k) ++ frL ts[k] ++ frs (ts.drop (k + 1)) := by
    rw [List.append_assoc, ← frs_cons, ← List.drop_eq_getElem_cons hk, ← frs_append, List.take_append_drop]
  have hl : (vL ts[k].length).length + q + m ≤ (frL ts[k]).length := by
    rw [frL_length]
    unfold txL
    rw [List.length_append]
    omega
  rw [e, turnL_mid _ _ _ _ _ _ hl, frL_turn _ _ _ _ hq hm, List.append_assoc, fa_frs _ _ (fun t hm => h t (List.mem_of_mem_take hm)),
    fa_no (ftR_turn _ _ _ _ _ (h _ (List.getElem_mem hk)) hq hm hY ht)]
  simp
theorem fa_all (ts : List (List UInt8)) (h : ∀ t ∈ ts, t.length ≤ 262144) : (fa (frs ts)).1 = ts := by
  have h1 := fa_frs ts [] h
  have h0 : fa [] = ([], 0) := fa_no (by decide +kernel)
  rw [List.append_nil, h0] at h1
  rw [h1]
  simp
theorem frs_split (ts : List (List UInt8)) (k : Nat) (hk : k < ts.length) : (frs (ts.take (k + 1))).length = (frs (ts.take k)).length + ((vL ts[k].length).length + ts[k].length + 4) ∧ (frs (ts.take (k + 1))).length ≤ (frs ts).length := by
  constructor
  · rw [List.take_succ_eq_append_getElem hk, frs_snoc, List.length_append, frL_length]
    unfold txL
    rw [List.length_append]
  · have : frs ts = frs (ts.take (k + 1)) ++ frs (ts.drop (k + 1)) := by rw [← frs_append, List.take_append_drop]
    rw [this, List.length_append]
    omega
theorem and_255 (n : Int) : ∃ N : Nat, N ≤ 255 ∧ bits .and .i64 n 255 = (N : Int) := by
  have h1 := i64_low 8 (by omega) 255 n (by decide)
  refine ⟨(n % 2 ^ 8).toNat, by omega, ?_⟩
  rw [h1]
  omega

set_option maxRecDepth 100000 in
set_option maxHeartbeats 1000000 in
theorem ftells_bad (a : Option Addr) (cap n : Nat) (ts : List (List UInt8)) (at_ : Int) (v0 v1 v2 v3 : Value) (w : World) (h : Rd w a ts) (hn : ts.length < 9223372036854775808) (hl : ts.length = n) (hg : ¬ good ts) :
    Calls Try.prog 6 #[.slice a n cap, .int .i64 at_, .agg #[v0, v1, v2, v3]] w fun e w' => e = .returned (.bool true) ∧ Below w.heap.size w w' := by
  have hc := fun w h => alls_any a cap ts w h hn
  rw [hl] at hc
  have HC := Lib.hid hc
  have HG := Lib.hid hg
  have HR := Lib.hid h
  clear hc h hg hl hn
  go_enter Try.func6, Try.ntmps6
  go_wp2_with fail
  refine (HC.out _ (HR.out.old ((Below.refl _ _).alloc (Nat.le_refl _) _))).mono ?_
  rintro e w1 ⟨b1, ⟨_, rfl⟩ | ⟨hg, _⟩⟩
  · go_wp2_with fail
    refine (awake_any _).mono ?_
    rintro e w2 ⟨rfl, b2⟩
    go_wp2
    go_ret
    exact ⟨rfl, ((Below.refl _ _).alloc (Nat.le_refl _) _).trans ((bt b1 b2).mono (by simp))⟩
  · exact absurd hg HG.out
set_option maxRecDepth 100000 in
set_option maxHeartbeats 1000000 in
theorem ftells_none (a : Option Addr) (cap : Nat) (at_ : Int) (v0 v1 v2 v3 : Value) (w : World) :
    Calls Try.prog 6 #[.slice a 0 cap, .int .i64 at_, .agg #[v0, v1, v2, v3]] w fun e w' => e = .returned (.bool true) ∧ Below w.heap.size w w' := by
  have hc := fun w => alls_any a cap [] w (.inl rfl) (by simp)
  have HC := Lib.hid hc
  clear hc
  go_enter Try.func6, Try.ntmps6
  go_wp2_with fail
  refine (HC.out _).mono ?_
  rintro e w1 ⟨b1, ⟨_, rfl⟩ | ⟨_, b, c, rfl, _⟩⟩
  all_goals
    go_wp2_with fail
    refine (awake_any _).mono ?_
    rintro e w2 ⟨rfl, b2⟩
    go_wp2
    go_ret
    exact ⟨rfl, ((Below.refl _ _).alloc (Nat.le_refl _) _).trans ((bt b1 b2).mono (by simp))⟩

set_option maxRecDepth 100000 in
set_option maxHeartbeats 4000000 in
theorem ftells_good (g0 o0 cap n : Nat) (ts : List (List UInt8)) (at_ : Int) (y0 y1 y2 y3 : UInt8) (w : World) (hlt0 : g0 < w.heap.size) (h : ∀ i (h : i < ts.length), w.cell? ⟨g0, o0 + i, none⟩ = some (.string ⟨ts[i].toArray⟩))
    (hl : ts.length = n) (hcap : n ≤ cap) (hg : good ts) (h0 : 0 < n) :
    Calls Try.prog 6 #[.slice (some ⟨g0, o0, none⟩) n cap, .int .i64 at_, .agg #[.int .u8 (y0.toNat : Int), .int .u8 (y1.toNat : Int), .int .u8 (y2.toNat : Int), .int .u8 (y3.toNat : Int)]] w fun e w' => e = .returned (.bool true) ∧ Below w.heap.size w w' := by
  have h12 : n ≤ 12 := by have := hg.1; omega
  have hc := fun w h => alls_any (some ⟨g0, o0, none⟩) cap ts w h (by omega)
  rw [hl] at hc
  obtain ⟨Y, hY⟩ : ∃ Y : List UInt8, Y = [y0, y1, y2, y3] := ⟨_, rfl⟩
  have hY4 : Y.length = 4 := by rw [hY]; rfl
  have hby : hasRow (w.alloc (.cells #[.int .u8 (y0.toNat : Int), .int .u8 (y1.toNat : Int), .int .u8 (y2.toNat : Int), .int .u8 (y3.toNat : Int)] 38)) w.heap.size Y := hasRow_box w _ _ _ _ _ Y hY
  have HY := Lib.hid hY
  have HY4 := Lib.hid hY4
  clear hY hY4
  obtain ⟨K, hK, eK⟩ := and_255 at_
  obtain ⟨k, hk⟩ : ∃ k, k = K % n := ⟨_, rfl⟩
  have hkn : k < n := by rw [hk]; exact Nat.mod_lt K h0
  have hkl : k < ts.length := by omega
  have ek : (K : Int) % (n : Int) = (k : Int) := by rw [hk, Int.natCast_emod]
  obtain ⟨x, hx⟩ : ∃ x, x = ts[k] := ⟨_, rfl⟩
  have hsp := frs_split ts k hkl
  have hsm := frs_small hg
  obtain ⟨S, hS⟩ : ∃ S, S = frs ts := ⟨_, rfl⟩
  obtain ⟨E, hE⟩ : ∃ E, E = (frs (ts.take (k + 1))).length := ⟨_, rfl⟩
  obtain ⟨F, hF⟩ : ∃ F, F = (frs (ts.take k)).length + (vL ts[k].length).length := ⟨_, rfl⟩
  rw [← hS] at hsm hsp
  rw [← hE] at hsp
  have hEF : E = F + x.length + 4 := by rw [hx, hF]; omega
  have hES : E ≤ S.length := hsp.2
  have hcx : w.cell? ⟨g0, o0 + k, none⟩ = some (.string ⟨x.toArray⟩) := by rw [hx]; exact h k hkl
  have HR := Lib.hid (show Rd w (some ⟨g0, o0, none⟩) ts from .inr ⟨g0, o0, rfl, hlt0, h⟩)
  have HC := Lib.hid hc
  have HG := Lib.hid hg
  have HL := Lib.hid hl
  have HK := Lib.hid hkl
  have HX := Lib.hid hx
  have HS := Lib.hid hS
  have HE := Lib.hid hE
  have HF := Lib.hid hF
  have hz := mk_size S
  have hxz := mk_size x
  clear hc hg hl hk hx hsp hS hE hF
  have hcx1 : (w.alloc (.cells #[.int .u8 (y0.toNat : Int), .int .u8 (y1.toNat : Int), .int .u8 (y2.toNat : Int), .int .u8 (y3.toNat : Int)] 38)).cell? ⟨g0, o0 + k, none⟩ = some (.string ⟨x.toArray⟩) :=
    (World.cell?_alloc_past _ g0 _ hlt0).trans hcx
  go_enter Try.func6, Try.ntmps6
  go_wp2_with fail
  refine (HC.out _ (HR.out.old ((Below.refl _ _).alloc (Nat.le_refl _) _))).mono ?_
  rintro e w1 ⟨b1, ⟨hg, _⟩ | ⟨_, b, c, rfl, hri⟩⟩
  · exact absurd HG.out hg
  · rw [← HS.out, HL.out]
    rcases hri with hn0 | ⟨g, off, rfl, hgb, hcell⟩
    · have h1 := endsL_length ts
      rw [hn0, HL.out] at h1
      have : n = 0 := h1.symm
      omega
    · have hcE := hcell k (by rw [endsL_length]; exact HK.out)
      rw [endsL_get ts k (by rw [endsL_length]; exact HK.out), ← HE.out] at hcE
      have hcX : w1.cell? ⟨g0, o0 + k, none⟩ = some (.string ⟨x.toArray⟩) := (b1.cell (p := ⟨g0, o0 + k, none⟩) (by simp; omega)).trans hcx1
      clear hcell HC hcx h
      have hEF4 : (E : Int) - 4 - (x.length : Int) = (F : Int) := by omega
      have hw4 : IntKind.i64.wrap ((E : Int) - 4) = (E : Int) - 4 := by rw [IntKind.wrap_i64]; omega
      have hwF : IntKind.i64.wrap ((E : Int) - 4 - (x.length : Int)) = (F : Int) := by rw [IntKind.wrap_i64]; omega
      go_wp2
      rw [ek]
      go_quiet (fail)
      have q1 : (w1.drewN nq).cell? ⟨g0, o0 + k, none⟩ = some (.string ⟨x.toArray⟩) := hcX
      have q2 : (w1.drewN nq).cell? ⟨g, off + k, none⟩ = some (.int .i64 (E : Nat)) := hcE
      have bl1 : Below w.heap.size w w1 := ((Below.refl _ _).alloc (Nat.le_refl _) _).trans (b1.mono (by simp))
      have q3 : Below w.heap.size w (w1.drewN nq) := below_drewN bl1 nq
      have q4 : hasRow (w1.drewN nq) w.heap.size Y := (hby.below (by simp) b1).drewN nq
      have q5 : w.heap.size < (w1.drewN nq).heap.size := by have := b1.size; simp at this; show w.heap.size < w1.heap.size; omega
      have q6 : g < (w1.drewN nq).heap.size := hgb
      have q7 := Lib.hid (HR.out.old q3)
      generalize w1.drewN nq = w2 at q1 q2 q3 q4 q5 q6 q7
      clear hcX hcE hby hcx1 bl1 b1 hgb hw4 hwF
      go_wp2
      rw [Lib.run_convert_string_bytes _ 9 39 5 ⟨S.toArray⟩ Try.underlying9 Try.underlying39 Try.underlying5]
      have hrow := hasRow_bytes w2 5 ⟨S.toArray⟩
      have hb2 := below_bytes w2 5 ⟨S.toArray⟩
      have hsz2 := Lib.bytesWorld_size w2 5 ⟨S.toArray⟩
      generalize Lib.bytesWorld w2 5 ⟨S.toArray⟩ = w3 at hrow hb2 hsz2
      generalize grownCap w2 (⟨S.toArray⟩ : ByteArray).size 0 5 = cp
      have c1 : w3.cell? ⟨g0, o0 + k, none⟩ = some (.string ⟨x.toArray⟩) := (hb2.cell (p := ⟨g0, o0 + k, none⟩) (by have := q3.size; show g0 < _; omega)).trans q1
      have c2 : w3.cell? ⟨g, off + k, none⟩ = some (.int .i64 (E : Nat)) := (hb2.cell (p := ⟨g, off + k, none⟩) q6).trans q2
      have c3 : Below w.heap.size w w3 := q3.trans (hb2.mono (by omega))
      have c4 : hasRow w3 w.heap.size Y := q4.below q5 hb2
      obtain ⟨B, hB⟩ : ∃ B, B = w2.heap.size := ⟨_, rfl⟩
      rw [← hB] at hrow q5 q6 hsz2
      rw [← hB]
      clear q1 q2 q3 q4 hb2 hB
      go_wp2
      obtain ⟨q, hqx, hq0⟩ : ∃ q : Nat, (q ≤ x.length) ∧ (0 < x.length → q < x.length ∧ (bits .and .i64 (at_ / 256) 65535).tmod (x.length : Int) = (q : Int)) := by
        by_cases h0 : 0 < x.length
        · obtain ⟨q, h1, h2⟩ := place_of (at_ / 256) x.length h0
          exact ⟨q, by omega, fun _ => ⟨h1, h2⟩⟩
        · exact ⟨0, by omega, fun h => absurd h h0⟩
      have HQ := Lib.hid hq0
      clear hq0
      go_loopw [13, 14, 15] (fun t i j' wr => ∃ j m : Nat, j ≤ 4 ∧ j ≤ x.length ∧ m ≤ j ∧ ((m = j ∧ q + j ≤ x.length) ∨ q + m = x.length) ∧ i = .int .i64 j ∧ t = .bool (tn Y m) ∧ Hid (hasRow wr B (turnL S (F + q) Y m)) ∧ hasRow wr w.heap.size Y ∧ Below w.heap.size w wr ∧
        wr.cell? ⟨g0, o0 + k, none⟩ = some (.string ⟨x.toArray⟩) ∧ wr.cell? ⟨g, off + k, none⟩ = some (.int .i64 (E : Nat))) (fun _ i _ _ => 4 - (intOf i).toNat)
      case atStart => exact ⟨0, 0, by omega, by omega, by omega, .inl ⟨rfl, by omega⟩, rfl, rfl, Lib.hid (by rw [turnL_zero]; exact hrow), c4, c3, c1, c2⟩
      case round =>
        obtain ⟨j, m, hj, hjx, hmj, hmq, rfl, rfl, hr, hy, hbel, d1, d2⟩ := hrel
        by_cases hgo : j < 4 ∧ j < x.length
        · obtain ⟨hj4, hjl⟩ := hgo
          obtain ⟨hqlt, hq⟩ := HQ.out (by omega)
          by_cases hqj : q + j < x.length
          · obtain rfl : m = j := by omega
            have hzl : S.length ≤ 3756 := hsm
            obtain ⟨p, hp⟩ : ∃ p, p = F + q := ⟨_, rfl⟩
            obtain ⟨P, hP⟩ : ∃ P, P = F + q + m := ⟨_, rfl⟩
            have hPn : (F : Int) + (q : Int) + (m : Int) = (P : Int) := by omega
            have hrl := turnL_length S p Y m (by omega) (by rw [HY4.out]; omega)
            have hqz : p + m < S.length := by omega
            have hjY : m < Y.length := by rw [HY4.out]; omega
            obtain ⟨u, hu⟩ : ∃ u, u = S[p + m] := ⟨_, rfl⟩
            obtain ⟨y, hyy⟩ : ∃ y, y = Y[m] := ⟨_, rfl⟩
            have hrr := hr.out
            rw [← hp] at hrr
            have hc : wr.cell? ⟨B, P, none⟩ = some (.int .u8 (u.toNat : Int)) := by
              have h1 := (hrr (p + m) (by omega)).1
              have h2 := turnL_get S p Y m (by omega) (by rw [HY4.out]; omega)
              rw [List.getElem?_eq_getElem (by omega)] at h2
              rw [Option.some.inj h2, ← hu, hp, ← hP] at h1
              exact h1
            have hf : wr.frozen? ⟨B, P, none⟩ = false := by rw [hP, ← hp]; exact (hrr (p + m) (by omega)).2
            have hcy : wr.cell? ⟨w.heap.size, m, none⟩ = some (.int .u8 (y.toNat : Int)) := by rw [hyy]; exact (hy m (by rw [HY4.out]; omega)).1
            have hj4' : (m : Int) < 4 := by omega
            have hpz : (P : Int) < (S.length : Int) := by omega
            have hxor : bits .xor .u8 (u.toNat : Int) (y.toNat : Int) = ((u ^^^ y).toNat : Int) := by
              rw [u8_xor_nat _ _ u.toNat_lt y.toNat_lt, UInt8.toNat_xor]
            have hq2 : q + (m + 1) ≤ x.length := by omega
            have HP := Lib.hid hp
            have HPP := Lib.hid hP
            have HPN := Lib.hid hPn
            have HU := Lib.hid hu
            have HYY := Lib.hid hyy
            have HXOR := Lib.hid hxor
            have HRR := Lib.hid hrr
            clear hp hP hPn hu hyy hxor hrl hrr
            have hne : (⟨B, P, none⟩ : Addr) ≠ ⟨w.heap.size, m, none⟩ := by
              intro c
              simp only [Addr.mk.injEq] at c
              omega
            have hcy2 : ∀ v, (wr.setCell ⟨B, P, none⟩ v).cell? ⟨w.heap.size, m, none⟩ = some (.int .u8 (y.toNat : Int)) := fun v => (World.cell?_setCell_other wr _ _ _ hne).trans hcy
            have hne1 : ∀ i, (⟨B, P, none⟩ : Addr) ≠ ⟨g0, i, none⟩ := by
              intro i c
              simp only [Addr.mk.injEq] at c
              omega
            have hne2 : ∀ i, (⟨B, P, none⟩ : Addr) ≠ ⟨g, i, none⟩ := by
              intro i c
              simp only [Addr.mk.injEq] at c
              omega
            have hend : ∀ t : Value, t = .bool (tn Y (m + 1)) → (∃ j m_1 : Nat, j ≤ 4 ∧ j ≤ x.length ∧ m_1 ≤ j ∧ ((m_1 = j ∧ q + j ≤ x.length) ∨ q + m_1 = x.length) ∧ Value.int .i64 ((m : Int) + 1) = .int .i64 j ∧ t = .bool (tn Y m_1) ∧
                Hid (hasRow (wr.setCell ⟨B, P, none⟩ (.int .u8 (bits .xor .u8 (u.toNat : Int) (y.toNat : Int)))).drew B (turnL S (F + q) Y m_1)) ∧
                hasRow (wr.setCell ⟨B, P, none⟩ (.int .u8 (bits .xor .u8 (u.toNat : Int) (y.toNat : Int)))).drew w.heap.size Y ∧
                Below w.heap.size w (wr.setCell ⟨B, P, none⟩ (.int .u8 (bits .xor .u8 (u.toNat : Int) (y.toNat : Int)))).drew ∧
                (wr.setCell ⟨B, P, none⟩ (.int .u8 (bits .xor .u8 (u.toNat : Int) (y.toNat : Int)))).drew.cell? ⟨g0, o0 + k, none⟩ = some (.string ⟨x.toArray⟩) ∧
                (wr.setCell ⟨B, P, none⟩ (.int .u8 (bits .xor .u8 (u.toNat : Int) (y.toNat : Int)))).drew.cell? ⟨g, off + k, none⟩ = some (.int .i64 (E : Nat))) := by
              intro t ht
              refine ⟨m + 1, m + 1, by omega, by omega, by omega, .inl ⟨rfl, by omega⟩, by go_num, ht, Lib.hid ?_, ?_, (hbel.setCell (by exact Nat.le_of_lt q5) _).drew, (World.cell?_setCell_other wr _ _ _ (hne1 _)).trans d1, (World.cell?_setCell_other wr _ _ _ (hne2 _)).trans d2⟩
              · rw [HXOR.out, HPP.out, ← HP.out, ← turnL_set S p Y m hqz hjY, ← HU.out, ← HYY.out]
                exact (HRR.out.set (p + m) (by rw [turnL_length _ _ _ _ (by omega) (by omega)]; exact hqz) _).drew
              · exact hasRow.drew (fun i hi => ⟨by
                  have hne : (⟨B, P, none⟩ : Addr) ≠ ⟨w.heap.size, i, none⟩ := by
                    intro c
                    simp only [Addr.mk.injEq] at c
                    omega
                  rw [World.cell?_setCell_other wr _ _ _ hne]
                  exact (hy i hi).1, by rw [World.frozen?_setCell]; exact (hy i hi).2⟩)
            have HEND := Lib.hid hend
            clear hend
            have hsn := tn_snoc Y m hjY
            rw [← HYY.out] at hsn
            by_cases htn : tn Y m = true
            · have HSN := Lib.hid hsn
              clear hsn
              go_wp2
              simp only [HPN.out]
              go_still_tail 11, (by kernel_rfl)
              change wpList _ _ _ _ _ wr.drew
              go_wp2
              go_roundw
              case rel => exact HEND.out _ (by rw [HSN.out, htn]; rfl)
              case measure => simp [intOf]; omega
            · have htn' : tn Y m = false := by simpa using htn
              clear htn
              by_cases hy0 : y = 0
              · have hyn : ((y.toNat : Int) != 0) = false := by rw [hy0]; rfl
                have HSN := Lib.hid hsn
                have HY0 := Lib.hid hy0
                clear hsn hy0
                go_wp2
                simp only [HPN.out]
                go_still_tail 11, (by kernel_rfl)
                change wpList _ _ _ _ _ wr.drew
                go_wp2
                go_roundw
                case rel => exact HEND.out _ (by rw [HSN.out, htn', HY0.out]; rfl)
                case measure => simp [intOf]; omega
              · have hyn : ((y.toNat : Int) != 0) = true := by
                  rw [bne_iff_ne]
                  intro e
                  exact hy0 (UInt8.toNat_inj.1 (by simpa using e))
                have hyn2 : (y != 0) = true := by rw [bne_iff_ne]; exact hy0
                have HSN := Lib.hid hsn
                have HY0 := Lib.hid hyn2
                clear hsn hy0 hyn2
                go_wp2
                simp only [HPN.out]
                go_still_tail 11, (by kernel_rfl)
                change wpList _ _ _ _ _ wr.drew
                go_wp2
                go_roundw
                case rel => exact HEND.out _ (by rw [HSN.out, htn', HY0.out]; rfl)
                case measure => simp [intOf]; omega
          · have hqm : q + m = x.length := by omega
            go_wp2
            go_roundw
            case rel => exact ⟨j + 1, m, by omega, by omega, by omega, .inr hqm, by go_num, rfl, hr, hy, hbel, d1, d2⟩
            case measure => simp [intOf]; omega
        · have hend : j = 4 ∨ j = x.length := by omega
          have hmY : m ≤ Y.length := by rw [HY4.out]; omega
          have hmx : q + m ≤ x.length := by omega
          have hmS : F + q + m ≤ S.length := by omega
          have hlen := turnL_length S (F + q) Y m hmS hmY
          obtain ⟨T, hT⟩ : ∃ T, T = turnL S (F + q) Y m := ⟨_, rfl⟩
          have hrr := hr.out
          rw [← hT] at hlen hrr
          have HLEN := Lib.hid hlen
          have HHR := Lib.hid hrr
          have HT := Lib.hid hT
          have hcv : ∀ w : World, hasRow w B T → (convert 39 9 (.slice (some ⟨B, 0, none⟩) S.length cp)).run Try.prog w = .ok (.string ⟨T.toArray⟩) w :=
            fun w h => run_str_row w 39 9 5 Try.underlying39 Try.underlying5 Try.underlying9 B S.length cp T HLEN.out h
          have HCV := Lib.hid hcv
          have hTs : (⟨T.toArray⟩ : ByteArray).size ≤ 262144 := by rw [mk_size T, HLEN.out]; omega
          have HTS := Lib.hid hTs
          have q8 : Rd wr (some ⟨g0, o0, none⟩) ts := HR.out.old hbel
          have HQ8 := Lib.hid q8
          have hd5 : (decide ((j : Int) < 4) = false) ∨ (((j : Int) < 4) ∧ (j : Int) = (x.length : Int)) := by
            rcases hend with hj4 | hjq
            · left; simp; omega
            · by_cases hj4 : j < 4
              · right; exact ⟨by omega, by omega⟩
              · left; simp; omega
          clear hcv hend hrr hT hlen hr hgo hTs q8
          have hn63 : n < 9223372036854775808 := by omega
          have hk63 : k < 9223372036854775808 := by omega
          by_cases htn : tn Y m = true
          · have hfa := fa_turn ts k q m Y HK.out (good_le HG.out) (by rw [← HX.out]; exact hmx) hmY HY4.out htn
            rw [← HS.out, ← Nat.add_assoc, ← HF.out, ← HT.out] at hfa
            have hall := fun w => all_at ⟨T.toArray⟩ T (fa T) w rfl HTS.out rfl
            rw [hfa] at hall
            have hkl : (ts.take k).length = k := by rw [List.length_take, HL.out]; omega
            rw [hkl] at hall
            have HALL := Lib.hid hall
            have HKL := Lib.hid hkl
            clear hfa hall hkl
            rcases hd5 with hd5 | ⟨hd5, hd6⟩
            all_goals
              go_wp2
              rw [HCV.out _ HHR.out]
              go_wp2_with fail
              refine (HALL.out _).mono ?_
              rintro e w4 ⟨a4, cap4, rfl, r4, b4⟩
              go_wp2_with fail
              refine (same_at a4 _ _ _ cap4 _ (ts.take k) (ts.take k) true _ r4 ((HQ8.out.old b4).take k) HKL.out HKL.out hk63 (by simp)).mono ?_
              rintro e w5 ⟨rfl, b5⟩
              go_wp2_with fail
              refine (awake_any _).mono ?_
              rintro e w6 ⟨rfl, b6⟩
              go_wp2
              go_ret
              exact ⟨rfl, hbel.trans ((bt (bt b4 b5) b6).mono hbel.size)⟩
          · have htn' : tn Y m = false := by simpa using htn
            have hTS := turnL_same S Y (F + q) m hmS hmY htn'
            rw [← HT.out, HS.out] at hTS
            have hfa := fa_all ts (good_le HG.out)
            rw [← hTS] at hfa
            have hall := fun w => all_at ⟨T.toArray⟩ T (fa T) w rfl HTS.out rfl
            rw [hfa, HL.out] at hall
            have HALL := Lib.hid hall
            clear hfa hall hTS htn
            rcases hd5 with hd5 | ⟨hd5, hd6⟩
            all_goals
              go_wp2
              rw [HCV.out _ HHR.out]
              go_wp2_with fail
              refine (HALL.out _).mono ?_
              rintro e w4 ⟨a4, cap4, rfl, r4, b4⟩
              go_wp2_with fail
              refine (same_at a4 _ _ _ cap4 _ ts ts true _ r4 (HQ8.out.old b4) HL.out HL.out hn63 (by simp)).mono ?_
              rintro e w5 ⟨rfl, b5⟩
              go_wp2_with fail
              refine (awake_any _).mono ?_
              rintro e w6 ⟨rfl, b6⟩
              go_wp2
              go_ret
              exact ⟨rfl, hbel.trans ((bt (bt b4 b5) b6).mono hbel.size)⟩
theorem walk_FrameTells (a : Option Addr) (cap : Nat) (ts : List (List UInt8)) (at_ : Int) (_ : (Lit.int .i64 at_).wf = true) (y0 y1 y2 y3 : UInt8) (w : World) (h : Rd w a ts) (hl : ts.length ≤ maxLen) (hc : ts.length ≤ cap) :
    Calls Try.prog 6 #[.slice a ts.length cap, .int .i64 at_, .agg #[.int .u8 (y0.toNat : Int), .int .u8 (y1.toNat : Int), .int .u8 (y2.toNat : Int), .int .u8 (y3.toNat : Int)]] w fun e w' => e = .returned (.bool true) ∧ Below w.heap.size w w' := by
  unfold maxLen at hl
  by_cases hg : ts.length ≤ 12 ∧ ∀ t ∈ ts, t.length ≤ 300
  · rcases h with rfl | ⟨b, off, rfl, hb, hcell⟩
    · exact ftells_none a cap at_ _ _ _ _ w
    · by_cases h0 : 0 < ts.length
      · exact ftells_good b off cap _ ts at_ y0 y1 y2 y3 w hb hcell rfl hc hg h0
      · obtain rfl : ts = [] := List.length_eq_zero_iff.1 (by omega)
        exact ftells_none _ cap at_ _ _ _ _ w
  · exact ftells_bad a cap _ ts at_ _ _ _ _ w h (by omega) rfl hg
end Go.Proofs.Ytflnohmmhodhgaa
