/-
  Layer 3 (frame): the walk of the law FrameCuts. Conditions: the slice within the form's reach.
-/
import Derived.Test.YtflnohmmhodhgaaFlB
namespace Go.Proofs.Ytflnohmmhodhgaa
open Go.RowKit

theorem bad_nil {ts : List (List UInt8)} (h : ¬ good ts) : ts ≠ [] := by
  rintro rfl
  exact h ⟨by simp, by simp⟩
set_option maxRecDepth 100000 in
set_option maxHeartbeats 1000000 in
theorem cuts_bad (a : Option Addr) (cap n : Nat) (ts : List (List UInt8)) (left : Int) (w : World) (h : Rd w a ts) (hn : ts.length < 9223372036854775808) (hl : ts.length = n) (hg : ¬ good ts) :
    Calls Try.prog 5 #[.slice a n cap, .int .i64 left] w fun e w' => e = .returned (.bool true) ∧ Below w.heap.size w w' := by
  have hc := alls_any a cap ts w h hn
  rw [hl] at hc
  have HC := Lib.hid hc
  have HG := Lib.hid hg
  clear hc h hg hl hn
  go_enter Try.func5, Try.ntmps5
  go_wp2_with fail
  refine HC.out.mono ?_
  rintro e w1 ⟨b1, ⟨_, rfl⟩ | ⟨hg, _⟩⟩
  · go_wp2_with fail
    refine (awake_any _).mono ?_
    rintro e w2 ⟨rfl, b2⟩
    go_wp2
    go_ret
    exact ⟨rfl, bt b1 b2⟩
  · exact absurd hg HG.out
set_option maxRecDepth 100000 in
set_option maxHeartbeats 1000000 in
theorem cuts_good (a : Option Addr) (cap n : Nat) (ts : List (List UInt8)) (left : Int) (w : World) (h : Rd w a ts) (hl : ts.length = n) (hcap : n ≤ cap) (hg : good ts) :
    Calls Try.prog 5 #[.slice a n cap, .int .i64 left] w fun e w' => e = .returned (.bool true) ∧ Below w.heap.size w w' := by
  have h12 : n ≤ 12 := by have := hg.1; omega
  have hc := alls_any a cap ts w h (by omega)
  rw [hl] at hc
  have HC := Lib.hid hc
  obtain ⟨J, hJ, eJ⟩ := and_16 left
  have hsm := frs_small hg
  obtain ⟨S, hS⟩ : ∃ S, S = frs ts := ⟨_, rfl⟩
  rw [← hS] at hsm
  obtain ⟨q, hq⟩ : ∃ q, q = J % (S.length + 1) := ⟨_, rfl⟩
  have hqS : q ≤ S.length := by
    have h1 : J % (S.length + 1) < S.length + 1 := Nat.mod_lt J (by omega)
    rw [← hq] at h1
    omega
  have eq : (J : Int) % ((S.length : Int) + 1) = (q : Int) := by rw [hq, Int.natCast_emod, Int.natCast_add]; rfl
  have HG := Lib.hid hg
  have HL := Lib.hid hl
  have HR := Lib.hid h
  have HS := Lib.hid hS
  have hz := mk_size S
  clear hc hg hl hq hS h
  go_enter Try.func5, Try.ntmps5
  go_wp2_with fail
  refine HC.out.mono ?_
  rintro e w1 ⟨b1, ⟨hg, _⟩ | ⟨_, b, c, rfl, hri⟩⟩
  · exact absurd HG.out hg
  · rw [← HS.out, HL.out]
    have HI := Lib.hid hri
    clear hri HC
    go_wp2
    go_loop [9] (fun i => ∃ k : Nat, i = .int .i64 k ∧ k ≤ n ∧ Hid ((frs (ts.take k)).length ≤ q)) (fun i => n - (intOf i).toNat)
    case atStart => exact ⟨0, rfl, by omega, Lib.hid (by simp [frs])⟩
    case round =>
      obtain ⟨k, rfl, hk, hle⟩ := hrel
      by_cases hlt : k < n
      · rcases HI.out with h0 | ⟨g, off, rfl, hgb, hcell⟩
        · have := endsL_length ts
          rw [h0, HL.out] at this
          simp at this
          omega
        · have hkl : k < (endsL ts).length := by rw [endsL_length, HL.out]; exact hlt
          have hck := hcell k hkl
          rw [endsL_get ts k hkl] at hck
          obtain ⟨E, hE⟩ : ∃ E, E = (frs (ts.take (k + 1))).length := ⟨_, rfl⟩
          rw [← hE] at hck
          have HE := Lib.hid hE
          clear hE
          have HCELL := Lib.hid hcell
          clear hcell
          by_cases hEq : E ≤ q
          · go_wp2
            go_round
            case rel => exact ⟨k + 1, by go_num, by omega, Lib.hid (by rw [← HE.out]; exact hEq)⟩
            case measure => simp [intOf]; omega
          · have hEq' : (q : Int) < (E : Int) := by omega
            have hfa := fa_cut ts q k (good_le HG.out) (by rw [HL.out]; exact hk) hle.out (fun _ => by rw [← HE.out]; omega) (by rw [← HS.out]; exact hqS)
            rw [← HS.out] at hfa
            have HF := Lib.hid hfa
            clear hfa
            rcases Nat.eq_zero_or_pos k with rfl | hk0
            · rw [Nat.add_zero] at hck
              go_wp2_with fail
              refine (all_at ((⟨S.toArray⟩ : ByteArray).extract 0 q) (S.take q) _ _ (by rw [mk_extract]) (by rw [ByteArray.size_extract, hz]; omega) HF.out).mono ?_
              rintro e w2 ⟨a2, c2, rfl, r2, b2⟩
              go_wp2_with fail
              refine (same_at a2 a _ _ c2 cap _ _ true _ r2 ((HR.out.old (bt b1 b2)).take 0) rfl rfl (by simp) (by simp)).mono ?_
              rintro e w3 ⟨rfl, b3⟩
              go_wp2_with fail
              refine (awake_any _).mono ?_
              rintro e w4 ⟨rfl, b4⟩
              go_wp2
              go_ret
              exact ⟨rfl, bt (bt (bt b1 b2) b3) b4⟩
            · obtain ⟨A, hA⟩ : ∃ A, A = (frs (ts.take k)).length := ⟨_, rfl⟩
              obtain ⟨U, hU⟩ : ∃ U, U = ts.take k := ⟨_, rfl⟩
              have hUl : U.length = k := by rw [hU, List.length_take, HL.out]; omega
              have hfa' := HF.out
              rw [← hA, ← hU] at hfa'
              have hRU := (HR.out.old b1).take k
              rw [← hU] at hRU
              have hcp := HCELL.out (k - 1) (by rw [endsL_length, HL.out]; omega)
              rw [endsL_get, show k - 1 + 1 = k by omega, ← hA] at hcp
              have HF2 := Lib.hid hfa'
              have HU := Lib.hid hRU
              have HUL := Lib.hid hUl
              clear hfa' hA hU hRU hUl HF HR
              go_wp2_with fail
              refine (all_at ((⟨S.toArray⟩ : ByteArray).extract 0 q) (S.take q) _ _ (by rw [mk_extract]) (by rw [ByteArray.size_extract, hz]; omega) HF2.out).mono ?_
              rintro e w2 ⟨a2, c2, rfl, r2, b2⟩
              have hcp2 := (b2.cell (p := ⟨g, off + (k - 1), none⟩) hgb).trans hcp
              go_wp2_with fail
              refine (same_at a2 a _ _ c2 cap U U true _ r2 (HU.out.old b2) rfl HUL.out (by rw [HUL.out]; omega) (by simp)).mono ?_
              rintro e w3 ⟨rfl, b3⟩
              go_wp2_with fail
              refine (awake_any _).mono ?_
              rintro e w4 ⟨rfl, b4⟩
              go_wp2
              go_ret
              exact ⟨rfl, bt (bt (bt b1 b2) b3) b4⟩
      · obtain rfl : k = n := by omega
        have hfa := fa_cut ts q k (good_le HG.out) (by rw [HL.out]; exact hk) hle.out (fun h => by rw [HL.out] at h; omega) (by rw [← HS.out]; exact hqS)
        rw [← HS.out] at hfa
        have HF := Lib.hid hfa
        clear hfa
        rcases HI.out with h0 | ⟨g, off, rfl, hgb, hcell⟩
        · have h1 := endsL_length ts
          rw [h0, HL.out] at h1
          obtain rfl : k = 0 := h1.symm
          clear h0 h1
          go_wp2_with fail
          refine (all_at ((⟨S.toArray⟩ : ByteArray).extract 0 q) (S.take q) _ _ (by rw [mk_extract]) (by rw [ByteArray.size_extract, hz]; omega) HF.out).mono ?_
          rintro e w2 ⟨a2, c2, rfl, r2, b2⟩
          go_wp2_with fail
          refine (same_at a2 a _ _ c2 cap _ _ true _ r2 ((HR.out.old (bt b1 b2)).take 0) rfl rfl (by simp) (by simp)).mono ?_
          rintro e w3 ⟨rfl, b3⟩
          go_wp2_with fail
          refine (awake_any _).mono ?_
          rintro e w4 ⟨rfl, b4⟩
          go_wp2
          go_ret
          exact ⟨rfl, bt (bt (bt b1 b2) b3) b4⟩
        · have HCELL := Lib.hid hcell
          clear hcell
          rcases Nat.eq_zero_or_pos k with rfl | hk0
          · go_wp2_with fail
            refine (all_at ((⟨S.toArray⟩ : ByteArray).extract 0 q) (S.take q) _ _ (by rw [mk_extract]) (by rw [ByteArray.size_extract, hz]; omega) HF.out).mono ?_
            rintro e w2 ⟨a2, c2, rfl, r2, b2⟩
            go_wp2_with fail
            refine (same_at a2 a _ _ c2 cap _ _ true _ r2 ((HR.out.old (bt b1 b2)).take 0) rfl rfl (by simp) (by simp)).mono ?_
            rintro e w3 ⟨rfl, b3⟩
            go_wp2_with fail
            refine (awake_any _).mono ?_
            rintro e w4 ⟨rfl, b4⟩
            go_wp2
            go_ret
            exact ⟨rfl, bt (bt (bt b1 b2) b3) b4⟩
          · obtain ⟨A, hA⟩ : ∃ A, A = (frs (ts.take k)).length := ⟨_, rfl⟩
            obtain ⟨U, hU⟩ : ∃ U, U = ts.take k := ⟨_, rfl⟩
            have hUl : U.length = k := by rw [hU, List.length_take, HL.out]; omega
            have hfa' := HF.out
            rw [← hA, ← hU] at hfa'
            have hRU := (HR.out.old b1).take k
            rw [← hU] at hRU
            have hcp := HCELL.out (k - 1) (by rw [endsL_length, HL.out]; omega)
            rw [endsL_get, show k - 1 + 1 = k by omega, ← hA] at hcp
            have HF2 := Lib.hid hfa'
            have HU := Lib.hid hRU
            have HUL := Lib.hid hUl
            clear hfa' hA hU hRU hUl HF HR
            go_wp2_with fail
            refine (all_at ((⟨S.toArray⟩ : ByteArray).extract 0 q) (S.take q) _ _ (by rw [mk_extract]) (by rw [ByteArray.size_extract, hz]; omega) HF2.out).mono ?_
            rintro e w2 ⟨a2, c2, rfl, r2, b2⟩
            have hcp2 := (b2.cell (p := ⟨g, off + (k - 1), none⟩) hgb).trans hcp
            go_wp2_with fail
            refine (same_at a2 a _ _ c2 cap U U true _ r2 (HU.out.old b2) rfl HUL.out (by rw [HUL.out]; omega) (by simp)).mono ?_
            rintro e w3 ⟨rfl, b3⟩
            go_wp2_with fail
            refine (awake_any _).mono ?_
            rintro e w4 ⟨rfl, b4⟩
            go_wp2
            go_ret
            exact ⟨rfl, bt (bt (bt b1 b2) b3) b4⟩
theorem walk_FrameCuts (a : Option Addr) (cap : Nat) (ts : List (List UInt8)) (left : Int) (_ : (Lit.int .i64 left).wf = true) (w : World) (h : Rd w a ts) (hl : ts.length ≤ maxLen) (hc : ts.length ≤ cap) :
    Calls Try.prog 5 #[.slice a ts.length cap, .int .i64 left] w fun e w' => e = .returned (.bool true) ∧ Below w.heap.size w w' := by
  unfold maxLen at hl
  by_cases hg : ts.length ≤ 12 ∧ ∀ t ∈ ts, t.length ≤ 300
  · exact cuts_good a cap _ ts left w h rfl hc hg
  · exact cuts_bad a cap _ ts left w h (by omega) rfl hg
end Go.Proofs.Ytflnohmmhodhgaa
