/-
  Layer 4 (span): the walk of the law SpanCovers. Conditions: the slice and the key within the form's reach.
-/
import Derived.Test.YtmglgmljlaplcaaSt
import Derived.Test.YtmglgmljlaplcaaSlA
namespace Go.Proofs.Ytmglgmljlaplcaa
open Go.RowKit

set_option maxHeartbeats 1000000 in
theorem covers_long (a : Option Addr) (n cap : Nat) (key : ByteArray) (w : World) (h : 40 < n) (hn : n < 9223372036854775808) :
    Calls Try.prog 7 #[.slice a n cap, .string key] w fun e w' => e = .returned (.bool true) ∧ Below w.heap.size w w' := by
  have h' : (40 : Int) < (n : Int) := by omega
  go_enter Try.func7, Try.ntmps7
  go_wp2_with fail
  refine (awake_any _).mono ?_
  rintro e w1 ⟨rfl, b1⟩
  go_wp2
  go_ret
  exact ⟨rfl, b1⟩
set_option maxHeartbeats 2000000 in
theorem covers_empty (a : Option Addr) (cap : Nat) (key : ByteArray) (w : World) :
    Calls Try.prog 7 #[.slice a 0 cap, .string key] w fun e w' => e = .returned (.bool true) ∧ Below w.heap.size w w' := by
  go_enter Try.func7, Try.ntmps7
  go_wp2_with fail
  refine (covers_none _ _ _).mono ?_
  rintro e w1 ⟨rfl, b1⟩
  go_wp2_with fail
  refine (rcovers_none _ _ _).mono ?_
  rintro e w2 ⟨rfl, b2⟩
  go_wp2
  refine wp_loop_rounds 1 ?_
  rw [rounds_succ]
  go_wp2_with fail
  refine (awake_any _).mono ?_
  rintro e w3 ⟨rfl, b3⟩
  go_wp2
  go_ret
  exact ⟨rfl, bt (bt b1 b2) b3⟩
set_option maxHeartbeats 2000000 in
theorem covers_walk (b off n cap : Nat) (xs : List Rng) (key : ByteArray) (w : World) (hn : n ≤ 40) (hl : xs.length = n) (hb : b < w.heap.size) (hok : okL xs) (h3 : okS key)
    (hc : ∀ i (h : i < xs.length), w.cell? ⟨b, off + i * 2, none⟩ = some (.string xs[i].1) ∧ w.cell? ⟨b, off + i * 2 + 1, none⟩ = some (.string xs[i].2)) :
    Calls Try.prog 7 #[.slice (some ⟨b, off, none⟩) n cap, .string key] w fun e w' => e = .returned (.bool true) ∧ Below w.heap.size w w' := by
  have hR : RdS w (some ⟨b, off, none⟩) xs := .inr ⟨b, off, rfl, hb, hc⟩
  obtain ⟨c, hcv⟩ : ∃ c, coversB xs = c := ⟨_, rfl⟩
  have A1 := covers_any (some ⟨b, off, none⟩) cap xs w hR hok (by omega)
  have A2 := fun w h => rcovers_any (some ⟨b, off, none⟩) cap xs w h hok (by omega)
  rw [hl, hcv] at A1
  rw [hl, hcv] at A2
  obtain ⟨kb, hkb⟩ : ∃ c, keyB key = c := ⟨_, rfl⟩
  have HK := Lib.hid fun w => key_eq key kb hkb h3 w
  have HR := Lib.hid hR
  have H1 := Lib.hid A1
  have H2 := Lib.hid A2
  have HC := Lib.hid hc
  have HL := Lib.hid hl
  have HO := Lib.hid hok
  have HH := Lib.hid h3
  have HV := Lib.hid hcv
  have HKB := Lib.hid hkb
  clear hR A1 A2 hc hl hok h3 hcv hkb
  go_enter Try.func7, Try.ntmps7
  go_wp2_with fail
  refine H1.out.mono ?_
  rintro e w1 ⟨rfl, b1⟩
  go_wp2_with fail
  refine (H2.out _ (HR.out.old b1)).mono ?_
  rintro e w2 ⟨rfl, b2⟩
  have b12 := bt b1 b2
  clear b1 b2
  go_wp2
  go_loopw [6, 7] (fun m i wr => ∃ k c : Nat, i = .int .i64 k ∧ k ≤ n ∧ m = .int .i64 c ∧ c ≤ k ∧ Hid (c = cnt (xs.take k) key) ∧ Below w.heap.size w wr) (fun _ i _ => n - (intOf i).toNat)
  case atStart => exact ⟨0, 0, rfl, by omega, rfl, by omega, Lib.hid rfl, b12⟩
  case round =>
    obtain ⟨k, m, rfl, hk, rfl, hm, HM, hbel⟩ := hrel
    by_cases hlt : k < n
    · have hkl : k < xs.length := by rw [HL.out]; exact hlt
      have hx := HC.out k hkl
      have hx1 := (hbel.cell (p := ⟨b, off + k * 2, none⟩) hb).trans hx.1
      have hx2 := (hbel.cell (p := ⟨b, off + k * 2 + 1, none⟩) hb).trans hx.2
      obtain ⟨o1, o2⟩ := HO.out _ (List.getElem_mem hkl)
      have hs := cnt_snoc (xs.take k) xs[k] key
      rw [← List.take_succ_eq_append_getElem hkl, ← HM.out] at hs
      obtain ⟨lo, hlo⟩ : ∃ x, x = xs[k].1 := ⟨_, rfl⟩
      obtain ⟨hi, hhi⟩ : ∃ x, x = xs[k].2 := ⟨_, rfl⟩
      rw [← hlo] at hx1 o1 hs
      rw [← hhi] at hx2 o2 hs
      cases ha : hasB lo hi key with
      | false =>
        have HF := Lib.hid fun w => has_any lo hi key _ ha o1 o2 HH.out w
        have HN := Lib.hid (show m = cnt (xs.take (k + 1)) key by rw [hs, ha]; rfl)
        clear hs ha o1 o2 hlo hhi hx
        go_wp2_with fail
        refine (HF.out _).mono ?_
        rintro e w3 ⟨rfl, b3⟩
        go_wp2
        go_roundw
        case rel => exact ⟨k + 1, m, by go_num, by omega, rfl, by omega, HN, hbel.trans (b3.mono hbel.size)⟩
        case measure => simp [intOf]; omega
      | true =>
        have HF := Lib.hid fun w => has_any lo hi key _ ha o1 o2 HH.out w
        have HN := Lib.hid (show m + 1 = cnt (xs.take (k + 1)) key by rw [hs, ha]; rfl)
        clear hs ha o1 o2 hlo hhi hx
        go_wp2_with fail
        refine (HF.out _).mono ?_
        rintro e w3 ⟨rfl, b3⟩
        go_wp2
        go_roundw
        case rel => exact ⟨k + 1, m + 1, by go_num, by omega, by go_num, by omega, HN, hbel.trans (b3.mono hbel.size)⟩
        case measure => simp [intOf]; omega
    · obtain rfl : k = n := by omega
      have hme : m = cnt xs key := by
        have := HM.out
        rw [← HL.out, List.take_length] at this
        exact this
      cases c with
      | false =>
        clear hme
        go_wp2_with fail
        refine (awake_any _).mono ?_
        rintro e w3 ⟨rfl, b3⟩
        go_wp2
        go_ret
        exact ⟨rfl, hbel.trans (b3.mono hbel.size)⟩
      | true =>
        cases kb with
        | false =>
          clear hme
          go_wp2_with fail
          refine (HK.out _).mono ?_
          rintro e w4 ⟨rfl, rfl⟩
          go_wp2_with fail
          refine (awake_any _).mono ?_
          rintro e w3 ⟨rfl, b3⟩
          go_wp2
          go_ret
          exact ⟨rfl, hbel.trans (b3.mono hbel.size)⟩
        | true =>
          obtain rfl : m = 1 := by rw [hme]; exact covers_one HV.out HKB.out
          clear hme
          go_wp2_with fail
          refine (HK.out _).mono ?_
          rintro e w4 ⟨rfl, rfl⟩
          go_wp2_with fail
          refine (awake_any _).mono ?_
          rintro e w3 ⟨rfl, b3⟩
          go_wp2
          go_ret
          exact ⟨rfl, hbel.trans (b3.mono hbel.size)⟩
theorem walk_SpanCovers (a : Option Addr) (cap : Nat) (xs : List Rng) (key : ByteArray) (h3 : okS key) (w : World) (h : RdS w a xs) (hok : okL xs) (hl : xs.length ≤ maxLen) :
    Calls Try.prog 7 #[.slice a xs.length cap, .string key] w fun e w' => e = .returned (.bool true) ∧ Below w.heap.size w w' := by
  unfold maxLen at hl
  by_cases h40 : 40 < xs.length
  · exact covers_long a _ cap key w h40 (by omega)
  · rcases h with rfl | ⟨b, off, rfl, hb, hc⟩
    · exact covers_empty a cap key w
    · exact covers_walk b off _ cap xs key w (by omega) rfl hb hok h3 hc
end Go.Proofs.Ytmglgmljlaplcaa
