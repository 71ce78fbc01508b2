/-
  Layer 7 (sorted): a rising list of keys as plain data: where a key stands, or would stand; the contract of the document's own place. Conditions: none.
-/
import Derived.Test.YteolhbcmffbdlaaSm
import Derived.Test.YteolhbcmffbdlaaSv
import Derived.Test.YteolhbcmffbdlaaRg
namespace Go.Proofs.Yteolhbcmffbdlaa
open Go.RowKit

/-- Where a key stands, or would stand. -/
def ixL (ks : List (List UInt8)) (s : List UInt8) : Nat := (ks.takeWhile fun t => Op.bytesLess t s).length
/-- Does a key stand there? -/
def isL (ks : List (List UInt8)) (s : List UInt8) : Bool := ks[ixL ks s]? == some s
theorem ixL_le (ks : List (List UInt8)) (s : List UInt8) : ixL ks s ≤ ks.length := (List.takeWhile_sublist _).length_le
theorem ixL_stop : ∀ (ks : List (List UInt8)) (s : List UInt8) (k : Nat), k ≤ ks.length → (∀ i (h : i < ks.length), i < k → Op.bytesLess ks[i] s = true) → (∀ h : k < ks.length, Op.bytesLess ks[k] s = false) → ixL ks s = k
  | [], s, k, hk, _, _ => by
    have : k = 0 := by simpa using hk
    subst this
    rfl
  | t :: ks, s, k, hk, h1, h2 => by
    cases k with
    | zero =>
      have := h2 (by simp)
      simp only [List.getElem_cons_zero] at this
      simp [ixL, this]
    | succ k =>
      have h0 := h1 0 (by simp) (by omega)
      simp only [List.getElem_cons_zero] at h0
      have ih := ixL_stop ks s k (by simpa using hk) (fun i h hi => by have := h1 (i + 1) (by simpa using h) (by omega); rwa [List.getElem_cons_succ] at this) (fun h => by have := h2 (by simpa using h); rwa [List.getElem_cons_succ] at this)
      unfold ixL at ih ⊢
      simp [List.takeWhile, h0, ih]
theorem isL_at {ks : List (List UInt8)} {s : List UInt8} {k : Nat} (h : ixL ks s = k) (hk : k < ks.length) : isL ks s = (ks[k] == s) := by
  unfold isL
  rw [h, List.getElem?_eq_getElem hk]
  rfl
theorem isL_end {ks : List (List UInt8)} {s : List UInt8} {k : Nat} (h : ixL ks s = k) (hk : ks.length ≤ k) : isL ks s = false := by
  unfold isL
  rw [h, List.getElem?_eq_none hk]
  rfl
theorem str_less (a : List UInt8) (s : ByteArray) : Op.bytesLess a s.toList = Op.bytesLess a s.data.toList := by
  rw [Lib.toList_data]
theorem str_eq (a : List UInt8) (s : ByteArray) : (a == s.toList) = (a == s.data.toList) := by
  rw [Lib.toList_data]

set_option maxHeartbeats 1000000 in
theorem place_none (a : Option Addr) (cap : Nat) (vals : Value) (s : ByteArray) (w : World) :
    Calls Try.prog 29 #[.agg #[.slice a 0 cap, vals], .string s] w fun e w' => e = .returned (.tuple #[.int .i64 0, .bool false]) ∧ Below w.heap.size w w' := by
  go_enter Try.func29, Try.ntmps29
  go_wp2
  refine wp_loop_rounds 1 ?_
  rw [rounds_succ]
  go_wp2
  go_quiet (fail)
  go_wp2
  go_ret2
  exact ⟨rfl, below_drewN ((Below.refl _ _).alloc (Nat.le_refl _) _) _⟩
set_option maxHeartbeats 2000000 in
theorem place_some (b off n cap : Nat) (vals : Value) (ks : List (List UInt8)) (s : ByteArray) (w : World) (hn : n < 9223372036854775808) (hl : ks.length = n)
    (hc : ∀ i (h : i < ks.length), w.cell? ⟨b, off + i, none⟩ = some (.string ⟨ks[i].toArray⟩)) (hb : b < w.heap.size) :
    Calls Try.prog 29 #[.agg #[.slice (some ⟨b, off, none⟩) n cap, vals], .string s] w fun e w' => e = .returned (.tuple #[.int .i64 (ixL ks s.data.toList : Nat), .bool (isL ks s.data.toList)]) ∧ Below w.heap.size w w' := by
  have HC := Lib.hid hc
  have HL := Lib.hid hl
  clear hc hl
  go_enter Try.func29, Try.ntmps29
  go_wp2
  go_loopw [6] (fun i wr => ∃ k : Nat, i = .int .i64 k ∧ k ≤ n ∧ Hid (∀ i (h : i < ks.length), i < k → Op.bytesLess ks[i] s.data.toList = true) ∧ wr = w.alloc (.cells #[.slice (some ⟨b, off, none⟩) n cap, vals] 28)) (fun i _ => n - (intOf i).toNat)
  case atStart => exact ⟨0, rfl, by omega, Lib.hid (fun i h hi => by omega), rfl⟩
  case round =>
    obtain ⟨k, rfl, hk, HV, rfl⟩ := hrel
    by_cases hlt : k < n
    · have hkl : k < ks.length := by rw [HL.out]; exact hlt
      have e0 := (World.cell?_alloc_lt w (.cells #[.slice (some ⟨b, off, none⟩) n cap, vals] 28) (a := ⟨b, off + k, none⟩) hb).trans (HC.out k hkl)
      have T := fun hx => ixL_stop ks s.data.toList k (by rw [HL.out]; exact hk) HV.out hx
      have I := fun h => isL_at (ks := ks) (s := s.data.toList) (k := k) h hkl
      have N : Op.bytesLess ks[k] s.data.toList = true → ∀ i (h : i < ks.length), i < k + 1 → Op.bytesLess ks[i] s.data.toList = true := fun hx i h hi => by
        by_cases e : i = k
        · subst e; exact hx
        · exact HV.out i h (by omega)
      obtain ⟨x, hx⟩ : ∃ x, x = ks[k] := ⟨_, rfl⟩
      rw [← hx] at e0 N I
      have HX := Lib.hid hx
      clear hx
      cases hxs : Op.bytesLess x s.data.toList with
      | true =>
        have hb1 := (str_less x s).trans hxs
        have HN := Lib.hid (N hxs)
        have HT := Lib.hid T
        have HI := Lib.hid I
        clear T I N hxs
        go_wp2
        go_roundw
        case rel => exact ⟨k + 1, by go_num, by omega, Lib.hid HN.out, trivial⟩
        case measure => simp [intOf]; omega
      | false =>
        have hb1 := (str_less x s).trans hxs
        have HT := Lib.hid (T fun _ => by rw [← HX.out]; exact hxs)
        have HI := Lib.hid (I HT.out)
        clear T I N hxs
        obtain ⟨q, hq⟩ : ∃ q, q = (x == s.data.toList) := ⟨_, rfl⟩
        have hb2 := (str_eq x s).trans hq.symm
        have HQ := Lib.hid hq
        clear hq
        go_wp2
        go_quiet (fail)
        go_wp2
        go_ret2
        rw [HT.out, HI.out, ← HQ.out]
        exact ⟨rfl, below_drewN ((Below.refl _ _).alloc (Nat.le_refl _) _) _⟩
    · obtain rfl : k = n := by omega
      have HT := Lib.hid (ixL_stop ks s.data.toList k (by rw [HL.out]; omega) HV.out (fun h => by rw [HL.out] at h; omega))
      have HE := Lib.hid (isL_end HT.out (by rw [HL.out]; omega))
      go_wp2
      go_quiet (fail)
      go_wp2
      go_ret2
      rw [HT.out, HE.out]
      exact ⟨rfl, below_drewN ((Below.refl _ _).alloc (Nat.le_refl _) _) _⟩
theorem place_any (a : Option Addr) (cap : Nat) (vals : Value) (ks : List (List UInt8)) (s : ByteArray) (w : World) (ha : Rd w a ks) (hl : ks.length < 9223372036854775808) :
    Calls Try.prog 29 #[.agg #[.slice a ks.length cap, vals], .string s] w fun e w' => e = .returned (.tuple #[.int .i64 (ixL ks s.data.toList : Nat), .bool (isL ks s.data.toList)]) ∧ Below w.heap.size w w' := by
  by_cases h0 : ks = []
  · subst h0
    exact place_none a cap vals s w
  · obtain ⟨b, off, rfl, hb, hc⟩ := ha.resolve_left h0
    exact place_some b off ks.length cap vals ks s w hl rfl hc hb
end Go.Proofs.Yteolhbcmffbdlaa
