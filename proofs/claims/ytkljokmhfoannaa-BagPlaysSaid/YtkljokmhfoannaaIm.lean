/-
  Layer 15 (bag): contracts of Places, New; SameInts of equal lists. Conditions: none.
-/
import Derived.Test.YtkljokmhfoannaaIh
import Derived.Test.YtkljokmhfoannaaIl
import Derived.Maps.Ext
import Derived.Deep.CutBlock
namespace Go.Proofs.Ytkljokmhfoannaa
open Go.RowKit Go.Maps
set_option linter.unusedVariables false
set_option linter.unusedSimpArgs false

/-- A list of numbers is read at an address. -/
def RdZ (w : World) (a : Option Addr) (vs : List Int) : Prop := vs = [] ∨ ∃ b off, a = some ⟨b, off, none⟩ ∧ b < w.heap.size ∧ ∀ k (h : k < vs.length), w.cell? ⟨b, off + k, none⟩ = some (.int .i64 vs[k])
theorem RdZ.old {w w' : World} {a : Option Addr} {l : List Int} (h : RdZ w a l) (hb : Below w.heap.size w w') : RdZ w' a l := by
  rcases h with rfl | ⟨b, off, rfl, hlt, hc⟩
  · exact .inl rfl
  · exact .inr ⟨b, off, rfl, Nat.lt_of_lt_of_le hlt hb.size, fun k hk => (hb.cell (p := ⟨b, off + k, none⟩) hlt).trans (hc k hk)⟩
theorem rdz_at {w : World} {a : Option Addr} {vs : List Int} (h : RdZ w a vs) {k : Nat} (hk : k < vs.length) : ∃ b off, a = some ⟨b, off, none⟩ ∧ b < w.heap.size ∧ w.cell? ⟨b, off + k, none⟩ = some (.int .i64 vs[k]) := by
  rcases h with rfl | ⟨b, off, rfl, hlt, hc⟩
  · cases hk
  · exact ⟨b, off, rfl, hlt, hc k hk⟩
/-- Numbers as cells. -/
def iv (l : List Int) : List Value := l.map (Value.int .i64)
theorem own_rdz {w : World} {base cap n : Nat} {t : TypeId} {a : Option Addr} {l : List Int} (h : w.ownsRow base t 1 (.slice a n cap) n (iv l)) (hn : l.length = n) : RdZ w a l := by
  subst hn
  rcases h.2 with ⟨e, h0⟩ | ⟨g, cap', cur, hv, hbg, hh, h1, h2, h3, h4⟩
  · exact .inl (List.eq_nil_of_length_eq_zero h0)
  · cases hv
    refine .inr ⟨g, 0, rfl, heap_lt15 hh, fun k hk => ?_⟩
    have := h.cellAt k (by omega)
    rw [Nat.zero_add, this]
    simp [iv, hk]
theorem belowN15 {B : Nat} {w w' : World} (h : Below B w w') (n : Nat) : Below B w (w'.drewN n) := ⟨h.os, h.tape, h.output, h.size, h.block⟩
set_option maxRecDepth 100000 in
set_option maxHeartbeats 2000000 in
theorem ints_same15 (a b : Option Addr) (ca cb : Nat) (vs : List Int) (w : World) (ha : RdZ w a vs) (hb : RdZ w b vs) (hl : vs.length < 1000000) :
    Calls Try.prog 11 #[.slice a vs.length ca, .slice b vs.length cb] w fun e w' => e = .returned (.bool true) ∧ Below w.heap.size w w' := by
  have HA := Lib.hid ha
  have HB := Lib.hid hb
  obtain ⟨n, hn⟩ : ∃ n, n = vs.length := ⟨_, rfl⟩
  rw [← hn] at hl ⊢
  have HN := Lib.hid hn
  clear ha hb hn
  go_enter Try.func11, Try.ntmps11
  go_wp2_with fail
  go_loopw [5] (fun i wr => ∃ k : Nat, i = .int .i64 k ∧ k ≤ n ∧ Below w.heap.size w wr) (fun i _ => n - (intOf i).toNat)
  case atStart => exact ⟨0, rfl, by omega, Below.refl _ _⟩
  case round =>
    obtain ⟨k, rfl, hk, bw⟩ := hrel
    have BW := Lib.hid bw
    clear bw
    by_cases hlt : k < n
    · have hkl : k < vs.length := by rw [← HN.out]; exact hlt
      obtain ⟨b1, o1, rfl, l1, c1⟩ := rdz_at (HA.out.old BW.out) hkl
      obtain ⟨b2, o2, rfl, l2, c2⟩ := rdz_at (HB.out.old BW.out) hkl
      obtain ⟨x, hx⟩ : ∃ x, x = vs[k] := ⟨_, rfl⟩
      rw [← hx] at c1 c2
      clear hx
      go_wp2_with fail
      go_quiet (fail)
      go_wp2_with fail
      go_roundw
      case rel => exact ⟨k + 1, by go_num, hlt, belowN15 BW.out _⟩
      case measure => simp [intOf]; omega
    · obtain rfl : k = n := by omega
      go_wp2_with fail
      go_ret
      exact ⟨rfl, BW.out⟩
theorem ints_at15 (a b : Option Addr) (n m ca cb : Nat) (vs : List Int) (w : World) (ha : RdZ w a vs) (hb : RdZ w b vs) (hn : vs.length = n) (hm : vs.length = m) (hl : n < 1000000) :
    Calls Try.prog 11 #[.slice a n ca, .slice b m cb] w fun e w' => e = .returned (.bool true) ∧ Below w.heap.size w w' := by
  subst hn hm
  exact ints_same15 a b ca cb vs w ha hb hl
/-! ### all places -/
def ups (n : Nat) : List Int := (List.range n).map fun i : Nat => (i : Int)
def plist (n c : Nat) : List Int := -1 :: (ups n ++ (ups c).map (100 + ·))
theorem mem_ups {n : Nat} {x : Int} : x ∈ ups n ↔ 0 ≤ x ∧ x < n := by
  unfold ups
  simp only [List.mem_map, List.mem_range]
  constructor
  · rintro ⟨i, hi, rfl⟩; omega
  · rintro ⟨h1, h2⟩; exact ⟨x.toNat, by omega, by omega⟩
theorem mem_plist {n c : Nat} {x : Int} : x ∈ plist n c ↔ place n c x = true := by
  rw [place_iff]
  unfold plist
  simp only [List.mem_cons, List.mem_append, List.mem_map, mem_ups]
  constructor
  · rintro (h | h | ⟨i, h, rfl⟩)
    · exact .inl h
    · exact .inr (.inl h)
    · exact .inr (.inr (by omega))
  · rintro (h | h | h)
    · exact .inl h
    · exact .inr (.inl h)
    · exact .inr (.inr ⟨x - 100, by omega, by omega⟩)
theorem ups_rise (n : Nat) : (ups n).Pairwise (· < ·) := by
  unfold ups
  rw [List.pairwise_map]
  exact List.pairwise_lt_range.imp fun h => by omega
theorem plist_rise {n c : Nat} (hn : n ≤ 6) : (plist n c).Pairwise (· < ·) := by
  unfold plist
  refine List.pairwise_cons.2 ⟨fun x hx => ?_, List.pairwise_append.2 ⟨ups_rise n, ?_, fun x hx y hy => ?_⟩⟩
  · rcases List.mem_append.1 hx with h | h
    · have := mem_ups.1 h; omega
    · obtain ⟨i, hi, rfl⟩ := List.mem_map.1 h
      have := mem_ups.1 hi; omega
  · rw [List.pairwise_map]
    exact (ups_rise c).imp fun h => by omega
  · obtain ⟨i, hi, rfl⟩ := List.mem_map.1 hy
    have h1 := mem_ups.1 hi
    have h2 := mem_ups.1 hx
    omega
theorem plist_len (n c : Nat) : (plist n c).length = 1 + n + c := by unfold plist ups; simp; omega
section
open Go.Sort Go.Shelf
theorem sorts_i (m : Nat) : AnyZI.SortsIn Try.prog sortedI_ren Fence.wide m :=
  ⟨fun blk off cap ss W hH hblk hsz => callsIn_wide.2 (AnyM.slices_Sort_int sortI blk off cap ss W hH hblk hsz),
   fun p cap W => callsIn_wide.2 (AnyM.slices_Sort_int_none sortI p cap W)⟩
theorem keys_c15 (mb : Option Nat) (W : World) : Calls Try.prog 34 #[.map mb] W fun e w' => e = .returned (.func (.func 57) #[] #[.pointer (some ⟨W.heap.size, 0, none⟩)]) ∧ w' = W.alloc (.cells #[.map mb] 58) :=
  callsIn_wide.1 (AnyZI.keys_in keysI Fence.wide 5 trivial rfl mb W)
theorem sorted_c15 (b nn : Nat) (D0 : DataW Unit) (w : World) (hown : w.ownsMap Try.prog 3 sR b nn D0) (hmax : Maps.size D0 ≤ maxLen) (hbytes : Maps.size D0 * 8 ≤ 140737488355328) :
    Calls Try.prog 33 #[.func (.func 57) #[] #[.pointer (some ⟨w.heap.size, 0, none⟩)]] (w.alloc (.cells #[.map (some b)] 58)) fun e w' => ∃ (v : Value) (ss : List Int), e = .returned v ∧ ss.Perm (intKeys D0) ∧
      w'.ownsRow (w.alloc (.cells #[.map (some b)] 58)).heap.size 3 1 v ss.length ((ss.mergeSort (fun x y => decide (x ≤ y))).map encZ) ∧ (v = .slice none 0 0 ↔ ss = []) ∧ Below (w.alloc (.cells #[.map (some b)] 58)).heap.size (w.alloc (.cells #[.map (some b)] 58)) w' := by
  have hbl := hown.lt
  have hseq : SeqGives Fence.wide 2 Try.prog 57 #[.pointer (some ⟨w.heap.size, 0, none⟩)] encZ (fun ss => ss.Perm (intKeys D0)) (Maps.size D0) (w.alloc (.cells #[.map (some b)] 58)) :=
    AnyZI.keys_gives (ρ := keysI_ren) { keysI with } Fence.wide _ trivial rfl (by omega) w.heap.size b nn D0 _ (by simp) (by simp) (by
      obtain ⟨es, clock, hb, Ft, hs, hD⟩ := hown
      exact ⟨es, clock, (Below.heap_alloc _ _ b hbl).trans hb, Ft, hs, hD⟩)
  exact callsIn_wide.1 (AnyZI.sorted_in sortedI Fence.wide 5 trivial trivial trivial trivial rfl (by omega) (sorts_i _) (enters_of Try.func56 (by kernel_rfl) rfl) 57 #[.pointer (some ⟨w.heap.size, 0, none⟩)] trivial (enters_of Try.func57 (by kernel_rfl) rfl) _ _ hmax hbytes _ hseq)
end
theorem BagIn.keys {own : Nat → Prop} {w : World} {b n c mb : Nat} {q : Wq} {S : Int → Sv} {D : DataW Unit} (h : BagIn own w b n c q mb S D) {ss : List Int} (hp : ss.Perm (intKeys D)) : ss.mergeSort (fun x y => decide (x ≤ y)) = plist n c := by
  have K := int_keyed Try.underlying3
  obtain ⟨es, hD, hpw, _⟩ := h.map.entries K
  obtain ⟨es', hD', hko⟩ := h.map.keysOf
  obtain rfl : es = es' := by rw [hD] at hD'; simpa using hD'
  have hq : (plist n c).Perm (intKeys (.map es)) := perm_intKeys hpw (fun p hp => by obtain ⟨v, hv⟩ := hko p hp; obtain ⟨x, _, hx, _⟩ := Maps.keyOf_i64 Try.underlying3 hv; exact ⟨x, hx⟩) ((plist_rise h.small.2.1).imp fun h e => by omega) (fun x => by
    rw [mem_plist, ← h.has x, hD]; rfl)
  rw [hD] at hp
  have h1 := mergeSort_of_perm_i (hp.trans hq.symm)
  change ss.mergeSort (fun x y => decide (x ≤ y)) = _ at h1
  rw [h1]
  refine List.mergeSort_of_pairwise ?_
  exact (plist_rise h.small.2.1).imp fun h => by simp; omega
/-- A row of the places. -/
def PLR (w : World) (l : List Int) (e : Ending) (w' : World) : Prop := ∃ a cap, e = .returned (.slice a l.length cap) ∧ RdZ w' a l ∧ Below w.heap.size w w'
set_option maxRecDepth 100000 in
set_option maxHeartbeats 2000000 in
theorem places15_any {own : Nat → Prop} {w : World} {b n c : Nat} {q : Wq} (h : BagAt own w b n c q) : Calls Try.prog 12 #[.pointer (some ⟨b, 0, none⟩)] w (PLR w (plist n c)) := by
  obtain ⟨mb, S, D, hB⟩ := h
  obtain ⟨c0, c1, hlt⟩ := hB.cells
  have hG := Lib.hid (given15_yes b w c0)
  have hs := hB.small
  have HS := Lib.hid (sorted_c15 mb _ _ w hB.map (by unfold maxLen; omega) (by omega))
  have HK : Hid (∀ ss : List Int, ss.Perm (intKeys D) → ss.mergeSort (fun x y => decide (x ≤ y)) = plist n c) := Lib.hid fun ss hp => hB.keys hp
  clear hB hs
  go_enter Try.func12, Try.ntmps12
  go_wp2_with (first
    | (go_at_call 32; refine hG.out.mono ?_; rintro e w' ⟨rfl, rfl⟩)
    | (go_at_call 34; refine (keys_c15 _ _).mono ?_; rintro e w' ⟨rfl, rfl⟩)
    | (go_at_call 33; refine HS.out.mono ?_; rintro e w' ⟨v, ss, rfl, hss, hrow, hnil, hb⟩))
  go_ret
  have e := HK.out ss hss
  rw [e] at hrow
  have hl : ss.length = (plist n c).length := by rw [← e, List.length_mergeSort]
  rw [hl] at hrow
  have hrow' : w'.ownsRow _ 3 1 v (plist n c).length (iv (plist n c)) := hrow
  obtain ⟨x, rfl⟩ := own_sV hrow'
  obtain ⟨a, cp, hv, _⟩ := own_len hrow'
  rw [hv] at hrow' ⊢
  exact ⟨a, cp, rfl, own_rdz hrow' rfl, ((Below.refl _ w).alloc (Nat.le_refl _) _).trans (hb.mono (by simp))⟩
theorem places15_no {w : World} {p : Option Addr} (h : NoBag w p) : Calls Try.prog 12 #[.pointer p] w fun e w' => e = .returned (.slice none 0 0) ∧ w = w' := by
  have hG := Lib.hid (given15_no h)
  go_enter Try.func12, Try.ntmps12
  go_wp2_with (go_at_call 32; refine hG.out.mono ?_; rintro e w' ⟨rfl, rfl⟩)
  go_ret
  exact ⟨rfl, rfl⟩
end Go.Proofs.Ytkljokmhfoannaa
