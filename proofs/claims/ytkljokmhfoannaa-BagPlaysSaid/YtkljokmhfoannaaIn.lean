/-
  Layer 15 (bag): contract of New. Conditions: none.
-/
import Derived.Test.YtkljokmhfoannaaIm
namespace Go.Proofs.Ytkljokmhfoannaa
open Go.RowKit Go.Maps
set_option linter.unusedVariables false
set_option linter.unusedSimpArgs false

/-- A bag that is being made: its places so far. -/
structure NwB (w : World) (b mb : Nat) (N : Nat) (f : Int → Bool) (D : DataW Unit) : Prop where
  head : w.heap[b]? = some (.cells #[.pointer none, .map (some mb)] 60 (0, 0))
  map : w.ownsMap Try.prog 3 sR mb (Maps.size D) D
  size : Maps.size D = N
  has : ∀ k : Int, Maps.has D (ik k) = f k
  at_ : ∀ k : Int, f k = true → ∀ z, D.atKey (ik k) z = sD (none, 0, 0)
def NwP (n c : Nat) (k : Int) : Bool := place n c k
theorem nw_add {w w' : World} {b mb N : Nat} {f g : Int → Bool} {D : DataW Unit} (h : NwB w b mb N f D) {x : Int} {M : Nat} (hm : w'.ownsMap Try.prog 3 sR mb M (D.put (ik x) (sD (none, 0, 0)))) (hg : w.mapTurned w' mb) (hf : f x = false) (hgf : ∀ k, g k = (f k || k == x)) : NwB w' b mb (N + 1) g (D.put (ik x) (sD (none, 0, 0))) := by
  have hD := h.map.isMap
  have hbm : b ≠ mb := fun e => by
    obtain ⟨es, cl, hm, _⟩ := h.map
    have := h.head
    rw [e, hm] at this; cases this
  have hne : ∀ {j k : Int}, j ≠ k → ik j ≠ ik k := fun hjk e => hjk (by injection e)
  refine ⟨(hg.grown.block b (heap_lt15 h.head) (fun e => hbm (Option.some.inj e))).trans h.head, map_exact15 hm, ?_, fun k => ?_, fun k hk z => ?_⟩
  · rw [Maps.size_put (h.map.tidy (int_keyed Try.underlying3)), h.has, hf, h.size]; rfl
  · rw [hgf]
    by_cases e : k = x
    · subst e; rw [Maps.has_put_same hD (show WideAt.IsKeyLit (ik k) from trivial)]; simp
    · rw [Maps.has_put_other (hne e), h.has]; simp [e]
  · by_cases e : k = x
    · subst e; rw [Maps.atKey_put_same hD (show WideAt.IsKeyLit (ik k) from trivial)]
    · rw [Maps.atKey_put_other (hne e)]
      refine h.at_ k ?_ z
      have := hgf k
      rw [hk] at this
      simpa [e] using this
theorem NwB.bag {w : World} {b mb n c : Nat} {D : DataW Unit} (h : NwB w b mb (1 + n + c) (place n c) D) (hn : n ≤ 6) (hc : c ≤ 8) {own : Nat → Prop} (hb : ¬ own b) (hm : ¬ own mb) (ho : ∀ x, own x → x < w.heap.size) : BagAt own (w.setCell ⟨b, 0, none⟩ (.pointer (some ⟨b, 0, none⟩))) b n c fun _ => [] := by
  have hbm : b ≠ mb := fun e => by
    obtain ⟨es, cl, hm, _⟩ := h.map
    have := h.head
    rw [e, hm] at this; cases this
  refine ⟨mb, fun _ => (none, 0, 0), D, ?_, ?_, ⟨h.size, hn, hc⟩, h.has, h.at_, fun k hp => World.ownsRow_nil _ _ _ _, fun j k g _ _ e => (by cases e), Home.empty n c, hb, hm, fun k g _ e => (by cases e), fun x hx => by simpa [World.setCell] using ho x hx⟩
  · simp [World.setCell, Array.getElem?_modify, h.head]
  · exact h.map.setCell (fun e => hbm (by simpa using e.symm)) _
def newE (x y : Int) : Int := if 1 ≤ x ∧ x ≤ 6 ∧ 1 ≤ y ∧ y ≤ 8 then 0 else 1
def NWR (w : World) (x y : Int) (e : Ending) (w' : World) : Prop := Below w.heap.size w w' ∧
  ((newE x y = 0 ∧ ∃ b, e = .returned (.tuple #[.pointer (some ⟨b, 0, none⟩), .int .i64 0]) ∧ BagAt (fun z => z < w.heap.size) w' b x.toNat y.toNat fun _ => []) ∨ (newE x y = 1 ∧ e = .returned (.tuple #[.pointer none, .int .i64 1])))
set_option maxRecDepth 100000 in
set_option maxHeartbeats 4000000 in
theorem new15_yes (w : World) (n c : Nat) (hn : 1 ≤ n ∧ n ≤ 6) (hc : 1 ≤ c ∧ c ≤ 8) : Calls Try.prog 8 #[.int .i64 (n : Int), .int .i64 (c : Int)] w fun e w' => Below w.heap.size w w' ∧ ∃ b, e = .returned (.tuple #[.pointer (some ⟨b, 0, none⟩), .int .i64 0]) ∧ BagAt (fun z => z < w.heap.size) w' b n c fun _ => [] := by
  have hmm := @run_makeMap Try.prog
  have h1 : ¬ (n : Int) < 1 := by omega
  have h2 : ¬ (6 : Int) < (n : Int) := by omega
  have h3 : ¬ (c : Int) < 1 := by omega
  have h4 : ¬ (8 : Int) < (c : Int) := by omega
  have hown := World.ownsMap_made (H := Unit) w Try.prog 3 sR
  obtain ⟨w1, hrun, hmap, hturn⟩ := hown.store (int_keyed Try.underlying3) Try.underlying58 (by unfold maxLen; omega) (keyI (-1) (by decide)) (sR_mk (none, 0, 0))
  have hsz1 : w1.heap.size = w.heap.size + 1 := by
    obtain ⟨es, cl, es', cl', h, rfl⟩ := hturn
    simp [Go.ChangeMaps.setBlock]
  have hb1 : Below w.heap.size w w1 := by
    have hg := hturn.grown
    have ha := (Below.refl w.heap.size w).alloc (Nat.le_refl _) (.map #[] 0)
    exact ⟨hg.os.trans ha.os, hg.tape.trans ha.tape, hg.output.trans ha.output, by omega, fun b hb => (hg.block b (by simp; omega) (fun e => by injection e with e; omega)).trans (ha.block b hb)⟩
  have hnw : NwB (w1.alloc (.cells #[.pointer none, .map (some w.heap.size)] 60)) (w.heap.size + 1) w.heap.size 1 (place 0 0) ((DataW.map []).put (ik (-1)) (sD (none, 0, 0))) := by
    refine ⟨?_, (map_exact15 hmap).alloc _, by rfl, fun k => ?_, fun k hk z => ?_⟩
    · rw [← hsz1]; unfold World.alloc; simp
    · by_cases e : k = -1
      · subst e; rfl
      · rw [Maps.has_put_other (fun e2 => e (by injection e2))]
        have : place 0 0 k = false := by
          cases h : place 0 0 k with
          | false => rfl
          | true => have := place_iff.1 h; omega
        rw [this]; rfl
    · have e : k = -1 := by have := place_iff.1 hk; omega
      subst e
      rw [Maps.atKey_put_same Maps.isMap_empty (show WideAt.IsKeyLit (ik (-1)) from trivial)]
  have hrun' : (Instr.mapUpdate 58 (.map (some w.heap.size)) (.int .i64 (-1)) (.slice none 0 0)).run Try.prog (w.alloc (.map #[] 0)) = .ok () w1 := hrun
  have HB1 := Lib.hid (bal hb1 (.cells #[.pointer none, .map (some w.heap.size)] 60))
  have HNW := Lib.hid hnw
  have HC := Lib.hid hc
  have HN := Lib.hid hn
  clear hnw hmap hturn hb1 hown hc hn hrun
  go_enter Try.func8, Try.ntmps8
  go_upto_region 4 with fail
  obtain ⟨xb, hxb⟩ : ∃ xb, xb = w.heap.size + 1 := ⟨_, rfl⟩
  obtain ⟨mb, hmb⟩ : ∃ mb, mb = w.heap.size := ⟨_, rfl⟩
  obtain ⟨W, hW⟩ : ∃ W, W = w1.alloc (.cells #[.pointer none, .map (some w.heap.size)] 60) := ⟨_, rfl⟩
  rw [← hW] at HB1 HNW ⊢
  rw [← hxb, ← hmb] at HNW ⊢
  have HLT := Lib.hid (show w.heap.size ≤ xb ∧ w.heap.size ≤ mb by omega)
  clear hW hrun' hsz1 hmb hxb
  go_upto_region 5 with fail
  go_loopw [28] (fun i wr => ∃ k : Nat, i = .int .i64 k ∧ k ≤ n ∧ Hid (∃ D, NwB wr xb mb (1 + k) (place k 0) D) ∧ Hid (Below w.heap.size w wr)) (fun i _ => n - (intOf i).toNat)
  case atStart => exact ⟨0, rfl, by omega, Lib.hid ⟨_, HNW.out⟩, HB1⟩
  case round =>
    obtain ⟨k, rfl, hk, HD, HW⟩ := hrel
    obtain ⟨D, hD⟩ := HD.out
    by_cases hlt : k < n
    · have hki : (k : Int) < (n : Int) := by omega
      have c1 : wr.cell? ⟨xb, 1, none⟩ = some (.map (some mb)) := by simp [World.cell?, hD.head]
      have hxl := heap_lt15 hD.head
      have HDD := Lib.hid hD
      have HSM := Lib.hid (show Maps.size D < maxLen by have := hD.size; have := HN.out; unfold maxLen; omega)
      have HKW : Hid ((Lit.int .i64 (k : Int)).wf = true) := Lib.hid (by
        have h1 : IntKind.i64.min = -9223372036854775808 := rfl
        have h2 : IntKind.i64.max = 9223372036854775807 := rfl
        have := HN.out
        simp [Lit.wf]
        omega)
      clear hD HD
      go_wp2_with (first | (at_mapUpdate; refine wpList_mapUpdate_in _ rfl _ _ _ 58 rfl 3 28 (int_keyed Try.underlying3) Try.underlying58 sR mb _ D rfl HDD.out.map HSM.out _ _ _ rfl rfl (keyI (k : Int) HKW.out) _ [] (sR_mk (none, 0, 0)) ?_; intro w2 hown2 hturn2) | go_in)
      go_roundw
      case rel =>
        refine ⟨k + 1, by go_num, by omega, Lib.hid ⟨_, nw_add HDD.out hown2 hturn2 (x := (k : Int)) (g := place (k + 1) 0) ?_ ?_⟩, Lib.hid ?_⟩
        · cases h : place k 0 (k : Int) with
          | false => rfl
          | true => have := place_iff.1 h; omega
        · intro j
          rw [Bool.eq_iff_iff]
          simp only [Bool.or_eq_true, beq_iff_eq, place_iff]
          omega
        · have hg := hturn2.grown
          have hb := HW.out
          have hl := HLT.out
          exact ⟨hg.os.trans hb.os, hg.tape.trans hb.tape, hg.output.trans hb.output, Nat.le_trans hb.size hg.size, fun b hb' => (hg.block b (Nat.lt_of_lt_of_le hb' hb.size) (fun e => by injection e with e; omega)).trans (hb.block b hb')⟩
      case measure => simp [intOf]; omega
    · obtain rfl : k = n := by omega
      clear hD
      go_upto_region 10 with fail
      go_loopw [38] (fun i wr => ∃ j : Nat, i = .int .i64 j ∧ j ≤ c ∧ Hid (∃ D, NwB wr xb mb (1 + k + j) (place k j) D) ∧ Hid (Below w.heap.size w wr)) (fun i _ => c - (intOf i).toNat)
      case atStart => exact ⟨0, rfl, by omega, HD, HW⟩
      case round =>
        obtain ⟨j, rfl, hj, HD, HW⟩ := hrel
        obtain ⟨D, hD⟩ := HD.out
        by_cases hlt : j < c
        · have hki : (j : Int) < (c : Int) := by omega
          have c1 : wr.cell? ⟨xb, 1, none⟩ = some (.map (some mb)) := by simp [World.cell?, hD.head]
          have hxl := heap_lt15 hD.head
          have HDD := Lib.hid hD
          have HSM := Lib.hid (show Maps.size D < maxLen by have := hD.size; have := HN.out; have := HC.out; unfold maxLen; omega)
          obtain ⟨kk, hkk⟩ : ∃ kk : Int, kk = 100 + (j : Int) := ⟨_, rfl⟩
          have HKK := Lib.hid hkk
          have hwr : IntKind.i64.wrap (100 + (j : Int)) = kk := by rw [hkk]; exact IntWalk.i64_in _ (by have := HC.out; omega)
          have HKW : Hid ((Lit.int .i64 kk).wf = true) := Lib.hid (by
            have h1 : IntKind.i64.min = -9223372036854775808 := rfl
            have h2 : IntKind.i64.max = 9223372036854775807 := rfl
            have := HC.out
            simp [Lit.wf]
            omega)
          clear hD HD hkk
          go_wp2_with (first | (at_mapUpdate; refine wpList_mapUpdate_in _ rfl _ _ _ 58 rfl 3 28 (int_keyed Try.underlying3) Try.underlying58 sR mb _ D rfl HDD.out.map HSM.out _ _ _ rfl rfl (keyI kk HKW.out) _ [] (sR_mk (none, 0, 0)) ?_; intro w2 hown2 hturn2) | go_in)
          go_roundw
          case rel =>
            have hk := HKK.out
            refine ⟨j + 1, by go_num, by omega, Lib.hid ⟨_, nw_add HDD.out hown2 hturn2 (x := kk) (g := place k (j + 1)) ?_ ?_⟩, Lib.hid ?_⟩
            · cases h : place k j kk with
              | false => rfl
              | true => have := place_iff.1 h; have := HN.out; omega
            · intro y
              rw [Bool.eq_iff_iff]
              simp only [Bool.or_eq_true, beq_iff_eq, place_iff]
              omega
            · have hg := hturn2.grown
              have hb := HW.out
              have hl := HLT.out
              exact ⟨hg.os.trans hb.os, hg.tape.trans hb.tape, hg.output.trans hb.output, Nat.le_trans hb.size hg.size, fun b hb' => (hg.block b (Nat.lt_of_lt_of_le hb' hb.size) (fun e => by injection e with e; omega)).trans (hb.block b hb')⟩
          case measure => simp [intOf]; omega
        · obtain rfl : j = c := by omega
          have c0 : wr.cell? ⟨xb, 0, none⟩ = some (.pointer none) := by simp [World.cell?, hD.head]
          have f0 : wr.frozen? ⟨xb, 0, none⟩ = false := by simp [World.frozen?, hD.head]
          have hxl := heap_lt15 hD.head
          have HDD := Lib.hid hD
          clear hD
          go_wp2_with fail
          go_ret2
          refine ⟨HW.out.setCell (p := ⟨xb, 0, none⟩) HLT.out.1 _, xb, rfl, HDD.out.bag HN.out.2 HC.out.2 (by have := HLT.out.1; omega) (by have := HLT.out.2; omega) (fun x hx => Nat.lt_of_lt_of_le hx HW.out.size)⟩
theorem new15_any (w : World) (x y : Int) : Calls Try.prog 8 #[.int .i64 x, .int .i64 y] w (NWR w x y) := by
  by_cases h : 1 ≤ x ∧ x ≤ 6 ∧ 1 ≤ y ∧ y ≤ 8
  · have hE : newE x y = 0 := if_pos h
    obtain ⟨n, rfl⟩ : ∃ n : Nat, x = (n : Int) := ⟨x.toNat, by omega⟩
    obtain ⟨c, rfl⟩ : ∃ c : Nat, y = (c : Int) := ⟨y.toNat, by omega⟩
    refine (new15_yes w n c (by omega) (by omega)).mono fun e w' hq => ⟨hq.1, .inl ⟨hE, ?_⟩⟩
    simpa using hq.2
  · have hE : newE x y = 1 := if_neg h
    have HE := Lib.hid hE
    clear hE
    by_cases h1 : x < 1
    · clear h
      go_enter Try.func8, Try.ntmps8
      go_wp2_with fail
      go_ret2
      exact ⟨Below.refl _ _, .inr ⟨HE.out, rfl⟩⟩
    · by_cases h2 : 6 < x
      · clear h
        go_enter Try.func8, Try.ntmps8
        go_wp2_with fail
        go_ret2
        exact ⟨Below.refl _ _, .inr ⟨HE.out, rfl⟩⟩
      · by_cases h3 : y < 1
        · clear h
          go_enter Try.func8, Try.ntmps8
          go_wp2_with fail
          go_ret2
          exact ⟨Below.refl _ _, .inr ⟨HE.out, rfl⟩⟩
        · have h4 : 8 < y := by omega
          clear h
          go_enter Try.func8, Try.ntmps8
          go_wp2_with fail
          go_ret2
          exact ⟨Below.refl _ _, .inr ⟨HE.out, rfl⟩⟩
end Go.Proofs.Ytkljokmhfoannaa
