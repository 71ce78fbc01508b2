/-
  Layer 7 (sorted): From's value as an iterator: keys and values from a key on, rising, as long as it is let go on; of a map that nobody made nothing. Conditions: none.
-/
import Derived.Test.YteolhbcmffbdlaaOe
namespace Go.Proofs.Yteolhbcmffbdlaa.TI
open Go.RowKit Go.Shelf
set_option linter.unusedVariables false
set_option linter.unusedSimpArgs false
attribute [local go_sem] Oper.semAt_some

theorem grown_of_below {w w' : World} (h : Below w.heap.size w w') : w.grownBy w' none := ⟨h.os, h.tape, h.output, h.size, fun k hk _ => h.block k hk⟩
theorem abides_below {β : Type} {B : Nat} {J : β → World → Prop} (h : AbidesFrom B J) {s : β} {w w' : World} (hj : J s w) (hb : Below w.heap.size w w') : J s w' := h s w w' none hj (grown_of_below hb) (fun r e => by cases e)
theorem from_any (p : Option Addr) (k : Ky) (w : World) :
    Calls Try.prog 22 #[.pointer p, .string ⟨k.toArray⟩] w fun e w' => e = .returned (.func (.func 36) #[] #[.pointer (some ⟨w.heap.size, 0, none⟩), .pointer (some ⟨w.heap.size + 1, 0, none⟩)]) ∧ w' = (w.alloc (.cells #[.pointer p] 23)).alloc (.cells #[.string ⟨k.toArray⟩] 9) := by
  go_enter Try.func22, Try.ntmps22
  go_wp2
  go_ret
  exact ⟨rfl, rfl⟩
/-- What the closure's call answers. -/
def OverR (J Jx : List (Ky × Int) → World → Prop) (all : List (Ky × Int)) (e : Ending) (W' : World) : Prop := (∃ v, e = .returned v) ∧ ((∃ xs, xs = all ∧ J xs W') ∨ (∃ pre, pre <+: all ∧ Jx pre W'))
theorem over_of {W0 W W' : World} {J Jx : List (Ky × Int) → World → Prop} {all : List (Ky × Int)} {e : Ending} (h : EachR W0 J Jx [] all W e W') : (∃ v, e = .returned v) ∧ ((∃ xs, xs = all ∧ J xs W') ∨ (∃ pre, pre <+: all ∧ Jx pre W')) := by
  rcases h with ⟨rfl, hj, _⟩ | ⟨rfl, q, hq, hx⟩
  · exact ⟨⟨_, rfl⟩, .inl ⟨_, rfl, by simpa using hj⟩⟩
  · exact ⟨⟨_, rfl⟩, .inr ⟨q, hq, by simpa using hx⟩⟩
set_option maxHeartbeats 1000000 in
theorem over_none (n : Nat) (l B1 B2 : Nat) (p : Option Addr) (J Jx : List (Ky × Int) → World → Prop) (W : World) (h1 : W.cell? ⟨B1, 0, none⟩ = some (.pointer p)) (hp : Nobody W p) (hJ : ∀ {w w' : World}, J [] w → Below w.heap.size w w' → J [] w') (h0 : J [] W) :
    CallsIn Fence.wide n Try.prog 36 #[.func (.yield l) #[] #[], .pointer (some ⟨B1, 0, none⟩), .pointer (some ⟨B2, 0, none⟩)] W (OverR J Jx []) := by
  have HJ := Lib.hid h0
  have HP := Lib.hid hp
  have HA : Hid (∀ {w w' : World}, J [] w → Below w.heap.size w w' → J [] w') := Lib.hid hJ
  clear hJ h0 hp
  refine callsIn_of_wp Try.func36 rfl trivial ?_ rfl
  simp only [Try.ntmps36, List.size_toArray, List.length_cons, List.length_nil, Nat.reduceAdd, Nat.reduceSub, Array.replicate_succ, Array.replicate_zero, List.push_toArray, List.append_toArray, List.nil_append, List.cons_append]
  gi_wp2_with ((refine ⟨trivial, (fun h => absurd h (by decide)), ?_⟩); gi_at_call 31; refine (callsIn_wide.2 (given_no HP.out)).mono ?_; rintro e W1 ⟨rfl, b1⟩)
  go_end0
  exact ⟨⟨_, rfl⟩, .inl ⟨[], rfl, HA.out HJ.out b1⟩⟩
set_option maxHeartbeats 1000000 in
theorem over_map (n : Nat) (l B1 B2 m : Nat) (L : List (Ky × Int)) (k : Ky) (W0 : World) (hm : MapAt W0 m L) (J Jx : List (Ky × Int) → World → Prop)
    (hJ : ∀ pre (w w' : World), J pre w → Below w.heap.size w w' → J pre w')
    (hY : ∀ pre x W1, J pre W1 → pre.length < (fromA k L).length → YieldAt Fence.wide (n - 1) Try.prog l (encs x) W1 fun e W' =>
      (e = .returned (.bool true) ∧ J (pre ++ [x]) W' ∧ Below W0.heap.size W1 W') ∨ (e = .returned (.bool false) ∧ Jx (pre ++ [x]) W'))
    (W : World) (hW : Below W0.heap.size W0 W) (h1 : W.cell? ⟨B1, 0, none⟩ = some (.pointer (some ⟨m, 0, none⟩))) (h2 : W.cell? ⟨B2, 0, none⟩ = some (.string ⟨k.toArray⟩)) (h0 : J [] W) :
    CallsIn Fence.wide n Try.prog 36 #[.func (.yield l) #[] #[], .pointer (some ⟨B1, 0, none⟩), .pointer (some ⟨B2, 0, none⟩)] W (OverR J Jx (fromA k L)) := by
  have HM := Lib.hid hm
  have HW := Lib.hid hW
  have hml := hm.lt
  obtain ⟨p, t, q1, q2, rfl, hr, -⟩ := hm
  obtain ⟨-, c1, -, -, -⟩ := cellsOf q1
  have HE := Lib.hid (fun (W2 : World) (hb : Below W0.heap.size W0 W2) (hj : J [] W2) => each_in Fence.wide rfl trivial rfl l (fromA k t.all).length W0 J Jx (fun pre W hj => hJ pre W _ hj ((Below.refl _ _).drew)) (fun mm pre x W hj hl => yieldAny rfl mm (hY pre x W hj hl)) k t p q2 hr (n - 1) [] W2 hb hj (by simp))
  have HJ := Lib.hid hJ
  have H0 := Lib.hid h0
  have C1 := Lib.hid c1
  clear hJ h0 hY q1 q2 hr c1 hW
  refine callsIn_of_wp Try.func36 rfl trivial ?_ rfl
  simp only [Try.ntmps36, List.size_toArray, List.length_cons, List.length_nil, Nat.reduceAdd, Nat.reduceSub, Array.replicate_succ, Array.replicate_zero, List.push_toArray, List.append_toArray, List.nil_append, List.cons_append]
  have lt1 := cell_lt h1
  have lt2 := cell_lt h2
  dsimp only at lt1 lt2
  gi_wp2_with ((refine ⟨trivial, (fun h => absurd h (by decide)), ?_⟩); gi_at_call 31; refine (callsIn_wide.2 (given_yes (HM.out.below HW.out))).mono ?_; rintro e W1 ⟨rfl, b1⟩; have B1 := Lib.hid b1; obtain ⟨hc, hf⟩ := bcell b1)
  have HB1 := Lib.hid (HW.out.trans (B1.out.mono HW.out.size))
  have x1 := (HB1.out.cell (p := ⟨m, 1, none⟩) hml).trans C1.out
  have HJ1 := Lib.hid (HJ.out _ _ _ (HJ.out _ _ _ H0.out b1) ((Below.refl W1.heap.size W1).drew))
  have HD1 := Lib.hid (HB1.out.drew)
  clear b1
  refine wpIn_region_any (by kernel_rfl) ?_
  change wpAnyIn _ _ _ _ _ _ _ _ _ (World.drew _)
  refine wpAnyIn_take (i := 5) (v := ?_) (rfl : Fence.wide.round = none) rfl (by kernel_rfl) (by kernel_rfl) (by kernel_rfl) (fun _ _ _ h => h) ⟨Or.inl ⟨by rfl, ?_⟩, fun _ => rfl⟩ ?_
  rotate_left
  · (intro w; go_simp; try with_reducible rfl)
  simp only [Act.put, List.getElem_toArray, List.getElem_cons_succ, List.getElem_cons_zero, List.setIfInBounds_toArray, List.set_cons_zero, List.set_cons_succ]
  refine wpAnyIn_ready (rs := [0, 4]) (by kernel_rfl) (by simp) ?_
  refine AllReadyIn.cons rfl (fun K hK => ?_) ?_
  · go_simp
    refine hK _ _ ?_
    clear hK K
    refine wpAnyIn_take (i := 1) (v := ?_) (rfl : Fence.wide.round = none) rfl (by kernel_rfl) (by kernel_rfl) (by kernel_rfl) (fun _ _ _ h => h) ⟨Or.inl ⟨by rfl, ?_⟩, fun _ => rfl⟩ ?_
    rotate_left
    · (intro w; go_simp; try with_reducible rfl)
    simp only [Act.put, List.getElem_toArray, List.getElem_cons_succ, List.getElem_cons_zero, List.setIfInBounds_toArray, List.set_cons_zero, List.set_cons_succ]
    refine wpAnyIn_take (i := 2) (v := ?_) (rfl : Fence.wide.round = none) rfl (by kernel_rfl) (by kernel_rfl) (by kernel_rfl) (fun _ _ _ h => h) ⟨Or.inl ⟨by rfl, ?_⟩, fun _ => rfl⟩ ?_
    rotate_left
    · (intro w; go_simp; try with_reducible rfl)
    simp only [Act.put, List.getElem_toArray, List.getElem_cons_succ, List.getElem_cons_zero, List.setIfInBounds_toArray, List.set_cons_zero, List.set_cons_succ]
    refine wpAnyIn_ready (rs := [3, 4]) (by kernel_rfl) (by simp) ?_
    refine AllReadyIn.cons rfl (fun K hK => ?_) ?_
    · go_simp
      refine hK _ _ ?_
      clear hK K
      refine wpAnyIn_ready (rs := [4]) (by kernel_rfl) (by simp) ?_
      refine AllReadyIn.cons rfl (fun K hK => ?_) ?_
      · go_simp
        refine hK _ _ ?_
        clear hK K
        refine wpAnyIn_ready (rs := [6]) (by kernel_rfl) (by simp) ?_
        refine AllReadyIn.cons rfl (fun K hK => ?_) ?_
        · go_simp
          (refine ⟨trivial, (fun h => absurd h (by decide)), ?_⟩); gi_at_call 37; refine (HE.out _ HD1.out HJ1.out).mono ?_; rintro e W2 he; have HX := Lib.hid (over_of he); obtain ⟨v, rfl⟩ := (over_of he).1; clear he
          · refine hK _ _ ?_
            clear hK K
            refine wpAnyIn_done (by kernel_rfl) ?_ _
            gi_wp2
            go_end0
            exact ⟨⟨_, rfl⟩, HX.out.2⟩
        exact AllReadyIn.nil
      exact AllReadyIn.nil
    refine AllReadyIn.cons rfl (fun K hK => ?_) ?_
    · go_simp
      refine hK _ _ ?_
      clear hK K
      refine wpAnyIn_ready (rs := [3]) (by kernel_rfl) (by simp) ?_
      refine AllReadyIn.cons rfl (fun K hK => ?_) ?_
      · go_simp
        refine hK _ _ ?_
        clear hK K
        refine wpAnyIn_ready (rs := [6]) (by kernel_rfl) (by simp) ?_
        refine AllReadyIn.cons rfl (fun K hK => ?_) ?_
        · go_simp
          (refine ⟨trivial, (fun h => absurd h (by decide)), ?_⟩); gi_at_call 37; refine (HE.out _ HD1.out HJ1.out).mono ?_; rintro e W2 he; have HX := Lib.hid (over_of he); obtain ⟨v, rfl⟩ := (over_of he).1; clear he
          · refine hK _ _ ?_
            clear hK K
            refine wpAnyIn_done (by kernel_rfl) ?_ _
            gi_wp2
            go_end0
            exact ⟨⟨_, rfl⟩, HX.out.2⟩
        exact AllReadyIn.nil
      exact AllReadyIn.nil
    exact AllReadyIn.nil
  refine AllReadyIn.cons rfl (fun K hK => ?_) ?_
  · go_simp
    refine hK _ _ ?_
    clear hK K
    refine wpAnyIn_ready (rs := [0]) (by kernel_rfl) (by simp) ?_
    refine AllReadyIn.cons rfl (fun K hK => ?_) ?_
    · go_simp
      refine hK _ _ ?_
      clear hK K
      refine wpAnyIn_take (i := 1) (v := ?_) (rfl : Fence.wide.round = none) rfl (by kernel_rfl) (by kernel_rfl) (by kernel_rfl) (fun _ _ _ h => h) ⟨Or.inl ⟨by rfl, ?_⟩, fun _ => rfl⟩ ?_
      rotate_left
      · (intro w; go_simp; try with_reducible rfl)
      simp only [Act.put, List.getElem_toArray, List.getElem_cons_succ, List.getElem_cons_zero, List.setIfInBounds_toArray, List.set_cons_zero, List.set_cons_succ]
      refine wpAnyIn_take (i := 2) (v := ?_) (rfl : Fence.wide.round = none) rfl (by kernel_rfl) (by kernel_rfl) (by kernel_rfl) (fun _ _ _ h => h) ⟨Or.inl ⟨by rfl, ?_⟩, fun _ => rfl⟩ ?_
      rotate_left
      · (intro w; go_simp; try with_reducible rfl)
      simp only [Act.put, List.getElem_toArray, List.getElem_cons_succ, List.getElem_cons_zero, List.setIfInBounds_toArray, List.set_cons_zero, List.set_cons_succ]
      refine wpAnyIn_ready (rs := [3]) (by kernel_rfl) (by simp) ?_
      refine AllReadyIn.cons rfl (fun K hK => ?_) ?_
      · go_simp
        refine hK _ _ ?_
        clear hK K
        refine wpAnyIn_ready (rs := [6]) (by kernel_rfl) (by simp) ?_
        refine AllReadyIn.cons rfl (fun K hK => ?_) ?_
        · go_simp
          (refine ⟨trivial, (fun h => absurd h (by decide)), ?_⟩); gi_at_call 37; refine (HE.out _ HD1.out HJ1.out).mono ?_; rintro e W2 he; have HX := Lib.hid (over_of he); obtain ⟨v, rfl⟩ := (over_of he).1; clear he
          · refine hK _ _ ?_
            clear hK K
            refine wpAnyIn_done (by kernel_rfl) ?_ _
            gi_wp2
            go_end0
            exact ⟨⟨_, rfl⟩, HX.out.2⟩
        exact AllReadyIn.nil
      exact AllReadyIn.nil
    exact AllReadyIn.nil
  exact AllReadyIn.nil
/-- From's value, as an iterator. -/
theorem from_stops (n m : Nat) (L : List (Ky × Int)) (k : Ky) (W0 w : World) (hm : MapAt W0 m L) (hw : Below W0.heap.size W0 w) (B1 B2 : Nat) (h1 : w.cell? ⟨B1, 0, none⟩ = some (.pointer (some ⟨m, 0, none⟩))) (h2 : w.cell? ⟨B2, 0, none⟩ = some (.string ⟨k.toArray⟩)) :
    SeqStopsK Fence.wide n Try.prog 36 #[.pointer (some ⟨B1, 0, none⟩), .pointer (some ⟨B2, 0, none⟩)] encs (Below W0.heap.size) (fun ys => ys = fromA k L) (fun pre => pre <+: fromA k L) (fromA k L).length w := by
  intro l J Jx W hW hJ hJx hY h0
  have lt1 := cell_lt h1
  have lt2 := cell_lt h2
  exact over_map n l B1 B2 m L k W0 hm J Jx (fun pre w w' hj hb => abides_below hJ hj hb) hY W (hw.trans (hW.mono hw.size)) ((hW.cell (p := ⟨B1, 0, none⟩) lt1).trans h1) ((hW.cell (p := ⟨B2, 0, none⟩) lt2).trans h2) h0
theorem from_stops_none (n : Nat) (p : Option Addr) (w : World) (hp : Nobody w p) (B1 B2 n₀ : Nat) (h1 : w.cell? ⟨B1, 0, none⟩ = some (.pointer p)) :
    SeqStopsK Fence.wide n Try.prog 36 #[.pointer (some ⟨B1, 0, none⟩), .pointer (some ⟨B2, 0, none⟩)] encs (Below n₀) (fun ys => ys = []) (fun pre => pre <+: []) 0 w := by
  intro l J Jx W hW hJ hJx hY h0
  have lt1 := cell_lt h1
  exact over_none n l B1 B2 p J Jx W ((hW.cell (p := ⟨B1, 0, none⟩) lt1).trans h1) (hp.below hW) (fun hj hb => abides_below hJ hj hb) h0
end Go.Proofs.Yteolhbcmffbdlaa.TI
