/-
  Layer 3 (frame): the contract of the laws' own 'all'; the walk of the law FrameCuts. Conditions: the slice within the form's reach.
-/
import Derived.Test.YtflnohmmhodhgaaFlA
namespace Go.Proofs.Ytflnohmmhodhgaa
open Go.RowKit

theorem Try.infoInt : (Try.prog.info? 3).map (fun i => (i.zero, i.size, i.bytes)) = some (some (.int .i64 0), 1, 8) := by kernel_rfl
/-- The lists that the laws take. -/
def good (ts : List (List UInt8)) : Prop := ts.length ≤ 12 ∧ ∀ t ∈ ts, t.length ≤ 300
theorem good_le {ts : List (List UInt8)} (h : good ts) : ∀ t ∈ ts, t.length ≤ 262144 := fun t ht => Nat.le_trans (h.2 t ht) (by decide)
/-- Where frames end. -/
def endsL (ts : List (List UInt8)) : List Nat := (List.range ts.length).map fun i => (frs (ts.take (i + 1))).length
theorem endsL_length (ts : List (List UInt8)) : (endsL ts).length = ts.length := by simp [endsL]
theorem endsL_get (ts : List (List UInt8)) (i : Nat) (h : i < (endsL ts).length) : (endsL ts)[i] = (frs (ts.take (i + 1))).length := by simp [endsL]
theorem endsL_snoc (ts : List (List UInt8)) (x : List UInt8) : endsL (ts ++ [x]) = endsL ts ++ [(frs (ts ++ [x])).length] := by
  unfold endsL
  rw [List.length_append, List.length_singleton, List.range_succ, List.map_append]
  congr 1
  · refine List.map_congr_left fun i hi => ?_
    have := List.mem_range.1 hi
    rw [List.take_append_of_le_length (by omega)]
  · rw [List.map_singleton, List.take_of_length_le (by rw [List.length_append]; simp)]
theorem frs_small {ts : List (List UInt8)} (h : good ts) : (frs ts).length ≤ 3756 := by
  have h1 := frs_le ts 300 (by decide) h.2
  have h2 := h.1
  have h3 : (300 + 13) * ts.length ≤ (300 + 13) * 12 := Nat.mul_le_mul_left _ h2
  omega
theorem good_step {ts : List (List UInt8)} {k : Nat} (h : good (ts.take k)) (hk : k < ts.length) (hk2 : k < 12) (ht : ts[k].length ≤ 300) : good (ts.take (k + 1)) := by
  rw [List.take_succ_eq_append_getElem hk]
  have h1 := h.1
  rw [List.length_take] at h1
  refine ⟨by rw [List.length_append, List.length_take]; simp; omega, fun t hm => ?_⟩
  rw [List.mem_append, List.mem_singleton] at hm
  rcases hm with hm | rfl
  · exact h.2 t hm
  · exact ht
theorem good_no1 {ts : List (List UInt8)} (h : 12 < ts.length) : ¬ good ts := fun g => by have := g.1; omega
theorem good_no2 {ts : List (List UInt8)} {k : Nat} (hk : k < ts.length) (h : 300 < ts[k].length) : ¬ good ts := fun g => by have := g.2 _ (List.getElem_mem hk); omega
theorem good_end {ts : List (List UInt8)} {k : Nat} (hk : k = ts.length) (h : good (ts.take k)) : good ts := by
  subst hk
  rw [List.take_length] at h
  exact h
/-- What 'all' leaves. -/
def AL (ts : List (List UInt8)) (w : World) (e : Ending) (w' : World) : Prop :=
  Below w.heap.size w w' ∧ ((¬ good ts ∧ e = .returned (.tuple #[.string ⟨#[]⟩, .slice none 0 0, .bool false])) ∨
    (good ts ∧ ∃ b c, e = .returned (.tuple #[.string ⟨(frs ts).toArray⟩, .slice b ts.length c, .bool true]) ∧ RdI w' b (endsL ts)))
theorem nv_one (n : Nat) : ∀ u ∈ [Value.int .i64 (n : Int)], u.oneCell' = true := one_int _ _

set_option maxRecDepth 100000 in
set_option maxHeartbeats 1000000 in
theorem all_none (a : Option Addr) (cap : Nat) (w : World) :
    Calls Try.prog 17 #[.slice a 0 cap] w (AL [] w) := by
  go_enter Try.func17, Try.ntmps17
  go_wp2
  refine wp_loop_rounds 1 ?_
  rw [rounds_succ]
  go_wp2
  go_ret3
  exact ⟨Below.refl _ _, .inr ⟨⟨by simp, by simp⟩, none, 0, rfl, .inl rfl⟩⟩
set_option maxRecDepth 100000 in
set_option maxHeartbeats 1000000 in
theorem all_some (b off n cap : Nat) (ts : List (List UInt8)) (w : World) (hn : n < 9223372036854775808) (hl : ts.length = n) (hb : b < w.heap.size)
    (hc : ∀ i (h : i < ts.length), w.cell? ⟨b, off + i, none⟩ = some (.string ⟨ts[i].toArray⟩)) :
    Calls Try.prog 17 #[.slice (some ⟨b, off, none⟩) n cap] w (AL ts w) := by
  obtain ⟨i0, hi, hz0, hz1, hz2⟩ := info_parts Try.infoInt
  have HC := Lib.hid hc
  have HL := Lib.hid hl
  clear hc hl
  go_enter Try.func17, Try.ntmps17
  go_wp2
  go_loopw [5, 6, 7] (fun x v i wr => ∃ (k : Nat) (X : ByteArray) (m : Nat), i = .int .i64 k ∧ k ≤ n ∧ x = .string X ∧ X.size ≤ 3756 ∧ m = k ∧ Hid (X = ⟨(frs (ts.take k)).toArray⟩ ∧ good (ts.take k) ∧ wr.ownsRow w.heap.size 3 1 v m (nv (endsL (ts.take k)))) ∧ Below w.heap.size w wr) (fun _ _ i _ => n - (intOf i).toNat)
  case atStart => exact ⟨0, ⟨#[]⟩, 0, rfl, by omega, rfl, by decide, rfl, Lib.hid ⟨rfl, ⟨by simp, by simp⟩, World.ownsRow_nil _ _ _ _⟩, Below.refl _ _⟩
  case round =>
    obtain ⟨k, X, m, rfl, hk, rfl, hXs, hmk, HX, hbel⟩ := hrel
    have hbs := hbel.size
    by_cases hlt : k < n
    · have hkl : k < ts.length := by rw [HL.out]; exact hlt
      have hck : wr.cell? ⟨b, off + k, none⟩ = some (.string ⟨ts[k].toArray⟩) := (hbel.cell (p := ⟨b, off + k, none⟩) hb).trans (HC.out k hkl)
      obtain ⟨x, hx⟩ : ∃ x, x = ts[k] := ⟨_, rfl⟩
      rw [← hx] at hck
      have HXX := Lib.hid hx
      clear hx
      by_cases h12 : 12 ≤ k
      · go_wp2
        go_ret3
        exact ⟨hbel, .inl ⟨good_no1 (by omega), rfl⟩⟩
      · have hxs := mk_size x
        by_cases h300 : 300 < x.length
        · have h300' : (300 : Int) < (x.length : Int) := by omega
          have HG := Lib.hid (good_no2 hkl (by rw [← HXX.out]; exact h300))
          go_wp2
          go_ret3
          exact ⟨hbel, .inl ⟨HG.out, rfl⟩⟩
        · have h300' : (x.length : Int) ≤ 300 := by omega
          have hput := fun w => fput_code ⟨x.toArray⟩ w (by rw [hxs]; omega)
          have hfl := frL_le x (by omega)
          rw [show (⟨x.toArray⟩ : ByteArray).data.toList = x from rfl] at hput
          obtain ⟨F, hF⟩ : ∃ F, F = frL x := ⟨_, rfl⟩
          rw [← hF] at hput hfl
          have HP := Lib.hid hput
          have HF := Lib.hid hF
          have hXF : (X ++ ⟨F.toArray⟩ : ByteArray).size = X.size + F.length := by rw [ByteArray.size_append', mk_size F]
          have hcat : ∀ w : World, (Op.stringOp .add X ⟨F.toArray⟩).run Try.prog w = .ok (.string (X ++ ⟨F.toArray⟩)) w := fun w => run_string_add_sum w _ _ (by rw [mk_size F]; omega)
          clear hput hF hXs
          go_wp2_with fail
          refine (HP.out _).mono ?_
          rintro e w1 ⟨rfl, b1⟩
          have hbel1 : Below w.heap.size w w1 := hbel.trans (b1.mono hbs)
          have hb1s := hbel1.size
          have hown1 := below_own HX.out.2.2 b1
          go_wp2_with (at_builtin; refine wpList_append_own _ rfl _ _ 34 rfl w.heap.size 3 i0 (.int .i64 0) 1 8 Try.underlying34 hi hz0 hz1 hz2 rfl (by decide) _ _ _ rfl (hown1.alloc _) ⟨w1.heap.size, 0, none⟩ 1 1 [.int .i64 ((X.size : Int) + (F.length : Int))] rfl rfl ?c1 ?c2 ?c3 ?c4 ?c5 ?_)
          case c1 => exact cell_new1 _ _ _
          case c2 => exact one_int _ _
          case c3 => unfold maxLen; omega
          case c4 => omega
          case c5 => simp; omega
          · intro v' w2 hown2 hgrow _
            have hbel2 : Below w.heap.size w w2 := (hbel1.alloc hb1s _).grown hgrow (by simp; omega) (fun k hk => (hown1.lt k hk).1)
            have hXe : (X ++ ⟨F.toArray⟩ : ByteArray) = ⟨(frs (ts.take (k + 1))).toArray⟩ := by
              rw [List.take_succ_eq_append_getElem hkl, frs_snoc, ← HXX.out, ← HF.out, HX.out.1]
              apply ByteArray.ext
              simp
            have hnl : (X.size : Int) + (F.length : Int) = ((frs (ts.take (k + 1))).length : Nat) := by
              have h1 := congrArg ByteArray.size hXe
              rw [hXF, mk_size (frs (ts.take (k + 1)))] at h1
              omega
            have hgd := good_step HX.out.2.1 hkl (by omega) (by rw [← HXX.out]; omega)
            have hsm := frs_small hgd
            have hsz : (X ++ ⟨F.toArray⟩ : ByteArray).size ≤ 3756 := by rw [hXe, mk_size (frs (ts.take (k + 1)))]; exact hsm
            have hown3 : w2.ownsRow w.heap.size 3 1 v' (k + 1) (nv (endsL (ts.take (k + 1)))) := by
              rw [List.take_succ_eq_append_getElem hkl, endsL_snoc, ← nv_snoc, ← List.take_succ_eq_append_getElem hkl, ← hnl]
              exact hown2
            have HR := Lib.hid (And.intro hXe (And.intro hgd hown3))
            have HZ := Lib.hid hsz
            clear hown2 hgrow hown1 hXe hnl hgd hown3 hsm hsz
            go_wp2
            go_roundw
            case rel => exact ⟨k + 1, _, k + 1, by go_num, by omega, rfl, HZ.out, rfl, HR, hbel2⟩
            case measure => simp [intOf]; omega
    · obtain rfl : k = n := by omega
      obtain ⟨a', cap', rfl⟩ := own_slice HX.out.2.2
      have HE := Lib.hid (good_end HL.out.symm HX.out.2.1)
      go_wp2
      go_ret3
      have h1 := HX.out
      rw [← HL.out, List.take_length] at h1
      refine ⟨hbel, .inr ⟨HE.out, a', cap', ?_, ?_⟩⟩
      · rw [h1.1, hmk, HL.out]
        rfl
      · refine own_rdi (cap := cap') (base := w.heap.size) (t := 3) ?_
        have h2 := h1.2.2
        rw [hmk, ← HL.out] at h2
        rw [endsL_length]
        exact h2
theorem alls_any (a : Option Addr) (cap : Nat) (ts : List (List UInt8)) (w : World) (h : Rd w a ts) (hn : ts.length < 9223372036854775808) :
    Calls Try.prog 17 #[.slice a ts.length cap] w (AL ts w) := by
  rcases h with rfl | ⟨b, off, rfl, hb, hc⟩
  · exact all_none a cap w
  · exact all_some b off ts.length cap ts w hn rfl hb hc
end Go.Proofs.Ytflnohmmhodhgaa
