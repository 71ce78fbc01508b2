/-
  The walk of the law VarintRow. Conditions: the slice within the form's reach.
-/
import Derived.Test.YtjapgabnjlacpaaVlawA
import Derived.Deep.AppendLies
namespace Go.Proofs.Ytjapgabnjlacpaa
open Go.RowKit

/-- Numbers one behind the other. -/
def encL (ns : List Nat) : List UInt8 := ns.flatMap vL
theorem encL_snoc (ns : List Nat) (n : Nat) : encL (ns ++ [n]) = encL ns ++ vL n := by simp [encL]
theorem encL_drop (ns : List Nat) (k : Nat) (h : k < ns.length) : encL (ns.drop k) = vL ns[k] ++ encL (ns.drop (k + 1)) := by
  unfold encL
  rw [List.drop_eq_getElem_cons h, List.flatMap_cons]
theorem encL_len (ns : List Nat) (h : ∀ n ∈ ns, n ≤ 4611686018427387904) : (encL ns).length ≤ 9 * ns.length := by
  induction ns with
  | nil => simp [encL]
  | cons n ns ih =>
    have h9 := vL_len9 (h n (by simp))
    have := ih (fun m hm => h m (by simp [hm]))
    simp only [encL, List.flatMap_cons, List.length_append, List.length_cons] at this ⊢
    omega
theorem take_row (X : ByteArray) (n : Nat) (t : List UInt8) (w : World) (hX : X.data.toList = vL n ++ t) (hs : X.size ≤ 9223372036854775807) (hn : n ≤ 4611686018427387904) :
    Calls Try.prog 13 #[.string X] w fun e w' => e = .returned (.tuple #[.int .i64 (n : Int), .int .i64 ((vL n).length : Nat), .int .i64 0]) ∧ w = w' := by
  have h9 := vL_len9 hn
  have h := take_code X w hs
  rw [hX, tk_put t n 0 0 (by omega) (fun _ => rfl) (by omega)] at h
  simpa using h
theorem rest_row (X : ByteArray) (n : Nat) (t : List UInt8) (hX : X.data.toList = vL n ++ t) : (X.extract (vL n).length X.size).data.toList = t := by
  rw [Lib.extract_data, hX, List.drop_left, List.take_of_length_le]
  rw [Lib.size_eq, hX, List.length_append]
  omega
theorem Try.infoInt : (Try.prog.info? 3).map (fun i => (i.zero, i.size, i.bytes)) = some (some (.int .i64 0), 1, 8) := by kernel_rfl

set_option maxRecDepth 100000 in
set_option maxHeartbeats 1000000 in
theorem row_empty (a : Option Addr) (cap : Nat) (w : World) :
    Calls Try.prog 9 #[.slice a 0 cap] w fun e w' => e = .returned (.bool true) ∧ Below w.heap.size w w' := by
  go_enter Try.func9, Try.ntmps9
  go_wp2
  refine wp_loop_rounds 1 ?_
  rw [rounds_succ]
  go_wp2
  refine wp_loop_rounds 1 ?_
  rw [rounds_succ]
  go_wp2_with fail
  refine (numbers_any _).mono ?_
  rintro e w1 ⟨rfl, b1⟩
  go_wp2
  go_ret
  exact ⟨rfl, b1⟩

theorem getD_mem (zs : List Int) (k : Nat) (h : k < zs.length) : zs.getD k 0 ∈ zs := by
  rw [List.getD, List.getElem?_eq_getElem h]
  exact List.getElem_mem h
theorem app_data (X : ByteArray) (l : List UInt8) : (X ++ ⟨l.toArray⟩ : ByteArray).data.toList = X.data.toList ++ l := by simp
theorem wf_i64 {z : Int} (h : (Lit.int .i64 z).wf = true) : -9223372036854775808 ≤ z ∧ z ≤ 9223372036854775807 := by
  simpa [Lit.wf, IntKind.min, IntKind.max, IntKind.bits, IntKind.signed] using h

set_option maxRecDepth 100000 in
set_option maxHeartbeats 4000000 in
theorem row_some (b off len cap : Nat) (zs : List Int) (w : World) (hl : 0 < len) (hb : b < w.heap.size) (hz : len ≤ zs.length) (hlm : len ≤ 9223372036854775807)
    (hcell : ∀ i, i < zs.length → w.cell? ⟨b, off + i, none⟩ = some (.int .i64 (zs.getD i 0))) (hwf : ∀ n ∈ zs, (Lit.int .i64 n).wf = true) :
    Calls Try.prog 9 #[.slice (some ⟨b, off, none⟩) len cap] w fun e w' => e = .returned (.bool true) ∧ Below w.heap.size w w' := by
  obtain ⟨i0, hi, hz0, hz1, hz2⟩ := info_parts Try.infoInt
  have HW := Lib.hid hwf
  have HC := Lib.hid hcell
  clear hwf hcell
  go_enter Try.func9, Try.ntmps9
  go_wp2
  go_loopw [3, 4, 5] (fun x v i wr => ∃ (k : Nat) (X : ByteArray) (ns : List Nat), k ≤ len ∧ k ≤ 30 ∧ ns.length ≤ k ∧ i = .int .i64 k ∧ x = .string X ∧ X.data.toList = encL ns ∧ (∀ n ∈ ns, n ≤ 4611686018427387904) ∧
      wr.ownsRow w.heap.size 3 1 v ns.length (nv ns) ∧ Below w.heap.size w wr) (fun _ _ i _ => 30 - (intOf i).toNat)
  case atStart => exact ⟨0, ⟨#[]⟩, [], by omega, by omega, by simp, rfl, rfl, rfl, by simp, World.ownsRow_nil _ _ _ _, Below.refl _ _⟩
  case round =>
    obtain ⟨k, X, ns, hk, hk30, hnk, rfl, rfl, hX, hns, hown, hbel⟩ := hrel
    have HX := Lib.hid hX
    have HN := Lib.hid hns
    have hbs := hbel.size
    have hxs : X.size ≤ 270 := by
      have h1 := encL_len ns hns
      rw [Lib.size_eq, hX]
      omega
    clear hX hns
    by_cases hlt : k < len ∧ k < 30
    · obtain ⟨hkl, hk3⟩ := hlt
      have hck := HC.out k (by omega)
      obtain ⟨z, hzz⟩ : ∃ z, z = zs.getD k 0 := ⟨_, rfl⟩
      have hzw : (Lit.int .i64 z).wf = true := HW.out z (by rw [hzz]; exact getD_mem zs k (by omega))
      rw [← hzz] at hck
      clear hzz
      have hzb := wf_i64 hzw
      clear hzw
      have hcr : wr.cell? ⟨b, off + k, none⟩ = some (.int .i64 z) := (hbel.cell (by exact hb)).trans hck
      clear hck
      by_cases hv : 0 ≤ z ∧ z ≤ 4611686018427387904
      · obtain ⟨N, rfl⟩ := Int.eq_ofNat_of_zero_le hv.1
        have hN : N ≤ 4611686018427387904 := by omega
        have h9 := vL_len9 hN
        have hcat : ∀ w : World, (Op.stringOp .add X ⟨(vL N).toArray⟩).run Try.prog w = .ok (.string (X ++ ⟨(vL N).toArray⟩)) w := fun w => run_string_add_sum w _ _ (by
          show X.size + (vL N).toArray.size ≤ _
          rw [List.size_toArray]
          omega)
        clear hv hzb
        go_wp2_with fail
        refine (put_code N _ hN).mono ?_
        rintro e w1 ⟨rfl, b1⟩
        have hown1 : w1.ownsRow w.heap.size 3 1 _ ns.length (nv ns) := below_own hown b1
        have hcr1 : w1.cell? ⟨b, off + k, none⟩ = some (.int .i64 N) := (b1.cell (by exact Nat.lt_of_lt_of_le hb hbs)).trans hcr
        have hbel1 : Below w.heap.size w w1 := hbel.trans (b1.mono hbs)
        have hb1s := hbel1.size
        go_wp2_with (at_builtin; refine wpList_append_own _ rfl _ _ 38 rfl w.heap.size 3 i0 (.int .i64 0) 1 8 Try.underlying38 hi hz0 hz1 hz2 rfl (by decide) _ _ _ rfl (hown1.alloc _) ⟨w1.heap.size, 0, none⟩ 1 1 [.int .i64 N] rfl rfl ?c1 ?c2 ?c3 ?c4 ?c5 ?_)
        case c1 => exact cell_new1 _ _ _
        case c2 => exact one_int _ _
        case c3 => unfold maxLen; omega
        case c4 => omega
        case c5 => simp; omega
        · intro v' w2 hown2 hgrow _
          rw [nv_snoc] at hown2
          have hown3 : w2.ownsRow w.heap.size 3 1 v' (ns ++ [N]).length (nv (ns ++ [N])) := by rw [List.length_append]; exact hown2
          have hbel2 : Below w.heap.size w w2 := (hbel1.alloc hb1s _).grown hgrow (by simp; omega) (fun k hk => (hown1.lt k hk).1)
          clear hown2 hgrow hown1 hown hcr1 hcr hcat
          go_wp2
          go_roundw
          case rel =>
            refine ⟨k + 1, _, ns ++ [N], by omega, by omega, by rw [List.length_append]; simp; omega, by go_num, rfl, ?_, ?_, hown3, hbel2⟩
            · rw [app_data, HX.out, encL_snoc]
            · intro m hm
              rw [List.mem_append, List.mem_singleton] at hm
              rcases hm with hm | rfl
              · exact HN.out m hm
              · exact hN
          case measure => simp [intOf]; omega
      · have hv2 : z < 0 ∨ 4611686018427387904 < z := by omega
        clear hv
        rcases hv2 with hv | hv
        · go_wp2_with fail
          refine (put_no z _ (.inl hv)).mono ?_
          rintro e w1 ⟨rfl, rfl⟩
          go_wp2
          go_roundw
          case rel => exact ⟨k + 1, X, ns, by omega, by omega, by omega, by go_num, rfl, HX.out, HN.out, hown, hbel⟩
          case measure => simp [intOf]; omega
        · have hv0 : (0 : Int) ≤ z := by omega
          go_wp2_with fail
          refine (put_no z _ (.inr hv)).mono ?_
          rintro e w1 ⟨rfl, rfl⟩
          go_wp2
          go_roundw
          case rel => exact ⟨k + 1, X, ns, by omega, by omega, by omega, by go_num, rfl, HX.out, HN.out, hown, hbel⟩
          case measure => simp [intOf]; omega
    · have hout : ¬ (k < len) ∨ ¬ (k < 30) := by omega
      have hkl : k ≤ 30 := hk30
      obtain ⟨wo, hwo⟩ : ∃ wo : World, wo = wr := ⟨_, rfl⟩
      subst hwo
      rcases hown.2 with ⟨rfl, hnil⟩ | ⟨g, cap', cur, rfl, _⟩
      · have hns0 : ns = [] := by simpa [nv] using hnil
        subst hns0
        have hXe : X = ⟨#[]⟩ := by
          have := HX.out
          apply ByteArray.ext
          simpa [encL] using this
        subst hXe
        clear HX hlt
        by_cases hkl2 : k < len
        · have hk3 : ¬ k < 30 := by omega
          clear hout
          go_wp2
          refine wp_loop_rounds 1 ?_
          rw [rounds_succ]
          go_wp2_with fail
          refine (numbers_any _).mono ?_
          rintro e w1 ⟨rfl, b1⟩
          go_wp2
          go_ret
          exact ⟨rfl, hbel.trans (b1.mono hbs)⟩
        · clear hout
          go_wp2
          refine wp_loop_rounds 1 ?_
          rw [rounds_succ]
          go_wp2_with fail
          refine (numbers_any _).mono ?_
          rintro e w1 ⟨rfl, b1⟩
          go_wp2
          go_ret
          exact ⟨rfl, hbel.trans (b1.mono hbs)⟩
      · clear hlt
        have hnl : ns.length ≤ 30 := by omega
        by_cases hkl2 : k < len
        · have hk3 : ¬ k < 30 := by omega
          clear hout
          go_wp2
          go_loop [3, 8] (fun x i => ∃ (j : Nat) (Y : ByteArray), j ≤ ns.length ∧ i = .int .i64 j ∧ x = .string Y ∧ Y.data.toList = encL (ns.drop j) ∧ Y.size ≤ 270) (fun _ i => 30 - (intOf i).toNat)
          case atStart => exact ⟨0, X, by omega, rfl, rfl, HX.out, hxs⟩
          case round =>
            obtain ⟨j, Y, hj, rfl, rfl, hY0, hYs⟩ := hrel
            by_cases hjl : j < ns.length
            · have hcj : wo.cell? ⟨g, j, none⟩ = some (.int .i64 (ns[j] : Nat)) := by
                rw [hown.cellAt j (by omega)]
                simp [nv, hjl]
              obtain ⟨M, hM⟩ : ∃ M, M = ns[j] := ⟨_, rfl⟩
              rw [← hM] at hcj
              have hMb : M ≤ 4611686018427387904 := by rw [hM]; exact HN.out _ (List.getElem_mem hjl)
              have hY : Y.data.toList = vL M ++ encL (ns.drop (j + 1)) := by rw [hY0, encL_drop ns j hjl, hM]
              have hr := rest_row Y M _ hY
              have hlen : (vL M).length ≤ Y.size := by rw [Lib.size_eq, hY, List.length_append]; omega
              have hv1 := vL_pos M
              have HY := Lib.hid hY
              have HR := Lib.hid hr
              clear hM hY hY0 hr
              go_wp2_with fail
              refine (take_row Y M _ _ HY.out (by omega) hMb).mono ?_
              rintro e w1 ⟨rfl, rfl⟩
              go_wp2
              go_round
              case rel =>
                refine ⟨j + 1, _, by omega, by go_num, rfl, HR.out, ?_⟩
                rw [ByteArray.size_extract]
                omega
              case measure => simp [intOf]; omega
            · obtain rfl : j = ns.length := by omega
              have hYe : Y = ⟨#[]⟩ := by
                rw [List.drop_length] at hY0
                apply ByteArray.ext
                simpa [encL] using hY0
              subst hYe
              clear hY0
              go_wp2_with fail
              refine (numbers_any _).mono ?_
              rintro e w1 ⟨rfl, b1⟩
              go_wp2
              go_ret
              exact ⟨rfl, hbel.trans (b1.mono hbs)⟩
        · clear hout
          go_wp2
          go_loop [3, 8] (fun x i => ∃ (j : Nat) (Y : ByteArray), j ≤ ns.length ∧ i = .int .i64 j ∧ x = .string Y ∧ Y.data.toList = encL (ns.drop j) ∧ Y.size ≤ 270) (fun _ i => 30 - (intOf i).toNat)
          case atStart => exact ⟨0, X, by omega, rfl, rfl, HX.out, hxs⟩
          case round =>
            obtain ⟨j, Y, hj, rfl, rfl, hY0, hYs⟩ := hrel
            by_cases hjl : j < ns.length
            · have hcj : wo.cell? ⟨g, j, none⟩ = some (.int .i64 (ns[j] : Nat)) := by
                rw [hown.cellAt j (by omega)]
                simp [nv, hjl]
              obtain ⟨M, hM⟩ : ∃ M, M = ns[j] := ⟨_, rfl⟩
              rw [← hM] at hcj
              have hMb : M ≤ 4611686018427387904 := by rw [hM]; exact HN.out _ (List.getElem_mem hjl)
              have hY : Y.data.toList = vL M ++ encL (ns.drop (j + 1)) := by rw [hY0, encL_drop ns j hjl, hM]
              have hr := rest_row Y M _ hY
              have hlen : (vL M).length ≤ Y.size := by rw [Lib.size_eq, hY, List.length_append]; omega
              have hv1 := vL_pos M
              have HY := Lib.hid hY
              have HR := Lib.hid hr
              clear hM hY hY0 hr
              go_wp2_with fail
              refine (take_row Y M _ _ HY.out (by omega) hMb).mono ?_
              rintro e w1 ⟨rfl, rfl⟩
              go_wp2
              go_round
              case rel =>
                refine ⟨j + 1, _, by omega, by go_num, rfl, HR.out, ?_⟩
                rw [ByteArray.size_extract]
                omega
              case measure => simp [intOf]; omega
            · obtain rfl : j = ns.length := by omega
              have hYe : Y = ⟨#[]⟩ := by
                rw [List.drop_length] at hY0
                apply ByteArray.ext
                simpa [encL] using hY0
              subst hYe
              clear hY0
              go_wp2_with fail
              refine (numbers_any _).mono ?_
              rintro e w1 ⟨rfl, b1⟩
              go_wp2
              go_ret
              exact ⟨rfl, hbel.trans (b1.mono hbs)⟩

theorem walk_VarintRow (a : Option Addr) (len cap : Nat) (zs : List Int) (w : World) (h : IsRow .i64 w a len cap zs) :
    Calls Try.prog 9 #[.slice a len cap] w fun e w' => e = .returned (.bool true) ∧ Below w.heap.size w w' := by
  by_cases hl : 0 < len
  · obtain ⟨b, off, rfl, hb, hz, hm, hlc, hcell, hwf⟩ := h.at_ hl
    unfold maxLen at hm
    exact row_some b off len cap zs w hl hb hz (by omega) hcell hwf
  · obtain rfl : len = 0 := by omega
    exact row_empty a cap w
end Go.Proofs.Ytjapgabnjlacpaa
