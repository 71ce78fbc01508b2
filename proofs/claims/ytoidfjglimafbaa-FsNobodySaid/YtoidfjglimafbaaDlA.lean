/-
  Layer 5 (fs): the walk of the law FsNobody. Conditions: texts within the form's reach.
-/
import Derived.Test.YtoidfjglimafbaaDn
import Derived.Test.YtoidfjglimafbaaDv
namespace Go.Proofs.Ytoidfjglimafbaa
open Go.RowKit Go.Lib
set_option linter.unusedVariables false

set_option maxRecDepth 100000 in
set_option maxHeartbeats 8000000 in
theorem walk_FsNobody (a : ByteArray) (ha : a.size ≤ 140737488351232) (b : ByteArray) (hb : b.size ≤ 140737488351232) (n : Int) (hn : (Lit.int .i64 n).wf = true) (w : World) :
    Calls Try.prog 6 #[.string a, .string b, .int .i64 n] w fun e w' => e = .returned (.bool true) ∧ Below w.heap.size w w' := by
  clear ha hb hn
  go_enter Try.func6, Try.ntmps6
  go_wp2
  have hb0 : Below w.heap.size w ((w.alloc (.cells #[.pointer none, .map none, .int .i64 0, .bool false] 47)).alloc (.cells #[.pointer none, .pointer (some ⟨w.heap.size, 0, none⟩)] 24)) := ((Below.refl _ _).alloc (Nat.le_refl _) _).alloc (by simp) _
  have hz : ((w.alloc (.cells #[.pointer none, .map none, .int .i64 0, .bool false] 47)).alloc (.cells #[.pointer none, .pointer (some ⟨w.heap.size, 0, none⟩)] 24)).cell? ⟨w.heap.size, 0, none⟩ = some (.pointer none) := by simp [go_sem]
  have hc0 : ((w.alloc (.cells #[.pointer none, .map none, .int .i64 0, .bool false] 47)).alloc (.cells #[.pointer none, .pointer (some ⟨w.heap.size, 0, none⟩)] 24)).cell? ⟨w.heap.size + 1, 0, none⟩ = some (.pointer none) := by simp [go_sem]
  have hc1 : ((w.alloc (.cells #[.pointer none, .map none, .int .i64 0, .bool false] 47)).alloc (.cells #[.pointer none, .pointer (some ⟨w.heap.size, 0, none⟩)] 24)).cell? ⟨w.heap.size + 1, 1, none⟩ = some (.pointer (some ⟨w.heap.size, 0, none⟩)) := by simp [go_sem]
  have hsz : w.heap.size + 1 < ((w.alloc (.cells #[.pointer none, .map none, .int .i64 0, .bool false] 47)).alloc (.cells #[.pointer none, .pointer (some ⟨w.heap.size, 0, none⟩)] 24)).heap.size := by simp
  have HB0 := Lib.hid hb0
  have HZ := Lib.hid hz
  have HC0 := Lib.hid hc0
  have HC1 := Lib.hid hc1
  clear hb0 hz hc0 hc1
  generalize ((w.alloc (.cells #[.pointer none, .map none, .int .i64 0, .bool false] 47)).alloc (.cells #[.pointer none, .pointer (some ⟨w.heap.size, 0, none⟩)] 24)) = w0 at HB0 HZ HC0 HC1 hsz ⊢
  generalize hlb : w.heap.size + 1 = lb at HC0 HC1 hsz ⊢
  have hzb : w.heap.size < lb := by omega
  generalize hzz : w.heap.size = zb at HZ HC1 hzb ⊢
  have HLB := Lib.hid hlb
  have HZZ := Lib.hid hzz
  clear hlb hzz
  go_loopw [8] (fun i wr => ∃ k : Nat, k ≤ 2 ∧ i = .int .i64 k ∧ Below w0.heap.size w0 wr) (fun i _ => 2 - (intOf i).toNat)
  case atStart => exact ⟨0, by omega, rfl, Below.refl _ _⟩
  case round =>
    obtain ⟨k, hk2, rfl, hbr⟩ := hrel
    by_cases hlt : k < 2
    · obtain ⟨p, hp, hng⟩ : ∃ p, w0.cell? ⟨lb, k, none⟩ = some (.pointer p) ∧ Ng w0 p := by
        match k, hlt with
        | 0, _ => exact ⟨none, HC0.out, Ng.nil w0⟩
        | 1, _ => exact ⟨_, HC1.out, Ng.zero w0 zb (by omega) HZ.out⟩
      have HCC := Lib.hid (show ∀ W, Below w0.heap.size w0 W → W.cell? ⟨lb, k, none⟩ = some (.pointer p) from fun W hW => (hW.cell (p := ⟨lb, k, none⟩) hsz).trans hp)
      have HBT := Lib.hid (show ∀ W W', Below w0.heap.size w0 W → Below W.heap.size W W' → Below w0.heap.size w0 W' from fun W W' h h2 => h.trans (h2.mono h.size))
      have HNG := Lib.hid hng
      have hcc := HCC.out _ hbr
      have HS := Lib.hid (show ∀ W, Below w0.heap.size w0 W → lb < W.heap.size from fun W hW => Nat.lt_of_lt_of_le hsz hW.size)
      clear hp hng
      go_wp2_with (first
        | (go_at_call 14; refine (read_ng HNG.out _ (by assumption) a).mono ?_; rintro e w2 ⟨rfl, bb⟩; (have B2 := HBT.out _ _ (by assumption) bb); (have c2 := HCC.out _ B2); clear bb)
        | (go_at_call 15; refine (sure_ng HNG.out _ (by assumption) a).mono ?_; rintro e w2 ⟨rfl, bb⟩; (have B2 := HBT.out _ _ (by assumption) bb); (have c2 := HCC.out _ B2); clear bb)
        | (go_at_call 10; refine (make_ng HNG.out _ (by assumption) a).mono ?_; rintro e w2 ⟨rfl, bb⟩; (have B2 := HBT.out _ _ (by assumption) bb); (have c2 := HCC.out _ B2); clear bb)
        | (go_at_call 11; refine (append_ng HNG.out _ (by assumption) a b).mono ?_; rintro e w2 ⟨rfl, bb⟩; (have B2 := HBT.out _ _ (by assumption) bb); (have c2 := HCC.out _ B2); clear bb)
        | (go_at_call 12; refine (sync_ng HNG.out _ (by assumption) a).mono ?_; rintro e w2 ⟨rfl, bb⟩; (have B2 := HBT.out _ _ (by assumption) bb); (have c2 := HCC.out _ B2); clear bb)
        | (go_at_call 20; refine (rename_ng HNG.out _ (by assumption) a b).mono ?_; rintro e w2 ⟨rfl, bb⟩; (have B2 := HBT.out _ _ (by assumption) bb); (have c2 := HCC.out _ B2); clear bb)
        | (go_at_call 22; refine (remove_ng HNG.out _ (by assumption) a).mono ?_; rintro e w2 ⟨rfl, bb⟩; (have B2 := HBT.out _ _ (by assumption) bb); (have c2 := HCC.out _ B2); clear bb)
        | (go_at_call 18; refine (names_ng HNG.out _ (by assumption) ).mono ?_; rintro e w2 ⟨rfl, bb⟩; (have B2 := HBT.out _ _ (by assumption) bb); (have c2 := HCC.out _ B2); clear bb)
        | (go_at_call 16; refine (fuse_ng HNG.out _ (by assumption) n).mono ?_; rintro e w2 ⟨rfl, bb⟩; (have B2 := HBT.out _ _ (by assumption) bb); (have c2 := HCC.out _ B2); clear bb)
        | (go_at_call 17; refine (off_ng HNG.out _ (by assumption) ).mono ?_; rintro e w2 ⟨rfl, bb⟩; (have B2 := HBT.out _ _ (by assumption) bb); (have c2 := HCC.out _ B2); clear bb)
        | (go_at_call 13; refine (crash_ng HNG.out _ (by assumption) _).mono ?_; rintro e w2 ⟨rfl, bb⟩; (have B2 := HBT.out _ _ (by assumption) bb); (have c2 := HCC.out _ B2); clear bb))
      go_roundw
      case rel => exact ⟨k + 1, by omega, by go_num, by assumption⟩
      case measure => simp [intOf]; omega
    · have hke : k = 2 := by omega
      subst hke
      have HBR := Lib.hid hbr
      clear hbr
      go_wp2_with (go_at_call 9; refine (awake_any _).mono ?_; rintro e w2 ⟨rfl, bb⟩)
      go_ret
      refine ⟨rfl, ?_⟩
      exact HB0.out.trans ((HBR.out.trans (bb.mono HBR.out.size)).mono HB0.out.size)
end Go.Proofs.Ytoidfjglimafbaa
