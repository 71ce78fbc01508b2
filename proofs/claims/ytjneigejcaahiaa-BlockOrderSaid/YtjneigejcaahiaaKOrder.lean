/-
  Proved: the statement Rows.BlockOrderSaid of this seat: for every input the law BlockOrder returns true and leaves its arguments as they were. Conditions: none beyond the row's own.
-/
import Derived.Test.YtjneigejcaahiaaRows
import Derived.Test.YtjneigejcaahiaaKxO
import Derived.WalkKit
import Derived.Lib.SmallJoins
import Derived.ProofKit
import Derived.OpenShut
import Derived.ShutString
import Derived.ChangeOld
import Derived.Below
import Derived.SizedLaws
namespace Go.Proofs.Ytjneigejcaahiaa.blockOrderLaw
open Go.ChangeShapes Go.WideShapes Go.ChangeAt Go.RowKit
open Go.ChangeMaps (open_string shut_string)
set_option linter.unusedVariables false

theorem own : ownKnob Try.prog.godebug = none := by kernel_rfl
theorem laidOut : laidOutB Try.prog = true := by kernel_rfl
set_option maxRecDepth 100000 in
theorem lifted (os : Os) (started : os.Started) (H : Type) (enc : TypeId × Value → H) :
    ReturnsInHanded {} Try.checked os 8 .any (Rows.blockOrderSpec.pre6 enc Try.prog Try.f8 Rows.blockOrderRow.domain false) (Rows.blockOrderSpec.post enc Try.prog Try.f8 false true false false) := by
  refine returnsInHanded_of_change_sized (C := Try.checked) own started (by kernel_rfl) Try.func8
    (ChangeSpec.witness6 (enc := enc) (C := Try.checked) false ⟨#[], #[.agg #[.string ByteArray.empty, .string ByteArray.empty, .bool false, .int .i64 0], .agg #[.string ByteArray.empty, .string ByteArray.empty, .bool false, .int .i64 0], .agg #[.string ByteArray.empty, .string ByteArray.empty, .bool false, .int .i64 0]], []⟩ 8 (by kernel_rfl) (by kernel_rfl) (by kernel_rfl) (by kernel_rfl)) ?_
  intro W base args ds gs before hval0 hW hcnd hsz0 _
  have hval : ∀ (j : Nat) t v, Try.f8.params[j]? = some t → args[j]? = some v → Value.okWide Try.prog W .any base t v := hval0
  have hW' := hW
  obtain ⟨p, q, hA0, hV, rfl, hfz, hnd⟩ := hW
  have hA : DataW.TrodAll enc Try.prog W 0 (fun _ => true) true Try.f8.params.toList args.toList ds p := hA0
  have hsz : (DataW.weightsEach Try.prog (Try.f8.params.toList ++ Rows.blockOrderSpec.plain.varTypes Try.prog) (ds ++ gs)).all (· ≤ reachBytes) = true := hsz0
  rw [Try.params8] at hA hval hsz
  obtain ⟨v0, vs0, d0, ds0, p0, q0, hargs, rfl, rfl, h0, r0⟩ := trodAll_cons hA
  obtain ⟨v1, vs1, d1, ds1, p1, q1, rfl, rfl, rfl, h1, r1⟩ := trodAll_cons r0
  obtain ⟨v2, vs2, d2, ds2, p2, q2, rfl, rfl, rfl, h2, r2⟩ := trodAll_cons r1
  obtain ⟨rfl, rfl, rfl⟩ := trodAll_nil r2
  obtain rfl : args = #[v0, v1, v2] := by cases args; simp_all
  obtain ⟨rfl, rfl⟩ := trodVars_none hV
  obtain ⟨c00, c01, c02, c03, y00, y01, y02, y03, n0, rfl, rfl, rfl, e00, e01, e02, e03⟩ := Joins.open_agg4 Try.underlying36 (by kernel_rfl) (by kernel_rfl) (hval 0 36 v0 rfl rfl) h0
  obtain ⟨sk0, g00, g01, z00⟩ := DataW.trod_string Try.underlying9 e00
  obtain ⟨sv0, g02, g03, z01⟩ := DataW.trod_string Try.underlying9 e01
  obtain ⟨sg0, g04, g05⟩ := DataW.trod_bool Try.underlying4 e02
  obtain ⟨sq0, g06, g07, z03⟩ := DataW.trod_int Try.underlying3 e03
  obtain rfl : c00 = .string sk0 := by simpa using g00
  obtain rfl : c01 = .string sv0 := by simpa using g02
  obtain rfl : c02 = .bool sg0 := by simpa using g04
  obtain rfl : c03 = .int .i64 sq0 := by simpa using g06
  subst g01 g03 g05 g07
  obtain ⟨c10, c11, c12, c13, y10, y11, y12, y13, n1, rfl, rfl, rfl, e10, e11, e12, e13⟩ := Joins.open_agg4 Try.underlying36 (by kernel_rfl) (by kernel_rfl) (hval 1 36 v1 rfl rfl) h1
  obtain ⟨sk1, g10, g11, z10⟩ := DataW.trod_string Try.underlying9 e10
  obtain ⟨sv1, g12, g13, z11⟩ := DataW.trod_string Try.underlying9 e11
  obtain ⟨sg1, g14, g15⟩ := DataW.trod_bool Try.underlying4 e12
  obtain ⟨sq1, g16, g17, z13⟩ := DataW.trod_int Try.underlying3 e13
  obtain rfl : c10 = .string sk1 := by simpa using g10
  obtain rfl : c11 = .string sv1 := by simpa using g12
  obtain rfl : c12 = .bool sg1 := by simpa using g14
  obtain rfl : c13 = .int .i64 sq1 := by simpa using g16
  subst g11 g13 g15 g17
  obtain ⟨c20, c21, c22, c23, y20, y21, y22, y23, n2, rfl, rfl, rfl, e20, e21, e22, e23⟩ := Joins.open_agg4 Try.underlying36 (by kernel_rfl) (by kernel_rfl) (hval 2 36 v2 rfl rfl) h2
  obtain ⟨sk2, g20, g21, z20⟩ := DataW.trod_string Try.underlying9 e20
  obtain ⟨sv2, g22, g23, z21⟩ := DataW.trod_string Try.underlying9 e21
  obtain ⟨sg2, g24, g25⟩ := DataW.trod_bool Try.underlying4 e22
  obtain ⟨sq2, g26, g27, z23⟩ := DataW.trod_int Try.underlying3 e23
  obtain rfl : c20 = .string sk2 := by simpa using g20
  obtain rfl : c21 = .string sv2 := by simpa using g22
  obtain rfl : c22 = .bool sg2 := by simpa using g24
  obtain rfl : c23 = .int .i64 sq2 := by simpa using g26
  subst g21 g23 g25 g27
  clear hA0 hval0
  refine (walk_BlockOrder sk0 sv0 sg0 sq0 sk1 sv1 sg1 sq1 sk2 sv2 sg2 sq2 W ).mono fun e W' ⟨he, bel⟩ => ?_
  subst he
  exact ⟨_, rfl, _, _, _, [], _, [], hW', trodAll_mk1 (shut_bool Try.underlying4 _), (trodAll_cons_mk (Joins.shut_agg4 Try.underlying36 (by kernel_rfl) (by kernel_rfl) (shut_string Try.underlying9 z00) (shut_string Try.underlying9 z01) (shut_bool Try.underlying4 _) (shut_int Try.underlying3 z03)) (trodAll_cons_mk (Joins.shut_agg4 Try.underlying36 (by kernel_rfl) (by kernel_rfl) (shut_string Try.underlying9 z10) (shut_string Try.underlying9 z11) (shut_bool Try.underlying4 _) (shut_int Try.underlying3 z13)) (trodAll_cons_mk (Joins.shut_agg4 Try.underlying36 (by kernel_rfl) (by kernel_rfl) (shut_string Try.underlying9 z20) (shut_string Try.underlying9 z21) (shut_bool Try.underlying4 _) (shut_int Try.underlying3 z23)) trodAll_mk0))), rfl, bel.frame _, fun h => by cases h⟩

theorem over : Rows.blockOrderRow.holds Try.pinned (OpenSpec.ofChange Rows.blockOrderSpec) :=
  OpenClaim.holds_of_wide 8 Try.f8 rfl rfl rfl rfl rfl rfl rfl ⟨rfl, rfl, rfl, rfl, rfl⟩ rfl rfl rfl rfl rfl (by kernel_rfl) Try.func8 (by kernel_rfl)
    (of_decide_eq_true (by kernel_rfl)) (by unfold Func.isWrapper; first | (rw [if_pos (by decide +kernel)]; kernel_rfl) | (rw [if_neg (by decide +kernel)]; exact ⟨rfl, rfl⟩))
    (fun os started H enc _ => lifted os started H enc)
end Go.Proofs.Ytjneigejcaahiaa.blockOrderLaw
namespace Go.Proofs.Ytjneigejcaahiaa
/-- The statement. -/
theorem blockOrder_holds : Rows.BlockOrderSaid := blockOrderLaw.over
end Go.Proofs.Ytjneigejcaahiaa
