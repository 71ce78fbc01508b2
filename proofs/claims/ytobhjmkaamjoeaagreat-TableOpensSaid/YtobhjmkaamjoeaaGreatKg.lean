/-
  Layer 9 (block), the contract of the code's Take. Conditions: at most 2^24 bytes.
-/
import Derived.Test.YtobhjmkaamjoeaaGreatKf
namespace Go.Proofs.YtobhjmkaamjoeaaGreat
set_option maxRecDepth 100000
open Go.RowKit
set_option linter.unusedVariables false
set_option linter.unusedSimpArgs false

/-- What Take leaves. -/
def TK (o : Option (List Ent)) (w : World) (e : Ending) (w' : World) : Prop :=
  ∃ (a : Option Addr) (m cap : Nat) (es : List Ent), e = .returned (.tuple #[.slice a m cap, .int .i64 (if o = none then 90 else 0)]) ∧ es.length = m ∧ RdE w' a es ∧ (∀ fs, o = some fs → es = fs) ∧ (o = none → a = none ∧ m = 0 ∧ cap = 0) ∧ Below w.heap.size w w'
theorem TK.no {o : Option (List Ent)} {w w' : World} {e : Ending} (ho : o = none) (he : e = .returned (.tuple #[.slice none 0 0, .int .i64 90])) (hb : Below w.heap.size w w') : TK o w e w' :=
  ⟨none, 0, 0, [], (by rw [he, if_pos ho]), rfl, .inl rfl, fun fs h => (by rw [ho] at h; cases h), fun _ => ⟨rfl, rfl, rfl⟩, hb⟩
theorem TK.yes {o : Option (List Ent)} {w w' : World} {e : Ending} {es : List Ent} {a : Option Addr} {m cap : Nat} (ho : o = some es) (he : e = .returned (.tuple #[.slice a m cap, .int .i64 0])) (hm : es.length = m) (hr : RdE w' a es) (hb : Below w.heap.size w w') : TK o w e w' :=
  ⟨a, m, cap, es, (by rw [he, if_neg (by rw [ho]; simp)]), hm, hr, fun fs h => (by rw [ho] at h; cases h; rfl), fun h => (by rw [ho] at h; cases h), hb⟩
theorem takeB_at {s : ByteArray} (m : Nat) (hm : s.size = m + 4) (h : chk s.data.toList = true) : takeB s.data.toList = partB (s.extract 0 m).data.toList := by
  unfold takeB
  rw [if_pos h, size_list, Lib.extract_data]
  simp [hm]
set_option maxRecDepth 100000 in
set_option maxHeartbeats 2000000 in
theorem take9_any (s : ByteArray) (w : World) (hs : s.size ≤ 16777216) : Calls Tryz.prog 70 #[.string s] w (TK (takeB s.data.toList) w) := by
  have hck := check_code s w (by omega)
  cases hc : chk s.data.toList with
  | false =>
    rw [hc] at hck
    have HC := Lib.hid hck
    have HP : Hid (takeB s.data.toList = none) := Lib.hid (by unfold takeB; rw [hc]; rfl)
    clear hc hck
    go_enter Tryz.func70, Tryz.ntmps70
    go_wp2_with fail
    refine HC.out.mono ?_
    rintro e w1 ⟨rfl, b1⟩
    go_wp2
    go_ret2
    exact TK.no HP.out rfl b1
  | true =>
    rw [hc] at hck
    have hlen : 4 ≤ s.size := by have := (chk_split hc).2; rwa [size_list] at this
    obtain ⟨m, hm⟩ : ∃ m, s.size = m + 4 := ⟨s.size - 4, by omega⟩
    have HP := Lib.hid (takeB_at m hm hc)
    have HC := Lib.hid hck
    have hmi : (s.size : Int) - 4 = (m : Int) := by omega
    have hwr : IntKind.i64.wrap ((s.size : Int) - 4) = (m : Int) := by rw [IntKind.wrap_i64]; omega
    have hml : (m : Int) ≤ (s.size : Int) := by omega
    have hm0 : (0 : Int) ≤ (m : Int) := by omega
    have hsz : (s.extract 0 m).size ≤ 16777216 := by rw [ByteArray.size_extract]; omega
    have HM := Lib.hid hm
    have HMI := Lib.hid hmi
    clear hc hck hm hmi
    go_enter Tryz.func70, Tryz.ntmps70
    go_wp2_with fail
    refine HC.out.mono ?_
    rintro e w1 ⟨rfl, b1⟩
    have HB1 := Lib.hid b1
    have hv := HMI.out
    clear b1
    go_wp2_with fail
    have HE := each9_any w1.heap.size (w1.alloc (.cells #[.slice none 0 0] 22)) (s.extract 0 m) hsz (by simp [go_sem]) (by simp) (by simp)
    refine HE.mono ?_
    rintro e w2 ⟨h1, h2, b2⟩
    have HW := Lib.hid (HB1.out.trans ((((Below.refl _ w1).alloc (Nat.le_refl _) (.cells #[.slice none 0 0] 22)).trans b2).mono HB1.out.size))
    clear b2 HE
    cases hpo : partB (s.extract 0 m).data.toList with
    | none =>
      have he := h2 hpo
      subst he
      have HP2 := Lib.hid (HP.out.trans hpo)
      clear h1 h2 hpo
      go_wp2
      go_ret2
      exact TK.no HP2.out rfl HW.out
    | some es =>
      obtain ⟨he, v, ht⟩ := h1 es hpo
      subst he
      have HP2 := Lib.hid (HP.out.trans hpo)
      obtain ⟨t1, t2, t3, t4, t5⟩ := ht
      obtain ⟨a', cap', rfl⟩ := own_form t5 (by decide)
      have HR := Lib.hid (own_rde t5 rfl)
      clear h1 h2 hpo t5
      go_wp2
      go_ret2
      exact TK.yes HP2.out rfl rfl HR.out HW.out
end Go.Proofs.YtobhjmkaamjoeaaGreat
