/-
  Layer 14 (once): contract of Write, of the document. Conditions: none.
-/
import Derived.Test.YtemaonfgledcmaaNl
import Derived.Test.YtemaonfgledcmaaQy
namespace Go.Proofs.Ytemaonfgledcmaa
open Go.RowKit
set_option linter.unusedVariables false
set_option linter.unusedSimpArgs false

theorem K_row {K : World → Prop} {w3 W : World} {g : Nat} {a c : Value} {t : TypeId} (hZ : Below w3.heap.size w3 W) (hg : g = W.heap.size) (h : ∀ W', W'.cell? ⟨g, 0, none⟩ = some a → W'.cell? ⟨g, 1, none⟩ = some c → g < W'.heap.size → Below w3.heap.size w3 W' → K W') : K (W.alloc (.cells #[a, c] t)) := by
  subst hg
  exact h _ (by simp) (by simp) (by simp) (hZ.alloc hZ.size _)
theorem chain_rng {W : World} {rb : Nat} {a0 a1 a2 : Value} (h0 : W.cell? ⟨rb, 0, none⟩ = some a0) (h1 : W.cell? ⟨rb, 1, none⟩ = some a1) (h2 : W.cell? ⟨rb, 2, none⟩ = some a2) (u v z : Value) :
    (((W.setCell ⟨rb, 0, none⟩ u).setCell ⟨rb, 1, none⟩ v).setCell ⟨rb, 2, none⟩ z).rangeAt rb 0 [u, v, z] ∧ ∀ o, ((((W.setCell ⟨rb, 0, none⟩ u).setCell ⟨rb, 1, none⟩ v).setCell ⟨rb, 2, none⟩ z).alloc o).rangeAt rb 0 [u, v, z] := by
  have e : W.setCells rb 0 [u, v, z] = (((W.setCell ⟨rb, 0, none⟩ u).setCell ⟨rb, 1, none⟩ v).setCell ⟨rb, 2, none⟩ z) := by simp only [World.setCells, Nat.zero_add, Nat.reduceAdd]
  have hk : ∀ j, j < 3 → (W.cell? ⟨rb, 0 + j, none⟩).isSome = true := fun j hj => by
    match j, hj with
    | 0, _ => simp [h0]
    | 1, _ => simp [h1]
    | 2, _ => simp [h2]
  have hr : (W.setCells rb 0 [u, v, z]).rangeAt rb 0 [u, v, z] := fun j v' hv => by
    have hj : j < [u, v, z].length := (List.getElem?_eq_some_iff.1 hv).1
    rw [World.cell?_setCells_in rb [u, v, z] 0 W (fun i hi => hk i (by simpa using hi)) j hj, ← hv, List.getElem?_eq_getElem hj]
  rw [e] at hr
  exact ⟨hr, fun o => World.rangeAt_alloc hr o⟩
theorem chain_end {w w3 W : World} {rb : Nat} (hZ : Below w3.heap.size w3 W) (hB : Below w.heap.size w w3) (hr : w.heap.size ≤ rb) (u v z : Value) :
    Below w.heap.size w (((W.setCell ⟨rb, 0, none⟩ u).setCell ⟨rb, 1, none⟩ v).setCell ⟨rb, 2, none⟩ z) ∧ ∀ o, Below w.heap.size w ((((W.setCell ⟨rb, 0, none⟩ u).setCell ⟨rb, 1, none⟩ v).setCell ⟨rb, 2, none⟩ z).alloc o) := by
  have h1 := hB.trans (hZ.mono hB.size)
  have h2 := ((h1.setCell (p := ⟨rb, 0, none⟩) hr u).setCell (p := ⟨rb, 1, none⟩) hr v).setCell (p := ⟨rb, 2, none⟩) hr z
  exact ⟨h2, fun o => h2.alloc h2.size o⟩
set_option maxRecDepth 100000 in
set_option maxHeartbeats 16000000 in
theorem rwrite14_any (x : Sn) (w : World) : Calls Try.prog 15 #[sa x] w fun e w' => e = .returned (.tuple #[wrV x, .int .i64 (wrE x)]) ∧ Below w.heap.size w w' := by
  obtain ⟨r, hr⟩ : ∃ r, r = mayS x := ⟨_, rfl⟩
  have HM := Lib.hid (rmay14_any x r hr.symm)
  have HR := Lib.hid hr
  have hv : wrV x = if r = true then .agg #[.string ⟨(keyW x).toArray⟩, .string ⟨(valW x).toArray⟩, .bool false] else .agg #[.string ⟨#[]⟩, .string ⟨#[]⟩, .bool false] := by rw [hr]; rfl
  have he : wrE x = if r = true then 0 else 1 := by rw [hr]; rfl
  rw [hv, he]
  clear hr hv he
  have HS0 := Lib.hid (SBox.new w 39 x)
  go_enter Try.func15, Try.ntmps15
  go_upto_region 1 with fail
  obtain ⟨o1, ho1⟩ : ∃ o, o = Obj.cells #[.int .i64 x.c, .int .i64 x.s, .int .i64 x.e, .string x.v, .bool x.h, .slice x.p x.n x.k, .string x.u] 39 := ⟨_, rfl⟩
  rw [← ho1] at HS0 ⊢
  clear ho1
  have HB1 := Lib.hid (box_bel14 w o1)
  obtain ⟨xb, hxb⟩ : ∃ xb, xb = w.heap.size := ⟨_, rfl⟩
  have HXB := Lib.hid hxb
  rw [← hxb] at HS0 ⊢
  have hsz1 : (w.alloc o1).heap.size = xb + 1 := by rw [hxb]; simp
  have HW1 := Lib.hid (show w.heap.size ≤ (w.alloc o1).heap.size by simp)
  clear hxb
  generalize w.alloc o1 = w1 at *
  rw [show xb + 1 = w1.heap.size from hsz1.symm]
  have HT := Lib.hid (there3 w1)
  have HS1 := Lib.hid (HS0.out.below (box_bel14 w1 (.cells #[.string ⟨#[]⟩, .string ⟨#[]⟩, .bool false] 33)))
  have HB2 := Lib.hid (HB1.out.alloc HW1.out (.cells #[.string ⟨#[]⟩, .string ⟨#[]⟩, .bool false] 33))
  obtain ⟨rb, hrb⟩ : ∃ rb, rb = w1.heap.size := ⟨_, rfl⟩
  have HRB := Lib.hid hrb
  have HLT := Lib.hid (show rb < (w1.alloc (.cells #[.string ⟨#[]⟩, .string ⟨#[]⟩, .bool false] 33)).heap.size by rw [hrb]; simp)
  rw [← hrb] at HT ⊢
  have hxr : ¬ rb = xb := by omega
  have hwr : w.heap.size ≤ rb := by rw [hrb]; exact HW1.out
  clear hrb hsz1
  generalize w1.alloc (.cells #[.string ⟨#[]⟩, .string ⟨#[]⟩, .bool false] 33) = w2 at *
  obtain ⟨q0, q1, q2, q3, q4, q5, q6, q7⟩ := HS1.out
  go_wp2_with fail
  refine (HM.out _).mono ?_
  rintro e w3 ⟨rfl, hb3⟩
  have HT3 := Lib.hid (there_below HT.out HLT.out hb3)
  have HL3 := Lib.hid (Nat.lt_of_lt_of_le HLT.out hb3.size)
  have HS3 := Lib.hid (HS1.out.below hb3)
  have HB3 := Lib.hid (HB2.out.trans (hb3.mono HB2.out.size))
  clear q0 q1 q2 q3 q4 q5 q6 q7 hb3 HM HT HS1 HB2
  cases r with
  | false =>
    go_wp2_with (with_reducible refine wpList_store_mid rfl 33 (.tmp 2) (.tmp 8) rfl rb 0 #[.string ⟨#[]⟩, .string ⟨#[]⟩, .bool false] ?e1 ?e2 ?e3 ?e4 ?e5 ?_)
    case e4 => exact size3
    case e5 => exact one3 _ _ _
    case e1 => rfl
    case e2 => rfl
    case e3 => exact HT3.out
    refine bodyPost_ret (v := .tuple #[.agg #[.string ⟨#[]⟩, .string ⟨#[]⟩, .bool false], .int .i64 1]) ?_ rfl ⟨rfl, below_setCells _ _ _ HB3.out hwr⟩
    exact rwrite_res _ _ rb _ _ 1 (World.rangeAt_setCells_same _ _ _ _ HT3.out) rfl rfl
  | true =>
    have hm := mayS_iff.1 HR.out.symm
    obtain ⟨i, hi0⟩ : ∃ i : Nat, x.c = (i : Int) := ⟨x.c.toNat, by omega⟩
    have hi : i < 8 := by omega
    have HM := Lib.hid hm
    have HI0 := Lib.hid hi0
    obtain ⟨q0, q1, q2, q3, q4, q5, q6, q7⟩ := HS3.out
    rw [hi0] at q0
    clear hm hi0
    obtain ⟨fl, hfl⟩ : ∃ fl : Nat, fl = flagN x.h := ⟨_, rfl⟩
    have hfb : fl ≤ 1 := by rw [hfl]; unfold flagN; split <;> omega
    obtain ⟨S, hS⟩ : ∃ S : Nat, x.s = (S : Int) := ⟨x.s.toNat, by have := HM.out.2.1; omega⟩
    obtain ⟨E, hE⟩ : ∃ E : Nat, x.e = (E : Int) := ⟨x.e.toNat, by have := HM.out.2.2.2.2.2; omega⟩
    have hSb : S ≤ 1099511627775 := by have := HM.out.2.1; omega
    have hEb : E ≤ 999 := by have := HM.out.2.2.2.2.2; omega
    rw [hS] at q1
    rw [hE] at q2
    have HSE := Lib.hid (And.intro hS hE)
    have HN1 := Lib.hid (number14_any (S : Int) (by omega) (by omega))
    have HN2 := Lib.hid (number14_any (E : Int) (by omega) (by omega))
    have HN3 := Lib.hid (number14_any (fl : Int) (by omega) (by omega))
    rw [show ((S : Int)).toNat = S by omega] at HN1
    rw [show ((E : Int)).toNat = E by omega] at HN2
    rw [show ((fl : Int)).toNat = fl by omega] at HN3
    have HFL := Lib.hid hfl
    have HKY : Hid ((⟨([116, UInt8.ofNat (48 + i)] : List UInt8).toArray⟩ : ByteArray) = ⟨(keyW x).toArray⟩) := Lib.hid (by unfold keyW; rw [HI0.out]; rfl)
    obtain ⟨KY, hKY⟩ : ∃ KY, (⟨([116, UInt8.ofNat (48 + i)] : List UInt8).toArray⟩ : ByteArray) = KY := ⟨_, rfl⟩
    rw [hKY] at HKY
    clear hS hE hfl
    have l1 : (vL S).length ≤ 9 := vL_len9 (by omega)
    have l2 : (vL E).length ≤ 9 := vL_len9 (by omega)
    have l3 : (vL fl).length ≤ 9 := vL_len9 (by omega)
    obtain ⟨a0, ha0⟩ := Option.isSome_iff_exists.1 (HT3.out 0 (by omega)).1
    obtain ⟨a1, ha1⟩ := Option.isSome_iff_exists.1 (HT3.out 1 (by omega)).1
    obtain ⟨a2, ha2⟩ := Option.isSome_iff_exists.1 (HT3.out 2 (by omega)).1
    have HK3 := Lib.hid (fun (W : World) (hW : Below w3.heap.size w3 W) => keep14 (show w3.cell? ⟨xb, 0, none⟩ = some (.int .i64 (i : Int)) from q0) q1 q2 ha0 ha1 ha2 HT3.out HL3.out q7 hW)
    have hwa : IntKind.i64.wrap (48 + (i : Int)) = 48 + (i : Int) := IntWalk.i64_in _ (by omega)
    have hwb : IntKind.u8.wrap (48 + (i : Int)) = 48 + (i : Int) := by rw [IntKind.wrap_u8]; omega
    have hcv : ∀ W g, W.cell? ⟨g, 0, none⟩ = some (.int .u8 116) → W.cell? ⟨g, 1, none⟩ = some (.int .u8 (48 + (i : Int))) → (convert 60 9 (.slice (some ⟨g, 0, none⟩) 2 2)).run Try.prog W = .ok (.string KY) W := fun W g z0 z1 => by
      have h := run_convert_bytes_back (P := Try.prog) W 60 9 5 ⟨g, 0, none⟩ 2 [116, UInt8.ofNat (48 + i)] Try.underlying60 Try.underlying5 Try.underlying9 (fun j hj => by
        match j, hj with
        | 0, _ => exact (by simpa [Addr.add] using z0)
        | 1, _ =>
          have : (UInt8.ofNat (48 + i)).toNat = 48 + i := by rw [UInt8.toNat_ofNat']; omega
          refine (show W.cell? ((⟨g, 0, none⟩ : Addr).add 1) = some (.int .u8 (48 + (i : Int))) by simpa [Addr.add] using z1).trans ?_
          show some (Value.int IntKind.u8 (48 + (i : Int))) = some (Value.int IntKind.u8 ((UInt8.ofNat (48 + i)).toNat : Int))
          rw [this]; rfl)
      rw [← hKY]; exact h
    clear hKY
    obtain ⟨hb, hhb⟩ : ∃ hb, hb = x.h := ⟨_, rfl⟩
    have HHB := Lib.hid hhb
    rw [← hhb] at q4
    have HFB : Hid (fl = if hb = true then 1 else 0) := Lib.hid (by rw [HFL.out, hhb]; rfl)
    clear hhb
    cases hb with
    | true =>
      obtain rfl : fl = 1 := HFB.out
      clear HN3
      have HN3 := Lib.hid (number14_any 1 (by decide) (by decide))
      rw [show (1 : Int).toNat = 1 from rfl] at HN3
      have hla : ¬ 9223372036854775807 < (vL S).length + (vL E).length := by omega
      have hlb : ¬ 9223372036854775807 < (vL S).length + (vL E).length + (vL 1).length := by omega
      go_upto_region 6 with fail
      refine tree_region (D := (fun w' => w'.cell? ⟨xb, 0, none⟩ = some (.int .i64 (i : Int)) ∧ w'.cell? ⟨xb, 1, none⟩ = some (.int .i64 (S : Int)) ∧ w'.cell? ⟨xb, 2, none⟩ = some (.int .i64 (E : Int)))) (.calm 0 (.calm 1 (.calm 2 (.calm 3 (.calm 6 (.calm 7 (.calm 9 (.calm 10 (.calm 11 (.calm 14 (.alt 4 (.alt 5 (.alt 8 (.alt 12 (.calm 13 (.alt 15 (.calm 16 (.calm 17 (.alt 18 (.alt 19 .done .nil) .nil))) .nil)) .nil) .nil) (.alt 8 (.alt 5 (.alt 12 (.calm 13 (.alt 15 (.calm 16 (.calm 17 (.alt 18 (.alt 19 .done .nil) .nil))) .nil)) .nil) (.alt 12 (.calm 13 (.alt 5 (.alt 15 (.calm 16 (.calm 17 (.alt 18 (.alt 19 .done .nil) .nil))) .nil) (.alt 15 (.calm 16 (.alt 5 (.calm 17 (.alt 18 (.alt 19 .done .nil) .nil)) .nil)) .nil))) .nil)) .nil)) (.alt 8 (.alt 4 (.alt 5 (.alt 12 (.calm 13 (.alt 15 (.calm 16 (.calm 17 (.alt 18 (.alt 19 .done .nil) .nil))) .nil)) .nil) (.alt 12 (.calm 13 (.alt 5 (.alt 15 (.calm 16 (.calm 17 (.alt 18 (.alt 19 .done .nil) .nil))) .nil) (.alt 15 (.calm 16 (.alt 5 (.calm 17 (.alt 18 (.alt 19 .done .nil) .nil)) .nil)) .nil))) .nil)) (.alt 12 (.calm 13 (.alt 4 (.alt 5 (.alt 15 (.calm 16 (.calm 17 (.alt 18 (.alt 19 .done .nil) .nil))) .nil) (.alt 15 (.calm 16 (.alt 5 (.calm 17 (.alt 18 (.alt 19 .done .nil) .nil)) .nil)) .nil)) (.alt 15 (.calm 16 (.alt 4 (.alt 5 (.calm 17 (.alt 18 (.alt 19 .done .nil) .nil)) .nil) .nil)) .nil))) .nil)) .nil)))))))))))) 19 (by kernel_rfl) (by kernel_rfl) (by kernel_rfl) (HK3.out _ (Below.refl _ _).drew).1 ?_
      have hZ0 : Below w3.heap.size w3 w3.drew := (Below.refl _ _).drew
      obtain ⟨W0, hW0⟩ : ∃ W, W = w3.drew := ⟨_, rfl⟩
      rw [← hW0] at hZ0 ⊢
      clear hW0
      apply t_want rfl (by kernel_rfl)
      · intro w' hw'
        obtain ⟨hwa', hwb', hwc'⟩ := hw'
        go_simp
        first
        | done
        | exact rfl
      try simp only [Act.put, Act.eval, List.setIfInBounds_toArray, List.set_cons_zero, List.set_cons_succ, Array.getD_eq_getD_getElem?, List.getElem?_toArray, List.getElem?_cons_zero, List.getElem?_cons_succ, Option.getD_some]
      apply t_want rfl (by kernel_rfl)
      · intro w' hw'
        obtain ⟨hwa', hwb', hwc'⟩ := hw'
        go_simp
        first
        | done
        | exact rfl
      try simp only [Act.put, Act.eval, List.setIfInBounds_toArray, List.set_cons_zero, List.set_cons_succ, Array.getD_eq_getD_getElem?, List.getElem?_toArray, List.getElem?_cons_zero, List.getElem?_cons_succ, Option.getD_some]
      apply t_want rfl (by kernel_rfl)
      · intro w' hw'
        obtain ⟨hwa', hwb', hwc'⟩ := hw'
        go_simp
        first
        | done
        | exact rfl
      try simp only [Act.put, Act.eval, List.setIfInBounds_toArray, List.set_cons_zero, List.set_cons_succ, Array.getD_eq_getD_getElem?, List.getElem?_toArray, List.getElem?_cons_zero, List.getElem?_cons_succ, Option.getD_some]
      apply t_want rfl (by kernel_rfl)
      · intro w' hw'
        obtain ⟨hwa', hwb', hwc'⟩ := hw'
        go_simp
        first
        | done
        | exact rfl
      try simp only [Act.put, Act.eval, List.setIfInBounds_toArray, List.set_cons_zero, List.set_cons_succ, Array.getD_eq_getD_getElem?, List.getElem?_toArray, List.getElem?_cons_zero, List.getElem?_cons_succ, Option.getD_some]
      apply t_want rfl (by kernel_rfl)
      · intro w' hw'
        obtain ⟨hwa', hwb', hwc'⟩ := hw'
        go_simp
        first
        | done
        | exact rfl
      try simp only [Act.put, Act.eval, List.setIfInBounds_toArray, List.set_cons_zero, List.set_cons_succ, Array.getD_eq_getD_getElem?, List.getElem?_toArray, List.getElem?_cons_zero, List.getElem?_cons_succ, Option.getD_some]
      apply t_want rfl (by kernel_rfl)
      · intro w' hw'
        obtain ⟨hwa', hwb', hwc'⟩ := hw'
        go_simp
        first
        | done
        | exact rfl
      try simp only [Act.put, Act.eval, List.setIfInBounds_toArray, List.set_cons_zero, List.set_cons_succ, Array.getD_eq_getD_getElem?, List.getElem?_toArray, List.getElem?_cons_zero, List.getElem?_cons_succ, Option.getD_some]
      apply t_want rfl (by kernel_rfl)
      · intro w' hw'
        obtain ⟨hwa', hwb', hwc'⟩ := hw'
        go_simp
        first
        | done
        | exact rfl
      try simp only [Act.put, Act.eval, List.setIfInBounds_toArray, List.set_cons_zero, List.set_cons_succ, Array.getD_eq_getD_getElem?, List.getElem?_toArray, List.getElem?_cons_zero, List.getElem?_cons_succ, Option.getD_some]
      apply t_want rfl (by kernel_rfl)
      · intro w' hw'
        obtain ⟨hwa', hwb', hwc'⟩ := hw'
        go_simp
        first
        | done
        | exact rfl
      try simp only [Act.put, Act.eval, List.setIfInBounds_toArray, List.set_cons_zero, List.set_cons_succ, Array.getD_eq_getD_getElem?, List.getElem?_toArray, List.getElem?_cons_zero, List.getElem?_cons_succ, Option.getD_some]
      apply t_want rfl (by kernel_rfl)
      · intro w' hw'
        obtain ⟨hwa', hwb', hwc'⟩ := hw'
        go_simp
        first
        | done
        | exact rfl
      try simp only [Act.put, Act.eval, List.setIfInBounds_toArray, List.set_cons_zero, List.set_cons_succ, Array.getD_eq_getD_getElem?, List.getElem?_toArray, List.getElem?_cons_zero, List.getElem?_cons_succ, Option.getD_some]
      refine t_move _ rfl (by kernel_rfl) rfl ?_
      try simp only [Act.put, Act.eval, List.setIfInBounds_toArray, List.set_cons_zero, List.set_cons_succ, Array.getD_eq_getD_getElem?, List.getElem?_toArray, List.getElem?_cons_zero, List.getElem?_cons_succ, Option.getD_some]
      refine t_loud rfl (fun K hK => ?_) (t_loud rfl (fun K hK => ?_) t_nil)
      · go_wp2_with fail
        obtain ⟨g, hg⟩ : ∃ g, g = W0.heap.size := ⟨_, rfl⟩
        rw [← hg]
        refine K_row hZ0 hg ?_
        intro W1 z0 z1 zl hZ1
        refine hK _ _ (fun _ => (HK3.out _ hZ1).1) ?_
        clear hK K hg hZ0
        try simp only [Act.put, Act.eval, List.setIfInBounds_toArray, List.set_cons_zero, List.set_cons_succ, Array.getD_eq_getD_getElem?, List.getElem?_toArray, List.getElem?_cons_zero, List.getElem?_cons_succ, Option.getD_some]
        refine t_loud rfl (fun K hK => ?_) (t_loud rfl (fun K hK => ?_) t_nil)
        · go_wp2_with fail
          refine hK _ _ (fun _ => (HK3.out _ hZ1).1) ?_
          clear hK K z0 z1 zl
          try simp only [Act.put, Act.eval, List.setIfInBounds_toArray, List.set_cons_zero, List.set_cons_succ, Array.getD_eq_getD_getElem?, List.getElem?_toArray, List.getElem?_cons_zero, List.getElem?_cons_succ, Option.getD_some]
          refine t_loud rfl (fun K hK => ?_) t_nil
          · go_wp2_with fail
            (with_reducible refine (HN1.out _).mono ?_)
            rintro e W2 ⟨rfl, bb⟩
            have hZ2 := bchain bb hZ1
            go_wp2_with fail
            refine hK _ _ (fun _ => (HK3.out _ hZ2).1) ?_
            clear hK K bb hZ1
            try simp only [Act.put, Act.eval, List.setIfInBounds_toArray, List.set_cons_zero, List.set_cons_succ, Array.getD_eq_getD_getElem?, List.getElem?_toArray, List.getElem?_cons_zero, List.getElem?_cons_succ, Option.getD_some]
            refine t_loud rfl (fun K hK => ?_) t_nil
            · go_wp2_with fail
              (with_reducible refine (HN2.out _).mono ?_)
              rintro e W3 ⟨rfl, bb⟩
              have hZ3 := bchain bb hZ2
              go_wp2_with fail
              refine hK _ _ (fun _ => (HK3.out _ hZ3).1) ?_
              clear hK K bb hZ2
              try simp only [Act.put, Act.eval, List.setIfInBounds_toArray, List.set_cons_zero, List.set_cons_succ, Array.getD_eq_getD_getElem?, List.getElem?_toArray, List.getElem?_cons_zero, List.getElem?_cons_succ, Option.getD_some]
              apply t_want rfl (by kernel_rfl)
              · intro w' hw'
                obtain ⟨hwa', hwb', hwc'⟩ := hw'
                go_simp
                first
                | done
                | exact rfl
              try simp only [Act.put, Act.eval, List.setIfInBounds_toArray, List.set_cons_zero, List.set_cons_succ, Array.getD_eq_getD_getElem?, List.getElem?_toArray, List.getElem?_cons_zero, List.getElem?_cons_succ, Option.getD_some]
              refine t_loud rfl (fun K hK => ?_) t_nil
              · go_wp2_with fail
                (with_reducible refine (HN3.out _).mono ?_)
                rintro e W4 ⟨rfl, bb⟩
                have hZ4 := bchain bb hZ3
                go_wp2_with fail
                refine hK _ _ (fun _ => (HK3.out _ hZ4).1) ?_
                clear hK K bb hZ3
                try simp only [Act.put, Act.eval, List.setIfInBounds_toArray, List.set_cons_zero, List.set_cons_succ, Array.getD_eq_getD_getElem?, List.getElem?_toArray, List.getElem?_cons_zero, List.getElem?_cons_succ, Option.getD_some]
                apply t_want rfl (by kernel_rfl)
                · intro w' hw'
                  obtain ⟨hwa', hwb', hwc'⟩ := hw'
                  go_simp
                  first
                  | done
                  | exact rfl
                try simp only [Act.put, Act.eval, List.setIfInBounds_toArray, List.set_cons_zero, List.set_cons_succ, Array.getD_eq_getD_getElem?, List.getElem?_toArray, List.getElem?_cons_zero, List.getElem?_cons_succ, Option.getD_some]
                obtain ⟨-, y0, y1, y2, y3, y4, y5, y6⟩ := HK3.out _ hZ4
                apply t_want rfl (by kernel_rfl)
                · intro w' hw'
                  obtain ⟨hwa', hwb', hwc'⟩ := hw'
                  go_simp
                  first
                  | done
                  | exact rfl
                try simp only [Act.put, Act.eval, List.setIfInBounds_toArray, List.set_cons_zero, List.set_cons_succ, Array.getD_eq_getD_getElem?, List.getElem?_toArray, List.getElem?_cons_zero, List.getElem?_cons_succ, Option.getD_some]
                refine t_loud rfl (fun K hK => ?_) t_nil
                go_wp2_with fail
                refine hK _ _ (fun _ => keep_set hxr (HK3.out _ hZ4).1 _ _ _) ?_
                clear hK K
                try simp only [Act.put, Act.eval, List.setIfInBounds_toArray, List.set_cons_zero, List.set_cons_succ, Array.getD_eq_getD_getElem?, List.getElem?_toArray, List.getElem?_cons_zero, List.getElem?_cons_succ, Option.getD_some]
                refine t_loud rfl (fun K hK => ?_) t_nil
                go_wp2_with fail
                refine hK _ _ (fun h => absurd rfl h) ?_
                clear hK K
                refine t_done ?_
                go_wp2_with fail
                have hvv : ((⟨(vL S).toArray⟩ ++ ⟨(vL E).toArray⟩ ++ ⟨(vL 1).toArray⟩ : ByteArray)) = ⟨(valW x).toArray⟩ := by
                  apply ByteArray.ext
                  unfold valW
                  rw [HSE.out.1, HSE.out.2, ← HFL.out]
                  simp
                have hkk : KY = ⟨(keyW x).toArray⟩ := HKY.out
                rw [hvv, hkk]
                refine bodyPost_ret (v := .tuple #[.agg #[.string ⟨(keyW x).toArray⟩, .string ⟨(valW x).toArray⟩, .bool false], .int .i64 0]) ?_ rfl ⟨rfl, (chain_end hZ4 HB3.out hwr _ _ _).1⟩
                exact rwrite_res _ _ rb _ _ 0 (chain_rng y0 y1 y2 _ _ _).1 rfl rfl
        · go_wp2_with fail
          (with_reducible refine (HN1.out _).mono ?_)
          rintro e W2 ⟨rfl, bb⟩
          have hZ2 := bchain bb hZ1
          obtain ⟨z0, z1, zl⟩ := b_nx z0 z1 zl bb
          go_wp2_with fail
          refine hK _ _ (fun _ => (HK3.out _ hZ2).1) ?_
          clear hK K bb hZ1
          try simp only [Act.put, Act.eval, List.setIfInBounds_toArray, List.set_cons_zero, List.set_cons_succ, Array.getD_eq_getD_getElem?, List.getElem?_toArray, List.getElem?_cons_zero, List.getElem?_cons_succ, Option.getD_some]
          refine t_loud rfl (fun K hK => ?_) (t_loud rfl (fun K hK => ?_) t_nil)
          · go_wp2_with fail
            refine hK _ _ (fun _ => (HK3.out _ hZ2).1) ?_
            clear hK K z0 z1 zl
            try simp only [Act.put, Act.eval, List.setIfInBounds_toArray, List.set_cons_zero, List.set_cons_succ, Array.getD_eq_getD_getElem?, List.getElem?_toArray, List.getElem?_cons_zero, List.getElem?_cons_succ, Option.getD_some]
            refine t_loud rfl (fun K hK => ?_) t_nil
            · go_wp2_with fail
              (with_reducible refine (HN2.out _).mono ?_)
              rintro e W3 ⟨rfl, bb⟩
              have hZ3 := bchain bb hZ2
              go_wp2_with fail
              refine hK _ _ (fun _ => (HK3.out _ hZ3).1) ?_
              clear hK K bb hZ2
              try simp only [Act.put, Act.eval, List.setIfInBounds_toArray, List.set_cons_zero, List.set_cons_succ, Array.getD_eq_getD_getElem?, List.getElem?_toArray, List.getElem?_cons_zero, List.getElem?_cons_succ, Option.getD_some]
              apply t_want rfl (by kernel_rfl)
              · intro w' hw'
                obtain ⟨hwa', hwb', hwc'⟩ := hw'
                go_simp
                first
                | done
                | exact rfl
              try simp only [Act.put, Act.eval, List.setIfInBounds_toArray, List.set_cons_zero, List.set_cons_succ, Array.getD_eq_getD_getElem?, List.getElem?_toArray, List.getElem?_cons_zero, List.getElem?_cons_succ, Option.getD_some]
              refine t_loud rfl (fun K hK => ?_) t_nil
              · go_wp2_with fail
                (with_reducible refine (HN3.out _).mono ?_)
                rintro e W4 ⟨rfl, bb⟩
                have hZ4 := bchain bb hZ3
                go_wp2_with fail
                refine hK _ _ (fun _ => (HK3.out _ hZ4).1) ?_
                clear hK K bb hZ3
                try simp only [Act.put, Act.eval, List.setIfInBounds_toArray, List.set_cons_zero, List.set_cons_succ, Array.getD_eq_getD_getElem?, List.getElem?_toArray, List.getElem?_cons_zero, List.getElem?_cons_succ, Option.getD_some]
                apply t_want rfl (by kernel_rfl)
                · intro w' hw'
                  obtain ⟨hwa', hwb', hwc'⟩ := hw'
                  go_simp
                  first
                  | done
                  | exact rfl
                try simp only [Act.put, Act.eval, List.setIfInBounds_toArray, List.set_cons_zero, List.set_cons_succ, Array.getD_eq_getD_getElem?, List.getElem?_toArray, List.getElem?_cons_zero, List.getElem?_cons_succ, Option.getD_some]
                obtain ⟨-, y0, y1, y2, y3, y4, y5, y6⟩ := HK3.out _ hZ4
                apply t_want rfl (by kernel_rfl)
                · intro w' hw'
                  obtain ⟨hwa', hwb', hwc'⟩ := hw'
                  go_simp
                  first
                  | done
                  | exact rfl
                try simp only [Act.put, Act.eval, List.setIfInBounds_toArray, List.set_cons_zero, List.set_cons_succ, Array.getD_eq_getD_getElem?, List.getElem?_toArray, List.getElem?_cons_zero, List.getElem?_cons_succ, Option.getD_some]
                refine t_loud rfl (fun K hK => ?_) t_nil
                go_wp2_with fail
                refine hK _ _ (fun _ => keep_set hxr (HK3.out _ hZ4).1 _ _ _) ?_
                clear hK K
                try simp only [Act.put, Act.eval, List.setIfInBounds_toArray, List.set_cons_zero, List.set_cons_succ, Array.getD_eq_getD_getElem?, List.getElem?_toArray, List.getElem?_cons_zero, List.getElem?_cons_succ, Option.getD_some]
                refine t_loud rfl (fun K hK => ?_) t_nil
                go_wp2_with fail
                refine hK _ _ (fun h => absurd rfl h) ?_
                clear hK K
                refine t_done ?_
                go_wp2_with fail
                have hvv : ((⟨(vL S).toArray⟩ ++ ⟨(vL E).toArray⟩ ++ ⟨(vL 1).toArray⟩ : ByteArray)) = ⟨(valW x).toArray⟩ := by
                  apply ByteArray.ext
                  unfold valW
                  rw [HSE.out.1, HSE.out.2, ← HFL.out]
                  simp
                have hkk : KY = ⟨(keyW x).toArray⟩ := HKY.out
                rw [hvv, hkk]
                refine bodyPost_ret (v := .tuple #[.agg #[.string ⟨(keyW x).toArray⟩, .string ⟨(valW x).toArray⟩, .bool false], .int .i64 0]) ?_ rfl ⟨rfl, (chain_end hZ4 HB3.out hwr _ _ _).1⟩
                exact rwrite_res _ _ rb _ _ 0 (chain_rng y0 y1 y2 _ _ _).1 rfl rfl
          · go_wp2_with fail
            (with_reducible refine (HN2.out _).mono ?_)
            rintro e W3 ⟨rfl, bb⟩
            have hZ3 := bchain bb hZ2
            obtain ⟨z0, z1, zl⟩ := b_nx z0 z1 zl bb
            go_wp2_with fail
            refine hK _ _ (fun _ => (HK3.out _ hZ3).1) ?_
            clear hK K bb hZ2
            try simp only [Act.put, Act.eval, List.setIfInBounds_toArray, List.set_cons_zero, List.set_cons_succ, Array.getD_eq_getD_getElem?, List.getElem?_toArray, List.getElem?_cons_zero, List.getElem?_cons_succ, Option.getD_some]
            apply t_want rfl (by kernel_rfl)
            · intro w' hw'
              obtain ⟨hwa', hwb', hwc'⟩ := hw'
              go_simp
              first
              | done
              | exact rfl
            try simp only [Act.put, Act.eval, List.setIfInBounds_toArray, List.set_cons_zero, List.set_cons_succ, Array.getD_eq_getD_getElem?, List.getElem?_toArray, List.getElem?_cons_zero, List.getElem?_cons_succ, Option.getD_some]
            refine t_loud rfl (fun K hK => ?_) (t_loud rfl (fun K hK => ?_) t_nil)
            · go_wp2_with fail
              refine hK _ _ (fun _ => (HK3.out _ hZ3).1) ?_
              clear hK K z0 z1 zl
              try simp only [Act.put, Act.eval, List.setIfInBounds_toArray, List.set_cons_zero, List.set_cons_succ, Array.getD_eq_getD_getElem?, List.getElem?_toArray, List.getElem?_cons_zero, List.getElem?_cons_succ, Option.getD_some]
              refine t_loud rfl (fun K hK => ?_) t_nil
              · go_wp2_with fail
                (with_reducible refine (HN3.out _).mono ?_)
                rintro e W4 ⟨rfl, bb⟩
                have hZ4 := bchain bb hZ3
                go_wp2_with fail
                refine hK _ _ (fun _ => (HK3.out _ hZ4).1) ?_
                clear hK K bb hZ3
                try simp only [Act.put, Act.eval, List.setIfInBounds_toArray, List.set_cons_zero, List.set_cons_succ, Array.getD_eq_getD_getElem?, List.getElem?_toArray, List.getElem?_cons_zero, List.getElem?_cons_succ, Option.getD_some]
                apply t_want rfl (by kernel_rfl)
                · intro w' hw'
                  obtain ⟨hwa', hwb', hwc'⟩ := hw'
                  go_simp
                  first
                  | done
                  | exact rfl
                try simp only [Act.put, Act.eval, List.setIfInBounds_toArray, List.set_cons_zero, List.set_cons_succ, Array.getD_eq_getD_getElem?, List.getElem?_toArray, List.getElem?_cons_zero, List.getElem?_cons_succ, Option.getD_some]
                obtain ⟨-, y0, y1, y2, y3, y4, y5, y6⟩ := HK3.out _ hZ4
                apply t_want rfl (by kernel_rfl)
                · intro w' hw'
                  obtain ⟨hwa', hwb', hwc'⟩ := hw'
                  go_simp
                  first
                  | done
                  | exact rfl
                try simp only [Act.put, Act.eval, List.setIfInBounds_toArray, List.set_cons_zero, List.set_cons_succ, Array.getD_eq_getD_getElem?, List.getElem?_toArray, List.getElem?_cons_zero, List.getElem?_cons_succ, Option.getD_some]
                refine t_loud rfl (fun K hK => ?_) t_nil
                go_wp2_with fail
                refine hK _ _ (fun _ => keep_set hxr (HK3.out _ hZ4).1 _ _ _) ?_
                clear hK K
                try simp only [Act.put, Act.eval, List.setIfInBounds_toArray, List.set_cons_zero, List.set_cons_succ, Array.getD_eq_getD_getElem?, List.getElem?_toArray, List.getElem?_cons_zero, List.getElem?_cons_succ, Option.getD_some]
                refine t_loud rfl (fun K hK => ?_) t_nil
                go_wp2_with fail
                refine hK _ _ (fun h => absurd rfl h) ?_
                clear hK K
                refine t_done ?_
                go_wp2_with fail
                have hvv : ((⟨(vL S).toArray⟩ ++ ⟨(vL E).toArray⟩ ++ ⟨(vL 1).toArray⟩ : ByteArray)) = ⟨(valW x).toArray⟩ := by
                  apply ByteArray.ext
                  unfold valW
                  rw [HSE.out.1, HSE.out.2, ← HFL.out]
                  simp
                have hkk : KY = ⟨(keyW x).toArray⟩ := HKY.out
                rw [hvv, hkk]
                refine bodyPost_ret (v := .tuple #[.agg #[.string ⟨(keyW x).toArray⟩, .string ⟨(valW x).toArray⟩, .bool false], .int .i64 0]) ?_ rfl ⟨rfl, (chain_end hZ4 HB3.out hwr _ _ _).1⟩
                exact rwrite_res _ _ rb _ _ 0 (chain_rng y0 y1 y2 _ _ _).1 rfl rfl
            · go_wp2_with fail
              (with_reducible refine (HN3.out _).mono ?_)
              rintro e W4 ⟨rfl, bb⟩
              have hZ4 := bchain bb hZ3
              obtain ⟨z0, z1, zl⟩ := b_nx z0 z1 zl bb
              go_wp2_with fail
              refine hK _ _ (fun _ => (HK3.out _ hZ4).1) ?_
              clear hK K bb hZ3
              try simp only [Act.put, Act.eval, List.setIfInBounds_toArray, List.set_cons_zero, List.set_cons_succ, Array.getD_eq_getD_getElem?, List.getElem?_toArray, List.getElem?_cons_zero, List.getElem?_cons_succ, Option.getD_some]
              apply t_want rfl (by kernel_rfl)
              · intro w' hw'
                obtain ⟨hwa', hwb', hwc'⟩ := hw'
                go_simp
                first
                | done
                | exact rfl
              try simp only [Act.put, Act.eval, List.setIfInBounds_toArray, List.set_cons_zero, List.set_cons_succ, Array.getD_eq_getD_getElem?, List.getElem?_toArray, List.getElem?_cons_zero, List.getElem?_cons_succ, Option.getD_some]
              refine t_loud rfl (fun K hK => ?_) t_nil
              · go_wp2_with fail
                refine hK _ _ (fun _ => (HK3.out _ hZ4).1) ?_
                clear hK K z0 z1 zl
                try simp only [Act.put, Act.eval, List.setIfInBounds_toArray, List.set_cons_zero, List.set_cons_succ, Array.getD_eq_getD_getElem?, List.getElem?_toArray, List.getElem?_cons_zero, List.getElem?_cons_succ, Option.getD_some]
                obtain ⟨-, y0, y1, y2, y3, y4, y5, y6⟩ := HK3.out _ hZ4
                apply t_want rfl (by kernel_rfl)
                · intro w' hw'
                  obtain ⟨hwa', hwb', hwc'⟩ := hw'
                  go_simp
                  first
                  | done
                  | exact rfl
                try simp only [Act.put, Act.eval, List.setIfInBounds_toArray, List.set_cons_zero, List.set_cons_succ, Array.getD_eq_getD_getElem?, List.getElem?_toArray, List.getElem?_cons_zero, List.getElem?_cons_succ, Option.getD_some]
                refine t_loud rfl (fun K hK => ?_) t_nil
                go_wp2_with fail
                refine hK _ _ (fun _ => keep_set hxr (HK3.out _ hZ4).1 _ _ _) ?_
                clear hK K
                try simp only [Act.put, Act.eval, List.setIfInBounds_toArray, List.set_cons_zero, List.set_cons_succ, Array.getD_eq_getD_getElem?, List.getElem?_toArray, List.getElem?_cons_zero, List.getElem?_cons_succ, Option.getD_some]
                refine t_loud rfl (fun K hK => ?_) t_nil
                go_wp2_with fail
                refine hK _ _ (fun h => absurd rfl h) ?_
                clear hK K
                refine t_done ?_
                go_wp2_with fail
                have hvv : ((⟨(vL S).toArray⟩ ++ ⟨(vL E).toArray⟩ ++ ⟨(vL 1).toArray⟩ : ByteArray)) = ⟨(valW x).toArray⟩ := by
                  apply ByteArray.ext
                  unfold valW
                  rw [HSE.out.1, HSE.out.2, ← HFL.out]
                  simp
                have hkk : KY = ⟨(keyW x).toArray⟩ := HKY.out
                rw [hvv, hkk]
                refine bodyPost_ret (v := .tuple #[.agg #[.string ⟨(keyW x).toArray⟩, .string ⟨(valW x).toArray⟩, .bool false], .int .i64 0]) ?_ rfl ⟨rfl, (chain_end hZ4 HB3.out hwr _ _ _).1⟩
                exact rwrite_res _ _ rb _ _ 0 (chain_rng y0 y1 y2 _ _ _).1 rfl rfl
      · go_wp2_with fail
        (with_reducible refine (HN1.out _).mono ?_)
        rintro e W1 ⟨rfl, bb⟩
        have hZ1 := bchain bb hZ0
        go_wp2_with fail
        refine hK _ _ (fun _ => (HK3.out _ hZ1).1) ?_
        clear hK K bb hZ0
        try simp only [Act.put, Act.eval, List.setIfInBounds_toArray, List.set_cons_zero, List.set_cons_succ, Array.getD_eq_getD_getElem?, List.getElem?_toArray, List.getElem?_cons_zero, List.getElem?_cons_succ, Option.getD_some]
        refine t_loud rfl (fun K hK => ?_) (t_loud rfl (fun K hK => ?_) t_nil)
        · go_wp2_with fail
          obtain ⟨g, hg⟩ : ∃ g, g = W1.heap.size := ⟨_, rfl⟩
          rw [← hg]
          refine K_row hZ1 hg ?_
          intro W2 z0 z1 zl hZ2
          refine hK _ _ (fun _ => (HK3.out _ hZ2).1) ?_
          clear hK K hg hZ1
          try simp only [Act.put, Act.eval, List.setIfInBounds_toArray, List.set_cons_zero, List.set_cons_succ, Array.getD_eq_getD_getElem?, List.getElem?_toArray, List.getElem?_cons_zero, List.getElem?_cons_succ, Option.getD_some]
          refine t_loud rfl (fun K hK => ?_) (t_loud rfl (fun K hK => ?_) t_nil)
          · go_wp2_with fail
            refine hK _ _ (fun _ => (HK3.out _ hZ2).1) ?_
            clear hK K z0 z1 zl
            try simp only [Act.put, Act.eval, List.setIfInBounds_toArray, List.set_cons_zero, List.set_cons_succ, Array.getD_eq_getD_getElem?, List.getElem?_toArray, List.getElem?_cons_zero, List.getElem?_cons_succ, Option.getD_some]
            refine t_loud rfl (fun K hK => ?_) t_nil
            · go_wp2_with fail
              (with_reducible refine (HN2.out _).mono ?_)
              rintro e W3 ⟨rfl, bb⟩
              have hZ3 := bchain bb hZ2
              go_wp2_with fail
              refine hK _ _ (fun _ => (HK3.out _ hZ3).1) ?_
              clear hK K bb hZ2
              try simp only [Act.put, Act.eval, List.setIfInBounds_toArray, List.set_cons_zero, List.set_cons_succ, Array.getD_eq_getD_getElem?, List.getElem?_toArray, List.getElem?_cons_zero, List.getElem?_cons_succ, Option.getD_some]
              apply t_want rfl (by kernel_rfl)
              · intro w' hw'
                obtain ⟨hwa', hwb', hwc'⟩ := hw'
                go_simp
                first
                | done
                | exact rfl
              try simp only [Act.put, Act.eval, List.setIfInBounds_toArray, List.set_cons_zero, List.set_cons_succ, Array.getD_eq_getD_getElem?, List.getElem?_toArray, List.getElem?_cons_zero, List.getElem?_cons_succ, Option.getD_some]
              refine t_loud rfl (fun K hK => ?_) t_nil
              · go_wp2_with fail
                (with_reducible refine (HN3.out _).mono ?_)
                rintro e W4 ⟨rfl, bb⟩
                have hZ4 := bchain bb hZ3
                go_wp2_with fail
                refine hK _ _ (fun _ => (HK3.out _ hZ4).1) ?_
                clear hK K bb hZ3
                try simp only [Act.put, Act.eval, List.setIfInBounds_toArray, List.set_cons_zero, List.set_cons_succ, Array.getD_eq_getD_getElem?, List.getElem?_toArray, List.getElem?_cons_zero, List.getElem?_cons_succ, Option.getD_some]
                apply t_want rfl (by kernel_rfl)
                · intro w' hw'
                  obtain ⟨hwa', hwb', hwc'⟩ := hw'
                  go_simp
                  first
                  | done
                  | exact rfl
                try simp only [Act.put, Act.eval, List.setIfInBounds_toArray, List.set_cons_zero, List.set_cons_succ, Array.getD_eq_getD_getElem?, List.getElem?_toArray, List.getElem?_cons_zero, List.getElem?_cons_succ, Option.getD_some]
                obtain ⟨-, y0, y1, y2, y3, y4, y5, y6⟩ := HK3.out _ hZ4
                apply t_want rfl (by kernel_rfl)
                · intro w' hw'
                  obtain ⟨hwa', hwb', hwc'⟩ := hw'
                  go_simp
                  first
                  | done
                  | exact rfl
                try simp only [Act.put, Act.eval, List.setIfInBounds_toArray, List.set_cons_zero, List.set_cons_succ, Array.getD_eq_getD_getElem?, List.getElem?_toArray, List.getElem?_cons_zero, List.getElem?_cons_succ, Option.getD_some]
                refine t_loud rfl (fun K hK => ?_) t_nil
                go_wp2_with fail
                refine hK _ _ (fun _ => keep_set hxr (HK3.out _ hZ4).1 _ _ _) ?_
                clear hK K
                try simp only [Act.put, Act.eval, List.setIfInBounds_toArray, List.set_cons_zero, List.set_cons_succ, Array.getD_eq_getD_getElem?, List.getElem?_toArray, List.getElem?_cons_zero, List.getElem?_cons_succ, Option.getD_some]
                refine t_loud rfl (fun K hK => ?_) t_nil
                go_wp2_with fail
                refine hK _ _ (fun h => absurd rfl h) ?_
                clear hK K
                refine t_done ?_
                go_wp2_with fail
                have hvv : ((⟨(vL S).toArray⟩ ++ ⟨(vL E).toArray⟩ ++ ⟨(vL 1).toArray⟩ : ByteArray)) = ⟨(valW x).toArray⟩ := by
                  apply ByteArray.ext
                  unfold valW
                  rw [HSE.out.1, HSE.out.2, ← HFL.out]
                  simp
                have hkk : KY = ⟨(keyW x).toArray⟩ := HKY.out
                rw [hvv, hkk]
                refine bodyPost_ret (v := .tuple #[.agg #[.string ⟨(keyW x).toArray⟩, .string ⟨(valW x).toArray⟩, .bool false], .int .i64 0]) ?_ rfl ⟨rfl, (chain_end hZ4 HB3.out hwr _ _ _).1⟩
                exact rwrite_res _ _ rb _ _ 0 (chain_rng y0 y1 y2 _ _ _).1 rfl rfl
          · go_wp2_with fail
            (with_reducible refine (HN2.out _).mono ?_)
            rintro e W3 ⟨rfl, bb⟩
            have hZ3 := bchain bb hZ2
            obtain ⟨z0, z1, zl⟩ := b_nx z0 z1 zl bb
            go_wp2_with fail
            refine hK _ _ (fun _ => (HK3.out _ hZ3).1) ?_
            clear hK K bb hZ2
            try simp only [Act.put, Act.eval, List.setIfInBounds_toArray, List.set_cons_zero, List.set_cons_succ, Array.getD_eq_getD_getElem?, List.getElem?_toArray, List.getElem?_cons_zero, List.getElem?_cons_succ, Option.getD_some]
            apply t_want rfl (by kernel_rfl)
            · intro w' hw'
              obtain ⟨hwa', hwb', hwc'⟩ := hw'
              go_simp
              first
              | done
              | exact rfl
            try simp only [Act.put, Act.eval, List.setIfInBounds_toArray, List.set_cons_zero, List.set_cons_succ, Array.getD_eq_getD_getElem?, List.getElem?_toArray, List.getElem?_cons_zero, List.getElem?_cons_succ, Option.getD_some]
            refine t_loud rfl (fun K hK => ?_) (t_loud rfl (fun K hK => ?_) t_nil)
            · go_wp2_with fail
              refine hK _ _ (fun _ => (HK3.out _ hZ3).1) ?_
              clear hK K z0 z1 zl
              try simp only [Act.put, Act.eval, List.setIfInBounds_toArray, List.set_cons_zero, List.set_cons_succ, Array.getD_eq_getD_getElem?, List.getElem?_toArray, List.getElem?_cons_zero, List.getElem?_cons_succ, Option.getD_some]
              refine t_loud rfl (fun K hK => ?_) t_nil
              · go_wp2_with fail
                (with_reducible refine (HN3.out _).mono ?_)
                rintro e W4 ⟨rfl, bb⟩
                have hZ4 := bchain bb hZ3
                go_wp2_with fail
                refine hK _ _ (fun _ => (HK3.out _ hZ4).1) ?_
                clear hK K bb hZ3
                try simp only [Act.put, Act.eval, List.setIfInBounds_toArray, List.set_cons_zero, List.set_cons_succ, Array.getD_eq_getD_getElem?, List.getElem?_toArray, List.getElem?_cons_zero, List.getElem?_cons_succ, Option.getD_some]
                apply t_want rfl (by kernel_rfl)
                · intro w' hw'
                  obtain ⟨hwa', hwb', hwc'⟩ := hw'
                  go_simp
                  first
                  | done
                  | exact rfl
                try simp only [Act.put, Act.eval, List.setIfInBounds_toArray, List.set_cons_zero, List.set_cons_succ, Array.getD_eq_getD_getElem?, List.getElem?_toArray, List.getElem?_cons_zero, List.getElem?_cons_succ, Option.getD_some]
                obtain ⟨-, y0, y1, y2, y3, y4, y5, y6⟩ := HK3.out _ hZ4
                apply t_want rfl (by kernel_rfl)
                · intro w' hw'
                  obtain ⟨hwa', hwb', hwc'⟩ := hw'
                  go_simp
                  first
                  | done
                  | exact rfl
                try simp only [Act.put, Act.eval, List.setIfInBounds_toArray, List.set_cons_zero, List.set_cons_succ, Array.getD_eq_getD_getElem?, List.getElem?_toArray, List.getElem?_cons_zero, List.getElem?_cons_succ, Option.getD_some]
                refine t_loud rfl (fun K hK => ?_) t_nil
                go_wp2_with fail
                refine hK _ _ (fun _ => keep_set hxr (HK3.out _ hZ4).1 _ _ _) ?_
                clear hK K
                try simp only [Act.put, Act.eval, List.setIfInBounds_toArray, List.set_cons_zero, List.set_cons_succ, Array.getD_eq_getD_getElem?, List.getElem?_toArray, List.getElem?_cons_zero, List.getElem?_cons_succ, Option.getD_some]
                refine t_loud rfl (fun K hK => ?_) t_nil
                go_wp2_with fail
                refine hK _ _ (fun h => absurd rfl h) ?_
                clear hK K
                refine t_done ?_
                go_wp2_with fail
                have hvv : ((⟨(vL S).toArray⟩ ++ ⟨(vL E).toArray⟩ ++ ⟨(vL 1).toArray⟩ : ByteArray)) = ⟨(valW x).toArray⟩ := by
                  apply ByteArray.ext
                  unfold valW
                  rw [HSE.out.1, HSE.out.2, ← HFL.out]
                  simp
                have hkk : KY = ⟨(keyW x).toArray⟩ := HKY.out
                rw [hvv, hkk]
                refine bodyPost_ret (v := .tuple #[.agg #[.string ⟨(keyW x).toArray⟩, .string ⟨(valW x).toArray⟩, .bool false], .int .i64 0]) ?_ rfl ⟨rfl, (chain_end hZ4 HB3.out hwr _ _ _).1⟩
                exact rwrite_res _ _ rb _ _ 0 (chain_rng y0 y1 y2 _ _ _).1 rfl rfl
            · go_wp2_with fail
              (with_reducible refine (HN3.out _).mono ?_)
              rintro e W4 ⟨rfl, bb⟩
              have hZ4 := bchain bb hZ3
              obtain ⟨z0, z1, zl⟩ := b_nx z0 z1 zl bb
              go_wp2_with fail
              refine hK _ _ (fun _ => (HK3.out _ hZ4).1) ?_
              clear hK K bb hZ3
              try simp only [Act.put, Act.eval, List.setIfInBounds_toArray, List.set_cons_zero, List.set_cons_succ, Array.getD_eq_getD_getElem?, List.getElem?_toArray, List.getElem?_cons_zero, List.getElem?_cons_succ, Option.getD_some]
              apply t_want rfl (by kernel_rfl)
              · intro w' hw'
                obtain ⟨hwa', hwb', hwc'⟩ := hw'
                go_simp
                first
                | done
                | exact rfl
              try simp only [Act.put, Act.eval, List.setIfInBounds_toArray, List.set_cons_zero, List.set_cons_succ, Array.getD_eq_getD_getElem?, List.getElem?_toArray, List.getElem?_cons_zero, List.getElem?_cons_succ, Option.getD_some]
              refine t_loud rfl (fun K hK => ?_) t_nil
              · go_wp2_with fail
                refine hK _ _ (fun _ => (HK3.out _ hZ4).1) ?_
                clear hK K z0 z1 zl
                try simp only [Act.put, Act.eval, List.setIfInBounds_toArray, List.set_cons_zero, List.set_cons_succ, Array.getD_eq_getD_getElem?, List.getElem?_toArray, List.getElem?_cons_zero, List.getElem?_cons_succ, Option.getD_some]
                obtain ⟨-, y0, y1, y2, y3, y4, y5, y6⟩ := HK3.out _ hZ4
                apply t_want rfl (by kernel_rfl)
                · intro w' hw'
                  obtain ⟨hwa', hwb', hwc'⟩ := hw'
                  go_simp
                  first
                  | done
                  | exact rfl
                try simp only [Act.put, Act.eval, List.setIfInBounds_toArray, List.set_cons_zero, List.set_cons_succ, Array.getD_eq_getD_getElem?, List.getElem?_toArray, List.getElem?_cons_zero, List.getElem?_cons_succ, Option.getD_some]
                refine t_loud rfl (fun K hK => ?_) t_nil
                go_wp2_with fail
                refine hK _ _ (fun _ => keep_set hxr (HK3.out _ hZ4).1 _ _ _) ?_
                clear hK K
                try simp only [Act.put, Act.eval, List.setIfInBounds_toArray, List.set_cons_zero, List.set_cons_succ, Array.getD_eq_getD_getElem?, List.getElem?_toArray, List.getElem?_cons_zero, List.getElem?_cons_succ, Option.getD_some]
                refine t_loud rfl (fun K hK => ?_) t_nil
                go_wp2_with fail
                refine hK _ _ (fun h => absurd rfl h) ?_
                clear hK K
                refine t_done ?_
                go_wp2_with fail
                have hvv : ((⟨(vL S).toArray⟩ ++ ⟨(vL E).toArray⟩ ++ ⟨(vL 1).toArray⟩ : ByteArray)) = ⟨(valW x).toArray⟩ := by
                  apply ByteArray.ext
                  unfold valW
                  rw [HSE.out.1, HSE.out.2, ← HFL.out]
                  simp
                have hkk : KY = ⟨(keyW x).toArray⟩ := HKY.out
                rw [hvv, hkk]
                refine bodyPost_ret (v := .tuple #[.agg #[.string ⟨(keyW x).toArray⟩, .string ⟨(valW x).toArray⟩, .bool false], .int .i64 0]) ?_ rfl ⟨rfl, (chain_end hZ4 HB3.out hwr _ _ _).1⟩
                exact rwrite_res _ _ rb _ _ 0 (chain_rng y0 y1 y2 _ _ _).1 rfl rfl
        · go_wp2_with fail
          (with_reducible refine (HN2.out _).mono ?_)
          rintro e W2 ⟨rfl, bb⟩
          have hZ2 := bchain bb hZ1
          go_wp2_with fail
          refine hK _ _ (fun _ => (HK3.out _ hZ2).1) ?_
          clear hK K bb hZ1
          try simp only [Act.put, Act.eval, List.setIfInBounds_toArray, List.set_cons_zero, List.set_cons_succ, Array.getD_eq_getD_getElem?, List.getElem?_toArray, List.getElem?_cons_zero, List.getElem?_cons_succ, Option.getD_some]
          apply t_want rfl (by kernel_rfl)
          · intro w' hw'
            obtain ⟨hwa', hwb', hwc'⟩ := hw'
            go_simp
            first
            | done
            | exact rfl
          try simp only [Act.put, Act.eval, List.setIfInBounds_toArray, List.set_cons_zero, List.set_cons_succ, Array.getD_eq_getD_getElem?, List.getElem?_toArray, List.getElem?_cons_zero, List.getElem?_cons_succ, Option.getD_some]
          refine t_loud rfl (fun K hK => ?_) (t_loud rfl (fun K hK => ?_) t_nil)
          · go_wp2_with fail
            obtain ⟨g, hg⟩ : ∃ g, g = W2.heap.size := ⟨_, rfl⟩
            rw [← hg]
            refine K_row hZ2 hg ?_
            intro W3 z0 z1 zl hZ3
            refine hK _ _ (fun _ => (HK3.out _ hZ3).1) ?_
            clear hK K hg hZ2
            try simp only [Act.put, Act.eval, List.setIfInBounds_toArray, List.set_cons_zero, List.set_cons_succ, Array.getD_eq_getD_getElem?, List.getElem?_toArray, List.getElem?_cons_zero, List.getElem?_cons_succ, Option.getD_some]
            refine t_loud rfl (fun K hK => ?_) (t_loud rfl (fun K hK => ?_) t_nil)
            · go_wp2_with fail
              refine hK _ _ (fun _ => (HK3.out _ hZ3).1) ?_
              clear hK K z0 z1 zl
              try simp only [Act.put, Act.eval, List.setIfInBounds_toArray, List.set_cons_zero, List.set_cons_succ, Array.getD_eq_getD_getElem?, List.getElem?_toArray, List.getElem?_cons_zero, List.getElem?_cons_succ, Option.getD_some]
              refine t_loud rfl (fun K hK => ?_) t_nil
              · go_wp2_with fail
                (with_reducible refine (HN3.out _).mono ?_)
                rintro e W4 ⟨rfl, bb⟩
                have hZ4 := bchain bb hZ3
                go_wp2_with fail
                refine hK _ _ (fun _ => (HK3.out _ hZ4).1) ?_
                clear hK K bb hZ3
                try simp only [Act.put, Act.eval, List.setIfInBounds_toArray, List.set_cons_zero, List.set_cons_succ, Array.getD_eq_getD_getElem?, List.getElem?_toArray, List.getElem?_cons_zero, List.getElem?_cons_succ, Option.getD_some]
                apply t_want rfl (by kernel_rfl)
                · intro w' hw'
                  obtain ⟨hwa', hwb', hwc'⟩ := hw'
                  go_simp
                  first
                  | done
                  | exact rfl
                try simp only [Act.put, Act.eval, List.setIfInBounds_toArray, List.set_cons_zero, List.set_cons_succ, Array.getD_eq_getD_getElem?, List.getElem?_toArray, List.getElem?_cons_zero, List.getElem?_cons_succ, Option.getD_some]
                obtain ⟨-, y0, y1, y2, y3, y4, y5, y6⟩ := HK3.out _ hZ4
                apply t_want rfl (by kernel_rfl)
                · intro w' hw'
                  obtain ⟨hwa', hwb', hwc'⟩ := hw'
                  go_simp
                  first
                  | done
                  | exact rfl
                try simp only [Act.put, Act.eval, List.setIfInBounds_toArray, List.set_cons_zero, List.set_cons_succ, Array.getD_eq_getD_getElem?, List.getElem?_toArray, List.getElem?_cons_zero, List.getElem?_cons_succ, Option.getD_some]
                refine t_loud rfl (fun K hK => ?_) t_nil
                go_wp2_with fail
                refine hK _ _ (fun _ => keep_set hxr (HK3.out _ hZ4).1 _ _ _) ?_
                clear hK K
                try simp only [Act.put, Act.eval, List.setIfInBounds_toArray, List.set_cons_zero, List.set_cons_succ, Array.getD_eq_getD_getElem?, List.getElem?_toArray, List.getElem?_cons_zero, List.getElem?_cons_succ, Option.getD_some]
                refine t_loud rfl (fun K hK => ?_) t_nil
                go_wp2_with fail
                refine hK _ _ (fun h => absurd rfl h) ?_
                clear hK K
                refine t_done ?_
                go_wp2_with fail
                have hvv : ((⟨(vL S).toArray⟩ ++ ⟨(vL E).toArray⟩ ++ ⟨(vL 1).toArray⟩ : ByteArray)) = ⟨(valW x).toArray⟩ := by
                  apply ByteArray.ext
                  unfold valW
                  rw [HSE.out.1, HSE.out.2, ← HFL.out]
                  simp
                have hkk : KY = ⟨(keyW x).toArray⟩ := HKY.out
                rw [hvv, hkk]
                refine bodyPost_ret (v := .tuple #[.agg #[.string ⟨(keyW x).toArray⟩, .string ⟨(valW x).toArray⟩, .bool false], .int .i64 0]) ?_ rfl ⟨rfl, (chain_end hZ4 HB3.out hwr _ _ _).1⟩
                exact rwrite_res _ _ rb _ _ 0 (chain_rng y0 y1 y2 _ _ _).1 rfl rfl
            · go_wp2_with fail
              (with_reducible refine (HN3.out _).mono ?_)
              rintro e W4 ⟨rfl, bb⟩
              have hZ4 := bchain bb hZ3
              obtain ⟨z0, z1, zl⟩ := b_nx z0 z1 zl bb
              go_wp2_with fail
              refine hK _ _ (fun _ => (HK3.out _ hZ4).1) ?_
              clear hK K bb hZ3
              try simp only [Act.put, Act.eval, List.setIfInBounds_toArray, List.set_cons_zero, List.set_cons_succ, Array.getD_eq_getD_getElem?, List.getElem?_toArray, List.getElem?_cons_zero, List.getElem?_cons_succ, Option.getD_some]
              apply t_want rfl (by kernel_rfl)
              · intro w' hw'
                obtain ⟨hwa', hwb', hwc'⟩ := hw'
                go_simp
                first
                | done
                | exact rfl
              try simp only [Act.put, Act.eval, List.setIfInBounds_toArray, List.set_cons_zero, List.set_cons_succ, Array.getD_eq_getD_getElem?, List.getElem?_toArray, List.getElem?_cons_zero, List.getElem?_cons_succ, Option.getD_some]
              refine t_loud rfl (fun K hK => ?_) t_nil
              · go_wp2_with fail
                refine hK _ _ (fun _ => (HK3.out _ hZ4).1) ?_
                clear hK K z0 z1 zl
                try simp only [Act.put, Act.eval, List.setIfInBounds_toArray, List.set_cons_zero, List.set_cons_succ, Array.getD_eq_getD_getElem?, List.getElem?_toArray, List.getElem?_cons_zero, List.getElem?_cons_succ, Option.getD_some]
                obtain ⟨-, y0, y1, y2, y3, y4, y5, y6⟩ := HK3.out _ hZ4
                apply t_want rfl (by kernel_rfl)
                · intro w' hw'
                  obtain ⟨hwa', hwb', hwc'⟩ := hw'
                  go_simp
                  first
                  | done
                  | exact rfl
                try simp only [Act.put, Act.eval, List.setIfInBounds_toArray, List.set_cons_zero, List.set_cons_succ, Array.getD_eq_getD_getElem?, List.getElem?_toArray, List.getElem?_cons_zero, List.getElem?_cons_succ, Option.getD_some]
                refine t_loud rfl (fun K hK => ?_) t_nil
                go_wp2_with fail
                refine hK _ _ (fun _ => keep_set hxr (HK3.out _ hZ4).1 _ _ _) ?_
                clear hK K
                try simp only [Act.put, Act.eval, List.setIfInBounds_toArray, List.set_cons_zero, List.set_cons_succ, Array.getD_eq_getD_getElem?, List.getElem?_toArray, List.getElem?_cons_zero, List.getElem?_cons_succ, Option.getD_some]
                refine t_loud rfl (fun K hK => ?_) t_nil
                go_wp2_with fail
                refine hK _ _ (fun h => absurd rfl h) ?_
                clear hK K
                refine t_done ?_
                go_wp2_with fail
                have hvv : ((⟨(vL S).toArray⟩ ++ ⟨(vL E).toArray⟩ ++ ⟨(vL 1).toArray⟩ : ByteArray)) = ⟨(valW x).toArray⟩ := by
                  apply ByteArray.ext
                  unfold valW
                  rw [HSE.out.1, HSE.out.2, ← HFL.out]
                  simp
                have hkk : KY = ⟨(keyW x).toArray⟩ := HKY.out
                rw [hvv, hkk]
                refine bodyPost_ret (v := .tuple #[.agg #[.string ⟨(keyW x).toArray⟩, .string ⟨(valW x).toArray⟩, .bool false], .int .i64 0]) ?_ rfl ⟨rfl, (chain_end hZ4 HB3.out hwr _ _ _).1⟩
                exact rwrite_res _ _ rb _ _ 0 (chain_rng y0 y1 y2 _ _ _).1 rfl rfl
          · go_wp2_with fail
            (with_reducible refine (HN3.out _).mono ?_)
            rintro e W3 ⟨rfl, bb⟩
            have hZ3 := bchain bb hZ2
            go_wp2_with fail
            refine hK _ _ (fun _ => (HK3.out _ hZ3).1) ?_
            clear hK K bb hZ2
            try simp only [Act.put, Act.eval, List.setIfInBounds_toArray, List.set_cons_zero, List.set_cons_succ, Array.getD_eq_getD_getElem?, List.getElem?_toArray, List.getElem?_cons_zero, List.getElem?_cons_succ, Option.getD_some]
            apply t_want rfl (by kernel_rfl)
            · intro w' hw'
              obtain ⟨hwa', hwb', hwc'⟩ := hw'
              go_simp
              first
              | done
              | exact rfl
            try simp only [Act.put, Act.eval, List.setIfInBounds_toArray, List.set_cons_zero, List.set_cons_succ, Array.getD_eq_getD_getElem?, List.getElem?_toArray, List.getElem?_cons_zero, List.getElem?_cons_succ, Option.getD_some]
            refine t_loud rfl (fun K hK => ?_) t_nil
            · go_wp2_with fail
              obtain ⟨g, hg⟩ : ∃ g, g = W3.heap.size := ⟨_, rfl⟩
              rw [← hg]
              refine K_row hZ3 hg ?_
              intro W4 z0 z1 zl hZ4
              refine hK _ _ (fun _ => (HK3.out _ hZ4).1) ?_
              clear hK K hg hZ3
              try simp only [Act.put, Act.eval, List.setIfInBounds_toArray, List.set_cons_zero, List.set_cons_succ, Array.getD_eq_getD_getElem?, List.getElem?_toArray, List.getElem?_cons_zero, List.getElem?_cons_succ, Option.getD_some]
              refine t_loud rfl (fun K hK => ?_) t_nil
              · go_wp2_with fail
                refine hK _ _ (fun _ => (HK3.out _ hZ4).1) ?_
                clear hK K z0 z1 zl
                try simp only [Act.put, Act.eval, List.setIfInBounds_toArray, List.set_cons_zero, List.set_cons_succ, Array.getD_eq_getD_getElem?, List.getElem?_toArray, List.getElem?_cons_zero, List.getElem?_cons_succ, Option.getD_some]
                obtain ⟨-, y0, y1, y2, y3, y4, y5, y6⟩ := HK3.out _ hZ4
                apply t_want rfl (by kernel_rfl)
                · intro w' hw'
                  obtain ⟨hwa', hwb', hwc'⟩ := hw'
                  go_simp
                  first
                  | done
                  | exact rfl
                try simp only [Act.put, Act.eval, List.setIfInBounds_toArray, List.set_cons_zero, List.set_cons_succ, Array.getD_eq_getD_getElem?, List.getElem?_toArray, List.getElem?_cons_zero, List.getElem?_cons_succ, Option.getD_some]
                refine t_loud rfl (fun K hK => ?_) t_nil
                go_wp2_with fail
                refine hK _ _ (fun _ => keep_set hxr (HK3.out _ hZ4).1 _ _ _) ?_
                clear hK K
                try simp only [Act.put, Act.eval, List.setIfInBounds_toArray, List.set_cons_zero, List.set_cons_succ, Array.getD_eq_getD_getElem?, List.getElem?_toArray, List.getElem?_cons_zero, List.getElem?_cons_succ, Option.getD_some]
                refine t_loud rfl (fun K hK => ?_) t_nil
                go_wp2_with fail
                refine hK _ _ (fun h => absurd rfl h) ?_
                clear hK K
                refine t_done ?_
                go_wp2_with fail
                have hvv : ((⟨(vL S).toArray⟩ ++ ⟨(vL E).toArray⟩ ++ ⟨(vL 1).toArray⟩ : ByteArray)) = ⟨(valW x).toArray⟩ := by
                  apply ByteArray.ext
                  unfold valW
                  rw [HSE.out.1, HSE.out.2, ← HFL.out]
                  simp
                have hkk : KY = ⟨(keyW x).toArray⟩ := HKY.out
                rw [hvv, hkk]
                refine bodyPost_ret (v := .tuple #[.agg #[.string ⟨(keyW x).toArray⟩, .string ⟨(valW x).toArray⟩, .bool false], .int .i64 0]) ?_ rfl ⟨rfl, (chain_end hZ4 HB3.out hwr _ _ _).1⟩
                exact rwrite_res _ _ rb _ _ 0 (chain_rng y0 y1 y2 _ _ _).1 rfl rfl
    | false =>
      obtain rfl : fl = 0 := HFB.out
      clear HN3
      have HN3 := Lib.hid (number14_any 0 (by decide) (by decide))
      rw [show (0 : Int).toNat = 0 from rfl] at HN3
      have hla : ¬ 9223372036854775807 < (vL S).length + (vL E).length := by omega
      have hlb : ¬ 9223372036854775807 < (vL S).length + (vL E).length + (vL 0).length := by omega
      go_upto_region 6 with fail
      refine tree_region (D := (fun w' => w'.cell? ⟨xb, 0, none⟩ = some (.int .i64 (i : Int)) ∧ w'.cell? ⟨xb, 1, none⟩ = some (.int .i64 (S : Int)) ∧ w'.cell? ⟨xb, 2, none⟩ = some (.int .i64 (E : Int)))) (.calm 0 (.calm 1 (.calm 2 (.calm 3 (.calm 6 (.calm 7 (.calm 9 (.calm 10 (.calm 11 (.calm 14 (.alt 4 (.alt 5 (.alt 8 (.alt 12 (.calm 13 (.alt 15 (.calm 16 (.calm 17 (.alt 18 (.alt 19 .done .nil) .nil))) .nil)) .nil) .nil) (.alt 8 (.alt 5 (.alt 12 (.calm 13 (.alt 15 (.calm 16 (.calm 17 (.alt 18 (.alt 19 .done .nil) .nil))) .nil)) .nil) (.alt 12 (.calm 13 (.alt 5 (.alt 15 (.calm 16 (.calm 17 (.alt 18 (.alt 19 .done .nil) .nil))) .nil) (.alt 15 (.calm 16 (.alt 5 (.calm 17 (.alt 18 (.alt 19 .done .nil) .nil)) .nil)) .nil))) .nil)) .nil)) (.alt 8 (.alt 4 (.alt 5 (.alt 12 (.calm 13 (.alt 15 (.calm 16 (.calm 17 (.alt 18 (.alt 19 .done .nil) .nil))) .nil)) .nil) (.alt 12 (.calm 13 (.alt 5 (.alt 15 (.calm 16 (.calm 17 (.alt 18 (.alt 19 .done .nil) .nil))) .nil) (.alt 15 (.calm 16 (.alt 5 (.calm 17 (.alt 18 (.alt 19 .done .nil) .nil)) .nil)) .nil))) .nil)) (.alt 12 (.calm 13 (.alt 4 (.alt 5 (.alt 15 (.calm 16 (.calm 17 (.alt 18 (.alt 19 .done .nil) .nil))) .nil) (.alt 15 (.calm 16 (.alt 5 (.calm 17 (.alt 18 (.alt 19 .done .nil) .nil)) .nil)) .nil)) (.alt 15 (.calm 16 (.alt 4 (.alt 5 (.calm 17 (.alt 18 (.alt 19 .done .nil) .nil)) .nil) .nil)) .nil))) .nil)) .nil)))))))))))) 19 (by kernel_rfl) (by kernel_rfl) (by kernel_rfl) (HK3.out _ (Below.refl _ _).drew).1 ?_
      have hZ0 : Below w3.heap.size w3 w3.drew := (Below.refl _ _).drew
      obtain ⟨W0, hW0⟩ : ∃ W, W = w3.drew := ⟨_, rfl⟩
      rw [← hW0] at hZ0 ⊢
      clear hW0
      apply t_want rfl (by kernel_rfl)
      · intro w' hw'
        obtain ⟨hwa', hwb', hwc'⟩ := hw'
        go_simp
        first
        | done
        | exact rfl
      try simp only [Act.put, Act.eval, List.setIfInBounds_toArray, List.set_cons_zero, List.set_cons_succ, Array.getD_eq_getD_getElem?, List.getElem?_toArray, List.getElem?_cons_zero, List.getElem?_cons_succ, Option.getD_some]
      apply t_want rfl (by kernel_rfl)
      · intro w' hw'
        obtain ⟨hwa', hwb', hwc'⟩ := hw'
        go_simp
        first
        | done
        | exact rfl
      try simp only [Act.put, Act.eval, List.setIfInBounds_toArray, List.set_cons_zero, List.set_cons_succ, Array.getD_eq_getD_getElem?, List.getElem?_toArray, List.getElem?_cons_zero, List.getElem?_cons_succ, Option.getD_some]
      apply t_want rfl (by kernel_rfl)
      · intro w' hw'
        obtain ⟨hwa', hwb', hwc'⟩ := hw'
        go_simp
        first
        | done
        | exact rfl
      try simp only [Act.put, Act.eval, List.setIfInBounds_toArray, List.set_cons_zero, List.set_cons_succ, Array.getD_eq_getD_getElem?, List.getElem?_toArray, List.getElem?_cons_zero, List.getElem?_cons_succ, Option.getD_some]
      apply t_want rfl (by kernel_rfl)
      · intro w' hw'
        obtain ⟨hwa', hwb', hwc'⟩ := hw'
        go_simp
        first
        | done
        | exact rfl
      try simp only [Act.put, Act.eval, List.setIfInBounds_toArray, List.set_cons_zero, List.set_cons_succ, Array.getD_eq_getD_getElem?, List.getElem?_toArray, List.getElem?_cons_zero, List.getElem?_cons_succ, Option.getD_some]
      apply t_want rfl (by kernel_rfl)
      · intro w' hw'
        obtain ⟨hwa', hwb', hwc'⟩ := hw'
        go_simp
        first
        | done
        | exact rfl
      try simp only [Act.put, Act.eval, List.setIfInBounds_toArray, List.set_cons_zero, List.set_cons_succ, Array.getD_eq_getD_getElem?, List.getElem?_toArray, List.getElem?_cons_zero, List.getElem?_cons_succ, Option.getD_some]
      apply t_want rfl (by kernel_rfl)
      · intro w' hw'
        obtain ⟨hwa', hwb', hwc'⟩ := hw'
        go_simp
        first
        | done
        | exact rfl
      try simp only [Act.put, Act.eval, List.setIfInBounds_toArray, List.set_cons_zero, List.set_cons_succ, Array.getD_eq_getD_getElem?, List.getElem?_toArray, List.getElem?_cons_zero, List.getElem?_cons_succ, Option.getD_some]
      apply t_want rfl (by kernel_rfl)
      · intro w' hw'
        obtain ⟨hwa', hwb', hwc'⟩ := hw'
        go_simp
        first
        | done
        | exact rfl
      try simp only [Act.put, Act.eval, List.setIfInBounds_toArray, List.set_cons_zero, List.set_cons_succ, Array.getD_eq_getD_getElem?, List.getElem?_toArray, List.getElem?_cons_zero, List.getElem?_cons_succ, Option.getD_some]
      apply t_want rfl (by kernel_rfl)
      · intro w' hw'
        obtain ⟨hwa', hwb', hwc'⟩ := hw'
        go_simp
        first
        | done
        | exact rfl
      try simp only [Act.put, Act.eval, List.setIfInBounds_toArray, List.set_cons_zero, List.set_cons_succ, Array.getD_eq_getD_getElem?, List.getElem?_toArray, List.getElem?_cons_zero, List.getElem?_cons_succ, Option.getD_some]
      apply t_want rfl (by kernel_rfl)
      · intro w' hw'
        obtain ⟨hwa', hwb', hwc'⟩ := hw'
        go_simp
        first
        | done
        | exact rfl
      try simp only [Act.put, Act.eval, List.setIfInBounds_toArray, List.set_cons_zero, List.set_cons_succ, Array.getD_eq_getD_getElem?, List.getElem?_toArray, List.getElem?_cons_zero, List.getElem?_cons_succ, Option.getD_some]
      refine t_move _ rfl (by kernel_rfl) rfl ?_
      try simp only [Act.put, Act.eval, List.setIfInBounds_toArray, List.set_cons_zero, List.set_cons_succ, Array.getD_eq_getD_getElem?, List.getElem?_toArray, List.getElem?_cons_zero, List.getElem?_cons_succ, Option.getD_some]
      refine t_loud rfl (fun K hK => ?_) (t_loud rfl (fun K hK => ?_) t_nil)
      · go_wp2_with fail
        obtain ⟨g, hg⟩ : ∃ g, g = W0.heap.size := ⟨_, rfl⟩
        rw [← hg]
        refine K_row hZ0 hg ?_
        intro W1 z0 z1 zl hZ1
        refine hK _ _ (fun _ => (HK3.out _ hZ1).1) ?_
        clear hK K hg hZ0
        try simp only [Act.put, Act.eval, List.setIfInBounds_toArray, List.set_cons_zero, List.set_cons_succ, Array.getD_eq_getD_getElem?, List.getElem?_toArray, List.getElem?_cons_zero, List.getElem?_cons_succ, Option.getD_some]
        refine t_loud rfl (fun K hK => ?_) (t_loud rfl (fun K hK => ?_) t_nil)
        · go_wp2_with fail
          refine hK _ _ (fun _ => (HK3.out _ hZ1).1) ?_
          clear hK K z0 z1 zl
          try simp only [Act.put, Act.eval, List.setIfInBounds_toArray, List.set_cons_zero, List.set_cons_succ, Array.getD_eq_getD_getElem?, List.getElem?_toArray, List.getElem?_cons_zero, List.getElem?_cons_succ, Option.getD_some]
          refine t_loud rfl (fun K hK => ?_) t_nil
          · go_wp2_with fail
            (with_reducible refine (HN1.out _).mono ?_)
            rintro e W2 ⟨rfl, bb⟩
            have hZ2 := bchain bb hZ1
            go_wp2_with fail
            refine hK _ _ (fun _ => (HK3.out _ hZ2).1) ?_
            clear hK K bb hZ1
            try simp only [Act.put, Act.eval, List.setIfInBounds_toArray, List.set_cons_zero, List.set_cons_succ, Array.getD_eq_getD_getElem?, List.getElem?_toArray, List.getElem?_cons_zero, List.getElem?_cons_succ, Option.getD_some]
            refine t_loud rfl (fun K hK => ?_) t_nil
            · go_wp2_with fail
              (with_reducible refine (HN2.out _).mono ?_)
              rintro e W3 ⟨rfl, bb⟩
              have hZ3 := bchain bb hZ2
              go_wp2_with fail
              refine hK _ _ (fun _ => (HK3.out _ hZ3).1) ?_
              clear hK K bb hZ2
              try simp only [Act.put, Act.eval, List.setIfInBounds_toArray, List.set_cons_zero, List.set_cons_succ, Array.getD_eq_getD_getElem?, List.getElem?_toArray, List.getElem?_cons_zero, List.getElem?_cons_succ, Option.getD_some]
              apply t_want rfl (by kernel_rfl)
              · intro w' hw'
                obtain ⟨hwa', hwb', hwc'⟩ := hw'
                go_simp
                first
                | done
                | exact rfl
              try simp only [Act.put, Act.eval, List.setIfInBounds_toArray, List.set_cons_zero, List.set_cons_succ, Array.getD_eq_getD_getElem?, List.getElem?_toArray, List.getElem?_cons_zero, List.getElem?_cons_succ, Option.getD_some]
              refine t_loud rfl (fun K hK => ?_) t_nil
              · go_wp2_with fail
                (with_reducible refine (HN3.out _).mono ?_)
                rintro e W4 ⟨rfl, bb⟩
                have hZ4 := bchain bb hZ3
                go_wp2_with fail
                refine hK _ _ (fun _ => (HK3.out _ hZ4).1) ?_
                clear hK K bb hZ3
                try simp only [Act.put, Act.eval, List.setIfInBounds_toArray, List.set_cons_zero, List.set_cons_succ, Array.getD_eq_getD_getElem?, List.getElem?_toArray, List.getElem?_cons_zero, List.getElem?_cons_succ, Option.getD_some]
                apply t_want rfl (by kernel_rfl)
                · intro w' hw'
                  obtain ⟨hwa', hwb', hwc'⟩ := hw'
                  go_simp
                  first
                  | done
                  | exact rfl
                try simp only [Act.put, Act.eval, List.setIfInBounds_toArray, List.set_cons_zero, List.set_cons_succ, Array.getD_eq_getD_getElem?, List.getElem?_toArray, List.getElem?_cons_zero, List.getElem?_cons_succ, Option.getD_some]
                obtain ⟨-, y0, y1, y2, y3, y4, y5, y6⟩ := HK3.out _ hZ4
                apply t_want rfl (by kernel_rfl)
                · intro w' hw'
                  obtain ⟨hwa', hwb', hwc'⟩ := hw'
                  go_simp
                  first
                  | done
                  | exact rfl
                try simp only [Act.put, Act.eval, List.setIfInBounds_toArray, List.set_cons_zero, List.set_cons_succ, Array.getD_eq_getD_getElem?, List.getElem?_toArray, List.getElem?_cons_zero, List.getElem?_cons_succ, Option.getD_some]
                refine t_loud rfl (fun K hK => ?_) t_nil
                go_wp2_with fail
                refine hK _ _ (fun _ => keep_set hxr (HK3.out _ hZ4).1 _ _ _) ?_
                clear hK K
                try simp only [Act.put, Act.eval, List.setIfInBounds_toArray, List.set_cons_zero, List.set_cons_succ, Array.getD_eq_getD_getElem?, List.getElem?_toArray, List.getElem?_cons_zero, List.getElem?_cons_succ, Option.getD_some]
                refine t_loud rfl (fun K hK => ?_) t_nil
                go_wp2_with fail
                refine hK _ _ (fun h => absurd rfl h) ?_
                clear hK K
                refine t_done ?_
                go_wp2_with fail
                have hvv : ((⟨(vL S).toArray⟩ ++ ⟨(vL E).toArray⟩ ++ ⟨(vL 0).toArray⟩ : ByteArray)) = ⟨(valW x).toArray⟩ := by
                  apply ByteArray.ext
                  unfold valW
                  rw [HSE.out.1, HSE.out.2, ← HFL.out]
                  simp
                have hkk : KY = ⟨(keyW x).toArray⟩ := HKY.out
                rw [hvv, hkk]
                refine bodyPost_ret (v := .tuple #[.agg #[.string ⟨(keyW x).toArray⟩, .string ⟨(valW x).toArray⟩, .bool false], .int .i64 0]) ?_ rfl ⟨rfl, (chain_end hZ4 HB3.out hwr _ _ _).1⟩
                exact rwrite_res _ _ rb _ _ 0 (chain_rng y0 y1 y2 _ _ _).1 rfl rfl
        · go_wp2_with fail
          (with_reducible refine (HN1.out _).mono ?_)
          rintro e W2 ⟨rfl, bb⟩
          have hZ2 := bchain bb hZ1
          obtain ⟨z0, z1, zl⟩ := b_nx z0 z1 zl bb
          go_wp2_with fail
          refine hK _ _ (fun _ => (HK3.out _ hZ2).1) ?_
          clear hK K bb hZ1
          try simp only [Act.put, Act.eval, List.setIfInBounds_toArray, List.set_cons_zero, List.set_cons_succ, Array.getD_eq_getD_getElem?, List.getElem?_toArray, List.getElem?_cons_zero, List.getElem?_cons_succ, Option.getD_some]
          refine t_loud rfl (fun K hK => ?_) (t_loud rfl (fun K hK => ?_) t_nil)
          · go_wp2_with fail
            refine hK _ _ (fun _ => (HK3.out _ hZ2).1) ?_
            clear hK K z0 z1 zl
            try simp only [Act.put, Act.eval, List.setIfInBounds_toArray, List.set_cons_zero, List.set_cons_succ, Array.getD_eq_getD_getElem?, List.getElem?_toArray, List.getElem?_cons_zero, List.getElem?_cons_succ, Option.getD_some]
            refine t_loud rfl (fun K hK => ?_) t_nil
            · go_wp2_with fail
              (with_reducible refine (HN2.out _).mono ?_)
              rintro e W3 ⟨rfl, bb⟩
              have hZ3 := bchain bb hZ2
              go_wp2_with fail
              refine hK _ _ (fun _ => (HK3.out _ hZ3).1) ?_
              clear hK K bb hZ2
              try simp only [Act.put, Act.eval, List.setIfInBounds_toArray, List.set_cons_zero, List.set_cons_succ, Array.getD_eq_getD_getElem?, List.getElem?_toArray, List.getElem?_cons_zero, List.getElem?_cons_succ, Option.getD_some]
              apply t_want rfl (by kernel_rfl)
              · intro w' hw'
                obtain ⟨hwa', hwb', hwc'⟩ := hw'
                go_simp
                first
                | done
                | exact rfl
              try simp only [Act.put, Act.eval, List.setIfInBounds_toArray, List.set_cons_zero, List.set_cons_succ, Array.getD_eq_getD_getElem?, List.getElem?_toArray, List.getElem?_cons_zero, List.getElem?_cons_succ, Option.getD_some]
              refine t_loud rfl (fun K hK => ?_) t_nil
              · go_wp2_with fail
                (with_reducible refine (HN3.out _).mono ?_)
                rintro e W4 ⟨rfl, bb⟩
                have hZ4 := bchain bb hZ3
                go_wp2_with fail
                refine hK _ _ (fun _ => (HK3.out _ hZ4).1) ?_
                clear hK K bb hZ3
                try simp only [Act.put, Act.eval, List.setIfInBounds_toArray, List.set_cons_zero, List.set_cons_succ, Array.getD_eq_getD_getElem?, List.getElem?_toArray, List.getElem?_cons_zero, List.getElem?_cons_succ, Option.getD_some]
                apply t_want rfl (by kernel_rfl)
                · intro w' hw'
                  obtain ⟨hwa', hwb', hwc'⟩ := hw'
                  go_simp
                  first
                  | done
                  | exact rfl
                try simp only [Act.put, Act.eval, List.setIfInBounds_toArray, List.set_cons_zero, List.set_cons_succ, Array.getD_eq_getD_getElem?, List.getElem?_toArray, List.getElem?_cons_zero, List.getElem?_cons_succ, Option.getD_some]
                obtain ⟨-, y0, y1, y2, y3, y4, y5, y6⟩ := HK3.out _ hZ4
                apply t_want rfl (by kernel_rfl)
                · intro w' hw'
                  obtain ⟨hwa', hwb', hwc'⟩ := hw'
                  go_simp
                  first
                  | done
                  | exact rfl
                try simp only [Act.put, Act.eval, List.setIfInBounds_toArray, List.set_cons_zero, List.set_cons_succ, Array.getD_eq_getD_getElem?, List.getElem?_toArray, List.getElem?_cons_zero, List.getElem?_cons_succ, Option.getD_some]
                refine t_loud rfl (fun K hK => ?_) t_nil
                go_wp2_with fail
                refine hK _ _ (fun _ => keep_set hxr (HK3.out _ hZ4).1 _ _ _) ?_
                clear hK K
                try simp only [Act.put, Act.eval, List.setIfInBounds_toArray, List.set_cons_zero, List.set_cons_succ, Array.getD_eq_getD_getElem?, List.getElem?_toArray, List.getElem?_cons_zero, List.getElem?_cons_succ, Option.getD_some]
                refine t_loud rfl (fun K hK => ?_) t_nil
                go_wp2_with fail
                refine hK _ _ (fun h => absurd rfl h) ?_
                clear hK K
                refine t_done ?_
                go_wp2_with fail
                have hvv : ((⟨(vL S).toArray⟩ ++ ⟨(vL E).toArray⟩ ++ ⟨(vL 0).toArray⟩ : ByteArray)) = ⟨(valW x).toArray⟩ := by
                  apply ByteArray.ext
                  unfold valW
                  rw [HSE.out.1, HSE.out.2, ← HFL.out]
                  simp
                have hkk : KY = ⟨(keyW x).toArray⟩ := HKY.out
                rw [hvv, hkk]
                refine bodyPost_ret (v := .tuple #[.agg #[.string ⟨(keyW x).toArray⟩, .string ⟨(valW x).toArray⟩, .bool false], .int .i64 0]) ?_ rfl ⟨rfl, (chain_end hZ4 HB3.out hwr _ _ _).1⟩
                exact rwrite_res _ _ rb _ _ 0 (chain_rng y0 y1 y2 _ _ _).1 rfl rfl
          · go_wp2_with fail
            (with_reducible refine (HN2.out _).mono ?_)
            rintro e W3 ⟨rfl, bb⟩
            have hZ3 := bchain bb hZ2
            obtain ⟨z0, z1, zl⟩ := b_nx z0 z1 zl bb
            go_wp2_with fail
            refine hK _ _ (fun _ => (HK3.out _ hZ3).1) ?_
            clear hK K bb hZ2
            try simp only [Act.put, Act.eval, List.setIfInBounds_toArray, List.set_cons_zero, List.set_cons_succ, Array.getD_eq_getD_getElem?, List.getElem?_toArray, List.getElem?_cons_zero, List.getElem?_cons_succ, Option.getD_some]
            apply t_want rfl (by kernel_rfl)
            · intro w' hw'
              obtain ⟨hwa', hwb', hwc'⟩ := hw'
              go_simp
              first
              | done
              | exact rfl
            try simp only [Act.put, Act.eval, List.setIfInBounds_toArray, List.set_cons_zero, List.set_cons_succ, Array.getD_eq_getD_getElem?, List.getElem?_toArray, List.getElem?_cons_zero, List.getElem?_cons_succ, Option.getD_some]
            refine t_loud rfl (fun K hK => ?_) (t_loud rfl (fun K hK => ?_) t_nil)
            · go_wp2_with fail
              refine hK _ _ (fun _ => (HK3.out _ hZ3).1) ?_
              clear hK K z0 z1 zl
              try simp only [Act.put, Act.eval, List.setIfInBounds_toArray, List.set_cons_zero, List.set_cons_succ, Array.getD_eq_getD_getElem?, List.getElem?_toArray, List.getElem?_cons_zero, List.getElem?_cons_succ, Option.getD_some]
              refine t_loud rfl (fun K hK => ?_) t_nil
              · go_wp2_with fail
                (with_reducible refine (HN3.out _).mono ?_)
                rintro e W4 ⟨rfl, bb⟩
                have hZ4 := bchain bb hZ3
                go_wp2_with fail
                refine hK _ _ (fun _ => (HK3.out _ hZ4).1) ?_
                clear hK K bb hZ3
                try simp only [Act.put, Act.eval, List.setIfInBounds_toArray, List.set_cons_zero, List.set_cons_succ, Array.getD_eq_getD_getElem?, List.getElem?_toArray, List.getElem?_cons_zero, List.getElem?_cons_succ, Option.getD_some]
                apply t_want rfl (by kernel_rfl)
                · intro w' hw'
                  obtain ⟨hwa', hwb', hwc'⟩ := hw'
                  go_simp
                  first
                  | done
                  | exact rfl
                try simp only [Act.put, Act.eval, List.setIfInBounds_toArray, List.set_cons_zero, List.set_cons_succ, Array.getD_eq_getD_getElem?, List.getElem?_toArray, List.getElem?_cons_zero, List.getElem?_cons_succ, Option.getD_some]
                obtain ⟨-, y0, y1, y2, y3, y4, y5, y6⟩ := HK3.out _ hZ4
                apply t_want rfl (by kernel_rfl)
                · intro w' hw'
                  obtain ⟨hwa', hwb', hwc'⟩ := hw'
                  go_simp
                  first
                  | done
                  | exact rfl
                try simp only [Act.put, Act.eval, List.setIfInBounds_toArray, List.set_cons_zero, List.set_cons_succ, Array.getD_eq_getD_getElem?, List.getElem?_toArray, List.getElem?_cons_zero, List.getElem?_cons_succ, Option.getD_some]
                refine t_loud rfl (fun K hK => ?_) t_nil
                go_wp2_with fail
                refine hK _ _ (fun _ => keep_set hxr (HK3.out _ hZ4).1 _ _ _) ?_
                clear hK K
                try simp only [Act.put, Act.eval, List.setIfInBounds_toArray, List.set_cons_zero, List.set_cons_succ, Array.getD_eq_getD_getElem?, List.getElem?_toArray, List.getElem?_cons_zero, List.getElem?_cons_succ, Option.getD_some]
                refine t_loud rfl (fun K hK => ?_) t_nil
                go_wp2_with fail
                refine hK _ _ (fun h => absurd rfl h) ?_
                clear hK K
                refine t_done ?_
                go_wp2_with fail
                have hvv : ((⟨(vL S).toArray⟩ ++ ⟨(vL E).toArray⟩ ++ ⟨(vL 0).toArray⟩ : ByteArray)) = ⟨(valW x).toArray⟩ := by
                  apply ByteArray.ext
                  unfold valW
                  rw [HSE.out.1, HSE.out.2, ← HFL.out]
                  simp
                have hkk : KY = ⟨(keyW x).toArray⟩ := HKY.out
                rw [hvv, hkk]
                refine bodyPost_ret (v := .tuple #[.agg #[.string ⟨(keyW x).toArray⟩, .string ⟨(valW x).toArray⟩, .bool false], .int .i64 0]) ?_ rfl ⟨rfl, (chain_end hZ4 HB3.out hwr _ _ _).1⟩
                exact rwrite_res _ _ rb _ _ 0 (chain_rng y0 y1 y2 _ _ _).1 rfl rfl
            · go_wp2_with fail
              (with_reducible refine (HN3.out _).mono ?_)
              rintro e W4 ⟨rfl, bb⟩
              have hZ4 := bchain bb hZ3
              obtain ⟨z0, z1, zl⟩ := b_nx z0 z1 zl bb
              go_wp2_with fail
              refine hK _ _ (fun _ => (HK3.out _ hZ4).1) ?_
              clear hK K bb hZ3
              try simp only [Act.put, Act.eval, List.setIfInBounds_toArray, List.set_cons_zero, List.set_cons_succ, Array.getD_eq_getD_getElem?, List.getElem?_toArray, List.getElem?_cons_zero, List.getElem?_cons_succ, Option.getD_some]
              apply t_want rfl (by kernel_rfl)
              · intro w' hw'
                obtain ⟨hwa', hwb', hwc'⟩ := hw'
                go_simp
                first
                | done
                | exact rfl
              try simp only [Act.put, Act.eval, List.setIfInBounds_toArray, List.set_cons_zero, List.set_cons_succ, Array.getD_eq_getD_getElem?, List.getElem?_toArray, List.getElem?_cons_zero, List.getElem?_cons_succ, Option.getD_some]
              refine t_loud rfl (fun K hK => ?_) t_nil
              · go_wp2_with fail
                refine hK _ _ (fun _ => (HK3.out _ hZ4).1) ?_
                clear hK K z0 z1 zl
                try simp only [Act.put, Act.eval, List.setIfInBounds_toArray, List.set_cons_zero, List.set_cons_succ, Array.getD_eq_getD_getElem?, List.getElem?_toArray, List.getElem?_cons_zero, List.getElem?_cons_succ, Option.getD_some]
                obtain ⟨-, y0, y1, y2, y3, y4, y5, y6⟩ := HK3.out _ hZ4
                apply t_want rfl (by kernel_rfl)
                · intro w' hw'
                  obtain ⟨hwa', hwb', hwc'⟩ := hw'
                  go_simp
                  first
                  | done
                  | exact rfl
                try simp only [Act.put, Act.eval, List.setIfInBounds_toArray, List.set_cons_zero, List.set_cons_succ, Array.getD_eq_getD_getElem?, List.getElem?_toArray, List.getElem?_cons_zero, List.getElem?_cons_succ, Option.getD_some]
                refine t_loud rfl (fun K hK => ?_) t_nil
                go_wp2_with fail
                refine hK _ _ (fun _ => keep_set hxr (HK3.out _ hZ4).1 _ _ _) ?_
                clear hK K
                try simp only [Act.put, Act.eval, List.setIfInBounds_toArray, List.set_cons_zero, List.set_cons_succ, Array.getD_eq_getD_getElem?, List.getElem?_toArray, List.getElem?_cons_zero, List.getElem?_cons_succ, Option.getD_some]
                refine t_loud rfl (fun K hK => ?_) t_nil
                go_wp2_with fail
                refine hK _ _ (fun h => absurd rfl h) ?_
                clear hK K
                refine t_done ?_
                go_wp2_with fail
                have hvv : ((⟨(vL S).toArray⟩ ++ ⟨(vL E).toArray⟩ ++ ⟨(vL 0).toArray⟩ : ByteArray)) = ⟨(valW x).toArray⟩ := by
                  apply ByteArray.ext
                  unfold valW
                  rw [HSE.out.1, HSE.out.2, ← HFL.out]
                  simp
                have hkk : KY = ⟨(keyW x).toArray⟩ := HKY.out
                rw [hvv, hkk]
                refine bodyPost_ret (v := .tuple #[.agg #[.string ⟨(keyW x).toArray⟩, .string ⟨(valW x).toArray⟩, .bool false], .int .i64 0]) ?_ rfl ⟨rfl, (chain_end hZ4 HB3.out hwr _ _ _).1⟩
                exact rwrite_res _ _ rb _ _ 0 (chain_rng y0 y1 y2 _ _ _).1 rfl rfl
      · go_wp2_with fail
        (with_reducible refine (HN1.out _).mono ?_)
        rintro e W1 ⟨rfl, bb⟩
        have hZ1 := bchain bb hZ0
        go_wp2_with fail
        refine hK _ _ (fun _ => (HK3.out _ hZ1).1) ?_
        clear hK K bb hZ0
        try simp only [Act.put, Act.eval, List.setIfInBounds_toArray, List.set_cons_zero, List.set_cons_succ, Array.getD_eq_getD_getElem?, List.getElem?_toArray, List.getElem?_cons_zero, List.getElem?_cons_succ, Option.getD_some]
        refine t_loud rfl (fun K hK => ?_) (t_loud rfl (fun K hK => ?_) t_nil)
        · go_wp2_with fail
          obtain ⟨g, hg⟩ : ∃ g, g = W1.heap.size := ⟨_, rfl⟩
          rw [← hg]
          refine K_row hZ1 hg ?_
          intro W2 z0 z1 zl hZ2
          refine hK _ _ (fun _ => (HK3.out _ hZ2).1) ?_
          clear hK K hg hZ1
          try simp only [Act.put, Act.eval, List.setIfInBounds_toArray, List.set_cons_zero, List.set_cons_succ, Array.getD_eq_getD_getElem?, List.getElem?_toArray, List.getElem?_cons_zero, List.getElem?_cons_succ, Option.getD_some]
          refine t_loud rfl (fun K hK => ?_) (t_loud rfl (fun K hK => ?_) t_nil)
          · go_wp2_with fail
            refine hK _ _ (fun _ => (HK3.out _ hZ2).1) ?_
            clear hK K z0 z1 zl
            try simp only [Act.put, Act.eval, List.setIfInBounds_toArray, List.set_cons_zero, List.set_cons_succ, Array.getD_eq_getD_getElem?, List.getElem?_toArray, List.getElem?_cons_zero, List.getElem?_cons_succ, Option.getD_some]
            refine t_loud rfl (fun K hK => ?_) t_nil
            · go_wp2_with fail
              (with_reducible refine (HN2.out _).mono ?_)
              rintro e W3 ⟨rfl, bb⟩
              have hZ3 := bchain bb hZ2
              go_wp2_with fail
              refine hK _ _ (fun _ => (HK3.out _ hZ3).1) ?_
              clear hK K bb hZ2
              try simp only [Act.put, Act.eval, List.setIfInBounds_toArray, List.set_cons_zero, List.set_cons_succ, Array.getD_eq_getD_getElem?, List.getElem?_toArray, List.getElem?_cons_zero, List.getElem?_cons_succ, Option.getD_some]
              apply t_want rfl (by kernel_rfl)
              · intro w' hw'
                obtain ⟨hwa', hwb', hwc'⟩ := hw'
                go_simp
                first
                | done
                | exact rfl
              try simp only [Act.put, Act.eval, List.setIfInBounds_toArray, List.set_cons_zero, List.set_cons_succ, Array.getD_eq_getD_getElem?, List.getElem?_toArray, List.getElem?_cons_zero, List.getElem?_cons_succ, Option.getD_some]
              refine t_loud rfl (fun K hK => ?_) t_nil
              · go_wp2_with fail
                (with_reducible refine (HN3.out _).mono ?_)
                rintro e W4 ⟨rfl, bb⟩
                have hZ4 := bchain bb hZ3
                go_wp2_with fail
                refine hK _ _ (fun _ => (HK3.out _ hZ4).1) ?_
                clear hK K bb hZ3
                try simp only [Act.put, Act.eval, List.setIfInBounds_toArray, List.set_cons_zero, List.set_cons_succ, Array.getD_eq_getD_getElem?, List.getElem?_toArray, List.getElem?_cons_zero, List.getElem?_cons_succ, Option.getD_some]
                apply t_want rfl (by kernel_rfl)
                · intro w' hw'
                  obtain ⟨hwa', hwb', hwc'⟩ := hw'
                  go_simp
                  first
                  | done
                  | exact rfl
                try simp only [Act.put, Act.eval, List.setIfInBounds_toArray, List.set_cons_zero, List.set_cons_succ, Array.getD_eq_getD_getElem?, List.getElem?_toArray, List.getElem?_cons_zero, List.getElem?_cons_succ, Option.getD_some]
                obtain ⟨-, y0, y1, y2, y3, y4, y5, y6⟩ := HK3.out _ hZ4
                apply t_want rfl (by kernel_rfl)
                · intro w' hw'
                  obtain ⟨hwa', hwb', hwc'⟩ := hw'
                  go_simp
                  first
                  | done
                  | exact rfl
                try simp only [Act.put, Act.eval, List.setIfInBounds_toArray, List.set_cons_zero, List.set_cons_succ, Array.getD_eq_getD_getElem?, List.getElem?_toArray, List.getElem?_cons_zero, List.getElem?_cons_succ, Option.getD_some]
                refine t_loud rfl (fun K hK => ?_) t_nil
                go_wp2_with fail
                refine hK _ _ (fun _ => keep_set hxr (HK3.out _ hZ4).1 _ _ _) ?_
                clear hK K
                try simp only [Act.put, Act.eval, List.setIfInBounds_toArray, List.set_cons_zero, List.set_cons_succ, Array.getD_eq_getD_getElem?, List.getElem?_toArray, List.getElem?_cons_zero, List.getElem?_cons_succ, Option.getD_some]
                refine t_loud rfl (fun K hK => ?_) t_nil
                go_wp2_with fail
                refine hK _ _ (fun h => absurd rfl h) ?_
                clear hK K
                refine t_done ?_
                go_wp2_with fail
                have hvv : ((⟨(vL S).toArray⟩ ++ ⟨(vL E).toArray⟩ ++ ⟨(vL 0).toArray⟩ : ByteArray)) = ⟨(valW x).toArray⟩ := by
                  apply ByteArray.ext
                  unfold valW
                  rw [HSE.out.1, HSE.out.2, ← HFL.out]
                  simp
                have hkk : KY = ⟨(keyW x).toArray⟩ := HKY.out
                rw [hvv, hkk]
                refine bodyPost_ret (v := .tuple #[.agg #[.string ⟨(keyW x).toArray⟩, .string ⟨(valW x).toArray⟩, .bool false], .int .i64 0]) ?_ rfl ⟨rfl, (chain_end hZ4 HB3.out hwr _ _ _).1⟩
                exact rwrite_res _ _ rb _ _ 0 (chain_rng y0 y1 y2 _ _ _).1 rfl rfl
          · go_wp2_with fail
            (with_reducible refine (HN2.out _).mono ?_)
            rintro e W3 ⟨rfl, bb⟩
            have hZ3 := bchain bb hZ2
            obtain ⟨z0, z1, zl⟩ := b_nx z0 z1 zl bb
            go_wp2_with fail
            refine hK _ _ (fun _ => (HK3.out _ hZ3).1) ?_
            clear hK K bb hZ2
            try simp only [Act.put, Act.eval, List.setIfInBounds_toArray, List.set_cons_zero, List.set_cons_succ, Array.getD_eq_getD_getElem?, List.getElem?_toArray, List.getElem?_cons_zero, List.getElem?_cons_succ, Option.getD_some]
            apply t_want rfl (by kernel_rfl)
            · intro w' hw'
              obtain ⟨hwa', hwb', hwc'⟩ := hw'
              go_simp
              first
              | done
              | exact rfl
            try simp only [Act.put, Act.eval, List.setIfInBounds_toArray, List.set_cons_zero, List.set_cons_succ, Array.getD_eq_getD_getElem?, List.getElem?_toArray, List.getElem?_cons_zero, List.getElem?_cons_succ, Option.getD_some]
            refine t_loud rfl (fun K hK => ?_) (t_loud rfl (fun K hK => ?_) t_nil)
            · go_wp2_with fail
              refine hK _ _ (fun _ => (HK3.out _ hZ3).1) ?_
              clear hK K z0 z1 zl
              try simp only [Act.put, Act.eval, List.setIfInBounds_toArray, List.set_cons_zero, List.set_cons_succ, Array.getD_eq_getD_getElem?, List.getElem?_toArray, List.getElem?_cons_zero, List.getElem?_cons_succ, Option.getD_some]
              refine t_loud rfl (fun K hK => ?_) t_nil
              · go_wp2_with fail
                (with_reducible refine (HN3.out _).mono ?_)
                rintro e W4 ⟨rfl, bb⟩
                have hZ4 := bchain bb hZ3
                go_wp2_with fail
                refine hK _ _ (fun _ => (HK3.out _ hZ4).1) ?_
                clear hK K bb hZ3
                try simp only [Act.put, Act.eval, List.setIfInBounds_toArray, List.set_cons_zero, List.set_cons_succ, Array.getD_eq_getD_getElem?, List.getElem?_toArray, List.getElem?_cons_zero, List.getElem?_cons_succ, Option.getD_some]
                apply t_want rfl (by kernel_rfl)
                · intro w' hw'
                  obtain ⟨hwa', hwb', hwc'⟩ := hw'
                  go_simp
                  first
                  | done
                  | exact rfl
                try simp only [Act.put, Act.eval, List.setIfInBounds_toArray, List.set_cons_zero, List.set_cons_succ, Array.getD_eq_getD_getElem?, List.getElem?_toArray, List.getElem?_cons_zero, List.getElem?_cons_succ, Option.getD_some]
                obtain ⟨-, y0, y1, y2, y3, y4, y5, y6⟩ := HK3.out _ hZ4
                apply t_want rfl (by kernel_rfl)
                · intro w' hw'
                  obtain ⟨hwa', hwb', hwc'⟩ := hw'
                  go_simp
                  first
                  | done
                  | exact rfl
                try simp only [Act.put, Act.eval, List.setIfInBounds_toArray, List.set_cons_zero, List.set_cons_succ, Array.getD_eq_getD_getElem?, List.getElem?_toArray, List.getElem?_cons_zero, List.getElem?_cons_succ, Option.getD_some]
                refine t_loud rfl (fun K hK => ?_) t_nil
                go_wp2_with fail
                refine hK _ _ (fun _ => keep_set hxr (HK3.out _ hZ4).1 _ _ _) ?_
                clear hK K
                try simp only [Act.put, Act.eval, List.setIfInBounds_toArray, List.set_cons_zero, List.set_cons_succ, Array.getD_eq_getD_getElem?, List.getElem?_toArray, List.getElem?_cons_zero, List.getElem?_cons_succ, Option.getD_some]
                refine t_loud rfl (fun K hK => ?_) t_nil
                go_wp2_with fail
                refine hK _ _ (fun h => absurd rfl h) ?_
                clear hK K
                refine t_done ?_
                go_wp2_with fail
                have hvv : ((⟨(vL S).toArray⟩ ++ ⟨(vL E).toArray⟩ ++ ⟨(vL 0).toArray⟩ : ByteArray)) = ⟨(valW x).toArray⟩ := by
                  apply ByteArray.ext
                  unfold valW
                  rw [HSE.out.1, HSE.out.2, ← HFL.out]
                  simp
                have hkk : KY = ⟨(keyW x).toArray⟩ := HKY.out
                rw [hvv, hkk]
                refine bodyPost_ret (v := .tuple #[.agg #[.string ⟨(keyW x).toArray⟩, .string ⟨(valW x).toArray⟩, .bool false], .int .i64 0]) ?_ rfl ⟨rfl, (chain_end hZ4 HB3.out hwr _ _ _).1⟩
                exact rwrite_res _ _ rb _ _ 0 (chain_rng y0 y1 y2 _ _ _).1 rfl rfl
            · go_wp2_with fail
              (with_reducible refine (HN3.out _).mono ?_)
              rintro e W4 ⟨rfl, bb⟩
              have hZ4 := bchain bb hZ3
              obtain ⟨z0, z1, zl⟩ := b_nx z0 z1 zl bb
              go_wp2_with fail
              refine hK _ _ (fun _ => (HK3.out _ hZ4).1) ?_
              clear hK K bb hZ3
              try simp only [Act.put, Act.eval, List.setIfInBounds_toArray, List.set_cons_zero, List.set_cons_succ, Array.getD_eq_getD_getElem?, List.getElem?_toArray, List.getElem?_cons_zero, List.getElem?_cons_succ, Option.getD_some]
              apply t_want rfl (by kernel_rfl)
              · intro w' hw'
                obtain ⟨hwa', hwb', hwc'⟩ := hw'
                go_simp
                first
                | done
                | exact rfl
              try simp only [Act.put, Act.eval, List.setIfInBounds_toArray, List.set_cons_zero, List.set_cons_succ, Array.getD_eq_getD_getElem?, List.getElem?_toArray, List.getElem?_cons_zero, List.getElem?_cons_succ, Option.getD_some]
              refine t_loud rfl (fun K hK => ?_) t_nil
              · go_wp2_with fail
                refine hK _ _ (fun _ => (HK3.out _ hZ4).1) ?_
                clear hK K z0 z1 zl
                try simp only [Act.put, Act.eval, List.setIfInBounds_toArray, List.set_cons_zero, List.set_cons_succ, Array.getD_eq_getD_getElem?, List.getElem?_toArray, List.getElem?_cons_zero, List.getElem?_cons_succ, Option.getD_some]
                obtain ⟨-, y0, y1, y2, y3, y4, y5, y6⟩ := HK3.out _ hZ4
                apply t_want rfl (by kernel_rfl)
                · intro w' hw'
                  obtain ⟨hwa', hwb', hwc'⟩ := hw'
                  go_simp
                  first
                  | done
                  | exact rfl
                try simp only [Act.put, Act.eval, List.setIfInBounds_toArray, List.set_cons_zero, List.set_cons_succ, Array.getD_eq_getD_getElem?, List.getElem?_toArray, List.getElem?_cons_zero, List.getElem?_cons_succ, Option.getD_some]
                refine t_loud rfl (fun K hK => ?_) t_nil
                go_wp2_with fail
                refine hK _ _ (fun _ => keep_set hxr (HK3.out _ hZ4).1 _ _ _) ?_
                clear hK K
                try simp only [Act.put, Act.eval, List.setIfInBounds_toArray, List.set_cons_zero, List.set_cons_succ, Array.getD_eq_getD_getElem?, List.getElem?_toArray, List.getElem?_cons_zero, List.getElem?_cons_succ, Option.getD_some]
                refine t_loud rfl (fun K hK => ?_) t_nil
                go_wp2_with fail
                refine hK _ _ (fun h => absurd rfl h) ?_
                clear hK K
                refine t_done ?_
                go_wp2_with fail
                have hvv : ((⟨(vL S).toArray⟩ ++ ⟨(vL E).toArray⟩ ++ ⟨(vL 0).toArray⟩ : ByteArray)) = ⟨(valW x).toArray⟩ := by
                  apply ByteArray.ext
                  unfold valW
                  rw [HSE.out.1, HSE.out.2, ← HFL.out]
                  simp
                have hkk : KY = ⟨(keyW x).toArray⟩ := HKY.out
                rw [hvv, hkk]
                refine bodyPost_ret (v := .tuple #[.agg #[.string ⟨(keyW x).toArray⟩, .string ⟨(valW x).toArray⟩, .bool false], .int .i64 0]) ?_ rfl ⟨rfl, (chain_end hZ4 HB3.out hwr _ _ _).1⟩
                exact rwrite_res _ _ rb _ _ 0 (chain_rng y0 y1 y2 _ _ _).1 rfl rfl
        · go_wp2_with fail
          (with_reducible refine (HN2.out _).mono ?_)
          rintro e W2 ⟨rfl, bb⟩
          have hZ2 := bchain bb hZ1
          go_wp2_with fail
          refine hK _ _ (fun _ => (HK3.out _ hZ2).1) ?_
          clear hK K bb hZ1
          try simp only [Act.put, Act.eval, List.setIfInBounds_toArray, List.set_cons_zero, List.set_cons_succ, Array.getD_eq_getD_getElem?, List.getElem?_toArray, List.getElem?_cons_zero, List.getElem?_cons_succ, Option.getD_some]
          apply t_want rfl (by kernel_rfl)
          · intro w' hw'
            obtain ⟨hwa', hwb', hwc'⟩ := hw'
            go_simp
            first
            | done
            | exact rfl
          try simp only [Act.put, Act.eval, List.setIfInBounds_toArray, List.set_cons_zero, List.set_cons_succ, Array.getD_eq_getD_getElem?, List.getElem?_toArray, List.getElem?_cons_zero, List.getElem?_cons_succ, Option.getD_some]
          refine t_loud rfl (fun K hK => ?_) (t_loud rfl (fun K hK => ?_) t_nil)
          · go_wp2_with fail
            obtain ⟨g, hg⟩ : ∃ g, g = W2.heap.size := ⟨_, rfl⟩
            rw [← hg]
            refine K_row hZ2 hg ?_
            intro W3 z0 z1 zl hZ3
            refine hK _ _ (fun _ => (HK3.out _ hZ3).1) ?_
            clear hK K hg hZ2
            try simp only [Act.put, Act.eval, List.setIfInBounds_toArray, List.set_cons_zero, List.set_cons_succ, Array.getD_eq_getD_getElem?, List.getElem?_toArray, List.getElem?_cons_zero, List.getElem?_cons_succ, Option.getD_some]
            refine t_loud rfl (fun K hK => ?_) (t_loud rfl (fun K hK => ?_) t_nil)
            · go_wp2_with fail
              refine hK _ _ (fun _ => (HK3.out _ hZ3).1) ?_
              clear hK K z0 z1 zl
              try simp only [Act.put, Act.eval, List.setIfInBounds_toArray, List.set_cons_zero, List.set_cons_succ, Array.getD_eq_getD_getElem?, List.getElem?_toArray, List.getElem?_cons_zero, List.getElem?_cons_succ, Option.getD_some]
              refine t_loud rfl (fun K hK => ?_) t_nil
              · go_wp2_with fail
                (with_reducible refine (HN3.out _).mono ?_)
                rintro e W4 ⟨rfl, bb⟩
                have hZ4 := bchain bb hZ3
                go_wp2_with fail
                refine hK _ _ (fun _ => (HK3.out _ hZ4).1) ?_
                clear hK K bb hZ3
                try simp only [Act.put, Act.eval, List.setIfInBounds_toArray, List.set_cons_zero, List.set_cons_succ, Array.getD_eq_getD_getElem?, List.getElem?_toArray, List.getElem?_cons_zero, List.getElem?_cons_succ, Option.getD_some]
                apply t_want rfl (by kernel_rfl)
                · intro w' hw'
                  obtain ⟨hwa', hwb', hwc'⟩ := hw'
                  go_simp
                  first
                  | done
                  | exact rfl
                try simp only [Act.put, Act.eval, List.setIfInBounds_toArray, List.set_cons_zero, List.set_cons_succ, Array.getD_eq_getD_getElem?, List.getElem?_toArray, List.getElem?_cons_zero, List.getElem?_cons_succ, Option.getD_some]
                obtain ⟨-, y0, y1, y2, y3, y4, y5, y6⟩ := HK3.out _ hZ4
                apply t_want rfl (by kernel_rfl)
                · intro w' hw'
                  obtain ⟨hwa', hwb', hwc'⟩ := hw'
                  go_simp
                  first
                  | done
                  | exact rfl
                try simp only [Act.put, Act.eval, List.setIfInBounds_toArray, List.set_cons_zero, List.set_cons_succ, Array.getD_eq_getD_getElem?, List.getElem?_toArray, List.getElem?_cons_zero, List.getElem?_cons_succ, Option.getD_some]
                refine t_loud rfl (fun K hK => ?_) t_nil
                go_wp2_with fail
                refine hK _ _ (fun _ => keep_set hxr (HK3.out _ hZ4).1 _ _ _) ?_
                clear hK K
                try simp only [Act.put, Act.eval, List.setIfInBounds_toArray, List.set_cons_zero, List.set_cons_succ, Array.getD_eq_getD_getElem?, List.getElem?_toArray, List.getElem?_cons_zero, List.getElem?_cons_succ, Option.getD_some]
                refine t_loud rfl (fun K hK => ?_) t_nil
                go_wp2_with fail
                refine hK _ _ (fun h => absurd rfl h) ?_
                clear hK K
                refine t_done ?_
                go_wp2_with fail
                have hvv : ((⟨(vL S).toArray⟩ ++ ⟨(vL E).toArray⟩ ++ ⟨(vL 0).toArray⟩ : ByteArray)) = ⟨(valW x).toArray⟩ := by
                  apply ByteArray.ext
                  unfold valW
                  rw [HSE.out.1, HSE.out.2, ← HFL.out]
                  simp
                have hkk : KY = ⟨(keyW x).toArray⟩ := HKY.out
                rw [hvv, hkk]
                refine bodyPost_ret (v := .tuple #[.agg #[.string ⟨(keyW x).toArray⟩, .string ⟨(valW x).toArray⟩, .bool false], .int .i64 0]) ?_ rfl ⟨rfl, (chain_end hZ4 HB3.out hwr _ _ _).1⟩
                exact rwrite_res _ _ rb _ _ 0 (chain_rng y0 y1 y2 _ _ _).1 rfl rfl
            · go_wp2_with fail
              (with_reducible refine (HN3.out _).mono ?_)
              rintro e W4 ⟨rfl, bb⟩
              have hZ4 := bchain bb hZ3
              obtain ⟨z0, z1, zl⟩ := b_nx z0 z1 zl bb
              go_wp2_with fail
              refine hK _ _ (fun _ => (HK3.out _ hZ4).1) ?_
              clear hK K bb hZ3
              try simp only [Act.put, Act.eval, List.setIfInBounds_toArray, List.set_cons_zero, List.set_cons_succ, Array.getD_eq_getD_getElem?, List.getElem?_toArray, List.getElem?_cons_zero, List.getElem?_cons_succ, Option.getD_some]
              apply t_want rfl (by kernel_rfl)
              · intro w' hw'
                obtain ⟨hwa', hwb', hwc'⟩ := hw'
                go_simp
                first
                | done
                | exact rfl
              try simp only [Act.put, Act.eval, List.setIfInBounds_toArray, List.set_cons_zero, List.set_cons_succ, Array.getD_eq_getD_getElem?, List.getElem?_toArray, List.getElem?_cons_zero, List.getElem?_cons_succ, Option.getD_some]
              refine t_loud rfl (fun K hK => ?_) t_nil
              · go_wp2_with fail
                refine hK _ _ (fun _ => (HK3.out _ hZ4).1) ?_
                clear hK K z0 z1 zl
                try simp only [Act.put, Act.eval, List.setIfInBounds_toArray, List.set_cons_zero, List.set_cons_succ, Array.getD_eq_getD_getElem?, List.getElem?_toArray, List.getElem?_cons_zero, List.getElem?_cons_succ, Option.getD_some]
                obtain ⟨-, y0, y1, y2, y3, y4, y5, y6⟩ := HK3.out _ hZ4
                apply t_want rfl (by kernel_rfl)
                · intro w' hw'
                  obtain ⟨hwa', hwb', hwc'⟩ := hw'
                  go_simp
                  first
                  | done
                  | exact rfl
                try simp only [Act.put, Act.eval, List.setIfInBounds_toArray, List.set_cons_zero, List.set_cons_succ, Array.getD_eq_getD_getElem?, List.getElem?_toArray, List.getElem?_cons_zero, List.getElem?_cons_succ, Option.getD_some]
                refine t_loud rfl (fun K hK => ?_) t_nil
                go_wp2_with fail
                refine hK _ _ (fun _ => keep_set hxr (HK3.out _ hZ4).1 _ _ _) ?_
                clear hK K
                try simp only [Act.put, Act.eval, List.setIfInBounds_toArray, List.set_cons_zero, List.set_cons_succ, Array.getD_eq_getD_getElem?, List.getElem?_toArray, List.getElem?_cons_zero, List.getElem?_cons_succ, Option.getD_some]
                refine t_loud rfl (fun K hK => ?_) t_nil
                go_wp2_with fail
                refine hK _ _ (fun h => absurd rfl h) ?_
                clear hK K
                refine t_done ?_
                go_wp2_with fail
                have hvv : ((⟨(vL S).toArray⟩ ++ ⟨(vL E).toArray⟩ ++ ⟨(vL 0).toArray⟩ : ByteArray)) = ⟨(valW x).toArray⟩ := by
                  apply ByteArray.ext
                  unfold valW
                  rw [HSE.out.1, HSE.out.2, ← HFL.out]
                  simp
                have hkk : KY = ⟨(keyW x).toArray⟩ := HKY.out
                rw [hvv, hkk]
                refine bodyPost_ret (v := .tuple #[.agg #[.string ⟨(keyW x).toArray⟩, .string ⟨(valW x).toArray⟩, .bool false], .int .i64 0]) ?_ rfl ⟨rfl, (chain_end hZ4 HB3.out hwr _ _ _).1⟩
                exact rwrite_res _ _ rb _ _ 0 (chain_rng y0 y1 y2 _ _ _).1 rfl rfl
          · go_wp2_with fail
            (with_reducible refine (HN3.out _).mono ?_)
            rintro e W3 ⟨rfl, bb⟩
            have hZ3 := bchain bb hZ2
            go_wp2_with fail
            refine hK _ _ (fun _ => (HK3.out _ hZ3).1) ?_
            clear hK K bb hZ2
            try simp only [Act.put, Act.eval, List.setIfInBounds_toArray, List.set_cons_zero, List.set_cons_succ, Array.getD_eq_getD_getElem?, List.getElem?_toArray, List.getElem?_cons_zero, List.getElem?_cons_succ, Option.getD_some]
            apply t_want rfl (by kernel_rfl)
            · intro w' hw'
              obtain ⟨hwa', hwb', hwc'⟩ := hw'
              go_simp
              first
              | done
              | exact rfl
            try simp only [Act.put, Act.eval, List.setIfInBounds_toArray, List.set_cons_zero, List.set_cons_succ, Array.getD_eq_getD_getElem?, List.getElem?_toArray, List.getElem?_cons_zero, List.getElem?_cons_succ, Option.getD_some]
            refine t_loud rfl (fun K hK => ?_) t_nil
            · go_wp2_with fail
              obtain ⟨g, hg⟩ : ∃ g, g = W3.heap.size := ⟨_, rfl⟩
              rw [← hg]
              refine K_row hZ3 hg ?_
              intro W4 z0 z1 zl hZ4
              refine hK _ _ (fun _ => (HK3.out _ hZ4).1) ?_
              clear hK K hg hZ3
              try simp only [Act.put, Act.eval, List.setIfInBounds_toArray, List.set_cons_zero, List.set_cons_succ, Array.getD_eq_getD_getElem?, List.getElem?_toArray, List.getElem?_cons_zero, List.getElem?_cons_succ, Option.getD_some]
              refine t_loud rfl (fun K hK => ?_) t_nil
              · go_wp2_with fail
                refine hK _ _ (fun _ => (HK3.out _ hZ4).1) ?_
                clear hK K z0 z1 zl
                try simp only [Act.put, Act.eval, List.setIfInBounds_toArray, List.set_cons_zero, List.set_cons_succ, Array.getD_eq_getD_getElem?, List.getElem?_toArray, List.getElem?_cons_zero, List.getElem?_cons_succ, Option.getD_some]
                obtain ⟨-, y0, y1, y2, y3, y4, y5, y6⟩ := HK3.out _ hZ4
                apply t_want rfl (by kernel_rfl)
                · intro w' hw'
                  obtain ⟨hwa', hwb', hwc'⟩ := hw'
                  go_simp
                  first
                  | done
                  | exact rfl
                try simp only [Act.put, Act.eval, List.setIfInBounds_toArray, List.set_cons_zero, List.set_cons_succ, Array.getD_eq_getD_getElem?, List.getElem?_toArray, List.getElem?_cons_zero, List.getElem?_cons_succ, Option.getD_some]
                refine t_loud rfl (fun K hK => ?_) t_nil
                go_wp2_with fail
                refine hK _ _ (fun _ => keep_set hxr (HK3.out _ hZ4).1 _ _ _) ?_
                clear hK K
                try simp only [Act.put, Act.eval, List.setIfInBounds_toArray, List.set_cons_zero, List.set_cons_succ, Array.getD_eq_getD_getElem?, List.getElem?_toArray, List.getElem?_cons_zero, List.getElem?_cons_succ, Option.getD_some]
                refine t_loud rfl (fun K hK => ?_) t_nil
                go_wp2_with fail
                refine hK _ _ (fun h => absurd rfl h) ?_
                clear hK K
                refine t_done ?_
                go_wp2_with fail
                have hvv : ((⟨(vL S).toArray⟩ ++ ⟨(vL E).toArray⟩ ++ ⟨(vL 0).toArray⟩ : ByteArray)) = ⟨(valW x).toArray⟩ := by
                  apply ByteArray.ext
                  unfold valW
                  rw [HSE.out.1, HSE.out.2, ← HFL.out]
                  simp
                have hkk : KY = ⟨(keyW x).toArray⟩ := HKY.out
                rw [hvv, hkk]
                refine bodyPost_ret (v := .tuple #[.agg #[.string ⟨(keyW x).toArray⟩, .string ⟨(valW x).toArray⟩, .bool false], .int .i64 0]) ?_ rfl ⟨rfl, (chain_end hZ4 HB3.out hwr _ _ _).1⟩
                exact rwrite_res _ _ rb _ _ 0 (chain_rng y0 y1 y2 _ _ _).1 rfl rfl
end Go.Proofs.Ytemaonfgledcmaa
