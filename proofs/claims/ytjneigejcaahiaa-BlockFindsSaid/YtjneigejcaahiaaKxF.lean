/-
  Layer 9 (block): the walk of the law BlockFinds. Conditions: texts within the reach.
-/
import Derived.Test.YtjneigejcaahiaaKxB
import Derived.Test.YtjneigejcaahiaaKk
namespace Go.Proofs.Ytjneigejcaahiaa
open Go.RowKit
set_option linter.unusedVariables false
set_option linter.unusedSimpArgs false

/-- What Find answers, part by part. -/
theorem fnd_parts (o : Option Ent) : ∃ (k v : ByteArray) (g : Bool) (q : Int) (ok : Bool), fnd o = .tuple #[.agg #[.string k, .string v, .bool g, .int .i64 q], .bool ok] ∧ ((∃ e, o = some e ∧ ok = true ∧ q = e.2.2.2) ∨ (o = none ∧ ok = false ∧ q = 0)) := by
  cases o with
  | none => exact ⟨_, _, _, _, _, rfl, .inr ⟨rfl, rfl, rfl⟩⟩
  | some e =>
    obtain ⟨k, v, g, q⟩ := e
    exact ⟨_, _, _, _, _, rfl, .inl ⟨_, rfl, rfl, rfl⟩⟩
theorem top_snoc (key : ByteArray) (at_ : Int) (M : List Ent) (k : Nat) (h : k < M.length) : (M.take (k + 1)).foldl (topE key at_) 0 = topE key at_ ((M.take k).foldl (topE key at_) 0) M[k] := by
  rw [List.take_succ_eq_append_getElem h, List.foldl_append]
  rfl
set_option maxRecDepth 100000 in
set_option maxHeartbeats 8000000 in
theorem walk_BlockFinds (a : Option Addr) (cap : Nat) (es : List Ent) (key : ByteArray) (hkey : key.size ≤ 140737488351232) (at_ : Int) (hat : (Lit.int .i64 at_).wf = true) (w : World) (h : RdE w a es) (hok : okV es) (hl : es.length ≤ maxLen) :
    Calls Try.prog 6 #[.slice a es.length cap, .string key, .int .i64 at_] w fun e w' => e = .returned (.bool true) ∧ Below w.heap.size w w' := by
  unfold maxLen at hl
  obtain ⟨n, hn⟩ : ∃ n, es.length = n := ⟨_, rfl⟩
  rw [hn] at hl ⊢
  obtain ⟨r, hr⟩ : ∃ r, liteB es = r := ⟨_, rfl⟩
  have HLi := Lib.hid (light_any a n cap es w (by omega) hn h hok r hr)
  have HAw := Lib.hid fun w => awake9_any w
  have HRd := Lib.hid h
  cases r with
  | false =>
    clear hr hn h hok
    go_enter Try.func6, Try.ntmps6
    go_wp2_with fail
    refine HLi.out.mono ?_
    rintro e w1 ⟨rfl, b1⟩
    go_wp2_with fail
    refine (HAw.out _).mono ?_
    rintro e w2 ⟨rfl, b2⟩
    go_wp2
    go_ret
    exact ⟨rfl, bt b1 b2⟩
  | true =>
    by_cases h4 : 100 < key.size
    · have h4i : (100 : Int) < (key.size : Int) := by omega
      clear hr hn h hok
      go_enter Try.func6, Try.ntmps6
      go_wp2_with fail
      refine HLi.out.mono ?_
      rintro e w1 ⟨rfl, b1⟩
      go_wp2_with fail
      refine (HAw.out _).mono ?_
      rintro e w2 ⟨rfl, b2⟩
      go_wp2
      go_ret
      exact ⟨rfl, bt b1 b2⟩
    · have h4i : (key.size : Int) ≤ 100 := by omega
      have hmk := made_ok es
      obtain ⟨M, hM⟩ : ∃ M, M = madeE es := ⟨_, rfl⟩
      have HMa := Lib.hid fun w h => made_any a n cap es w (by omega) hn h hok
      rw [← hM] at hmk HMa
      have hmV := okB_okV hmk.1
      have HM60 := Lib.hid hmk.2
      have hch : chainE zE M = true := by
        have := hmk.1
        unfold okB at this
        simp only [Bool.and_eq_true, decide_eq_true_eq] at this
        exact this.2
      have hfb : FB M key at_ = findB M key at_ := by unfold FB; rw [hmk.1]; rfl
      have htop := top_find (key := key) (at_ := at_) hch
      obtain ⟨o1, ho1⟩ : ∃ o, o = FB M key at_ := ⟨_, rfl⟩
      obtain ⟨o2, ho2⟩ : ∃ o, o = FB es key at_ := ⟨_, rfl⟩
      have HF1 := Lib.hid fun (b : Option Addr) (k c : Nat) (w : World) (hk : M.length = k) (h : RdE w b M) => find9_any b k c M key at_ w (by have := HM60.out; omega) hk h hmV
      have HF2 := Lib.hid fun (b : Option Addr) (k c : Nat) (w : World) (hk : M.length = k) (h : RdE w b M) => rfind9_any b k c M key at_ w (by have := HM60.out; omega) hk h hmV
      have HF3 := Lib.hid fun w h => find9_any a n cap es key at_ w (by omega) hn h hok
      have HF4 := Lib.hid fun w h => rfind9_any a n cap es key at_ w (by omega) hn h hok
      rw [← ho1] at HF1 HF2
      rw [← ho2] at HF3 HF4
      obtain ⟨k1, v1, g1, q1, ok1, hp1, hc1⟩ := fnd_parts o1
      obtain ⟨k2, v2, g2, q2, ok2, hp2, _⟩ := fnd_parts o2
      rw [hp1] at HF1 HF2
      rw [hp2] at HF3 HF4
      have HEnd : Hid ((ok1 = true ∧ 0 < q1 ∧ M.foldl (topE key at_) 0 = q1) ∨ (ok1 = false ∧ q1 = 0 ∧ M.foldl (topE key at_) 0 = 0)) := Lib.hid (by
        rw [hfb] at ho1
        rcases hc1 with ⟨e, he, h1, h2⟩ | ⟨he, h1, h2⟩
        · refine .inl ⟨h1, ?_, ?_⟩
          · have hme := chain_may hch e (List.mem_of_find?_eq_some (by rw [← he, ho1]; rfl))
            obtain ⟨ek, ev, eg, eq⟩ := e
            have := (may_iff.1 hme).2.2.2.1
            rw [h2]; show 0 < eq; omega
          · rw [htop, ← ho1, he, h2]
        · exact .inr ⟨h1, h2, by rw [htop, ← ho1, he]⟩)
      clear hr hn h hok hmk hM hch hfb htop ho1 ho2 hp1 hp2 hc1 hmV
      go_enter Try.func6, Try.ntmps6
      go_wp2_with fail
      refine HLi.out.mono ?_
      rintro e w1 ⟨rfl, b1⟩
      have HR1 := Lib.hid (HRd.out.old b1)
      have HW1 := Lib.hid b1
      clear b1
      go_wp2_with fail
      refine (HMa.out _ HR1.out).mono ?_
      rintro e w2 ⟨a2, m2, c2, rfl, ⟨sl2, sr2, _, _⟩, b2⟩
      have HM2 := Lib.hid sl2
      have HRM2 := Lib.hid sr2
      have HR2 := Lib.hid (HR1.out.old b2)
      have HW2 := Lib.hid (bt HW1.out b2)
      have hm2 : m2 ≤ 60 := by have := HM60.out; rw [sl2] at this; omega
      clear b2 sl2 sr2 HR1
      go_wp2_with fail
      refine (HF1.out _ _ _ _ HM2.out HRM2.out).mono ?_
      rintro e w3 ⟨rfl, b3⟩
      have HW3 := Lib.hid (bt HW2.out b3)
      have HA3 : Hid (Below w3.heap.size w3 (w3.alloc (.cells #[.string k1, .string v1, .bool g1, .int .i64 q1] 36))) := Lib.hid ((Below.refl _ _).alloc (Nat.le_refl _) _)
      have HRM3 := Lib.hid ((HRM2.out.old b3).old HA3.out)
      have HR3 := Lib.hid ((HR2.out.old b3).old HA3.out)
      have HX3 := Lib.hid (EBox.new w3 36 k1 v1 g1 q1)
      clear b3 HRM2 HR2
      go_wp2_with fail
      refine (HF2.out _ _ _ _ HM2.out HRM3.out).mono ?_
      rintro e w4 ⟨rfl, b4⟩
      have HA4 : Hid (Below w4.heap.size w4 (w4.alloc (.cells #[.string k1, .string v1, .bool g1, .int .i64 q1] 36))) := Lib.hid ((Below.refl _ _).alloc (Nat.le_refl _) _)
      have HW4 := Lib.hid (bt (bt HW3.out HA3.out) b4)
      have HRM4 := Lib.hid ((HRM3.out.old b4).old HA4.out)
      have HR4 := Lib.hid ((HR3.out.old b4).old HA4.out)
      have HX4 := Lib.hid (And.intro ((HX3.out.below b4).below HA4.out) (EBox.new w4 36 k1 v1 g1 q1))
      clear b4 HRM3 HR3 HX3
      go_wp2_with fail
      refine (HF3.out _ HR4.out).mono ?_
      rintro e w5 ⟨rfl, b5⟩
      have HA5 : Hid (Below w5.heap.size w5 (w5.alloc (.cells #[.string k2, .string v2, .bool g2, .int .i64 q2] 36))) := Lib.hid ((Below.refl _ _).alloc (Nat.le_refl _) _)
      have HW5 := Lib.hid (bt (bt HW4.out HA4.out) b5)
      have HRM5 := Lib.hid ((HRM4.out.old b5).old HA5.out)
      have HR5 := Lib.hid ((HR4.out.old b5).old HA5.out)
      have HX5 := Lib.hid (And.intro ((HX4.out.1.below b5).below HA5.out) (And.intro ((HX4.out.2.below b5).below HA5.out) (EBox.new w5 36 k2 v2 g2 q2)))
      clear b5 HRM4 HR4 HX4
      go_wp2_with fail
      refine (HF4.out _ HR5.out).mono ?_
      rintro e w6 ⟨rfl, b6⟩
      have HA6 : Hid (Below w6.heap.size w6 (w6.alloc (.cells #[.string k2, .string v2, .bool g2, .int .i64 q2] 36))) := Lib.hid ((Below.refl _ _).alloc (Nat.le_refl _) _)
      have HW6 := Lib.hid (bt (bt (bt HW5.out HA5.out) b6) HA6.out)
      have HRM6 := Lib.hid ((HRM5.out.old b6).old HA6.out)
      obtain ⟨x0, x1, x2, x3, x4⟩ := (HX5.out.1.below b6).below HA6.out
      obtain ⟨y0, y1, y2, y3, y4⟩ := (HX5.out.2.1.below b6).below HA6.out
      obtain ⟨z0, z1, z2, z3, z4⟩ := (HX5.out.2.2.below b6).below HA6.out
      obtain ⟨t0, t1, t2, t3, t4⟩ := EBox.new w6 36 k2 v2 g2 q2
      have HX6 := Lib.hid ((HX5.out.1.below b6).below HA6.out)
      obtain ⟨W, hW⟩ : ∃ W, W = w6.alloc (.cells #[.string k2, .string v2, .bool g2, .int .i64 q2] 36) := ⟨_, rfl⟩
      rw [← hW] at HW6 HRM6 HX6
      have HWq := Lib.hid hW
      clear b6 HRM5 HR5 HX5 hW
      go_wp2
      rw [← HWq.out]
      clear x0 x1 x2 x3 x4 y0 y1 y2 y3 y4 z0 z1 z2 z3 z4 t0 t1 t2 t3 t4 HWq
      go_loopw [16, 17] (fun nn i wr => ∃ k : Nat, i = .int .i64 k ∧ k ≤ m2 ∧ nn = .int .i64 ((M.take k).foldl (topE key at_) 0) ∧ Hid (Below W.heap.size W wr)) (fun _ i _ => m2 - (intOf i).toNat)
      case atStart => exact ⟨0, rfl, by omega, rfl, Lib.hid (Below.refl _ _)⟩
      case round =>
        obtain ⟨k, rfl, hk, rfl, HWr⟩ := hrel
        by_cases hlt : k < m2
        · have hki : (k : Int) < (m2 : Int) := by omega
          obtain ⟨b, off, ha2, hb2, hc2⟩ := (HRM6.out.old HWr.out).at_
          rw [HM2.out] at ha2 hb2
          obtain rfl := ha2 (by omega)
          have hbr := hb2 (by omega)
          have hkl : k < M.length := by rw [HM2.out]; exact hlt
          obtain ⟨e0, e1, e2, e3⟩ := hc2 k hkl
          have hsn := top_snoc key at_ M k hkl
          obtain ⟨N, hN⟩ : ∃ N, N = (M.take k).foldl (topE key at_) 0 := ⟨_, rfl⟩
          obtain ⟨E, hE⟩ : ∃ E, E = M[k] := ⟨_, rfl⟩
          rw [← hE] at e0 e1 e2 e3 hsn
          rw [← hN] at hsn ⊢
          obtain ⟨ek, evl, eg, eq⟩ := E
          clear hE hc2 ha2 hb2 hN
          by_cases hke : ek = key
          · have hke2 := hke.symm
            clear hke
            subst hke2
            by_cases hq : eq ≤ at_
            · by_cases hN : N ≤ eq
              · have HN := Lib.hid (show (M.take (k + 1)).foldl (topE key at_) 0 = eq by rw [hsn]; unfold topE; rw [if_pos ⟨isE_iff.2 ⟨rfl, hq⟩, hN⟩])
                clear hsn
                go_wp2
                go_roundw
                case rel => exact ⟨k + 1, by go_num, by omega, by rw [HN.out], HWr⟩
                case measure => simp [intOf]; omega
              · have hNf : decide (N ≤ eq) = false := by simpa using hN
                have HN := Lib.hid (show (M.take (k + 1)).foldl (topE key at_) 0 = N by rw [hsn]; unfold topE; rw [if_neg (fun h => hN h.2)])
                clear hsn
                go_wp2
                go_roundw
                case rel => exact ⟨k + 1, by go_num, by omega, by rw [HN.out], HWr⟩
                case measure => simp [intOf]; omega
            · have hqf : decide (eq ≤ at_) = false := by simpa using hq
              have HN := Lib.hid (show (M.take (k + 1)).foldl (topE key at_) 0 = N by rw [hsn]; unfold topE; rw [if_neg (fun h => hq (isE_iff.1 h.1).2)])
              clear hsn
              go_wp2
              go_roundw
              case rel => exact ⟨k + 1, by go_num, by omega, by rw [HN.out], HWr⟩
              case measure => simp [intOf]; omega
          · have hkb := str_ne hke
            have HN := Lib.hid (show (M.take (k + 1)).foldl (topE key at_) 0 = N by rw [hsn]; unfold topE; rw [if_neg (fun h => hke (isE_iff.1 h.1).1)])
            clear hsn
            go_wp2
            go_roundw
            case rel => exact ⟨k + 1, by go_num, by omega, by rw [HN.out], HWr⟩
            case measure => simp [intOf]; omega
        · obtain rfl : k = m2 := by omega
          rw [show M.take k = M from List.take_of_length_le (by rw [HM2.out]; exact Nat.le_refl _)]
          obtain ⟨x0, x1, x2, x3, x4⟩ := HX6.out.below HWr.out
          have HW7 := Lib.hid (bt HW6.out HWr.out)
          rcases HEnd.out with ⟨rfl, hq0, hfold⟩ | ⟨rfl, rfl, hfold⟩
          all_goals
            rw [hfold]
            clear hfold
            go_wp2_with fail
            refine (HAw.out _).mono ?_
            rintro e w8 ⟨rfl, b8⟩
            have HW8 := Lib.hid (bt HW7.out b8)
            go_wp2
            go_ret
            exact ⟨rfl, HW8.out⟩
end Go.Proofs.Ytjneigejcaahiaa
