/-
  Layer 14 (once): the document's Of. Conditions: the pairs' values within the form's reach.
-/
import Derived.Test.YtemaonfgledcmaaNz
import Derived.Test.YtemaonfgledcmaaNw
namespace Go.Proofs.Ytemaonfgledcmaa
open Go.RowKit
set_option linter.unusedVariables false
set_option linter.unusedSimpArgs false

/-- The key ahead of place k. -/
def prv (xs : List Pr) : Nat → Option ByteArray
  | 0 => none
  | k + 1 => (xs[k]?).map (·.1)
def OfS (xs : List Pr) (k : Nat) (L : List Sn) : Prop := ofC xs = (ofR (prv xs k) (xs.drop k)).map (L ++ ·)
theorem OfS.zero (xs : List Pr) : OfS xs 0 [] := by
  unfold OfS
  rw [← ofR_ofC]
  simp [prv]
theorem OfS.none1 {xs : List Pr} {k : Nat} {L : List Sn} (h : OfS xs k L) (hk : k < xs.length) (hn : oneP xs[k] = none) : ofC xs = none := by
  unfold OfS at h
  rw [h, List.drop_eq_getElem_cons hk]
  simp [ofR, hn]
theorem OfS.none2 {xs : List Pr} {k : Nat} {L : List Sn} (h : OfS xs k L) (hk : k < xs.length) (hn : okK (prv xs k) xs[k].1 = false) : ofC xs = none := by
  unfold OfS at h
  rw [h, List.drop_eq_getElem_cons hk]
  simp only [ofR, hn]
  cases oneP xs[k] <;> simp
theorem OfS.step {xs : List Pr} {k : Nat} {L : List Sn} {s : Sn} (h : OfS xs k L) (hk : k < xs.length) (hn : oneP xs[k] = some s) (ho : okK (prv xs k) xs[k].1 = true) : OfS xs (k + 1) (L ++ [s]) := by
  unfold OfS at *
  rw [h, List.drop_eq_getElem_cons hk]
  have e : prv xs (k + 1) = some xs[k].1 := by simp [prv, hk]
  rw [e]
  simp only [ofR, hn, ho, Option.bind_some, if_true, Option.map_map]
  congr 1
  funext t
  simp
theorem OfS.all {xs : List Pr} {L : List Sn} (h : OfS xs xs.length L) : ofC xs = some L := by
  unfold OfS at h
  rw [h]
  simp [ofR]
set_option maxRecDepth 100000 in
set_option maxHeartbeats 8000000 in
theorem rof14_any (a : Option Addr) (n cap : Nat) (xs : List Pr) (w : World) (hx : PRd w a xs) (hn : xs.length = n) (hm : n ≤ 1000000) (hv : ∀ x ∈ xs, x.2.size ≤ 4611686018427387904) : Calls Try.prog 12 #[.slice a n cap] w (OFR xs w) := by
  obtain ⟨E, hE⟩ : ∃ E, E = ofE xs := ⟨_, rfl⟩
  have HE := Lib.hid hE
  have HX := Lib.hid hx
  have HN := Lib.hid hn
  have HV := Lib.hid hv
  have hnone : w.ownsRow w.heap.size 39 7 (.slice none 0 0) ([] : List Sn).length (cvs []) := World.ownsRow_nil _ _ _ _
  obtain ⟨i0, hi0, hz0, hz1, hz2⟩ := info_parts Try.infoSn
  have HR0 := Lib.hid hnone
  clear hnone hE hx hn hv
  obtain ⟨B, hB⟩ : ∃ B, B = w.heap.size := ⟨_, rfl⟩
  have HBW := Lib.hid hB
  rw [← hB] at HR0
  clear hB
  go_enter Try.func12, Try.ntmps12
  go_upto_region 3 with fail
  go_loopw [4, 5, 6, 7] (fun s i _ _ wr => ∃ (k : Nat) (oa : Option Addr) (oc : Nat), s = .slice oa k oc ∧ i = .int .i64 k ∧ k ≤ n ∧ Hid (∃ L, L.length = k ∧ OfS xs k L ∧ wr.ownsRow B 39 7 (.slice oa k oc) k (cvs L)) ∧ Hid (Below B w wr)) (fun _ i _ _ _ => n - (intOf i).toNat)
  case atStart => exact ⟨0, none, 0, rfl, by first | rfl | go_num, by omega, Lib.hid ⟨[], rfl, OfS.zero xs, HR0.out⟩, Lib.hid (by rw [HBW.out]; exact Below.refl _ _)⟩
  case round =>
    obtain ⟨k, oa, oc, rfl, rfl, hk, HR, HW⟩ := hrel
    have hBr : B ≤ wr.heap.size := by rw [HBW.out]; exact HW.out.size
    by_cases hlt : k < n
    · have hki : (k : Int) < (n : Int) := by omega
      have hkl : k < xs.length := by rw [HN.out]; exact hlt
      obtain ⟨pb, po, hpa, hpl, z0, z1⟩ := (HX.out.old (w' := wr) (by rw [← HBW.out]; exact HW.out)).at_ hkl
      subst hpa
      obtain ⟨x, hx⟩ : ∃ x, x = xs[k] := ⟨_, rfl⟩
      rw [← hx] at z0 z1
      have HXV := Lib.hid (show x.2.size ≤ 4611686018427387904 by rw [hx]; exact HV.out _ (List.getElem_mem hkl))
      have HXE := Lib.hid (show xs[k]? = some x by rw [hx]; exact List.getElem?_eq_getElem hkl)
      obtain ⟨K, V⟩ := x
      simp only at z0 z1 HXV
      have HZ := Lib.hid (And.intro z0 (And.intro z1 hpl))
      have hs1 := hBr
      clear hx
      go_wp2_with fail
      refine (one14_any K V HXV.out wr).mono ?_
      rintro e w2 ⟨s, b, rfl, hrd, hb2⟩
      have HRD := Lib.hid hrd
      have HB2 := Lib.hid (HW.out.trans (hb2.mono hBr))
      have HR2 : Hid (∃ L, L.length = k ∧ OfS xs k L ∧ w2.ownsRow B 39 7 (.slice oa k oc) k (cvs L)) := Lib.hid (by obtain ⟨L, h1, h2, h3⟩ := HR.out; exact ⟨L, h1, h2, below_own h3 hb2⟩)
      have hs2 : B ≤ w2.heap.size := Nat.le_trans hBr hb2.size
      clear hrd hb2 z0 z1 HR
      go_upto_region 6 with fail
      obtain ⟨o, ho⟩ : ∃ o, o = Obj.cells #[.int .i64 s.c, .int .i64 s.s, .int .i64 s.e, .string s.v, .bool s.h, .slice s.p s.n s.k, .string s.u] 39 := ⟨_, rfl⟩
      have hB2 : SBox (w2.alloc o) w2.heap.size s := by rw [ho]; exact SBox.new w2 _ s
      rw [← ho]
      clear ho
      have HB3 := Lib.hid (HB2.out.alloc hs2 o)
      have HR3 : Hid (∃ L, L.length = k ∧ OfS xs k L ∧ (w2.alloc o).ownsRow B 39 7 (.slice oa k oc) k (cvs L)) := Lib.hid (by obtain ⟨L, h1, h2, h3⟩ := HR2.out; exact ⟨L, h1, h2, h3.alloc _⟩)
      have hBs : B ≤ (w2.alloc o).heap.size := by simp; omega
      have HPR : Hid (PRd (w2.alloc o) (some ⟨pb, po, none⟩) xs) := Lib.hid ((HX.out.old (w' := w2.alloc o) (by rw [← HBW.out]; exact HB3.out)))
      obtain ⟨y2, hy2⟩ : ∃ y, y = w2.heap.size := ⟨_, rfl⟩
      rw [← hy2] at hB2 ⊢
      have hyb : B ≤ y2 := by omega
      clear hy2 HR2
      generalize w2.alloc o = w3 at *
      have HSB := Lib.hid hB2
      obtain ⟨L, hL1, hL2, hL3⟩ := HR3.out
      have HRow := Lib.hid hL3
      have HL1 := Lib.hid hL1
      have HL2 := Lib.hid hL2
      clear hL1 hL2 hL3 HR3 hB2
      have hkl2 : k < xs.length := by rw [HN.out]; exact hlt
      have HEL : Hid (xs[k] = (K, V)) := Lib.hid (Option.some.inj ((List.getElem?_eq_getElem hkl2).symm.trans HXE.out))
      cases b with
      | false =>
        have H1 := Lib.hid (of_bad (OfS.none1 HL2.out hkl2 (by rw [HEL.out, HRD.out]; rfl)))
        clear hkl2 HEL
        go_region
        go_wp2_with fail
        go_ret2
        exact ⟨none, 0, 0, by rw [H1.out.1]; rfl, by rw [H1.out.2]; exact SS.none _, by have := HB3.out.drew; rw [HBW.out] at this; exact this⟩
      | true =>
        have HOK := Lib.hid (show oneP (K, V) = some s by rw [HRD.out]; rfl)
        by_cases k0 : k = 0
        · have k0i : ¬ (0 : Int) < (k : Int) := by omega
          have k0n : ¬ 0 < k := by omega
          have HCMP : Hid (okK (prv xs k) K = true) := Lib.hid (by rw [k0]; rfl)
          clear k0
          have HLL := Lib.hid (And.intro HL1.out (OfS.step HL2.out hkl2 (by rw [HEL.out]; exact HOK.out) (by rw [HEL.out]; exact HCMP.out)))
          clear hkl2 HEL
          obtain ⟨q0, q1, q2, q3, q4, q5, q6, q7⟩ := HSB.out
          go_region
          go_wp2_with (at_builtin; generalize hG : wpList _ _ _ _ _ _ = G)
          rw [← hG]
          clear hG
          refine wpList_append_own _ rfl (.tmp 42) (.tmp 44) 22 rfl B 39 i0 (.agg #[.int .i64 0, .int .i64 0, .int .i64 0, .string ⟨#[]⟩, .bool false, .slice none 0 0, .string ⟨#[]⟩]) 7 88 Try.underlying22 hi0 hz0 hz1 hz2 rfl (by decide) _ _ _ rfl (HRow.out.alloc _) ⟨w3.heap.size, 0, none⟩ 1 1 (cv s) rfl rfl ?c1 ?c2 ?c3 ?c4 ?c5 ?_
          case c1 => exact cell_new7 w3 s _
          case c2 => exact cv_one _
          case c3 => unfold maxLen; omega
          case c4 => omega
          case c5 => simp [go_sem]; omega
          intro v' w6 hown6 hgrow _
          obtain ⟨a6, c6, rfl⟩ := own_form14 hown6 (by decide)
          have hb6 := Lib.hid (HB3.out.drew.trans ((((Below.refl B w3.drew).alloc hBs _).grown hgrow (by simp [go_sem]; omega) (fun k hk => (HRow.out.lt k hk).1))))
          rw [cvs_snoc] at hown6
          have HN6 : Hid (∃ L, L.length = k + 1 ∧ OfS xs (k + 1) L ∧ w6.ownsRow B 39 7 (.slice a6 (k + 1) c6) (k + 1) (cvs L)) := Lib.hid ⟨L ++ [s], by rw [List.length_append, HLL.out.1]; rfl, HLL.out.2, hown6⟩
          clear hown6 hgrow q0 q1 q2 q3 q4 q5 q6 q7
          go_wp2_with fail
          go_roundw
          case rel => exact ⟨k + 1, _, _, rfl, by go_num, by omega, HN6, hb6⟩
          case measure => simp [intOf]; omega
        · obtain ⟨j, hj⟩ : ∃ j, k = j + 1 := ⟨k - 1, by omega⟩
          have hjl : j < xs.length := by omega
          obtain ⟨pb2, po2, hpe, hpl2, zj0, zj1⟩ := HPR.out.at_ hjl
          obtain ⟨rfl, rfl⟩ : pb = pb2 ∧ po = po2 := by injection hpe with e; injection e with e1 e2; exact ⟨e1, e2⟩
          obtain ⟨pb3, po3, hpe3, -, zk0, zk1⟩ := HPR.out.at_ hkl2
          obtain ⟨rfl, rfl⟩ : pb = pb3 ∧ po = po3 := by injection hpe3 with e; injection e with e1 e2; exact ⟨e1, e2⟩
          obtain ⟨KJ, hKJ⟩ : ∃ KJ, KJ = xs[j].1 := ⟨_, rfl⟩
          rw [← hKJ] at zj0
          rw [HEL.out] at zk0
          simp only at zk0
          have HPV : Hid (prv xs k = some KJ) := Lib.hid (by rw [hj]; show (xs[j]?).map (·.1) = some KJ; rw [List.getElem?_eq_getElem hjl, hKJ]; rfl)
          have k0i : (0 : Int) < (k : Int) := by omega
          have k0n : 0 < k := by omega
          have hw1 : IntKind.i64.wrap ((k : Int) - 1) = (j : Int) := by rw [IntWalk.i64_in _ (by omega)]; omega
          have hji : (j : Int) < (n : Int) := by omega
          clear hKJ hpe hpe3 zj1 zk1 hjl hj
          obtain ⟨c, hc⟩ : ∃ c, Op.bytesLess KJ.toList K.toList = c := ⟨_, rfl⟩
          cases c with
          | false =>
            have H1 := Lib.hid (of_bad (OfS.none2 HL2.out hkl2 (by rw [HEL.out, HPV.out]; exact hc)))
            clear hkl2 HEL
            go_region
            go_wp2_with fail
            go_ret2
            exact ⟨none, 0, 0, by rw [H1.out.1]; rfl, by rw [H1.out.2]; exact SS.none _, by have := HB3.out.drew; rw [HBW.out] at this; exact this⟩
          | true =>
            have HCMP : Hid (okK (prv xs k) K = true) := Lib.hid (by rw [HPV.out]; exact hc)
            have HLL := Lib.hid (And.intro HL1.out (OfS.step HL2.out hkl2 (by rw [HEL.out]; exact HOK.out) (by rw [HEL.out]; exact HCMP.out)))
            clear hkl2 HEL
            obtain ⟨q0, q1, q2, q3, q4, q5, q6, q7⟩ := HSB.out
            go_region
            go_wp2_with (at_builtin; generalize hG : wpList _ _ _ _ _ _ = G)
            rw [← hG]
            clear hG
            refine wpList_append_own _ rfl (.tmp 42) (.tmp 44) 22 rfl B 39 i0 (.agg #[.int .i64 0, .int .i64 0, .int .i64 0, .string ⟨#[]⟩, .bool false, .slice none 0 0, .string ⟨#[]⟩]) 7 88 Try.underlying22 hi0 hz0 hz1 hz2 rfl (by decide) _ _ _ rfl (HRow.out.alloc _) ⟨w3.heap.size, 0, none⟩ 1 1 (cv s) rfl rfl ?c1 ?c2 ?c3 ?c4 ?c5 ?_
            case c1 => exact cell_new7 w3 s _
            case c2 => exact cv_one _
            case c3 => unfold maxLen; omega
            case c4 => omega
            case c5 => simp [go_sem]; omega
            intro v' w6 hown6 hgrow _
            obtain ⟨a6, c6, rfl⟩ := own_form14 hown6 (by decide)
            have hb6 := Lib.hid (HB3.out.drew.trans ((((Below.refl B w3.drew).alloc hBs _).grown hgrow (by simp [go_sem]; omega) (fun k hk => (HRow.out.lt k hk).1))))
            rw [cvs_snoc] at hown6
            have HN6 : Hid (∃ L, L.length = k + 1 ∧ OfS xs (k + 1) L ∧ w6.ownsRow B 39 7 (.slice a6 (k + 1) c6) (k + 1) (cvs L)) := Lib.hid ⟨L ++ [s], by rw [List.length_append, HLL.out.1]; rfl, HLL.out.2, hown6⟩
            clear hown6 hgrow q0 q1 q2 q3 q4 q5 q6 q7
            go_wp2_with fail
            go_roundw
            case rel => exact ⟨k + 1, _, _, rfl, by go_num, by omega, HN6, hb6⟩
            case measure => simp [intOf]; omega
    · obtain rfl : k = n := by omega
      have hki : ¬ (k : Int) < (k : Int) := by omega
      obtain ⟨L, hL1, hL2, hL3⟩ := HR.out
      obtain ⟨oa', oc', e, hs⟩ := own_ss hL3 hL1
      obtain ⟨rfl, rfl⟩ : oa = oa' ∧ oc = oc' := by injection e with e1 _ e2; exact ⟨e1, e2⟩
      have H1 := Lib.hid (of_good (OfS.all (xs := xs) (L := L) (by rw [HN.out]; exact hL2)))
      have HS := Lib.hid hs
      clear hL1 hL2 hL3 hs e HR
      go_wp2_with fail
      go_ret2
      exact ⟨oa, k, oc, by rw [H1.out.1]; rfl, by rw [H1.out.2]; exact HS.out, by have := HW.out; rw [HBW.out] at this; exact this⟩
end Go.Proofs.Ytemaonfgledcmaa
