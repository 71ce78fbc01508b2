/-
  Layer 11 (merge): the document's own All and Merge. Conditions: at most nine lists, that have at most 4096 entries together.
-/
import Derived.Test.YtgkkgiaaillhpaaMu
namespace Go.Proofs.Ytgkkgiaaillhpaa
open Go.RowKit
set_option linter.unusedVariables false
set_option linter.unusedSimpArgs false

theorem wrL_take {ls : List Lst} {k : Nat} (h : k < ls.length) : wrL (ls.take (k + 1)) = wrL (ls.take k) ++ ls[k].2.2 := by
  rw [List.take_succ_eq_append_getElem h, wrL_snoc]
theorem wrL_split (ls : List Lst) (k : Nat) : (wrL (ls.take k)).length ≤ (wrL ls).length := by
  have h : wrL ls = wrL (ls.take k) ++ wrL (ls.drop k) := by
    unfold wrL
    rw [← List.flatMap_append, List.take_append_drop]
  rw [h, List.length_append]
  omega
set_option maxRecDepth 100000 in
set_option maxHeartbeats 8000000 in
theorem rall11_any (b off n cap : Nat) (ls : List Lst) (w : World) (hn : n ≤ 9) (hl : ls.length = n) (hb : b < w.heap.size) (h : LLc w b off ls) (hok : okLs ls) (h4 : (wrL ls).length ≤ 4096) :
    Calls Try.prog 16 #[.slice (some ⟨b, off, none⟩) n cap] w (P1 (allM (wrL ls)) w) := by
  have HC := Lib.hid h
  have HL := Lib.hid hl
  have HO := Lib.hid hok
  have H4 := Lib.hid h4
  clear h hl hok h4
  go_enter Try.func16, Try.ntmps16
  go_wp2_with fail
  go_loopw [3, 4] (fun v i wr => ∃ (k m c : Nat) (d : Option Addr), i = .int .i64 k ∧ k ≤ n ∧ v = .slice d m c ∧ Hid (SE wr d m c (allM (wrL (ls.take k)))) ∧ Hid (Below w.heap.size w wr)) (fun _ i _ => n - (intOf i).toNat)
  case atStart => exact ⟨0, 0, 0, none, rfl, by omega, rfl, Lib.hid ⟨rfl, .inl rfl, Nat.le_refl _, Nat.zero_le _⟩, Lib.hid (Below.refl _ _)⟩
  case round =>
    obtain ⟨k, m, c, d, rfl, hk, rfl, HS, HW⟩ := hrel
    by_cases hlt : k < n
    · have hki : (k : Int) < (n : Int) := by omega
      have hkl : k < ls.length := by rw [HL.out]; exact hlt
      obtain ⟨c0, r0⟩ := HC.out.old hb HW.out k hkl
      have o1 := HO.out _ (List.getElem_mem hkl)
      have hbr : b < wr.heap.size := Nat.lt_of_lt_of_le hb HW.out.size
      have hwt := wrL_take hkl
      have hws := wrL_split ls (k + 1)
      obtain ⟨E, hE⟩ : ∃ E, E = ls[k] := ⟨_, rfl⟩
      rw [← hE] at c0 r0 o1 hwt
      obtain ⟨ea, ec, es⟩ := E
      clear hE
      simp only at c0 r0 o1 hwt
      obtain ⟨el, hel⟩ : ∃ el, es.length = el := ⟨_, rfl⟩
      rw [hel] at c0
      obtain ⟨w0, hw0⟩ : ∃ w0, w0 = wrL (ls.take k) := ⟨_, rfl⟩
      rw [← hw0] at hwt HS
      have hlen : w0.length + el ≤ 4096 := by
        have := H4.out
        rw [hwt, List.length_append] at hws
        omega
      have HLEN := Lib.hid hlen
      have hel4 : el ≤ 4096 := by omega
      have HWT := Lib.hid hwt
      have HEL := Lib.hid hel
      have HR0 := Lib.hid r0
      have HO1 := Lib.hid o1
      have HCC := Lib.hid (fun (W : World) (hW : Below wr.heap.size wr W) => (hW.cell (p := ⟨b, off + k, none⟩) hbr).trans c0)
      clear hwt hws hlen hel r0 o1 hw0
      go_wp2_with fail
      rename World => wo
      go_loopw [3, 5] (fun v i wx => ∃ (j m c : Nat) (d : Option Addr), i = .int .i64 j ∧ j ≤ el ∧ v = .slice d m c ∧ Hid (SE wx d m c (allM (w0 ++ es.take j))) ∧ Hid (Below wo.heap.size wo wx)) (fun _ i _ => el - (intOf i).toNat)
      case atStart => exact ⟨0, m, c, d, rfl, by omega, rfl, Lib.hid (by simpa using HS.out), Lib.hid (Below.refl _ _)⟩
      case round =>
        obtain ⟨j, m, c, d, rfl, hj, rfl, HSx, HX⟩ := hrel
        have cx := HCC.out _ HX.out
        have hbx : b < wr.heap.size := Nat.lt_of_lt_of_le hbr HX.out.size
        by_cases hjl : j < el
        · have hji : (j : Int) < (el : Int) := by omega
          have hje : j < es.length := by rw [HEL.out]; exact hjl
          have hm4 : m ≤ 4095 := by
            have h1 := allM_le (w0 ++ es.take j)
            have h2 := HSx.out.1
            have h3 := HLEN.out
            rw [List.length_append, List.length_take] at h1
            omega
          have hlow : ∃ eb eo, ea = some ⟨eb, eo, none⟩ ∧ eb < wr.heap.size ∧ wr.cell? ⟨eb, eo + j * 4, none⟩ = some (.string es[j].1) ∧ wr.cell? ⟨eb, eo + j * 4 + 1, none⟩ = some (.string es[j].2.1) ∧ wr.cell? ⟨eb, eo + j * 4 + 2, none⟩ = some (.bool es[j].2.2.1) ∧ wr.cell? ⟨eb, eo + j * 4 + 3, none⟩ = some (.int .i64 es[j].2.2.2) := by
            obtain ⟨eb, eo, e1, e2, e3⟩ := (HR0.out.old HX.out).at_
            obtain ⟨c0, c1, c2, c3⟩ := e3 j hje
            exact ⟨eb, eo, e1 (by omega), e2 (by omega), c0, c1, c2, c3⟩
          obtain ⟨eb, eo, rfl, heb, c0, c1, c2, c3⟩ := hlow
          have HD : Hid (w0 ++ es.take (j + 1) = (w0 ++ es.take j) ++ [es[j]]) := Lib.hid (by rw [List.take_succ_eq_append_getElem hje, List.append_assoc])
          have hoj := HO1.out.1 _ (List.getElem_mem hje)
          obtain ⟨E, hE⟩ : ∃ E, E = es[j] := ⟨_, rfl⟩
          rw [← hE] at c0 c1 c2 c3 HD hoj
          obtain ⟨ek, evl, eg, eq⟩ := E
          have HOJ := Lib.hid hoj
          have HAD : Hid (allM (w0 ++ es.take (j + 1)) = addM (allM (w0 ++ es.take j)) (ek, evl, eg, eq)) := Lib.hid (by rw [HD.out, allM_snoc])
          clear hE hoj hje
          have CH := Lib.hid (rhas11_any d m c _ ek evl eg eq wr (by omega) HSx.out)
          obtain ⟨q, hq⟩ : ∃ q, hasM (allM (w0 ++ es.take j)) ek eq = q := ⟨_, rfl⟩
          rw [hq] at CH
          have HQ := Lib.hid hq
          clear hq
          go_wp2_with fail
          refine CH.out.mono ?_
          rintro e w2 ⟨rfl, b2⟩
          have HX2 := Lib.hid (HX.out.trans (b2.mono HX.out.size))
          have HS2 := Lib.hid (HSx.out.old b2)
          have cx := HCC.out _ HX2.out
          have heb2 : eb < w2.heap.size := Nat.lt_of_lt_of_le heb b2.size
          have c0 := (b2.cell (p := ⟨eb, eo + j * 4, none⟩) heb).trans c0
          have c1 := (b2.cell (p := ⟨eb, eo + j * 4 + 1, none⟩) heb).trans c1
          have c2 := (b2.cell (p := ⟨eb, eo + j * 4 + 2, none⟩) heb).trans c2
          have c3 := (b2.cell (p := ⟨eb, eo + j * 4 + 3, none⟩) heb).trans c3
          clear b2 CH
          cases q with
          | true =>
            have HN : Hid (allM (w0 ++ es.take (j + 1)) = allM (w0 ++ es.take j)) := Lib.hid (by rw [HAD.out]; unfold addM; rw [if_pos HQ.out])
            go_wp2_with fail
            go_roundw
            case rel => exact ⟨j + 1, m, c, d, by go_num, by omega, rfl, Lib.hid (by rw [HN.out]; exact HS2.out), HX2⟩
            case measure => simp [intOf]; omega
          | false =>
            have HN : Hid (allM (w0 ++ es.take (j + 1)) = putE (allM (w0 ++ es.take j)) (ek, evl, eg, eq)) := Lib.hid (by rw [HAD.out]; unfold addM; rw [if_neg (by rw [HQ.out]; simp)])
            have CP := Lib.hid (put1_any d m c _ ek evl eg eq w2 (by omega) HS2.out HOJ.out.1 HOJ.out.2)
            go_wp2_with fail
            refine CP.out.mono ?_
            rintro e w3 ⟨d', m', c', rfl, s3, b3⟩
            have HX3 := Lib.hid (HX2.out.trans (b3.mono HX2.out.size))
            have HS3 : Hid (SE w3 d' m' c' (allM (w0 ++ es.take (j + 1)))) := Lib.hid (by rw [HN.out]; exact s3)
            clear s3 b3 CP
            go_wp2_with fail
            go_roundw
            case rel => exact ⟨j + 1, m', c', d', by go_num, by omega, rfl, HS3, HX3⟩
            case measure => simp [intOf]; omega
        · obtain rfl : j = el := by omega
          have HS3 : Hid (SE wr d m c (allM (wrL (ls.take (k + 1))))) := Lib.hid (by
            have := HSx.out
            rw [← HEL.out, List.take_length, ← HWT.out] at this
            exact this)
          have HX3 := Lib.hid (HW.out.trans (HX.out.mono HW.out.size))
          go_wp2_with fail
          go_roundw
          case rel => exact ⟨k + 1, m, c, d, by go_num, by omega, rfl, HS3, HX3⟩
          case measure => simp [intOf]; omega
    · obtain rfl : k = n := by omega
      have HS3 : Hid (SE wr d m c (allM (wrL ls))) := Lib.hid (by
        have := HS.out
        rw [← HL.out, List.take_length] at this
        exact this)
      go_wp2_with fail
      go_ret
      exact ⟨d, m, c, rfl, HS3.out, HW.out⟩
/-- What the document's Merge leaves. -/
def RMR (ls : List Lst) (w : World) (e : Ending) (w' : World) : Prop := ∃ a n cap, e = .returned (.tuple #[.slice a n cap, .int .i64 (if mayL ls = true then 0 else 1)]) ∧ SE w' a n cap (if mayL ls = true then allM (wrL ls) else []) ∧ Below w.heap.size w w'
set_option maxRecDepth 100000 in
set_option maxHeartbeats 8000000 in
theorem rmerge11_any (b off n cap : Nat) (ls : List Lst) (w : World) (hn : n ≤ 9) (hl : ls.length = n) (hb : b < w.heap.size) (h : LLc w b off ls) (hok : okLs ls) (h4 : (wrL ls).length ≤ 4096) :
    Calls Try.prog 13 #[.slice (some ⟨b, off, none⟩) n cap] w (RMR ls w) := by
  have CM := Lib.hid (rmay11_any b off n cap ls w hn hl hb h hok)
  have CA := Lib.hid (fun W (hW : Below w.heap.size w W) => rall11_any b off n cap ls W hn hl (Nat.lt_of_lt_of_le hb hW.size) (h.old hb hW) hok h4)
  have HLE := Lib.hid (Nat.le_trans (allM_le (wrL ls)) h4)
  obtain ⟨r, hr⟩ : ∃ r, mayL ls = r := ⟨_, rfl⟩
  unfold RMR
  rw [hr] at CM ⊢
  clear hn hl hb h hok h4 hr
  go_enter Try.func13, Try.ntmps13
  go_wp2_with fail
  refine CM.out.mono ?_
  rintro e w1 ⟨rfl, b1⟩
  have HB1 := Lib.hid b1
  clear b1
  cases r with
  | false =>
    go_wp2_with fail
    refine bodyPost_ret (v := .tuple #[.slice none 0 0, .int .i64 1]) (by simp [results, Try.f13, go_sem]) rfl ?_
    exact ⟨none, 0, 0, rfl, ⟨rfl, .inl rfl, Nat.le_refl _, Nat.zero_le _⟩, HB1.out⟩
  | true =>
    go_wp2_with fail
    refine (CA.out _ HB1.out).mono ?_
    rintro e w2 ⟨a, m, c, rfl, hs, b2⟩
    have hm : ¬ (4096 : Int) < (m : Int) := by have := hs.1; have := HLE.out; omega
    have HS := Lib.hid hs
    have HB2 := Lib.hid (HB1.out.trans (b2.mono HB1.out.size))
    clear hs b2
    go_wp2_with fail
    refine bodyPost_ret (v := .tuple #[.slice a m c, .int .i64 0]) (by simp [results, Try.f13, go_sem]) rfl ?_
    exact ⟨a, m, c, rfl, HS.out, HB2.out⟩
end Go.Proofs.Ytgkkgiaaillhpaa
