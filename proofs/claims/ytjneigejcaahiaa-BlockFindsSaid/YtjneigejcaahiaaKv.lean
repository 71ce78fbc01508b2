/-
  Layer 9 (block), contracts of the law's own light, made, awake. Conditions: texts within the reach.
-/
import Derived.Test.YtjneigejcaahiaaKu
import Derived.Test.YtjneigejcaahiaaSf
namespace Go.Proofs.Ytjneigejcaahiaa
open Go.RowKit
set_option linter.unusedVariables false
set_option linter.unusedSimpArgs false

def liteE (e : Ent) : Bool := decide (e.1.size ≤ 100) && decide (e.2.1.size ≤ 2048)
def liteB (es : List Ent) : Bool := (es.take 60).all liteE && decide (es.length ≤ 60)
theorem lite_yes {es : List Ent} (h : liteB es = true) : es.length ≤ 60 ∧ ∀ e ∈ es, e.1.size ≤ 100 ∧ e.2.1.size ≤ 2048 := by
  unfold liteB at h
  simp only [Bool.and_eq_true, decide_eq_true_eq] at h
  refine ⟨h.2, fun e he => ?_⟩
  rw [List.take_of_length_le h.2, List.all_eq_true] at h
  have := h.1 e he
  unfold liteE at this
  simpa using this
set_option maxRecDepth 100000 in
set_option maxHeartbeats 4000000 in
theorem light_any (a : Option Addr) (n cap : Nat) (es : List Ent) (w : World) (hn : n ≤ 9223372036854775807) (hl : es.length = n) (h : RdE w a es) (hok : okV es) (r : Bool) (hr : liteB es = r) :
    Calls Try.prog 9 #[.slice a n cap] w fun e w' => e = .returned (.bool r) ∧ Below w.heap.size w w' := by
  obtain ⟨b, off, ha, hb, hc⟩ := h.at_
  rw [hl] at ha hb
  have hni : (n : Int) ≤ 9223372036854775807 := by omega
  have HC := Lib.hid hc
  have HL := Lib.hid hl
  have HO := Lib.hid hok
  have HR := Lib.hid hr
  clear hc hl hok hr h
  go_enter Try.func9, Try.ntmps9
  go_wp2
  go_loopw [3] (fun i wr => ∃ k : Nat, i = .int .i64 k ∧ k ≤ n ∧ k ≤ 60 ∧ Hid ((es.take k).all liteE = true) ∧ Hid (Below w.heap.size w wr)) (fun i _ => 60 - (intOf i).toNat)
  case atStart => exact ⟨0, rfl, by omega, by omega, Lib.hid rfl, Lib.hid (Below.refl _ _)⟩
  case round =>
    obtain ⟨k, rfl, hk, hk60, HK, HW⟩ := hrel
    by_cases hlt : k < n
    · have hki : (k : Int) < (n : Int) := by omega
      by_cases h60 : k < 60
      · obtain rfl := ha (by omega)
        have hbw := hb (by omega)
        have h60i : (k : Int) < 60 := by omega
        have hkl : k < es.length := by rw [HL.out]; exact hlt
        obtain ⟨g0, g1, g2, g3⟩ := HC.out.old hbw HW.out k hkl
        have o1 := HO.out _ (List.getElem_mem hkl)
        unfold okS at o1
        have hbr : b < wr.heap.size := Nat.lt_of_lt_of_le hbw HW.out.size
        have hnx : (es.take (k + 1)).all liteE = liteE es[k] := by rw [List.take_succ_eq_append_getElem hkl, List.all_append, HK.out]; simp
        have hno : liteE es[k] = false → liteB es = false := fun h => by
          unfold liteB
          have : (es.take 60).all liteE = false := by
            cases hb : (es.take 60).all liteE with
            | false => rfl
            | true =>
              rw [List.all_eq_true] at hb
              have := hb es[k] (List.mem_take_iff_getElem.2 ⟨k, by omega, rfl⟩)
              rw [h] at this
              cases this
          rw [this]
          rfl
        obtain ⟨E, hE⟩ : ∃ E, E = es[k] := ⟨_, rfl⟩
        rw [← hE] at g0 g1 g2 g3 o1 hnx hno
        obtain ⟨ek, evl, eg, eq⟩ := E
        clear hE
        by_cases c1 : ek.size ≤ 100
        · have c1i : (ek.size : Int) ≤ 100 := by omega
          by_cases c2 : evl.size ≤ 2048
          · have c2i : (evl.size : Int) ≤ 2048 := by omega
            have HN := Lib.hid (show (es.take (k + 1)).all liteE = true from hnx.trans (by unfold liteE; simp [c1, c2]))
            clear hnx hno
            go_wp2
            go_roundw
            case rel => exact ⟨k + 1, by go_num, by omega, by omega, HN, HW⟩
            case measure => simp [intOf]; omega
          · have c2i : (2048 : Int) < (evl.size : Int) := by omega
            have HN := Lib.hid (hno (by unfold liteE; simp [c2]))
            clear hnx hno
            go_wp2
            go_ret
            exact ⟨by rw [← HR.out, HN.out]; first | rfl | exact ret_bool (decide_eq_true (by assumption)) | exact ret_bool (by assumption), HW.out⟩
        · have c1i : (100 : Int) < (ek.size : Int) := by omega
          have HN := Lib.hid (hno (by unfold liteE; simp [c1]))
          clear hnx hno
          go_wp2
          go_ret
          exact ⟨by rw [← HR.out, HN.out]; first | rfl | exact ret_bool (decide_eq_true (by assumption)) | exact ret_bool (by assumption), HW.out⟩
      · obtain rfl : k = 60 := by omega
        have hni60 : ¬ (n : Int) ≤ 60 := by omega
        have hdn : decide ((n : Int) ≤ 60) = false := by simpa using hni60
        have HN : Hid (liteB es = false) := Lib.hid (by unfold liteB; rw [HL.out, decide_eq_false (by omega), Bool.and_false])
        go_wp2
        go_ret
        exact ⟨by rw [← HR.out, HN.out]; first | rfl | exact ret_bool (decide_eq_true (by assumption)) | exact ret_bool (by assumption), HW.out⟩
    · obtain rfl : k = n := by omega
      have hni60 : (k : Int) ≤ 60 := by omega
      have hall := HK.out
      rw [← HL.out, List.take_length] at hall
      have HN : Hid (liteB es = true) := Lib.hid (by
        unfold liteB
        rw [List.take_of_length_le (by rw [HL.out]; exact hk60), hall, HL.out, decide_eq_true hk60]
        rfl)
      clear hall
      go_wp2
      go_ret
      exact ⟨by rw [← HR.out, HN.out]; first | rfl | exact ret_bool (decide_eq_true (by assumption)) | exact ret_bool (by assumption), HW.out⟩
theorem insE_okV : ∀ (es : List Ent) (x : Ent), okV es → (okS x.1 ∧ okS x.2.1) → okV (insE es x)
  | [], x, _, hx => fun e he => by
    simp only [insE, List.mem_singleton] at he
    subst he
    exact hx
  | y :: es, x, h, hx => by
    have hy := h y (by simp)
    have hes : okV es := fun e he => h e (by simp [he])
    unfold insE
    split
    · intro e he
      rcases List.mem_cons.1 he with rfl | he
      · exact hy
      · exact insE_okV es x hes hx e he
    · split
      · intro e he
        rcases List.mem_cons.1 he with rfl | he
        · exact hx
        · exact h e he
      · intro e he
        rcases List.mem_cons.1 he with rfl | he
        · exact hx
        · exact hes e he
theorem putE_length (es : List Ent) (x : Ent) : (putE es x).length ≤ es.length + 1 := by
  unfold putE
  split
  · exact insE_length es x
  · omega
theorem fold_okV : ∀ (l es : List Ent), okV l → okV es → okV (l.foldl putE es)
  | [], es, _, he => he
  | x :: l, es, hl, he => by
    have hx := hl x (by simp)
    refine fold_okV l (putE es x) (fun e h => hl e (by simp [h])) ?_
    unfold putE
    split
    · exact insE_okV es x he hx
    · exact he
theorem made_okV {l : List Ent} (h : okV l) : okV (madeE l) := fold_okV _ [] (fun e he => h e (List.mem_of_mem_take he)) (fun e he => by simp at he)
set_option maxRecDepth 100000 in
set_option maxHeartbeats 4000000 in
theorem made_any (a : Option Addr) (n cap : Nat) (es : List Ent) (w : World) (hn : n ≤ 9223372036854775807) (hl : es.length = n) (h : RdE w a es) (hok : okV es) :
    Calls Try.prog 18 #[.slice a n cap] w (P1 (madeE es) w) := by
  obtain ⟨b, off, ha, hb, hc⟩ := h.at_
  rw [hl] at ha hb
  have hni : (n : Int) ≤ 9223372036854775807 := by omega
  have HC := Lib.hid hc
  have HL := Lib.hid hl
  have HO := Lib.hid hok
  clear hc hl hok h
  go_enter Try.func18, Try.ntmps18
  go_wp2
  go_loopw [3, 4] (fun v i wr => ∃ (k m c : Nat) (d : Option Addr), i = .int .i64 k ∧ k ≤ n ∧ k ≤ 60 ∧ v = .slice d m c ∧ m ≤ k ∧ Hid (SE wr d m c (((es.take k).take 60).foldl putE [])) ∧ Hid (Below w.heap.size w wr)) (fun _ i _ => 60 - (intOf i).toNat)
  case atStart => exact ⟨0, 0, 0, none, rfl, by omega, by omega, rfl, by omega, Lib.hid ⟨rfl, .inl rfl, Nat.le_refl _, Nat.zero_le _⟩, Lib.hid (Below.refl _ _)⟩
  case round =>
    obtain ⟨k, m, c, d, rfl, hk, hk60, rfl, hm, HS, HW⟩ := hrel
    by_cases hlt : k < n
    · have hki : (k : Int) < (n : Int) := by omega
      by_cases h60 : k < 60
      · obtain rfl := ha (by omega)
        have hbw := hb (by omega)
        have h60i : (k : Int) < 60 := by omega
        have hkl : k < es.length := by rw [HL.out]; exact hlt
        obtain ⟨g0, g1, g2, g3⟩ := HC.out.old hbw HW.out k hkl
        have o1 := HO.out _ (List.getElem_mem hkl)
        have hbr : b < wr.heap.size := Nat.lt_of_lt_of_le hbw HW.out.size
        have hsn := madeE_snoc es k hkl h60
        obtain ⟨E, hE⟩ : ∃ E, E = es[k] := ⟨_, rfl⟩
        rw [← hE] at g0 g1 g2 g3 o1 hsn
        obtain ⟨ek, evl, eg, eq⟩ := E
        have HSN := Lib.hid hsn
        have hlen : (putE (((es.take k).take 60).foldl putE []) (ek, evl, eg, eq)).length ≤ m + 1 := by
          have := HS.out.1
          have := putE_length (((es.take k).take 60).foldl putE []) (ek, evl, eg, eq)
          omega
        have HLn := Lib.hid hlen
        have HO1 := Lib.hid o1
        clear hE hsn hlen o1
        go_wp2_with fail
        refine (put1_any d m c _ ek evl eg eq _ (by omega) HS.out HO1.out.1 HO1.out.2).mono ?_
        rintro e w2 ⟨d', m', c', rfl, s2, b2⟩
        have HS2 : Hid (SE w2 d' m' c' (((es.take (k + 1)).take 60).foldl putE [])) := Lib.hid (by rw [HSN.out]; exact s2)
        have hm2 : m' ≤ k + 1 := by have := HLn.out; rw [s2.1] at this; omega
        have HW2 := Lib.hid (HW.out.trans (b2.mono HW.out.size))
        clear s2 b2
        go_wp2
        go_roundw
        case rel => exact ⟨k + 1, m', c', d', by go_num, by omega, by omega, rfl, hm2, HS2, HW2⟩
        case measure => simp [intOf]; omega
      · obtain rfl : k = 60 := by omega
        have HN : Hid (madeE es = ((es.take 60).take 60).foldl putE []) := Lib.hid (by unfold madeE; rw [List.take_take, Nat.min_self])
        go_wp2
        go_ret
        exact ⟨d, m, c, rfl, by rw [HN.out]; exact HS.out, HW.out⟩
    · obtain rfl : k = n := by omega
      have HN : Hid (madeE es = ((es.take k).take 60).foldl putE []) := Lib.hid (by unfold madeE; rw [← HL.out, List.take_length])
      go_wp2
      go_ret
      exact ⟨d, m, c, rfl, by rw [HN.out]; exact HS.out, HW.out⟩
end Go.Proofs.Ytjneigejcaahiaa
