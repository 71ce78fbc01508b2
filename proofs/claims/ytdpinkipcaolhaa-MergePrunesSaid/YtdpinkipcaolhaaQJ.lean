/-
  Texts of mine as one, in the order in which they build: Ml, Ma, Mb, Mc. Conditions: as each says.
-/
import Derived.Test.YtdpinkipcaolhaaKr
import Derived.Test.YtdpinkipcaolhaaQ4
import Derived.Test.YtdpinkipcaolhaaSf
import Derived.Test.YtdpinkipcaolhaaQm
namespace Go.Proofs.Ytdpinkipcaolhaa
open Go.RowKit
set_option linter.unusedVariables false
set_option linter.unusedSimpArgs false

theorem okB_iff {es : List Ent} : okB es = true ↔ es.length ≤ 4096 ∧ chainE zE es = true := by
  unfold okB
  simp only [Bool.and_eq_true, decide_eq_true_eq]
def liteE (e : Ent) : Bool := decide (e.1.size ≤ 100) && decide (e.2.1.size ≤ 2048)
def liteB (es : List Ent) : Bool := (es.take 60).all liteE && decide (es.length ≤ 60)
theorem lite_yes {es : List Ent} (h : liteB es = true) : es.length ≤ 60 ∧ ∀ e ∈ es, e.1.size ≤ 100 ∧ e.2.1.size ≤ 2048 := by
  unfold liteB at h
  simp only [Bool.and_eq_true, decide_eq_true_eq] at h
  refine ⟨h.2, fun e he => ?_⟩
  rw [List.take_of_length_le h.2, List.all_eq_true] at h
  have := h.1 e he
  unfold liteE at this
  simpa using this
set_option maxRecDepth 100000 in
set_option maxHeartbeats 4000000 in
theorem light_any (a : Option Addr) (n cap : Nat) (es : List Ent) (w : World) (hn : n ≤ 9223372036854775807) (hl : es.length = n) (h : RdE w a es) (hok : okV es) (r : Bool) (hr : liteB es = r) :
    Calls Try.prog 10 #[.slice a n cap] w fun e w' => e = .returned (.bool r) ∧ Below w.heap.size w w' := by
  obtain ⟨b, off, ha, hb, hc⟩ := h.at_
  rw [hl] at ha hb
  have hni : (n : Int) ≤ 9223372036854775807 := by omega
  have HC := Lib.hid hc
  have HL := Lib.hid hl
  have HO := Lib.hid hok
  have HR := Lib.hid hr
  clear hc hl hok hr h
  go_enter Try.func10, Try.ntmps10
  go_wp2
  go_loopw [3] (fun i wr => ∃ k : Nat, i = .int .i64 k ∧ k ≤ n ∧ k ≤ 60 ∧ Hid ((es.take k).all liteE = true) ∧ Hid (Below w.heap.size w wr)) (fun i _ => 60 - (intOf i).toNat)
  case atStart => exact ⟨0, rfl, by omega, by omega, Lib.hid rfl, Lib.hid (Below.refl _ _)⟩
  case round =>
    obtain ⟨k, rfl, hk, hk60, HK, HW⟩ := hrel
    by_cases hlt : k < n
    · have hki : (k : Int) < (n : Int) := by omega
      by_cases h60 : k < 60
      · obtain rfl := ha (by omega)
        have hbw := hb (by omega)
        have h60i : (k : Int) < 60 := by omega
        have hkl : k < es.length := by rw [HL.out]; exact hlt
        obtain ⟨g0, g1, g2, g3⟩ := HC.out.old hbw HW.out k hkl
        have o1 := HO.out _ (List.getElem_mem hkl)
        unfold okS at o1
        have hbr : b < wr.heap.size := Nat.lt_of_lt_of_le hbw HW.out.size
        have hnx : (es.take (k + 1)).all liteE = liteE es[k] := by rw [List.take_succ_eq_append_getElem hkl, List.all_append, HK.out]; simp
        have hno : liteE es[k] = false → liteB es = false := fun h => by
          unfold liteB
          have : (es.take 60).all liteE = false := by
            cases hb : (es.take 60).all liteE with
            | false => rfl
            | true =>
              rw [List.all_eq_true] at hb
              have := hb es[k] (List.mem_take_iff_getElem.2 ⟨k, by omega, rfl⟩)
              rw [h] at this
              cases this
          rw [this]
          rfl
        obtain ⟨E, hE⟩ : ∃ E, E = es[k] := ⟨_, rfl⟩
        rw [← hE] at g0 g1 g2 g3 o1 hnx hno
        obtain ⟨ek, evl, eg, eq⟩ := E
        clear hE
        by_cases c1 : ek.size ≤ 100
        · have c1i : (ek.size : Int) ≤ 100 := by omega
          by_cases c2 : evl.size ≤ 2048
          · have c2i : (evl.size : Int) ≤ 2048 := by omega
            have HN := Lib.hid (show (es.take (k + 1)).all liteE = true from hnx.trans (by unfold liteE; simp [c1, c2]))
            clear hnx hno
            go_wp2
            go_roundw
            case rel => exact ⟨k + 1, by go_num, by omega, by omega, HN, HW⟩
            case measure => simp [intOf]; omega
          · have c2i : (2048 : Int) < (evl.size : Int) := by omega
            have HN := Lib.hid (hno (by unfold liteE; simp [c2]))
            clear hnx hno
            go_wp2
            go_ret
            exact ⟨by rw [← HR.out, HN.out]; first | rfl | exact ret_bool (decide_eq_true (by assumption)) | exact ret_bool (by assumption), HW.out⟩
        · have c1i : (100 : Int) < (ek.size : Int) := by omega
          have HN := Lib.hid (hno (by unfold liteE; simp [c1]))
          clear hnx hno
          go_wp2
          go_ret
          exact ⟨by rw [← HR.out, HN.out]; first | rfl | exact ret_bool (decide_eq_true (by assumption)) | exact ret_bool (by assumption), HW.out⟩
      · obtain rfl : k = 60 := by omega
        have hni60 : ¬ (n : Int) ≤ 60 := by omega
        have hdn : decide ((n : Int) ≤ 60) = false := by simpa using hni60
        have HN : Hid (liteB es = false) := Lib.hid (by unfold liteB; rw [HL.out, decide_eq_false (by omega), Bool.and_false])
        go_wp2
        go_ret
        exact ⟨by rw [← HR.out, HN.out]; first | rfl | exact ret_bool (decide_eq_true (by assumption)) | exact ret_bool (by assumption), HW.out⟩
    · obtain rfl : k = n := by omega
      have hni60 : (k : Int) ≤ 60 := by omega
      have hall := HK.out
      rw [← HL.out, List.take_length] at hall
      have HN : Hid (liteB es = true) := Lib.hid (by
        unfold liteB
        rw [List.take_of_length_le (by rw [HL.out]; exact hk60), hall, HL.out, decide_eq_true hk60]
        rfl)
      clear hall
      go_wp2
      go_ret
      exact ⟨by rw [← HR.out, HN.out]; first | rfl | exact ret_bool (decide_eq_true (by assumption)) | exact ret_bool (by assumption), HW.out⟩
theorem insE_okV : ∀ (es : List Ent) (x : Ent), okV es → (okS x.1 ∧ okS x.2.1) → okV (insE es x)
  | [], x, _, hx => fun e he => by
    simp only [insE, List.mem_singleton] at he
    subst he
    exact hx
  | y :: es, x, h, hx => by
    have hy := h y (by simp)
    have hes : okV es := fun e he => h e (by simp [he])
    unfold insE
    split
    · intro e he
      rcases List.mem_cons.1 he with rfl | he
      · exact hy
      · exact insE_okV es x hes hx e he
    · split
      · intro e he
        rcases List.mem_cons.1 he with rfl | he
        · exact hx
        · exact h e he
      · intro e he
        rcases List.mem_cons.1 he with rfl | he
        · exact hx
        · exact hes e he
theorem putE_length (es : List Ent) (x : Ent) : (putE es x).length ≤ es.length + 1 := by
  unfold putE
  split
  · exact insE_length es x
  · omega
theorem fold_okV : ∀ (l es : List Ent), okV l → okV es → okV (l.foldl putE es)
  | [], es, _, he => he
  | x :: l, es, hl, he => by
    have hx := hl x (by simp)
    refine fold_okV l (putE es x) (fun e h => hl e (by simp [h])) ?_
    unfold putE
    split
    · exact insE_okV es x he hx
    · exact he
/-- Entries that may be a block's, out of any. -/
def madeT (l : List Ent) : List Ent := l.foldl putE []
theorem madeT_okV {l : List Ent} (h : okV l) : okV (madeT l) := fold_okV _ [] h (fun e he => by simp at he)
theorem madeT_ok (l : List Ent) (h : l.length ≤ 60) : okB (madeT l) = true ∧ (madeT l).length ≤ 60 := by
  obtain ⟨h1, h2⟩ := fold_made l [] rfl
  have h3 : (madeT l).length ≤ 60 := by
    unfold madeT
    simp only [List.length_nil] at h2
    omega
  exact ⟨okB_iff.2 ⟨by omega, h1⟩, h3⟩
theorem madeT_snoc (l : List Ent) (k : Nat) (h : k < l.length) : (l.take (k + 1)).foldl putE [] = putE ((l.take k).foldl putE []) l[k] := by
  rw [List.take_succ_eq_append_getElem h, List.foldl_append]
  rfl
set_option maxRecDepth 100000 in
set_option maxHeartbeats 4000000 in
theorem madeT_any (a : Option Addr) (n cap : Nat) (es : List Ent) (w : World) (hn : n ≤ 60) (hl : es.length = n) (h : RdE w a es) (hok : okV es) :
    Calls Try.prog 14 #[.slice a n cap] w (P1 (madeT es) w) := by
  obtain ⟨b, off, ha, hb, hc⟩ := h.at_
  rw [hl] at ha hb
  have HC := Lib.hid hc
  have HL := Lib.hid hl
  have HO := Lib.hid hok
  clear hc hl hok h
  go_enter Try.func14, Try.ntmps14
  go_wp2
  go_loopw [3, 4] (fun v i wr => ∃ (k m c : Nat) (d : Option Addr), i = .int .i64 k ∧ k ≤ n ∧ v = .slice d m c ∧ m ≤ k ∧ Hid (SE wr d m c ((es.take k).foldl putE [])) ∧ Hid (Below w.heap.size w wr)) (fun _ i _ => 60 - (intOf i).toNat)
  case atStart => exact ⟨0, 0, 0, none, rfl, by omega, rfl, by omega, Lib.hid ⟨rfl, .inl rfl, Nat.le_refl _, Nat.zero_le _⟩, Lib.hid (Below.refl _ _)⟩
  case round =>
    obtain ⟨k, m, c, d, rfl, hk, rfl, hm, HS, HW⟩ := hrel
    by_cases hlt : k < n
    · have hki : (k : Int) < (n : Int) := by omega
      obtain rfl := ha (by omega)
      have hbw := hb (by omega)
      have hkl : k < es.length := by rw [HL.out]; exact hlt
      obtain ⟨g0, g1, g2, g3⟩ := HC.out.old hbw HW.out k hkl
      have o1 := HO.out _ (List.getElem_mem hkl)
      have hbr : b < wr.heap.size := Nat.lt_of_lt_of_le hbw HW.out.size
      have hsn := madeT_snoc es k hkl
      obtain ⟨E, hE⟩ : ∃ E, E = es[k] := ⟨_, rfl⟩
      rw [← hE] at g0 g1 g2 g3 o1 hsn
      obtain ⟨ek, evl, eg, eq⟩ := E
      have HSN := Lib.hid hsn
      have hlen : (putE ((es.take k).foldl putE []) (ek, evl, eg, eq)).length ≤ m + 1 := by
        have := HS.out.1
        have := putE_length ((es.take k).foldl putE []) (ek, evl, eg, eq)
        omega
      have HLn := Lib.hid hlen
      have HO1 := Lib.hid o1
      clear hE hsn hlen o1
      go_wp2_with fail
      refine (put1_any d m c _ ek evl eg eq _ (by omega) HS.out HO1.out.1 HO1.out.2).mono ?_
      rintro e w2 ⟨d', m', c', rfl, s2, b2⟩
      have HS2 : Hid (SE w2 d' m' c' ((es.take (k + 1)).foldl putE [])) := Lib.hid (by rw [HSN.out]; exact s2)
      have hm2 : m' ≤ k + 1 := by have := HLn.out; rw [s2.1] at this; omega
      have HW2 := Lib.hid (HW.out.trans (b2.mono HW.out.size))
      clear s2 b2
      go_wp2
      go_roundw
      case rel => exact ⟨k + 1, m', c', d', by go_num, by omega, rfl, hm2, HS2, HW2⟩
      case measure => simp [intOf]; omega
    · obtain rfl : k = n := by omega
      have HN : Hid (madeT es = (es.take k).foldl putE []) := Lib.hid (by unfold madeT; rw [← HL.out, List.take_length])
      go_wp2
      go_ret
      exact ⟨d, m, c, rfl, by rw [HN.out]; exact HS.out, HW.out⟩
theorem SE.old {w w' : World} {a : Option Addr} {n cap : Nat} {es : List Ent} (h : SE w a n cap es) (hb : Below w.heap.size w w') : SE w' a n cap es := ⟨h.1, h.2.1.old hb, h.2.2.1, h.2.2.2⟩
end Go.Proofs.Ytdpinkipcaolhaa
namespace Go.Proofs.Ytdpinkipcaolhaa
open Go.RowKit
set_option linter.unusedVariables false
set_option linter.unusedSimpArgs false

/-- How two entries stand. -/
def ordE (a b : Ent) : Int := if lessE a b = true then -1 else if lessE b a = true then 1 else 0
abbrev evA (e : Ent) : Value := .agg #[.string e.1, .string e.2.1, .bool e.2.2.1, .int .i64 e.2.2.2]
set_option maxHeartbeats 1000000 in
theorem order_any (a b : Ent) (w : World) :
    Calls Try.prog 46 #[evA a, evA b] w fun e w' => e = .returned (.int .i64 (ordE a b)) ∧ Below w.heap.size w w' := by
  obtain ⟨k1, v1, g1, q1⟩ := a
  obtain ⟨k2, v2, g2, q2⟩ := b
  obtain ⟨r, hr⟩ : ∃ r, ordE (k1, v1, g1, q1) (k2, v2, g2, q2) = r := ⟨_, rfl⟩
  obtain ⟨l1, hl1⟩ : ∃ l, lessE (k1, v1, g1, q1) (k2, v2, g2, q2) = l := ⟨_, rfl⟩
  obtain ⟨l2, hl2⟩ : ∃ l, lessE (k2, v2, g2, q2) (k1, v1, g1, q1) = l := ⟨_, rfl⟩
  have HR : Hid (r = if l1 = true then -1 else if l2 = true then 1 else 0) := Lib.hid (by rw [← hr]; unfold ordE; rw [hl1, hl2])
  have C1 := Lib.hid (less_any k1 v1 g1 q1 k2 v2 g2 q2 l1 hl1)
  have C2 := Lib.hid (less_any k2 v2 g2 q2 k1 v1 g1 q1 l2 hl2)
  rw [hr]
  clear hr hl1 hl2
  go_enter Try.func46, Try.ntmps46
  go_wp2_with fail
  have bx : EBox ((w.alloc (.cells #[.string k1, .string v1, .bool g1, .int .i64 q1] 37)).alloc (.cells #[.string k2, .string v2, .bool g2, .int .i64 q2] 37)) w.heap.size k1 v1 g1 q1 := (EBox.new w _ k1 v1 g1 q1).alloc _
  have by2 := EBox.new2 w (.cells #[.string k1, .string v1, .bool g1, .int .i64 q1] 37) 37 k2 v2 g2 q2
  have b0 : Below w.heap.size w ((w.alloc (.cells #[.string k1, .string v1, .bool g1, .int .i64 q1] 37)).alloc (.cells #[.string k2, .string v2, .bool g2, .int .i64 q2] 37)) := ((Below.refl _ _).alloc (Nat.le_refl _) _).alloc (by simp) _
  generalize (w.alloc (.cells #[.string k1, .string v1, .bool g1, .int .i64 q1] 37)).alloc (.cells #[.string k2, .string v2, .bool g2, .int .i64 q2] 37) = W at *
  refine (C1.out _).mono ?_
  rintro e w1 ⟨rfl, b1⟩
  obtain ⟨_, x0, x1, x2, x3⟩ := bx.below b1
  obtain ⟨_, y0, y1, y2, y3⟩ := by2.below b1
  have HB1 := Lib.hid (b0.trans (b1.mono b0.size))
  clear b1 b0
  cases l1 with
  | true =>
    obtain rfl := HR.out
    go_wp2_with fail
    go_ret
    exact ⟨rfl, HB1.out⟩
  | false =>
    go_wp2_with fail
    refine (C2.out _).mono ?_
    rintro e w2 ⟨rfl, b2⟩
    have HB2 := Lib.hid (HB1.out.trans (b2.mono HB1.out.size))
    clear b2
    cases l2 with
    | true =>
      obtain rfl := HR.out
      go_wp2_with fail
      go_ret
      exact ⟨rfl, HB2.out⟩
    | false =>
      obtain rfl := HR.out
      go_wp2_with fail
      go_ret
      exact ⟨rfl, HB2.out⟩
/-- Lists, each with where it lies. -/
abbrev Lst := Option Addr × Nat × List Ent
def LLc (w : World) (b off : Nat) (ls : List Lst) : Prop := ∀ i (h : i < ls.length), w.cell? ⟨b, off + i, none⟩ = some (.slice ls[i].1 ls[i].2.2.length ls[i].2.1) ∧ RdE w ls[i].1 ls[i].2.2
theorem LLc.old {w w' : World} {b off : Nat} {ls : List Lst} (h : LLc w b off ls) (hb : b < w.heap.size) (hw : Below w.heap.size w w') : LLc w' b off ls :=
  fun i hi => ⟨(hw.cell (p := ⟨b, off + i, none⟩) hb).trans (h i hi).1, (h i hi).2.old hw⟩
def okLs (ls : List Lst) : Prop := ∀ x ∈ ls, okV x.2.2 ∧ x.2.2.length ≤ 4096 ∧ x.2.2.length ≤ x.2.1 ∧ x.2.1 ≤ maxLen
def mayL (ls : List Lst) : Bool := ls.all fun x => okB x.2.2
set_option maxRecDepth 100000 in
set_option maxHeartbeats 2000000 in
theorem mayBe11_any (b off n cap : Nat) (ls : List Lst) (w : World) (hn : n ≤ 9) (hl : ls.length = n) (hb : b < w.heap.size) (h : LLc w b off ls) (hok : okLs ls) :
    Calls Try.prog 26 #[.slice (some ⟨b, off, none⟩) n cap] w fun e w' => e = .returned (.bool (mayL ls)) ∧ Below w.heap.size w w' := by
  have HC := Lib.hid h
  have HL := Lib.hid hl
  have HO := Lib.hid hok
  clear h hl hok
  obtain ⟨r, hr⟩ : ∃ r, mayL ls = r := ⟨_, rfl⟩
  rw [hr]
  have HR := Lib.hid hr
  clear hr
  go_enter Try.func26, Try.ntmps26
  go_wp2_with fail
  go_loopw [7] (fun i wr => ∃ k : Nat, i = .int .i64 k ∧ k ≤ n ∧ Hid (mayL (ls.take k) = true) ∧ Hid (Below w.heap.size w wr)) (fun i _ => n - (intOf i).toNat)
  case atStart => exact ⟨0, rfl, by omega, Lib.hid rfl, Lib.hid (Below.refl _ _)⟩
  case round =>
    obtain ⟨k, rfl, hk, HK, HW⟩ := hrel
    by_cases hlt : k < n
    · have hki : (k : Int) < (n : Int) := by omega
      have hkl : k < ls.length := by rw [HL.out]; exact hlt
      obtain ⟨c0, r0⟩ := HC.out.old hb HW.out k hkl
      have o1 := HO.out _ (List.getElem_mem hkl)
      have hbr : b < wr.heap.size := Nat.lt_of_lt_of_le hb HW.out.size
      have hsn : mayL (ls.take (k + 1)) = okB ls[k].2.2 := by
        unfold mayL at HK ⊢
        rw [List.take_succ_eq_append_getElem hkl, List.all_append, HK.out]; simp
      have hno : okB ls[k].2.2 = false → r = false := fun h => by
        rw [← HR.out]
        unfold mayL
        cases hb : ls.all (fun x => okB x.2.2) with
        | false => rfl
        | true =>
          rw [List.all_eq_true] at hb
          have := hb ls[k] (List.getElem_mem hkl)
          rw [h] at this
          cases this
      obtain ⟨E, hE⟩ : ∃ E, E = ls[k] := ⟨_, rfl⟩
      rw [← hE] at c0 r0 o1 hsn hno
      obtain ⟨ea, ec, es⟩ := E
      clear hE
      simp only at c0 r0 o1 hsn hno
      obtain ⟨q, hq⟩ : ∃ q, okB es = q := ⟨_, rfl⟩
      obtain ⟨m, hm⟩ : ∃ m, es.length = m := ⟨_, rfl⟩
      rw [hq] at hsn hno
      have CC := Lib.hid (fun W (hW : Below wr.heap.size wr W) => chk9_any ea m ec es W (by have := o1.2.1; omega) hm (r0.old hW) o1.1 q hq)
      rw [hm] at c0
      have HSN := Lib.hid hsn
      have HNO := Lib.hid hno
      clear hsn hno hq hm r0 o1
      go_wp2_with fail
      refine (CC.out _ (Below.refl _ _)).mono ?_
      rintro e w2 ⟨rfl, b2⟩
      have HW2 := Lib.hid (HW.out.trans (b2.mono HW.out.size))
      clear b2
      cases q with
      | true =>
        unfold chkV
        go_wp2_with fail
        go_roundw
        case rel => exact ⟨k + 1, by go_num, hlt, HSN, HW2⟩
        case measure => simp [intOf]; omega
      | false =>
        obtain rfl := HNO.out rfl
        unfold chkV
        go_wp2_with fail
        go_ret
        exact ⟨rfl, HW2.out⟩
    · obtain rfl : k = n := by omega
      obtain rfl : r = true := by rw [← HR.out, ← HK.out, ← HL.out, List.take_length]
      go_wp2_with fail
      go_ret
      exact ⟨rfl, HW.out⟩
set_option maxRecDepth 100000 in
set_option maxHeartbeats 2000000 in
theorem rmay11_any (b off n cap : Nat) (ls : List Lst) (w : World) (hn : n ≤ 9) (hl : ls.length = n) (hb : b < w.heap.size) (h : LLc w b off ls) (hok : okLs ls) :
    Calls Try.prog 27 #[.slice (some ⟨b, off, none⟩) n cap] w fun e w' => e = .returned (.bool (mayL ls)) ∧ Below w.heap.size w w' := by
  have HC := Lib.hid h
  have HL := Lib.hid hl
  have HO := Lib.hid hok
  clear h hl hok
  obtain ⟨r, hr⟩ : ∃ r, mayL ls = r := ⟨_, rfl⟩
  rw [hr]
  have HR := Lib.hid hr
  clear hr
  go_enter Try.func27, Try.ntmps27
  go_wp2_with fail
  go_loopw [3] (fun i wr => ∃ k : Nat, i = .int .i64 k ∧ k ≤ n ∧ Hid (mayL (ls.take k) = true) ∧ Hid (Below w.heap.size w wr)) (fun i _ => n - (intOf i).toNat)
  case atStart => exact ⟨0, rfl, by omega, Lib.hid rfl, Lib.hid (Below.refl _ _)⟩
  case round =>
    obtain ⟨k, rfl, hk, HK, HW⟩ := hrel
    by_cases hlt : k < n
    · have hki : (k : Int) < (n : Int) := by omega
      have hkl : k < ls.length := by rw [HL.out]; exact hlt
      obtain ⟨c0, r0⟩ := HC.out.old hb HW.out k hkl
      have o1 := HO.out _ (List.getElem_mem hkl)
      have hbr : b < wr.heap.size := Nat.lt_of_lt_of_le hb HW.out.size
      have hsn : mayL (ls.take (k + 1)) = okB ls[k].2.2 := by
        unfold mayL at HK ⊢
        rw [List.take_succ_eq_append_getElem hkl, List.all_append, HK.out]; simp
      have hno : okB ls[k].2.2 = false → r = false := fun h => by
        rw [← HR.out]
        unfold mayL
        cases hb : ls.all (fun x => okB x.2.2) with
        | false => rfl
        | true =>
          rw [List.all_eq_true] at hb
          have := hb ls[k] (List.getElem_mem hkl)
          rw [h] at this
          cases this
      obtain ⟨E, hE⟩ : ∃ E, E = ls[k] := ⟨_, rfl⟩
      rw [← hE] at c0 r0 o1 hsn hno
      obtain ⟨ea, ec, es⟩ := E
      clear hE
      simp only at c0 r0 o1 hsn hno
      obtain ⟨q, hq⟩ : ∃ q, okB es = q := ⟨_, rfl⟩
      obtain ⟨m, hm⟩ : ∃ m, es.length = m := ⟨_, rfl⟩
      rw [hq] at hsn hno
      have CC := Lib.hid (fun W (hW : Below wr.heap.size wr W) => rchk9_any ea m ec es W (by have := o1.2.1; omega) hm (r0.old hW) o1.1 q hq)
      rw [hm] at c0
      have HSN := Lib.hid hsn
      have HNO := Lib.hid hno
      clear hsn hno hq hm r0 o1
      go_wp2_with fail
      refine (CC.out _ (Below.refl _ _)).mono ?_
      rintro e w2 ⟨rfl, b2⟩
      have HW2 := Lib.hid (HW.out.trans (b2.mono HW.out.size))
      clear b2
      cases q with
      | true =>
        unfold chkV
        go_wp2_with fail
        go_roundw
        case rel => exact ⟨k + 1, by go_num, hlt, HSN, HW2⟩
        case measure => simp [intOf]; omega
      | false =>
        obtain rfl := HNO.out rfl
        unfold chkV
        go_wp2_with fail
        go_ret
        exact ⟨rfl, HW2.out⟩
    · obtain rfl : k = n := by omega
      obtain rfl : r = true := by rw [← HR.out, ← HK.out, ← HL.out, List.take_length]
      go_wp2_with fail
      go_ret
      exact ⟨rfl, HW.out⟩
/-- Has a list an entry of this key and number? -/
def atM (k : ByteArray) (q : Int) (e : Ent) : Bool := (e.1.toList == k.toList) && decide (e.2.2.2 = q)
def hasM (es : List Ent) (k : ByteArray) (q : Int) : Bool := es.any (atM k q)
theorem atM_iff {k : ByteArray} {q : Int} {e : Ent} : atM k q e = true ↔ e.1 = k ∧ e.2.2.2 = q := by
  unfold atM
  rw [Bool.and_eq_true, beq_iff_eq, decide_eq_true_eq]
  exact ⟨fun h => ⟨ba_ext h.1, h.2⟩, fun h => ⟨by rw [h.1], h.2⟩⟩
set_option maxRecDepth 100000 in
set_option maxHeartbeats 2000000 in
theorem rhas11_any (a : Option Addr) (n cap : Nat) (es : List Ent) (k0 v0 : ByteArray) (g0 : Bool) (q0 : Int) (w : World) (hn : n ≤ 100000) (hs : SE w a n cap es) :
    Calls Try.prog 29 #[.slice a n cap, .agg #[.string k0, .string v0, .bool g0, .int .i64 q0]] w fun e w' => e = .returned (.bool (hasM es k0 q0)) ∧ Below w.heap.size w w' := by
  obtain ⟨hl, hrd, -, -⟩ := hs
  obtain ⟨b, off, ha, hb, hc⟩ := hrd.at_
  rw [hl] at ha hb
  have HC := Lib.hid hc
  have HL := Lib.hid hl
  obtain ⟨r, hr⟩ : ∃ r, hasM es k0 q0 = r := ⟨_, rfl⟩
  rw [hr]
  have HR := Lib.hid hr
  clear hr hl hc hrd
  go_enter Try.func29, Try.ntmps29
  go_wp2_with fail
  go_loopw [5] (fun i wr => ∃ k : Nat, i = .int .i64 k ∧ k ≤ n ∧ Hid (hasM (es.take k) k0 q0 = false) ∧ EBox wr w.heap.size k0 v0 g0 q0 ∧ Hid (Below w.heap.size w wr)) (fun i _ => n - (intOf i).toNat)
  case atStart => exact ⟨0, rfl, by omega, Lib.hid rfl, EBox.new _ _ _ _ _ _, Lib.hid ((Below.refl _ _).alloc (Nat.le_refl _) _)⟩
  case round =>
    obtain ⟨k, rfl, hk, HK, hx, HW⟩ := hrel
    obtain ⟨hx0, x0, x1, x2, x3⟩ := id hx
    by_cases hlt : k < n
    · have hki : (k : Int) < (n : Int) := by omega
      obtain rfl := ha (by omega)
      have hbw := hb (by omega)
      have hkl : k < es.length := by rw [HL.out]; exact hlt
      obtain ⟨c0, c1, c2, c3⟩ := HC.out.old hbw HW.out k hkl
      have hbr : b < wr.heap.size := Nat.lt_of_lt_of_le hbw HW.out.size
      have hsn : hasM (es.take (k + 1)) k0 q0 = atM k0 q0 es[k] := by
        unfold hasM at HK ⊢
        rw [List.take_succ_eq_append_getElem hkl, List.any_append, HK.out]; simp
      have hyes : atM k0 q0 es[k] = true → r = true := fun h => by
        rw [← HR.out]
        exact List.any_eq_true.2 ⟨_, List.getElem_mem hkl, h⟩
      obtain ⟨E, hE⟩ : ∃ E, E = es[k] := ⟨_, rfl⟩
      rw [← hE] at c0 c1 c2 c3 hsn hyes
      obtain ⟨ek, evl, eg, eq⟩ := E
      clear hE
      have HX := Lib.hid hx
      by_cases h1 : ek = k0
      · subst h1
        have hkk : (ek.toList == ek.toList) = true := by simp
        by_cases h2 : eq = q0
        · subst h2
          obtain rfl := hyes (atM_iff.2 ⟨rfl, rfl⟩)
          clear hsn hyes hx
          go_wp2_with fail
          go_quiet (fail)
          go_wp2_with fail
          go_ret
          exact ⟨rfl, below_drewN HW.out _⟩
        · have HSN : Hid (hasM (es.take (k + 1)) ek q0 = false) := Lib.hid (by
            rw [hsn]
            cases hq : atM ek q0 (ek, evl, eg, eq) with
            | false => rfl
            | true => exact absurd (atM_iff.1 hq).2 h2)
          clear hsn hyes hx
          go_wp2_with fail
          go_quiet (fail)
          go_wp2_with fail
          go_roundw
          case rel => exact ⟨k + 1, by go_num, hlt, HSN, HX.out.below (below_drewN (Below.refl _ _) _), Lib.hid (below_drewN HW.out _)⟩
          case measure => simp [intOf]; omega
      · have hkk : (ek.toList == k0.toList) = false := str_ne h1
        have HSN : Hid (hasM (es.take (k + 1)) k0 q0 = false) := Lib.hid (by
            rw [hsn]
            cases hq : atM k0 q0 (ek, evl, eg, eq) with
            | false => rfl
            | true => exact absurd (atM_iff.1 hq).1 h1)
        clear hsn hyes hx
        go_wp2_with fail
        go_quiet (fail)
        go_wp2_with fail
        go_roundw
        case rel => exact ⟨k + 1, by go_num, hlt, HSN, HX.out.below (below_drewN (Below.refl _ _) _), Lib.hid (below_drewN HW.out _)⟩
        case measure => simp [intOf]; omega
    · obtain rfl : k = n := by omega
      obtain rfl : r = false := by rw [← HR.out, ← HK.out, ← HL.out, List.take_length]
      go_wp2_with fail
      go_ret
      exact ⟨rfl, HW.out⟩
end Go.Proofs.Ytdpinkipcaolhaa
namespace Go.Proofs.Ytdpinkipcaolhaa
open Go.RowKit
set_option linter.unusedVariables false
set_option linter.unusedSimpArgs false

/-- Entries in strict order. -/
def PW (l : List Ent) : Prop := l.Pairwise (fun a b => lessE a b = true)
theorem chain_pw : ∀ {es : List Ent} {p : Ent}, chainE p es = true → PW es
  | [], _, _ => List.Pairwise.nil
  | e :: es, p, h => by
    have h' : chainE e es = true := by
      unfold chainE at h
      simp only [Bool.and_eq_true] at h
      exact h.2
    exact List.Pairwise.cons (chain_ahead h') (chain_pw h')
theorem pw_chain : ∀ {es : List Ent} {p : Ent}, PW es → (∀ e ∈ es, mayE e = true) → (∀ e ∈ es, lessE p e = true) → chainE p es = true
  | [], _, _, _, _ => rfl
  | e :: es, p, h, hm, hp => by
    obtain ⟨h1, h2⟩ := List.pairwise_cons.1 h
    unfold chainE
    simp only [Bool.and_eq_true]
    exact ⟨⟨hm e (by simp), hp e (by simp)⟩, pw_chain h2 (fun x hx => hm x (by simp [hx])) h1⟩
theorem pw_ok {es : List Ent} (h : PW es) (hm : ∀ e ∈ es, mayE e = true) (hl : es.length ≤ 4096) : okB es = true :=
  okB_iff.2 ⟨hl, pw_chain h hm (fun e he => zE_less (hm e he))⟩
theorem okB_pw {es : List Ent} (h : okB es = true) : PW es := chain_pw (okB_iff.1 h).2
theorem okB_may {es : List Ent} (h : okB es = true) : ∀ e ∈ es, mayE e = true := chain_may (okB_iff.1 h).2
theorem less_seq {a b : Ent} (hk : a.1 = b.1) : lessE a b = true ↔ b.2.2.2 < a.2.2.2 := by rw [less_same hk]; simp
theorem pw_at {l : List Ent} (h : PW l) {i j : Nat} (hi : i < l.length) (hj : j < l.length) (hij : i < j) : lessE l[i] l[j] = true := List.pairwise_iff_getElem.1 h i j hi hj hij
/-- Of entries in strict order what stands between two of one key has that key. -/
theorem less_mid {a b c : Ent} (h1 : lessE a b = true) (h2 : lessE b c = true) (h : a.1 = c.1) : a.1 = b.1 := by
  by_cases e : a.1 = b.1
  · exact e
  · exfalso
    rw [less_key e] at h1
    have e2 : ¬ b.1 = c.1 := fun e2 => e (h.trans e2.symm)
    rw [less_key e2, ← h] at h2
    have := ltB_asymm h1
    rw [h2] at this
    cases this
theorem likeK_iff {a b : ByteArray} : (a.toList == b.toList) = true ↔ a = b := by
  rw [beq_iff_eq]
  exact ⟨ba_ext, fun h => by rw [h]⟩
/-- Is an entry the first one of its key that is not above a number? -/
def topM (l : List Ent) (at_ : Int) (e : Ent) : Bool := decide (e.2.2.2 ≤ at_) && l.all fun x => !((x.1.toList == e.1.toList) && decide (e.2.2.2 < x.2.2.2) && decide (x.2.2.2 ≤ at_))
/-- Is it the first one of its key? -/
def maxM (l : List Ent) (e : Ent) : Bool := l.all fun x => !((x.1.toList == e.1.toList) && decide (e.2.2.2 < x.2.2.2))
/-- Is it the last one of its key? -/
def lstM (l : List Ent) (e : Ent) : Bool := l.all fun x => !((x.1.toList == e.1.toList) && decide (x.2.2.2 < e.2.2.2))
theorem topM_iff {l : List Ent} {at_ : Int} {e : Ent} : topM l at_ e = true ↔ e.2.2.2 ≤ at_ ∧ ∀ x ∈ l, x.1 = e.1 → e.2.2.2 < x.2.2.2 → at_ < x.2.2.2 := by
  unfold topM
  simp only [Bool.and_eq_true, decide_eq_true_eq, List.all_eq_true, Bool.not_eq_true', Bool.and_eq_false_iff, decide_eq_false_iff_not]
  refine and_congr Iff.rfl (forall_congr' fun x => forall_congr' fun _ => ⟨fun h hk hs => ?_, fun h => ?_⟩)
  · rcases h with (h | h) | h
    · rw [likeK_iff.2 hk] at h; cases h
    · omega
    · omega
  · by_cases hk : x.1 = e.1
    · by_cases hs : e.2.2.2 < x.2.2.2
      · have := h hk hs; exact .inr (by omega)
      · exact .inl (.inr hs)
    · exact .inl (.inl (str_ne hk))
theorem maxM_iff {l : List Ent} {e : Ent} : maxM l e = true ↔ ∀ x ∈ l, x.1 = e.1 → x.2.2.2 ≤ e.2.2.2 := by
  unfold maxM
  simp only [Bool.and_eq_true, decide_eq_true_eq, List.all_eq_true, Bool.not_eq_true', Bool.and_eq_false_iff, decide_eq_false_iff_not]
  refine forall_congr' fun x => forall_congr' fun _ => ⟨fun h hk => ?_, fun h => ?_⟩
  · rcases h with h | h
    · rw [likeK_iff.2 hk] at h; cases h
    · omega
  · by_cases hk : x.1 = e.1
    · have := h hk; exact .inr (by omega)
    · exact .inl (str_ne hk)
theorem lstM_iff {l : List Ent} {e : Ent} : lstM l e = true ↔ ∀ x ∈ l, x.1 = e.1 → e.2.2.2 ≤ x.2.2.2 := by
  unfold lstM
  simp only [Bool.and_eq_true, decide_eq_true_eq, List.all_eq_true, Bool.not_eq_true', Bool.and_eq_false_iff, decide_eq_false_iff_not]
  refine forall_congr' fun x => forall_congr' fun _ => ⟨fun h hk => ?_, fun h => ?_⟩
  · rcases h with h | h
    · rw [likeK_iff.2 hk] at h; cases h
    · omega
  · by_cases hk : x.1 = e.1
    · have := h hk; exact .inr (by omega)
    · exact .inl (str_ne hk)
abbrev Par := ByteArray × ByteArray
def parE (e : Ent) : Par := (e.1, e.2.1)
def visM (l : List Ent) (at_ : Int) : List Par := (l.filter fun e => topM l at_ e && !e.2.2.1).map parE
def sinM (l : List Ent) (at_ : Int) : List Ent := l.filter fun e => maxM l e && decide (at_ < e.2.2.2)
def kepP (l : List Ent) (pins : List Int) (e : Ent) : Bool := maxM l e || pins.any fun p => topM l p e
def kepM (l : List Ent) (pins : List Int) : List Ent := l.filter (kepP l pins)
def outP (k : List Ent) (pins : List Int) (bottom : Bool) (e : Ent) : Bool := bottom && e.2.2.1 && lstM k e && pins.all fun p => decide (e.2.2.2 ≤ p)
def outM (k : List Ent) (pins : List Int) (bottom : Bool) : List Ent := k.filter fun e => !outP k pins bottom e
def pruM (l : List Ent) (pins : List Int) (bottom : Bool) : List Ent := outM (kepM l pins) pins bottom
/-- The place of the first entry of a key that is not above a number. -/
def firstI (es : List Ent) (k : ByteArray) (at_ : Int) : Int := match es.findIdx? (isE k at_) with | some i => (i : Int) | none => -1
theorem firstI_hit {es : List Ent} {k : ByteArray} {at_ : Int} (i : Nat) (hi : i < es.length) (hno : ∀ j (h : j < es.length), j < i → isE k at_ es[j] = false) (hy : isE k at_ es[i] = true) : firstI es k at_ = i := by
  have : es.findIdx? (isE k at_) = some i := List.findIdx?_eq_some_iff_getElem.2 ⟨hi, hy, fun j hj => by rw [hno j (by omega) hj]; simp⟩
  unfold firstI
  rw [this]
theorem firstI_none {es : List Ent} {k : ByteArray} {at_ : Int} (hno : ∀ e ∈ es, isE k at_ e = false) : firstI es k at_ = -1 := by
  have : es.findIdx? (isE k at_) = none := List.findIdx?_eq_none_iff.2 hno
  unfold firstI
  rw [this]
theorem first_top {l : List Ent} (h : PW l) {at_ : Int} {i : Nat} (hi : i < l.length) : firstI l l[i].1 at_ = i ↔ topM l at_ l[i] = true := by
  rw [topM_iff]
  constructor
  · intro hf
    unfold firstI at hf
    cases hx : l.findIdx? (isE l[i].1 at_) with
    | none => rw [hx] at hf; simp at hf
    | some j =>
      rw [hx] at hf
      obtain rfl : j = i := by have hf : (j : Int) = i := hf; omega
      obtain ⟨_, h1, h2⟩ := List.findIdx?_eq_some_iff_getElem.1 hx
      refine ⟨(isE_iff.1 h1).2, fun x hxm hk hs => ?_⟩
      obtain ⟨m, hm, rfl⟩ := List.getElem_of_mem hxm
      by_cases hmj : m < j
      · have := h2 m hmj
        by_cases hle : l[m].2.2.2 ≤ at_
        · exact absurd (isE_iff.2 ⟨hk, hle⟩) this
        · omega
      · by_cases e : m = j
        · subst e; omega
        · have := (less_seq (a := l[j]) (b := l[m]) hk.symm).1 (pw_at h hi hm (by omega))
          omega
  · rintro ⟨h1, h2⟩
    refine firstI_hit i hi (fun j hj hji => ?_) (isE_iff.2 ⟨rfl, h1⟩)
    cases hq : isE l[i].1 at_ l[j] with
    | false => rfl
    | true =>
      obtain ⟨e1, e2⟩ := isE_iff.1 hq
      have := (less_seq (a := l[j]) (b := l[i]) e1).1 (pw_at h hj hi hji)
      have := h2 l[j] (List.getElem_mem hj) e1 this
      omega
theorem max_at {l : List Ent} (h : PW l) {i : Nat} (hi : i < l.length) : maxM l l[i] = true ↔ (i = 0 ∨ ∃ h0 : 0 < i, ¬ l[i - 1].1 = l[i].1) := by
  rw [maxM_iff]
  constructor
  · intro hm
    by_cases h0 : i = 0
    · exact .inl h0
    · refine .inr ⟨by omega, fun e => ?_⟩
      have h1 := (less_seq (a := l[i - 1]) (b := l[i]) e).1 (pw_at h (by omega) hi (by omega))
      have h2 := hm l[i - 1] (List.getElem_mem (by omega)) e
      omega
  · intro hc x hx hk
    obtain ⟨j, hj, rfl⟩ := List.getElem_of_mem hx
    by_cases hji : j < i
    · exfalso
      rcases hc with rfl | ⟨h0, hne⟩
      · omega
      · have h2 := pw_at h (i := i - 1) (j := i) (by omega) hi (by omega)
        by_cases e : j = i - 1
        · subst e; exact hne hk
        · have h1 := pw_at h (i := j) (j := i - 1) hj (by omega) (by omega)
          exact hne ((less_mid h1 h2 hk).symm.trans hk)
    · by_cases e : j = i
      · subst e; omega
      · have := (less_seq (a := l[i]) (b := l[j]) hk.symm).1 (pw_at h hi hj (by omega))
        omega
theorem lst_at {l : List Ent} (h : PW l) {i : Nat} (hi : i < l.length) : lstM l l[i] = true ↔ (i + 1 = l.length ∨ ∃ h1 : i + 1 < l.length, ¬ l[i + 1].1 = l[i].1) := by
  rw [lstM_iff]
  constructor
  · intro hm
    by_cases h0 : i + 1 = l.length
    · exact .inl h0
    · refine .inr ⟨by omega, fun e => ?_⟩
      have h1 := (less_seq (a := l[i]) (b := l[i + 1]) e.symm).1 (pw_at h hi (by omega) (by omega))
      have h2 := hm l[i + 1] (List.getElem_mem (by omega)) e
      omega
  · intro hc x hx hk
    obtain ⟨j, hj, rfl⟩ := List.getElem_of_mem hx
    by_cases hji : i < j
    · exfalso
      rcases hc with hl | ⟨h1, hne⟩
      · omega
      · have h2 := pw_at h (i := i) (j := i + 1) hi (by omega) (by omega)
        by_cases e : j = i + 1
        · subst e; exact hne hk
        · have h3 := pw_at h (i := i + 1) (j := j) (by omega) hj (by omega)
          exact hne (less_mid h2 h3 hk.symm).symm
    · by_cases e : j = i
      · subst e; omega
      · have := (less_seq (a := l[j]) (b := l[i]) hk).1 (pw_at h hj hi (by omega))
        omega
set_option maxRecDepth 100000 in
set_option maxHeartbeats 2000000 in
theorem rfirst11_any (a : Option Addr) (n cap : Nat) (es : List Ent) (k0 : ByteArray) (at_ : Int) (w : World) (hn : n ≤ 100000) (hl : es.length = n) (hrd : RdE w a es) :
    Calls Try.prog 35 #[.slice a n cap, .string k0, .int .i64 at_] w fun e w' => e = .returned (.int .i64 (firstI es k0 at_)) ∧ Below w.heap.size w w' := by
  obtain ⟨b, off, ha, hb, hc⟩ := hrd.at_
  rw [hl] at ha hb
  have HC := Lib.hid hc
  have HL := Lib.hid hl
  obtain ⟨r, hr⟩ : ∃ r, firstI es k0 at_ = r := ⟨_, rfl⟩
  rw [hr]
  have HR := Lib.hid hr
  clear hr hl hc hrd
  go_enter Try.func35, Try.ntmps35
  go_wp2_with fail
  go_loopw [7] (fun i wr => ∃ k : Nat, i = .int .i64 k ∧ k ≤ n ∧ Hid (∀ j (h : j < es.length), j < k → isE k0 at_ es[j] = false) ∧ Hid (Below w.heap.size w wr)) (fun i _ => n - (intOf i).toNat)
  case atStart => exact ⟨0, rfl, by omega, Lib.hid (fun j h hj => by omega), Lib.hid (Below.refl _ _)⟩
  case round =>
    obtain ⟨k, rfl, hk, HK, HW⟩ := hrel
    by_cases hlt : k < n
    · have hki : (k : Int) < (n : Int) := by omega
      obtain rfl := ha (by omega)
      have hbw := hb (by omega)
      have hkl : k < es.length := by rw [HL.out]; exact hlt
      obtain ⟨c0, c1, c2, c3⟩ := HC.out.old hbw HW.out k hkl
      have hbr : b < wr.heap.size := Nat.lt_of_lt_of_le hbw HW.out.size
      have hsn : isE k0 at_ es[k] = false → ∀ j (h : j < es.length), j < k + 1 → isE k0 at_ es[j] = false := fun hf j h hj => by
        by_cases e : j = k
        · subst e; exact hf
        · exact HK.out j h (by omega)
      have hyes : isE k0 at_ es[k] = true → r = k := fun h => by rw [← HR.out]; exact firstI_hit k hkl HK.out h
      obtain ⟨E, hE⟩ : ∃ E, E = es[k] := ⟨_, rfl⟩
      rw [← hE] at c0 c1 c2 c3 hsn hyes
      obtain ⟨ek, evl, eg, eq⟩ := E
      clear hE
      by_cases h1 : ek = k0
      · subst h1
        have hkk : (ek.toList == ek.toList) = true := by simp
        by_cases h2 : eq ≤ at_
        · obtain rfl := hyes (isE_iff.2 ⟨rfl, h2⟩)
          clear hsn hyes
          go_wp2_with fail
          go_ret
          exact ⟨rfl, HW.out⟩
        · have HSN : Hid (∀ j (h : j < es.length), j < k + 1 → isE ek at_ es[j] = false) := Lib.hid (hsn (by
            cases hq : isE ek at_ (ek, evl, eg, eq) with
            | false => rfl
            | true => exact absurd (isE_iff.1 hq).2 h2))
          clear hsn hyes
          go_wp2_with fail
          go_roundw
          case rel => exact ⟨k + 1, by go_num, hlt, HSN, HW⟩
          case measure => simp [intOf]; omega
      · have hkk : (ek.toList == k0.toList) = false := str_ne h1
        have HSN : Hid (∀ j (h : j < es.length), j < k + 1 → isE k0 at_ es[j] = false) := Lib.hid (hsn (by
            cases hq : isE k0 at_ (ek, evl, eg, eq) with
            | false => rfl
            | true => exact absurd (isE_iff.1 hq).1 h1))
        clear hsn hyes
        go_wp2_with fail
        go_roundw
        case rel => exact ⟨k + 1, by go_num, hlt, HSN, HW⟩
        case measure => simp [intOf]; omega
    · obtain rfl : k = n := by omega
      obtain rfl : r = -1 := by
        rw [← HR.out]
        refine firstI_none fun e he => ?_
        obtain ⟨j, hj, rfl⟩ := List.getElem_of_mem he
        exact HK.out j hj (by have := HL.out; omega)
      go_wp2_with fail
      go_ret
      exact ⟨rfl, HW.out⟩
end Go.Proofs.Ytdpinkipcaolhaa
namespace Go.Proofs.Ytdpinkipcaolhaa
open Go.RowKit
set_option linter.unusedVariables false
set_option linter.unusedSimpArgs false

def pv (p : Par) : List Value := [.string p.1, .string p.2]
def pv2 (ps : List Par) : List Value := ps.flatMap pv
theorem pv2_snoc (ps : List Par) (p : Par) : pv2 ps ++ pv p = pv2 (ps ++ [p]) := by simp [pv2]
theorem pv2_length (ps : List Par) : (pv2 ps).length = ps.length * 2 := by
  induction ps with
  | nil => rfl
  | cons p ps ih =>
    have : pv2 (p :: ps) = pv p ++ pv2 ps := rfl
    rw [this, List.length_append, ih, List.length_cons]
    simp [pv]
    omega
theorem pv2_get : ∀ (ps : List Par) (i : Nat) (h : i < ps.length), (pv2 ps)[i * 2]? = some (.string ps[i].1) ∧ (pv2 ps)[i * 2 + 1]? = some (.string ps[i].2)
  | [], i, h => by cases h
  | p :: ps, 0, _ => ⟨rfl, rfl⟩
  | p :: ps, i + 1, h => by
    have e : pv2 (p :: ps) = pv p ++ pv2 ps := rfl
    have hl : (pv p).length = 2 := rfl
    obtain ⟨h1, h2⟩ := pv2_get ps i (by simpa using h)
    refine ⟨?_, ?_⟩
    · rw [e, List.getElem?_append_right (by rw [hl]; omega), hl, show (i + 1) * 2 - 2 = i * 2 by omega]; exact h1
    · rw [e, List.getElem?_append_right (by rw [hl]; omega), hl, show (i + 1) * 2 + 1 - 2 = i * 2 + 1 by omega]; exact h2
def PAt (w : World) (b off : Nat) (ps : List Par) : Prop := ∀ i (h : i < ps.length), w.cell? ⟨b, off + i * 2, none⟩ = some (.string ps[i].1) ∧ w.cell? ⟨b, off + i * 2 + 1, none⟩ = some (.string ps[i].2)
def RdP (w : World) (a : Option Addr) (ps : List Par) : Prop := ps = [] ∨ ∃ b off, a = some ⟨b, off, none⟩ ∧ b < w.heap.size ∧ PAt w b off ps
theorem RdP.old {w w' : World} {a : Option Addr} {ps : List Par} (h : RdP w a ps) (hb : Below w.heap.size w w') : RdP w' a ps := by
  rcases h with h | ⟨b, off, h1, h2, h3⟩
  · exact .inl h
  · exact .inr ⟨b, off, h1, Nat.lt_of_lt_of_le h2 hb.size, fun i hi => ⟨(hb.cell (p := ⟨b, off + i * 2, none⟩) h2).trans (h3 i hi).1, (hb.cell (p := ⟨b, off + i * 2 + 1, none⟩) h2).trans (h3 i hi).2⟩⟩
theorem RdP.at_ {w : World} {a : Option Addr} {ps : List Par} (h : RdP w a ps) : ∃ b off, (0 < ps.length → a = some ⟨b, off, none⟩) ∧ (0 < ps.length → b < w.heap.size) ∧ PAt w b off ps := by
  rcases h with rfl | ⟨b, off, rfl, hb, hc⟩
  · exact ⟨0, 0, fun h => by simp at h, fun h => by simp at h, fun i hi => by simp at hi⟩
  · exact ⟨b, off, fun _ => rfl, fun _ => hb, hc⟩
/-- Pairs that a call hands back. -/
def SP (w : World) (a : Option Addr) (n cap : Nat) (ps : List Par) : Prop := ps.length = n ∧ RdP w a ps ∧ n ≤ cap
theorem own_rdp {w : World} {base n cap : Nat} {t : TypeId} {a : Option Addr} {ps : List Par} (h : w.ownsRow base t 2 (.slice a n cap) n (pv2 ps)) (hn : ps.length = n) : RdP w a ps := by
  subst hn
  by_cases h0 : ps = []
  · exact .inl h0
  · obtain ⟨g, hA⟩ : ∃ g, a = some ⟨g, 0, none⟩ := by
      rcases h.2 with ⟨_, hn⟩ | ⟨g, c, cur, hv, _⟩
      · exact absurd (List.length_eq_zero_iff.1 hn) h0
      · injection hv with hA
        exact ⟨g, hA⟩
    subst hA
    have hlt := (h.lt g rfl).2
    refine .inr ⟨g, 0, rfl, hlt, fun i hi => ?_⟩
    obtain ⟨h0, h1⟩ := pv2_get ps i hi
    have hc := h.cells (g := g) rfl
    have e' : ∀ j, (⟨g, 0, none⟩ : Addr).add j = ⟨g, 0 + j, none⟩ := by intro j; unfold Addr.add; split <;> simp_all
    have c0 := hc _ _ h0
    have c1 := hc _ _ h1
    rw [e'] at c0 c1
    exact ⟨c0, c1⟩
theorem own_sp {w : World} {base n : Nat} {v : Value} {ps : List Par} (h : w.ownsRow base 49 2 v n (pv2 ps)) (hn : ps.length = n) : ∃ a cap, v = .slice a n cap ∧ SP w a n cap ps := by
  rcases h.2 with ⟨rfl, hnil⟩ | ⟨g, cap, cur, rfl, hbg, hh, hnc, hcm, _⟩
  · have h0 : ps = [] := List.length_eq_zero_iff.1 (hn.trans hnil)
    subst h0
    have : n = 0 := by simpa using hn.symm
    subst this
    exact ⟨none, 0, rfl, rfl, .inl rfl, Nat.le_refl _⟩
  · exact ⟨_, cap, rfl, hn, own_rdp h hn, hnc⟩
theorem Try.infoPair : (Try.prog.info? 49).map (fun i => (i.zero, i.size, i.bytes)) = some (some (.agg #[.string ⟨#[]⟩, .string ⟨#[]⟩]), 2, 32) := by kernel_rfl
theorem cell_new2 (w : World) (A B : Value) (t : TypeId) : ∀ j u, [A, B][j]? = some u → (w.alloc (.cells #[A, B] t)).cell? ((⟨w.heap.size, 0, none⟩ : Addr).add j) = some u := by
  intro j u hu
  match j, hu with
  | 0, hu => simp at hu; subst hu; simp [Addr.add, go_sem]
  | 1, hu => simp at hu; subst hu; simp [Addr.add, go_sem]
/-- Pairs that are the same. -/
def PR (ps : List Par) (w : World) (e : Ending) (w' : World) : Prop := ∃ a n cap, e = .returned (.slice a n cap) ∧ SP w' a n cap ps ∧ Below w.heap.size w w'
set_option maxHeartbeats 1000000 in
theorem samep_any (a1 a2 : Option Addr) (n1 n2 c1 c2 : Nat) (ps : List Par) (w : World) (h1 : ps.length = n1) (h2 : ps.length = n2) (r1 : RdP w a1 ps) (r2 : RdP w a2 ps) (hn : n1 ≤ 100000) :
    Calls Try.prog 18 #[.slice a1 n1 c1, .slice a2 n2 c2] w fun e w' => e = .returned (.bool true) ∧ Below w.heap.size w w' := by
  obtain rfl : n1 = n2 := h1.symm.trans h2
  obtain ⟨b1, o1, e1, l1, p1⟩ := r1.at_
  obtain ⟨b2, o2, e2, l2, p2⟩ := r2.at_
  rw [h1] at e1 l1 e2 l2
  have HP1 := Lib.hid p1
  have HP2 := Lib.hid p2
  have HL := Lib.hid h1
  clear r1 r2 p1 p2 h1 h2
  go_enter Try.func18, Try.ntmps18
  go_wp2_with fail
  go_loopw [5] (fun i wr => ∃ (k d : Nat), k ≤ n1 ∧ i = .int .i64 k ∧ wr = w.drewN d) (fun i _ => n1 - (intOf i).toNat)
  case atStart => exact ⟨0, 0, by omega, rfl, rfl⟩
  case round =>
    obtain ⟨k, d, hk, rfl, rfl⟩ := hrel
    by_cases hlt : k < n1
    · have hkl : k < ps.length := by rw [HL.out]; exact hlt
      have hki : (k : Int) < (n1 : Int) := by omega
      obtain rfl := e1 (by omega)
      obtain rfl := e2 (by omega)
      have l1 := l1 (by omega)
      have l2 := l2 (by omega)
      obtain ⟨g0, g1⟩ := HP1.out k hkl
      obtain ⟨h0, h1⟩ := HP2.out k hkl
      obtain ⟨E, hE⟩ : ∃ E, E = ps[k] := ⟨_, rfl⟩
      rw [← hE] at g0 g1 h0 h1
      obtain ⟨ek, evl⟩ := E
      clear hE
      go_wp2_with fail
      go_quiet (fail)
      go_wp2_with fail
      go_roundw
      case rel => exact ⟨k + 1, _, by omega, by go_num, rfl⟩
      case measure => simp [intOf]; omega
    · obtain rfl : k = n1 := by omega
      go_wp2_with fail
      go_ret
      exact ⟨rfl, below_drewN (Below.refl _ _) _⟩
/-- What was gone over till now. -/
theorem vis_snoc (l : List Ent) (at_ : Int) (es : List Ent) (e : Ent) : ((es ++ [e]).filter fun e => topM l at_ e && !e.2.2.1).map parE = (es.filter fun e => topM l at_ e && !e.2.2.1).map parE ++ (if (topM l at_ e && !e.2.2.1) = true then [parE e] else []) := by
  rw [List.filter_append, List.map_append]
  congr 1
  cases h : (topM l at_ e && !e.2.2.1) with
  | false => simp [h]
  | true => simp [h]
set_option maxRecDepth 100000 in
set_option maxHeartbeats 4000000 in
theorem rvis11_any (a : Option Addr) (n cap : Nat) (es : List Ent) (at_ : Int) (w : World) (hn : n ≤ 9223372036854775807) (hl : es.length = n) (hrd : RdE w a es) (hok : okV es) :
    Calls Try.prog 20 #[.slice a n cap, .int .i64 at_] w (PR (if okB es = true then visM es at_ else []) w) := by
  obtain ⟨i0, hi0, hz0, hz1, hz2⟩ := info_parts Try.infoPair
  obtain ⟨b, off, ha, hb, hc⟩ := hrd.at_
  rw [hl] at ha hb
  obtain ⟨q, hq⟩ : ∃ q, okB es = q := ⟨_, rfl⟩
  have CC := Lib.hid (rchk9_any a n cap es w hn hl hrd hok q hq)
  rw [hq]
  obtain ⟨R0, hR0⟩ : ∃ R0, (if q = true then visM es at_ else []) = R0 := ⟨_, rfl⟩
  rw [hR0]
  have HR0 := Lib.hid hR0
  have HC := Lib.hid hc
  have HL := Lib.hid hl
  have HQ := Lib.hid hq
  clear hR0
  have HRD := Lib.hid hrd
  clear hc hl hq hrd hok
  go_enter Try.func20, Try.ntmps20
  go_wp2_with fail
  refine CC.out.mono ?_
  rintro e w1 ⟨rfl, b1⟩
  have HB1 := Lib.hid b1
  clear b1
  cases q with
  | false =>
    obtain rfl : R0 = [] := HR0.out.symm.trans (by simp)
    unfold chkV
    go_wp2_with fail
    go_ret
    exact ⟨none, 0, 0, rfl, ⟨rfl, .inl rfl, Nat.le_refl _⟩, HB1.out⟩
  | true =>
    obtain rfl : R0 = visM es at_ := HR0.out.symm.trans (by simp)
    have hn4 : n ≤ 4096 := by have := (okB_iff.1 HQ.out).1; have := HL.out; omega
    have HPW := Lib.hid (okB_pw HQ.out)
    unfold chkV
    go_wp2_with fail
    go_loopw [5, 6] (fun v i wr => ∃ (k m : Nat), i = .int .i64 k ∧ k ≤ n ∧ m ≤ k ∧ Hid (m = (((es.take k).filter fun e => topM es at_ e && !e.2.2.1).map parE).length ∧ wr.ownsRow w1.heap.size 49 2 v m (pv2 (((es.take k).filter fun e => topM es at_ e && !e.2.2.1).map parE))) ∧ Hid (Below w1.heap.size w1 wr)) (fun _ i _ => n - (intOf i).toNat)
    case atStart => exact ⟨0, 0, rfl, by omega, by omega, Lib.hid ⟨rfl, World.ownsRow_nil _ _ _ _⟩, Lib.hid (Below.refl _ _)⟩
    case round =>
      obtain ⟨k, m, rfl, hk, hm, HM, HW⟩ := hrel
      have hws : w1.heap.size ≤ wr.heap.size := HW.out.size
      by_cases hlt : k < n
      · have hki : (k : Int) < (n : Int) := by omega
        obtain rfl := ha (by omega)
        have hbw := hb (by omega)
        have hkl : k < es.length := by rw [HL.out]; exact hlt
        have hbw1 : b < w1.heap.size := Nat.lt_of_lt_of_le hbw HB1.out.size
        have hbel : Below w.heap.size w wr := HB1.out.trans (HW.out.mono HB1.out.size)
        obtain ⟨g0, g1, g2, g3⟩ := HC.out.old hbw hbel k hkl
        have hbr : b < wr.heap.size := Nat.lt_of_lt_of_le hbw hbel.size
        have HT := Lib.hid (first_top HPW.out (at_ := at_) hkl)
        have hs := vis_snoc es at_ (es.take k) es[k]
        rw [← List.take_succ_eq_append_getElem hkl] at hs
        obtain ⟨E, hE⟩ : ∃ E, E = es[k] := ⟨_, rfl⟩
        rw [← hE] at g0 g1 g2 g3 hs HT
        obtain ⟨ek, evl, eg, eq⟩ := E
        obtain ⟨fi, hfi⟩ : ∃ fi, firstI es ek at_ = fi := ⟨_, rfl⟩
        have CF := Lib.hid (rfirst11_any (some ⟨b, off, none⟩) n cap es ek at_ wr (by omega) HL.out (HRD.out.old hbel))
        simp only at HT
        rw [hfi] at CF HT
        obtain ⟨t, ht⟩ : ∃ t, topM es at_ (ek, evl, eg, eq) = t := ⟨_, rfl⟩
        rw [ht] at HT hs
        have HS := Lib.hid hs
        clear hE hfi ht hs hbel
        go_wp2_with fail
        refine CF.out.mono ?_
        rintro e w2 ⟨rfl, b2⟩
        have HW2 := Lib.hid (HW.out.trans (b2.mono HW.out.size))
        have HO2 := Lib.hid (below_own HM.out.2 b2)
        have HM1 := Lib.hid HM.out.1
        have g0 := (b2.cell (p := ⟨b, off + k * 4, none⟩) hbr).trans g0
        have g1 := (b2.cell (p := ⟨b, off + k * 4 + 1, none⟩) hbr).trans g1
        have g2 := (b2.cell (p := ⟨b, off + k * 4 + 2, none⟩) hbr).trans g2
        have hbr2 : b < w2.heap.size := Nat.lt_of_lt_of_le hbr b2.size
        have hws2 : w1.heap.size ≤ w2.heap.size := HW2.out.size
        clear b2 HM CF g3
        by_cases hf : fi = (k : Int)
        · obtain rfl := HT.out.1 hf
          subst hf
          cases eg with
          | true =>
            have HN := Lib.hid (show ((es.take (k + 1)).filter fun e => topM es at_ e && !e.2.2.1).map parE = ((es.take k).filter fun e => topM es at_ e && !e.2.2.1).map parE by rw [HS.out]; simp)
            go_wp2_with fail
            go_roundw
            case rel => exact ⟨k + 1, m, by go_num, hlt, by omega, Lib.hid ⟨by rw [HN.out]; exact HM1.out, by rw [HN.out]; exact HO2.out⟩, HW2⟩
            case measure => simp [intOf]; omega
          | false =>
            have HN := Lib.hid (show ((es.take (k + 1)).filter fun e => topM es at_ e && !e.2.2.1).map parE = ((es.take k).filter fun e => topM es at_ e && !e.2.2.1).map parE ++ [(ek, evl)] by rw [HS.out]; simp [parE])
            have HO := Lib.hid (And.intro g0 g1)
            go_wp2_with fail
            have bd : Below w2.heap.size w2 w2.drew := (Below.refl _ _).drew
            refine mixed_region (D := (fun w' => w'.cell? ⟨b, off + k * 4, none⟩ = some (.string ek) ∧ w'.cell? ⟨b, off + k * 4 + 1, none⟩ = some (.string evl))) [0, 1, 2, 3, 4, 5, 6, 7, 8, 9, 10, 11] [12, 13, 14] 14 (by kernel_rfl) (by kernel_rfl) (by decide) (⟨g0, g1⟩) ?_
            simp only [List.filterMap_cons, List.filterMap_nil, List.getElem?_cons_zero, List.getElem?_cons_succ]
            repeat (
              (first
               | (refine calm_move _ rfl ?_)
               | (apply calm_cons
                  · (intro w' hw'
                     first | (obtain ⟨hwa', hwb', hwc'⟩ := hw') | (obtain ⟨hwa', hwb'⟩ := hw') | skip
                     go_simp
                     first
                     | done
                     | exact rfl)))
              simp only [Act.put, Act.eval, List.setIfInBounds_toArray, List.set_cons_zero, List.set_cons_succ, Array.getD_eq_getD_getElem?, List.getElem?_toArray, List.getElem?_cons_zero, List.getElem?_cons_succ, Option.getD_some])
            refine calm_nil ?_
            refine loud_cons fun K hK => ?_
            go_wp2_with fail
            have hal : Below w2.heap.size w2 (w2.drew.alloc (.cells #[.string ek, .string evl] 49)) := bd.alloc (Nat.le_refl _) _
            refine hK _ _ (fun _ => ⟨(hal.cell (p := ⟨b, off + k * 4, none⟩) hbr2).trans HO.out.1, (hal.cell (p := ⟨b, off + k * 4 + 1, none⟩) hbr2).trans HO.out.2⟩) ?_
            clear hK K
            refine loud_cons fun K hK => ?_
            go_wp2_with (at_builtin; refine wpList_append_own _ rfl _ _ 40 rfl w1.heap.size 49 i0 (.agg #[.string ⟨#[]⟩, .string ⟨#[]⟩]) 2 32 Try.underlying40 hi0 hz0 hz1 hz2 rfl (by decide) _ _ _ rfl (below_own HO2.out hal) ⟨w2.drew.heap.size, 0, none⟩ 1 1 (pv (ek, evl)) rfl rfl ?c1 ?c2 ?c3 ?c4 ?c5 ?_)
            case c1 => exact cell_new2 _ _ _ _
            case c2 => intro u hu; simp [pv] at hu; rcases hu with rfl | rfl <;> rfl
            case c3 => unfold maxLen; omega
            case c4 => omega
            case c5 => simp [go_sem]; omega
            intro v' w3 hown3 hgrow _
            have hb3 : Below w1.heap.size w2 w3 := (hal.mono hws2).grown hgrow (by have := hal.size; omega) (fun k hk => (HO2.out.lt k hk).1)
            rw [pv2_snoc, ← HN.out] at hown3
            have HR3 := Lib.hid (And.intro (show m + 1 = (((es.take (k + 1)).filter fun e => topM es at_ e && !e.2.2.1).map parE).length by rw [HN.out, List.length_append, ← HM1.out]; rfl) hown3)
            have HB3 := Lib.hid (HW2.out.trans hb3)
            refine hK _ _ (fun _ => ⟨(hb3.cell (p := ⟨b, off + k * 4, none⟩) hbw1).trans HO.out.1, (hb3.cell (p := ⟨b, off + k * 4 + 1, none⟩) hbw1).trans HO.out.2⟩) ?_
            clear hK K hown3 hgrow hb3
            refine loud_cons fun K hK => ?_
            go_wp2_with fail
            refine hK _ _ (fun h => absurd rfl h) ?_
            clear hK K
            refine loud_nil ?_
            go_wp2_with fail
            go_roundw
            case rel => exact ⟨k + 1, m + 1, by go_num, hlt, by omega, HR3, HB3⟩
            case measure => simp [intOf]; omega
        · have htf : t = false := by
            cases t with
            | false => rfl
            | true => exact absurd (HT.out.2 rfl) hf
          subst htf
          have HN := Lib.hid (show ((es.take (k + 1)).filter fun e => topM es at_ e && !e.2.2.1).map parE = ((es.take k).filter fun e => topM es at_ e && !e.2.2.1).map parE by rw [HS.out]; simp)
          go_wp2_with fail
          go_roundw
          case rel => exact ⟨k + 1, m, by go_num, hlt, by omega, Lib.hid ⟨by rw [HN.out]; exact HM1.out, by rw [HN.out]; exact HO2.out⟩, HW2⟩
          case measure => simp [intOf]; omega
      · obtain rfl : k = n := by omega
        have HE := HM.out
        rw [← HL.out, List.take_length] at HE
        obtain ⟨a', cap', rfl, hsp⟩ := own_sp HE.2 (by rw [← HE.1])
        have HSP := Lib.hid hsp
        clear HE HM hsp
        go_wp2_with fail
        go_ret
        exact ⟨a', _, cap', rfl, HSP.out, HB1.out.trans (HW.out.mono HB1.out.size)⟩
theorem sin_snoc (P : Ent → Bool) (es : List Ent) (e : Ent) : (es ++ [e]).filter P = es.filter P ++ (if P e = true then [e] else []) := by
  rw [List.filter_append]
  congr 1
  cases h : P e with
  | false => simp [h]
  | true => simp [h]
set_option maxRecDepth 100000 in
set_option maxHeartbeats 8000000 in
theorem rsin11_any (a : Option Addr) (n cap : Nat) (es : List Ent) (at_ : Int) (w : World) (hn : n ≤ 9223372036854775807) (hl : es.length = n) (hrd : RdE w a es) (hok : okV es) :
    Calls Try.prog 22 #[.slice a n cap, .int .i64 at_] w (P1 (if okB es = true then sinM es at_ else []) w) := by
  obtain ⟨i0, hi0, hz0, hz1, hz2⟩ := info_parts Try.infoEnt
  obtain ⟨b, off, ha, hb, hc⟩ := hrd.at_
  rw [hl] at ha hb
  obtain ⟨q, hq⟩ : ∃ q, okB es = q := ⟨_, rfl⟩
  have CC := Lib.hid (rchk9_any a n cap es w hn hl hrd hok q hq)
  rw [hq]
  obtain ⟨R0, hR0⟩ : ∃ R0, (if q = true then sinM es at_ else []) = R0 := ⟨_, rfl⟩
  rw [hR0]
  have HR0 := Lib.hid hR0
  have HC := Lib.hid hc
  have HL := Lib.hid hl
  have HQ := Lib.hid hq
  clear hc hl hq hrd hok hR0
  go_enter Try.func22, Try.ntmps22
  go_wp2_with fail
  refine CC.out.mono ?_
  rintro e w1 ⟨rfl, b1⟩
  have HB1 := Lib.hid b1
  clear b1
  cases q with
  | false =>
    obtain rfl : R0 = [] := HR0.out.symm.trans (by simp)
    unfold chkV
    go_wp2_with fail
    go_ret
    exact ⟨none, 0, 0, rfl, ⟨rfl, .inl rfl, Nat.le_refl _, Nat.zero_le _⟩, HB1.out⟩
  | true =>
    obtain ⟨PP, hPP⟩ : ∃ PP : Ent → Bool, PP = fun e => maxM es e && decide (at_ < e.2.2.2) := ⟨_, rfl⟩
    have hR1 : R0 = es.filter PP := HR0.out.symm.trans (by rw [hPP]; simp [sinM])
    have HPP := Lib.hid hPP
    have HR1 := Lib.hid hR1
    have hn4 : n ≤ 4096 := by have := (okB_iff.1 HQ.out).1; have := HL.out; omega
    have HPW := Lib.hid (okB_pw HQ.out)
    clear hPP hR1
    unfold chkV
    go_wp2_with fail
    go_loopw [5, 6] (fun v i wr => ∃ (k m : Nat), i = .int .i64 k ∧ k ≤ n ∧ m ≤ k ∧ Hid (m = ((es.take k).filter PP).length ∧ wr.ownsRow w1.heap.size 37 4 v m (ev4 ((es.take k).filter PP))) ∧ Hid (Below w1.heap.size w1 wr)) (fun _ i _ => n - (intOf i).toNat)
    case atStart => exact ⟨0, 0, rfl, by omega, by omega, Lib.hid ⟨rfl, World.ownsRow_nil _ _ _ _⟩, Lib.hid (Below.refl _ _)⟩
    case round =>
      obtain ⟨k, m, rfl, hk, hm, HM, HW⟩ := hrel
      have hws : w1.heap.size ≤ wr.heap.size := HW.out.size
      by_cases hlt : k < n
      · have hki : (k : Int) < (n : Int) := by omega
        obtain rfl := ha (by omega)
        have hbw := hb (by omega)
        have hkl : k < es.length := by rw [HL.out]; exact hlt
        have hbel : Below w.heap.size w wr := HB1.out.trans (HW.out.mono HB1.out.size)
        have HAT := Lib.hid (HC.out.old hbw hbel)
        obtain ⟨g0, g1, g2, g3⟩ := HAT.out k hkl
        have hbr : b < wr.heap.size := Nat.lt_of_lt_of_le hbw hbel.size
        have HT := Lib.hid (max_at HPW.out hkl)
        have hs := sin_snoc PP (es.take k) es[k]
        rw [← List.take_succ_eq_append_getElem hkl] at hs
        obtain ⟨E, hE⟩ : ∃ E, E = es[k] := ⟨_, rfl⟩
        rw [← hE] at g0 g1 g2 g3 hs HT
        obtain ⟨ek, evl, eg, eq⟩ := E
        have HPE : Hid (PP (ek, evl, eg, eq) = (maxM es (ek, evl, eg, eq) && decide (at_ < eq))) := Lib.hid (by rw [HPP.out])
        have HS := Lib.hid hs
        clear hE hs hbel
        have main : ∀ (t : Bool), maxM es (ek, evl, eg, eq) = t → (k = 0 ∧ t = true ∨ ∃ (pk : ByteArray), 0 < k ∧ wr.cell? ⟨b, off + (k - 1) * 4, none⟩ = some (.string pk) ∧ (pk.toList == ek.toList) = !t) := by
          intro t ht
          by_cases h0 : k = 0
          · exact .inl ⟨h0, ht.symm.trans (HT.out.2 (.inl h0))⟩
          · refine .inr ⟨es[k - 1].1, by omega, (HAT.out (k - 1) (by omega)).1, ?_⟩
            by_cases he : es[k - 1].1 = ek
            · have : t = false := by
                cases t with
                | false => rfl
                | true =>
                  rcases HT.out.1 ht with h | ⟨h1, h2⟩
                  · exact absurd h h0
                  · exact absurd he h2
              subst this
              rw [he]; simp
            · have : t = true := ht.symm.trans (HT.out.2 (.inr ⟨by omega, he⟩))
              subst this
              rw [str_ne he]; rfl
        obtain ⟨t, ht⟩ : ∃ t, maxM es (ek, evl, eg, eq) = t := ⟨_, rfl⟩
        have hma := main t ht
        rw [ht] at HPE
        clear main ht HT
        rcases hma with ⟨hk0, rfl⟩ | ⟨pk, hk0, hpk, hpe⟩
        · have hkz : ((k : Int) == 0) = true := by subst hk0; rfl
          clear hk0
          by_cases h2 : at_ < eq
          · have HN := Lib.hid (show (es.take (k + 1)).filter PP = (es.take k).filter PP ++ [(ek, evl, eg, eq)] by rw [HS.out, HPE.out]; simp [h2])
            have HM1 := Lib.hid HM.out.1
            go_wp2_with fail
            go_quiet (fail)
            go_wp2_with (at_builtin; generalize hG : wpList _ _ _ _ _ _ = G)
            rw [← hG]
            clear hG
            have o1 := fun nq => (below_own HM.out.2 (below_drewN (Below.refl _ wr) nq)).alloc (.cells #[.string ek, .string evl, .bool eg, .int .i64 eq] 37)
            refine wpList_append_own _ rfl (.tmp 41) (.tmp 46) 22 rfl w1.heap.size 37 i0 (.agg #[.string ⟨#[]⟩, .string ⟨#[]⟩, .bool false, .int .i64 0]) 4 48 Try.underlying22 hi0 hz0 hz1 hz2 rfl (by decide) _ _ _ rfl (o1 _) ⟨wr.heap.size, 0, none⟩ 1 1 (ev (ek, evl, eg, eq)) rfl rfl ?c1 ?c2 ?c3 ?c4 ?c5 ?_
            case c1 => exact cell_new4 _ _ _ _ _ _
            case c2 => intro u hu; simp [ev] at hu; rcases hu with rfl | rfl | rfl | rfl <;> rfl
            case c3 => unfold maxLen; omega
            case c4 => omega
            case c5 => simp [go_sem]; omega
            intro v' w3 hown3 hgrow _
            have HB3 := Lib.hid (HW.out.trans (((below_drewN (Below.refl w1.heap.size wr) _).alloc hws _).grown hgrow (by simp [go_sem]; omega) (fun k hk => (HM.out.2.lt k hk).1)))
            rw [ev4_snoc, ← HN.out] at hown3
            have HR3 := Lib.hid (And.intro (show m + 1 = ((es.take (k + 1)).filter PP).length by rw [HN.out, List.length_append, ← HM1.out]; rfl) hown3)
            clear hown3 hgrow
            go_wp2_with fail
            go_roundw
            case rel => exact ⟨k + 1, m + 1, by go_num, by omega, by omega, HR3, HB3⟩
            case measure => simp [intOf]; omega
          · have HN := Lib.hid (show (es.take (k + 1)).filter PP = (es.take k).filter PP by rw [HS.out, HPE.out]; simp [h2])
            go_wp2_with fail
            go_quiet (fail)
            go_wp2_with fail
            go_roundw
            case rel => exact ⟨k + 1, m, by go_num, by omega, by omega, Lib.hid ⟨by rw [HN.out]; exact HM.out.1, by rw [HN.out]; exact below_own HM.out.2 (below_drewN (Below.refl _ _) _)⟩, Lib.hid (below_drewN HW.out _)⟩
            case measure => simp [intOf]; omega
        · obtain ⟨j, hj⟩ : ∃ j, k - 1 = j := ⟨_, rfl⟩
          rw [hj] at hpk
          have hkj : (k : Int) - 1 = (j : Int) := by omega
          have hjw : IntKind.i64.wrap (j : Int) = (j : Int) := i64_wrap_nat j (by omega)
          have hkz : ((k : Int) == 0) = false := by rw [beq_eq_false_iff_ne]; omega
          have hjn : (j : Int) < (n : Int) := by omega
          clear hj hk0
          cases t with
          | false =>
            have HN := Lib.hid (show (es.take (k + 1)).filter PP = (es.take k).filter PP by rw [HS.out, HPE.out]; simp)
            go_wp2_with fail
            go_quiet (fail)
            go_wp2_with fail
            go_roundw
            case rel => exact ⟨k + 1, m, by go_num, by omega, by omega, Lib.hid ⟨by rw [HN.out]; exact HM.out.1, by rw [HN.out]; exact below_own HM.out.2 (below_drewN (Below.refl _ _) _)⟩, Lib.hid (below_drewN HW.out _)⟩
            case measure => simp [intOf]; omega
          | true =>
            by_cases h2 : at_ < eq
            · have HN := Lib.hid (show (es.take (k + 1)).filter PP = (es.take k).filter PP ++ [(ek, evl, eg, eq)] by rw [HS.out, HPE.out]; simp [h2])
              have HM1 := Lib.hid HM.out.1
              go_wp2_with fail
              go_quiet (fail)
              go_wp2_with (at_builtin; generalize hG : wpList _ _ _ _ _ _ = G)
              rw [← hG]
              clear hG
              have o1 := fun nq => (below_own HM.out.2 (below_drewN (Below.refl _ wr) nq)).alloc (.cells #[.string ek, .string evl, .bool eg, .int .i64 eq] 37)
              refine wpList_append_own _ rfl (.tmp 41) (.tmp 46) 22 rfl w1.heap.size 37 i0 (.agg #[.string ⟨#[]⟩, .string ⟨#[]⟩, .bool false, .int .i64 0]) 4 48 Try.underlying22 hi0 hz0 hz1 hz2 rfl (by decide) _ _ _ rfl (o1 _) ⟨wr.heap.size, 0, none⟩ 1 1 (ev (ek, evl, eg, eq)) rfl rfl ?c1 ?c2 ?c3 ?c4 ?c5 ?_
              case c1 => exact cell_new4 _ _ _ _ _ _
              case c2 => intro u hu; simp [ev] at hu; rcases hu with rfl | rfl | rfl | rfl <;> rfl
              case c3 => unfold maxLen; omega
              case c4 => omega
              case c5 => simp [go_sem]; omega
              intro v' w3 hown3 hgrow _
              have HB3 := Lib.hid (HW.out.trans (((below_drewN (Below.refl w1.heap.size wr) _).alloc hws _).grown hgrow (by simp [go_sem]; omega) (fun k hk => (HM.out.2.lt k hk).1)))
              rw [ev4_snoc, ← HN.out] at hown3
              have HR3 := Lib.hid (And.intro (show m + 1 = ((es.take (k + 1)).filter PP).length by rw [HN.out, List.length_append, ← HM1.out]; rfl) hown3)
              clear hown3 hgrow
              go_wp2_with fail
              go_roundw
              case rel => exact ⟨k + 1, m + 1, by go_num, by omega, by omega, HR3, HB3⟩
              case measure => simp [intOf]; omega
            · have HN := Lib.hid (show (es.take (k + 1)).filter PP = (es.take k).filter PP by rw [HS.out, HPE.out]; simp [h2])
              go_wp2_with fail
              go_quiet (fail)
              go_wp2_with fail
              go_roundw
              case rel => exact ⟨k + 1, m, by go_num, by omega, by omega, Lib.hid ⟨by rw [HN.out]; exact HM.out.1, by rw [HN.out]; exact below_own HM.out.2 (below_drewN (Below.refl _ _) _)⟩, Lib.hid (below_drewN HW.out _)⟩
              case measure => simp [intOf]; omega
      · obtain rfl : k = n := by omega
        have HE := HM.out
        rw [← HL.out, List.take_length, ← HR1.out] at HE
        obtain ⟨a', cap', rfl, hsp⟩ := own_se HE.2 (by rw [← HE.1])
        have HSP := Lib.hid hsp
        clear HE HM hsp
        go_wp2_with fail
        go_ret
        exact ⟨a', _, cap', rfl, HSP.out, HB1.out.trans (HW.out.mono HB1.out.size)⟩
end Go.Proofs.Ytdpinkipcaolhaa
