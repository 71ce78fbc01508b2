/-
  Layer 9 (block), the contract of Put, of the code (its two closures write into a strings.Builder). Conditions: texts within the reach.
-/
import Derived.Test.YtobhjmkaamjoeaaGreatKc
import Derived.Test.YtobhjmkaamjoeaaGreatKb
import Derived.Test.YtobhjmkaamjoeaaGreatVx
namespace Go.Proofs.YtobhjmkaamjoeaaGreat
set_option maxRecDepth 100000
open Go.RowKit
set_option linter.unusedVariables false
set_option linter.unusedSimpArgs false

/-- An entry's box, as a block. -/
def EBlk (w : World) (x : Nat) (k v : ByteArray) (g : Bool) (q : Int) : Prop := w.heap[x]? = some (.cells #[.string k, .string v, .bool g, .int .i64 q] 41 (0, 0))
theorem EBlk.new (w : World) (k v : ByteArray) (g : Bool) (q : Int) : EBlk (w.alloc (.cells #[.string k, .string v, .bool g, .int .i64 q] 41)) w.heap.size k v g q := heap_alloc_new w _
theorem EBlk.box {w : World} {x : Nat} {k v : ByteArray} {g : Bool} {q : Int} (h : EBlk w x k v g q) : EBox w x k v g q :=
  ⟨by rw [Lib.cell_of_heap h]; rfl, by rw [Lib.cell_of_heap h]; rfl, by rw [Lib.cell_of_heap h]; rfl, by rw [Lib.cell_of_heap h]; rfl, heap_lt h⟩
theorem EBlk.keep {w w' : World} {b x : Nat} {k v : ByteArray} {g : Bool} {q : Int} (h : EBlk w x k v g q) (hx : x ≠ b) (hk : KeepT b w w') : EBlk w' x k v g q := hk.1 x _ _ _ hx h (by decide)
theorem pnum_any (B b : Nat) (l : List UInt8) (z : Int) (n : Nat) (hz : z = (n : Int)) (hn : n ≤ 4611686018427387904) (w : World) (h : Bld B b l w) (hl : l.length ≤ 100000000) (hB : B ≤ w.heap.size) :
    Calls Tryz.prog 86 #[.int .i64 z, .pointer (some ⟨b, 0, none⟩)] w fun e w' => e = .returned (.tuple #[]) ∧ Bld B b (l ++ vL n) w' ∧ Below B w w' ∧ KeepT b w w' := by
  subst hz
  have h9 := vL_len9 hn
  have H := Lib.hid h
  clear h
  go_enter Tryz.func86, Tryz.ntmps86
  go_wp2_with fail
  refine (put_code n _ hn).mono ?_
  rintro e w1 ⟨rfl, b1⟩
  have hB1 : B ≤ w1.heap.size := Nat.le_trans hB b1.size
  have HO := Lib.hid (H.out.old b1)
  have HB1 := Lib.hid (And.intro (b1.mono hB) (KeepT.of (b := b) b1))
  clear b1
  go_wp2_with fail
  refine (bwrite_any B b l ⟨(vL n).toArray⟩ _ HO.out (by rw [size_mkl]; omega) hB1).mono ?_
  rintro e w2 ⟨rfl, b2, hb2, hk2⟩
  have HW := Lib.hid (And.intro (HB1.out.1.trans hb2) (HB1.out.2.trans hk2))
  have HD := Lib.hid b2
  clear b2 hb2 hk2
  go_wp2
  go_end0
  exact ⟨rfl, HD.out, HW.out.1, HW.out.2⟩
theorem ptext_any (B b : Nat) (l : List UInt8) (s : ByteArray) (hs : s.size ≤ 262144) (w : World) (h : Bld B b l w) (hl : l.length ≤ 100000000) (hB : B ≤ w.heap.size) :
    Calls Tryz.prog 87 #[.string s, .pointer (some ⟨b, 0, none⟩)] w fun e w' => e = .returned (.tuple #[]) ∧ Bld B b (l ++ txL s.data.toList) w' ∧ Below B w w' ∧ KeepT b w w' := by
  have h9 := txL_size s.data.toList (by rw [size_list]; exact hs)
  have H := Lib.hid h
  clear h
  go_enter Tryz.func87, Tryz.ntmps87
  go_wp2_with fail
  refine (text_code s _ hs).mono ?_
  rintro e w1 ⟨rfl, b1⟩
  have hB1 : B ≤ w1.heap.size := Nat.le_trans hB b1.size
  have HO := Lib.hid (H.out.old b1)
  have HB1 := Lib.hid (And.intro (b1.mono hB) (KeepT.of (b := b) b1))
  clear b1
  go_wp2_with fail
  refine (bwrite_any B b l ⟨(txL s.data.toList).toArray⟩ _ HO.out (by rw [size_mkl]; omega) hB1).mono ?_
  rintro e w2 ⟨rfl, b2, hb2, hk2⟩
  have HW := Lib.hid (And.intro (HB1.out.1.trans hb2) (HB1.out.2.trans hk2))
  have HD := Lib.hid b2
  clear b2 hb2 hk2
  go_wp2
  go_end0
  exact ⟨rfl, HD.out, HW.out.1, HW.out.2⟩
/-- What Put leaves. -/
def PU (es : List Ent) (w : World) (e : Ending) (w' : World) : Prop :=
  e = .returned (if okB es = true then .tuple #[.string ⟨(putB es).toArray⟩, .int .i64 0] else .tuple #[.string ⟨#[]⟩, .int .i64 1]) ∧ Below w.heap.size w w'
theorem PU.yes {es : List Ent} {w w' : World} {e : Ending} (h : okB es = true) (he : e = .returned (.tuple #[.string ⟨(putB es).toArray⟩, .int .i64 0])) (hb : Below w.heap.size w w') : PU es w e w' := by
  unfold PU
  rw [if_pos h]
  exact ⟨he, hb⟩
theorem PU.no {es : List Ent} {w w' : World} {e : Ending} (h : okB es = false) (he : e = .returned (.tuple #[.string ⟨#[]⟩, .int .i64 1])) (hb : Below w.heap.size w w') : PU es w e w' := by
  unfold PU
  rw [h]
  exact ⟨he, hb⟩
theorem put9_no (a : Option Addr) (n cap : Nat) (es : List Ent) (w : World) (hn : n ≤ 9223372036854775807) (hl : es.length = n) (h : RdE w a es) (hok : okV es) (hr : okB es = false) :
    Calls Tryz.prog 48 #[.slice a n cap] w (PU es w) := by
  have HC := Lib.hid (chk9_any a n cap es w hn hl h hok _ hr)
  have HR := Lib.hid hr
  clear hl h hok hr
  go_enter Tryz.func48, Tryz.ntmps48
  go_wp2_with fail
  refine HC.out.mono ?_
  rintro e w1 ⟨rfl, b1⟩
  rw [show chkV false = 1 from rfl]
  go_wp2
  go_ret2
  exact PU.no HR.out rfl b1
theorem rest_bytes (X : ByteArray) (n : Nat) : (X.extract n X.size).data.toList = X.data.toList.drop n := by
  rw [Lib.extract_data, List.take_of_length_le]
  rw [Lib.size_eq, List.length_drop]
  exact Nat.le_refl _
set_option maxRecDepth 100000 in
set_option maxHeartbeats 4000000 in
theorem put9_yes (b off n cap : Nat) (es : List Ent) (w : World) (hl : es.length = n) (hb : 0 < n → b < w.heap.size) (hc : EAt w b off es) (a : Option Addr) (ha : 0 < n → a = some ⟨b, off, none⟩) (h : RdE w a es) (hok : okV es) (hr : okB es = true) :
    Calls Tryz.prog 48 #[.slice a n cap] w (PU es w) := by
  have hn : n ≤ 4096 := by
    unfold okB at hr
    simp only [Bool.and_eq_true, decide_eq_true_eq] at hr
    omega
  have hmay : ∀ e ∈ es, mayE e = true := by
    unfold okB at hr
    simp only [Bool.and_eq_true, decide_eq_true_eq] at hr
    exact chain_may hr.2
  have HK := Lib.hid (chk9_any a n cap es w (by omega) hl h hok _ hr)
  have HC := Lib.hid hc
  have HL := Lib.hid hl
  have HO := Lib.hid hmay
  have HR := Lib.hid hr
  clear hc hl hok hr h hmay
  go_enter Tryz.func48, Tryz.ntmps48
  go_wp2_with fail
  refine HK.out.mono ?_
  rintro e w1 ⟨rfl, b1⟩
  rw [show chkV true = 0 from rfl]
  have HB1 := Lib.hid b1
  clear b1 HK
  go_wp2_with fail
  refine (pnum_any w1.heap.size w1.heap.size [] n n rfl (by omega) _ (Bld.new w1) (by simp) (by simp)).mono ?_
  rintro e w2 ⟨rfl, d2, b2, _⟩
  have HD2 := Lib.hid d2
  have HB2 := Lib.hid ((Below.refl _ w1).alloc (Nat.le_refl _) (.cells #[.pointer none, .slice none 0 0] 74) |>.trans b2)
  clear d2 b2
  go_wp2
  go_loopw [7, 9, 10, 22] (fun v _ _ i wr => ∃ k : Nat, i = .int .i64 k ∧ k ≤ n ∧ v = .string ⟨(keyL [] (es.take k)).toArray⟩ ∧ Hid (Bld w1.heap.size w1.heap.size (vL n ++ bodyB [] (es.take k)) wr) ∧ Hid (Below w1.heap.size w1 wr)) (fun _ _ _ i _ => n - (intOf i).toNat)
  case atStart => exact ⟨0, rfl, by omega, rfl, Lib.hid (by simpa [bodyB] using HD2.out), HB2⟩
  case round =>
    obtain ⟨k, rfl, hk, rfl, HD, HW⟩ := hrel
    by_cases hlt : k < n
    · obtain rfl := ha (by omega)
      have hbw := hb (by omega)
      have hkl : k < es.length := by rw [HL.out]; exact hlt
      have hki : (k : Int) < (n : Int) := by omega
      have hB1s := HB1.out.size
      have hWs := HW.out.size
      have hbr : b < wr.heap.size := by omega
      obtain ⟨g0, g1, g2, g3⟩ := (HC.out.old hbw HB1.out).old (by omega : b < w1.heap.size) HW.out k hkl
      have hm := HO.out _ (List.getElem_mem hkl)
      have hbody := body_snoc (es.take k) [] es[k]
      rw [← List.take_succ_eq_append_getElem hkl] at hbody
      have hkey := keyL_snoc (es.take k) [] es[k]
      rw [← List.take_succ_eq_append_getElem hkl] at hkey
      have hlen := bodyB_len (es.take k) [] (fun e he => HO.out e (List.mem_of_mem_take he))
      rw [List.length_take] at hlen
      obtain ⟨E, hE⟩ : ∃ E, E = es[k] := ⟨_, rfl⟩
      rw [← hE] at g0 g1 g2 g3 hm hbody hkey
      obtain ⟨ek, evl, eg, eq⟩ := E
      obtain ⟨hk1, hv1, hg1, hq1, hq2⟩ := may_iff.1 hm
      have hk64 : ek.size ≤ 64 := by
        unfold keyB at hk1
        simp only [Bool.and_eq_true, decide_eq_true_eq] at hk1
        exact hk1.2
      obtain ⟨LK, hLK⟩ : ∃ LK, LK = keyL [] (es.take k) := ⟨_, rfl⟩
      have hLKs : LK.length ≤ 64 := by
        rw [hLK]
        by_cases h0 : k = 0
        · subst h0; simp [keyL]
        · obtain ⟨p, rfl⟩ : ∃ p, k = p + 1 := ⟨k - 1, by omega⟩
          have hpl : p < es.length := by omega
          rw [List.take_succ_eq_append_getElem hpl, keyL_snoc]
          have hmp := HO.out _ (List.getElem_mem hpl)
          generalize es[p] = P at hmp
          obtain ⟨pk, pv, pg, pq⟩ := P
          have := (may_iff.1 hmp).1
          unfold keyB at this
          simp only [Bool.and_eq_true, decide_eq_true_eq] at this
          rw [size_list]
          exact this.2
      rw [← hLK] at hbody ⊢
      obtain ⟨L, hL⟩ : ∃ L, L = vL n ++ bodyB [] (es.take k) := ⟨_, rfl⟩
      have hLs : L.length ≤ 1638410 := by
        rw [hL, List.length_append]
        have := vL_len9 (n := n) (by omega)
        have : min k es.length ≤ 4096 := by omega
        omega
      rw [← hL] at HD
      obtain ⟨c, hcc⟩ : ∃ c, comN LK ek.data.toList = c := ⟨_, rfl⟩
      have hc64 : c ≤ ek.size := by rw [← hcc, ← size_list]; exact (comN_le _ _).2
      have HCm : Hid (∀ w, Calls Tryz.prog 88 #[.string ⟨LK.toArray⟩, .string ek] w fun e w' => e = .returned (.int .i64 (c : Nat)) ∧ Below w.heap.size w w') :=
        Lib.hid (fun w => by have h := com_code ⟨LK.toArray⟩ ek w (by rw [size_mkl]; omega) (by omega); simp only [hcc] at h; exact h)
      have HKey := Lib.hid (show keyL [] (es.take (k + 1)) = ek.data.toList from hkey)
      have HBody : Hid (vL n ++ bodyB [] (es.take (k + 1)) = L ++ vL c ++ txL (ek.data.toList.drop c) ++ if eg = true then vL (2 * eq.toNat + 1) else vL (2 * eq.toNat) ++ txL evl.data.toList) := Lib.hid (by
        rw [hbody, ← List.append_assoc, ← hL]
        unfold entB
        simp only [hcc, List.append_assoc])
      have hci : (c : Int) ≤ (ek.size : Int) := by omega
      have hcn : (0 : Int) ≤ (c : Int) := by omega
      clear hbody hkey hlen hLK hL hcc hE hm hk1 hb
      go_wp2_with fail
      refine (HCm.out _).mono ?_
      rintro e w3 ⟨rfl, b3⟩
      have HE3 := Lib.hid ((EBlk.new wr ek evl eg eq).keep (b := wr.heap.size + 1) (by omega) (KeepT.of b3))
      have HD3 := Lib.hid (HD.out.old (below_al b3))
      have HW3 := Lib.hid (HW.out.trans ((below_al b3).mono hWs))
      have hs3 := HW3.out.size
      have hxb : wr.heap.size ≠ w1.heap.size := by have := HD.out.lt; omega
      clear b3 g0 g1 g2 g3 HD HW HCm
      go_wp2_with fail
      refine (pnum_any w1.heap.size w1.heap.size L c c rfl (by omega) _ HD3.out (by omega) hs3).mono ?_
      rintro e w4 ⟨rfl, d4, b4, k4⟩
      have HE4 := Lib.hid (HE3.out.keep hxb k4)
      have HD4 := Lib.hid d4
      have HW4 := Lib.hid (HW3.out.trans b4)
      have hs4 := HW4.out.size
      obtain ⟨x0, x1, x2, x3, x4⟩ := HE4.out.box
      have h9 := vL_len9 (n := c) (by omega)
      clear d4 b4 k4 HE3 HD3 HW3 hs3
      have hxz : (ek.extract c ek.size).size ≤ 262144 := by rw [ByteArray.size_extract]; omega
      have HXR := Lib.hid (rest_bytes ek c)
      go_wp2_with fail
      refine (ptext_any w1.heap.size w1.heap.size (L ++ vL c) (ek.extract c ek.size) hxz _ HD4.out (by rw [List.length_append]; omega) hs4).mono ?_
      rintro e w5 ⟨rfl, d5, b5, k5⟩
      rw [HXR.out] at d5
      have HE5 := Lib.hid (HE4.out.keep hxb k5)
      have HD5 := Lib.hid d5
      have HW5 := Lib.hid (HW4.out.trans b5)
      have hs5 := HW5.out.size
      clear x0 x1 x2 x3 x4 d5 b5 k5 HE4 HD4 HW4 hs4
      obtain ⟨x0, x1, x2, x3, x4⟩ := HE5.out.box
      have htl : (L ++ vL c ++ txL (ek.data.toList.drop c)).length ≤ 2000000 := by
        have := txL_size (ek.data.toList.drop c) (by rw [List.length_drop, size_list]; omega)
        simp only [List.length_append] at this ⊢
        omega
      obtain ⟨L5, hL5⟩ : ∃ L5, L5 = L ++ vL c ++ txL (ek.data.toList.drop c) := ⟨_, rfl⟩
      rw [← hL5] at HD5 htl HBody
      clear hL5 hxz HXR
      cases eg with
      | true =>
        go_wp2_with fail
        refine (pnum_any w1.heap.size w1.heap.size L5 _ (2 * eq.toNat + 1) ?_ (by omega) _ HD5.out (by omega) hs5).mono ?_
        · first | omega | (simp; omega)
        rintro e w6 ⟨rfl, d6, b6, k6⟩
        have HE6 := Lib.hid (HE5.out.keep hxb k6)
        have HD6 : Hid (Bld w1.heap.size w1.heap.size (vL n ++ bodyB [] (es.take (k + 1))) w6) := Lib.hid (by rw [HBody.out]; exact d6)
        have HW6 := Lib.hid (HW5.out.trans b6)
        clear x0 x1 x2 x3 x4 d6 b6 k6 HD5 HW5 HE5
        obtain ⟨x0, x1, x2, x3, x4⟩ := HE6.out.box
        go_wp2
        go_roundw
        case rel => exact ⟨k + 1, by go_num, by omega, by rw [HKey.out], HD6, HW6⟩
        case measure => simp [intOf]; omega
      | false =>
        go_wp2_with fail
        refine (pnum_any w1.heap.size w1.heap.size L5 _ (2 * eq.toNat) ?_ (by omega) _ HD5.out (by omega) hs5).mono ?_
        · first | omega | (simp; omega)
        rintro e w6 ⟨rfl, d6, b6, k6⟩
        have HE6 := Lib.hid (HE5.out.keep hxb k6)
        have HD6 := Lib.hid d6
        have HW6 := Lib.hid (HW5.out.trans b6)
        have hs6 := HW6.out.size
        have h10 := vL_len9 (n := 2 * eq.toNat) (by omega)
        clear x0 x1 x2 x3 x4 d6 b6 k6 HD5 HW5 HE5
        obtain ⟨x0, x1, x2, x3, x4⟩ := HE6.out.box
        go_wp2_with fail
        refine (ptext_any w1.heap.size w1.heap.size _ evl (by omega) _ HD6.out (by rw [List.length_append]; omega) hs6).mono ?_
        rintro e w7 ⟨rfl, d7, b7, k7⟩
        have HE7 := Lib.hid (HE6.out.keep hxb k7)
        have HD7 : Hid (Bld w1.heap.size w1.heap.size (vL n ++ bodyB [] (es.take (k + 1))) w7) := Lib.hid (by rw [HBody.out, if_neg (by decide), ← List.append_assoc]; exact d7)
        have HW7 := Lib.hid (HW6.out.trans b7)
        clear x0 x1 x2 x3 x4 d7 b7 k7 HD6 HW6 HE6
        obtain ⟨x0, x1, x2, x3, x4⟩ := HE7.out.box
        go_wp2
        go_roundw
        case rel => exact ⟨k + 1, by go_num, by omega, by rw [HKey.out], HD7, HW7⟩
        case measure => simp [intOf]; omega
    · obtain rfl : k = n := by omega
      have hh := HD.out
      rw [← HL.out, List.take_length] at hh
      have hhl := headB_len HR.out
      have HH : Hid (Bld w1.heap.size w1.heap.size (headB es) wr) := Lib.hid hh
      have hws := HW.out.size
      rw [HL.out] at hhl
      clear hh HD
      go_wp2_with fail
      refine (bstring_any _ _ _ _ HH.out hws).mono ?_
      rintro e w2 ⟨rfl, b2⟩
      have HW2 := Lib.hid (HW.out.trans b2)
      clear b2
      go_wp2_with fail
      refine (seal_code _ _ (by rw [size_mkl]; omega)).mono ?_
      rintro e w3 ⟨rfl, b3⟩
      have HW3 := Lib.hid (HB1.out.trans ((HW2.out.trans (b3.mono HW2.out.size)).mono HB1.out.size))
      go_wp2
      go_ret2
      refine PU.yes HR.out ?_ HW3.out
      have : (⟨(headB es).toArray⟩ ++ ⟨(tailL (headB es)).toArray⟩ : ByteArray) = ⟨(putB es).toArray⟩ := by
        apply ByteArray.ext
        simp [putB]
      exact congrArg Ending.returned (congrArg (fun x => Value.tuple #[.string x, .int .i64 0]) this)
theorem put9_any (a : Option Addr) (n cap : Nat) (es : List Ent) (w : World) (hn : n ≤ 9223372036854775807) (hl : es.length = n) (h : RdE w a es) (hok : okV es) :
    Calls Tryz.prog 48 #[.slice a n cap] w (PU es w) := by
  cases hr : okB es with
  | false => exact put9_no a n cap es w hn hl h hok hr
  | true =>
    obtain ⟨b, off, h1, h2, h3⟩ := h.at_
    rw [hl] at h1 h2
    exact put9_yes b off n cap es w hl h2 h3 a h1 h hok hr
end Go.Proofs.YtobhjmkaamjoeaaGreat
