/-
  Layer 9 (block), contracts of the code's each and Take. Conditions: at most 2^24 bytes.
-/
import Derived.Test.YtobhjmkaamjoeaaGreatKe
import Derived.Laws.EntriesVeiled
namespace Go.Proofs.YtobhjmkaamjoeaaGreat
set_option maxRecDepth 100000
open Go.RowKit
set_option linter.unusedVariables false
set_option linter.unusedSimpArgs false

theorem next_pk (B S R F1 F2 A : Nat) (hSR : S ≠ R) (hSF1 : S ≠ F1) (hSF2 : S ≠ F2) (hSA : S ≠ A) (hRF1 : R ≠ F1) (hRF2 : R ≠ F2) (hRA : R ≠ A) (hBS : B ≤ S) (hBR : B ≤ R) (s : ByteArray) (hs : s.size ≤ 16777216) (lk lv : ByteArray) (lg : Bool) (lq : Int) (hlk : lk.size ≤ 4096) :
    ∃ (ek ev : ByteArray) (eg : Bool) (eq : Int) (k : Nat) (ok : Bool),
      (∀ (w : World) (r : Bool), B ≤ w.heap.size → NS S R w s r → FS F1 F2 S R w → EBox w A lk lv lg lq →
        Calls Tryz.prog 110 #[.pointer (some ⟨F1, 0, none⟩), .pointer (some ⟨F2, 0, none⟩), .pointer (some ⟨A, 0, none⟩), .pointer (some ⟨R, 0, none⟩)] w fun e w' =>
          e = .returned (.agg #[.string ek, .string ev, .bool eg, .int .i64 eq]) ∧ NS S R w' (s.extract k s.size) (r && ok) ∧ KeepX (SR S R) w w' ∧ Below B w w') ∧
      oneB s.data.toList lk.data.toList = (if ok = true then some ((ek, ev, eg, eq), k) else none) ∧ k ≤ s.size ∧ ek.size ≤ 20000000 ∧ ev.size ≤ 20000000 := by
  obtain ⟨n, a, x, h1⟩ : ∃ n a x, tk s.data.toList 0 0 = (n, a, x) := ⟨_, _, _, rfl⟩
  obtain ⟨t, b, y, h2⟩ : ∃ t b y, ttR (s.data.toList.drop a) = (t, b, y) := ⟨_, _, _, rfl⟩
  obtain ⟨q, c, z, h3⟩ : ∃ q c z, tk (s.data.toList.drop (a + b)) 0 0 = (q, c, z) := ⟨_, _, _, rfl⟩
  obtain ⟨v, d, u, h4⟩ : ∃ v d u, ttR (s.data.toList.drop (a + b + c)) = (v, d, u) := ⟨_, _, _, rfl⟩
  have l1 := (tk_le h1).1
  have l2 := ttR_le h2
  have l3 := (tk_le h3).1
  have l4 := ttR_le h4
  rw [List.length_drop] at l2 l3 l4
  rw [size_list] at l1 l2 l3 l4
  have hks : (lk.data.toList.take n).length ≤ 4096 := by rw [List.length_take, size_list]; omega
  refine ⟨⟨(lk.data.toList.take n ++ t).toArray⟩, if q % 2 = 1 then ⟨#[]⟩ else ⟨v.toArray⟩, decide (q % 2 = 1), ((q / 2 : Nat) : Int), a + b + c + if q % 2 = 1 then 0 else d, _, ?_, oneB_flag h1 h2 h3 h4, ?_, ?_, ?_⟩
  · intro w r hB hn hf ha
    have h := next_any B S R F1 F2 A hSR hSF1 hSF2 hSA hRF1 hRF2 hRA hBS hBR w hB s hs r hn hf lk lv lg lq ha hlk n a x h1 t b y h2 q c z h3 v d u h4 _ rfl
    simp only [Bool.and_assoc] at h ⊢
    exact h
  · split <;> omega
  · rw [size_mkl, List.length_append]; omega
  · split
    · decide
    · rw [size_mkl]; omega

/-- What each leaves. -/
def EQ (o : Option (List Ent)) (base T0 : Nat) (w : World) (e : Ending) (w' : World) : Prop :=
  (∀ es, o = some es → e = .returned (.bool true) ∧ ∃ v, TS base T0 w' es v) ∧ (o = none → e = .returned (.bool false)) ∧ Below T0 w w'
theorem EQ_no {base T0 : Nat} {w w' : World} {e : Ending} {o : Option (List Ent)} (ho : o = none) (he : e = .returned (.bool false)) (hb : Below T0 w w') : EQ o base T0 w e w' :=
  ⟨fun es h => (by rw [ho] at h; cases h), fun _ => he, hb⟩
theorem EQ_yes {base T0 : Nat} {w w' : World} {e : Ending} {o : Option (List Ent)} {es : List Ent} {v : Value} (ho : o = some es) (he : e = .returned (.bool true)) (hv : TS base T0 w' es v) (hb : Below T0 w w') : EQ o base T0 w e w' :=
  ⟨fun fs h => (by rw [ho] at h; cases h; exact ⟨he, v, hv⟩), fun h => (by rw [ho] at h; cases h), hb⟩
theorem al_old {w : World} {o o' : Obj} {i : Nat} (h : w.heap[i]? = some o') : (w.alloc o).heap[i]? = some o' := (Lib.alloc_old w o i (heap_lt h)).trans h
theorem al_new (w : World) (o : Obj) (i : Nat) (h : i = w.heap.size) : (w.alloc o).heap[i]? = some o := by subst h; exact heap_alloc_new w o
/-- The boxes that each makes. -/
abbrev eachW (w : World) (t : ByteArray) : World :=
  ((((w.alloc (.cells #[.string t] 9)).alloc (.cells #[.bool true] 4)).alloc (.cells #[.func (.func 108) #[] #[.pointer (some ⟨w.heap.size, 0, none⟩), .pointer (some ⟨w.heap.size + 1, 0, none⟩)]] 34)).alloc
    (.cells #[.func (.func 109) #[] #[.pointer (some ⟨w.heap.size, 0, none⟩), .pointer (some ⟨w.heap.size + 1, 0, none⟩)]] 82)).alloc (.cells #[.string ⟨#[]⟩, .string ⟨#[]⟩, .bool false, .int .i64 0] 41)
theorem each_start (w : World) (t : ByteArray) : NS w.heap.size (w.heap.size + 1) (eachW w t) t true ∧ FS (w.heap.size + 1 + 1) (w.heap.size + 1 + 1 + 1) w.heap.size (w.heap.size + 1) (eachW w t) ∧
    EBox (eachW w t) (w.heap.size + 1 + 1 + 1 + 1) ⟨#[]⟩ ⟨#[]⟩ false 0 ∧ EFree (eachW w t) (w.heap.size + 1 + 1 + 1 + 1) ∧ Below w.heap.size w (eachW w t) ∧ (eachW w t).heap.size = w.heap.size + 1 + 1 + 1 + 1 + 1 := by
  have hz : (eachW w t).heap.size = w.heap.size + 1 + 1 + 1 + 1 + 1 := by simp [eachW]
  have h0 : (eachW w t).heap[w.heap.size]? = some (.cells #[.string t] 9 (0, 0)) := al_old (al_old (al_old (al_old (al_new w _ _ rfl))))
  have h1 : (eachW w t).heap[w.heap.size + 1]? = some (.cells #[.bool true] 4 (0, 0)) := al_old (al_old (al_old (al_new _ _ _ (by simp))))
  have h2 : (eachW w t).heap[w.heap.size + 1 + 1]? = some (.cells #[.func (.func 108) #[] #[.pointer (some ⟨w.heap.size, 0, none⟩), .pointer (some ⟨w.heap.size + 1, 0, none⟩)]] 34 (0, 0)) := al_old (al_old (al_new _ _ _ (by simp)))
  have h3 : (eachW w t).heap[w.heap.size + 1 + 1 + 1]? = some (.cells #[.func (.func 109) #[] #[.pointer (some ⟨w.heap.size, 0, none⟩), .pointer (some ⟨w.heap.size + 1, 0, none⟩)]] 82 (0, 0)) := al_old (al_new _ _ _ (by simp))
  have h4 : EBlk (eachW w t) (w.heap.size + 1 + 1 + 1 + 1) ⟨#[]⟩ ⟨#[]⟩ false 0 := al_new _ _ _ (by simp)
  refine ⟨⟨⟨?_, Lib.frozen_of_heap h0 0, by omega⟩, ⟨?_, Lib.frozen_of_heap h1 0, by omega⟩⟩, ⟨?_, ?_, by omega, by omega⟩, h4.box, ⟨Lib.frozen_of_heap h4 0, Lib.frozen_of_heap h4 1, Lib.frozen_of_heap h4 2, Lib.frozen_of_heap h4 3⟩, ?_, hz⟩
  · rw [Lib.cell_of_heap h0]; rfl
  · rw [Lib.cell_of_heap h1]; rfl
  · rw [Lib.cell_of_heap h2]; rfl
  · rw [Lib.cell_of_heap h3]; rfl
  · exact (((((Below.refl _ _).alloc (Nat.le_refl _) _).alloc (by simp) _).alloc (by simp; omega) _).alloc (by simp; omega) _).alloc (by simp; omega) _
set_option maxRecDepth 100000 in
set_option maxHeartbeats 8000000 in
theorem each9_any (T0 : Nat) (w : World) (t : ByteArray) (hs : t.size ≤ 16777216) (h0 : w.cell? ⟨T0, 0, none⟩ = some (.slice none 0 0)) (hf : w.frozen? ⟨T0, 0, none⟩ = false) (hT : T0 < w.heap.size) :
    Calls Tryz.prog 98 #[.string t, .func (.func 97) #[] #[.pointer (some ⟨T0, 0, none⟩)]] w (EQ (partB t.data.toList) (w.heap.size + 5) T0 w) := by
  obtain ⟨n, a, x, h1⟩ : ∃ n a x, tk t.data.toList 0 0 = (n, a, x) := ⟨_, _, _, rfl⟩
  have hal := (tk_le h1).1
  rw [size_list] at hal
  have hn62 := (tk_le h1).2
  obtain ⟨q1, q2, q3, q4, q5, q6⟩ := each_start w t
  have HT1 : Hid (∃ v, TS (w.heap.size + 5) T0 (eachW w t) [] v) := Lib.hid ⟨_, (q5.cell (p := ⟨T0, 0, none⟩) hT).trans h0, (q5.frozen (p := ⟨T0, 0, none⟩) hT).trans hf, by omega, by omega, World.ownsRow_nil _ _ _ _⟩
  have HN := Lib.hid (rnum1_any w.heap.size w.heap.size (w.heap.size + 1) (by omega) (Nat.le_refl _) (Nat.le_succ _) (eachW w t) (by omega) t hs true q1 n a x h1)
  have HQ := Lib.hid (And.intro q2 (And.intro q3 (And.intro q4 (And.intro q5 q6))))
  have H1 := Lib.hid h1
  clear q1 q2 q3 q4 q5 q6 h1 h0 hf
  go_enter Tryz.func98, Tryz.ntmps98
  go_wp2_with fail
  refine HN.out.mono ?_
  rintro e w1 ⟨rfl, n1, k1, b1⟩
  have hbase : w.heap.size + 5 = (eachW w t).heap.size := by rw [HQ.out.2.2.2.2]
  have KF : Hid (FS (w.heap.size + 1 + 1) (w.heap.size + 1 + 1 + 1) w.heap.size (w.heap.size + 1) w1) := Lib.hid (HQ.out.1.keep k1 (by unfold SR; omega) (by unfold SR; omega))
  have KA : Hid (EBox w1 (w.heap.size + 1 + 1 + 1 + 1) ⟨#[]⟩ ⟨#[]⟩ false 0 ∧ EFree w1 (w.heap.size + 1 + 1 + 1 + 1)) := Lib.hid ⟨HQ.out.2.1.keep k1 (by unfold SR; omega), HQ.out.2.2.1.keep HQ.out.2.1.2.2.2.2 k1 (by unfold SR; omega)⟩
  obtain ⟨v0, hv0⟩ := HT1.out
  have KT := Lib.hid (hv0.keep k1 (by unfold SR; omega) (fun g hg => by unfold SR; omega))
  have KB : Hid (Below T0 w w1) := Lib.hid ((HQ.out.2.2.2.1.mono (Nat.le_of_lt hT)).trans (b1.mono (Nat.le_of_lt hT)))
  have KN := Lib.hid n1
  have hws : (eachW w t).heap.size ≤ w1.heap.size := k1.2
  rw [HQ.out.2.2.2.2] at hws
  have hs1 : (t.extract a t.size).size ≤ 16777216 := by rw [ByteArray.size_extract]; omega
  have HX1 := Lib.hid (ext_drop t a hal).1
  clear n1 k1 b1 hv0 HT1 HN HQ hbase
  by_cases hx : x = 0
  · subst hx
    rw [decide_eq_true rfl, Bool.and_true] at KN
    by_cases hn4 : 4096 < n
    · have hn4i : (4096 : Int) < (n : Int) := by omega
      have HP : Hid (partB t.data.toList = none) := Lib.hid (by
        unfold partB
        rw [H1.out, if_neg]
        rintro ⟨_, h⟩
        omega)
      go_wp2
      go_ret
      exact EQ_no HP.out rfl KB.out
    · have hn4i : (n : Int) ≤ 4096 := by omega
      have HP := Lib.hid (partB_rest H1.out (by omega))
      rw [← HX1.out] at HP
      obtain ⟨X0, hX0⟩ : ∃ X0, X0 = t.extract a t.size := ⟨_, rfl⟩
      rw [← hX0] at HP KN hs1
      clear hX0 HX1 H1
      go_wp2
      go_loopw [11, 21] (fun _ i wr => ∃ (k : Nat) (X pk pv : ByteArray) (pg : Bool) (pq : Int) (ts : List Ent) (v : Value), i = .int .i64 k ∧ k ≤ n ∧ X.size ≤ 16777216 ∧ pk.size ≤ 4096 ∧ Hid (ts.length = k) ∧
        Hid (NS w.heap.size (w.heap.size + 1) wr X true) ∧ Hid (FS (w.heap.size + 1 + 1) (w.heap.size + 1 + 1 + 1) w.heap.size (w.heap.size + 1) wr) ∧ Hid (EBox wr (w.heap.size + 1 + 1 + 1 + 1) pk pv pg pq ∧ EFree wr (w.heap.size + 1 + 1 + 1 + 1)) ∧
        Hid (TS (w.heap.size + 5) T0 wr ts v) ∧ Hid (Below T0 w wr) ∧ w.heap.size + 5 ≤ wr.heap.size ∧ Hid (partB t.data.toList = (restB (n - k) X.data.toList (pk, pv, pg, pq)).map (ts ++ ·))) (fun _ i _ => n - (intOf i).toNat)
      case atStart => exact ⟨0, X0, ⟨#[]⟩, ⟨#[]⟩, false, 0, [], v0, rfl, by omega, hs1, by decide, Lib.hid rfl, KN, KF, KA, KT, KB, by omega, Lib.hid (by rw [HP.out]; simp [zE])⟩
      case round =>
        clear KN KF KA KT KB hws hs1 HP X0 v0
        obtain ⟨k, X, pk, pv, pg, pq, ts, v, rfl, hk, hXs, hpk, HL, KN, KF, KA, KT, KB, hws, HP⟩ := hrel
        by_cases hlt : k < n
        · have hki : (k : Int) < (n : Int) := by omega
          obtain ⟨ek, evl, eg, eq, j, ok, hnx, hone, hj, hek, hev⟩ := next_pk T0 w.heap.size (w.heap.size + 1) (w.heap.size + 1 + 1) (w.heap.size + 1 + 1 + 1) (w.heap.size + 1 + 1 + 1 + 1) (by omega) (by omega) (by omega) (by omega) (by omega) (by omega) (by omega) (by omega) (by omega) X hXs pk pv pg pq hpk
          have HNX := Lib.hid (hnx wr true (by omega) KN.out KF.out KA.out.1)
          have HONE := Lib.hid hone
          clear hnx hone
          go_wp2_with fail
          refine HNX.out.mono ?_
          rintro e w2 ⟨rfl, n2, k2, b2⟩
          rw [Bool.true_and] at n2
          have hw2 := k2.2
          have KF2 := Lib.hid (KF.out.keep k2 (by unfold SR; omega) (by unfold SR; omega))
          have KA2 := Lib.hid (And.intro (KA.out.1.keep k2 (by unfold SR; omega)) (KA.out.2.keep KA.out.1.2.2.2.2 k2 (by unfold SR; omega)))
          have KT2 := Lib.hid (KT.out.keep k2 (by unfold SR; omega) (fun g hg => by unfold SR; omega))
          have KB2 := Lib.hid (KB.out.trans b2)
          have KN2 := Lib.hid n2
          clear n2 k2 b2 KN KF KA KT KB HNX
          have hne1 : ¬ w.heap.size + 1 = w2.heap.size := by omega
          have hne2 : ¬ w.heap.size + 1 + 1 + 1 + 1 = w2.heap.size := by omega
          have hne3 : ¬ T0 = w2.heap.size := by omega
          cases ok with
          | false =>
            have HE : Hid (partB t.data.toList = none) := Lib.hid (by
              rw [HP.out, show n - k = (n - (k + 1)) + 1 by omega, restB_no (by have := HONE.out; simpa using this)]
              rfl)
            obtain ⟨⟨c1, c2, c3⟩, ⟨d1, d2, d3⟩⟩ := KN2.out
            go_wp2
            go_ret
            exact EQ_no HE.out rfl (KB2.out.alloc (by omega) _)
          | true =>
            obtain ⟨fb, hfb⟩ : ∃ fb, (mayE (ek, evl, eg, eq) && lessE (pk, pv, pg, pq) (ek, evl, eg, eq)) = fb := ⟨_, rfl⟩
            have HF := Lib.hid fun w => follows_any pk pv pg pq ek evl eg eq fb hfb (by unfold okS; omega) (by unfold okS; omega) w
            have HO1 : Hid (oneB X.data.toList pk.data.toList = some ((ek, evl, eg, eq), j)) := Lib.hid HONE.out
            have HFB := Lib.hid hfb
            clear hfb HONE
            obtain ⟨⟨c1, c2, c3⟩, ⟨d1, d2, d3⟩⟩ := KN2.out
            obtain ⟨x0, x1, x2, x3, x4⟩ := KA2.out.1
            go_wp2_with fail
            refine (HF.out _).mono ?_
            rintro e w3 ⟨rfl, b3⟩
            have hb23 : Below w2.heap.size w2 w3 := below_al b3
            have HE3 := Lib.hid ((EBlk.new w2 ek evl eg eq).keep' b3)
            have KN3 := Lib.hid (KN2.out.old hb23)
            have KF3 := Lib.hid (KF2.out.keep (X := fun _ => False) (KeepX.of hb23) id id)
            have KA3 := Lib.hid (And.intro (KA2.out.1.below hb23) (KA2.out.2.below KA2.out.1.2.2.2.2 hb23))
            have KT3 := Lib.hid (KT2.out.old hb23)
            have KB3 := Lib.hid (KB2.out.trans (hb23.mono (by omega)))
            have hw3 := hb23.size
            have hown : Hid (∀ g, v.ownBlock = some g → g < w2.heap.size) := Lib.hid fun g hg => (KT2.out.2.2.2.2.lt g hg).2
            clear b3 hb23 c1 c2 c3 d1 d2 d3 x0 x1 x2 x3 x4 KN2 KF2 KA2 KT2 KB2 HF
            cases fb with
            | false =>
              have HE : Hid (partB t.data.toList = none) := Lib.hid (by
                rw [HP.out, show n - k = (n - (k + 1)) + 1 by omega, restB_bad HO1.out HFB.out]
                rfl)
              go_wp2
              go_ret
              exact EQ_no HE.out rfl KB3.out
            | true =>
              have HR : Hid (partB t.data.toList = (restB (n - (k + 1)) (X.extract j X.size).data.toList (ek, evl, eg, eq)).map ((ts ++ [(ek, evl, eg, eq)]) ++ ·)) := Lib.hid (by
                rw [HP.out, show n - k = (n - (k + 1)) + 1 by omega, restB_ok HO1.out HFB.out, map_app, (ext_drop X j hj).1])
              have hXj : (X.extract j X.size).size ≤ 16777216 := by rw [(ext_drop X j hj).2]; omega
              have hek4 : ek.size ≤ 4096 := by
                have := HFB.out
                simp only [Bool.and_eq_true] at this
                have := (may_iff.1 this.1).1
                unfold keyB at this
                simp only [Bool.and_eq_true, decide_eq_true_eq] at this
                omega
              obtain ⟨x0, x1, x2, x3, x4⟩ := HE3.out.box
              have hl5 : ts.length < 100000 := by have := HL.out; omega
              go_wp2_with fail
              refine (tell9_any (w.heap.size + 5) T0 _ ek evl eg eq ts v KT3.out hl5).mono ?_
              rintro e w4 ⟨rfl, ⟨v4, t4⟩, k4, b4⟩
              have hn4x : ∀ y, y < w.heap.size + 5 → y ≠ T0 → ¬ TX T0 v y := by
                intro y hy hyT h
                rcases h with h | h
                · exact hyT h
                · have := (KT3.out.2.2.2.2.lt y h).1; omega
              have hnE : ¬ TX T0 v w2.heap.size := by
                intro h
                rcases h with h | h
                · omega
                · have := hown.out _ h; omega
              have KN4 := Lib.hid (KN3.out.keep k4 (hn4x _ (by omega) (by omega)) (hn4x _ (by omega) (by omega)))
              have KF4 := Lib.hid (KF3.out.keep k4 (hn4x _ (by omega) (by omega)) (hn4x _ (by omega) (by omega)))
              have KA4 := Lib.hid (And.intro (KA3.out.1.keep k4 (hn4x _ (by omega) (by omega))) (KA3.out.2.keep KA3.out.1.2.2.2.2 k4 (hn4x _ (by omega) (by omega))))
              have HE4 := Lib.hid (HE3.out.keepX k4 hnE)
              have KT4 := Lib.hid t4
              have KB4 := Lib.hid (KB3.out.trans b4)
              have hw4 := k4.2
              clear x0 x1 x2 x3 x4 t4 k4 b4 hn4x hnE KN3 KF3 KA3 KT3 KB3 HE3
              obtain ⟨x0, x1, x2, x3, x4⟩ := HE4.out.box
              obtain ⟨⟨y0, y1, y2, y3, y4⟩, ⟨f0, f1, f2, f3⟩⟩ := KA4.out
              have hneE : ¬ w2.heap.size = w.heap.size + 1 + 1 + 1 + 1 := by omega
              have hput : Hid (∀ a b c d, KeepX (fun y => y = w.heap.size + 1 + 1 + 1 + 1) w4 ((((w4.setCell ⟨w.heap.size + 1 + 1 + 1 + 1, 0, none⟩ a).setCell ⟨w.heap.size + 1 + 1 + 1 + 1, 1, none⟩ b).setCell ⟨w.heap.size + 1 + 1 + 1 + 1, 2, none⟩ c).setCell ⟨w.heap.size + 1 + 1 + 1 + 1, 3, none⟩ d)) :=
                Lib.hid fun a b c d => ((((KeepX.refl (fun y => y = w.heap.size + 1 + 1 + 1 + 1) w4).set (p := ⟨w.heap.size + 1 + 1 + 1 + 1, 0, none⟩) rfl a).set (p := ⟨w.heap.size + 1 + 1 + 1 + 1, 1, none⟩) rfl b).set (p := ⟨w.heap.size + 1 + 1 + 1 + 1, 2, none⟩) rfl c).set (p := ⟨w.heap.size + 1 + 1 + 1 + 1, 3, none⟩) rfl d
              have HP5 := Lib.hid (KA4.out.1.put (k' := ek) (v' := evl) (g' := eg) (q' := eq))
              have HF5 := Lib.hid ((((KA4.out.2.set ⟨w.heap.size + 1 + 1 + 1 + 1, 0, none⟩ (.string ek)).set ⟨w.heap.size + 1 + 1 + 1 + 1, 1, none⟩ (.string evl)).set ⟨w.heap.size + 1 + 1 + 1 + 1, 2, none⟩ (.bool eg)).set ⟨w.heap.size + 1 + 1 + 1 + 1, 3, none⟩ (.int .i64 eq))
              go_wp2
              go_roundw
              case rel =>
                refine ⟨k + 1, X.extract j X.size, ek, evl, eg, eq, ts ++ [(ek, evl, eg, eq)], v4, by go_num, by omega, hXj, hek4, Lib.hid (by rw [List.length_append, HL.out]; rfl), ?_, ?_, Lib.hid ⟨HP5.out, HF5.out⟩, ?_, ?_, ?_, HR⟩
                · exact Lib.hid (KN4.out.keep (hput.out _ _ _ _) (by omega) (by omega))
                · exact Lib.hid (KF4.out.keep (hput.out _ _ _ _) (by omega) (by omega))
                · exact Lib.hid (KT4.out.keep (hput.out _ _ _ _) (by omega) (fun g hg => by omega))
                · exact Lib.hid (below_put KB4.out (by omega) _ _ _ _)
                · have := (hput.out (.string ek) (.string evl) (.bool eg) (.int .i64 eq)).2; omega
              case measure => simp [intOf]; omega
        · obtain rfl : k = n := by omega
          have hp := HP.out
          rw [Nat.sub_self, restB_zero] at hp
          obtain ⟨⟨c1, c2, c3⟩, ⟨d1, d2, d3⟩⟩ := KN.out
          by_cases hX : X.data.toList = []
          · have hXe : X.toList = [] := by rw [Lib.toList_data]; exact hX
            rw [if_pos hX] at hp
            have HP2 : Hid (partB t.data.toList = some ts) := Lib.hid (by rw [hp]; simp)
            clear hp
            go_wp2
            go_ret
            exact EQ_yes HP2.out rfl KT.out KB.out
          · have hXe : ¬ X.toList = [] := by rw [Lib.toList_data]; exact hX
            have hXi : X.toList.isEmpty = false := by simpa using hXe
            rw [if_neg hX] at hp
            have HP2 : Hid (partB t.data.toList = none) := Lib.hid hp
            clear hp
            go_wp2
            go_ret
            exact EQ_no HP2.out rfl KB.out
  · have h3 := tk_err t.data.toList 0 0 (by rw [H1.out]; exact hx)
    rw [H1.out] at h3
    obtain ⟨rfl, rfl⟩ : n = 0 ∧ a = 0 := h3
    have HP : Hid (partB t.data.toList = none) := Lib.hid (by
      unfold partB
      rw [H1.out, if_neg]
      rintro ⟨h, _⟩
      exact hx h)
    rw [decide_eq_false hx, Bool.and_false] at KN
    obtain ⟨⟨c1, c2, c3⟩, ⟨d1, d2, d3⟩⟩ := KN.out
    go_wp2
    refine wp_loop_rounds 1 ?_
    rw [rounds_succ]
    go_wp2
    go_ret
    exact EQ_no HP.out rfl KB.out
end Go.Proofs.YtobhjmkaamjoeaaGreat
