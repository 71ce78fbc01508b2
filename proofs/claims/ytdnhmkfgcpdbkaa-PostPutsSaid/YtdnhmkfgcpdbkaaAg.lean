/-
  Layer 16 (post): the document's writer: operations, replies. Conditions: as each says.
-/
import Derived.Test.YtdnhmkfgcpdbkaaAf
namespace Go.Proofs.Ytdnhmkfgcpdbkaa
open Go.RowKit
set_option linter.unusedVariables false
set_option linter.unusedSimpArgs false

theorem txE_snoc (d : List Fld) (x : Fld) : txE (d ++ [x]) = txE d ++ txF x := by unfold txE; rw [List.flatMap_append]; simp
theorem okE_snoc (d : List Fld) (x : Fld) : okE (d ++ [x]) = (okE d && okF x) := by unfold okE; rw [List.all_append]; simp
theorem txE_app (d r : List Fld) : txE (d ++ r) = txE d ++ txE r := by unfold txE; rw [List.flatMap_append]
theorem okE_app (d r : List Fld) : okE (d ++ r) = (okE d && okE r) := by unfold okE; rw [List.all_append]
theorem Wr.snoc {b : Nat} {w : World} {o : List UInt8} {bad : Bool} {K : Nat} {d : List Fld} {x : Fld} (h : Wr b w (o ++ txE d ++ txF x) (bad || !okE d || !okF x) K) : Wr b w (o ++ txE (d ++ [x])) (bad || !okE (d ++ [x])) K :=
  h.to (by rw [okE_snoc]; cases bad <;> cases okE d <;> cases okF x <;> rfl) (fun _ => by rw [txE_snoc, List.append_assoc]) (Nat.le_refl _)
theorem wnumF (b : Nat) (w : World) (o : List UInt8) (bad : Bool) (K : Nat) (d : List Fld) (x : Int) (h : Wr b w (o ++ txE d) (bad || !okE d) K) (hK : K ≤ 1000000000) :
    Calls Try.prog 42 #[.pointer (some ⟨b, 0, none⟩), .int .i64 x] w fun e w' => e = .returned (.tuple #[]) ∧ KB b b w w' ∧ Wr b w' (o ++ txE (d ++ [.n 0 maxN x])) (bad || !okE (d ++ [.n 0 maxN x])) (K + 300) :=
  (wnum b w _ _ K x h hK).mono fun _ _ ⟨h1, h2, h3⟩ => ⟨h1, h2, Wr.snoc h3⟩
theorem wtxtF (b : Nat) (w : World) (o : List UInt8) (bad : Bool) (K : Nat) (d : List Fld) (x : ByteArray) (h : Wr b w (o ++ txE d) (bad || !okE d) K) (hK : K ≤ 1000000000) :
    Calls Try.prog 62 #[.pointer (some ⟨b, 0, none⟩), .string x] w fun e w' => e = .returned (.tuple #[]) ∧ KB b b w w' ∧ Wr b w' (o ++ txE (d ++ [.t x])) (bad || !okE (d ++ [.t x])) (K + 300) :=
  (wtxt b w _ _ K x h hK).mono fun _ _ ⟨h1, h2, h3⟩ => ⟨h1, h2, Wr.snoc h3⟩
theorem wflagF (b : Nat) (w : World) (o : List UInt8) (bad : Bool) (K : Nat) (d : List Fld) (x : Bool) (h : Wr b w (o ++ txE d) (bad || !okE d) K) (hK : K ≤ 1000000000) :
    Calls Try.prog 43 #[.pointer (some ⟨b, 0, none⟩), .bool x] w fun e w' => e = .returned (.tuple #[]) ∧ KB b b w w' ∧ Wr b w' (o ++ txE (d ++ [.f x])) (bad || !okE (d ++ [.f x])) (K + 300) :=
  (wflag b w _ _ K x h hK).mono fun _ _ ⟨h1, h2, h3⟩ => ⟨h1, h2, Wr.snoc (h3.to (by simp [okF]) (fun _ => rfl) (Nat.le_refl _))⟩
/-! ### lists: how far they are -/
def lsB (most : Nat) (ok : List Fld → Bool) (L : List (List Fld)) (k : Nat) : Bool := !decide (L.length ≤ most) || !(L.take k).all ok
theorem lsB_zero (most : Nat) (ok : List Fld → Bool) (L : List (List Fld)) : lsB most ok L 0 = !decide (L.length ≤ most) := by simp [lsB]
theorem lsB_succ (most : Nat) (ok : List Fld → Bool) (L : List (List Fld)) {k : Nat} (h : k < L.length) : lsB most ok L (k + 1) = (lsB most ok L k || !ok L[k]) := by
  unfold lsB
  rw [List.take_succ_eq_append_getElem h, List.all_append]
  cases (!decide (L.length ≤ most)) <;> cases ((L.take k).all ok) <;> simp
theorem lsB_all (most : Nat) (ok : List Fld → Bool) (L : List (List Fld)) : lsB most ok L L.length = !(decide (L.length ≤ most) && L.all ok) := by
  unfold lsB
  rw [List.take_length]
  cases decide (L.length ≤ most) <;> cases L.all ok <;> rfl
theorem lsB_true {most : Nat} {ok : List Fld → Bool} {L : List (List Fld)} {k : Nat} (h : lsB most ok L k = true) : (decide (L.length ≤ most) && L.all ok) = false := by
  unfold lsB at h
  by_cases h1 : L.length ≤ most
  · rw [decide_eq_true h1] at h ⊢
    simp only [Bool.not_true, Bool.false_or, Bool.not_eq_true', Bool.true_and] at h ⊢
    rw [List.all_eq_false] at h ⊢
    obtain ⟨x, hx, hn⟩ := h
    exact ⟨x, List.mem_of_mem_take hx, hn⟩
  · rw [decide_eq_false h1]; rfl
theorem txs_succ (L : List (List Fld)) {k : Nat} (h : k < L.length) : (L.take (k + 1)).flatMap txE = (L.take k).flatMap txE ++ txE L[k] := by
  rw [List.take_succ_eq_append_getElem h, List.flatMap_append]; simp
/-- A list's slice, whose row lies below b. -/
def LRb (b : Nat) (w : World) (sz : Nat) (sv : Value) (L : List (List Fld)) : Prop := ∃ a n c, sv = .slice a n c ∧ L.length = n ∧ n ≤ maxLen ∧ (L = [] ∨ ∃ rb ro, a = some ⟨rb, ro, none⟩ ∧ rb < b ∧ RowAt w rb ro sz L)
theorem LRb.keep {b : Nat} {w w' : World} {sz : Nat} {sv : Value} {L : List (List Fld)} (h : LRb b w sz sv L) (hb : Below b w w') : LRb b w' sz sv L := by
  obtain ⟨a, n, c, h1, h2, h3, h5⟩ := h
  refine ⟨a, n, c, h1, h2, h3, ?_⟩
  rcases h5 with h5 | ⟨rb, ro, h5, h6, h7⟩
  · exact .inl h5
  · exact .inr ⟨rb, ro, h5, h6, fun i hi j hj => (hb.cell (p := ⟨rb, _, none⟩) h6).trans (h7 i hi j hj)⟩
theorem LRd.b {w : World} {sz : Nat} {sv : Value} {L : List (List Fld)} (h : LRd w sz sv L) {b : Nat} {w' : World} (hw : w.heap.size ≤ b) (hb : Below w.heap.size w w') : LRb b w' sz sv L := by
  obtain ⟨a, n, c, h1, h2, h3, h5⟩ := h
  refine ⟨a, n, c, h1, h2, h3, ?_⟩
  rcases h5 with h5 | ⟨rb, ro, h5, h6, h7⟩
  · exact .inl h5
  · exact .inr ⟨rb, ro, h5, by omega, fun i hi j hj => (hb.cell (p := ⟨rb, _, none⟩) h6).trans (h7 i hi j hj)⟩
/-- What a box of a type but bytes holds, is kept. -/
theorem KB.box {b x : Nat} {w w' : World} {cs : Array Value} {T : TypeId} (hk : KB b b w w') (hx : w.heap[x]? = some (.cells cs T (0, 0))) (hT : T ≠ 5) (hxb : x ≠ b) (i : Nat) (v : Value) (hv : cs[i]? = some v) : w'.cell? ⟨x, i, none⟩ = some v := by
  have := hk.t.1 x cs T (0, 0) hxb hx hT
  unfold World.cell?
  simp only [this]
  exact hv
theorem Wr.bad? {b : Nat} {w : World} {o : List UInt8} {bad : Bool} {K : Nat} (h : Wr b w o bad K) : w.cell? ⟨b, 1, none⟩ = some (.bool bad) ∧ b < w.heap.size ∧ w.frozen? ⟨b, 1, none⟩ = false := by
  obtain ⟨s, l, h1, _⟩ := h
  exact ⟨h1.facts.2.1, h1.lt, h1.facts.2.2.2⟩
theorem wr_or {b : Nat} {w : World} {o : List UInt8} {bad : Bool} {K : Nat} (h : Wr b w o bad K) (q : Bool) : Wr b (w.setCell ⟨b, 1, none⟩ (.bool (bad || q))) o (bad || q) K ∧ KB b b w (w.setCell ⟨b, 1, none⟩ (.bool (bad || q))) := by
  obtain ⟨s, l, h1, h2, h3⟩ := h
  have := wr_bad h1 (bad || q)
  exact ⟨⟨s, l, this.1, fun c => h2 (by cases bad with | false => rfl | true => simp at c), h3⟩, this.2⟩
set_option maxRecDepth 100000 in
set_option maxHeartbeats 8000000 in
theorem wop (b : Nat) (w : World) (o : List UInt8) (bad : Bool) (K : Nat) (ok : Int) (oy ov od : ByteArray) (og : Bool) (ol oh : ByteArray) (om : Int) (xa : Option Addr) (n c : Nat) (L : List (List Fld)) (h : Wr b w o bad K) (hK : K ≤ 900000000) (hr : LRb b w 3 (.slice xa n c) L) (hs : ∀ x ∈ L, isWrite x) :
    Calls Try.prog 44 #[.pointer (some ⟨b, 0, none⟩), .agg #[.int .i64 ok, .string oy, .string ov, .string od, .bool og, .slice xa n c, .string ol, .string oh, .int .i64 om]] w fun e w' => e = .returned (.tuple #[]) ∧ KB b b w w' ∧ Wr b w' (o ++ txSg [.n 0 maxN ok, .t oy, .t ov, .t od, .f og] L [.t ol, .t oh, .n 0 maxN om]) (bad || !okSg 64 [.n 0 maxN ok, .t oy, .t ov, .t od, .f og] L [.t ol, .t oh, .n 0 maxN om]) (K + 3000000) := by
  obtain ⟨ob, hob⟩ : ∃ x, x = w.heap.size := ⟨_, rfl⟩
  obtain ⟨w1, hW1⟩ : ∃ W, W = w.alloc (.cells #[.int .i64 ok, .string oy, .string ov, .string od, .bool og, .slice xa n c, .string ol, .string oh, .int .i64 om] 26) := ⟨_, rfl⟩
  have hs1 : w1.heap.size = w.heap.size + 1 := by rw [hW1]; simp
  have hbb : Below w.heap.size w w1 := by rw [hW1]; exact (Below.refl _ w).alloc (Nat.le_refl _) _
  have hbw := h.lt
  have hx : w1.heap[ob]? = some (.cells #[.int .i64 ok, .string oy, .string ov, .string od, .bool og, .slice xa n c, .string ol, .string oh, .int .i64 om] 26 (0, 0)) := by rw [hW1, hob]; exact heap_alloc_new w _
  have HC : Hid (∀ W, KB b b w1 W → ∀ i v, (#[.int .i64 ok, .string oy, .string ov, .string od, .bool og, .slice xa n c, .string ol, .string oh, .int .i64 om] : Array Value)[i]? = some v → W.cell? ⟨ob, i, none⟩ = some v) := Lib.hid fun W hk i v hv => hk.box hx (by decide) (by omega) i v hv
  have hol : ob < w1.heap.size := by omega
  have hb1 : b < w1.heap.size := by omega
  have HW1 : Hid (Wr b w1 (o ++ txE []) (bad || !okE []) K) := Lib.hid ((h.old hbb).to (by simp [okE]) (fun _ => by simp [txE]) (Nat.le_refl _))
  have HK1 : Hid (KB b b w1 w1) := Lib.hid (KB.refl _ _ _)
  have HK0 : Hid (KB b b w w1) := Lib.hid (KB.of hbb (by omega))
  have hr1 := hr.keep (hbb.mono (by omega))
  obtain ⟨a', n', c', e1, hn, hnm, hrow⟩ := hr1
  injection e1 with e1 e2 e3
  subst e1 e2 e3
  unfold maxLen at hnm
  have HR := Lib.hid (And.intro hn (And.intro hs hrow))
  have HX := Lib.hid hob
  clear h hr hs hn hrow hs1 hbb hbw hx hob
  go_enter Try.func44, Try.ntmps44
  go_upto_region 1 with fail
  rw [← hW1, ← HX.out]
  clear hW1 HX
  have z0 := HC.out w1 HK1.out 0 _ rfl
  have hx1 : ob < w1.heap.size := Nat.lt_of_lt_of_le hol HK1.out.size
  go_wp2_with fail
  refine (wnumF b _ o bad (K + 300 * 0) ([] : List Fld) ok HW1.out (by omega)).mono ?_
  rintro e w2 ⟨rfl, hk, hw⟩
  have HK2 := Lib.hid (HK1.out.trans hk)
  have HW2 : Hid (Wr b w2 (o ++ txE [.n 0 maxN ok]) (bad || !okE [.n 0 maxN ok]) ((K + 300 * 0) + 300)) := Lib.hid hw
  clear hk hw HW1 HK1
  clear z0 hx1
  have z1 := HC.out w2 HK2.out 1 _ rfl
  have hx2 : ob < w2.heap.size := Nat.lt_of_lt_of_le hol HK2.out.size
  go_wp2_with fail
  refine (wtxtF b _ o bad (K + 300 * 1) ([.n 0 maxN ok] : List Fld) oy HW2.out (by omega)).mono ?_
  rintro e w3 ⟨rfl, hk, hw⟩
  have HK3 := Lib.hid (HK2.out.trans hk)
  have HW3 : Hid (Wr b w3 (o ++ txE [.n 0 maxN ok, .t oy]) (bad || !okE [.n 0 maxN ok, .t oy]) ((K + 300 * 1) + 300)) := Lib.hid hw
  clear hk hw HW2 HK2
  clear z1 hx2
  have z2 := HC.out w3 HK3.out 2 _ rfl
  have hx3 : ob < w3.heap.size := Nat.lt_of_lt_of_le hol HK3.out.size
  go_wp2_with fail
  refine (wtxtF b _ o bad (K + 300 * 2) ([.n 0 maxN ok, .t oy] : List Fld) ov HW3.out (by omega)).mono ?_
  rintro e w4 ⟨rfl, hk, hw⟩
  have HK4 := Lib.hid (HK3.out.trans hk)
  have HW4 : Hid (Wr b w4 (o ++ txE [.n 0 maxN ok, .t oy, .t ov]) (bad || !okE [.n 0 maxN ok, .t oy, .t ov]) ((K + 300 * 2) + 300)) := Lib.hid hw
  clear hk hw HW3 HK3
  clear z2 hx3
  have z3 := HC.out w4 HK4.out 3 _ rfl
  have hx4 : ob < w4.heap.size := Nat.lt_of_lt_of_le hol HK4.out.size
  go_wp2_with fail
  refine (wtxtF b _ o bad (K + 300 * 3) ([.n 0 maxN ok, .t oy, .t ov] : List Fld) od HW4.out (by omega)).mono ?_
  rintro e w5 ⟨rfl, hk, hw⟩
  have HK5 := Lib.hid (HK4.out.trans hk)
  have HW5 : Hid (Wr b w5 (o ++ txE [.n 0 maxN ok, .t oy, .t ov, .t od]) (bad || !okE [.n 0 maxN ok, .t oy, .t ov, .t od]) ((K + 300 * 3) + 300)) := Lib.hid hw
  clear hk hw HW4 HK4
  clear z3 hx4
  have z4 := HC.out w5 HK5.out 4 _ rfl
  have hx5 : ob < w5.heap.size := Nat.lt_of_lt_of_le hol HK5.out.size
  go_wp2_with fail
  refine (wflagF b _ o bad (K + 300 * 4) ([.n 0 maxN ok, .t oy, .t ov, .t od] : List Fld) og HW5.out (by omega)).mono ?_
  rintro e w6 ⟨rfl, hk, hw⟩
  have HK6 := Lib.hid (HK5.out.trans hk)
  have HW6 : Hid (Wr b w6 (o ++ txE [.n 0 maxN ok, .t oy, .t ov, .t od, .f og]) (bad || !okE [.n 0 maxN ok, .t oy, .t ov, .t od, .f og]) ((K + 300 * 4) + 300)) := Lib.hid hw
  clear hk hw HW5 HK5
  clear z4 hx5
  obtain ⟨o1, ho1⟩ : ∃ x, x = o ++ txE [.n 0 maxN ok, .t oy, .t ov, .t od, .f og] := ⟨_, rfl⟩
  obtain ⟨bad1, hbad1⟩ : ∃ x, x = (bad || !okE [.n 0 maxN ok, .t oy, .t ov, .t od, .f og]) := ⟨_, rfl⟩
  rw [← ho1, ← hbad1] at HW6
  have HO1 := Lib.hid (And.intro ho1 hbad1)
  clear ho1 hbad1
  have z5 := HC.out w6 HK6.out 5 _ rfl
  have hx6 : ob < w6.heap.size := Nat.lt_of_lt_of_le hol HK6.out.size
  go_wp2_with fail
  refine (wcount b _ o1 bad1 (K + 300 * 5 + 300) n 64 (by have := HW6.out; exact this.to rfl (fun _ => rfl) (by omega)) (by omega) (by omega) (by omega)).mono ?_
  rintro e w7 ⟨rfl, hk, hw⟩
  have HK7 := Lib.hid (HK6.out.trans hk)
  have HW7 : Hid (Wr b w7 (o1 ++ vL n) (bad1 || !decide (n ≤ 64)) (K + 10000)) := Lib.hid (hw.to rfl (fun _ => rfl) (by omega))
  clear hk hw HW6 HK6 z5 hx6
  have z5 := HC.out w7 HK7.out 5 _ rfl
  have hx7 : ob < w7.heap.size := Nat.lt_of_lt_of_le hol HK7.out.size
  go_wp2_with fail
  clear z5 hx7
  go_loopw [4] (fun i wr => ∃ k : Nat, i = .int .i64 k ∧ k ≤ n ∧ Hid (k = 0 ∨ n ≤ 64) ∧ Hid (Wr b wr (o1 ++ vL n ++ (L.take k).flatMap txE) (bad1 || lsB 64 okE L k) ((K + 10000) + 3000 * k)) ∧ Hid (KB b b w1 wr)) (fun i _ => n - (intOf i).toNat)
  case atStart => exact ⟨0, by first | rfl | go_num, by omega, Lib.hid (.inl rfl), Lib.hid (HW7.out.to (by rw [lsB_zero, HR.out.1]) (fun _ => by simp) (by omega)), HK7⟩
  case round =>
    obtain ⟨k, rfl, hk, HKM, HWr, HKr⟩ := hrel
    obtain ⟨qb, hqb⟩ : ∃ q, q = (bad1 || lsB 64 okE L k) := ⟨_, rfl⟩
    rw [← hqb] at HWr
    have HQB := Lib.hid hqb
    clear hqb
    obtain ⟨bz, hbl, hbf⟩ := HWr.out.bad?
    have m1 := HC.out wr HKr.out 5 _ rfl
    have hxw : ob < wr.heap.size := Nat.lt_of_lt_of_le hol HKr.out.size
    by_cases hlt : k < n
    case pos =>
      have hki : (k : Int) < (n : Int) := by omega
      cases qb with
      | false =>
        have hmost : n ≤ 64 := by
          have h := HQB.out
          unfold lsB at h
          have h3 : decide (L.length ≤ 64) = true := by
            cases hd : decide (L.length ≤ 64) with
            | true => rfl
            | false => rw [hd] at h; simp at h
          have := of_decide_eq_true h3
          have hl := HR.out.1
          omega
        have hkl : k < L.length := by rw [HR.out.1]; exact hlt
        have hls := lsB_succ 64 okE L hkl
        have hts := txs_succ L hkl
        obtain ⟨x, hx⟩ : ∃ x, x = L[k] := ⟨_, rfl⟩
        have hsx := HR.out.2.1 x (by rw [hx]; exact List.getElem_mem hkl)
        rcases HR.out.2.2 with e0 | ⟨rb, ro, q1, t1, u1⟩
        · rw [e0] at hkl; simp at hkl
        subst q1
        have hf0 : FAt w1 rb (ro + k * 3) x := by subst hx; exact u1 k hkl
        have hrl : rb < w1.heap.size := Nat.lt_trans t1 hb1
        rw [← hx] at hls hts
        have HLS : Hid ((bad1 || lsB 64 okE L (k + 1)) = !okE x) := Lib.hid (by rw [hls, ← Bool.or_assoc, ← HQB.out]; rfl)
        have HTS := Lib.hid hts
        have HF : Hid (∀ W, KB b b w1 W → FAt W rb (ro + k * 3) x) := Lib.hid (fun W hk i hi => (hk.l.cell (p := ⟨rb, _, none⟩) t1).trans (hf0 i hi))
        have HRB : Hid (∀ W, KB b b w1 W → rb < W.heap.size) := Lib.hid (fun W hk => Nat.lt_of_lt_of_le hrl hk.size)
        clear u1 hx hkl hls hts hf0 hrl
        obtain ⟨ky, va, g, rfl⟩ := hsx
        obtain ⟨o2, ho2⟩ : ∃ y, y = o1 ++ vL n ++ (L.take k).flatMap txE := ⟨_, rfl⟩
        rw [← ho2] at HWr
        have HO2 := Lib.hid ho2
        clear ho2
        obtain ⟨K2, hK2⟩ : ∃ y, y = K + 10000 + 3000 * k := ⟨_, rfl⟩
        rw [← hK2] at HWr
        have hK2b : K2 ≤ 990000000 := by omega
        have HK2 := Lib.hid hK2
        clear hK2
        have HW20 : Hid (Wr b wr (o2 ++ txE []) (false || !okE []) K2) := Lib.hid (HWr.out.to (by simp [okE]) (fun _ => by simp [txE]) (Nat.le_refl _))
        have HK20 := HKr
        have f0 := (HF.out wr HK20.out) 0 (by simp)
        simp only [List.getElem_cons_zero, List.getElem_cons_succ, Fld.cell, Nat.add_zero] at f0
        have y5 := HC.out wr HK20.out 5 _ rfl
        have hx20 : ob < wr.heap.size := Nat.lt_of_lt_of_le hol HK20.out.size
        have hrb20 := HRB.out wr HK20.out
        go_wp2_with fail
        refine (wtxtF b _ o2 false (K2 + 300 * 0) ([] : List Fld) ky HW20.out (by omega)).mono ?_
        rintro e w21 ⟨rfl, hk, hw⟩
        have HK21 := Lib.hid (HK20.out.trans hk)
        have HW21 : Hid (Wr b w21 (o2 ++ txE [.t ky]) (false || !okE [.t ky]) ((K2 + 300 * 0) + 300)) := Lib.hid hw
        clear hk hw HWr bz hbl hbf HW20 HK20
        clear f0 y5 hx20 hrb20
        have f1 := (HF.out w21 HK21.out) 1 (by simp)
        simp only [List.getElem_cons_zero, List.getElem_cons_succ, Fld.cell, Nat.add_zero] at f1
        have y5 := HC.out w21 HK21.out 5 _ rfl
        have hx21 : ob < w21.heap.size := Nat.lt_of_lt_of_le hol HK21.out.size
        have hrb21 := HRB.out w21 HK21.out
        go_wp2_with fail
        refine (wtxtF b _ o2 false (K2 + 300 * 1) ([.t ky] : List Fld) va HW21.out (by omega)).mono ?_
        rintro e w22 ⟨rfl, hk, hw⟩
        have HK22 := Lib.hid (HK21.out.trans hk)
        have HW22 : Hid (Wr b w22 (o2 ++ txE [.t ky, .t va]) (false || !okE [.t ky, .t va]) ((K2 + 300 * 1) + 300)) := Lib.hid hw
        clear hk hw HW21 HK21
        clear f1 y5 hx21 hrb21
        have f2 := (HF.out w22 HK22.out) 2 (by simp)
        simp only [List.getElem_cons_zero, List.getElem_cons_succ, Fld.cell, Nat.add_zero] at f2
        have y5 := HC.out w22 HK22.out 5 _ rfl
        have hx22 : ob < w22.heap.size := Nat.lt_of_lt_of_le hol HK22.out.size
        have hrb22 := HRB.out w22 HK22.out
        go_wp2_with fail
        refine (wflagF b _ o2 false (K2 + 300 * 2) ([.t ky, .t va] : List Fld) g HW22.out (by omega)).mono ?_
        rintro e w23 ⟨rfl, hk, hw⟩
        have HK23 := Lib.hid (HK22.out.trans hk)
        have HW23 : Hid (Wr b w23 (o2 ++ txE [.t ky, .t va, .f g]) (false || !okE [.t ky, .t va, .f g]) ((K2 + 300 * 2) + 300)) := Lib.hid hw
        clear hk hw HW22 HK22
        clear f2 y5 hx22 hrb22
        have HWF : Hid (Wr b w23 (o1 ++ vL n ++ (L.take (k + 1)).flatMap txE) (bad1 || lsB 64 okE L (k + 1)) (K + 10000 + 3000 * (k + 1))) := Lib.hid (HW23.out.to (by rw [HLS.out]; simp) (fun _ => by rw [HTS.out, HO2.out]; simp only [List.append_assoc]) (by have := HK2.out; omega))
        go_wp2_with fail
        go_roundw
        case rel => exact ⟨k + 1, by go_num, by omega, Lib.hid (.inr hmost), HWF, HK23⟩
        case measure => simp [intOf]; omega
      | true =>
        have hK3 : k ≤ 64 := by rcases HKM.out with h | h <;> omega
        have hhow : true = ((bad1 || !okLs 64 L) || !okE []) := (by rw [HQB.out]; have := HQB.out.symm; cases bad1 with | true => simp | false => rw [Bool.false_or] at this; unfold okLs; rw [lsB_true this, this]; rfl)
        have HW30 : Hid (Wr b wr (o1 ++ txLs L ++ txE []) ((bad1 || !okLs 64 L) || !okE []) (K + 2000000)) := Lib.hid (HWr.out.to hhow (fun c => by rw [← hhow] at c; cases c) (by omega))
        have HK30 := HKr
        clear HWr HKr HQB hhow
        have y6 := HC.out wr HK30.out 6 _ rfl
        have hx30 : ob < wr.heap.size := Nat.lt_of_lt_of_le hol HK30.out.size
        go_wp2_with fail
        refine (wtxtF b _ (o1 ++ txLs L) (bad1 || !okLs 64 L) (K + 2000000 + 300 * 0) ([] : List Fld) ol HW30.out (by omega)).mono ?_
        rintro e w31 ⟨rfl, hk, hw⟩
        have HK31 := Lib.hid (HK30.out.trans hk)
        have HW31 : Hid (Wr b w31 ((o1 ++ txLs L) ++ txE [.t ol]) ((bad1 || !okLs 64 L) || !okE [.t ol]) ((K + 2000000 + 300 * 0) + 300)) := Lib.hid hw
        clear hk hw m1 hxw bz hbl hbf HW30 HK30
        clear y6 hx30
        have y7 := HC.out w31 HK31.out 7 _ rfl
        have hx31 : ob < w31.heap.size := Nat.lt_of_lt_of_le hol HK31.out.size
        go_wp2_with fail
        refine (wtxtF b _ (o1 ++ txLs L) (bad1 || !okLs 64 L) (K + 2000000 + 300 * 1) ([.t ol] : List Fld) oh HW31.out (by omega)).mono ?_
        rintro e w32 ⟨rfl, hk, hw⟩
        have HK32 := Lib.hid (HK31.out.trans hk)
        have HW32 : Hid (Wr b w32 ((o1 ++ txLs L) ++ txE [.t ol, .t oh]) ((bad1 || !okLs 64 L) || !okE [.t ol, .t oh]) ((K + 2000000 + 300 * 1) + 300)) := Lib.hid hw
        clear hk hw HW31 HK31
        clear y7 hx31
        have y8 := HC.out w32 HK32.out 8 _ rfl
        have hx32 : ob < w32.heap.size := Nat.lt_of_lt_of_le hol HK32.out.size
        go_wp2_with fail
        refine (wnumF b _ (o1 ++ txLs L) (bad1 || !okLs 64 L) (K + 2000000 + 300 * 2) ([.t ol, .t oh] : List Fld) om HW32.out (by omega)).mono ?_
        rintro e w33 ⟨rfl, hk, hw⟩
        have HK33 := Lib.hid (HK32.out.trans hk)
        have HW33 : Hid (Wr b w33 ((o1 ++ txLs L) ++ txE [.t ol, .t oh, .n 0 maxN om]) ((bad1 || !okLs 64 L) || !okE [.t ol, .t oh, .n 0 maxN om]) ((K + 2000000 + 300 * 2) + 300)) := Lib.hid hw
        clear hk hw HW32 HK32
        clear y8 hx32
        go_wp2_with fail
        go_end0
        refine ⟨rfl, HK0.out.trans HK33.out, HW33.out.to ?_ (fun _ => ?_) (by omega)⟩
        · rw [HO1.out.2]; unfold okSg
          generalize okE [.n 0 maxN ok, .t oy, .t ov, .t od, .f og] = x1
          generalize okLs 64 L = x2
          generalize okE [.t ol, .t oh, .n 0 maxN om] = x3
          cases bad <;> cases x1 <;> cases x2 <;> cases x3 <;> rfl
        · rw [HO1.out.1]; unfold txSg; simp only [List.append_assoc]
    case neg =>
      obtain rfl : k = n := by omega
      have hki : ¬ (k : Int) < (k : Int) := by omega
      have hK3 : k ≤ 64 := by rcases HKM.out with h | h <;> omega
      have hhow : qb = ((bad1 || !okLs 64 L) || !okE []) := (by rw [HQB.out, ← HR.out.1, lsB_all]; unfold okLs; simp [okE])
      have HW30 : Hid (Wr b wr (o1 ++ txLs L ++ txE []) ((bad1 || !okLs 64 L) || !okE []) (K + 2000000)) := Lib.hid (HWr.out.to hhow (fun c => by unfold txLs; rw [HR.out.1, show L.take k = L by rw [← HR.out.1, List.take_length]]; simp [txE]) (by omega))
      have HK30 := HKr
      clear HWr HKr HQB hhow
      have y6 := HC.out wr HK30.out 6 _ rfl
      have hx30 : ob < wr.heap.size := Nat.lt_of_lt_of_le hol HK30.out.size
      go_wp2_with fail
      refine (wtxtF b _ (o1 ++ txLs L) (bad1 || !okLs 64 L) (K + 2000000 + 300 * 0) ([] : List Fld) ol HW30.out (by omega)).mono ?_
      rintro e w31 ⟨rfl, hk, hw⟩
      have HK31 := Lib.hid (HK30.out.trans hk)
      have HW31 : Hid (Wr b w31 ((o1 ++ txLs L) ++ txE [.t ol]) ((bad1 || !okLs 64 L) || !okE [.t ol]) ((K + 2000000 + 300 * 0) + 300)) := Lib.hid hw
      clear hk hw m1 hxw bz hbl hbf HW30 HK30
      clear y6 hx30
      have y7 := HC.out w31 HK31.out 7 _ rfl
      have hx31 : ob < w31.heap.size := Nat.lt_of_lt_of_le hol HK31.out.size
      go_wp2_with fail
      refine (wtxtF b _ (o1 ++ txLs L) (bad1 || !okLs 64 L) (K + 2000000 + 300 * 1) ([.t ol] : List Fld) oh HW31.out (by omega)).mono ?_
      rintro e w32 ⟨rfl, hk, hw⟩
      have HK32 := Lib.hid (HK31.out.trans hk)
      have HW32 : Hid (Wr b w32 ((o1 ++ txLs L) ++ txE [.t ol, .t oh]) ((bad1 || !okLs 64 L) || !okE [.t ol, .t oh]) ((K + 2000000 + 300 * 1) + 300)) := Lib.hid hw
      clear hk hw HW31 HK31
      clear y7 hx31
      have y8 := HC.out w32 HK32.out 8 _ rfl
      have hx32 : ob < w32.heap.size := Nat.lt_of_lt_of_le hol HK32.out.size
      go_wp2_with fail
      refine (wnumF b _ (o1 ++ txLs L) (bad1 || !okLs 64 L) (K + 2000000 + 300 * 2) ([.t ol, .t oh] : List Fld) om HW32.out (by omega)).mono ?_
      rintro e w33 ⟨rfl, hk, hw⟩
      have HK33 := Lib.hid (HK32.out.trans hk)
      have HW33 : Hid (Wr b w33 ((o1 ++ txLs L) ++ txE [.t ol, .t oh, .n 0 maxN om]) ((bad1 || !okLs 64 L) || !okE [.t ol, .t oh, .n 0 maxN om]) ((K + 2000000 + 300 * 2) + 300)) := Lib.hid hw
      clear hk hw HW32 HK32
      clear y8 hx32
      go_wp2_with fail
      go_end0
      refine ⟨rfl, HK0.out.trans HK33.out, HW33.out.to ?_ (fun _ => ?_) (by omega)⟩
      · rw [HO1.out.2]; unfold okSg
        generalize okE [.n 0 maxN ok, .t oy, .t ov, .t od, .f og] = x1
        generalize okLs 64 L = x2
        generalize okE [.t ol, .t oh, .n 0 maxN om] = x3
        cases bad <;> cases x1 <;> cases x2 <;> cases x3 <;> rfl
      · rw [HO1.out.1]; unfold txSg; simp only [List.append_assoc]
set_option maxRecDepth 100000 in
set_option maxHeartbeats 8000000 in
theorem wrep (b : Nat) (w : World) (o : List UInt8) (bad : Bool) (K : Nat) (er : Int) (rv : ByteArray) (rg : Bool) (ru : ByteArray) (xa : Option Addr) (n c : Nat) (L : List (List Fld)) (h : Wr b w o bad K) (hK : K ≤ 900000000) (hr : LRb b w 2 (.slice xa n c) L) (hs : ∀ x ∈ L, isPair x) :
    Calls Try.prog 45 #[.pointer (some ⟨b, 0, none⟩), .agg #[.int .i64 er, .string rv, .bool rg, .slice xa n c, .string ru], .bool true] w fun e w' => e = .returned (.tuple #[]) ∧ KB b b w w' ∧ Wr b w' (o ++ txSg [.n 0 maxN er, .t rv, .f rg] L [.t ru]) (bad || !okSg 512 [.n 0 maxN er, .t rv, .f rg] L [.t ru]) (K + 3000000) := by
  obtain ⟨ob, hob⟩ : ∃ x, x = w.heap.size := ⟨_, rfl⟩
  obtain ⟨w1, hW1⟩ : ∃ W, W = w.alloc (.cells #[.int .i64 er, .string rv, .bool rg, .slice xa n c, .string ru] 30) := ⟨_, rfl⟩
  have hs1 : w1.heap.size = w.heap.size + 1 := by rw [hW1]; simp
  have hbb : Below w.heap.size w w1 := by rw [hW1]; exact (Below.refl _ w).alloc (Nat.le_refl _) _
  have hbw := h.lt
  have hx : w1.heap[ob]? = some (.cells #[.int .i64 er, .string rv, .bool rg, .slice xa n c, .string ru] 30 (0, 0)) := by rw [hW1, hob]; exact heap_alloc_new w _
  have HC : Hid (∀ W, KB b b w1 W → ∀ i v, (#[.int .i64 er, .string rv, .bool rg, .slice xa n c, .string ru] : Array Value)[i]? = some v → W.cell? ⟨ob, i, none⟩ = some v) := Lib.hid fun W hk i v hv => hk.box hx (by decide) (by omega) i v hv
  have hol : ob < w1.heap.size := by omega
  have hb1 : b < w1.heap.size := by omega
  have HW1 : Hid (Wr b w1 (o ++ txE []) (bad || !okE []) K) := Lib.hid ((h.old hbb).to (by simp [okE]) (fun _ => by simp [txE]) (Nat.le_refl _))
  have HK1 : Hid (KB b b w1 w1) := Lib.hid (KB.refl _ _ _)
  have HK0 : Hid (KB b b w w1) := Lib.hid (KB.of hbb (by omega))
  have hr1 := hr.keep (hbb.mono (by omega))
  obtain ⟨a', n', c', e1, hn, hnm, hrow⟩ := hr1
  injection e1 with e1 e2 e3
  subst e1 e2 e3
  unfold maxLen at hnm
  have HR := Lib.hid (And.intro hn (And.intro hs hrow))
  have HX := Lib.hid hob
  clear h hr hs hn hrow hs1 hbb hbw hx hob
  go_enter Try.func45, Try.ntmps45
  go_upto_region 1 with fail
  rw [← hW1, ← HX.out]
  clear hW1 HX
  have z0 := HC.out w1 HK1.out 0 _ rfl
  have hx1 : ob < w1.heap.size := Nat.lt_of_lt_of_le hol HK1.out.size
  go_wp2_with fail
  refine (wnumF b _ o bad (K + 300 * 0) ([] : List Fld) er HW1.out (by omega)).mono ?_
  rintro e w2 ⟨rfl, hk, hw⟩
  have HK2 := Lib.hid (HK1.out.trans hk)
  have HW2 : Hid (Wr b w2 (o ++ txE [.n 0 maxN er]) (bad || !okE [.n 0 maxN er]) ((K + 300 * 0) + 300)) := Lib.hid hw
  clear hk hw HW1 HK1
  clear z0 hx1
  have z1 := HC.out w2 HK2.out 1 _ rfl
  have hx2 : ob < w2.heap.size := Nat.lt_of_lt_of_le hol HK2.out.size
  go_wp2_with fail
  refine (wtxtF b _ o bad (K + 300 * 1) ([.n 0 maxN er] : List Fld) rv HW2.out (by omega)).mono ?_
  rintro e w3 ⟨rfl, hk, hw⟩
  have HK3 := Lib.hid (HK2.out.trans hk)
  have HW3 : Hid (Wr b w3 (o ++ txE [.n 0 maxN er, .t rv]) (bad || !okE [.n 0 maxN er, .t rv]) ((K + 300 * 1) + 300)) := Lib.hid hw
  clear hk hw HW2 HK2
  clear z1 hx2
  have z2 := HC.out w3 HK3.out 2 _ rfl
  have hx3 : ob < w3.heap.size := Nat.lt_of_lt_of_le hol HK3.out.size
  go_wp2_with fail
  refine (wflagF b _ o bad (K + 300 * 2) ([.n 0 maxN er, .t rv] : List Fld) rg HW3.out (by omega)).mono ?_
  rintro e w4 ⟨rfl, hk, hw⟩
  have HK4 := Lib.hid (HK3.out.trans hk)
  have HW4 : Hid (Wr b w4 (o ++ txE [.n 0 maxN er, .t rv, .f rg]) (bad || !okE [.n 0 maxN er, .t rv, .f rg]) ((K + 300 * 2) + 300)) := Lib.hid hw
  clear hk hw HW3 HK3
  clear z2 hx3
  obtain ⟨o1, ho1⟩ : ∃ x, x = o ++ txE [.n 0 maxN er, .t rv, .f rg] := ⟨_, rfl⟩
  obtain ⟨bad1, hbad1⟩ : ∃ x, x = (bad || !okE [.n 0 maxN er, .t rv, .f rg]) := ⟨_, rfl⟩
  rw [← ho1, ← hbad1] at HW4
  have HO1 := Lib.hid (And.intro ho1 hbad1)
  clear ho1 hbad1
  have z3 := HC.out w4 HK4.out 3 _ rfl
  have hx4 : ob < w4.heap.size := Nat.lt_of_lt_of_le hol HK4.out.size
  go_wp2_with fail
  refine (wcount b _ o1 bad1 (K + 300 * 3 + 300) n 512 (by have := HW4.out; exact this.to rfl (fun _ => rfl) (by omega)) (by omega) (by omega) (by omega)).mono ?_
  rintro e w5 ⟨rfl, hk, hw⟩
  have HK5 := Lib.hid (HK4.out.trans hk)
  have HW5 : Hid (Wr b w5 (o1 ++ vL n) (bad1 || !decide (n ≤ 512)) (K + 10000)) := Lib.hid (hw.to rfl (fun _ => rfl) (by omega))
  clear hk hw HW4 HK4 z3 hx4
  have z3 := HC.out w5 HK5.out 3 _ rfl
  have hx5 : ob < w5.heap.size := Nat.lt_of_lt_of_le hol HK5.out.size
  go_wp2_with fail
  clear z3 hx5
  go_loopw [6] (fun i wr => ∃ k : Nat, i = .int .i64 k ∧ k ≤ n ∧ Hid (k = 0 ∨ n ≤ 512) ∧ Hid (Wr b wr (o1 ++ vL n ++ (L.take k).flatMap txE) (bad1 || lsB 512 okE L k) ((K + 10000) + 3000 * k)) ∧ Hid (KB b b w1 wr)) (fun i _ => n - (intOf i).toNat)
  case atStart => exact ⟨0, by first | rfl | go_num, by omega, Lib.hid (.inl rfl), Lib.hid (HW5.out.to (by rw [lsB_zero, HR.out.1]) (fun _ => by simp) (by omega)), HK5⟩
  case round =>
    obtain ⟨k, rfl, hk, HKM, HWr, HKr⟩ := hrel
    obtain ⟨qb, hqb⟩ : ∃ q, q = (bad1 || lsB 512 okE L k) := ⟨_, rfl⟩
    rw [← hqb] at HWr
    have HQB := Lib.hid hqb
    clear hqb
    obtain ⟨bz, hbl, hbf⟩ := HWr.out.bad?
    have m1 := HC.out wr HKr.out 3 _ rfl
    have hxw : ob < wr.heap.size := Nat.lt_of_lt_of_le hol HKr.out.size
    by_cases hlt : k < n
    case pos =>
      have hki : (k : Int) < (n : Int) := by omega
      cases qb with
      | false =>
        have hmost : n ≤ 512 := by
          have h := HQB.out
          unfold lsB at h
          have h3 : decide (L.length ≤ 512) = true := by
            cases hd : decide (L.length ≤ 512) with
            | true => rfl
            | false => rw [hd] at h; simp at h
          have := of_decide_eq_true h3
          have hl := HR.out.1
          omega
        have hkl : k < L.length := by rw [HR.out.1]; exact hlt
        have hls := lsB_succ 512 okE L hkl
        have hts := txs_succ L hkl
        obtain ⟨x, hx⟩ : ∃ x, x = L[k] := ⟨_, rfl⟩
        have hsx := HR.out.2.1 x (by rw [hx]; exact List.getElem_mem hkl)
        rcases HR.out.2.2 with e0 | ⟨rb, ro, q1, t1, u1⟩
        · rw [e0] at hkl; simp at hkl
        subst q1
        have hf0 : FAt w1 rb (ro + k * 2) x := by subst hx; exact u1 k hkl
        have hrl : rb < w1.heap.size := Nat.lt_trans t1 hb1
        rw [← hx] at hls hts
        have HLS : Hid ((bad1 || lsB 512 okE L (k + 1)) = !okE x) := Lib.hid (by rw [hls, ← Bool.or_assoc, ← HQB.out]; rfl)
        have HTS := Lib.hid hts
        have HF : Hid (∀ W, KB b b w1 W → FAt W rb (ro + k * 2) x) := Lib.hid (fun W hk i hi => (hk.l.cell (p := ⟨rb, _, none⟩) t1).trans (hf0 i hi))
        have HRB : Hid (∀ W, KB b b w1 W → rb < W.heap.size) := Lib.hid (fun W hk => Nat.lt_of_lt_of_le hrl hk.size)
        clear u1 hx hkl hls hts hf0 hrl
        obtain ⟨ky, va, rfl⟩ := hsx
        obtain ⟨o2, ho2⟩ : ∃ y, y = o1 ++ vL n ++ (L.take k).flatMap txE := ⟨_, rfl⟩
        rw [← ho2] at HWr
        have HO2 := Lib.hid ho2
        clear ho2
        obtain ⟨K2, hK2⟩ : ∃ y, y = K + 10000 + 3000 * k := ⟨_, rfl⟩
        rw [← hK2] at HWr
        have hK2b : K2 ≤ 990000000 := by omega
        have HK2 := Lib.hid hK2
        clear hK2
        have HW20 : Hid (Wr b wr (o2 ++ txE []) (false || !okE []) K2) := Lib.hid (HWr.out.to (by simp [okE]) (fun _ => by simp [txE]) (Nat.le_refl _))
        have HK20 := HKr
        have f0 := (HF.out wr HK20.out) 0 (by simp)
        simp only [List.getElem_cons_zero, List.getElem_cons_succ, Fld.cell, Nat.add_zero] at f0
        have y3 := HC.out wr HK20.out 3 _ rfl
        have hx20 : ob < wr.heap.size := Nat.lt_of_lt_of_le hol HK20.out.size
        have hrb20 := HRB.out wr HK20.out
        go_wp2_with fail
        refine (wtxtF b _ o2 false (K2 + 300 * 0) ([] : List Fld) ky HW20.out (by omega)).mono ?_
        rintro e w21 ⟨rfl, hk, hw⟩
        have HK21 := Lib.hid (HK20.out.trans hk)
        have HW21 : Hid (Wr b w21 (o2 ++ txE [.t ky]) (false || !okE [.t ky]) ((K2 + 300 * 0) + 300)) := Lib.hid hw
        clear hk hw HWr bz hbl hbf HW20 HK20
        clear f0 y3 hx20 hrb20
        have f1 := (HF.out w21 HK21.out) 1 (by simp)
        simp only [List.getElem_cons_zero, List.getElem_cons_succ, Fld.cell, Nat.add_zero] at f1
        have y3 := HC.out w21 HK21.out 3 _ rfl
        have hx21 : ob < w21.heap.size := Nat.lt_of_lt_of_le hol HK21.out.size
        have hrb21 := HRB.out w21 HK21.out
        go_wp2_with fail
        refine (wtxtF b _ o2 false (K2 + 300 * 1) ([.t ky] : List Fld) va HW21.out (by omega)).mono ?_
        rintro e w22 ⟨rfl, hk, hw⟩
        have HK22 := Lib.hid (HK21.out.trans hk)
        have HW22 : Hid (Wr b w22 (o2 ++ txE [.t ky, .t va]) (false || !okE [.t ky, .t va]) ((K2 + 300 * 1) + 300)) := Lib.hid hw
        clear hk hw HW21 HK21
        clear f1 y3 hx21 hrb21
        have HWF : Hid (Wr b w22 (o1 ++ vL n ++ (L.take (k + 1)).flatMap txE) (bad1 || lsB 512 okE L (k + 1)) (K + 10000 + 3000 * (k + 1))) := Lib.hid (HW22.out.to (by rw [HLS.out]; simp) (fun _ => by rw [HTS.out, HO2.out]; simp only [List.append_assoc]) (by have := HK2.out; omega))
        go_wp2_with fail
        go_roundw
        case rel => exact ⟨k + 1, by go_num, by omega, Lib.hid (.inr hmost), HWF, HK22⟩
        case measure => simp [intOf]; omega
      | true =>
        have hK3 : k ≤ 512 := by rcases HKM.out with h | h <;> omega
        have hhow : true = ((bad1 || !okLs 512 L) || !okE []) := (by rw [HQB.out]; have := HQB.out.symm; cases bad1 with | true => simp | false => rw [Bool.false_or] at this; unfold okLs; rw [lsB_true this, this]; rfl)
        have HW30 : Hid (Wr b wr (o1 ++ txLs L ++ txE []) ((bad1 || !okLs 512 L) || !okE []) (K + 2000000)) := Lib.hid (HWr.out.to hhow (fun c => by rw [← hhow] at c; cases c) (by omega))
        have HK30 := HKr
        clear HWr HKr HQB hhow
        have y4 := HC.out wr HK30.out 4 _ rfl
        have hx30 : ob < wr.heap.size := Nat.lt_of_lt_of_le hol HK30.out.size
        go_wp2_with fail
        refine (wtxtF b _ (o1 ++ txLs L) (bad1 || !okLs 512 L) (K + 2000000 + 300 * 0) ([] : List Fld) ru HW30.out (by omega)).mono ?_
        rintro e w31 ⟨rfl, hk, hw⟩
        have HK31 := Lib.hid (HK30.out.trans hk)
        have HW31 : Hid (Wr b w31 ((o1 ++ txLs L) ++ txE [.t ru]) ((bad1 || !okLs 512 L) || !okE [.t ru]) ((K + 2000000 + 300 * 0) + 300)) := Lib.hid hw
        clear hk hw m1 hxw bz hbl hbf HW30 HK30
        clear y4 hx30
        go_wp2_with fail
        go_end0
        refine ⟨rfl, HK0.out.trans HK31.out, HW31.out.to ?_ (fun _ => ?_) (by omega)⟩
        · rw [HO1.out.2]; unfold okSg
          generalize okE [.n 0 maxN er, .t rv, .f rg] = x1
          generalize okLs 512 L = x2
          generalize okE [.t ru] = x3
          cases bad <;> cases x1 <;> cases x2 <;> cases x3 <;> rfl
        · rw [HO1.out.1]; unfold txSg; simp only [List.append_assoc]
    case neg =>
      obtain rfl : k = n := by omega
      have hki : ¬ (k : Int) < (k : Int) := by omega
      have hK3 : k ≤ 512 := by rcases HKM.out with h | h <;> omega
      have hhow : qb = ((bad1 || !okLs 512 L) || !okE []) := (by rw [HQB.out, ← HR.out.1, lsB_all]; unfold okLs; simp [okE])
      have HW30 : Hid (Wr b wr (o1 ++ txLs L ++ txE []) ((bad1 || !okLs 512 L) || !okE []) (K + 2000000)) := Lib.hid (HWr.out.to hhow (fun c => by unfold txLs; rw [HR.out.1, show L.take k = L by rw [← HR.out.1, List.take_length]]; simp [txE]) (by omega))
      have HK30 := HKr
      clear HWr HKr HQB hhow
      have y4 := HC.out wr HK30.out 4 _ rfl
      have hx30 : ob < wr.heap.size := Nat.lt_of_lt_of_le hol HK30.out.size
      go_wp2_with fail
      refine (wtxtF b _ (o1 ++ txLs L) (bad1 || !okLs 512 L) (K + 2000000 + 300 * 0) ([] : List Fld) ru HW30.out (by omega)).mono ?_
      rintro e w31 ⟨rfl, hk, hw⟩
      have HK31 := Lib.hid (HK30.out.trans hk)
      have HW31 : Hid (Wr b w31 ((o1 ++ txLs L) ++ txE [.t ru]) ((bad1 || !okLs 512 L) || !okE [.t ru]) ((K + 2000000 + 300 * 0) + 300)) := Lib.hid hw
      clear hk hw m1 hxw bz hbl hbf HW30 HK30
      clear y4 hx30
      go_wp2_with fail
      go_end0
      refine ⟨rfl, HK0.out.trans HK31.out, HW31.out.to ?_ (fun _ => ?_) (by omega)⟩
      · rw [HO1.out.2]; unfold okSg
        generalize okE [.n 0 maxN er, .t rv, .f rg] = x1
        generalize okLs 512 L = x2
        generalize okE [.t ru] = x3
        cases bad <;> cases x1 <;> cases x2 <;> cases x3 <;> rfl
      · rw [HO1.out.1]; unfold txSg; simp only [List.append_assoc]
end Go.Proofs.Ytdnhmkfgcpdbkaa
