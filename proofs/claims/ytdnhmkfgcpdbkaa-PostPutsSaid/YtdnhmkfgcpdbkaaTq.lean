/-
  Layer 16 (post): the way out of a text. Conditions: as each says.
-/
import Derived.Test.YtdnhmkfgcpdbkaaTp
import Derived.Test.YtdnhmkfgcpdbkaaA1
namespace Go.Proofs.Ytdnhmkfgcpdbkaa
open Go.RowKit
set_option linter.unusedVariables false
set_option linter.unusedSimpArgs false

theorem tkT_le {l : List UInt8} {n a x : Nat} (h : tk l 0 0 = (n, a, x)) : a ≤ l.length ∧ n ≤ 4611686018427387904 := by
  by_cases hx : x = 0
  · subst hx
    obtain ⟨_, h1, h2, _, _, h5, _⟩ := tk_back l 0 0 _ _ h
    omega
  · have h1 := tk_err l 0 0 (by rw [h]; exact hx)
    rw [h] at h1
    simp only at h1
    omega
theorem ttT_le {l t : List UInt8} {b x : Nat} (h : ttR l = (t, b, x)) : b ≤ l.length ∧ t.length ≤ b := by
  rcases tk_cases l with h1 | ⟨n, k, h1, h2, h3, h4⟩
  · have : ttR l = ([], 0, (tk l 0 0).2.2) := ttR_err rfl (by rcases h1 with h1 | h1 <;> rw [h1] <;> decide)
    rw [h] at this
    simp only [Prod.mk.injEq] at this
    obtain ⟨rfl, rfl, _⟩ := this
    simp
  · by_cases c1 : 262144 < n
    · rw [ttR_big h1 c1] at h
      simp only [Prod.mk.injEq] at h
      obtain ⟨rfl, rfl, _⟩ := h
      simp
    · by_cases c2 : l.length < k + n
      · rw [ttR_short h1 (by omega) c2] at h
        simp only [Prod.mk.injEq] at h
        obtain ⟨rfl, rfl, _⟩ := h
        simp
      · rw [ttR_ok h1 (by omega) (by omega)] at h
        simp only [Prod.mk.injEq] at h
        obtain ⟨rfl, rfl, _⟩ := h
        rw [List.length_take, List.length_drop]
        omega
def tkN (s : Bool × ByteArray) (lo hi x : Int) : (Bool × ByteArray) × Int :=
  if s.1 = true then (s, x) else if lo ≤ ((tk s.2.data.toList 0 0).1 : Int) ∧ ((tk s.2.data.toList 0 0).1 : Int) ≤ hi ∧ (tk s.2.data.toList 0 0).2.2 = 0 then ((false, s.2.extract (tk s.2.data.toList 0 0).2.1 s.2.size), ((tk s.2.data.toList 0 0).1 : Int)) else ((true, s.2), x)
def tkX (s : Bool × ByteArray) (t : ByteArray) : (Bool × ByteArray) × ByteArray :=
  if s.1 = true then (s, t) else if (ttR s.2.data.toList).1.length ≤ 256 ∧ (ttR s.2.data.toList).2.2 = 0 then ((false, s.2.extract (ttR s.2.data.toList).2.1 s.2.size), ⟨(ttR s.2.data.toList).1.toArray⟩) else ((true, s.2), t)
def takesW : Way (Bool × ByteArray) := ⟨tkN, tkX, fun _ => True, fun _ _ _ _ _ => trivial, fun _ _ _ => trivial⟩
structure AtT (b B : Nat) (w : World) (s : Bool × ByteArray) : Prop where
  c0 : w.cell? ⟨b, 0, none⟩ = some (.bool s.1)
  c1 : w.cell? ⟨b, 1, none⟩ = some (.string s.2)
  f0 : w.frozen? ⟨b, 0, none⟩ = false
  f1 : w.frozen? ⟨b, 1, none⟩ = false
  lt : b < w.heap.size
  le : B ≤ w.heap.size
  sz : s.2.size ≤ 140737488351232
theorem AtT.old {b B : Nat} {w w' : World} {s : Bool × ByteArray} (h : AtT b B w s) (hb : Below w.heap.size w w') : AtT b B w' s :=
  ⟨(hb.cell (p := ⟨b, 0, none⟩) h.lt).trans h.c0, (hb.cell (p := ⟨b, 1, none⟩) h.lt).trans h.c1, (hb.frozen (p := ⟨b, 0, none⟩) h.lt).trans h.f0, (hb.frozen (p := ⟨b, 1, none⟩) h.lt).trans h.f1, Nat.lt_of_lt_of_le h.lt hb.size, Nat.le_trans h.le hb.size, h.sz⟩
theorem AtT.set {b B p o : Nat} {w : World} {s : Bool × ByteArray} {v : Value} (h : AtT b B w s) (hp : p ≠ b) : AtT b B (w.setCell ⟨p, o, none⟩ v) s :=
  ⟨(World.cell?_setCell_other _ _ _ _ (fun e => hp (by injection e))).trans h.c0, (World.cell?_setCell_other _ _ _ _ (fun e => hp (by injection e))).trans h.c1, by rw [World.frozen?_setCell]; exact h.f0, by rw [World.frozen?_setCell]; exact h.f1, by simpa using h.lt, by simpa using h.le, h.sz⟩
theorem AtT.wrong {b B : Nat} {w : World} {s : Bool × ByteArray} (h : AtT b B w s) (q : Bool) : AtT b B (w.setCell ⟨b, 0, none⟩ (.bool q)) (q, s.2) :=
  ⟨World.cell?_setCell_same' _ _ _ (by rw [h.c0]; rfl), (World.cell?_setCell_other _ _ _ _ (by simp)).trans h.c1, by rw [World.frozen?_setCell]; exact h.f0, by rw [World.frozen?_setCell]; exact h.f1, by simpa using h.lt, by simpa using h.le, h.sz⟩
theorem AtT.rest {b B : Nat} {w : World} {s : Bool × ByteArray} (h : AtT b B w s) (r : ByteArray) (hr : r.size ≤ 140737488351232) : AtT b B (w.setCell ⟨b, 1, none⟩ (.string r)) (s.1, r) :=
  ⟨(World.cell?_setCell_other _ _ _ _ (by simp)).trans h.c0, World.cell?_setCell_same' _ _ _ (by rw [h.c1]; rfl), by rw [World.frozen?_setCell]; exact h.f0, by rw [World.frozen?_setCell]; exact h.f1, by simpa using h.lt, by simpa using h.le, hr⟩
theorem lkB_iff (lo hi x : Int) : lkB false lo hi x = false ↔ lo ≤ x ∧ x ≤ hi := by
  unfold lkB
  simp only [Bool.false_or, Bool.or_eq_false_iff, decide_eq_false_iff_not]
  omega
set_option maxRecDepth 100000 in
set_option maxHeartbeats 2000000 in
theorem takesNum_any (b B p o : Nat) (hB : B ≤ b) (s : Bool × ByteArray) (lo hi x : Int) (w : World) (h : AtT b B w s) (hp : Loc False b B w p) (hx : w.cell? ⟨p, o, none⟩ = some (.int .i64 x)) :
    Calls Try.prog 99 #[.pointer (some ⟨b, 0, none⟩), .pointer (some ⟨p, o, none⟩), .int .i64 lo, .int .i64 hi] w fun e w' => e = .returned (.tuple #[]) ∧ AtT b B w' (tkN s lo hi x).1 ∧ KB b B (w.setCell ⟨p, o, none⟩ (.int .i64 (tkN s lo hi x).2)) w' := by
  obtain ⟨g, r⟩ := s
  obtain ⟨c0, c1, f0, f1, hlt, hle, hsz⟩ := h
  have HT := Lib.hid (show AtT b B w (g, r) from ⟨c0, c1, f0, f1, hlt, hle, hsz⟩)
  have HP := Lib.hid hp
  have hpl := hp.2.1
  have HX := Lib.hid hx
  simp only at c0 c1 hsz
  cases g with
  | true =>
    clear hp
    go_enter Try.func99, Try.ntmps99
    go_wp2_with fail
    (try simp only [Exit.inBlock, Exit.then])
    refine bodyPost_ret (results_none rfl _ _ _) rfl ?_
    refine ⟨rfl, HT.out, ?_⟩
    show KB b B (w.setCell ⟨p, o, none⟩ (.int .i64 x)) _
    rw [set_same HX.out]
    exact KB.refl _ _ _
  | false =>
    obtain ⟨n, a, c, ht⟩ : ∃ n a c, tk r.data.toList 0 0 = (n, a, c) := ⟨_, _, _, rfl⟩
    have hal := (tkT_le ht).1
    rw [size_list] at hal
    have hres : tkN (false, r) lo hi x = if lkB false lo hi n = false ∧ c = 0 then ((false, r.extract a r.size), (n : Int)) else ((true, r), x) := by
      unfold tkN
      simp only [Bool.false_eq_true, if_false, ht]
      by_cases q : lkB false lo hi n = false
      · have := (lkB_iff _ _ _).1 q
        by_cases q2 : c = 0
        · rw [if_pos ⟨this.1, this.2, q2⟩, if_pos ⟨q, q2⟩]
        · rw [if_neg (fun hh => q2 hh.2.2), if_neg (fun hh => q2 hh.2)]
      · rw [if_neg (fun hh => q ((lkB_iff _ _ _).2 ⟨hh.1, hh.2.1⟩)), if_neg (fun hh => q hh.1)]
    rw [hres]
    have HC : Hid (Calls Try.prog 101 #[.string r] w fun e w' => e = .returned (.tuple #[.int .i64 (n : Nat), .int .i64 (a : Nat), .int .i64 (c : Nat)]) ∧ w = w') := Lib.hid (by
      have := take_code r w (by omega)
      rw [ht] at this
      exact this)
    have hai : (a : Int) ≤ (r.size : Int) := by omega
    have ha0 : (0 : Int) ≤ (a : Int) := by omega
    obtain ⟨q, hq⟩ : ∃ q, lkB false lo hi n = q := ⟨_, rfl⟩
    rw [hq]
    obtain ⟨S2, X2, hS⟩ : ∃ S2 X2, (if q = false ∧ c = 0 then ((false, r.extract a r.size), (n : Int)) else ((true, r), x)) = (S2, X2) := ⟨_, _, rfl⟩
    rw [hS]
    have HRES := Lib.hid hS
    clear hS
    have hst := hle
    obtain ⟨xb, hxb⟩ : ∃ y, y = w.heap.size := ⟨_, rfl⟩
    have hb1 := (Below.refl w.heap.size w).alloc (Nat.le_refl _) (.cells #[.int .i64 (n : Int)] 3)
    have HT1 := Lib.hid (HT.out.old hb1)
    have HK1 : Hid (KB b B w (w.alloc (.cells #[.int .i64 (n : Int)] 3))) := Lib.hid (KB.of hb1 hle)
    have hxc : (w.alloc (.cells #[.int .i64 (n : Int)] 3)).cell? ⟨w.heap.size, 0, none⟩ = some (.int .i64 (n : Int)) := (alloc_cell _ _ _ 0).trans rfl
    have hxl : w.heap.size < (w.alloc (.cells #[.int .i64 (n : Int)] 3)).heap.size := by simp
    have HL : Hid (Calls Try.prog 97 #[.pointer (some ⟨b, 0, none⟩), .pointer (some ⟨w.heap.size, 0, none⟩), .int .i64 lo, .int .i64 hi] (w.alloc (.cells #[.int .i64 (n : Int)] 3)) fun e w' => e = .returned (.tuple #[]) ∧ w' = (w.alloc (.cells #[.int .i64 (n : Int)] 3)).setCell ⟨b, 0, none⟩ (.bool q)) := Lib.hid (by
      have := looksNum_any b w.heap.size 0 false lo hi n _ HT1.out.c0 HT1.out.f0 HT1.out.lt hxc hxl
      rw [hq] at this
      exact this)
    have HPX : Hid (xb ≠ b ∧ xb ≠ p) := Lib.hid ⟨by omega, by omega⟩
    have HP1 := Lib.hid (hp.keep HK1.out)
    rw [← hxb] at hxc hxl HL
    clear hp hx hq hb1 ht hres hst
    go_enter Try.func99, Try.ntmps99
    go_wp2_with fail
    refine HC.out.mono ?_
    rintro e w' ⟨rfl, rfl⟩
    clear HC
    go_upto_region 2 with fail
    rw [← hxb]
    generalize w.alloc (.cells #[.int .i64 (n : Int)] 3) = w1 at *
    obtain ⟨d0, d1, df0, df1, dlt, dle, dsz⟩ := HT1.out
    simp only at d0 d1
    clear c0 c1 f0 f1 hlt hle hxb
    go_wp2_with fail
    refine HL.out.mono ?_
    rintro e w' ⟨rfl, rfl⟩
    clear HL
    have HT2 := Lib.hid (HT1.out.wrong q)
    have HK2 := Lib.hid (HK1.out.own 0 hB (.bool q))
    have hxc2 : (w1.setCell ⟨b, 0, none⟩ (.bool q)).cell? ⟨xb, 0, none⟩ = some (.int .i64 (n : Int)) := (World.cell?_setCell_other _ _ _ _ (fun e => HPX.out.1 (by injection e with e1; exact e1.symm))).trans hxc
    have hxl2 : xb < (w1.setCell ⟨b, 0, none⟩ (.bool q)).heap.size := by simpa using hxl
    have HP2 := Lib.hid (HP1.out.set ⟨b, 0, none⟩ (.bool q))
    have hpl2 : p < (w1.setCell ⟨b, 0, none⟩ (.bool q)).heap.size := HP2.out.2.1
    generalize w1.setCell ⟨b, 0, none⟩ (.bool q) = w2 at *
    clear d0 d1 df0 df1 dlt dle hxc hxl HK1 HT1 HP1
    obtain ⟨d0, d1, df0, df1, dlt, dle, dsz'⟩ := HT2.out
    simp only at d0 d1 dsz'
    cases q with
    | true =>
      have HF := Lib.hid (HT2.out.wrong true)
      have HG := Lib.hid (HK2.out.own 0 hB (.bool true))
      clear dsz'
      go_wp2_with fail
      go_end0
      obtain ⟨rfl, rfl⟩ : (true, r) = S2 ∧ x = X2 := by have h5 := HRES.out; rw [if_neg (fun hh => by cases hh.1)] at h5; exact ⟨congrArg (·.1) h5, congrArg (·.2) h5⟩
      refine ⟨rfl, HF.out, ?_⟩
      rw [set_same HX.out]
      exact HG.out
    | false =>
      by_cases hc0 : c = 0
      case neg =>
        have hci : ((c : Int) == 0) = false := by rw [beq_eq_false_iff_ne]; omega
        have hci2 : ¬ (c : Int) = 0 := by omega
        have hci3 : ((c : Int) != 0) = true := by rw [bne_iff_ne]; omega
        have HF := Lib.hid (HT2.out.wrong true)
        have HG := Lib.hid (HK2.out.own 0 hB (.bool true))
        have HC0 := Lib.hid hc0
        clear dsz'
        go_wp2_with fail
        go_end0
        obtain ⟨rfl, rfl⟩ : (true, r) = S2 ∧ x = X2 := by have h5 := HRES.out; rw [if_neg (fun hh => HC0.out hh.2)] at h5; exact ⟨congrArg (·.1) h5, congrArg (·.2) h5⟩
        refine ⟨rfl, HF.out, ?_⟩
        rw [set_same HX.out]
        exact HG.out
      subst hc0
      have HT3 := Lib.hid (HT2.out.wrong false)
      have HK3 := Lib.hid (HK2.out.own 0 hB (.bool false))
      have hxc3 : (w2.setCell ⟨b, 0, none⟩ (.bool false)).cell? ⟨xb, 0, none⟩ = some (.int .i64 (n : Int)) := (World.cell?_setCell_other _ _ _ _ (fun e => HPX.out.1 (by injection e with e1; exact e1.symm))).trans hxc2
      have HP3 := Lib.hid (HP2.out.set ⟨b, 0, none⟩ (.bool false))
      clear dsz'
      go_upto_region 5 with fail
      generalize w2.setCell ⟨b, 0, none⟩ (.bool false) = w3 at *
      clear d0 d1 df0 df1 dlt dle hxc2 hxl2 hpl2 HK2 HT2 HP2
      obtain ⟨d0, d1, df0, df1, dlt, dle, dsz'⟩ := HT3.out
      simp only at d0 d1 dsz'
      obtain ⟨rfl, rfl⟩ : (false, r.extract a r.size) = S2 ∧ (n : Int) = X2 := by have h5 := HRES.out; rw [if_pos (by simp)] at h5; exact ⟨congrArg (·.1) h5, congrArg (·.2) h5⟩
      have hpl3 := HP3.out.2.1
      have hfp := HP3.out.frozen (HP3.out.le id) o
      have HFF := Lib.hid (And.intro df1 (And.intro dlt hfp))
      clear dsz'
      refine mixed_region2 (D := (fun w' => w'.cell? ⟨xb, 0, none⟩ = some (.int .i64 (n : Int)) ∧ w'.cell? ⟨b, 1, none⟩ = some (.string r))) [0, 1, 2, 3, 4, 5, 6, 7, 8, 9] [10, 11, 12, 13] 13 (by kernel_rfl) (by kernel_rfl) (by decide) (⟨hxc3, d1⟩) ?_
      simp only [List.filterMap_cons, List.filterMap_nil, List.getElem?_cons_zero, List.getElem?_cons_succ]
      repeat (
        (first
         | (refine calm_move _ rfl ?_)
         | (apply calm_cons
            · (intro w' hw'
               first | (obtain ⟨hwa', hwb', hwc'⟩ := hw') | (obtain ⟨hwa', hwb'⟩ := hw') | skip
               go_simp
               first
               | done
               | exact rfl)))
        simp only [Act.put, Act.eval, List.setIfInBounds_toArray, List.set_cons_zero, List.set_cons_succ, Array.getD_eq_getD_getElem?, List.getElem?_toArray, List.getElem?_cons_zero, List.getElem?_cons_succ, Option.getD_some])
      refine calm_nil ?_
      have hpb : p ≠ b := HP3.out.1
      have HD4 : Hid ((w3.setCell ⟨p, o, none⟩ (.int .i64 (n : Int))).drew.cell? ⟨xb, 0, none⟩ = some (.int .i64 (n : Int)) ∧ (w3.setCell ⟨p, o, none⟩ (.int .i64 (n : Int))).drew.cell? ⟨b, 1, none⟩ = some (.string r)) := Lib.hid ⟨(World.cell?_setCell_other _ _ _ _ (fun e => HPX.out.2 (by injection e with e1; exact e1.symm))).trans hxc3, (World.cell?_setCell_other _ _ _ _ (fun e => hpb (by injection e))).trans d1⟩
      have HT4 : Hid (AtT b B (w3.setCell ⟨p, o, none⟩ (.int .i64 (n : Int))).drew (false, r)) := Lib.hid ((HT3.out.set hpb).old (Below.refl _ _).drew)
      have HK4 : Hid (KB b B (w.setCell ⟨p, o, none⟩ (.int .i64 (n : Int))) (w3.setCell ⟨p, o, none⟩ (.int .i64 (n : Int))).drew) := Lib.hid (HK3.out.set _ _ hpb).drew
      refine loud_cons fun K hK => ?_
      have hfp3 : w3.drew.frozen? ⟨p, o, none⟩ = false := hfp
      have hpl4 : p < w3.drew.heap.size := hpl3
      have hxp : w3.drew.cell? ⟨p, o, none⟩ = some (.int .i64 x) := (HP.out.cell HK3.out.drew o).trans HX.out
      go_wp2_with fail
      refine hK _ _ (fun _ => HD4.out) ?_
      clear hK K hfp3 hpl4 hxp
      have HFR := Lib.hid HT4.out.f1
      generalize (w3.setCell ⟨p, o, none⟩ (.int .i64 (n : Int))).drew = w4 at *
      refine loud_cons fun K hK => ?_
      go_wp2_with fail
      refine hK _ _ (fun _ => HD4.out) ?_
      clear hK K
      refine loud_cons fun K hK => ?_
      go_wp2_with fail
      refine hK _ _ (fun _ => HD4.out) ?_
      clear hK K
      refine loud_cons fun K hK => ?_
      have hfr := HT4.out.f1
      have hc1 := HT4.out.c1
      have hlt4 := HT4.out.lt
      simp only at hc1
      have HF := Lib.hid (HT4.out.rest (r.extract a r.size) (by rw [ByteArray.size_extract]; omega))
      have HG := Lib.hid (HK4.out.own 1 hB (.string (r.extract a r.size)))
      go_wp2_with fail
      refine hK _ _ (fun hh => absurd rfl hh) ?_
      refine loud_nil ?_
      clear hK K
      go_wp2_with fail
      go_end0
      exact ⟨rfl, HF.out, HG.out⟩
set_option maxRecDepth 100000 in
set_option maxHeartbeats 2000000 in
theorem takesTxt_any (b B p o : Nat) (hB : B ≤ b) (s : Bool × ByteArray) (x : ByteArray) (w : World) (h : AtT b B w s) (hp : Loc False b B w p) (hx : w.cell? ⟨p, o, none⟩ = some (.string x)) :
    Calls Try.prog 100 #[.pointer (some ⟨b, 0, none⟩), .pointer (some ⟨p, o, none⟩)] w fun e w' => e = .returned (.tuple #[]) ∧ AtT b B w' (tkX s x).1 ∧ KB b B (w.setCell ⟨p, o, none⟩ (.string (tkX s x).2)) w' := by
  obtain ⟨g, r⟩ := s
  obtain ⟨c0, c1, f0, f1, hlt, hle, hsz⟩ := h
  have HT := Lib.hid (show AtT b B w (g, r) from ⟨c0, c1, f0, f1, hlt, hle, hsz⟩)
  have HP := Lib.hid hp
  have hpl := hp.2.1
  have HX := Lib.hid hx
  simp only at c0 c1 hsz
  cases g with
  | true =>
    clear hp
    go_enter Try.func100, Try.ntmps100
    go_wp2_with fail
    (try simp only [Exit.inBlock, Exit.then])
    refine bodyPost_ret (results_none rfl _ _ _) rfl ?_
    refine ⟨rfl, HT.out, ?_⟩
    show KB b B (w.setCell ⟨p, o, none⟩ (.string x)) _
    rw [set_same HX.out]
    exact KB.refl _ _ _
  | false =>
    obtain ⟨n, a, c, ht⟩ : ∃ n a c, ttR r.data.toList = (n, a, c) := ⟨_, _, _, rfl⟩
    have hal := (ttT_le ht).1
    rw [size_list] at hal
    have hsn : (⟨n.toArray⟩ : ByteArray).size = n.length := by show n.toArray.size = _; rw [List.size_toArray]
    have hres : tkX (false, r) x = if lkT false ⟨n.toArray⟩ = false ∧ c = 0 then ((false, r.extract a r.size), ⟨n.toArray⟩) else ((true, r), x) := by
      unfold tkX
      simp only [Bool.false_eq_true, if_false, ht]
      have hq : lkT false ⟨n.toArray⟩ = false ↔ n.length ≤ 256 := by
        unfold lkT
        rw [hsn]
        simp
      by_cases q : lkT false ⟨n.toArray⟩ = false
      · by_cases q2 : c = 0
        · rw [if_pos ⟨hq.1 q, q2⟩, if_pos ⟨q, q2⟩]
        · rw [if_neg (fun hh => q2 hh.2), if_neg (fun hh => q2 hh.2)]
      · rw [if_neg (fun hh => q (hq.2 hh.1)), if_neg (fun hh => q hh.1)]
    rw [hres]
    have HC : Hid (Calls Try.prog 102 #[.string r] w fun e w' => e = .returned (.tuple #[.string ⟨n.toArray⟩, .int .i64 (a : Nat), .int .i64 (c : Nat)]) ∧ Below w.heap.size w w') := Lib.hid (by
      have := taketext_code r w (by omega)
      unfold TT at this
      rw [ht] at this
      exact this)
    have hai : (a : Int) ≤ (r.size : Int) := by omega
    have ha0 : (0 : Int) ≤ (a : Int) := by omega
    obtain ⟨q, hq⟩ : ∃ q, lkT false ⟨n.toArray⟩ = q := ⟨_, rfl⟩
    rw [hq]
    obtain ⟨S2, X2, hS⟩ : ∃ S2 X2, (if q = false ∧ c = 0 then ((false, r.extract a r.size), (⟨n.toArray⟩ : ByteArray)) else ((true, r), x)) = (S2, X2) := ⟨_, _, rfl⟩
    rw [hS]
    have HRES := Lib.hid hS
    have HQ := Lib.hid hq
    have HLE := Lib.hid hle
    clear hS hp hx hq ht hres hsn
    go_enter Try.func100, Try.ntmps100
    go_wp2_with fail
    refine HC.out.mono ?_
    rintro e wt ⟨rfl, hbt⟩
    clear HC
    obtain ⟨xb, hxb⟩ : ∃ y, y = wt.heap.size := ⟨_, rfl⟩
    have hbs := hbt.size
    have hb1 := (Below.refl wt.heap.size wt).alloc (Nat.le_refl _) (.cells #[.string ⟨n.toArray⟩] 9)
    have HT0 := Lib.hid (HT.out.old hbt)
    have HT1 := Lib.hid (HT0.out.old hb1)
    have HK0 : Hid (KB b B w wt) := Lib.hid (KB.of hbt HLE.out)
    have HK1 : Hid (KB b B w (wt.alloc (.cells #[.string ⟨n.toArray⟩] 9))) := Lib.hid (HK0.out.alloc HT0.out.le _)
    have hxc : (wt.alloc (.cells #[.string ⟨n.toArray⟩] 9)).cell? ⟨wt.heap.size, 0, none⟩ = some (.string ⟨n.toArray⟩) := (alloc_cell _ _ _ 0).trans rfl
    have hxl : wt.heap.size < (wt.alloc (.cells #[.string ⟨n.toArray⟩] 9)).heap.size := by simp
    have HL : Hid (Calls Try.prog 98 #[.pointer (some ⟨b, 0, none⟩), .pointer (some ⟨wt.heap.size, 0, none⟩)] (wt.alloc (.cells #[.string ⟨n.toArray⟩] 9)) fun e w' => e = .returned (.tuple #[]) ∧ w' = (wt.alloc (.cells #[.string ⟨n.toArray⟩] 9)).setCell ⟨b, 0, none⟩ (.bool q)) := Lib.hid (by
      have := looksTxt_any b wt.heap.size 0 false ⟨n.toArray⟩ _ HT1.out.c0 HT1.out.f0 HT1.out.lt hxc hxl
      rw [HQ.out] at this
      exact this)
    have HPX : Hid (xb ≠ b ∧ xb ≠ p) := Lib.hid ⟨by omega, by omega⟩
    have HP1 := Lib.hid (HP.out.keep HK1.out)
    rw [← hxb] at hxc hxl HL
    have e0 := HT0.out.c0
    have e1 := HT0.out.c1
    have e2 := HT0.out.lt
    simp only at e0 e1
    clear hb1 hbt c0 c1 f0 f1 hlt hle
    go_upto_region 2 with fail
    rw [← hxb]
    generalize wt.alloc (.cells #[.string ⟨n.toArray⟩] 9) = w1 at *
    obtain ⟨d0, d1, df0, df1, dlt, dle, dsz⟩ := HT1.out
    simp only at d0 d1
    clear hxb hbs e0 e1 e2 HT0 HK0
    go_wp2_with fail
    refine HL.out.mono ?_
    rintro e w' ⟨rfl, rfl⟩
    clear HL
    have HT2 := Lib.hid (HT1.out.wrong q)
    have HK2 := Lib.hid (HK1.out.own 0 hB (.bool q))
    have hxc2 : (w1.setCell ⟨b, 0, none⟩ (.bool q)).cell? ⟨xb, 0, none⟩ = some (.string ⟨n.toArray⟩) := (World.cell?_setCell_other _ _ _ _ (fun e => HPX.out.1 (by injection e with e1; exact e1.symm))).trans hxc
    have hxl2 : xb < (w1.setCell ⟨b, 0, none⟩ (.bool q)).heap.size := by simpa using hxl
    have HP2 := Lib.hid (HP1.out.set ⟨b, 0, none⟩ (.bool q))
    have hpl2 : p < (w1.setCell ⟨b, 0, none⟩ (.bool q)).heap.size := HP2.out.2.1
    generalize w1.setCell ⟨b, 0, none⟩ (.bool q) = w2 at *
    clear d0 d1 df0 df1 dlt dle hxc hxl HK1 HT1 HP1
    obtain ⟨d0, d1, df0, df1, dlt, dle, dsz'⟩ := HT2.out
    simp only at d0 d1 dsz'
    cases q with
    | true =>
      have HF := Lib.hid (HT2.out.wrong true)
      have HG := Lib.hid (HK2.out.own 0 hB (.bool true))
      clear dsz'
      go_wp2_with fail
      go_end0
      obtain ⟨rfl, rfl⟩ : (true, r) = S2 ∧ x = X2 := by have h5 := HRES.out; rw [if_neg (fun hh => by cases hh.1)] at h5; exact ⟨congrArg (·.1) h5, congrArg (·.2) h5⟩
      refine ⟨rfl, HF.out, ?_⟩
      rw [set_same HX.out]
      exact HG.out
    | false =>
      by_cases hc0 : c = 0
      case neg =>
        have hci : ((c : Int) == 0) = false := by rw [beq_eq_false_iff_ne]; omega
        have hci2 : ¬ (c : Int) = 0 := by omega
        have hci3 : ((c : Int) != 0) = true := by rw [bne_iff_ne]; omega
        have HF := Lib.hid (HT2.out.wrong true)
        have HG := Lib.hid (HK2.out.own 0 hB (.bool true))
        have HC0 := Lib.hid hc0
        clear dsz'
        go_wp2_with fail
        go_end0
        obtain ⟨rfl, rfl⟩ : (true, r) = S2 ∧ x = X2 := by have h5 := HRES.out; rw [if_neg (fun hh => HC0.out hh.2)] at h5; exact ⟨congrArg (·.1) h5, congrArg (·.2) h5⟩
        refine ⟨rfl, HF.out, ?_⟩
        rw [set_same HX.out]
        exact HG.out
      subst hc0
      have HT3 := Lib.hid (HT2.out.wrong false)
      have HK3 := Lib.hid (HK2.out.own 0 hB (.bool false))
      have hxc3 : (w2.setCell ⟨b, 0, none⟩ (.bool false)).cell? ⟨xb, 0, none⟩ = some (.string ⟨n.toArray⟩) := (World.cell?_setCell_other _ _ _ _ (fun e => HPX.out.1 (by injection e with e1; exact e1.symm))).trans hxc2
      have HP3 := Lib.hid (HP2.out.set ⟨b, 0, none⟩ (.bool false))
      clear dsz'
      go_upto_region 5 with fail
      generalize w2.setCell ⟨b, 0, none⟩ (.bool false) = w3 at *
      clear d0 d1 df0 df1 dlt dle hxc2 hxl2 hpl2 HK2 HT2 HP2
      obtain ⟨d0, d1, df0, df1, dlt, dle, dsz'⟩ := HT3.out
      simp only at d0 d1 dsz'
      obtain ⟨rfl, rfl⟩ : (false, r.extract a r.size) = S2 ∧ (⟨n.toArray⟩ : ByteArray) = X2 := by have h5 := HRES.out; rw [if_pos (by simp)] at h5; exact ⟨congrArg (·.1) h5, congrArg (·.2) h5⟩
      have hpl3 := HP3.out.2.1
      have hfp := HP3.out.frozen (HP3.out.le id) o
      have HFF := Lib.hid (And.intro df1 (And.intro dlt hfp))
      clear dsz'
      refine mixed_region2 (D := (fun w' => w'.cell? ⟨xb, 0, none⟩ = some (.string ⟨n.toArray⟩) ∧ w'.cell? ⟨b, 1, none⟩ = some (.string r))) [0, 1, 2, 3, 4, 5, 6, 7, 8, 9] [10, 11, 12, 13] 13 (by kernel_rfl) (by kernel_rfl) (by decide) (⟨hxc3, d1⟩) ?_
      simp only [List.filterMap_cons, List.filterMap_nil, List.getElem?_cons_zero, List.getElem?_cons_succ]
      repeat (
        (first
         | (refine calm_move _ rfl ?_)
         | (apply calm_cons
            · (intro w' hw'
               first | (obtain ⟨hwa', hwb', hwc'⟩ := hw') | (obtain ⟨hwa', hwb'⟩ := hw') | skip
               go_simp
               first
               | done
               | exact rfl)))
        simp only [Act.put, Act.eval, List.setIfInBounds_toArray, List.set_cons_zero, List.set_cons_succ, Array.getD_eq_getD_getElem?, List.getElem?_toArray, List.getElem?_cons_zero, List.getElem?_cons_succ, Option.getD_some])
      refine calm_nil ?_
      have hpb : p ≠ b := HP3.out.1
      have HD4 : Hid ((w3.setCell ⟨p, o, none⟩ (.string ⟨n.toArray⟩)).drew.cell? ⟨xb, 0, none⟩ = some (.string ⟨n.toArray⟩) ∧ (w3.setCell ⟨p, o, none⟩ (.string ⟨n.toArray⟩)).drew.cell? ⟨b, 1, none⟩ = some (.string r)) := Lib.hid ⟨(World.cell?_setCell_other _ _ _ _ (fun e => HPX.out.2 (by injection e with e1; exact e1.symm))).trans hxc3, (World.cell?_setCell_other _ _ _ _ (fun e => hpb (by injection e))).trans d1⟩
      have HT4 : Hid (AtT b B (w3.setCell ⟨p, o, none⟩ (.string ⟨n.toArray⟩)).drew (false, r)) := Lib.hid ((HT3.out.set hpb).old (Below.refl _ _).drew)
      have HK4 : Hid (KB b B (w.setCell ⟨p, o, none⟩ (.string ⟨n.toArray⟩)) (w3.setCell ⟨p, o, none⟩ (.string ⟨n.toArray⟩)).drew) := Lib.hid (HK3.out.set _ _ hpb).drew
      refine loud_cons fun K hK => ?_
      have hfp3 : w3.drew.frozen? ⟨p, o, none⟩ = false := hfp
      have hpl4 : p < w3.drew.heap.size := hpl3
      have hxp : w3.drew.cell? ⟨p, o, none⟩ = some (.string x) := (HP.out.cell HK3.out.drew o).trans HX.out
      go_wp2_with fail
      refine hK _ _ (fun _ => HD4.out) ?_
      clear hK K hfp3 hpl4 hxp
      have HFR := Lib.hid HT4.out.f1
      generalize (w3.setCell ⟨p, o, none⟩ (.string ⟨n.toArray⟩)).drew = w4 at *
      refine loud_cons fun K hK => ?_
      go_wp2_with fail
      refine hK _ _ (fun _ => HD4.out) ?_
      clear hK K
      refine loud_cons fun K hK => ?_
      go_wp2_with fail
      refine hK _ _ (fun _ => HD4.out) ?_
      clear hK K
      refine loud_cons fun K hK => ?_
      have hfr := HT4.out.f1
      have hc1 := HT4.out.c1
      have hlt4 := HT4.out.lt
      simp only at hc1
      have HF := Lib.hid (HT4.out.rest (r.extract a r.size) (by rw [ByteArray.size_extract]; omega))
      have HG := Lib.hid (HK4.out.own 1 hB (.string (r.extract a r.size)))
      go_wp2_with fail
      refine hK _ _ (fun hh => absurd rfl hh) ?_
      refine loud_nil ?_
      clear hK K
      go_wp2_with fail
      go_end0
      exact ⟨rfl, HF.out, HG.out⟩
theorem takes_way (b B : Nat) (hB : B ≤ b) : WayAt takesW 74 b B False (AtT b B) where
  gnum := fun h => h.elim
  gtxt := fun h => h.elim
  rng := fun s lo hi x => by
    show (tkN s lo hi x).2 = x ∨ (lo ≤ (tkN s lo hi x).2 ∧ (tkN s lo hi x).2 ≤ hi)
    unfold tkN
    split
    · exact .inl rfl
    · split
      · rename_i h; exact .inr ⟨h.1, h.2.1⟩
      · exact .inl rfl
  old := fun w w' s h hb => h.old hb
  set := fun w s p o v h hp => h.set hp.1
  nah := fun k w => by kernel_rfl
  lt := fun w s h => ⟨h.lt, h.le⟩
  num := ⟨99, .pointer (some ⟨b, 0, none⟩), fun k w => by kernel_rfl, fun args w => by kernel_rfl, fun w s p o lo hi x h hp hx _ => takesNum_any b B p o hB s lo hi x w h hp hx⟩
  txt := ⟨100, .pointer (some ⟨b, 0, none⟩), fun k w => by kernel_rfl, fun args w => by kernel_rfl, fun w s p o t h hp hx _ => takesTxt_any b B p o hB s t w h hp hx⟩
end Go.Proofs.Ytdnhmkfgcpdbkaa
