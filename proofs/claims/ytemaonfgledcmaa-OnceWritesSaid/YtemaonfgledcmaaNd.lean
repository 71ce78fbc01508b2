/-
  Layer 14 (once): contracts of list, place, of the code. Conditions: places in a block, lists within the reach.
-/
import Derived.Test.YtemaonfgledcmaaNc
namespace Go.Proofs.Ytemaonfgledcmaa
open Go.RowKit
set_option linter.unusedVariables false
set_option linter.unusedSimpArgs false

theorem lstP_succ (p : Pl) (k : Nat) : lstP p (k + 1) = lstP p k ++ (if 0 < (p k).s then [p k] else []) := rfl
/-- A list that a call hands back. -/
def LT (l : List Sn) (w : World) (e : Ending) (w' : World) : Prop := ∃ a n cap, e = .returned (.slice a n cap) ∧ SS w' a n cap l ∧ Below w.heap.size w w'
set_option maxRecDepth 100000 in
set_option maxHeartbeats 2000000 in
theorem list14_any (b : Nat) (p : Pl) (w : World) (h : PL w b p) : Calls Try.prog 30 #[.pointer (some ⟨b, 0, none⟩)] w (LT (lstP p 8) w) := by
  have HP := Lib.hid h
  have hlt := h.lt
  clear h
  have hnone : w.ownsRow w.heap.size 39 7 (.slice none 0 0) ([] : List Sn).length (cvs []) := World.ownsRow_nil _ _ _ _
  obtain ⟨i0, hi0, hz0, hz1, hz2⟩ := info_parts Try.infoSn
  have HR0 := Lib.hid hnone
  clear hnone
  obtain ⟨B, hB⟩ : ∃ B, B = w.heap.size := ⟨_, rfl⟩
  have HBW := Lib.hid hB
  rw [← hB] at HR0 hlt
  clear hB
  go_enter Try.func30, Try.ntmps30
  go_wp2_with fail
  go_loopw [3, 8, 5] (fun s i _ wr => ∃ (k m : Nat) (a : Option Addr) (cap : Nat), s = .slice a m cap ∧ i = .int .i64 k ∧ k ≤ 8 ∧ m ≤ k ∧ Hid (m = (lstP p k).length) ∧ Hid (wr.ownsRow B 39 7 (.slice a m cap) m (cvs (lstP p k))) ∧ Hid (Below B w wr)) (fun _ i _ _ => 8 - (intOf i).toNat)
  case atStart => exact ⟨0, 0, none, 0, rfl, by first | rfl | go_num, by omega, by omega, Lib.hid rfl, HR0, Lib.hid (by rw [HBW.out]; exact Below.refl _ _)⟩
  case round =>
    obtain ⟨k, m, a, cap, rfl, rfl, hk, hm, HM, HR, HW⟩ := hrel
    by_cases hlt8 : k < 8
    · have hki : (k : Int) < 8 := by omega
      have hBr : B ≤ wr.heap.size := by rw [HBW.out]; exact HW.out.size
      have hPr := HP.out.below (by rw [← HBW.out]; exact HW.out)
      obtain ⟨c0, c1, c2, c3, c4, c5, c6⟩ := hPr.cells hlt8
      obtain ⟨x, hx⟩ : ∃ x, x = p k := ⟨_, rfl⟩
      have HX := Lib.hid hx
      rw [← hx] at c0 c1 c2 c3 c4 c5 c6
      obtain ⟨xc, xs, xe, xv, xh, xp, xn, xk, xu⟩ := x
      simp only at c0 c1 c2 c3 c4 c5 c6
      clear hx hPr
      by_cases hs : 0 < xs
      · have hL : lstP p (k + 1) = lstP p k ++ [⟨xc, xs, xe, xv, xh, xp, xn, xk, xu⟩] := by rw [lstP_succ, ← HX.out, if_pos (by exact hs)]
        have HL := Lib.hid hL
        clear hL
        have HC := Lib.hid (And.intro c0 (And.intro c1 (And.intro c2 (And.intro c3 (And.intro c4 (And.intro c5 c6))))))
        have hbr : b < wr.heap.size := Nat.lt_of_lt_of_le hlt hBr
        go_upto_region 6 with fail
        obtain ⟨o, ho⟩ : ∃ o, o = Obj.cells #[.int .i64 xc, .int .i64 xs, .int .i64 xe, .string xv, .bool xh, .slice xp xn xk, .string xu] 39 := ⟨_, rfl⟩
        have hB2 : SBox (wr.alloc o) wr.heap.size ⟨xc, xs, xe, xv, xh, xp, xn, xk, xu⟩ := by rw [ho]; exact SBox.new wr _ ⟨xc, xs, xe, xv, xh, xp, xn, xk, xu⟩
        rw [← ho]
        clear ho
        have HB1 := Lib.hid (HW.out.alloc hBr o)
        have HR1 := Lib.hid (HR.out.alloc o)
        have hBs : B ≤ (wr.alloc o).heap.size := by simp; omega
        obtain ⟨y, hy⟩ : ∃ y, y = wr.heap.size := ⟨_, rfl⟩
        rw [← hy] at hB2 ⊢
        have hyb : B ≤ y := by omega
        clear hy c0 c1 c2 c3 c4 c5 c6
        generalize wr.alloc o = w1 at *
        obtain ⟨q0, q1, q2, q3, q4, q5, q6, q7⟩ := hB2
        simp only at q0 q1 q2 q3 q4 q5 q6
        go_wp2_with (at_builtin; generalize hG : wpList _ _ _ _ _ _ = G)
        rw [← hG]
        clear hG
        refine wpList_append_own _ rfl (.tmp 16) (.tmp 18) 22 rfl B 39 i0 (.agg #[.int .i64 0, .int .i64 0, .int .i64 0, .string ⟨#[]⟩, .bool false, .slice none 0 0, .string ⟨#[]⟩]) 7 88 Try.underlying22 hi0 hz0 hz1 hz2 rfl (by decide) _ _ _ rfl (HR1.out.alloc _) ⟨w1.heap.size, 0, none⟩ 1 1 (cv ⟨xc, xs, xe, xv, xh, xp, xn, xk, xu⟩) rfl rfl ?c1 ?c2 ?c3 ?c4 ?c5 ?_
        case c1 => exact cell_new7 w1 ⟨xc, xs, xe, xv, xh, xp, xn, xk, xu⟩ _
        case c2 => exact cv_one _
        case c3 => unfold maxLen; omega
        case c4 => omega
        case c5 => simp [go_sem]; omega
        intro v' w6 hown6 hgrow _
        obtain ⟨a6, c6, rfl⟩ := own_form14 hown6 (by decide)
        have hb6 := Lib.hid (HB1.out.trans ((((Below.refl B w1).alloc hBs _).grown hgrow (by simp [go_sem]; omega) (fun k hk => (HR1.out.lt k hk).1))))
        rw [cvs_snoc, ← HL.out] at hown6
        have HN := Lib.hid hown6
        have HM2 : Hid (m + 1 = (lstP p (k + 1)).length) := Lib.hid (by rw [HL.out, List.length_append, ← HM.out]; rfl)
        clear hown6 hgrow q0 q1 q2 q3 q4 q5 q6 q7
        go_wp2_with fail
        go_roundw
        case rel => exact ⟨k + 1, m + 1, _, _, rfl, by go_num, by omega, by omega, HM2, HN, hb6⟩
        case measure => simp [intOf]; omega
      · have hL : lstP p (k + 1) = lstP p k := by rw [lstP_succ, ← HX.out, if_neg (by exact hs), List.append_nil]
        have HL := Lib.hid hL
        clear hL
        have hbr : b < wr.heap.size := Nat.lt_of_lt_of_le hlt hBr
        go_wp2_with fail
        go_roundw
        case rel => exact ⟨k + 1, m, _, _, rfl, by go_num, by omega, by omega, Lib.hid (by rw [HL.out]; exact HM.out), Lib.hid (by rw [HL.out]; exact HR.out.alloc _), Lib.hid (HW.out.alloc hBr _)⟩
        case measure => simp [intOf]; omega
    · obtain rfl : k = 8 := by omega
      go_wp2_with fail
      go_ret
      obtain ⟨a', c', e, hs⟩ := own_ss HR.out HM.out.symm
      obtain ⟨rfl, rfl⟩ : a = a' ∧ cap = c' := by injection e with e1 _ e2; exact ⟨e1, e2⟩
      exact ⟨_, _, _, rfl, hs, by rw [HBW.out] at HW; exact HW.out⟩
theorem PL.new (w : World) (p : Pl) (t : TypeId) : PL (w.alloc (.cells (cells8 p).toArray t)) w.heap.size p := by
  have hc : ∀ j v, (cells8 p)[j]? = some v → (w.alloc (.cells (cells8 p).toArray t)).cell? ⟨w.heap.size, j, none⟩ = some v := fun j v hv => by
    rw [cell_of_row _ _ j _ t (0, 0) (heap_alloc_new w _)]
    simpa using hv
  have hl : (cells8 p).length = 56 := len_flat (fun i => p i) 8
  have hg : ∀ i j, i < 8 → j < 7 → (cells8 p)[i * 7 + j]? = (cv (p i))[j]? := by
    intro i j hi hj
    have : cells8 p = cvs ((List.range 8).map p) := by unfold cells8 cvs; rw [List.flatMap_map]
    rw [this, cvs_get _ i j (by simpa using hi) hj]
    simp
  refine ⟨by simp, fun i hi j v hv => ?_, fun j hj => ⟨?_, ?_⟩⟩
  · have hj : j < 7 := by rw [← cv_length (p i)]; exact (List.getElem?_eq_some_iff.1 hv).1
    exact hc _ _ ((hg i j hi hj).trans hv)
  · rw [Nat.zero_add, hc j _ (List.getElem?_eq_getElem (by omega))]; rfl
  · exact frozen_of_row _ _ _ _ t (heap_alloc_new w _)
theorem zero8 : #[(.int .i64 0), (.int .i64 0), (.int .i64 0), (.string ⟨#[]⟩), (.bool false), (.slice none 0 0), (.string ⟨#[]⟩), (.int .i64 0), (.int .i64 0), (.int .i64 0), (.string ⟨#[]⟩), (.bool false), (.slice none 0 0), (.string ⟨#[]⟩), (.int .i64 0), (.int .i64 0), (.int .i64 0), (.string ⟨#[]⟩), (.bool false), (.slice none 0 0), (.string ⟨#[]⟩), (.int .i64 0), (.int .i64 0), (.int .i64 0), (.string ⟨#[]⟩), (.bool false), (.slice none 0 0), (.string ⟨#[]⟩), (.int .i64 0), (.int .i64 0), (.int .i64 0), (.string ⟨#[]⟩), (.bool false), (.slice none 0 0), (.string ⟨#[]⟩), (.int .i64 0), (.int .i64 0), (.int .i64 0), (.string ⟨#[]⟩), (.bool false), (.slice none 0 0), (.string ⟨#[]⟩), (.int .i64 0), (.int .i64 0), (.int .i64 0), (.string ⟨#[]⟩), (.bool false), (.slice none 0 0), (.string ⟨#[]⟩), (.int .i64 0), (.int .i64 0), (.int .i64 0), (.string ⟨#[]⟩), (.bool false), (.slice none 0 0), (.string ⟨#[]⟩)] = (cells8 fun _ => Z0).toArray := rfl
theorem cells8_len (p : Pl) : (cells8 p).length = 56 := len_flat (fun i => p i) 8
theorem cells8_one (p : Pl) : (cells8 p).toArray.all (·.oneCell') = true := all_oneCell_toArray (by
    intro v hv
    unfold cells8 at hv
    rw [List.mem_flatMap] at hv
    obtain ⟨i, _, hi⟩ := hv
    exact cv_one _ v hi)
theorem PL.fresh {w : World} {b : Nat} {p : Pl} (h : PL w b p) (o : Obj) : PL (w.alloc o) b p := h.below (box_bel14 w o)
theorem PL.load {w : World} {b : Nat} {p : Pl} (h : PL w b p) : (Instr.loadAt 69 (.pointer (some ⟨b, 0, none⟩))).run Try.prog w = .ok (.agg (cells8 p).toArray) w :=
  run_loadAt_mid w b 0 _ _ _ h.whole Try.underlying69 rfl (by rw [Try.size8]; rw [show (cells8 p).length = 56 from len_flat (fun i => p i) 8])
theorem PL.store {w : World} {b : Nat} {p q : Pl} (h : PL w b p) : (Instr.storeAt 69 (.pointer (some ⟨b, 0, none⟩)) (.agg (cells8 q).toArray)).run Try.prog w = .ok () (w.setCells b 0 (cells8 q)) := by
  have hl : (cells8 q).length = 56 := len_flat (fun i => q i) 8
  have := run_storeAt_mid (P := Try.prog) w b 0 69 (cells8 q).toArray (by simpa [hl] using h.wr) (by rw [Try.size8]; simp [hl]) (all_oneCell_toArray (by
    intro v hv
    unfold cells8 at hv
    rw [List.mem_flatMap] at hv
    obtain ⟨i, _, hi⟩ := hv
    exact cv_one _ v hi))
  simpa using this
theorem PL.all {w : World} {b : Nat} {p q : Pl} (h : PL w b p) : PL (w.setCells b 0 (cells8 q)) b q := by
  have hl : (cells8 q).length = 56 := len_flat (fun i => q i) 8
  have hs := World.rangeAt_setCells_same w b 0 (cells8 q) (by rw [hl]; exact h.wr)
  have hg : ∀ i j, i < 8 → j < 7 → (cells8 q)[i * 7 + j]? = (cv (q i))[j]? := by
    intro i j hi hj
    have : cells8 q = cvs ((List.range 8).map q) := by unfold cells8 cvs; rw [List.flatMap_map]
    rw [this, cvs_get _ i j (by simpa using hi) hj]
    simp
  refine ⟨by rw [size_setCells]; exact h.lt, fun i hi j v hv => ?_, World.there_setCells h.wr _ _ _⟩
  have hj : j < 7 := by rw [← cv_length (q i)]; exact (List.getElem?_eq_some_iff.1 hv).1
  have := hs (i * 7 + j) v ((hg i j hi hj).trans hv)
  rwa [Nat.zero_add] at this
theorem up_drop {l : List Sn} {b : Int} {k : Nat} (hk : k < l.length) : up b (l.drop k) = (mayS l[k] && decide (b < l[k].c) && up l[k].c (l.drop (k + 1))) := by
  rw [List.drop_eq_getElem_cons hk]; rfl
theorem plc_drop {l : List Sn} {p : Pl} {k : Nat} (hk : k < l.length) : plc p (l.drop k) = plc (setP p l[k]) (l.drop (k + 1)) := by
  rw [List.drop_eq_getElem_cons hk]; rfl
theorem place_res (tmps : Array Value) (w : World) (x : Nat) (p : Pl) (b : Bool) (h : w.rangeAt x 0 (cells8 p)) (hi : (Try.prog.info? 69).map (·.size) = some (cells8 p).length) (h2 : tmps.getD 2 undef = .pointer (some ⟨x, 0, none⟩)) (h3 : tmps.getD 3 undef = .bool b) :
    (results Try.f29 tmps).run Try.prog w = .ok (.tuple #[.agg (cells8 p).toArray, .bool b]) w := by
  have hl := run_loadVar_mid (P := Try.prog) w x 0 69 (cells8 p) _ h Try.underlying69 rfl hi
  rw [Array.getD_eq_getD_getElem?] at h2 h3
  simp [results, Try.results29, asAddr, hl, h2, h3]
theorem PL.kpb {w w' : World} {b c : Nat} {p : Pl} (h : PL w b p) (hb : KpB c w w') (hn : ¬ b = c) : PL w' b p :=
  ⟨Nat.lt_of_lt_of_le h.lt hb.1, fun i hi j v hv => (hb.2 ⟨b, i * 7 + j, none⟩ h.lt hn).1.trans (h.at_ i hi j v hv), fun j hj => by
    have := h.wr j hj
    rw [(hb.2 ⟨b, 0 + j, none⟩ h.lt hn).1, (hb.2 ⟨b, 0 + j, none⟩ h.lt hn).2]
    exact this⟩
set_option maxRecDepth 100000 in
set_option maxHeartbeats 2000000 in
theorem place14_any (a : Option Addr) (n cap : Nat) (l : List Sn) (w : World) (h : SS w a n cap l) (b : Bool) (hb : chk l = b) :
    Calls Try.prog 29 #[.slice a n cap] w fun e w' => e = .returned (.tuple #[.agg (cells8 (if b = true then plcd l else fun _ => Z0)).toArray, .bool b]) ∧ Below w.heap.size w w' := by
  obtain ⟨ab, off, ha, hb', hc⟩ := h.2.1.at_
  have hl := h.1
  have hnm : n ≤ maxLen := Nat.le_trans h.2.2.1 h.2.2.2
  unfold maxLen at hnm
  rw [hl] at ha hb'
  have HC := Lib.hid hc
  have HL := Lib.hid hl
  have HB := Lib.hid hb
  clear hc hl hb h
  obtain ⟨PP, hPP⟩ : ∃ PP, PP = if b = true then plcd l else fun _ => Z0 := ⟨_, rfl⟩
  rw [← hPP]
  have HPP := Lib.hid hPP
  clear hPP
  go_enter Try.func29, Try.ntmps29
  go_upto_region 2 with fail
  rw [zero8]
  obtain ⟨o, ho⟩ : ∃ o, o = Obj.cells (cells8 fun _ => Z0).toArray 69 := ⟨_, rfl⟩
  have h1 : PL (w.alloc o) w.heap.size fun _ => Z0 := by rw [ho]; exact PL.new _ _ _
  have h2 : PL ((w.alloc o).alloc o) (w.alloc o).heap.size fun _ => Z0 := by
    have := PL.new (w.alloc o) (fun _ => Z0) 69
    rwa [← ho] at this
  have h3 := h1.fresh o
  have hbl := (box_bel14 w o).alloc (show w.heap.size ≤ (w.alloc o).heap.size by simp) o
  rw [← ho]
  rw [show (w.alloc o).heap.size = w.heap.size + 1 by simp] at h2
  obtain ⟨x, hx⟩ : ∃ x, x = w.heap.size := ⟨_, rfl⟩
  obtain ⟨y, hy⟩ : ∃ y, y = w.heap.size + 1 := ⟨_, rfl⟩
  rw [← hy] at h2 ⊢
  rw [← hx] at h3 ⊢
  have HX := Lib.hid (And.intro hx hy)
  clear hx hy ho h1
  generalize (w.alloc o).alloc o = W at *
  have HR0 := Lib.hid h3
  have HP0 := Lib.hid h2
  have HBL := Lib.hid hbl
  clear h2 h3 hbl
  go_wp2_with fail
  go_loopw [5, 10, 7] (fun s i _ wr => ∃ (k : Nat) (la : Int) (p : Pl), s = .int .i64 la ∧ i = .int .i64 k ∧ k ≤ n ∧ Hid (up la (l.drop k) = b) ∧ Hid (plc p (l.drop k) = plcd l) ∧ Hid (PL wr y p) ∧ Hid (PL wr x fun _ => Z0) ∧ Hid (Below w.heap.size w wr)) (fun _ i _ _ => n - (intOf i).toNat)
  case atStart => exact ⟨0, -1, fun _ => Z0, rfl, by first | rfl | go_num, by omega, HB, Lib.hid rfl, HP0, HR0, HBL⟩
  case round =>
    obtain ⟨k, la, p, rfl, rfl, hk, HU, HPC, HP, HR, HW⟩ := hrel
    by_cases hlt : k < n
    · have hki : (k : Int) < (n : Int) := by omega
      obtain rfl := ha (by omega)
      have hbw := hb' (by omega)
      have hkl : k < l.length := by rw [HL.out]; exact hlt
      have hbr : ab < wr.heap.size := Nat.lt_of_lt_of_le hbw HW.out.size
      obtain ⟨c0, c1, c2, c3, c4, c5, c6⟩ := HC.out.old hbw HW.out k hkl
      obtain ⟨z, hz⟩ : ∃ z, z = l[k] := ⟨_, rfl⟩
      have hu := up_drop (b := la) hkl
      have hp := plc_drop (p := p) hkl
      rw [HU.out, ← hz] at hu
      rw [HPC.out, ← hz] at hp
      have HU2 := Lib.hid hu
      have HP2 := Lib.hid hp
      have HZ := Lib.hid hz
      rw [← hz] at c0 c1 c2 c3 c4 c5 c6
      clear hu hp hz
      go_upto_region 6 with fail
      obtain ⟨o2, ho⟩ : ∃ o, o = Obj.cells #[.int .i64 z.c, .int .i64 z.s, .int .i64 z.e, .string z.v, .bool z.h, .slice z.p z.n z.k, .string z.u] 39 := ⟨_, rfl⟩
      have hB2 : SBox (wr.alloc o2) wr.heap.size z := by rw [ho]; exact SBox.new wr _ z
      have HB1 := Lib.hid (HW.out.alloc (by exact HW.out.size) o2)
      have HP1 := Lib.hid (HP.out.fresh o2)
      have HR1 := Lib.hid (HR.out.fresh o2)
      rw [← ho]
      clear ho c0 c1 c2 c3 c4 c5 c6
      obtain ⟨v, hv⟩ : ∃ v, v = wr.heap.size := ⟨_, rfl⟩
      rw [← hv] at hB2 ⊢
      have hvy : ¬ v = y := by have := HP.out.lt; omega
      have hvx : ¬ v = x := by have := HR.out.lt; omega
      have hw1 : wr.heap.size ≤ (wr.alloc o2).heap.size := by simp
      clear hv
      generalize wr.alloc o2 = w1 at *
      have HBX := Lib.hid hB2
      obtain ⟨q0, q1, q2, q3, q4, q5, q6, q7⟩ := hB2
      obtain ⟨r, hr⟩ : ∃ r, r = mayS z := ⟨_, rfl⟩
      have HMB := Lib.hid (mayBe14_any z r hr.symm w1)
      rw [← hr] at HU2
      have HRM := Lib.hid hr
      clear hr
      go_wp2_with fail
      refine HMB.out.mono ?_
      rintro e' w2 ⟨rfl, hb2⟩
      have HB2 := Lib.hid (HB1.out.trans (hb2.mono HB1.out.size))
      have HP2b := Lib.hid (HP1.out.below hb2)
      have HR2 := Lib.hid (HR1.out.below hb2)
      have HBX2 := Lib.hid (HBX.out.below hb2)
      clear q0 q1 q2 q3 q4 q5 q6 q7 hb2 HMB HBX HB1 HP1 HR1
      obtain ⟨q0, q1, q2, q3, q4, q5, q6, q7⟩ := HBX2.out
      have hno : b = false → ∀ (wz : World), wz = w2 → PP = fun _ => Z0 := fun hb _ _ => by rw [HPP.out, hb]; rfl
      cases r with
      | false =>
        obtain rfl : b = false := by have := HU2.out; simpa using this
        obtain rfl := hno rfl _ rfl
        clear hno
        have hsz2 : (Try.prog.info? 69).map (·.size) = some (cells8 fun _ => Z0).toArray.size := by rw [Try.size8]; rfl
        have HSZ := Lib.hid hsz2
        clear hsz2
        go_wp2_with (refine wpList_store_mid rfl 69 (.tmp 2) (.tmp 23) rfl x 0 (cells8 fun _ => Z0).toArray rfl rfl (by simpa [cells8_len] using HR2.out.wr) HSZ.out (cells8_one _) ?_)
        refine bodyPost_ret (v := .tuple #[.agg (cells8 fun _ => Z0).toArray, .bool false]) ?_ rfl ⟨rfl, below_setCells _ _ _ HB2.out (by rw [HX.out.1]; omega)⟩
        exact place_res _ _ x _ false (HR2.out.all.whole) (by rw [Try.size8]; rfl) rfl rfl
      | true =>
        by_cases hcl : z.c ≤ la
        · obtain rfl : b = false := by have := HU2.out; rw [this]; have : ¬ la < z.c := by omega
                                       simp [this]
          obtain rfl := hno rfl _ rfl
          clear hno
          have hsz2 : (Try.prog.info? 69).map (·.size) = some (cells8 fun _ => Z0).toArray.size := by rw [Try.size8]; rfl
          have HSZ := Lib.hid hsz2
          clear hsz2
          go_wp2_with (refine wpList_store_mid rfl 69 (.tmp 2) (.tmp 23) rfl x 0 (cells8 fun _ => Z0).toArray rfl rfl (by simpa [cells8_len] using HR2.out.wr) HSZ.out (cells8_one _) ?_)
          refine bodyPost_ret (v := .tuple #[.agg (cells8 fun _ => Z0).toArray, .bool false]) ?_ rfl ⟨rfl, below_setCells _ _ _ HB2.out (by rw [HX.out.1]; omega)⟩
          exact place_res _ _ x _ false (HR2.out.all.whole) (by rw [Try.size8]; rfl) rfl rfl
        · have HU3 : Hid (up z.c (l.drop (k + 1)) = b) := Lib.hid (by
            have := HU2.out
            have h2 : la < z.c := by omega
            rw [Bool.true_and, decide_eq_true h2, Bool.true_and] at this
            exact this.symm)
          clear hno
          have hm := mayS_iff.1 HRM.out.symm
          have HS := Lib.hid (set14_any y p z hm.1 hm.2.2.1 hm.2.2.2.2.1 w2 HP2b.out)
          clear hm
          go_wp2_with fail
          refine HS.out.mono ?_
          rintro e' w3 ⟨rfl, hp3, hk3, hb3⟩
          have HR3 := Lib.hid (HR2.out.kpb hk3 (by have := HX.out; omega))
          have HP3 := Lib.hid hp3
          have HBX3 := Lib.hid (HBX2.out.kpb hk3 hvy)
          have HB3 := Lib.hid (HB2.out.trans (hb3.mono (by have := HX.out; omega)))
          clear q0 q1 q2 q3 q4 q5 q6 q7 HBX2 hp3 hk3 hb3 HS
          obtain ⟨q0, q1, q2, q3, q4, q5, q6, q7⟩ := HBX3.out
          go_wp2_with fail
          go_roundw
          case rel => exact ⟨k + 1, z.c, setP p z, rfl, by go_num, by omega, HU3, Lib.hid HP2.out.symm, HP3, HR3, HB3⟩
          case measure => simp [intOf]; omega
    · obtain rfl : k = n := by omega
      have hb1 : b = true := by
        have := HU.out
        rw [← HL.out, List.drop_length] at this
        exact this.symm
      subst hb1
      have hp1 : p = PP := by
        rw [HPP.out, if_pos rfl]
        have := HPC.out
        rw [← HL.out, List.drop_length] at this
        exact this
      subst hp1
      have hsz : (Try.prog.info? 69).map (·.size) = some (cells8 p).length := by rw [Try.size8]; rw [cells8_len]
      have hsz2 : (Try.prog.info? 69).map (·.size) = some (cells8 p).toArray.size := by rw [Try.size8]; simp [cells8_len]
      have HSZ := Lib.hid (And.intro hsz hsz2)
      clear hsz hsz2
      go_wp2_with (first
        | (refine wpList_load_mid rfl 69 (.tmp 4) rfl y 0 rfl (cells8 p) _ HP.out.whole Try.underlying69 rfl HSZ.out.1 ?_)
        | (refine wpList_store_mid rfl 69 (.tmp 2) (.tmp 29) rfl x 0 (cells8 p).toArray rfl rfl (by simpa [cells8_len] using HR.out.wr) HSZ.out.2 (cells8_one p) ?_))
      refine bodyPost_ret (v := .tuple #[.agg (cells8 p).toArray, .bool true]) ?_ rfl ⟨rfl, below_setCells _ _ _ HW.out (by rw [HX.out.1]; omega)⟩
      exact place_res _ _ x p true (HR.out.all.whole) HSZ.out.1 rfl rfl
end Go.Proofs.Ytemaonfgledcmaa
