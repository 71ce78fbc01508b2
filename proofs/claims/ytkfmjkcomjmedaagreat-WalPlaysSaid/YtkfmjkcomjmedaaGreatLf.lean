/-
  Layer 6 (wal), contracts of a number's file, and of the number of a name. Conditions: numbers below 10^8, texts within the form's reach.
-/
import Derived.Test.YtkfmjkcomjmedaaGreatRows
import Derived.Test.YtkfmjkcomjmedaaGreatLm
import Derived.Test.YtkfmjkcomjmedaaGreatVp
import Derived.WalkLawsBesides
import Derived.WalkSpells
import Derived.Lib.Hide
import Derived.Outline
import Derived.ArgAppend
import Derived.Deep.AppendLies
import Derived.Lib.SlBytesConst
namespace Go.Proofs.YtkfmjkcomjmedaaGreat
open Go.RowKit Go.Lib
set_option linter.unusedVariables false
set_option linter.unusedSimpArgs false

theorem dg_front : ∀ (k n : Nat), dgN (k + 1) n = UInt8.ofNat (48 + n / 10 ^ k % 10) :: dgN k n
  | 0, n => by simp [dgN]
  | k + 1, n => by
    rw [dgN, dg_front k (n / 10), Nat.div_div_eq_div_mul, ← Nat.pow_succ']
    rfl
/-- The name behind k steps. -/
def nmK (n k : Nat) : List UInt8 := logP ++ List.replicate (8 - k) 48 ++ dgN k n
theorem nmK_length (n k : Nat) (h : k ≤ 8) : (nmK n k).length = 12 := by simp [nmK, logP, dg_length]; omega
theorem rep_split (j : Nat) : List.replicate (j + 1) (48 : UInt8) = List.replicate j 48 ++ [48] := by
  rw [List.replicate_succ']
theorem nmK_get (n k : Nat) (h : k < 8) : (nmK n k)[11 - k]? = some 48 := by
  unfold nmK
  have e : 8 - k = (7 - k) + 1 := by omega
  rw [e, rep_split, ← List.append_assoc, List.append_assoc, List.getElem?_append_right (by simp [logP]; omega)]
  have : 11 - k - (logP ++ List.replicate (7 - k) 48).length = 0 := by simp [logP]; omega
  rw [this]
  rfl
theorem nmK_set (n k : Nat) (h : k < 8) : (nmK n k).set (11 - k) (UInt8.ofNat (48 + n / 10 ^ k % 10)) = nmK n (k + 1) := by
  unfold nmK
  have e : 8 - k = (7 - k) + 1 := by omega
  have e2 : 8 - (k + 1) = 7 - k := by omega
  rw [e, e2, rep_split, ← List.append_assoc, List.append_assoc, List.set_append_right _ _ (by simp [logP]; omega), dg_front]
  have : 11 - k - (logP ++ List.replicate (7 - k) 48).length = 0 := by simp [logP]; omega
  rw [this]
  rfl
theorem dg_zero : ∀ (j k n : Nat), n / 10 ^ k = 0 → dgN (j + k) n = List.replicate j 48 ++ dgN k n
  | 0, k, n, _ => by simp
  | j + 1, k, n, h => by
    have hle : 10 ^ k ≤ 10 ^ (j + k) := Nat.pow_le_pow_right (by omega) (by omega)
    have h0 : n / 10 ^ (j + k) = 0 := by
      have : n < 10 ^ k := by
        rcases Nat.lt_or_ge n (10 ^ k) with c | c
        · exact c
        · have := Nat.div_pos c (Nat.pow_pos (by omega)); omega
      exact Nat.div_eq_of_lt (by omega)
    rw [show j + 1 + k = (j + k) + 1 by omega, dg_front, h0, dg_zero j k n h, List.replicate_succ]
    rfl
theorem nmK_end (n k : Nat) (h : k ≤ 8) (h0 : n / 10 ^ k = 0) : nmK n k = lname n := by
  unfold nmK lname
  rw [show (8 : Nat) = (8 - k) + k by omega, dg_zero _ _ _ h0, List.append_assoc]
  simp
theorem bv_get {l : List UInt8} {i : Nat} {b : UInt8} (h : l[i]? = some b) : (bv l)[i]? = some (.int .u8 (b.toNat : Int)) := by simp [bv, h]
theorem bv_set (l : List UInt8) (i : Nat) (b : UInt8) (V : Int) (h : V = (b.toNat : Int)) : (bv l).set i (.int .u8 V) = bv (l.set i b) := by
  subst h
  simp [bv, List.map_set]
theorem start4 (w : World) (t : TypeId) (fr : Nat × Nat) : ∀ j u, (bv logP)[j]? = some u → (w.alloc (.cells #[.int .u8 108, .int .u8 111, .int .u8 103, .int .u8 45] t fr)).cell? ⟨w.heap.size, j, none⟩ = some u := by
  intro j u h
  rw [World.cell?_alloc_mark]
  have : j < 4 := by have := (List.getElem?_eq_some_iff.1 h).1; simpa [bv, logP] using this
  rcases (by omega : j = 0 ∨ j = 1 ∨ j = 2 ∨ j = 3) with rfl | rfl | rfl | rfl <;> exact h
theorem own_low {w : World} {b b' t size n : Nat} {v : Value} {xs : List Value} (h : w.ownsRow b t size v n xs) (hb : b' ≤ b) : w.ownsRow b' t size v n xs :=
  ⟨h.1, h.2.imp id fun ⟨g, cap, cur, hv, hbg, hrest⟩ => ⟨g, cap, cur, hv, Nat.le_trans hb hbg, hrest⟩⟩
/-- The name's row so far: the constant's own, or one of the call's. -/
def Row0 (w wr : World) (v : Value) (k : Nat) : Prop :=
  (k = 0 ∧ v = .slice (some ⟨w.heap.size, 0, none⟩) 4 4 ∧ ∀ j u, (bv logP)[j]? = some u → wr.cell? ⟨w.heap.size, j, none⟩ = some u) ∨
  wr.ownsRow w.heap.size 5 1 v (4 + k) (bv (logP ++ List.replicate k 48))

set_option maxRecDepth 100000 in
set_option maxHeartbeats 2000000 in
theorem file_any (n : Nat) (hn : n ≤ 99999999) (w : World) : Calls Tryz.prog 46 #[.int .i64 (n : Int)] w fun e w' => e = .returned (.string ⟨(lname n).toArray⟩) ∧ Below w.heap.size w w' := by
  obtain ⟨i0, hi, hz0, hz1, hz2⟩ := info_parts Tryz.infoU8
  have hcv := run_convert_bytes_const (P := Tryz.prog) w 106 5 #[.int .u8 108, .int .u8 111, .int .u8 103, .int .u8 45] 4 4 Tryz.underlying106 Tryz.underlying5
  have hs4 := Lib.hid (start4 w 5 (4, 5))
  have hb4 : Hid (Below w.heap.size w (w.alloc (.cells #[.int .u8 108, .int .u8 111, .int .u8 103, .int .u8 45] 5 (4, 5)))) := Lib.hid ((Below.refl _ _).alloc (Nat.le_refl _) _)
  go_enter Tryz.func46, Tryz.ntmps46
  go_wp2
  clear hcv
  go_loopw [3, 7] (fun v c wr => ∃ (k : Nat) (V : Value), V = v ∧ k ≤ 8 ∧ c = .int .i64 k ∧ Hid (Row0 w wr V k) ∧ Below w.heap.size w wr) (fun _ c _ => 8 - (intOf c).toNat)
  case atStart => exact ⟨0, _, rfl, by omega, rfl, Lib.hid (.inl ⟨rfl, rfl, hs4.out⟩), hb4.out⟩
  case round =>
    obtain ⟨k, V, rfl, hk, rfl, hrow, hbel⟩ := hrel
    clear hs4 hb4
    have hbs := hbel.size
    by_cases hlt : k < 8
    · have hlti : (k : Int) < 8 := by omega
      rcases hrow.out with ⟨rfl, rfl, hcell⟩ | hown
      · have HC := Lib.hid hcell
        clear hcell hrow
        go_wp2_with (at_builtin; refine wpList_append_grows _ rfl _ _ 106 rfl 5 i0 (.int .u8 0) 1 1 Tryz.underlying106 hi hz0 hz1 hz2 rfl (by decide) (some ⟨w.heap.size, 0, none⟩) 4 4 (bv logP) rfl (by simp) rfl ?c0 ⟨wr.heap.size, 0, none⟩ 1 1 [.int .u8 48] rfl rfl ?c1 ?c2 (by omega) ?c3 ?c5 ?_)
        case c0 =>
          rintro b ⟨⟩ j u hj
          rw [Addr.add_lit, Nat.zero_add]
          exact Lib.cell?_alloc_some _ (HC.out j u hj)
        case c1 => exact cell_new1 _ _ _
        case c2 => exact one_int _ _
        case c3 => unfold maxLen; omega
        case c5 => simp
        · intro v' w2 hown' hgrow
          rw [bv_snoc _ 48 48 rfl] at hown'
          have hsz : w.heap.size ≤ wr.heap.size + 1 := by omega
          have hown2 : Row0 w w2 v' 1 := .inr (own_low hown' hsz)
          have hbel2 : Below w.heap.size w w2 := (hbel.alloc hbs _).grown hgrow (by simp; omega) (by intro k hk; cases hk)
          have HO := Lib.hid hown2
          clear hown' hgrow hown2 hbel
          go_wp2
          go_roundw
          case rel => exact ⟨1, _, rfl, by omega, by go_num, HO, hbel2⟩
          case measure => simp [intOf]
      · clear hrow
        go_wp2_with (at_builtin; refine wpList_append_own _ rfl _ _ 106 rfl w.heap.size 5 i0 (.int .u8 0) 1 1 Tryz.underlying106 hi hz0 hz1 hz2 rfl (by decide) _ _ _ rfl (hown.alloc _) ⟨wr.heap.size, 0, none⟩ 1 1 [.int .u8 48] rfl rfl ?c1 ?c2 ?c3 ?c4 ?c5 ?_)
        case c1 => exact cell_new1 _ _ _
        case c2 => exact one_int _ _
        case c3 => unfold maxLen; omega
        case c4 => omega
        case c5 => simp; omega
        · intro v' w2 hown' hgrow _
          rw [bv_snoc _ 48 48 rfl, List.append_assoc, ← rep_split] at hown'
          have hown2 : Row0 w w2 v' (k + 1) := .inr hown'
          have hbel2 : Below w.heap.size w w2 := (hbel.alloc hbs _).grown hgrow (by simp; omega) (fun k hk => (hown.lt k hk).1)
          have HO := Lib.hid hown2
          clear hown' hgrow hown hbel hown2
          go_wp2
          go_roundw
          case rel => exact ⟨k + 1, _, rfl, by omega, by go_num, HO, hbel2⟩
          case measure => simp [intOf]; omega
    · obtain rfl : k = 8 := by omega
      have hown : wr.ownsRow w.heap.size 5 1 V 12 (bv (logP ++ List.replicate 8 48)) := by
        rcases hrow.out with ⟨h, _⟩ | h
        · omega
        · exact h
      clear hrow
      obtain ⟨a, cap, rfl⟩ := own_slice hown
      have hown : wr.ownsRow w.heap.size 5 1 (.slice a 12 cap) 12 (bv (nmK n 0)) := by
        have e : nmK n 0 = logP ++ List.replicate 8 48 := by simp [nmK, dgN]
        rw [e]; exact hown
      obtain ⟨g, rfl⟩ : ∃ g, a = some ⟨g, 0, none⟩ := by
        rcases hown.2 with ⟨h, h2⟩ | ⟨g, cap', cur, hv, _⟩
        · omega
        · cases hv; exact ⟨g, rfl⟩
      rw [show ((8 : Nat) : Int) = 8 from rfl]
      go_wp2
      have HO := Lib.hid hown
      have HB := Lib.hid hbel
      clear hown hbel
      go_loopw [0, 4] (fun m i wr => ∃ k : Nat, k ≤ 8 ∧ m = .int .i64 ((n / 10 ^ k : Nat) : Int) ∧ i = .int .i64 ((11 : Int) - k) ∧ wr.ownsRow w.heap.size 5 1 (.slice (some ⟨g, 0, none⟩) 12 cap) 12 (bv (nmK n k)) ∧ Below w.heap.size w wr) (fun m _ _ => (intOf m).toNat)
      case atStart => exact ⟨0, by omega, by simp, by simp, HO.out, HB.out⟩
      case round =>
        obtain ⟨k, hk, rfl, rfl, hown, hbel⟩ := hrel
        clear HO HB
        by_cases h0 : n / 10 ^ k = 0
        · rw [h0, show ((0 : Nat) : Int) = 0 from rfl]
          have e := nmK_end n k hk h0
          rw [e] at hown
          have HL := Lib.hid (lname_length n)
          go_wp2
          rw [run_str_own _ 106 9 5 Tryz.underlying106 Tryz.underlying5 Tryz.underlying9 w.heap.size 5 12 _ (lname n) HL.out hown]
          clear hown e h0
          go_wp2
          go_ret
          exact ⟨rfl, hbel⟩
        · have hk8 : k < 8 := by
            rcases Nat.lt_or_ge k 8 with c | c
            · exact c
            · obtain rfl : k = 8 := by omega
              exact absurd (Nat.div_eq_of_lt (by omega)) h0
          have hc := (hown.cellAt (11 - k) (by omega)).trans (bv_get (nmK_get n k hk8))
          have hf := hown.frozenAt (11 - k)
          have hnx : n / 10 ^ k / 10 = n / 10 ^ (k + 1) := by rw [Nat.div_div_eq_div_mul, Nat.pow_succ]
          have hst := (hown.stored (11 - k) (.int .u8 (48 + ((n / 10 ^ k : Nat) : Int) % 10))).1
          rw [bv_set _ _ (UInt8.ofNat (48 + n / 10 ^ k % 10)) _ (by rw [u8_48]; omega), nmK_set n k hk8] at hst
          have hbl := hbel.setCell (p := ⟨g, 11 - k, none⟩) (by
            rcases hown.2 with ⟨h, h2⟩ | ⟨g', cap', cur, hv, hbg, _⟩
            · cases h
            · cases hv; exact hbg) (.int .u8 (48 + ((n / 10 ^ k : Nat) : Int) % 10))
          have HX := Lib.hid hnx
          clear hown hbel hnx
          obtain ⟨j, hj⟩ : ∃ j, j = 11 - k := ⟨_, rfl⟩
          have hji : (11 : Int) - k = (j : Int) := by omega
          have hj12 : (j : Int) < 12 := by omega
          rw [← hj] at hc hf hst hbl
          have HS := Lib.hid hst
          have HB := Lib.hid hbl
          have HJ := Lib.hid hj
          rw [hji]
          clear hj hji hst hbl
          generalize hm : n / 10 ^ k = m at *
          have hmp : 0 < (m : Int) := by omega
          have hmb : (m : Int) ≤ 99999999 := by rw [← hm]; have := Nat.div_le_self n (10 ^ k); omega
          go_wp2
          go_roundw
          case rel => exact ⟨k + 1, by omega, congrArg (Value.int _) (by have := HX.out; omega), congrArg (Value.int _) (by have := HJ.out; omega), HS.out, HB.out⟩
          case measure => simp [intOf]; omega

/-! ### the number of a name -/
theorem pre_eq (s : ByteArray) : ((s.extract 0 4).toList == [108, 111, 103, 45]) = decide (s.data.toList.take 4 = logP) := by
  rw [ByteArray.toList_eq, extract_data]
  simp only [Nat.sub_zero, List.drop_zero]
  by_cases h : s.data.toList.take 4 = logP
  · rw [h, decide_eq_true rfl]; rfl
  · rw [decide_eq_false h]
    exact beq_eq_false_iff_ne.2 h
set_option maxRecDepth 100000 in
set_option maxHeartbeats 1000000 in
theorem hasp_any (s : ByteArray) (hs : s.size ≤ maxLen) (w : World) : Calls Tryz.prog 125 #[.string s, .string ⟨#[108, 111, 103, 45]⟩] w fun e w' =>
    e = .returned (.bool (decide (s.data.toList.take 4 = logP))) ∧ w = w' := by
  have hp := pre_eq s
  have hlen := Lib.size_eq s
  unfold maxLen at hs
  by_cases h : 4 ≤ s.size
  · have h' : (4 : Int) ≤ (s.size : Int) := by omega
    have HP := Lib.hid hp
    clear hp hlen
    go_enter Tryz.func125, Tryz.ntmps125
    go_wp2
    go_ret
    exact ⟨congrArg Ending.returned (congrArg Value.bool HP.out), rfl⟩
  · have hd : decide (s.data.toList.take 4 = logP) = false := decide_eq_false fun e => by
      have := congrArg List.length e
      rw [List.length_take] at this
      simp [logP] at this
      omega
    rw [hd]
    have h' : (s.size : Int) < 4 := by omega
    clear hp hlen
    go_enter Tryz.func125, Tryz.ntmps125
    go_wp2
    go_ret
    exact ⟨rfl, rfl⟩
set_option maxRecDepth 100000 in
set_option maxHeartbeats 1000000 in
theorem cutq_any (s : ByteArray) (hs : s.size ≤ maxLen) (c : Bool) (hc : decide (s.data.toList.take 4 = logP) = c) (w : World) : Calls Tryz.prog 115 #[.string s, .string ⟨#[108, 111, 103, 45]⟩] w fun e w' =>
    e = .returned (.tuple #[.string (if c = true then s.extract 4 s.size else s), .bool c]) ∧ w = w' := by
  have h4 : c = true → 4 ≤ s.size := fun h => by
    rw [h, decide_eq_true_eq] at hc
    have := congrArg List.length hc
    rw [List.length_take, ← Lib.size_eq] at this
    simp [logP] at this
    omega
  have C := Lib.hid (hasp_any s hs)
  rw [hc] at C
  unfold maxLen at hs
  clear hc
  cases c with
  | true =>
    have h4 := h4 rfl
    have h4' : (4 : Int) ≤ (s.size : Int) := by omega
    go_enter Tryz.func115, Tryz.ntmps115
    go_wp2_with (go_at_call 125; refine (C.out _).mono ?_; rintro e w' ⟨rfl, rfl⟩)
    go_ret2
    exact ⟨rfl, rfl⟩
  | false =>
    clear h4
    go_enter Tryz.func115, Tryz.ntmps115
    go_wp2_with (go_at_call 125; refine (C.out _).mono ?_; rintro e w' ⟨rfl, rfl⟩)
    go_ret2
    exact ⟨rfl, rfl⟩
set_option maxRecDepth 100000 in
set_option maxHeartbeats 1000000 in
theorem cutp_any (s : ByteArray) (hs : s.size ≤ maxLen) (c : Bool) (hc : decide (s.data.toList.take 4 = logP) = c) (w : World) : Calls Tryz.prog 97 #[.string s, .string ⟨#[108, 111, 103, 45]⟩] w fun e w' =>
    e = .returned (.tuple #[.string (if c = true then s.extract 4 s.size else s), .bool c]) ∧ w = w' := by
  have C := Lib.hid (cutq_any s hs c hc)
  clear hc hs
  generalize (if c = true then s.extract 4 s.size else s) = t at C ⊢
  go_enter Tryz.func97, Tryz.ntmps97
  go_wp2_with (go_at_call 115; refine (C.out _).mono ?_; rintro e w' ⟨rfl, rfl⟩)
  go_ret2
  exact ⟨rfl, rfl⟩
/-- What numbered answers. -/
def NumE (s : List UInt8) (e : Ending) : Prop := ∃ x : Int, e = .returned (.tuple #[.int .i64 x, .bool (numb s).isSome]) ∧ ∀ m, numb s = some m → x = (m : Int)
theorem numE_no {s : List UInt8} (h : ¬ logT s) (x : Int) {e : Ending} (he : e = .returned (.tuple #[.int .i64 x, .bool false])) : NumE s e := by
  have : numb s = none := by unfold numb; rw [if_neg fun c => h c.1]
  exact ⟨x, by rw [this]; exact he, by rw [this]; intro m hm; cases hm⟩
theorem numE_yes {s : List UInt8} (h : logT s) {e : Ending} (he : e = .returned (.tuple #[.int .i64 (valN (s.drop 4) : Nat), .bool (decide (((valN (s.drop 4) : Nat) : Int) ≤ 99999998))])) : NumE s e := by
  unfold NumE numb
  by_cases c : valN (s.drop 4) ≤ 99999998
  · rw [if_pos ⟨h, c⟩]
    refine ⟨_, ?_, fun m hm => by cases hm; rfl⟩
    rw [he, decide_eq_true (by omega)]
    rfl
  · rw [if_neg fun x => c x.2]
    refine ⟨((valN (s.drop 4) : Nat) : Int), ?_, fun m hm => by cases hm⟩
    rw [he, decide_eq_false (by omega)]
    rfl
theorem val_snoc (l : List UInt8) (b : UInt8) : valN (l ++ [b]) = valN l * 10 + (b.toNat - 48) := by simp [valN, valF]
theorem val_lt : ∀ (l : List UInt8) (i : Nat), i ≤ l.length → (l.take i).all isD = true → valN (l.take i) < 10 ^ i
  | l, 0, _, _ => by simp [valN]
  | l, i + 1, h, ha => by
    rw [List.take_succ_eq_append_getElem (by omega)] at ha ⊢
    rw [List.all_append, Bool.and_eq_true] at ha
    have ih := val_lt l i (by omega) ha.1
    rw [val_snoc, Nat.pow_succ]
    have hb := ha.2
    simp only [List.all_cons, List.all_nil, Bool.and_true, isD, Bool.and_eq_true, decide_eq_true_eq] at hb
    omega
theorem all_upto {α : Type} (f : α → Bool) (l : List α) (j : Nat) (h : j < l.length) (ha : (l.take j).all f = true) (hf : f l[j] = true) : (l.take (j + 1)).all f = true := by
  rw [take_all_snoc f l j h, ha, hf]
  rfl
set_option maxRecDepth 100000 in
set_option maxHeartbeats 2000000 in
theorem numbered_any (s : ByteArray) (hs : s.size ≤ maxLen) (w : World) : Calls Tryz.prog 82 #[.string s] w fun e w' => NumE s.data.toList e ∧ w = w' := by
  have C := Lib.hid (cutp_any s hs)
  have hlen := Lib.size_eq s
  by_cases hc : s.data.toList.take 4 = logP
  · have C := Lib.hid (C.out true (decide_eq_true hc))
    rw [if_pos rfl] at C
    by_cases h12 : s.size = 12
    · obtain ⟨L, hL⟩ : ∃ L, L = s.data.toList.drop 4 := ⟨_, rfl⟩
      have htl : s.extract 4 s.size = ⟨L.toArray⟩ := by
        apply ByteArray.ext
        rw [← Array.toList_inj, extract_data, hL, List.take_of_length_le]
        rw [List.length_drop]; omega
      have htz : L.length = 8 := by rw [hL, List.length_drop]; omega
      rw [htl] at C
      have hall : (L.take 8).all isD = true → logT s.data.toList := fun ha => by
        refine ⟨by omega, hc, ?_⟩
        rw [List.take_of_length_le (by omega), hL] at ha
        exact ha
      have hno : ∀ (j : Nat) (hj : j < L.length), isD L[j] = false → ¬ logT s.data.toList := fun j hj hf hl => by
        have h3 := hl.2.2
        rw [← hL, all_false_at isD _ j hj hf] at h3
        cases h3
      have HALL := Lib.hid hall
      have HNO := Lib.hid hno
      have HL := Lib.hid hL
      have hz8 : (⟨L.toArray⟩ : ByteArray).size = 8 := by rw [size_mkl L, htz]
      have HT8 := Lib.hid htz
      clear hall hno htl hL hlen hc h12 hs htz
      go_enter Tryz.func82, Tryz.ntmps82
      go_wp2_with (go_at_call 97; refine (C.out _).mono ?_; rintro e w' ⟨rfl, rfl⟩)
      go_loop [6, 22] (fun x i => ∃ j : Nat, j ≤ 8 ∧ i = .int .i64 j ∧ x = .int .i64 (valN (L.take j) : Nat) ∧ (L.take j).all isD = true) (fun _ i => 8 - (intOf i).toNat)
      case atStart => exact ⟨0, Nat.zero_le _, rfl, rfl, rfl⟩
      case round =>
        obtain ⟨j, hj, rfl, rfl, hB⟩ := hrel
        have hvl := val_lt L j (by have := HT8.out; omega) hB
        have HB := Lib.hid hB
        clear hB
        by_cases hjt : j < 8
        · have hjs : (j : Int) < 8 := by omega
          have hjl : j < L.length := by have := HT8.out; omega
          have hpow : (10 : Nat) ^ j ≤ 10000000 := by
            rcases (by omega : j = 0 ∨ j = 1 ∨ j = 2 ∨ j = 3 ∨ j = 4 ∨ j = 5 ∨ j = 6 ∨ j = 7) with rfl | rfl | rfl | rfl | rfl | rfl | rfl | rfl <;> decide
          have hvm : valN (L.take j) < 10000000 := by omega
          have HE : Hid (valN (L.take (j + 1)) = valN (L.take j) * 10 + (L[j].toNat - 48)) := Lib.hid (by rw [List.take_succ_eq_append_getElem hjl, val_snoc])
          have HA := Lib.hid (all_upto isD L j hjl HB.out)
          have HNJ := Lib.hid (HNO.out j hjl)
          clear hvl hpow
          generalize valN (L.take j) = v at hvm HE ⊢
          generalize hb : L[j] = b at HE HA HNJ ⊢
          have hg : ∀ h, (⟨L.toArray⟩ : ByteArray)[j]'h = b := fun h => by rw [← hb]; rfl
          clear hb
          cases hd : isD b with
          | true =>
            have hd2 := hd
            unfold isD at hd2
            simp only [Bool.and_eq_true, decide_eq_true_eq] at hd2
            obtain ⟨h1, h2⟩ := hd2
            go_wp2
            go_round
            case rel => exact ⟨j + 1, by omega, by go_num, congrArg (Value.int _) (by have := HE.out; omega), HA.out hd⟩
            case measure => simp [intOf]; omega
          | false =>
            have HN := Lib.hid (HNJ.out hd)
            unfold isD at hd
            by_cases h1 : (b.toNat : Int) < 48
            · clear hd
              go_wp2
              go_ret2
              exact ⟨numE_no HN.out 0 rfl, rfl⟩
            · have h2 : 57 < (b.toNat : Int) := by
                rcases (by omega : 57 < (b.toNat : Int) ∨ (b.toNat : Int) ≤ 57) with c | c
                · exact c
                · rw [decide_eq_true (show 48 ≤ (b.toNat : Int) by omega), decide_eq_true c] at hd; cases hd
              clear hd
              go_wp2
              go_ret2
              exact ⟨numE_no HN.out 0 rfl, rfl⟩
        · obtain rfl : j = 8 := by omega
          have hv8 : valN (L.take 8) = valN (s.data.toList.drop 4) := by rw [← HL.out, List.take_of_length_le (by have := HT8.out; omega)]
          have HV := Lib.hid hv8
          have HLT := Lib.hid (HALL.out HB.out)
          have hvm : valN (L.take 8) < 100000000 := by have := hvl; omega
          clear hvl hv8
          generalize valN (L.take 8) = v at hvm HV ⊢
          rw [show ((8 : Nat) : Int) = 8 from rfl]
          go_wp2
          go_ret2
          refine ⟨numE_yes HLT.out ?_, rfl⟩
          rw [← HV.out]
          rfl
    · have hno : ¬ logT s.data.toList := fun h => h12 (by rw [hlen]; exact h.1)
      obtain ⟨t, ht⟩ : ∃ t, t = s.extract 4 s.size := ⟨_, rfl⟩
      have htz : t.size ≠ 8 := by
        have h4 := congrArg List.length hc
        rw [List.length_take] at h4
        simp only [logP, List.length_cons, List.length_nil] at h4
        rw [ht, ByteArray.size_extract]
        omega
      have htz' : ((t.size : Int) == 8) = false := beq_eq_false_iff_ne.2 (by omega)
      have htb : t.size ≤ maxLen := by rw [ht, ByteArray.size_extract]; omega
      unfold maxLen at htb
      rw [← ht] at C
      have HNO := Lib.hid hno
      clear ht hlen hc h12 hs hno
      go_enter Tryz.func82, Tryz.ntmps82
      go_wp2_with (go_at_call 97; refine (C.out _).mono ?_; rintro e w' ⟨rfl, rfl⟩)
      go_ret2
      exact ⟨numE_no HNO.out 0 rfl, rfl⟩
  · have hno : ¬ logT s.data.toList := fun h => hc h.2.1
    have C := Lib.hid (C.out false (decide_eq_false hc))
    rw [if_neg (by decide)] at C
    have HNO := Lib.hid hno
    clear hlen hc hs hno
    go_enter Tryz.func82, Tryz.ntmps82
    go_wp2_with (go_at_call 97; refine (C.out _).mono ?_; rintro e w' ⟨rfl, rfl⟩)
    go_ret2
    exact ⟨numE_no HNO.out 0 rfl, rfl⟩
end Go.Proofs.YtkfmjkcomjmedaaGreat
