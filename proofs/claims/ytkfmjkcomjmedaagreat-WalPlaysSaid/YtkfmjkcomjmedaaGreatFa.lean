/-
  Layer 3 (frame), contracts of All, of the code (with each, and the closure that it is handed) and of the document's answer. Conditions: bytes up to 2^18.
-/
import Derived.Test.YtkfmjkcomjmedaaGreatFk
import Derived.Test.YtkfmjkcomjmedaaGreatSl
namespace Go.Proofs.YtkfmjkcomjmedaaGreat
open Go.RowKit

theorem Tryz.infoStr : (Tryz.prog.info? 9).map (fun i => (i.zero, i.size, i.bytes)) = some (some (.string ⟨#[]⟩), 1, 16) := by kernel_rfl
/-- What the closure writes: the texts so far, and what is left. -/
def St (B : Nat) (w : World) (ts : List (List UInt8)) (r : ByteArray) : Prop :=
  B + 2 ≤ w.heap.size ∧ (∃ v, w.cell? ⟨B, 0, none⟩ = some v ∧ w.ownsRow (B + 2) 9 1 v ts.length (sv ts)) ∧ w.frozen? ⟨B, 0, none⟩ = false ∧
  w.cell? ⟨B + 1, 0, none⟩ = some (.string r) ∧ w.frozen? ⟨B + 1, 0, none⟩ = false
theorem St.old {B : Nat} {w w' : World} {ts : List (List UInt8)} {r : ByteArray} (h : St B w ts r) (hb : Below w.heap.size w w') : St B w' ts r := by
  obtain ⟨hB, ⟨v, hv, hown⟩, f1, c2, f2⟩ := h
  have l1 : (⟨B, 0, none⟩ : Addr).block < w.heap.size := by show B < _; omega
  have l2 : (⟨B + 1, 0, none⟩ : Addr).block < w.heap.size := by show B + 1 < _; omega
  exact ⟨Nat.le_trans hB hb.size, ⟨v, (hb.cell l1).trans hv, below_own hown hb⟩, (hb.frozen l1).trans f1, (hb.cell l2).trans c2, (hb.frozen l2).trans f2⟩

theorem St.stored {B : Nat} {w w2 : World} {ts us : List (List UInt8)} {r : ByteArray} {v' : Value} (h : St B w ts r) (hown : w2.ownsRow (B + 2) 9 1 v' us.length (sv us)) (b2 : Below (B + 2) w w2) (left : ByteArray) :
    St B ((w2.setCell ⟨B, 0, none⟩ v').setCell ⟨B + 1, 0, none⟩ (.string left)) us left ∧ Below B w ((w2.setCell ⟨B, 0, none⟩ v').setCell ⟨B + 1, 0, none⟩ (.string left)) := by
  obtain ⟨hB, ⟨v, c1, _⟩, f1, c2, f2⟩ := h
  have l1 : (⟨B, 0, none⟩ : Addr).block < B + 2 := by show B < _; omega
  have l2 : (⟨B + 1, 0, none⟩ : Addr).block < B + 2 := by show B + 1 < _; omega
  have c1' := (b2.cell l1).trans c1
  have c2' := (b2.cell l2).trans c2
  have hne : (⟨B, 0, none⟩ : Addr) ≠ ⟨B + 1, 0, none⟩ := by intro h; simp only [Addr.mk.injEq] at h; omega
  have hbel : Below B w ((w2.setCell ⟨B, 0, none⟩ v').setCell ⟨B + 1, 0, none⟩ (.string left)) :=
    ((b2.mono (by omega)).setCell (p := ⟨B, 0, none⟩) (Nat.le_refl _) _).setCell (p := ⟨B + 1, 0, none⟩) (Nat.le_succ _) _
  have e1 : ((w2.setCell ⟨B, 0, none⟩ v').setCell ⟨B + 1, 0, none⟩ (.string left)).cell? ⟨B, 0, none⟩ = some v' := by
    rw [World.cell?_setCell_other _ _ _ _ (Ne.symm hne), World.cell?_setCell_same' _ _ _ (by rw [c1']; rfl)]
  have e2 : ((w2.setCell ⟨B, 0, none⟩ v').setCell ⟨B + 1, 0, none⟩ (.string left)).cell? ⟨B + 1, 0, none⟩ = some (.string left) := by
    rw [World.cell?_setCell_same' _ _ _ (by rw [World.cell?_setCell_other _ _ _ _ hne, c2']; rfl)]
  refine ⟨⟨Nat.le_trans hB hbel.size, ⟨v', e1, ownsRow_setCell_below (ownsRow_setCell_below hown (a := ⟨B, 0, none⟩) l1 _) (a := ⟨B + 1, 0, none⟩) l2 _⟩, ?_, e2, ?_⟩, hbel⟩
  · rw [World.frozen?_setCell, World.frozen?_setCell]
    exact (b2.frozen l1).trans f1
  · rw [World.frozen?_setCell, World.frozen?_setCell]
    exact (b2.frozen l2).trans f2

set_option maxRecDepth 100000 in
set_option maxHeartbeats 1000000 in
theorem tell_any (B : Nat) (w : World) (t left : ByteArray) (ts : List (List UInt8)) (r : ByteArray) (h : St B w ts r) (hn : ts.length < 1048576) :
    Calls Tryz.prog 84 #[.string t, .string left, .pointer (some ⟨B, 0, none⟩), .pointer (some ⟨B + 1, 0, none⟩)] w fun e w' =>
      e = .returned (.tuple #[]) ∧ St B w' (ts ++ [t.data.toList]) left ∧ Below B w w' := by
  have h' := Lib.hid h
  obtain ⟨hB, ⟨v, c1, hown⟩, f1, c2, f2⟩ := h
  obtain ⟨i0, hi, hz0, hz1, hz2⟩ := info_parts Tryz.infoStr
  go_enter Tryz.func84, Tryz.ntmps84
  go_wp2_with (at_builtin; refine wpList_append_own _ rfl _ _ 31 rfl (B + 2) 9 i0 (.string ⟨#[]⟩) 1 16 Tryz.underlying31 hi hz0 hz1 hz2 rfl (by decide) _ _ _ rfl (hown.alloc _) ⟨w.heap.size, 0, none⟩ 1 1 [.string t] rfl rfl ?c1 ?c2 ?c3 ?c4 ?c5 ?_)
  case c1 => exact cell_new1 _ _ _
  case c2 => exact sv_one [t.data.toList]
  case c3 => unfold maxLen; omega
  case c4 => omega
  case c5 => simp; omega
  · intro v' w2 hown' hgrow _
    have b2 : Below (B + 2) w w2 := ((Below.refl _ _).alloc hB _).grown hgrow (by simp; omega) (fun k hk => (hown.lt k hk).1)
    rw [show [Value.string t] = [Value.string ⟨t.data.toList.toArray⟩] by simp, sv_snoc] at hown'
    have hown2 : w2.ownsRow (B + 2) 9 1 v' (ts ++ [t.data.toList]).length (sv (ts ++ [t.data.toList])) := by rw [List.length_append]; exact hown'
    have l1 : (⟨B, 0, none⟩ : Addr).block < B + 2 := by show B < _; omega
    have l2 : (⟨B + 1, 0, none⟩ : Addr).block < B + 2 := by show B + 1 < _; omega
    have c1' := (b2.cell l1).trans c1
    have f1' := (b2.frozen l1).trans f1
    have c2' := (b2.cell l2).trans c2
    have f2' := (b2.frozen l2).trans f2
    have hne : (⟨B, 0, none⟩ : Addr) ≠ ⟨B + 1, 0, none⟩ := by intro h; simp only [Addr.mk.injEq] at h; omega
    have c2'' : ∀ v, (w2.setCell ⟨B, 0, none⟩ v).cell? ⟨B + 1, 0, none⟩ = some (.string r) := fun v => (World.cell?_setCell_other w2 _ _ _ hne).trans c2'
    obtain ⟨a', cap', rfl⟩ := own_slice hown'
    have HS := Lib.hid (St.stored h'.out hown2 b2 left)
    clear hown' hown hgrow hown2
    go_wp2
    go_end0
    exact ⟨rfl, HS.out.1, HS.out.2⟩

/-! ### each, All -/
def szOf : Value → Nat
  | .string s => s.size
  | _ => 0
theorem rest_list (X : ByteArray) (n : Nat) : (X.extract n X.size).data.toList = X.data.toList.drop n := by
  rw [Lib.extract_data, List.take_of_length_le]
  rw [Lib.size_eq, List.length_drop]
  exact Nat.le_refl _
set_option maxRecDepth 100000 in
set_option maxHeartbeats 1000000 in
theorem each_any (B : Nat) (w : World) (s : ByteArray) (hs : s.size ≤ 4194304) (h : St B w [] s) :
    Calls Tryz.prog 83 #[.string s, .func (.func 84) #[] #[.pointer (some ⟨B, 0, none⟩), .pointer (some ⟨B + 1, 0, none⟩)]] w fun e w' =>
      e = .returned (.tuple #[]) ∧ (∃ r : ByteArray, St B w' (fa s.data.toList).1 r ∧ (r.size : Nat) + (fa s.data.toList).2 = s.size) ∧ Below B w w' := by
  have H := Lib.hid h
  clear h
  go_enter Tryz.func83, Tryz.ntmps83
  go_wp2
  go_loopw [0] (fun x wr => ∃ (X : ByteArray) (ts : List (List UInt8)), x = .string X ∧ Hid (St B wr ts X) ∧ Below B w wr ∧ Hid ((fa s.data.toList).1 = ts ++ (fa X.data.toList).1 ∧ (fa s.data.toList).2 + X.size = s.size + (fa X.data.toList).2) ∧ 5 * ts.length + X.size ≤ s.size) (fun x _ => szOf x)
  case atStart => exact ⟨s, [], rfl, H, Below.refl _ _, Lib.hid ⟨by simp, by omega⟩, by simp⟩
  case round =>
    obtain ⟨X, ts, rfl, hst, hbel, hfa, hsz⟩ := hrel
    have hB : B ≤ wr.heap.size := by have := hst.out.1; omega
    have hc := ftake_code X wr (by omega)
    unfold FT at hc
    rcases ftR_cases X.data.toList with h0 | ⟨x, n, h1, hn, hl⟩
    · rw [h0] at hc
      have HE := Lib.hid (fa_no h0)
      clear h0
      go_wp2_with fail
      refine hc.mono ?_
      rintro e w1 ⟨rfl, b1⟩
      clear hc
      go_wp2
      refine bodyPost_ret (results_none rfl _ _ _) rfl ?_
      have h2 := hfa.out
      rw [HE.out] at h2
      refine ⟨rfl, ⟨X, ?_, ?_⟩, hbel.trans (b1.mono hB)⟩
      · rw [h2.1, List.append_nil]
        exact hst.out.old b1
      · have := h2.2
        simp only at this
        omega
    · rw [h1] at hc
      have HE := Lib.hid (fa_ok h1)
      have hr := rest_list X n
      have hl' : n ≤ X.size := by rw [Lib.size_eq]; exact hl
      have hzz : (X.extract n X.size).size = X.size - n := by rw [ByteArray.size_extract]; omega
      obtain ⟨Z, hZ⟩ : ∃ Z, Z = X.extract n X.size := ⟨_, rfl⟩
      rw [← hZ] at hr hzz
      have HR := Lib.hid hr
      have HZ := Lib.hid hZ
      clear h1 hl hr hZ
      go_wp2_with fail
      refine hc.mono ?_
      rintro e w1 ⟨rfl, b1⟩
      clear hc
      have hst1 := Lib.hid (hst.out.old b1)
      go_wp2_with (first | (go_at_call 84; refine (tell_any B _ ⟨x.toArray⟩ (X.extract n X.size) ts X hst1.out (by omega)).mono ?_; rintro e w2 ⟨rfl, hst2, b2⟩; have HST := Lib.hid hst2; clear hst2))
      go_roundw
      case rel =>
        refine ⟨X.extract n X.size, ts ++ [x], rfl, HST, (hbel.trans (b1.mono hB)).trans b2, Lib.hid ?_, ?_⟩
        · have h2 := hfa.out
          rw [HE.out] at h2
          rw [← HZ.out, HR.out]
          refine ⟨by rw [h2.1, List.append_assoc]; rfl, ?_⟩
          have := h2.2
          simp only at this
          omega
        · rw [← HZ.out, List.length_append]
          simp only [List.length_singleton]
          omega
      case measure =>
        show (X.extract n X.size).size < X.size
        rw [← HZ.out]
        omega

/-- What All leaves. -/
def FA (l : List UInt8) (w : World) (e : Ending) (w' : World) : Prop :=
  ∃ a cap, e = .returned (.tuple #[.slice a (fa l).1.length cap, .int .i64 ((fa l).2 : Nat)]) ∧ Rd w' a (fa l).1 ∧ Below w.heap.size w w'
theorem St.start (w : World) (s : ByteArray) (t u : TypeId) : St w.heap.size ((w.alloc (.cells #[.slice none 0 0] t)).alloc (.cells #[.string s] u)) [] s := by
  refine ⟨by simp, ⟨.slice none 0 0, ?_, World.ownsRow_nil _ _ _ _⟩, by simp, ?_, by simp⟩
  · rw [World.cell?_alloc2_first]; rfl
  · rw [World.cell?_alloc2_new]; rfl
theorem own_base {w : World} {b b' t size n : Nat} {v : Value} {xs : List Value} (h : w.ownsRow b t size v n xs) (hb : b' ≤ b) : w.ownsRow b' t size v n xs := by
  refine ⟨h.1, ?_⟩
  rcases h.2 with h | ⟨g, cap, cur, hv, hbg, hrest⟩
  · exact .inl h
  · exact .inr ⟨g, cap, cur, hv, Nat.le_trans hb hbg, hrest⟩
/-- The same, and whose row it is. -/
def FO (l : List UInt8) (w : World) (e : Ending) (w' : World) : Prop :=
  ∃ a cap, e = .returned (.tuple #[.slice a (fa l).1.length cap, .int .i64 ((fa l).2 : Nat)]) ∧ w'.ownsRow w.heap.size 9 1 (.slice a (fa l).1.length cap) (fa l).1.length (sv (fa l).1) ∧ Below w.heap.size w w'
set_option maxRecDepth 100000 in
set_option maxHeartbeats 1000000 in
theorem all_own (s : ByteArray) (w : World) (hs : s.size ≤ 4194304) :
    Calls Tryz.prog 61 #[.string s] w (FO s.data.toList w) := by
  go_enter Tryz.func61, Tryz.ntmps61
  go_wp2_with fail
  refine (each_any w.heap.size _ s hs (St.start w s _ _)).mono ?_
  rintro e w2 ⟨rfl, ⟨r, hst, hr⟩, b2⟩
  obtain ⟨hB, ⟨v, c1, hown⟩, f1, c2, f2⟩ := hst
  obtain ⟨a, cap, rfl⟩ := own_slice hown
  have hr' : (s.size : Int) - (r.size : Int) = ((fa s.data.toList).2 : Nat) := by omega
  have hr'' : (r.size : Int) ≤ (s.size : Int) := by omega
  have hb : Below w.heap.size w w2 := (((Below.refl _ w).alloc (Nat.le_refl _) _).alloc (by simp) _).trans b2
  have HF := Lib.hid (And.intro (own_base (b' := w.heap.size) hown (by omega)) hb)
  have HR := Lib.hid hr'
  clear hown hb b2 hr hr'
  go_wp2
  go_quiet (fail)
  go_wp2
  go_ret2
  refine ⟨a, cap, ?_, below_own HF.out.1 (below_drewN (Below.refl _ _) nq), below_drewN HF.out.2 nq⟩
  exact congrArg Ending.returned (congrArg Value.tuple (by rw [← HR.out]; rfl))
theorem all_code (s : ByteArray) (w : World) (hs : s.size ≤ 262144) :
    Calls Tryz.prog 61 #[.string s] w (FA s.data.toList w) :=
  (all_own s w (by omega)).mono fun e w' ⟨a, cap, h1, h2, h3⟩ => ⟨a, cap, h1, own_rd h2, h3⟩

/-! ### the document's All -/
set_option maxRecDepth 100000 in
set_option maxHeartbeats 1000000 in
theorem all_ref_own (s : ByteArray) (w : World) (hs : s.size ≤ 262144) :
    Calls Tryz.prog 41 #[.string s] w fun e w' => ∃ a cap, e = .returned (.tuple #[.slice a (fa s.data.toList).1.length cap, .int .i64 ((fa s.data.toList).2 : Nat)]) ∧ w'.ownsRow w.heap.size 9 1 (.slice a (fa s.data.toList).1.length cap) (fa s.data.toList).1.length (sv (fa s.data.toList).1) ∧ Below w.heap.size w w' := by
  obtain ⟨i0, hi, hz0, hz1, hz2⟩ := info_parts Tryz.infoStr
  go_enter Tryz.func41, Tryz.ntmps41
  go_wp2
  go_loopw [4, 5] (fun v i wr => ∃ (k : Nat) (ts : List (List UInt8)), i = .int .i64 k ∧ k ≤ s.size ∧ wr.ownsRow w.heap.size 9 1 v ts.length (sv ts) ∧ Below w.heap.size w wr ∧
      Hid ((fa s.data.toList).1 = ts ++ (fa (s.data.toList.drop k)).1 ∧ (fa s.data.toList).2 = k + (fa (s.data.toList.drop k)).2) ∧ 5 * ts.length ≤ k) (fun _ i _ => s.size - (intOf i).toNat)
  case atStart => exact ⟨0, [], rfl, by omega, World.ownsRow_nil _ _ _ _, Below.refl _ _, Lib.hid ⟨by simp, by simp⟩, by simp⟩
  case round =>
    obtain ⟨k, ts, rfl, hk, hown, hbel, hfa, hsz⟩ := hrel
    have hbs := hbel.size
    have hc := ftake_ref (s.extract k s.size)
    unfold FT at hc
    have hzz : (s.extract k s.size).size = s.size - k := by rw [ByteArray.size_extract]; omega
    rw [rest_list] at hc
    rcases ftR_cases (s.data.toList.drop k) with h0 | ⟨x, n, h1, hn, hl⟩
    · rw [h0] at hc
      have HC := Lib.hid hc
      have HE := Lib.hid (fa_no h0)
      clear h0 hc
      go_wp2_with fail
      refine (HC.out _ (by rw [hzz]; omega)).mono ?_
      rintro e w1 ⟨rfl, b1⟩
      obtain ⟨a, cap, rfl⟩ := own_slice hown
      have h2 := hfa.out
      rw [HE.out, List.append_nil] at h2
      have HH := Lib.hid h2
      have HO := Lib.hid (below_own hown b1)
      clear h2 hown
      go_wp2
      go_ret2
      have ha := HO.out
      rw [← HH.out.1] at ha
      refine ⟨a, cap, ?_, ha, hbel.trans (b1.mono hbs)⟩
      rw [HH.out.2, HH.out.1]
      rfl
    · rw [h1] at hc
      have HC := Lib.hid hc
      have HE := Lib.hid (fa_ok h1)
      have hl' : k + n ≤ s.size := by
        rw [List.length_drop, size_list] at hl
        omega
      have hk1 : k < s.size := by omega
      clear h1 hc hl
      go_wp2_with fail
      refine (HC.out _ (by rw [hzz]; omega)).mono ?_
      rintro e w1 ⟨rfl, b1⟩
      have hown1 := below_own hown b1
      have hbel1 : Below w.heap.size w w1 := hbel.trans (b1.mono hbs)
      have hb1s := hbel1.size
      clear hown hbel
      go_wp2_with (at_builtin; refine wpList_append_own _ rfl _ _ 31 rfl w.heap.size 9 i0 (.string ⟨#[]⟩) 1 16 Tryz.underlying31 hi hz0 hz1 hz2 rfl (by decide) _ _ _ rfl (hown1.alloc _) ⟨w1.heap.size, 0, none⟩ 1 1 [.string ⟨x.toArray⟩] rfl rfl ?c1 ?c2 ?c3 ?c4 ?c5 ?_)
      case c1 => exact cell_new1 _ _ _
      case c2 => exact sv_one [x]
      case c3 => unfold maxLen; omega
      case c4 => omega
      case c5 => simp; omega
      · intro v' w2 hown2 hgrow _
        rw [sv_snoc] at hown2
        have hown3 : w2.ownsRow w.heap.size 9 1 v' (ts ++ [x]).length (sv (ts ++ [x])) := by rw [List.length_append]; exact hown2
        have hbel2 : Below w.heap.size w w2 := (hbel1.alloc hb1s _).grown hgrow (by simp; omega) (fun k hk => (hown1.lt k hk).1)
        clear hown2 hgrow hown1
        go_wp2
        go_roundw
        case rel =>
          refine ⟨k + n, ts ++ [x], by go_num, hl', hown3, hbel2, Lib.hid ?_, ?_⟩
          · have h2 := hfa.out
            rw [HE.out, List.drop_drop] at h2
            refine ⟨by rw [h2.1, List.append_assoc]; rfl, ?_⟩
            rw [h2.2]
            simp only
            omega
          · rw [List.length_append]
            simp only [List.length_singleton]
            omega
        case measure => simp [intOf]; omega
theorem all_ref (s : ByteArray) (w : World) (hs : s.size ≤ 262144) :
    Calls Tryz.prog 41 #[.string s] w (FA s.data.toList w) :=
  (all_ref_own s w hs).mono fun _ _ ⟨a, cap, h1, h2, h3⟩ => ⟨a, cap, h1, own_rd h2, h3⟩
end Go.Proofs.YtkfmjkcomjmedaaGreat
