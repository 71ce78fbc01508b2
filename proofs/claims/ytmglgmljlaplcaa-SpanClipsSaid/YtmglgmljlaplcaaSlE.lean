/-
  Layer 4 (span): the walk of the law SpanClips. Conditions: the slice and the texts within the form's reach.
-/
import Derived.Test.YtmglgmljlaplcaaSf
import Derived.Test.YtmglgmljlaplcaaSlB
namespace Go.Proofs.Ytmglgmljlaplcaa
open Go.RowKit

theorem clip_sum {lo hi k : ByteArray} (h : cutB lo hi k = true) (es : List Ent) : (clipL lo k es).length + (clipL k hi es).length = (clipL lo hi es).length := by
  unfold clipL
  induction es with
  | nil => rfl
  | cons e es ih =>
    have h1 := cut_has h e.1
    have h2 := cut_one h e.1
    rw [List.filter_cons, List.filter_cons, List.filter_cons, ← h1]
    cases ha : hasB lo k e.1 with
    | true =>
      rw [ha, Bool.true_and] at h2
      rw [h2]
      simp
      omega
    | false =>
      cases hb : hasB k hi e.1 with
      | true => simp; omega
      | false => simpa using ih
theorem clip_clip {lo hi k : ByteArray} (h : cutB lo hi k = true) (es : List Ent) : clipL lo k (clipL lo hi es) = clipL lo k es := by
  unfold clipL
  rw [List.filter_filter]
  refine List.filter_congr fun e _ => ?_
  have h1 := cut_has h e.1
  cases ha : hasB lo k e.1 with
  | true => rw [ha, Bool.true_or] at h1; rw [← h1]; rfl
  | false => rfl
theorem okE_clip {es : List Ent} (h : okE es) (lo hi : ByteArray) : okE (clipL lo hi es) := fun e he => h e (List.mem_filter.1 he).1
theorem keep_two {w a b : World} {g1 g2 : Nat} {p1 q1 p2 q2 : ByteArray} (h : Box a g1 p1 q1 ∧ Box a g2 p2 q2 ∧ Below w.heap.size w a) (hb : Below a.heap.size a b) :
    Box b g1 p1 q1 ∧ Box b g2 p2 q2 ∧ Below w.heap.size w b := ⟨h.1.below hb, h.2.1.below hb, h.2.2.trans (hb.mono h.2.2.size)⟩
/-- The contract of Clip, its length by a name. -/
theorem clip_at (a : Option Addr) (n cap : Nat) (es : List Ent) (lo hi : ByteArray) (h1 : okS lo) (h2 : okS hi) (hn : n ≤ 60) (hl : es.length = n) (hok : okE es) (m : Nat) (L : List Ent) (hL : clipL lo hi es = L) (hm : L.length = m) (w : World) (h : RdE w a es) :
    Calls Try.prog 25 #[.slice a n cap, .agg #[.string lo, .string hi]] w fun e w' => ∃ a' c', e = .returned (.slice a' m c') ∧ RdE w' a' L ∧ Below w.heap.size w w' := by
  have := clip_any a n cap es lo hi h1 h2 w hn hl h hok
  unfold CL at this
  rw [hL, hm] at this
  exact this
theorem rclip_at (a : Option Addr) (n cap : Nat) (es : List Ent) (lo hi : ByteArray) (h1 : okS lo) (h2 : okS hi) (hn : n ≤ 60) (hl : es.length = n) (hok : okE es) (m : Nat) (L : List Ent) (hL : clipL lo hi es = L) (hm : L.length = m) (w : World) (h : RdE w a es) :
    Calls Try.prog 27 #[.slice a n cap, .agg #[.string lo, .string hi]] w fun e w' => ∃ a' c', e = .returned (.slice a' m c') ∧ RdE w' a' L ∧ Below w.heap.size w w' := by
  have := rclip_any a n cap es lo hi h1 h2 w hn hl h hok
  unfold CL at this
  rw [hL, hm] at this
  exact this
set_option maxHeartbeats 1000000 in
theorem clips_long (a : Option Addr) (n cap : Nat) (lo hi key : ByteArray) (w : World) (h : 60 < n) (hn : n < 9223372036854775808) :
    Calls Try.prog 8 #[.slice a n cap, .agg #[.string lo, .string hi], .string key] w fun e w' => e = .returned (.bool true) ∧ Below w.heap.size w w' := by
  have h' : (60 : Int) < (n : Int) := by omega
  go_enter Try.func8, Try.ntmps8
  go_wp2_with fail
  refine (awake_any _).mono ?_
  rintro e w1 ⟨rfl, b1⟩
  go_wp2
  go_ret
  exact ⟨rfl, below_box b1⟩
set_option maxRecDepth 100000 in
set_option maxHeartbeats 4000000 in
theorem clips_walk (a : Option Addr) (n cap : Nat) (es : List Ent) (lo hi key : ByteArray) (h1 : okS lo) (h2 : okS hi) (h3 : okS key) (w : World) (hn : n ≤ 60) (hl : es.length = n) (hr : RdE w a es) (hok : okE es) :
    Calls Try.prog 8 #[.slice a n cap, .agg #[.string lo, .string hi], .string key] w fun e w' => e = .returned (.bool true) ∧ Below w.heap.size w w' := by
  obtain ⟨M, hM⟩ : ∃ M, clipL lo hi es = M := ⟨_, rfl⟩
  obtain ⟨m, hm⟩ : ∃ m, M.length = m := ⟨_, rfl⟩
  have hm60 : m ≤ 60 := by rw [← hm, ← hM]; have := clip_le lo hi es; omega
  have hokM : okE M := by rw [← hM]; exact okE_clip hok lo hi
  have A1 := Lib.hid fun w h => clip_at a n cap es lo hi h1 h2 hn hl hok m M hM hm w h
  have A2 := Lib.hid fun w h => rclip_at a n cap es lo hi h1 h2 hn hl hok m M hM hm w h
  have HM := Lib.hid hm
  have HR := Lib.hid hr
  cases hcut : cutB lo hi key with
  | false =>
    have A3 := Lib.hid fun w => cut_no lo hi key hcut h1 h2 h3 w
    clear hM hm hr h1 h2 h3 hl hok hokM hcut
    go_enter Try.func8, Try.ntmps8
    go_wp2_with fail
    refine (A1.out _ (HR.out.old ((Below.refl _ _).alloc (Nat.le_refl _) _))).mono ?_
    rintro e w1 ⟨a1, c1, rfl, r1, b1⟩
    have X1 := (Box.new w 23 lo hi).below b1
    have D1 := below_box b1
    have HX1 := Lib.hid X1
    have HD1 := Lib.hid D1
    have HR1 := Lib.hid r1
    obtain ⟨fX0, fX1, fX2⟩ := X1
    clear b1 D1 r1
    go_wp2_with fail
    refine (A2.out _ (HR.out.old HD1.out)).mono ?_
    rintro e w2 ⟨a2, c2, rfl, r2, b2⟩
    have HX2 := Lib.hid (HX1.out.below b2)
    have HD2 := Lib.hid (HD1.out.trans (b2.mono HD1.out.size))
    have HR2 := Lib.hid r2
    have HR12 := Lib.hid (HR1.out.old b2)
    clear b2 r2 HX1 HD1 HR1 fX0 fX1 fX2
    go_wp2_with fail
    refine (samee_any a1 a2 m c1 c2 M _ HR12.out HR2.out (by omega) HM.out).mono ?_
    rintro e w3 ⟨rfl, b3⟩
    have X3 := HX2.out.below b3
    have HD3 := Lib.hid (HD2.out.trans (b3.mono HD2.out.size))
    obtain ⟨fX0, fX1, fX2⟩ := X3
    clear b3
    go_wp2_with fail
    refine (A3.out _).mono ?_
    rintro e w4 ⟨rfl, b4⟩
    have HD4 := Lib.hid (HD3.out.trans (b4.mono HD3.out.size))
    clear b4
    go_wp2_with fail
    refine (awake_any _).mono ?_
    rintro e w5 ⟨rfl, b5⟩
    go_wp2
    go_ret
    exact ⟨rfl, HD4.out.trans ((below_box2 b5).mono HD4.out.size)⟩
  | true =>
    have A3 := Lib.hid fun w => cut_yes lo hi key hcut h1 h2 h3 w
    obtain ⟨L1, hL1⟩ : ∃ L, clipL lo key es = L := ⟨_, rfl⟩
    obtain ⟨L2, hL2⟩ : ∃ L, clipL key hi es = L := ⟨_, rfl⟩
    obtain ⟨m1, hm1⟩ : ∃ m, L1.length = m := ⟨_, rfl⟩
    obtain ⟨m2, hm2⟩ : ∃ m, L2.length = m := ⟨_, rfl⟩
    have hsum := clip_sum hcut es
    rw [hL1, hL2, hM, hm1, hm2, hm] at hsum
    have hcc := clip_clip hcut es
    rw [hM, hL1] at hcc
    have B1 := Lib.hid fun w h => clip_at a n cap es lo key h1 h3 hn hl hok m1 L1 hL1 hm1 w h
    have B2 := Lib.hid fun w h => clip_at a n cap es key hi h3 h2 hn hl hok m2 L2 hL2 hm2 w h
    have B3 := Lib.hid fun a1 c1 w h => clip_at a1 m c1 M lo key h1 h3 hm60 hm hokM m1 L1 hcc hm1 w h
    have hwr : IntKind.i64.wrap ((m1 : Int) + (m2 : Int)) = (m : Int) := by rw [IntWalk.i64_in _ (by omega)]; omega
    have HW := Lib.hid hwr
    have HM1 := Lib.hid hm1
    have hm160 : m1 ≤ 60 := by omega
    clear hM hm hr h1 h2 h3 hl hok hokM hcut hL1 hL2 hm1 hm2 hsum hcc hwr
    go_enter Try.func8, Try.ntmps8
    go_wp2_with fail
    refine (A1.out _ (HR.out.old ((Below.refl _ _).alloc (Nat.le_refl _) _))).mono ?_
    rintro e w1 ⟨a1, c1, rfl, r1, b1⟩
    have X1 := (Box.new w 23 lo hi).below b1
    have D1 := below_box b1
    have HX1 := Lib.hid X1
    have HD1 := Lib.hid D1
    have HR1 := Lib.hid r1
    obtain ⟨fX0, fX1, fX2⟩ := X1
    clear b1 D1 r1
    go_wp2_with fail
    refine (A2.out _ (HR.out.old HD1.out)).mono ?_
    rintro e w2 ⟨a2, c2, rfl, r2, b2⟩
    have HX2 := Lib.hid (HX1.out.below b2)
    have HD2 := Lib.hid (HD1.out.trans (b2.mono HD1.out.size))
    have HR2 := Lib.hid r2
    have HR12 := Lib.hid (HR1.out.old b2)
    clear b2 r2 HX1 HD1 HR1 fX0 fX1 fX2
    go_wp2_with fail
    refine (samee_any a1 a2 m c1 c2 M _ HR12.out HR2.out (by omega) HM.out).mono ?_
    rintro e w3 ⟨rfl, b3⟩
    have X3 := HX2.out.below b3
    have HD3 := Lib.hid (HD2.out.trans (b3.mono HD2.out.size))
    have HR3 := Lib.hid (HR12.out.old b3)
    obtain ⟨fX0, fX1, fX2⟩ := X3
    clear b3 HR12 HR2 HX2 HD2
    go_wp2_with fail
    refine (A3.out _).mono ?_
    rintro e w4 ⟨rfl, b4⟩
    have HD4 := Lib.hid (HD3.out.trans (b4.mono HD3.out.size))
    have HR4 := Lib.hid (HR3.out.old b4)
    clear b4 fX0 fX1 fX2 HR3 HD3
    go_wp2_with fail
    have HBX : Hid (Box ((w4.alloc (.cells #[.string lo, .string key] 23)).alloc (.cells #[.string key, .string hi] 23)) w4.heap.size lo key ∧ Box ((w4.alloc (.cells #[.string lo, .string key] 23)).alloc (.cells #[.string key, .string hi] 23)) (w4.heap.size + 1) key hi) :=
      Lib.hid ⟨(Box.new w4 _ lo key).alloc _, Box.new2 w4 _ _ key hi⟩
    have HD5 := Lib.hid ((HD4.out.alloc HD4.out.size (.cells #[.string lo, .string key] 23)).alloc (by have := HD4.out.size; simp; omega) (.cells #[.string key, .string hi] 23))
    have HM5 := Lib.hid (HR4.out.old (((Below.refl _ w4).alloc (Nat.le_refl _) (.cells #[.string lo, .string key] 23)).alloc (by simp) (.cells #[.string key, .string hi] 23)))
    obtain ⟨W, hW⟩ : ∃ W, W = (w4.alloc (.cells #[.string lo, .string key] 23)).alloc (.cells #[.string key, .string hi] 23) := ⟨_, rfl⟩
    rw [← hW] at HBX HD5 HM5 ⊢
    clear hW HR4 HD4
    have HR5 := Lib.hid (HR.out.old HD5.out)
    have hw0 := HW.out
    go_region_held3 (fun w' => (w'.cell? ⟨w4.heap.size, 0, none⟩ = some (.string lo) ∧ w'.cell? ⟨w4.heap.size, 1, none⟩ = some (.string key) ∧ w4.heap.size < w'.heap.size) ∧ (w'.cell? ⟨w4.heap.size + 1, 0, none⟩ = some (.string key) ∧ w'.cell? ⟨w4.heap.size + 1, 1, none⟩ = some (.string hi) ∧ w4.heap.size + 1 < w'.heap.size) ∧ Below W.heap.size W w')
      (first | assumption | exact keep_two (by assumption) (by assumption) | exact ⟨HBX.out.1, HBX.out.2, (Below.refl _ _).drew⟩)
      (first
        | (go_at_call 25; (with_reducible refine (B1.out _ ?_).mono ?_); (exact HR5.out.old (And.right (And.right (by assumption)))); rintro e w' ⟨a', c', rfl, rr, bb⟩)
        | (go_at_call 25; (with_reducible refine (B2.out _ ?_).mono ?_); (exact HR5.out.old (And.right (And.right (by assumption)))); rintro e w' ⟨a', c', rfl, rr, bb⟩)
        | (go_at_call 25; (with_reducible refine (B3.out _ _ _ ?_).mono ?_); (exact HM5.out.old (And.right (And.right (by assumption)))); rintro e w' ⟨a', c', rfl, rr, bb⟩)
        | (go_at_call 26; refine (samee_any _ _ m1 _ _ L1 _ ?_ ?_ (by omega) HM1.out).mono ?_; (first | assumption | exact RdE.old (by assumption) (by assumption)); (first | assumption | exact RdE.old (by assumption) (by assumption)); rintro e w' ⟨rfl, bb⟩)
        | (go_at_call 16; refine (awake_any _).mono ?_; rintro e w' ⟨rfl, bb⟩))
    all_goals
      go_wp2
      go_ret
      exact ⟨rfl, HD5.out.trans ((by assumption : _ ∧ _ ∧ Below W.heap.size W _).2.2.mono HD5.out.size)⟩
theorem walk_SpanClips (a : Option Addr) (cap : Nat) (es : List Ent) (lo hi : ByteArray) (h1 : okS lo) (h2 : okS hi) (key : ByteArray) (h3 : okS key) (w : World) (h : RdE w a es) (hok : okE es) (hl : es.length ≤ maxLen) :
    Calls Try.prog 8 #[.slice a es.length cap, .agg #[.string lo, .string hi], .string key] w fun e w' => e = .returned (.bool true) ∧ Below w.heap.size w w' := by
  unfold maxLen at hl
  by_cases h60 : 60 < es.length
  · exact clips_long a _ cap lo hi key w h60 (by omega)
  · exact clips_walk a _ cap es lo hi key h1 h2 h3 w (by omega) rfl h hok
end Go.Proofs.Ytmglgmljlaplcaa
