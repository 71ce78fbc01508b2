/-
  Layer 9 (block), contracts of follows, common and Check, of the code and of the document's answer. Conditions: texts within the reach; at most 2^12 entries where they are gone over.
-/
import Derived.Test.YtdpinkipcaolhaaKl
namespace Go.Proofs.Ytdpinkipcaolhaa
set_option maxRecDepth 100000
open Go.RowKit
set_option linter.unusedVariables false
set_option linter.unusedSimpArgs false

/-- An entry in a block of its own. -/
def EBox (w : World) (x : Nat) (k v : ByteArray) (g : Bool) (q : Int) : Prop :=
  w.cell? ⟨x, 0, none⟩ = some (.string k) ∧ w.cell? ⟨x, 1, none⟩ = some (.string v) ∧ w.cell? ⟨x, 2, none⟩ = some (.bool g) ∧ w.cell? ⟨x, 3, none⟩ = some (.int .i64 q) ∧ x < w.heap.size
def eCells (k v : ByteArray) (g : Bool) (q : Int) (t : TypeId) : Obj := .cells #[.string k, .string v, .bool g, .int .i64 q] t
theorem EBox.new (w : World) (t : TypeId) (k v : ByteArray) (g : Bool) (q : Int) : EBox (w.alloc (.cells #[.string k, .string v, .bool g, .int .i64 q] t)) w.heap.size k v g q :=
  ⟨by simp [go_sem], by simp [go_sem], by simp [go_sem], by simp [go_sem], by simp⟩
theorem EBox.new2 (w : World) (o : Obj) (t : TypeId) (k v : ByteArray) (g : Bool) (q : Int) : EBox ((w.alloc o).alloc (.cells #[.string k, .string v, .bool g, .int .i64 q] t)) (w.heap.size + 1) k v g q := by
  have h := EBox.new (w.alloc o) t k v g q
  rw [show (w.alloc o).heap.size = w.heap.size + 1 by simp] at h
  exact h
theorem EBox.below {w w' : World} {x : Nat} {k v : ByteArray} {g : Bool} {q : Int} (h : EBox w x k v g q) (hb : Below w.heap.size w w') : EBox w' x k v g q :=
  ⟨(hb.cell (p := ⟨x, 0, none⟩) h.2.2.2.2).trans h.1, (hb.cell (p := ⟨x, 1, none⟩) h.2.2.2.2).trans h.2.1, (hb.cell (p := ⟨x, 2, none⟩) h.2.2.2.2).trans h.2.2.1, (hb.cell (p := ⟨x, 3, none⟩) h.2.2.2.2).trans h.2.2.2.1, Nat.lt_of_lt_of_le h.2.2.2.2 hb.size⟩
theorem EBox.alloc {w : World} {x : Nat} {k v : ByteArray} {g : Bool} {q : Int} (h : EBox w x k v g q) (o : Obj) : EBox (w.alloc o) x k v g q :=
  h.below ((Below.refl _ _).alloc (Nat.le_refl _) o)
theorem below_al {w w' : World} {o : Obj} (h : Below (w.alloc o).heap.size (w.alloc o) w') : Below w.heap.size w w' := ((Below.refl _ _).alloc (Nat.le_refl _) _).trans (h.mono (by simp))
theorem below_al2 {w w' : World} {o p : Obj} (h : Below ((w.alloc o).alloc p).heap.size ((w.alloc o).alloc p) w') : Below w.heap.size w w' := below_al (below_al h)

set_option maxHeartbeats 2000000 in
theorem follows_any (k1 v1 : ByteArray) (g1 : Bool) (q1 : Int) (k2 v2 : ByteArray) (g2 : Bool) (q2 : Int) (b : Bool) (h : (mayE (k2, v2, g2, q2) && lessE (k1, v1, g1, q1) (k2, v2, g2, q2)) = b) (h1 : okS k2) (h2 : okS v2) (w : World) :
    Calls Try.prog 54 #[.agg #[.string k1, .string v1, .bool g1, .int .i64 q1], .agg #[.string k2, .string v2, .bool g2, .int .i64 q2]] w fun x w' => x = .returned (.bool b) ∧ Below w.heap.size w w' := by
  cases hm : mayE (k2, v2, g2, q2) with
  | false =>
    obtain rfl : b = false := by rw [← h, hm]; rfl
    have HM := Lib.hid fun w => mayBe_any k2 v2 g2 q2 _ hm h1 h2 w
    clear h hm
    go_enter Try.func54, Try.ntmps54
    go_wp2_with fail
    refine (HM.out _).mono ?_
    rintro e w1 ⟨rfl, b1⟩
    go_wp2
    go_ret
    exact ⟨rfl, below_al2 b1⟩
  | true =>
    rw [hm, Bool.true_and] at h
    have HM := Lib.hid fun w => mayBe_any k2 v2 g2 q2 _ hm h1 h2 w
    have HL := Lib.hid fun w => less_any k1 v1 g1 q1 k2 v2 g2 q2 b h w
    clear h hm
    go_enter Try.func54, Try.ntmps54
    go_wp2_with fail
    refine (HM.out _).mono ?_
    rintro e w1 ⟨rfl, b1⟩
    obtain ⟨x0, x1, x2, x3, x4⟩ := ((EBox.new w 37 k1 v1 g1 q1).alloc (.cells #[.string k2, .string v2, .bool g2, .int .i64 q2] 37)).below b1
    obtain ⟨y0, y1, y2, y3, y4⟩ := (EBox.new2 w (.cells #[.string k1, .string v1, .bool g1, .int .i64 q1] 37) 37 k2 v2 g2 q2).below b1
    have HB := Lib.hid (below_al2 b1)
    clear b1
    go_wp2_with fail
    refine (HL.out _).mono ?_
    rintro e w2 ⟨rfl, b2⟩
    go_wp2
    go_ret
    exact ⟨rfl, bt HB.out b2⟩

/-! ### common -/
/-! ### Check -/
def okV (es : List Ent) : Prop := ∀ e ∈ es, okS e.1 ∧ okS e.2.1
def chkV (b : Bool) : Int := if b = true then 0 else 1
/-- The cells of a slice of entries. -/
def EAt (w : World) (b off : Nat) (es : List Ent) : Prop := ∀ i (h : i < es.length), w.cell? ⟨b, off + i * 4, none⟩ = some (.string es[i].1) ∧ w.cell? ⟨b, off + i * 4 + 1, none⟩ = some (.string es[i].2.1) ∧
    w.cell? ⟨b, off + i * 4 + 2, none⟩ = some (.bool es[i].2.2.1) ∧ w.cell? ⟨b, off + i * 4 + 3, none⟩ = some (.int .i64 es[i].2.2.2)
theorem EAt.old {w w' : World} {b off : Nat} {es : List Ent} (h : EAt w b off es) (hb : b < w.heap.size) (hw : Below w.heap.size w w') : EAt w' b off es := by
  intro i hi
  obtain ⟨h0, h1, h2, h3⟩ := h i hi
  exact ⟨(hw.cell (p := ⟨b, off + i * 4, none⟩) hb).trans h0, (hw.cell (p := ⟨b, off + i * 4 + 1, none⟩) hb).trans h1, (hw.cell (p := ⟨b, off + i * 4 + 2, none⟩) hb).trans h2, (hw.cell (p := ⟨b, off + i * 4 + 3, none⟩) hb).trans h3⟩
theorem chain_next {es : List Ent} {k : Nat} (h : k < es.length) (hc : chainE zE (es.take k) = true) : chainE zE (es.take (k + 1)) = (mayE es[k] && lessE (lastE zE (es.take k)) es[k]) := by
  rw [List.take_succ_eq_append_getElem h, chain_app _ hc]
  simp [chainE]
theorem last_next {es : List Ent} {k : Nat} (h : k < es.length) : lastE zE (es.take (k + 1)) = es[k] := by
  rw [List.take_succ_eq_append_getElem h, lastE_snoc]
/-- A store of an entry into its box. -/
theorem EBox.put {w : World} {x : Nat} {k v k' v' : ByteArray} {g g' : Bool} {q q' : Int} (h : EBox w x k v g q) :
    EBox ((((w.setCell ⟨x, 0, none⟩ (.string k')).setCell ⟨x, 1, none⟩ (.string v')).setCell ⟨x, 2, none⟩ (.bool g')).setCell ⟨x, 3, none⟩ (.int .i64 q')) x k' v' g' q' := by
  obtain ⟨h0, h1, h2, h3, h4⟩ := h
  have hlt : x < w.heap.size := h4
  have ne : ∀ i j : Nat, i ≠ j → (⟨x, i, none⟩ : Addr) ≠ ⟨x, j, none⟩ := by intro i j h e; simp only [Addr.mk.injEq] at e; omega
  have s0 : ∀ (w : World) (v : Value), (w.cell? ⟨x, 0, none⟩).isSome → (w.setCell ⟨x, 0, none⟩ v).cell? ⟨x, 0, none⟩ = some v := fun w v h => World.cell?_setCell_same' w _ _ h
  refine ⟨?_, ?_, ?_, ?_, by simpa using hlt⟩
  · rw [World.cell?_setCell_other _ _ _ _ (ne 3 0 (by decide)), World.cell?_setCell_other _ _ _ _ (ne 2 0 (by decide)), World.cell?_setCell_other _ _ _ _ (ne 1 0 (by decide)), World.cell?_setCell_same' _ _ _ (by rw [h0]; rfl)]
  · rw [World.cell?_setCell_other _ _ _ _ (ne 3 1 (by decide)), World.cell?_setCell_other _ _ _ _ (ne 2 1 (by decide)), World.cell?_setCell_same' _ _ _ (by rw [World.cell?_setCell_other _ _ _ _ (ne 0 1 (by decide)), h1]; rfl)]
  · rw [World.cell?_setCell_other _ _ _ _ (ne 3 2 (by decide)), World.cell?_setCell_same' _ _ _ (by rw [World.cell?_setCell_other _ _ _ _ (ne 1 2 (by decide)), World.cell?_setCell_other _ _ _ _ (ne 0 2 (by decide)), h2]; rfl)]
  · rw [World.cell?_setCell_same' _ _ _ (by rw [World.cell?_setCell_other _ _ _ _ (ne 2 3 (by decide)), World.cell?_setCell_other _ _ _ _ (ne 1 3 (by decide)), World.cell?_setCell_other _ _ _ _ (ne 0 3 (by decide)), h3]; rfl)]
def EFree (w : World) (x : Nat) : Prop := w.frozen? ⟨x, 0, none⟩ = false ∧ w.frozen? ⟨x, 1, none⟩ = false ∧ w.frozen? ⟨x, 2, none⟩ = false ∧ w.frozen? ⟨x, 3, none⟩ = false
theorem EFree.below {w w' : World} {x : Nat} (h : EFree w x) (hx : x < w.heap.size) (hb : Below w.heap.size w w') : EFree w' x :=
  ⟨(hb.frozen (p := ⟨x, 0, none⟩) hx).trans h.1, (hb.frozen (p := ⟨x, 1, none⟩) hx).trans h.2.1, (hb.frozen (p := ⟨x, 2, none⟩) hx).trans h.2.2.1, (hb.frozen (p := ⟨x, 3, none⟩) hx).trans h.2.2.2⟩
theorem EFree.set {w : World} {x : Nat} (h : EFree w x) (a : Addr) (v : Value) : EFree (w.setCell a v) x := by
  unfold EFree
  rw [World.frozen?_setCell, World.frozen?_setCell, World.frozen?_setCell, World.frozen?_setCell]
  exact h
theorem EFree.new (w : World) (k v : ByteArray) (g : Bool) (q : Int) (t : TypeId) : EFree (w.alloc (.cells #[.string k, .string v, .bool g, .int .i64 q] t)) w.heap.size := ⟨by simp, by simp, by simp, by simp⟩
theorem below_put {B : Nat} {w w' : World} {x : Nat} (h : Below B w w') (hx : B ≤ x) (a b c d : Value) :
    Below B w ((((w'.setCell ⟨x, 0, none⟩ a).setCell ⟨x, 1, none⟩ b).setCell ⟨x, 2, none⟩ c).setCell ⟨x, 3, none⟩ d) :=
  (((h.setCell (p := ⟨x, 0, none⟩) hx _).setCell (p := ⟨x, 1, none⟩) hx _).setCell (p := ⟨x, 2, none⟩) hx _).setCell (p := ⟨x, 3, none⟩) hx _

set_option maxHeartbeats 1000000 in
theorem chk9_long (a : Option Addr) (n cap : Nat) (w : World) (h : 4096 < n) (hn : n ≤ 9223372036854775807) :
    Calls Try.prog 42 #[.slice a n cap] w fun e w' => e = .returned (.int .i64 1) ∧ Below w.heap.size w w' := by
  have h' : (4096 : Int) < (n : Int) := by omega
  go_enter Try.func42, Try.ntmps42
  go_wp2
  go_ret
  exact ⟨rfl, Below.refl _ _⟩
set_option maxHeartbeats 4000000 in
theorem chk9_some (b off n cap : Nat) (es : List Ent) (w : World) (hn : n ≤ 4096) (hl : es.length = n) (hb : 0 < n → b < w.heap.size) (hok : okV es) (hc : EAt w b off es) (r : Bool) (hr : chainE zE es = r) (a : Option Addr) (ha : 0 < n → a = some ⟨b, off, none⟩) :
    Calls Try.prog 42 #[.slice a n cap] w fun e w' => e = .returned (.int .i64 (chkV r)) ∧ Below w.heap.size w w' := by
  have h' : (n : Int) ≤ 4096 := by omega
  have HC := Lib.hid hc
  have HL := Lib.hid hl
  have HO := Lib.hid hok
  have HR := Lib.hid hr
  clear hc hl hok hr
  go_enter Try.func42, Try.ntmps42
  go_wp2
  go_loopw [5, 12] (fun _ i wr => ∃ k : Nat, i = .int .i64 k ∧ k ≤ n ∧ Hid (chainE zE (es.take k) = true) ∧ Hid (EBox wr w.heap.size (lastE zE (es.take k)).1 (lastE zE (es.take k)).2.1 (lastE zE (es.take k)).2.2.1 (lastE zE (es.take k)).2.2.2 ∧ EFree wr w.heap.size) ∧ Below w.heap.size w wr) (fun _ i _ => n - (intOf i).toNat)
  case atStart => exact ⟨0, rfl, by omega, Lib.hid rfl, Lib.hid ⟨EBox.new w _ ⟨#[]⟩ ⟨#[]⟩ false 0, EFree.new w _ _ _ _ _⟩, (Below.refl _ _).alloc (Nat.le_refl _) _⟩
  case round =>
    obtain ⟨k, rfl, hk, HH, HB, hbel⟩ := hrel
    by_cases hlt : k < n
    · obtain rfl := ha (by omega)
      have hbw := hb (by omega)
      have hkl : k < es.length := by rw [HL.out]; exact hlt
      have hki : (k : Int) < (n : Int) := by omega
      obtain ⟨g0, g1, g2, g3⟩ := HC.out k hkl
      have o1 := HO.out _ (List.getElem_mem hkl)
      have hnx := chain_next hkl HH.out
      have hln := last_next hkl
      obtain ⟨E, hE⟩ : ∃ E, E = es[k] := ⟨_, rfl⟩
      rw [← hE] at g0 g1 g2 g3 o1 hnx hln
      obtain ⟨ek, evl, eg, eq⟩ := E
      obtain ⟨L, hL⟩ : ∃ L, L = lastE zE (es.take k) := ⟨_, rfl⟩
      rw [← hL] at HB hnx
      obtain ⟨lk, lv, lg, lq⟩ := L
      have hcell : ∀ j, wr.cell? ⟨b, j, none⟩ = w.cell? ⟨b, j, none⟩ := fun j => hbel.cell (p := ⟨b, j, none⟩) hbw
      rw [← hcell] at g0 g1 g2 g3
      have hbr : b < wr.heap.size := Nat.lt_of_lt_of_le hbw hbel.size
      obtain ⟨r1, hr1⟩ : ∃ r1, chainE zE (es.take (k + 1)) = r1 := ⟨_, rfl⟩
      rw [hr1] at hnx
      have HF := Lib.hid fun w => follows_any lk lv lg lq ek evl eg eq r1 hnx.symm o1.1 o1.2 w
      obtain ⟨x0, x1, x2, x3, x4⟩ := HB.out.1
      have HN := Lib.hid hln
      have HR1 := Lib.hid hr1
      try simp only at x0 x1 x2 x3 x4
      clear hcell hE hL hnx hln hr1 o1 hb
      have hne : ¬ w.heap.size = wr.heap.size := by omega
      go_wp2_with fail
      refine (HF.out _).mono ?_
      rintro e w1 ⟨rfl, b1⟩
      have hb1 := below_al b1
      have HX := Lib.hid ((HB.out.1.alloc (.cells #[.string ek, .string evl, .bool eg, .int .i64 eq] 37)).below b1)
      have HFr := Lib.hid (HB.out.2.below x4 hb1)
      obtain ⟨y0, y1, y2, y3, y4⟩ := (EBox.new wr 37 ek evl eg eq).below b1
      have HW := Lib.hid (hbel.trans (hb1.mono hbel.size))
      clear x0 x1 x2 x3 x4 g0 g1 g2 g3 HB hbel b1 hb1
      obtain ⟨x0, x1, x2, x3, x4⟩ := HX.out
      obtain ⟨f0, f1, f2, f3⟩ := HFr.out
      try simp only at x0 x1 x2 x3 x4
      cases r1 with
      | false =>
        have HE := Lib.hid (chain_false (k + 1) HR1.out)
        go_wp2
        go_ret
        exact ⟨by rw [← HR.out, HE.out]; rfl, HW.out⟩
      | true =>
        have HP := Lib.hid (HX.out.put (k' := ek) (v' := evl) (g' := eg) (q' := eq))
        have HFP := Lib.hid ((((HFr.out.set ⟨w.heap.size, 0, none⟩ (.string ek)).set ⟨w.heap.size, 1, none⟩ (.string evl)).set ⟨w.heap.size, 2, none⟩ (.bool eg)).set ⟨w.heap.size, 3, none⟩ (.int .i64 eq))
        have HBP := Lib.hid (below_put HW.out (Nat.le_refl _) (.string ek) (.string evl) (.bool eg) (.int .i64 eq))
        go_wp2
        go_roundw
        case rel => exact ⟨k + 1, by go_num, by omega, HR1, Lib.hid ⟨by rw [HN.out]; exact HP.out, HFP.out⟩, HBP.out⟩
        case measure => simp [intOf]; omega
    · obtain rfl : k = n := by omega
      have HE := HH.out
      rw [← HL.out, List.take_length] at HE
      have HE2 := Lib.hid (HR.out.symm.trans HE)
      clear HE
      go_wp2
      go_ret
      exact ⟨by rw [HE2.out]; rfl, hbel⟩
theorem RdE.at_ {w : World} {a : Option Addr} {es : List Ent} (h : RdE w a es) : ∃ b off, (0 < es.length → a = some ⟨b, off, none⟩) ∧ (0 < es.length → b < w.heap.size) ∧ EAt w b off es := by
  rcases h with rfl | ⟨b, off, rfl, hb, hc⟩
  · exact ⟨0, 0, fun h => by simp at h, fun h => by simp at h, fun i hi => by simp at hi⟩
  · exact ⟨b, off, fun _ => rfl, fun _ => hb, hc⟩
theorem chk9_any (a : Option Addr) (n cap : Nat) (es : List Ent) (w : World) (hn : n ≤ 9223372036854775807) (hl : es.length = n) (h : RdE w a es) (hok : okV es) (r : Bool) (hr : okB es = r) :
    Calls Try.prog 42 #[.slice a n cap] w fun e w' => e = .returned (.int .i64 (chkV r)) ∧ Below w.heap.size w w' := by
  unfold okB at hr
  by_cases h4 : 4096 < n
  · rw [hl, decide_eq_false (by omega), Bool.false_and] at hr
    subst hr
    exact chk9_long a n cap w h4 hn
  · rw [hl, decide_eq_true (by omega), Bool.true_and] at hr
    obtain ⟨b, off, h1, h2, h3⟩ := h.at_
    rw [hl] at h1 h2
    exact chk9_some b off n cap es w (by omega) hl h2 hok h3 r hr a h1
end Go.Proofs.Ytdpinkipcaolhaa
