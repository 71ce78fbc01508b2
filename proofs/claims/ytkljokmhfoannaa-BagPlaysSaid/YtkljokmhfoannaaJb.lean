/-
  Layer 15 (bag): the walk of BagPlays. Conditions: none.
-/
import Derived.Test.YtkljokmhfoannaaJa
import Derived.Deep.RegionWith
import Derived.BigRegion
namespace Go.Proofs.Ytkljokmhfoannaa
open Go.RowKit Go.Maps
set_option linter.unusedVariables false
set_option linter.unusedSimpArgs false

theorem RdBo.old {w w' : World} {a : Option Addr} {l : List Bo} (h : RdBo w a l) (hb : Below w.heap.size w w') : RdBo w' a l := by
  rcases h with rfl | ⟨b, off, rfl, hlt, hc⟩
  · exact .inl rfl
  · refine .inr ⟨b, off, rfl, Nat.lt_of_lt_of_le hlt hb.size, fun i hi => ?_⟩
    have e : ∀ o, w'.cell? ⟨b, o, none⟩ = w.cell? ⟨b, o, none⟩ := fun o => hb.cell (p := ⟨b, o, none⟩) hlt
    obtain ⟨h0, h1, h2, h3, h4, h5⟩ := hc i hi
    exact ⟨(e _).trans h0, (e _).trans h1, (e _).trans h2, (e _).trans h3, (e _).trans h4, (e _).trans h5⟩
theorem RdBo.at_ {w : World} {a : Option Addr} {l : List Bo} (h : RdBo w a l) {k : Nat} (hk : k < l.length) : ∃ b off, a = some ⟨b, off, none⟩ ∧ b < w.heap.size ∧ BoAt w b off l := by
  rcases h with rfl | ⟨b, off, rfl, hlt, hc⟩
  · cases hk
  · exact ⟨b, off, rfl, hlt, hc⟩
/-- The two bags, side by side. -/
structure Ply (w wr : World) (b x7 n c m : Nat) : Prop where
  ex : ∃ (own : Nat → Prop) (q : Wq) (a : Option Addr) (len cap : Nat) (L : List Lt), BagAt own wr b n c q ∧ (∀ z, z < w.heap.size → own z) ∧ own x7 ∧ (∀ g, a = some ⟨g, 0, none⟩ → L ≠ [] → own g) ∧ QBox wr x7 n c (.slice a len cap) ∧ RefB wr a len cap L ∧ Has15 q L ∧ len ≤ m
  be : Below w.heap.size w wr
/-- A call of the script in a block. -/
structure OBox (w : World) (x : Nat) (o : Bo) : Prop where
  c0 : w.cell? ⟨x, 0, none⟩ = some (.int .i64 o.k)
  c1 : w.cell? ⟨x, 1, none⟩ = some (.int .i64 o.d)
  c2 : w.cell? ⟨x, 2, none⟩ = some (.int .i64 o.i)
  c3 : w.cell? ⟨x, 3, none⟩ = some (.int .i64 o.l.fr)
  c4 : w.cell? ⟨x, 4, none⟩ = some (.int .i64 o.l.to)
  c5 : w.cell? ⟨x, 5, none⟩ = some (.string o.l.tx)
  lt : x < w.heap.size
theorem OBox.new (w : World) (o : Bo) : OBox (w.alloc (.cells #[.int .i64 o.k, .int .i64 o.d, .int .i64 o.i, .int .i64 o.l.fr, .int .i64 o.l.to, .string o.l.tx] 41)) w.heap.size o := ⟨by simp, by simp, by simp, by simp, by simp, by simp, by simp⟩
theorem OBox.kp {w w' : World} {x : Nat} {o : Bo} (h : OBox w x o) (hb : w'.heap[x]? = w.heap[x]?) (hs : w.heap.size ≤ w'.heap.size) : OBox w' x o := by
  have c : ∀ o, w'.cell? ⟨x, o, none⟩ = w.cell? ⟨x, o, none⟩ := fun o => World.cell?_of_block (w := w) (a := ⟨x, o, none⟩) hb
  exact ⟨(c 0).trans h.c0, (c 1).trans h.c1, (c 2).trans h.c2, (c 3).trans h.c3, (c 4).trans h.c4, (c 5).trans h.c5, Nat.lt_of_lt_of_le h.lt hs⟩
theorem OBox.below {w w' : World} {x : Nat} {o : Bo} (h : OBox w x o) (hb : Below w.heap.size w w') : OBox w' x o := h.kp (hb.block x h.lt) hb.size
theorem RefB.kp {w w' : World} {a : Option Addr} {len cap : Nat} {L : List Lt} (h : RefB w a len cap L) (hb : ∀ g, a = some ⟨g, 0, none⟩ → L ≠ [] → w'.heap[g]? = w.heap[g]?) (hs : w.heap.size ≤ w'.heap.size) : RefB w' a len cap L := by
  refine ⟨h.1, ?_, h.2.2⟩
  by_cases e : L = []
  · exact .inl e
  · exact h.2.1.kp (fun g hg => hb g hg e) hs
/-- Behind a call of both. -/
structure Swi (w wx : World) (b x7 x13 n c m : Nat) (s7 : Value) : Prop where
  ex : ∃ (own : Nat → Prop) (q : Wq) (a : Option Addr) (len cap : Nat) (L : List Lt), BagAt own wx b n c q ∧ (∀ z, z < w.heap.size → own z) ∧ own x7 ∧ (∀ g, a = some ⟨g, 0, none⟩ → L ≠ [] → own g) ∧ QBox wx x13 n c (.slice a len cap) ∧ RefB wx a len cap L ∧ Has15 q L ∧ len ≤ m
  old : QBox wx x7 n c s7
  be : Below w.heap.size w wx
theorem Swi.mk3 {w w4 w5 : World} {b x7 x13 n c m : Nat} {s7 s13 : Value} {own : Nat → Prop} {q : Wq} {a a' : Option Addr} {m' c' : Nat} {L L' : List Lt} (h4 : BagAt own w4 b n c q) (b5 : Below w4.heap.size w4 w5) (hw : ∀ z, z < w.heap.size → own z) (h7 : own x7) (h13 : own x13) (h713 : x7 ≠ x13) (h13w : w.heap.size ≤ x13)
    (hga : ∀ g, a = some ⟨g, 0, none⟩ → L ≠ [] → own g) (hq13 : QBox w5 x13 n c s13) (hq7 : QBox w5 x7 n c s7) (hr : RefB w5 a' m' c' L') (hH : Has15 q L') (hm : m' ≤ m) (hg : (a' = a ∧ L' = L) ∨ ∀ g, a' = some ⟨g, 0, none⟩ → w4.heap.size ≤ g) (hb : Below w.heap.size w w5) (hgx : ∀ g, a' = some ⟨g, 0, none⟩ → L' ≠ [] → g ≠ x13) :
    Swi w (set3 w5 x13 (.int .i64 (n : Int)) (.int .i64 (c : Int)) (.slice a' m' c')) b x7 x13 n c m s7 := by
  refine ⟨⟨fun x => own x ∨ (w4.heap.size ≤ x ∧ x < w5.heap.size), q, a', m', c', L', (h4.fresh b5).set3 (.inl h13) _ _ _, fun z hz => .inl (hw z hz), .inl h7, fun g hg' hne => ?_, hq13.store, hr.kp (fun g hg' hne => set3_heap _ (hgx g hg' hne) _ _ _) (by simp), hH, hm⟩, hq7.kp (set3_heap _ h713 _ _ _) (by simp), set3_below hb h13w _ _ _⟩
  rcases hg with ⟨e1, e2⟩ | e
  · rw [e1] at hg'
    rw [e2] at hne
    exact .inl (hga g hg' hne)
  · refine .inr ⟨e g hg', ?_⟩
    rcases hr.2.1 with h | ⟨g2, h2, hl2, _⟩
    · exact absurd h hne
    · rw [hg'] at h2; cases h2; exact hl2
theorem Swi.mk4 {w w4 w5 : World} {b x7 x13 x15 n c m : Nat} {F : Lt} {s7 s13 : Value} {own : Nat → Prop} {q : Wq} {a a' : Option Addr} {m' c' : Nat} {L L' : List Lt} (h4 : BagAt own w4 b n c q) (b5 : Below w4.heap.size w4 w5) (hw : ∀ z, z < w.heap.size → own z) (h7 : own x7) (h13 : own x13) (h15 : own x15) (h715 : x7 ≠ x15) (h1315 : x13 ≠ x15) (h15w : w.heap.size ≤ x15) (h713 : x7 ≠ x13) (h13w : w.heap.size ≤ x13)
    (hga : ∀ g, a = some ⟨g, 0, none⟩ → L ≠ [] → own g) (hq13 : QBox w5 x13 n c s13) (hq7 : QBox w5 x7 n c s7) (hr : RefB w5 a' m' c' L') (hH : Has15 q L') (hm : m' ≤ m) (hg : (a' = a ∧ L' = L) ∨ ∀ g, a' = some ⟨g, 0, none⟩ → w4.heap.size ≤ g) (hb : Below w.heap.size w w5) (hgx : ∀ g, a' = some ⟨g, 0, none⟩ → L' ≠ [] → g ≠ x13 ∧ g ≠ x15) :
    Swi w (set3 (set3 w5 x13 (.int .i64 (n : Int)) (.int .i64 (c : Int)) (.slice a' m' c')) x15 (.int .i64 F.fr) (.int .i64 F.to) (.string F.tx)) b x7 x13 n c m s7 := by
  refine ⟨⟨fun x => own x ∨ (w4.heap.size ≤ x ∧ x < w5.heap.size), q, a', m', c', L', ((h4.fresh b5).set3 (.inl h13) _ _ _).set3 (.inl h15) _ _ _, fun z hz => .inl (hw z hz), .inl h7, fun g hg' hne => ?_, hq13.store.kp (set3_heap _ h1315 _ _ _) (by simp), hr.kp (fun g hg' hne => (set3_heap _ (hgx g hg' hne).2 _ _ _).trans (set3_heap _ (hgx g hg' hne).1 _ _ _)) (by simp), hH, hm⟩, hq7.kp ((set3_heap _ h715 _ _ _).trans (set3_heap _ h713 _ _ _)) (by simp), set3_below (set3_below hb h13w _ _ _) h15w _ _ _⟩
  rcases hg with ⟨e1, e2⟩ | e
  · rw [e1] at hg'
    rw [e2] at hne
    exact .inl (hga g hg' hne)
  · refine .inr ⟨e g hg', ?_⟩
    rcases hr.2.1 with h | ⟨g2, h2, hl2, _⟩
    · exact absurd h hne
    · rw [hg'] at h2; cases h2; exact hl2
theorem Swi.store {w wx : World} {b x7 x13 n c m : Nat} {a0 : Option Addr} {l0 c0 : Nat} (h : Swi w wx b x7 x13 n c m (.slice a0 l0 c0)) (hx : w.heap.size ≤ x7) : ∃ (a : Option Addr) (len cap : Nat) (L : List Lt) (q : Wq) (own : Nat → Prop), QBox wx x13 n c (.slice a len cap) ∧ Ply w (set3 wx x7 (.int .i64 (n : Int)) (.int .i64 (c : Int)) (.slice a len cap)) b x7 n c m ∧ QBox (set3 wx x7 (.int .i64 (n : Int)) (.int .i64 (c : Int)) (.slice a len cap)) x7 n c (.slice a len cap) ∧ BagAt own (set3 wx x7 (.int .i64 (n : Int)) (.int .i64 (c : Int)) (.slice a len cap)) b n c q ∧ RefB (set3 wx x7 (.int .i64 (n : Int)) (.int .i64 (c : Int)) (.slice a len cap)) a len cap L ∧ Has15 q L ∧ len ≤ m := by
  obtain ⟨⟨own, q, a, len, cap, L, h1, h2, h3, h4, h5, h6, h7, h8⟩, hold, hbe⟩ := h
  have hg : ∀ g, a = some ⟨g, 0, none⟩ → L ≠ [] → g ≠ x7 := by
    intro g hg hne he
    rcases h6.2.1 with e | ⟨g2, e, -, hc⟩
    · exact hne e
    · rw [hg] at e
      cases e
      subst he
      have h0 := (hc 0 (List.length_pos_iff.2 hne)).2.2
      have h1 := hold.c2
      simp at h0
      rw [h0] at h1
      cases h1
  have hB := h1.set3 h3 (.int .i64 (n : Int)) (.int .i64 (c : Int)) (.slice a len cap)
  have hR : RefB (set3 wx x7 (.int .i64 (n : Int)) (.int .i64 (c : Int)) (.slice a len cap)) a len cap L := h6.kp (fun g hg' hne => set3_heap _ (hg g hg' hne) _ _ _) (by simp)
  exact ⟨a, len, cap, L, q, own, h5, ⟨⟨own, q, a, len, cap, L, hB, h2, h3, h4, hold.store, hR, h7, h8⟩, set3_below hbe hx _ _ _⟩, hold.store, hB, hR, h7, h8⟩
theorem Ply.below {w wr w' : World} {b x7 n c m : Nat} (h : Ply w wr b x7 n c m) (hb : Below wr.heap.size wr w') : Ply w w' b x7 n c m := by
  obtain ⟨⟨own, q, a, len, cap, L, h1, h2, h3, h4, h5, h6, h7, h8⟩, hbe⟩ := h
  exact ⟨⟨own, q, a, len, cap, L, h1.below hb, h2, h3, h4, h5.below hb, h6.old hb, h7, h8⟩, hbe.trans (hb.mono hbe.size)⟩
set_option maxRecDepth 100000 in
set_option maxHeartbeats 4000000 in
theorem walk_BagPlays (y0 y1 : Int) (sa : Option Addr) (scap : Nat) (xs : List Bo) (w : World) (hx : RdBo w sa xs) (hok : ∀ o ∈ xs, okBo o) (hl : xs.length ≤ maxLen) (hc : xs.length ≤ scap) : Calls Try.prog 3 #[.agg #[.int .i64 y0, .int .i64 y1], .slice sa xs.length scap] w fun e w' => e = .returned (.bool true) ∧ Below w.heap.size w w' := by
  have HX := Lib.hid hx
  have HOK := Lib.hid hok
  obtain ⟨N, hN⟩ : ∃ N, N = xs.length := ⟨_, rfl⟩
  have HN := Lib.hid hN
  rw [← hN] at hl hc ⊢
  clear hx hok hN
  go_enter Try.func3, Try.ntmps3
  go_upto_region 1 with fail
  have hb1 := bal (Below.refl _ w) (.cells #[.int .i64 y0, .int .i64 y1] 22)
  have c0 : (w.alloc (.cells #[.int .i64 y0, .int .i64 y1] 22)).cell? ⟨w.heap.size, 0, none⟩ = some (.int .i64 y0) := by simp
  have c1 : (w.alloc (.cells #[.int .i64 y0, .int .i64 y1] 22)).cell? ⟨w.heap.size, 1, none⟩ = some (.int .i64 y1) := by simp
  have cl : w.heap.size < (w.alloc (.cells #[.int .i64 y0, .int .i64 y1] 22)).heap.size := by simp
  obtain ⟨w1, hw1⟩ : ∃ w1, w1 = w.alloc (.cells #[.int .i64 y0, .int .i64 y1] 22) := ⟨_, rfl⟩
  rw [← hw1] at hb1 c0 c1 cl ⊢
  obtain ⟨xb, hxb⟩ : ∃ xb, xb = w.heap.size := ⟨_, rfl⟩
  rw [← hxb] at c0 c1 cl ⊢
  have HB1 := Lib.hid hb1
  have HC := Lib.hid (And.intro c0 (And.intro c1 cl))
  clear hw1 hb1 hxb
  go_wp2_with fail
  refine (new15_any w1 y0 y1).mono ?_
  rintro e w2 ⟨hb2, hN⟩
  have HB2 := Lib.hid hb2
  have d0 := (hb2.cell (p := ⟨xb, 0, none⟩) HC.out.2.2).trans HC.out.1
  have d1 := (hb2.cell (p := ⟨xb, 1, none⟩) HC.out.2.2).trans HC.out.2.1
  have dl := Nat.lt_of_lt_of_le HC.out.2.2 hb2.size
  clear hb2 c0 c1 cl
  have HRN := Lib.hid (rnew15_any y0 y1 w2)
  rcases hN with ⟨hE, b, rfl, hB⟩ | ⟨hE, rfl⟩
  · rw [hE] at HRN
    have hr : 1 ≤ y0 ∧ y0 ≤ 6 ∧ 1 ≤ y1 ∧ y1 ≤ 8 := by
      unfold newE at hE
      split at hE
      · assumption
      · cases hE
    obtain ⟨n, rfl⟩ : ∃ n : Nat, y0 = (n : Int) := ⟨y0.toNat, by omega⟩
    obtain ⟨c, rfl⟩ : ∃ c : Nat, y1 = (c : Int) := ⟨y1.toNat, by omega⟩
    simp only [Int.toNat_natCast] at hB
    have HNC := Lib.hid (show n ≤ 6 ∧ c ≤ 8 by omega)
    have HBG2 := Lib.hid hB
    clear hE hr hB
    go_wp2_with fail
    refine HRN.out.mono ?_
    rintro e w3 ⟨⟨X, Y, rfl, hXY⟩, hb3⟩
    obtain ⟨rfl, rfl⟩ := hXY rfl
    have HB3 := Lib.hid hb3
    clear hXY hb3 d0 d1 dl HRN
    go_upto_region 3 with fail
    have hb4 := bal HB3.out (.cells #[.int .i64 (n : Int), .int .i64 (c : Int), .slice none 0 0] 30)
    have hq := QBox.new w3 n c (.slice none 0 0)
    have hwl : w3.heap.size < (w3.alloc (.cells #[.int .i64 (n : Int), .int .i64 (c : Int), .slice none 0 0] 30)).heap.size := by simp
    have hfr := HBG2.out.fresh hb4
    obtain ⟨W, hW⟩ : ∃ W, W = w3.alloc (.cells #[.int .i64 (n : Int), .int .i64 (c : Int), .slice none 0 0] 30) := ⟨_, rfl⟩
    rw [← hW] at hb4 hq hwl hfr ⊢
    obtain ⟨x7, hx7⟩ : ∃ x7, x7 = w3.heap.size := ⟨_, rfl⟩
    rw [← hx7] at hq hwl ⊢
    have HPL0 : Hid (Ply w W b x7 n c 0) := Lib.hid ⟨⟨_, _, none, 0, 0, [], hfr, fun z hz => .inl (Nat.lt_of_lt_of_le hz HB1.out.size), .inr ⟨by rw [hx7]; exact HB3.out.size, hwl⟩, fun g hg => (by cases hg), hq, ⟨rfl, .inl rfl, Nat.le_refl _, by unfold maxLen; omega⟩, Has15.empty, Nat.le_refl _⟩, (HB1.out.trans (HB2.out.mono HB1.out.size)).trans (hb4.mono (by have := HB1.out.size; have := HB2.out.size; omega))⟩
    have HX7W : Hid (w.heap.size ≤ x7) := Lib.hid (by have := HB1.out.size; have := HB2.out.size; have := HB3.out.size; omega)
    clear hW hx7 hb4 hq hwl hfr
    go_upto_region 7 with fail
    obtain ⟨own0, q0, a0, len0, cap0, L0, hB0, -, -, -, hQ0, -, -, -⟩ := HPL0.out.ex
    have HB0 := Lib.hid hB0
    have HQ0 := Lib.hid hQ0
    have d0 : W.drew.cell? ⟨x7, 0, none⟩ = some (.int .i64 (n : Int)) := hQ0.c0
    have d1 : W.drew.cell? ⟨x7, 1, none⟩ = some (.int .i64 (c : Int)) := hQ0.c1
    have d2 : W.drew.cell? ⟨x7, 2, none⟩ = some (.slice a0 len0 cap0) := hQ0.c2
    have bd : Below W.heap.size W W.drew := (Below.refl _ _).drew
    have BD := Lib.hid bd
    clear hB0 hQ0 bd
    have HPLN := Lib.hid (plist_len n c)
    obtain ⟨pl, hpl⟩ : ∃ pl, pl = (plist n c).length := ⟨_, rfl⟩
    have HPLL := Lib.hid hpl
    have HP1 : Hid (Calls Try.prog 12 #[.pointer (some ⟨b, 0, none⟩)] W.drew fun e w' => ∃ a cap, e = .returned (.slice a pl cap) ∧ RdZ w' a (plist n c) ∧ Below W.drew.heap.size W.drew w') := Lib.hid (by rw [hpl]; exact places15_any (HB0.out.below BD.out))
    have HP2 : Hid (∀ w', Calls Try.prog 13 #[.agg #[.int .i64 (n : Int), .int .i64 (c : Int), .slice a0 len0 cap0]] w' fun e w'' => ∃ a cap, e = .returned (.slice a pl cap) ∧ RdZ w'' a (plist n c) ∧ Below w'.heap.size w' w'') := Lib.hid (fun w' => by rw [hpl]; exact rplaces15_any n c HNC.out.1 HNC.out.2 a0 len0 cap0 w')
    have HSM : Hid (pl < 1000000) := Lib.hid (by rw [hpl, HPLN.out]; have := HNC.out; omega)
    have dl0 : x7 < W.drew.heap.size := HQ0.out.lt
    clear hpl
    go_cut [51] from 46 to 51 (fun v wx => v = .bool false ∧ Hid (Below W.heap.size W wx))
    case first =>
      go_region_with (first
        | (go_at_call 12; refine HP1.out.mono ?_; rintro e w5 ⟨pa, pc, rfl, hp5, b5⟩; obtain ⟨d0, d1, d2, dl, -, -, -⟩ := HQ0.out.below (BD.out.trans b5))
        | (go_at_call 13; refine (HP2.out _).mono ?_; rintro e w6 ⟨ra, rc, rfl, hp6, b6⟩)
        | (go_at_call 11; refine (ints_at15 _ _ _ _ _ _ (plist n c) _ (hp5.old b6) hp6 HPLL.out.symm HPLL.out.symm HSM.out).mono ?_; rintro e w7 ⟨rfl, b7⟩))
      all_goals
        have B7 := Lib.hid ((BD.out.trans b5).trans ((b6.trans (b7.mono b6.size)).mono (by have := b5.size; have : W.drew.heap.size = W.heap.size := rfl; omega)))
        go_wp2_with fail
        go_meet
        exact ⟨rfl, B7⟩
    case rest =>
    obtain ⟨rfl, B7⟩ := hcut
    clear d0 d1 d2 dl0
    have HPLY := Lib.hid (HPL0.out.below B7.out)
    clear HPL0 HB0 HQ0 BD B7 HPLN HPLL HBG2 HP1 HP2 HSM
    go_upto_region 10 with fail
    go_loopw [9, 10, 13, 14, 15] (fun x _ _ _ _ wr => ∃ i : Nat, x = .int .i64 i ∧ i ≤ N ∧ i ≤ 150 ∧ Hid (Ply w wr b x7 n c i)) (fun x _ _ _ _ _ => 150 - (intOf x).toNat)
    case atStart => exact ⟨0, rfl, by omega, by omega, HPLY⟩
    case round =>
      obtain ⟨i, rfl, hi, hi150, HP⟩ := hrel
      clear HPLY
      by_cases hlt : i < N
      · have hki : (i : Int) < (N : Int) := by omega
        by_cases h150 : i < 150
        · have hki2 : (i : Int) < 150 := by omega
          have hxl : i < xs.length := by rw [← HN.out]; exact hlt
          obtain ⟨sb, soff, hsa, hsb, hat⟩ := (HX.out.old HP.out.be).at_ hxl
          subst hsa
          obtain ⟨z0, z1, z2, z3, z4, z5⟩ := hat i hxl
          obtain ⟨o, ho⟩ : ∃ o, o = xs[i] := ⟨_, rfl⟩
          rw [← ho] at z0 z1 z2 z3 z4 z5
          have HO := Lib.hid (show okBo o by rw [ho]; exact HOK.out _ (List.getElem_mem hxl))
          clear ho hat
          go_upto_region 13 with fail
          have hb1 := bal (Below.refl _ wr) (.cells #[.int .i64 o.k, .int .i64 o.d, .int .i64 o.i, .int .i64 o.l.fr, .int .i64 o.l.to, .string o.l.tx] 41)
          have ho1 := OBox.new wr o
          obtain ⟨w1', hw1'⟩ : ∃ w1', w1' = wr.alloc (.cells #[.int .i64 o.k, .int .i64 o.d, .int .i64 o.i, .int .i64 o.l.fr, .int .i64 o.l.to, .string o.l.tx] 41) := ⟨_, rfl⟩
          rw [← hw1'] at hb1 ho1 ⊢
          obtain ⟨xo, hxo⟩ : ∃ xo, xo = wr.heap.size := ⟨_, rfl⟩
          rw [← hxo] at ho1 ⊢
          have HXO := Lib.hid (And.intro hxo ho1.lt)
          have HBo := Lib.hid hb1
          have HO1 := Lib.hid ho1
          clear hw1' hxo hb1 z0 z1 z2 z3 z4 z5 hxl hsb
          obtain ⟨o0, o1, o2, o3, o4, o5, ol⟩ := ho1
          have htl := HO.out.2.2.2.2
          have htl2 : o.l.tx.size ≤ 9223372036854775807 := by unfold maxLen at htl; exact htl
          have go17 : (¬ (1024 < o.l.tx.size ∧ o.l.tx.size ≤ 262144)) ∨ (1024 < o.l.tx.size ∧ o.l.tx.size ≤ 262144) := by omega
          rcases go17 with hsz | ⟨h1, h2⟩
          · have hirange : -9223372036854775808 ≤ o.i ∧ o.i ≤ 9223372036854775807 := by
              have h1 : IntKind.i64.min = -9223372036854775808 := rfl
              have h2 : IntKind.i64.max = 9223372036854775807 := rfl
              have h := HO.out.2.1
              simp [Lit.wf] at h
              omega
            go_cut [77] from 66 to 77 (fun v wx => v = .bool false ∧ Hid (wx = w1'))
            case first =>
              by_cases hs1 : 1024 < o.l.tx.size
              · have hs2 : ¬ (o.l.tx.size : Int) ≤ 262144 := by omega
                have hs3 : (1024 : Int) < (o.l.tx.size : Int) := by omega
                go_wp2_with fail
                go_meet
                exact ⟨rfl, Lib.hid rfl⟩
              · have hs3 : ¬ (1024 : Int) < (o.l.tx.size : Int) := by omega
                go_wp2_with fail
                go_meet
                exact ⟨rfl, Lib.hid rfl⟩
            case rest =>
              obtain ⟨rfl, HWX⟩ := hcut
              rw [HWX.out]
              obtain ⟨own, q, a, len, cap, L, hB, hown, hx7o, hga, hQ, hR, hH, hlen⟩ := HP.out.ex
              have hq1 := hQ.below HBo.out
              have HQ7a := Lib.hid hq1
              obtain ⟨p0, p1, p2, pl, -, -, -⟩ := hq1
              have HPO := Lib.hid (And.intro hown (And.intro hx7o hga))
              have HRR := Lib.hid (And.intro hR (And.intro hH hlen))
              have HBB := Lib.hid hB
              have HBE := Lib.hid HP.out.be
              clear hB hown hx7o hga hQ hR hH
              go_upto_block 2 with fail
              have hb2 := bal HBo.out (.cells #[.int .i64 (n : Int), .int .i64 (c : Int), .slice a len cap] 30)
              have hb2s := bal (Below.refl _ w1') (.cells #[.int .i64 (n : Int), .int .i64 (c : Int), .slice a len cap] 30)
              have hq13 := QBox.new w1' n c (.slice a len cap)
              have hs2 : (w1'.alloc (.cells #[.int .i64 (n : Int), .int .i64 (c : Int), .slice a len cap] 30)).heap.size = w1'.heap.size + 1 := by simp
              obtain ⟨W2, hW2⟩ : ∃ W2, W2 = w1'.alloc (.cells #[.int .i64 (n : Int), .int .i64 (c : Int), .slice a len cap] 30) := ⟨_, rfl⟩
              rw [← hW2] at hb2 hb2s hq13 hs2 ⊢
              obtain ⟨x13, hx13⟩ : ∃ x13, x13 = w1'.heap.size := ⟨_, rfl⟩
              rw [← hx13] at hq13 ⊢
              have HB2 := Lib.hid hb2
              have HO2 := Lib.hid (HO1.out.below hb2s)
              have HQ7 := Lib.hid (HQ7a.out.below hb2s)
              have HQ13 := Lib.hid hq13
              have HR2 := Lib.hid (HRR.out.1.old hb2)
              have HS : Hid (wr.heap.size ≤ x13 ∧ x13 < W2.heap.size ∧ x7 < wr.heap.size ∧ w.heap.size ≤ wr.heap.size ∧ wr.heap.size ≤ xo ∧ xo < W2.heap.size) := Lib.hid (by
                have h1 := HBo.out.size
                have h2 := HBB.out.lt x7 HPO.out.2.1
                have h3 := HBE.out.size
                have h4 := HXO.out
                omega)
              have HB1g := Lib.hid (HBB.out.fresh hb2)
              clear hW2 hx13 hb2 hb2s hq13 hs2 p0 p1 p2 pl HQ7a o0 o1 o2 o3 o4 o5 ol
              go_cut [11, 12, 14, 15] from 52 to 174 (fun s11 s12 s14 s15 wx => ∃ er : Int, s11 = .int .i64 er ∧ s12 = .int .i64 er ∧ Hid (Swi w wx b x7 x13 n c (i + 1) (.slice a len cap)))
              case first =>
                have hlen1000 : len ≤ 1000 := by omega
                by_cases k1 : o.k = 1
                · have k1b : (o.k == 1) = true := by simpa using k1
                  obtain ⟨o0, o1, o2, o3, o4, o5, ol⟩ := HO2.out
                  go_wp2_with fail
                  refine (put15_any HB1g.out o.l HO.out.2.2.1 HO.out.2.2.2.1 htl2).mono ?_
                  rintro e w4 ⟨rfl, h4, k4⟩
                  have HK4 := Lib.hid k4
                  have HH4 := Lib.hid h4
                  have ho4 := HO2.out.kp (k4.block xo (.inr ⟨HS.out.2.2.2.2.1, HS.out.2.2.2.2.2⟩)) k4.size
                  have hq74 := HQ7.out.kp (k4.block x7 (.inl HPO.out.2.1)) k4.size
                  have hq134 := HQ13.out.kp (k4.block x13 (.inr ⟨HS.out.1, HS.out.2.1⟩)) k4.size
                  have HR4 := Lib.hid (RefB.kp HR2.out (fun g hg hne => k4.block g (.inl (HPO.out.2.2 g hg hne))) k4.size)
                  have HQ74 := Lib.hid hq74
                  have HQ134 := Lib.hid hq134
                  have HW4 := Lib.hid ((HBE.out.trans (HB2.out.mono HBE.out.size)).trans (k4.below (B := w.heap.size) fun z hz => .inl (HPO.out.1 z hz)))
                  clear h4 k4
                  clear o0 o1 o2 o3 o4 o5 ol
                  obtain ⟨o0, o1, o2, o3, o4, o5, ol⟩ := ho4
                  obtain ⟨p0, p1, p2, pl, -, -, -⟩ := hq74
                  obtain ⟨t0, t1, t2, tl, tf0, tf1, tf2⟩ := hq134
                  obtain ⟨er, her⟩ : ∃ er, er = putE n c q o.l := ⟨_, rfl⟩
                  rw [← her]
                  have HRF := Lib.hid (rput15_any n c a len cap L q o.l w4 HR4.out hlen1000 HRR.out.2.1 HO.out.2.2.1 HO.out.2.2.2.1 htl2)
                  rw [← her] at HRF
                  clear her
                  go_wp2_with fail
                  refine HRF.out.mono ?_
                  rintro e w5 ⟨a', c', L', rfl, hr5, hh5, hl5, b5, hg5⟩
                  obtain ⟨m', hm'⟩ : ∃ m', m' = L'.length := ⟨_, rfl⟩
                  rw [← hm'] at hr5 hl5 ⊢
                  have HB5 := Lib.hid b5
                  have HR5 := Lib.hid (And.intro hr5 (And.intro hh5 (And.intro hl5 hg5)))
                  have hq135 := HQ134.out.below b5
                  have HQ135 := Lib.hid hq135
                  have HQ75 := Lib.hid (HQ74.out.below b5)
                  have HSW : Hid (Swi w (set3 w5 x13 (.int .i64 (n : Int)) (.int .i64 (c : Int)) (.slice a' m' c')) b x7 x13 n c (i + 1) (.slice a len cap)) := Lib.hid (Swi.mk3 (own := fun z => _ ∨ _) (a := a) (L := L) HH4.out b5 (fun z hz => .inl (HPO.out.1 z hz)) (.inl HPO.out.2.1) (.inr ⟨HS.out.1, HS.out.2.1⟩) (by have := HS.out; omega) (by have := HS.out; omega) (fun g hg hne => .inl (HPO.out.2.2 g hg hne)) HQ135.out HQ75.out hr5 hh5 (by have := HRR.out.2.2; omega) hg5 (HW4.out.trans (b5.mono HW4.out.size)) (fun g hg hne => by
                    rcases hg5 with ⟨e1, e2⟩ | e
                    · rw [e1] at hg
                      rw [e2] at hne
                      have := HBB.out.lt g (HPO.out.2.2 g hg hne)
                      have := HS.out
                      omega
                    · have := e g hg
                      have := HH4.out.lt x13 (.inr ⟨HS.out.1, HS.out.2.1⟩)
                      omega))
                  clear hr5 hh5 hl5 hg5 b5 hm' t0 t1 t2 tl tf0 tf1 tf2
                  obtain ⟨t0, t1, t2, tl, tf0, tf1, tf2⟩ := hq135
                  go_wp2_with fail
                  go_meet
                  exact ⟨er, rfl, rfl, HSW⟩
                · have k1b : (o.k == 1) = false := beq_eq_false_iff_ne.2 k1
                  by_cases k2 : o.k = 2
                  · have k2b : (o.k == 2) = true := by simpa using k2
                    obtain ⟨o0, o1, o2, o3, o4, o5, ol⟩ := HO2.out
                    go_upto_region 25 with fail
                    have hb3 := bal (Below.refl _ W2) (.cells #[.int .i64 0, .int .i64 0, .string ⟨#[]⟩] 39)
                    have hl14 : LBox (W2.alloc (.cells #[.int .i64 0, .int .i64 0, .string ⟨#[]⟩] 39)) W2.heap.size zL := LBox.new W2 zL
                    have hs3 : (W2.alloc (.cells #[.int .i64 0, .int .i64 0, .string ⟨#[]⟩] 39)).heap.size = W2.heap.size + 1 := by simp
                    obtain ⟨Wa, hWa⟩ : ∃ Wa, Wa = W2.alloc (.cells #[.int .i64 0, .int .i64 0, .string ⟨#[]⟩] 39) := ⟨_, rfl⟩
                    rw [← hWa] at hb3 hl14 hs3 ⊢
                    have hb3b := bal (Below.refl _ Wa) (.cells #[.int .i64 0, .int .i64 0, .string ⟨#[]⟩] 39)
                    have hl15 : LBox (Wa.alloc (.cells #[.int .i64 0, .int .i64 0, .string ⟨#[]⟩] 39)) Wa.heap.size zL := LBox.new Wa zL
                    have hs4 : (Wa.alloc (.cells #[.int .i64 0, .int .i64 0, .string ⟨#[]⟩] 39)).heap.size = Wa.heap.size + 1 := by simp
                    obtain ⟨W3, hW3⟩ : ∃ W3, W3 = Wa.alloc (.cells #[.int .i64 0, .int .i64 0, .string ⟨#[]⟩] 39) := ⟨_, rfl⟩
                    rw [← hW3] at hb3b hl15 hs4 ⊢
                    rw [hs3] at hl15 hs4
                    obtain ⟨x15, hx15⟩ : ∃ x15, x15 = W2.heap.size + 1 := ⟨_, rfl⟩
                    obtain ⟨x14, hx14⟩ : ∃ x14, x14 = W2.heap.size := ⟨_, rfl⟩
                    rw [← hx15] at hl15 ⊢
                    rw [← hx14] at hl14 ⊢
                    have hb23 : Below W2.heap.size W2 W3 := bt hb3 hb3b
                    have HX14 : Hid (W2.heap.size = x14 ∧ x15 = x14 + 1 ∧ W3.heap.size = x14 + 2) := Lib.hid (by omega)
                    have HL14 := Lib.hid (hl14.below hb3b)
                    have HL15 := Lib.hid hl15
                    have HO3 := Lib.hid (HO2.out.below hb23)
                    have HQ73 := Lib.hid (HQ7.out.below hb23)
                    have HQ133 := Lib.hid (HQ13.out.below hb23)
                    have HR3 := Lib.hid (HR2.out.old hb23)
                    have HBG3 := Lib.hid (HB1g.out.fresh hb23)
                    have HB23 := Lib.hid hb23
                    clear hWa hW3 hx14 hx15 hb3 hb3b hl14 hl15 hs3 hs4 hb23 o0 o1 o2 o3 o4 o5 ol
                    obtain ⟨o0, o1, o2, o3, o4, o5, ol⟩ := HO3.out
                    go_wp2_with fail
                    refine (take15_any HBG3.out o.d o.i HO.out.1).mono ?_
                    rintro e w4 ⟨rfl, h4, k4⟩
                    obtain ⟨er, her⟩ : ∃ er, er = fndE n c q o.d o.i := ⟨_, rfl⟩
                    obtain ⟨F, hF⟩ : ∃ F, F = fndL n c q o.d o.i := ⟨_, rfl⟩
                    rw [← her, ← hF]
                    have HEF := Lib.hid (And.intro her hF)
                    clear her hF
                    have own14 : (fun x => (fun x => own x ∨ wr.heap.size ≤ x ∧ x < W2.heap.size) x ∨ (W2.heap.size ≤ x ∧ x < W3.heap.size)) x14 := .inr (by have := HX14.out; omega)
                    have own15 : (fun x => (fun x => own x ∨ wr.heap.size ≤ x ∧ x < W2.heap.size) x ∨ (W2.heap.size ≤ x ∧ x < W3.heap.size)) x15 := .inr (by have := HX14.out; omega)
                    have H14 := Lib.hid own14
                    have H15 := Lib.hid own15
                    have ho4 := HO3.out.kp (k4.block xo (.inl (.inr ⟨HS.out.2.2.2.2.1, HS.out.2.2.2.2.2⟩))) k4.size
                    have hq74 := HQ73.out.kp (k4.block x7 (.inl (.inl HPO.out.2.1))) k4.size
                    have hq134 := HQ133.out.kp (k4.block x13 (.inl (.inr ⟨HS.out.1, HS.out.2.1⟩))) k4.size
                    have hr4 := RefB.kp HR3.out (fun g hg hne => k4.block g (.inl (.inl (HPO.out.2.2 g hg hne)))) k4.size
                    have hl144 := HL14.out.kp (k4.block x14 own14) k4.size
                    have hl154 := HL15.out.kp (k4.block x15 own15) k4.size
                    have hne1 : xo ≠ x14 := by have := HS.out; have := HX14.out; omega
                    have hne2 : x7 ≠ x14 := by have := HS.out; have := HX14.out; omega
                    have hne3 : x13 ≠ x14 := by have := HS.out; have := HX14.out; omega
                    have hne5 : x15 ≠ x14 := by have := HX14.out; omega
                    have ho5 := ho4.kp (w' := set3 w4 x14 (.int .i64 F.fr) (.int .i64 F.to) (.string F.tx)) (set3_heap _ hne1 _ _ _) (by simp)
                    have HQ75 := Lib.hid (hq74.kp (w' := set3 w4 x14 (.int .i64 F.fr) (.int .i64 F.to) (.string F.tx)) (set3_heap _ hne2 _ _ _) (by simp))
                    have HQ135 := Lib.hid (hq134.kp (w' := set3 w4 x14 (.int .i64 F.fr) (.int .i64 F.to) (.string F.tx)) (set3_heap _ hne3 _ _ _) (by simp))
                    have HR5 := Lib.hid (RefB.kp hr4 (w' := set3 w4 x14 (.int .i64 F.fr) (.int .i64 F.to) (.string F.tx)) (fun g hg hne => set3_heap _ (by have h := HBB.out.lt g (HPO.out.2.2 g hg hne); have := HS.out; have := HX14.out; omega) _ _ _) (by simp))
                    have HL145 := Lib.hid (hl144.store F)
                    have HL155 := Lib.hid (hl154.kp (w' := set3 w4 x14 (.int .i64 F.fr) (.int .i64 F.to) (.string F.tx)) (set3_heap _ hne5 _ _ _) (by simp))
                    have hbg5 := h4.set3 own14 (.int .i64 F.fr) (.int .i64 F.to) (.string F.tx)
                    obtain ⟨w5, hw5'⟩ : ∃ w5, w5 = set3 w4 x14 (.int .i64 F.fr) (.int .i64 F.to) (.string F.tx) := ⟨_, rfl⟩
                    have hw5 : w5 = _ := hw5'
                    unfold set3 at hw5
                    rw [← hw5] at hbg5
                    have HBG5 := Lib.hid hbg5
                    clear hbg5
                    have HW5 : Hid (Below w.heap.size w (set3 w4 x14 (.int .i64 F.fr) (.int .i64 F.to) (.string F.tx))) := Lib.hid (set3_below ((HBE.out.trans ((HB2.out.trans (HB23.out.mono HB2.out.size)).mono HBE.out.size)).trans (k4.below (B := w.heap.size) fun z hz => .inl (.inl (HPO.out.1 z hz)))) (by have := HS.out; have := HX14.out; omega) _ _ _)
                    have HO5 := Lib.hid ho5
                    clear o0 o1 o2 o3 o4 o5 ol
                    obtain ⟨s0, s1, s2, sl, sf0, sf1, sf2⟩ := hl144
                    unfold lv
                    go_upto_region 26 with fail
                    clear h4 k4 own14 own15 ho4 hq74 hq134 hr4 hl154 hne1 hne2 hne3 s0 s1 s2 sl sf0 sf1 sf2
                    rw [← hw5]
                    rw [← hw5'] at HQ75 HQ135 HR5 HL155 HW5 HO5
                    have HL145b : Hid (LBox w5 x14 F) := Lib.hid (by rw [hw5']; exact HL145.out)
                    clear hw5 hw5' HL145 ho5
                    obtain ⟨o0, o1, o2, o3, o4, o5, ol⟩ := HO5.out
                    obtain ⟨p0, p1, p2, pl, -, -, -⟩ := HQ75.out
                    have HRF := Lib.hid (rtake15_any n c a len cap L q o.d o.i w5 HR5.out hlen1000 HRR.out.2.1 HO.out.1 hirange)
                    rw [← HEF.out.1, ← HEF.out.2] at HRF
                    go_wp2_with fail
                    refine HRF.out.mono ?_
                    rintro e w6 ⟨a', c', L', rfl, hr6, hh6, hl6, b6, hg6⟩
                    obtain ⟨m', hm'⟩ : ∃ m', m' = L'.length := ⟨_, rfl⟩
                    rw [← hm'] at hr6 hl6 ⊢
                    have hq136 := HQ135.out.below b6
                    have hl156 := HL155.out.below b6
                    have hl146 := HL145b.out.below b6
                    have hq76 := HQ75.out.below b6
                    have hn1 : x13 ≠ x15 := by have := HS.out; have := HX14.out; omega
                    have hn2 : x15 ≠ x13 := Ne.symm hn1
                    have hn3 : x14 ≠ x13 := by have := HS.out; have := HX14.out; omega
                    have hn4 : x14 ≠ x15 := by have := HX14.out; omega
                    have HSW := Lib.hid (Swi.mk4 (F := F) (b := b) (x7 := x7) (x13 := x13) (x15 := x15) (n := n) (c := c) (m := i + 1) (s7 := .slice a len cap) (a := a) (L := L) HBG5.out b6 (fun z hz => .inl (.inl (HPO.out.1 z hz))) (.inl (.inl HPO.out.2.1)) (.inl (.inr ⟨HS.out.1, HS.out.2.1⟩)) H15.out (by have := HS.out; have := HX14.out; omega) hn1 (by have := HS.out; have := HX14.out; omega) (by have := HS.out; omega) (by have := HS.out; omega) (fun g hg hne => .inl (.inl (HPO.out.2.2 g hg hne))) hq136 hq76 hr6 hh6 (by have := HRR.out.2.2; omega) hg6 (HW5.out.trans (b6.mono HW5.out.size)) (fun g hg hne => by
                      rcases hg6 with ⟨e1, e2⟩ | e
                      · rw [e1] at hg
                        rw [e2] at hne
                        have := HBB.out.lt g (HPO.out.2.2 g hg hne)
                        have := HS.out
                        have := HX14.out
                        omega
                      · have h1 := e g hg
                        have h2 := HBG5.out.lt x15 H15.out
                        have := HS.out
                        have := HX14.out
                        omega))
                    have hx14f : LBox (set3 (set3 w6 x13 (.int .i64 (n : Int)) (.int .i64 (c : Int)) (.slice a' m' c')) x15 (.int .i64 F.fr) (.int .i64 F.to) (.string F.tx)) x14 F := hl146.kp ((set3_heap _ hn4 _ _ _).trans (set3_heap _ hn3 _ _ _)) (by simp)
                    have hx15f : LBox (set3 (set3 w6 x13 (.int .i64 (n : Int)) (.int .i64 (c : Int)) (.slice a' m' c')) x15 (.int .i64 F.fr) (.int .i64 F.to) (.string F.tx)) x15 F := (hl156.kp (w' := set3 w6 x13 (.int .i64 (n : Int)) (.int .i64 (c : Int)) (.slice a' m' c')) (set3_heap _ hn2 _ _ _) (by simp)).store F
                    have HX14F := Lib.hid hx14f
                    have HX15F := Lib.hid hx15f
                    clear hr6 hh6 hl6 hg6 b6 hm' o0 o1 o2 o3 o4 o5 ol p0 p1 p2 pl hx14f hx15f hl146 hq76
                    obtain ⟨t0, t1, t2, tl, tf0, tf1, tf2⟩ := hq136
                    obtain ⟨s0, s1, s2, sl, sf0, sf1, sf2⟩ := hl156
                    unfold lv
                    have hn1b : ¬ x13 = x15 := hn1
                    have hn2b : ¬ x15 = x13 := hn2
                    go_upto_region 27 with fail
                    obtain ⟨w7, hw7⟩ : ∃ w7, w7 = set3 (set3 w6 x13 (.int .i64 (n : Int)) (.int .i64 (c : Int)) (.slice a' m' c')) x15 (.int .i64 F.fr) (.int .i64 F.to) (.string F.tx) := ⟨_, rfl⟩
                    have hw7' := hw7
                    unfold set3 at hw7
                    rw [← hw7]
                    rw [← hw7'] at HX14F HX15F HSW
                    clear hw7 hw7' t0 t1 t2 tl tf0 tf1 tf2 s0 s1 s2 sl sf0 sf1 sf2
                    obtain ⟨s0, s1, s2, sl, -, -, -⟩ := HX14F.out
                    obtain ⟨t0, t1, t2, tl, -, -, -⟩ := HX15F.out
                    go_wp2_with fail
                    go_meet
                    exact ⟨er, rfl, rfl, HSW⟩
                  · have k2b : (o.k == 2) = false := beq_eq_false_iff_ne.2 k2
                    by_cases k3 : o.k = 3
                    · have k3b : (o.k == 3) = true := by simpa using k3
                      obtain ⟨o0, o1, o2, o3, o4, o5, ol⟩ := HO2.out
                      go_wp2_with fail
                      refine (twice15_any HB1g.out o.d o.i HO.out.1).mono ?_
                      rintro e w4 ⟨rfl, h4, k4⟩
                      have HK4 := Lib.hid k4
                      have HH4 := Lib.hid h4
                      have ho4 := HO2.out.kp (k4.block xo (.inr ⟨HS.out.2.2.2.2.1, HS.out.2.2.2.2.2⟩)) k4.size
                      have hq74 := HQ7.out.kp (k4.block x7 (.inl HPO.out.2.1)) k4.size
                      have hq134 := HQ13.out.kp (k4.block x13 (.inr ⟨HS.out.1, HS.out.2.1⟩)) k4.size
                      have HR4 := Lib.hid (RefB.kp HR2.out (fun g hg hne => k4.block g (.inl (HPO.out.2.2 g hg hne))) k4.size)
                      have HQ74 := Lib.hid hq74
                      have HQ134 := Lib.hid hq134
                      have HW4 := Lib.hid ((HBE.out.trans (HB2.out.mono HBE.out.size)).trans (k4.below (B := w.heap.size) fun z hz => .inl (HPO.out.1 z hz)))
                      clear h4 k4
                      clear o0 o1 o2 o3 o4 o5 ol
                      obtain ⟨o0, o1, o2, o3, o4, o5, ol⟩ := ho4
                      obtain ⟨p0, p1, p2, pl, -, -, -⟩ := hq74
                      obtain ⟨t0, t1, t2, tl, tf0, tf1, tf2⟩ := hq134
                      obtain ⟨er, her⟩ : ∃ er, er = twE n c q o.d o.i := ⟨_, rfl⟩
                      rw [← her]
                      have HRF := Lib.hid (rtwice15_any n c a len cap L q o.d o.i w4 HR4.out hlen1000 HRR.out.2.1 HO.out.1 hirange)
                      rw [← her] at HRF
                      clear her
                      go_wp2_with fail
                      refine HRF.out.mono ?_
                      rintro e w5 ⟨a', c', L', rfl, hr5, hh5, hl5, b5, hg5⟩
                      obtain ⟨m', hm'⟩ : ∃ m', m' = L'.length := ⟨_, rfl⟩
                      rw [← hm'] at hr5 hl5 ⊢
                      have HB5 := Lib.hid b5
                      have HR5 := Lib.hid (And.intro hr5 (And.intro hh5 (And.intro hl5 hg5)))
                      have hq135 := HQ134.out.below b5
                      have HQ135 := Lib.hid hq135
                      have HQ75 := Lib.hid (HQ74.out.below b5)
                      have HSW : Hid (Swi w (set3 w5 x13 (.int .i64 (n : Int)) (.int .i64 (c : Int)) (.slice a' m' c')) b x7 x13 n c (i + 1) (.slice a len cap)) := Lib.hid (Swi.mk3 (own := fun z => _ ∨ _) (a := a) (L := L) HH4.out b5 (fun z hz => .inl (HPO.out.1 z hz)) (.inl HPO.out.2.1) (.inr ⟨HS.out.1, HS.out.2.1⟩) (by have := HS.out; omega) (by have := HS.out; omega) (fun g hg hne => .inl (HPO.out.2.2 g hg hne)) HQ135.out HQ75.out hr5 hh5 (by have := HRR.out.2.2; omega) hg5 (HW4.out.trans (b5.mono HW4.out.size)) (fun g hg hne => by
                        rcases hg5 with ⟨e1, e2⟩ | e
                        · rw [e1] at hg
                          rw [e2] at hne
                          have := HBB.out.lt g (HPO.out.2.2 g hg hne)
                          have := HS.out
                          omega
                        · have := e g hg
                          have := HH4.out.lt x13 (.inr ⟨HS.out.1, HS.out.2.1⟩)
                          omega))
                      clear hr5 hh5 hl5 hg5 b5 hm' t0 t1 t2 tl tf0 tf1 tf2
                      obtain ⟨t0, t1, t2, tl, tf0, tf1, tf2⟩ := hq135
                      go_wp2_with fail
                      go_meet
                      exact ⟨er, rfl, rfl, HSW⟩
                    · have k3b : (o.k == 3) = false := beq_eq_false_iff_ne.2 k3
                      obtain ⟨o0, o1, o2, o3, o4, o5, ol⟩ := HO2.out
                      go_wp2_with fail
                      refine (clear15_any HB1g.out o.d HO.out.1).mono ?_
                      rintro e w4 ⟨rfl, h4, k4⟩
                      have HK4 := Lib.hid k4
                      have HH4 := Lib.hid h4
                      have ho4 := HO2.out.kp (k4.block xo (.inr ⟨HS.out.2.2.2.2.1, HS.out.2.2.2.2.2⟩)) k4.size
                      have hq74 := HQ7.out.kp (k4.block x7 (.inl HPO.out.2.1)) k4.size
                      have hq134 := HQ13.out.kp (k4.block x13 (.inr ⟨HS.out.1, HS.out.2.1⟩)) k4.size
                      have HR4 := Lib.hid (RefB.kp HR2.out (fun g hg hne => k4.block g (.inl (HPO.out.2.2 g hg hne))) k4.size)
                      have HQ74 := Lib.hid hq74
                      have HQ134 := Lib.hid hq134
                      have HW4 := Lib.hid ((HBE.out.trans (HB2.out.mono HBE.out.size)).trans (k4.below (B := w.heap.size) fun z hz => .inl (HPO.out.1 z hz)))
                      clear h4 k4
                      clear o0 o1 o2 o3 o4 o5 ol
                      obtain ⟨o0, o1, o2, o3, o4, o5, ol⟩ := ho4
                      obtain ⟨p0, p1, p2, pl, -, -, -⟩ := hq74
                      obtain ⟨t0, t1, t2, tl, tf0, tf1, tf2⟩ := hq134
                      obtain ⟨er, her⟩ : ∃ er, er = clE n c o.d := ⟨_, rfl⟩
                      rw [← her]
                      have HRF := Lib.hid (rclear15_any n c a len cap L q o.d w4 HR4.out hlen1000 HRR.out.2.1 HO.out.1)
                      rw [← her] at HRF
                      clear her
                      go_wp2_with fail
                      refine HRF.out.mono ?_
                      rintro e w5 ⟨a', c', L', rfl, hr5, hh5, hl5, b5, hg5⟩
                      obtain ⟨m', hm'⟩ : ∃ m', m' = L'.length := ⟨_, rfl⟩
                      rw [← hm'] at hr5 hl5 ⊢
                      have HB5 := Lib.hid b5
                      have HR5 := Lib.hid (And.intro hr5 (And.intro hh5 (And.intro hl5 hg5)))
                      have hq135 := HQ134.out.below b5
                      have HQ135 := Lib.hid hq135
                      have HQ75 := Lib.hid (HQ74.out.below b5)
                      have HSW : Hid (Swi w (set3 w5 x13 (.int .i64 (n : Int)) (.int .i64 (c : Int)) (.slice a' m' c')) b x7 x13 n c (i + 1) (.slice a len cap)) := Lib.hid (Swi.mk3 (own := fun z => _ ∨ _) (a := a) (L := L) HH4.out b5 (fun z hz => .inl (HPO.out.1 z hz)) (.inl HPO.out.2.1) (.inr ⟨HS.out.1, HS.out.2.1⟩) (by have := HS.out; omega) (by have := HS.out; omega) (fun g hg hne => .inl (HPO.out.2.2 g hg hne)) HQ135.out HQ75.out hr5 hh5 (by have := HRR.out.2.2; omega) hg5 (HW4.out.trans (b5.mono HW4.out.size)) (fun g hg hne => by
                        rcases hg5 with ⟨e1, e2⟩ | e
                        · rw [e1] at hg
                          rw [e2] at hne
                          have := HBB.out.lt g (HPO.out.2.2 g hg hne)
                          have := HS.out
                          omega
                        · have := e g hg
                          have := HH4.out.lt x13 (.inr ⟨HS.out.1, HS.out.2.1⟩)
                          omega))
                      clear hr5 hh5 hl5 hg5 b5 hm' t0 t1 t2 tl tf0 tf1 tf2
                      obtain ⟨t0, t1, t2, tl, tf0, tf1, tf2⟩ := hq135
                      go_wp2_with fail
                      go_meet
                      exact ⟨er, rfl, rfl, HSW⟩
              case rest =>
                obtain ⟨er, rfl, rfl, HSW⟩ := hcut
                have hold := HSW.out.old
                have hlen' : i + 1 ≤ 1000 := by omega
                obtain ⟨a', m', c', L', q', own', hq13, hPl, hQ7, hB, hR, hH, hm⟩ := HSW.out.store HX7W.out
                obtain ⟨p0, p1, p2, pl, -, -, -⟩ := hq13
                obtain ⟨t0, t1, t2, tl, tf0, tf1, tf2⟩ := hold
                go_upto_region 33 with fail
                rename World => wc
                obtain ⟨wd, hwd⟩ : ∃ wd, wd = set3 wc x7 (.int .i64 (n : Int)) (.int .i64 (c : Int)) (.slice a' m' c') := ⟨_, rfl⟩
                have hwd' := hwd
                rw [← hwd] at hPl hQ7 hR hB
                unfold set3 at hwd'
                rw [← hwd']
                have HPL := Lib.hid hPl
                have HQ7d := Lib.hid hQ7
                have HBd := Lib.hid hB
                have HRd := Lib.hid hR
                have HHd := Lib.hid hH
                have hm1000 : m' ≤ 1000 := by omega
                clear hwd hwd' hPl hQ7 hB hR hH p0 p1 p2 pl t0 t1 t2 tl tf0 tf1 tf2
                obtain ⟨t0, t1, t2, tl, -, -, -⟩ := HQ7d.out
                go_upto_region 36 with fail
                go_loopw [16] (fun x wz => ∃ z : Int, x = .int .i64 z ∧ -2 ≤ z ∧ z ≤ 7 ∧ Hid (Below wd.heap.size wd wz)) (fun x _ => (7 - intOf x).toNat)
                case atStart => exact ⟨-2, rfl, by omega, by omega, Lib.hid (Below.refl _ _)⟩
                case round =>
                  rename World => wz
                  obtain ⟨z, rfl, hz1, hz2, HZB⟩ := hrel
                  clear t0 t1 t2 tl
                  by_cases hz7 : z < 7
                  · obtain ⟨l1, hl1⟩ : ∃ l1, l1 = (q' z).length := ⟨_, rfl⟩
                    obtain ⟨l2, hl2⟩ : ∃ l2, l2 = (q' (100 + z)).length := ⟨_, rfl⟩
                    have hkk : IntKind.i64.wrap (100 + z) = 100 + z := IntWalk.i64_in _ (by omega)
                    have hw1 : (Lit.int .i64 z).wf = true := by
                      have h1 : IntKind.i64.min = -9223372036854775808 := rfl
                      have h2 : IntKind.i64.max = 9223372036854775807 := rfl
                      simp [Lit.wf]
                      omega
                    have hw2 : (Lit.int .i64 (100 + z)).wf = true := by
                      have h1 : IntKind.i64.min = -9223372036854775808 := rfl
                      have h2 : IntKind.i64.max = 9223372036854775807 := rfl
                      simp [Lit.wf]
                      omega
                    have HA1 : Hid (∀ w', Below wz.heap.size wz w' → Calls Try.prog 22 #[.pointer (some ⟨b, 0, none⟩), .int .i64 z] w' fun e w'' => e = .returned (.int .i64 (l1 : Int)) ∧ Below w'.heap.size w' w'') := Lib.hid (fun w' hb => by rw [hl1]; exact waits15_any ((HBd.out.below HZB.out).below hb) z hw1)
                    have HA2 : Hid (∀ w', Below wz.heap.size wz w' → Calls Try.prog 22 #[.pointer (some ⟨b, 0, none⟩), .int .i64 (100 + z)] w' fun e w'' => e = .returned (.int .i64 (l2 : Int)) ∧ Below w'.heap.size w' w'') := Lib.hid (fun w' hb => by rw [hl2]; exact waits15_any ((HBd.out.below HZB.out).below hb) (100 + z) hw2)
                    have HA3 : Hid (∀ w', Below wz.heap.size wz w' → Calls Try.prog 23 #[.agg #[.int .i64 (n : Int), .int .i64 (c : Int), .slice a' m' c'], .int .i64 z] w' fun e w'' => e = .returned (.int .i64 (l1 : Int)) ∧ Below w'.heap.size w' w'') := Lib.hid (fun w' hb => by rw [hl1, HHd.out z]; exact rwaits15_any n c a' m' c' L' z w' ((HRd.out.old HZB.out).old hb) hm1000)
                    have HA4 : Hid (∀ w', Below wz.heap.size wz w' → Calls Try.prog 23 #[.agg #[.int .i64 (n : Int), .int .i64 (c : Int), .slice a' m' c'], .int .i64 (100 + z)] w' fun e w'' => e = .returned (.int .i64 (l2 : Int)) ∧ Below w'.heap.size w' w'') := Lib.hid (fun w' hb => by rw [hl2, HHd.out (100 + z)]; exact rwaits15_any n c a' m' c' L' (100 + z) w' ((HRd.out.old HZB.out).old hb) hm1000)
                    obtain ⟨t0, t1, t2, tl, -, -, -⟩ := HQ7d.out.below HZB.out
                    clear hl1 hl2 hw1 hw2
                    go_upto_region 38 with fail
                    refine wp_region_below (by kernel_rfl) (by kernel_rfl) ?_
                    repeat (first
                      | go_big_quiet_skip
                      | (go_big_quiet_want
                         first
                         | (refine BigFrame.quiet_move _ rfl ?_)
                         | (refine BigFrame.quiet_assign _ rfl ?_)
                         | (unfold Oper.quiet
                            apply Exists.intro
                            refine ⟨fun w' hw' => ?_, ?_⟩
                            · (obtain ⟨hc', hf'⟩ := bcell hw'
                               go_simp
                               first
                               | done
                               | exact rfl
                               | (go_at_call 22; (with_reducible refine (HA1.out _ hw').mono ?_); rintro e w'' ⟨rfl, bb⟩; exact ⟨rfl, by first | exact bt hw' bb | simpa using bt hw' bb⟩)
                               | (go_at_call 22; (with_reducible refine (HA2.out _ hw').mono ?_); rintro e w'' ⟨rfl, bb⟩; exact ⟨rfl, by first | exact bt hw' bb | simpa using bt hw' bb⟩)
                               | (go_at_call 23; (with_reducible refine (HA3.out _ hw').mono ?_); rintro e w'' ⟨rfl, bb⟩; exact ⟨rfl, by first | exact bt hw' bb | simpa using bt hw' bb⟩)
                               | (go_at_call 23; (with_reducible refine (HA4.out _ hw').mono ?_); rintro e w'' ⟨rfl, bb⟩; exact ⟨rfl, by first | exact bt hw' bb | simpa using bt hw' bb⟩)))
                         go_big_quiet_on
                         simp only [Act.put, Act.eval, List.setIfInBounds_toArray, List.set_cons_zero, List.set_cons_succ, Array.getD_eq_getD_getElem?, List.getElem?_toArray, List.getElem?_cons_zero, List.getElem?_cons_succ, Option.getD_some]))
                    refine wpQuiet_nil ?_
                    intro w' hw'
                    have HZ2 := Lib.hid (HZB.out.trans (hw'.mono HZB.out.size))
                    clear hw'
                    go_wp2_with fail
                    go_roundw
                    case rel => exact ⟨z + 1, by go_num, by omega, by omega, HZ2⟩
                    case measure => simp [intOf]; omega
                  · obtain rfl : z = 7 := by omega
                    go_wp2_with fail
                    have HPZ := Lib.hid (HPL.out.below HZB.out)
                    go_roundw
                    case rel => exact ⟨i + 1, by go_num, by omega, by omega, HPZ⟩
                    case measure => simp [intOf]; omega
          · have hs1 : (1024 : Int) < (o.l.tx.size : Int) := by omega
            have hs2 : (o.l.tx.size : Int) ≤ 262144 := by omega
            go_wp2_with fail
            refine (awake15_any _).mono ?_
            rintro e w4 ⟨rfl, hb4⟩
            have HB4 := Lib.hid ((HP.out.be.trans (HBo.out.mono HP.out.be.size)).trans (hb4.mono (by have := HP.out.be.size; have := HBo.out.size; omega)))
            clear hb4
            go_wp2_with fail
            go_ret
            exact ⟨rfl, HB4.out⟩
        · have hki2 : ¬ (i : Int) < 150 := by omega
          go_wp2_with fail
          refine (awake15_any _).mono ?_
          rintro e w4 ⟨rfl, hb4⟩
          have HB4 := Lib.hid (HP.out.be.trans (hb4.mono HP.out.be.size))
          clear hb4
          go_wp2_with fail
          go_ret
          exact ⟨rfl, HB4.out⟩
      · have hki : ¬ (i : Int) < (N : Int) := by omega
        go_wp2_with fail
        refine (awake15_any _).mono ?_
        rintro e w4 ⟨rfl, hb4⟩
        have HB4 := Lib.hid (HP.out.be.trans (hb4.mono HP.out.be.size))
        clear hb4
        go_wp2_with fail
        go_ret
        exact ⟨rfl, HB4.out⟩
  · rw [hE] at HRN
    clear hE
    go_wp2_with fail
    refine HRN.out.mono ?_
    rintro e w3 ⟨⟨X, Y, rfl, -⟩, hb3⟩
    have HB3 := Lib.hid hb3
    clear hb3 d0 d1 dl HRN
    go_wp2_with fail
    refine (awake15_any _).mono ?_
    rintro e w4 ⟨rfl, hb4⟩
    have HB4 := Lib.hid (((HB1.out.trans (HB2.out.mono HB1.out.size)).trans (HB3.out.mono (by have := HB1.out.size; have := HB2.out.size; omega))).trans (((Below.refl w3.heap.size w3).alloc (Nat.le_refl _) _ |>.trans (hb4.mono (by simp))).mono (by have := HB1.out.size; have := HB2.out.size; have := HB3.out.size; omega)))
    clear hb4
    go_wp2_with fail
    go_ret
    exact ⟨rfl, HB4.out⟩
end Go.Proofs.Ytkljokmhfoannaa
