/-
  Layer 7 (sorted): the law's filled: a map of keys, each with its place, and the document's own beside it. Conditions: up to 100 keys, each of up to 512 bytes.
-/
import Derived.Test.YteolhbcmffbdlaaOn
import Derived.Test.YteolhbcmffbdlaaOh
import Derived.Deep.RegionHeld3
import Derived.Deep.DeepCutAuto
namespace Go.Proofs.Yteolhbcmffbdlaa
open Go.RowKit
set_option linter.unusedVariables false
set_option linter.unusedSimpArgs false

def fillI (ts : List Ky) : List (Ky × Int) := fill (fun i _ => (i : Int)) ts
theorem fillI_snoc (ts : List Ky) (t : Ky) : fillI (ts ++ [t]) = putA t (ts.length : Int) (fillI ts) := fill_snoc _ _ _
theorem rd_at2 {w wr : World} {a : Option Addr} {ts : List Ky} (h : Rd w a ts) (hb : Below w.heap.size w wr) {k : Nat} (hk : k < ts.length) : ∃ b off, a = some ⟨b, off, none⟩ ∧ b < wr.heap.size ∧ wr.cell? ⟨b, off + k, none⟩ = some (.string ⟨ts[k].toArray⟩) ∧ b < w.heap.size ∧ w.cell? ⟨b, off + k, none⟩ = some (.string ⟨ts[k].toArray⟩) := by
  rcases h with rfl | ⟨b, off, rfl, hlt, hc⟩
  · cases hk
  · exact ⟨b, off, rfl, Nat.lt_of_lt_of_le hlt hb.size, (hb.cell (p := ⟨b, off + k, none⟩) hlt).trans (hc k hk), hlt, hc k hk⟩
/-- A map of the document's in a box of its own: from a block on, where it may be written. -/
def QBox (w : World) (g : Nat) (l : List (Ky × Int)) : Prop := ∃ v1 v2, w.cell? ⟨g, 0, none⟩ = some v1 ∧ w.cell? ⟨g, 1, none⟩ = some v2 ∧ w.frozen? ⟨g, 0, none⟩ = false ∧ w.frozen? ⟨g, 1, none⟩ = false ∧ g < w.heap.size ∧ RefB (g + 1) w (.agg #[v1, v2]) l
theorem RefB.old {base : Nat} {w w' : World} {q : Value} {l : List (Ky × Int)} (h : RefB base w q l) (hb : Below w.heap.size w w') : RefB base w' q l := by
  obtain ⟨a, c, va, vc, rfl, h1, h2, h3⟩ := h
  exact ⟨a, c, va, vc, rfl, ⟨h1.1.old hb, h1.2⟩, ⟨h2.1.old hb, h2.2⟩, h3⟩
theorem RefB.lower {base base' : Nat} {w : World} {q : Value} {l : List (Ky × Int)} (h : RefB base w q l) (hb : base' ≤ base) : RefB base' w q l := by
  obtain ⟨a, c, va, vc, rfl, h1, h2, h3⟩ := h
  exact ⟨a, c, va, vc, rfl, ⟨h1.1, fun y hy => Nat.le_trans hb (h1.2 y hy)⟩, ⟨h2.1, fun y hy => Nat.le_trans hb (h2.2 y hy)⟩, h3⟩
theorem QBox.old {w w' : World} {g : Nat} {l : List (Ky × Int)} (h : QBox w g l) (hb : Below w.heap.size w w') : QBox w' g l := by
  obtain ⟨v1, v2, h1, h2, h3, h4, h5, h6⟩ := h
  exact ⟨v1, v2, (hb.cell (p := ⟨g, 0, none⟩) h5).trans h1, (hb.cell (p := ⟨g, 1, none⟩) h5).trans h2, (hb.frozen (p := ⟨g, 0, none⟩) h5).trans h3, (hb.frozen (p := ⟨g, 1, none⟩) h5).trans h4, Nat.lt_of_lt_of_le h5 hb.size, h6.old hb⟩
theorem keep_q {a b : World} {g i j g' o : Nat} {u v x : Value} (h : a.cell? ⟨g, i, none⟩ = some u ∧ a.cell? ⟨g, j, none⟩ = some v ∧ a.cell? ⟨g', o, none⟩ = some x) (hb : Below a.heap.size a b) :
    b.cell? ⟨g, i, none⟩ = some u ∧ b.cell? ⟨g, j, none⟩ = some v ∧ b.cell? ⟨g', o, none⟩ = some x :=
  ⟨(hb.cell (p := ⟨g, i, none⟩) (cell_lt h.1)).trans h.1, (hb.cell (p := ⟨g, j, none⟩) (cell_lt h.2.1)).trans h.2.1, (hb.cell (p := ⟨g', o, none⟩) (cell_lt h.2.2)).trans h.2.2⟩
theorem q_none {w w' : World} (h : Below w.drew.heap.size w.drew w') : Below w.heap.size w w' ∧ w.heap.size ≤ w'.heap.size := ⟨((Below.refl _ w).drew).trans h, h.size⟩
theorem q_one {w w' : World} {x y : Value} {t : TypeId} (h : Below (w.alloc (.cells #[x, y] t)).drew.heap.size (w.alloc (.cells #[x, y] t)).drew w') :
    Below w.heap.size w w' ∧ w.heap.size < w'.heap.size ∧ w'.cell? ⟨w.heap.size, 0, none⟩ = some x ∧ w'.cell? ⟨w.heap.size, 1, none⟩ = some y ∧ w'.frozen? ⟨w.heap.size, 0, none⟩ = false ∧ w'.frozen? ⟨w.heap.size, 1, none⟩ = false := by
  have hs : (w.alloc (.cells #[x, y] t)).drew.heap.size = w.heap.size + 1 := by show (w.alloc _).heap.size = _; simp
  have hz := h.size
  rw [hs] at h hz
  have hB : Below w.heap.size w w' := (((Below.refl _ w).alloc (Nat.le_refl _) (.cells #[x, y] t)).drew).trans (h.mono (by omega))
  refine ⟨hB, by omega, ?_, ?_, ?_, ?_⟩
  · rw [h.cell (p := ⟨w.heap.size, 0, none⟩) (by show w.heap.size < _; omega)]; show (w.alloc _).cell? _ = _; simp
  · rw [h.cell (p := ⟨w.heap.size, 1, none⟩) (by show w.heap.size < _; omega)]; show (w.alloc _).cell? _ = _; simp
  · rw [h.frozen (p := ⟨w.heap.size, 0, none⟩) (by show w.heap.size < _; omega)]; show (w.alloc _).frozen? _ = _; simp [go_sem]
  · rw [h.frozen (p := ⟨w.heap.size, 1, none⟩) (by show w.heap.size < _; omega)]; show (w.alloc _).frozen? _ = _; simp [go_sem]
/-- A value of the document's in a box. -/
def QIn (w : World) (base g : Nat) (l : List (Ky × Int)) : Prop := ∃ a c va vc, w.cell? ⟨g, 0, none⟩ = some (.slice a l.length c) ∧ w.cell? ⟨g, 1, none⟩ = some (.slice va l.length vc) ∧ g < w.heap.size ∧ RefB base w (.agg #[.slice a l.length c, .slice va l.length vc]) l
theorem QIn.old {w w' : World} {base g : Nat} {l : List (Ky × Int)} (h : QIn w base g l) (hb : Below w.heap.size w w') : QIn w' base g l := by
  obtain ⟨a, c, va, vc, h1, h2, h3, h4⟩ := h
  exact ⟨a, c, va, vc, (hb.cell (p := ⟨g, 0, none⟩) h3).trans h1, (hb.cell (p := ⟨g, 1, none⟩) h3).trans h2, Nat.lt_of_lt_of_le h3 hb.size, h4.old hb⟩
theorem MapAt.km {w w' : World} {m g : Nat} {l : List (Ky × Int)} (h : TI.MapAt w m l) (hk : TI.Km g w w') (hne : m ≠ g) (hg : w.cell? ⟨g, 4, none⟩ = none) : TI.MapAt w' m l := by
  have hm := h.lt
  obtain ⟨p, t, h1, h2, h3⟩ := h
  exact ⟨p, t, (hk.block m hm hne).trans h1, h2.same hk.size hk.block hg, h3⟩
theorem RefB.km {base m : Nat} {w w' : World} {q : Value} {l : List (Ky × Int)} (h : RefB base w q l) (hk : TI.Km m w w') (hm : m < base) : RefB base w' q l := by
  obtain ⟨a, c, va, vc, rfl, ⟨h1, h1b⟩, ⟨h2, h2b⟩, h3⟩ := h
  refine ⟨a, c, va, vc, rfl, ⟨?_, h1b⟩, ⟨?_, h2b⟩, h3⟩
  · rcases h1 with h | ⟨b, off, rfl, hlt, hc⟩
    · exact .inl h
    · have := h1b _ rfl
      simp only at this
      exact .inr ⟨b, off, rfl, Nat.lt_of_lt_of_le hlt hk.size, fun j hj => (World.cell?_of_block (w := w) (hk.block b hlt (by omega))).trans (hc j hj)⟩
  · rcases h2 with h | ⟨b, off, rfl, hlt, hc⟩
    · exact .inl h
    · have := h2b _ rfl
      simp only at this
      exact .inr ⟨b, off, rfl, Nat.lt_of_lt_of_le hlt hk.size, fun j hj => (World.cell?_of_block (w := w) (hk.block b hlt (by omega))).trans (hc j hj)⟩
theorem QIn.km {w w' : World} {base m g : Nat} {l : List (Ky × Int)} (h : QIn w base g l) (hk : TI.Km m w w') (hm : m < base) (hne : g ≠ m) : QIn w' base g l := by
  obtain ⟨a, c, va, vc, h1, h2, h3, h4⟩ := h
  have hc := fun i => World.cell?_of_block (w := w) (w' := w') (a := ⟨g, i, none⟩) (hk.block g h3 hne)
  exact ⟨a, c, va, vc, (hc 0).trans h1, (hc 1).trans h2, Nat.lt_of_lt_of_le h3 hk.size, h4.km hk hm⟩
theorem frozen_km {w w' : World} {m g : Nat} (h : w.frozen? ⟨g, 0, none⟩ = false ∧ w.frozen? ⟨g, 1, none⟩ = false ∧ w.cell? ⟨g, 4, none⟩ = none) (hg : g < w.heap.size) (hk : TI.Km m w w') (hne : g ≠ m) : w'.frozen? ⟨g, 0, none⟩ = false ∧ w'.frozen? ⟨g, 1, none⟩ = false ∧ w'.cell? ⟨g, 4, none⟩ = none := by
  have hb := hk.block g hg hne
  exact ⟨(World.frozen?_of_block (w := w) (a := ⟨g, 0, none⟩) hb).trans h.1, (World.frozen?_of_block (w := w) (a := ⟨g, 1, none⟩) hb).trans h.2.1, (World.cell?_of_block (w := w) (a := ⟨g, 4, none⟩) hb).trans h.2.2⟩
/-- A box for the result, empty as yet. -/
def ResB (w : World) (g : Nat) : Prop := (w.cell? ⟨g, 0, none⟩ = some (.slice none 0 0) ∧ w.cell? ⟨g, 1, none⟩ = some (.slice none 0 0)) ∧ w.frozen? ⟨g, 0, none⟩ = false ∧ w.frozen? ⟨g, 1, none⟩ = false ∧ w.cell? ⟨g, 4, none⟩ = none
theorem ResB.km {w w' : World} {m g : Nat} (h : ResB w g) (hk : TI.Km m w w') (hne : g ≠ m) : ResB w' g := by
  have hg : g < w.heap.size := cell_lt h.1.1
  have hb := hk.block g hg hne
  exact ⟨⟨(World.cell?_of_block (w := w) (a := ⟨g, 0, none⟩) hb).trans h.1.1, (World.cell?_of_block (w := w) (a := ⟨g, 1, none⟩) hb).trans h.1.2⟩, (World.frozen?_of_block (w := w) (a := ⟨g, 0, none⟩) hb).trans h.2.1, (World.frozen?_of_block (w := w) (a := ⟨g, 1, none⟩) hb).trans h.2.2.1, (World.cell?_of_block (w := w) (a := ⟨g, 4, none⟩) hb).trans h.2.2.2⟩
/-- The loop of filled. -/
def FiI (w : World) (m g : Nat) (ts : List Ky) (i : Value) (wr : World) : Prop := ∃ k : Nat, i = .int .i64 k ∧ k ≤ ts.length ∧ TI.MapAt wr m (fillI (ts.take k)) ∧ QIn wr (g + 1) g (fillI (ts.take k)) ∧ ResB wr w.heap.size ∧ (wr.frozen? ⟨g, 0, none⟩ = false ∧ wr.frozen? ⟨g, 1, none⟩ = false ∧ wr.cell? ⟨g, 4, none⟩ = none) ∧ Below w.heap.size w wr
set_option maxRecDepth 100000 in
set_option maxHeartbeats 4000000 in
theorem filled_any (a : Option Addr) (cap : Nat) (ts : List Ky) (w : World) (hr : Rd w a ts) (hc : ts.length ≤ cap) (hl : ts.length ≤ 100) (hk : ∀ t ∈ ts, t.length ≤ 512) :
    Calls Try.prog 21 #[.slice a ts.length cap] w fun e w' => ∃ m q, e = .returned (.tuple #[.pointer (some ⟨m, 0, none⟩), q, .bool true]) ∧ w.heap.size ≤ m ∧ TI.MapAt w' m (fillI ts) ∧ RefV w' q (fillI ts) ∧ Below w.heap.size w w' := by
  have HR := Lib.hid hr
  have HK := Lib.hid hk
  obtain ⟨n, hn⟩ : ∃ n, n = ts.length := ⟨_, rfl⟩
  rw [← hn] at hc hl ⊢
  have HN := Lib.hid hn
  clear hr hn hk
  go_enter Try.func21, Try.ntmps21
  go_wp2_with fail
  refine (TI.new_any _).mono ?_
  rintro e w1 ⟨rfl, b1, m1⟩
  have B1 := Lib.hid (bt ((Below.refl w.heap.size w).alloc (Nat.le_refl _) (.cells #[.slice none 0 0, .slice none 0 0] 28)) b1)
  have hms : (w.alloc (.cells #[.slice none 0 0, .slice none 0 0] 28)).heap.size = w.heap.size + 1 := by simp
  rw [hms] at m1
  have hgb : w.heap.size + 1 < w1.heap.size := m1.lt
  have rb := b1
  clear hms
  have M1 := Lib.hid m1
  have hfr0 : w1.cell? ⟨w.heap.size, 0, none⟩ = some (.slice none 0 0) ∧ w1.cell? ⟨w.heap.size, 1, none⟩ = some (.slice none 0 0) := ⟨(rb.cell (p := ⟨w.heap.size, 0, none⟩) (by simp)).trans (by simp), (rb.cell (p := ⟨w.heap.size, 1, none⟩) (by simp)).trans (by simp)⟩
  have hfr1 : w1.frozen? ⟨w.heap.size, 0, none⟩ = false ∧ w1.frozen? ⟨w.heap.size, 1, none⟩ = false ∧ w1.cell? ⟨w.heap.size, 4, none⟩ = none := ⟨(rb.frozen (p := ⟨w.heap.size, 0, none⟩) (by simp)).trans (by simp [go_sem]), (rb.frozen (p := ⟨w.heap.size, 1, none⟩) (by simp)).trans (by simp [go_sem]), (rb.cell (p := ⟨w.heap.size, 4, none⟩) (by simp)).trans (by simp)⟩
  clear b1 m1 rb
  go_wp2_with fail
  obtain ⟨W2, hW2⟩ : ∃ W2, W2 = w1.alloc (.cells #[.slice none 0 0, .slice none 0 0] 28) := ⟨_, rfl⟩
  rw [← hW2]
  have hB2 : Below w1.heap.size w1 W2 := by rw [hW2]; exact (Below.refl _ _).alloc (Nat.le_refl _) _
  have hst : FiI w (w.heap.size + 1) w1.heap.size ts (.int .i64 (0 : Nat)) W2 := by
    refine ⟨0, rfl, Nat.zero_le _, M1.out.below hB2, ⟨none, 0, none, 0, by rw [hW2]; simp; rfl, by rw [hW2]; simp; rfl, by rw [hW2]; simp, ⟨none, 0, none, 0, rfl, ⟨.inl rfl, fun _ h => by cases h⟩, ⟨.inl rfl, fun _ h => by cases h⟩, Nat.le_refl _, Nat.le_refl _, Nat.zero_le _, Nat.zero_le _⟩⟩, ResB.km (m := w1.heap.size) ⟨hfr0, hfr1⟩ (TI.Km.of hB2) (by omega), ⟨by rw [hW2]; simp [go_sem], by rw [hW2]; simp [go_sem], by rw [hW2]; simp⟩, B1.out.trans (hB2.mono B1.out.size)⟩
  have HST := Lib.hid hst
  clear hst hB2 hW2
  obtain ⟨g, hg⟩ : ∃ g, g = w1.heap.size := ⟨_, rfl⟩
  rw [← hg] at HST ⊢
  have HGM : Hid (w.heap.size + 1 < g) := Lib.hid (by rw [hg]; exact hgb)
  have HF0 := Lib.hid hfr0
  have HF1 := Lib.hid hfr1
  clear hg hgb hfr0 hfr1
  go_loopw [7, 8, 9] (fun i _ _ wr => FiI w (w.heap.size + 1) g ts i wr) (fun i _ _ _ => n - (intOf i).toNat)
  case atStart => exact HST.out
  case round =>
    obtain ⟨k, rfl, hkn, mw, qw, zw, fw, bw⟩ := hrel
    have ZW := Lib.hid zw
    have BW := Lib.hid bw
    have MW := Lib.hid mw
    have QW := Lib.hid qw
    have FW := Lib.hid fw
    clear bw mw qw fw zw
    by_cases hlt : k < n
    · have hkl : k < ts.length := by rw [← HN.out]; exact hlt
      obtain ⟨b, off, rfl, hbl, c0, hbw, cw⟩ := rd_at2 HR.out BW.out hkl
      obtain ⟨x, hx⟩ : ∃ x, x = ts[k] := ⟨_, rfl⟩
      rw [← hx] at c0 cw
      have HX := Lib.hid hx
      have hxl : x.length ≤ 512 := HK.out x (by rw [hx]; exact List.getElem_mem _)
      have HXL := Lib.hid hxl
      have HBW := Lib.hid hbw
      have CW := Lib.hid cw
      have hlen : (fillI (ts.take k)).length ≤ 100 := by
        have := fill_len (fun i _ => (i : Int)) (ts.take k)
        rw [List.length_take] at this
        unfold fillI
        omega
      have HLEN := Lib.hid hlen
      have hf2 : putA x (k : Int) (fillI (ts.take k)) = fillI (ts.take (k + 1)) := by
        rw [take_snoc hkl, fillI_snoc, List.length_take, Nat.min_eq_left (by omega), ← HX.out]
      have HF2 := Lib.hid hf2
      clear hx hbw cw hxl hlen hf2
      go_wp2_with fail
      refine (TI.put_map MW.out x (by have := HXL.out; omega) (k : Int) (by have := HLEN.out; omega)).mono ?_
      rintro e w3 ⟨rfl, k3, m3⟩
      rw [HF2.out] at m3
      have hgm := HGM.out
      have hgl : g < wr.heap.size := by obtain ⟨_, _, _, _, _, _, h, _⟩ := QW.out; exact h
      have BW3 := Lib.hid (BW.out.trans (k3.below (B := w.heap.size) (by omega) BW.out.size))
      have M3 := Lib.hid m3
      have Q3 := Lib.hid (QW.out.km k3 (by omega) (by omega))
      have F3 := Lib.hid (frozen_km FW.out hgl k3 (by omega))
      have Z3 := Lib.hid (ZW.out.km k3 (by omega))
      have hs3 : wr.heap.size ≤ w3.heap.size := k3.size
      have hg3 : g < w3.heap.size := by omega
      clear k3 m3 hgm
      obtain ⟨qa, qc, qva, qvc, q0, q1, -, q3⟩ := Q3.out
      obtain ⟨bq, hbq⟩ : ∃ bq, bq = (getA x (fillI (ts.take k))).isSome := ⟨_, rfl⟩
      have HP : Hid (∀ W : World, Below w3.heap.size w3 W → Calls Try.prog 10 #[.agg #[.slice qa (fillI (ts.take k)).length qc, .slice qva (fillI (ts.take k)).length qvc], .string ⟨x.toArray⟩, .int .i64 (k : Int)] W (RefRB W (fillI (ts.take (k + 1))) bq)) := Lib.hid (fun W hW => by
        have h := rput_base (q3.ref.old hW) (rise_fill _ _) (by have := HLEN.out; omega) x (k : Int)
        rw [HF2.out, ← hbq] at h
        exact h)
      obtain ⟨ln, hln⟩ : ∃ ln, ln = (fillI (ts.take k)).length := ⟨_, rfl⟩
      rw [← hln] at q0 q1 HP
      clear q3 hbq hln
      have c3 := (BW3.out.cell (p := ⟨b, off + k, none⟩) HBW.out).trans CW.out
      have hb3 : b < w3.heap.size := Nat.lt_of_lt_of_le HBW.out BW3.out.size
      clear c0 hbl
      have HSS := Lib.hid (And.intro q0 (And.intro q1 c3))
      clear hs3
      go_upto_region 7 with fail
      go_cut [8, 9] (fun s8 s9 wx => ∃ g8, s8 = .pointer (some ⟨g8, 0, none⟩) ∧ w3.heap.size ≤ g8 ∧ Below w3.heap.size w3 wx ∧ QIn wx (g + 1) g8 (fillI (ts.take (k + 1))))
      case first =>
        go_region_held3 (fun w' => w'.cell? ⟨g, 0, none⟩ = some (.slice qa ln qc) ∧ w'.cell? ⟨g, 1, none⟩ = some (.slice qva ln qvc) ∧ w'.cell? ⟨b, off + k, none⟩ = some (.string ⟨x.toArray⟩))
          (first
            | assumption
            | (refine keep_q HSS.out ?_
               repeat (first | assumption | exact Below.refl _ _ | (refine Below.alloc ?_ ?_ _) | (refine Below.setCell ?_ ?_ _) | (refine Below.drew ?_))
               all_goals (first | omega | (simp; done) | (simp; omega))))
          (first
            | (go_at_call 10; refine (HP.out _ ((((Below.refl _ _).alloc (Nat.le_refl _) _)).drew)).mono ?_; rintro e w4 ⟨q4, rfl, v4, bb⟩; have hq := q_one bb; obtain ⟨hB', hq1, z0, z1, z2, z3⟩ := hq; have V4 := Lib.hid v4; have S4 := Lib.hid bb.size; obtain ⟨ra, rc, rva, rvc, rfl, -⟩ := v4)
            | (go_at_call 10; refine (HP.out _ ((Below.refl _ _).drew)).mono ?_; rintro e w4 ⟨q4, rfl, v4, bb⟩; have hq := q_none bb; obtain ⟨hB', hq1⟩ := hq; have V4 := Lib.hid v4; have S4 := Lib.hid bb.size; obtain ⟨ra, rc, rva, rvc, rfl, -⟩ := v4))
        all_goals
          go_wp2_with fail
          go_meet
          refine ⟨_, rfl, ?_, ?_, ra, rc, rva, rvc, ?_, ?_, ?_, ?_⟩
          · first | exact hB'.size | exact Nat.le_refl _
          · repeat (first | assumption | exact Below.refl _ _ | (refine Below.alloc ?_ ?_ _) | (refine Below.setCell ?_ ?_ _) | (refine Below.drew ?_))
            all_goals (first | omega | (simp; done) | (simp; omega))
          · simp [go_sem, *]
          · simp [go_sem, *]
          · first | (simp; done) | (simp [World.setCell]; omega)
          · first
              | exact (V4.out.old ((Below.refl _ _).alloc (Nat.le_refl _) _)).low (by show g + 1 ≤ w3.heap.size; omega)
              | exact ((V4.out.set (g := w3.heap.size) (i := 0) (by show w3.heap.size < (w3.alloc _).heap.size; simp) _).set (g := w3.heap.size) (i := 1) (by show w3.heap.size < (w3.alloc _).heap.size; simp) _).low (by show g + 1 ≤ (w3.alloc _).heap.size; simp; omega)
      case rest =>
        obtain ⟨g8, rfl, hg8, hbx, q8⟩ := hcut
        have Q8 := Lib.hid q8
        obtain ⟨ya, yc, yva, yvc, e0, e1, e2, e3⟩ := q8
        have F8 := Lib.hid (show wc.frozen? ⟨g, 0, none⟩ = false ∧ wc.frozen? ⟨g, 1, none⟩ = false ∧ wc.cell? ⟨g, 4, none⟩ = none from ⟨(hbx.frozen (p := ⟨g, 0, none⟩) hg3).trans F3.out.1, (hbx.frozen (p := ⟨g, 1, none⟩) hg3).trans F3.out.2.1, (hbx.cell (p := ⟨g, 4, none⟩) hg3).trans F3.out.2.2⟩)
        have f80 := F8.out.1
        have f81 := F8.out.2.1
        have z80 := (hbx.cell (p := ⟨g, 0, none⟩) hg3).trans q0
        have z81 := (hbx.cell (p := ⟨g, 1, none⟩) hg3).trans q1
        have hg9 : g < wc.heap.size := Nat.lt_of_lt_of_le hg3 hbx.size
        have B8 := Lib.hid (BW3.out.trans (hbx.mono BW3.out.size))
        have M8 := Lib.hid (M3.out.below hbx)
        have Z8 := Lib.hid (Z3.out.km (TI.Km.of (m := g) hbx) (by have := HGM.out; omega))
        have E3 := Lib.hid e3
        obtain ⟨ln2, hln2⟩ : ∃ ln2, ln2 = (fillI (ts.take (k + 1))).length := ⟨_, rfl⟩
        rw [← hln2] at e0 e1 E3
        have HLN2 := Lib.hid hln2
        clear hbx e3 q0 q1 c3 hb3 hg3 HP HSS hln2
        go_wp2_with fail
        have hgm := HGM.out
        have hk : TI.Km g wc ((wc.setCell ⟨g, 0, none⟩ (.slice ya ln2 yc)).setCell ⟨g, 1, none⟩ (.slice yva ln2 yvc)) := (TI.Km.set _).trans (TI.Km.set _)
        have d0 : ((wc.setCell ⟨g, 0, none⟩ (.slice ya ln2 yc)).setCell ⟨g, 1, none⟩ (.slice yva ln2 yvc)).cell? ⟨g, 0, none⟩ = some (.slice ya ln2 yc) := by
          rw [World.cell?_setCell_other _ _ _ _ (by intro e; simp at e)]
          exact World.cell?_setCell_same' _ _ _ (by rw [z80]; rfl)
        have d1 : ((wc.setCell ⟨g, 0, none⟩ (.slice ya ln2 yc)).setCell ⟨g, 1, none⟩ (.slice yva ln2 yvc)).cell? ⟨g, 1, none⟩ = some (.slice yva ln2 yvc) := by
          refine World.cell?_setCell_same' _ _ _ ?_
          rw [World.cell?_setCell_other _ _ _ _ (by intro e; simp at e), z81]; rfl
        have d4 : ((wc.setCell ⟨g, 0, none⟩ (.slice ya ln2 yc)).setCell ⟨g, 1, none⟩ (.slice yva ln2 yvc)).cell? ⟨g, 4, none⟩ = none := by
          rw [World.cell?_setCell_other _ _ _ _ (by intro e; simp at e), World.cell?_setCell_other _ _ _ _ (by intro e; simp at e)]
          exact F8.out.2.2
        have Z9 := Lib.hid (Z8.out.km hk (by omega))
        have M9 := Lib.hid (MapAt.km M8.out hk (by omega) F8.out.2.2)
        have R9 := Lib.hid ((E3.out.set (g := g) (i := 0) (by omega) (.slice ya ln2 yc)).set (g := g) (i := 1) (by omega) (.slice yva ln2 yvc))
        have B9 := Lib.hid ((B8.out.setCell (p := ⟨g, 0, none⟩) (by show w.heap.size ≤ g; omega) (.slice ya ln2 yc)).setCell (p := ⟨g, 1, none⟩) (by show w.heap.size ≤ g; omega) (.slice yva ln2 yvc))
        go_roundw
        case rel =>
          refine ⟨k + 1, by go_num, hkl, M9.out, ⟨ya, yc, yva, yvc, ?_, ?_, by simpa [World.setCell] using hg9, ?_⟩, Z9.out, ⟨by rw [World.frozen?_setCell, World.frozen?_setCell]; exact f80, by rw [World.frozen?_setCell, World.frozen?_setCell]; exact f81, d4⟩, B9.out⟩
          · rw [← HLN2.out]; exact d0
          · rw [← HLN2.out]; exact d1
          · rw [← HLN2.out]; exact R9.out
        case measure => simp [intOf]; omega
    · obtain rfl : k = n := by have := HN.out; omega
      have ht : ts.take k = ts := List.take_of_length_le (by rw [HN.out]; exact Nat.le_refl _)
      rw [ht] at MW QW
      clear ht
      obtain ⟨qa, qc, qva, qvc, q0, q1, hgs, q3⟩ := QW.out
      have hgm := HGM.out
      have hgs2 : w.heap.size < wr.heap.size := by omega
      obtain ⟨⟨r0, r1⟩, r2, r3, r4⟩ := ZW.out
      have HQ3 := Lib.hid q3
      obtain ⟨ln, hln⟩ : ∃ ln, ln = (fillI ts).length := ⟨_, rfl⟩
      rw [← hln] at q0 q1 HQ3
      have HLN := Lib.hid hln
      clear q3 hln hgm
      go_wp2_with fail
      have R4 := Lib.hid r4
      clear r4
      go_region
      go_wp2_with fail
      have hk : TI.Km w.heap.size wr ((wr.setCell ⟨w.heap.size, 0, none⟩ (.slice qa ln qc)).setCell ⟨w.heap.size, 1, none⟩ (.slice qva ln qvc)).drew := ((TI.Km.set _).trans (TI.Km.set _)).drew
      have d0 : ((wr.setCell ⟨w.heap.size, 0, none⟩ (.slice qa ln qc)).setCell ⟨w.heap.size, 1, none⟩ (.slice qva ln qvc)).drew.cell? ⟨w.heap.size, 0, none⟩ = some (.slice qa ln qc) := by
        show ((wr.setCell _ _).setCell _ _).cell? _ = _
        rw [World.cell?_setCell_other _ _ _ _ (by intro e; simp at e)]
        exact World.cell?_setCell_same' _ _ _ (by rw [r0]; rfl)
      have d1 : ((wr.setCell ⟨w.heap.size, 0, none⟩ (.slice qa ln qc)).setCell ⟨w.heap.size, 1, none⟩ (.slice qva ln qvc)).drew.cell? ⟨w.heap.size, 1, none⟩ = some (.slice qva ln qvc) := by
        show ((wr.setCell _ _).setCell _ _).cell? _ = _
        refine World.cell?_setCell_same' _ _ _ ?_
        rw [World.cell?_setCell_other _ _ _ _ (by intro e; simp at e), r1]; rfl
      have M9 := MapAt.km MW.out hk (by omega) R4.out
      have hgm := HGM.out
      have R9 := (HQ3.out.km hk (by omega)).ref
      have B9 := hk.below (B := w.heap.size) (Nat.le_refl _) (by omega)
      refine bodyPost_ret (v := .tuple #[.pointer (some ⟨w.heap.size + 1, 0, none⟩), .agg #[.slice qa ln qc, .slice qva ln qvc], .bool true]) (by simp [results, Try.f21, go_sem, d0, d1]) rfl ?_
      exact ⟨_, _, rfl, by omega, M9, R9, BW.out.trans (B9.mono (Nat.le_refl _))⟩
end Go.Proofs.Yteolhbcmffbdlaa
