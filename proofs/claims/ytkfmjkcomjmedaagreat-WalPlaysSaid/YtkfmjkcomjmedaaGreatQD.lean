/-
  Texts of mine as one, in the order in which they build: Xa, Xb, Xc, Xd, Xe, Xg, Xh. Conditions: as each says.
-/
import Derived.Test.YtkfmjkcomjmedaaGreatQC
import Derived.Test.YtkfmjkcomjmedaaGreatQG
import Derived.Test.YtkfmjkcomjmedaaGreatQI
import Derived.Test.YtkfmjkcomjmedaaGreatQB
import Derived.Test.YtkfmjkcomjmedaaGreatLa
import Derived.Deep.RegionWith
namespace Go.Proofs.YtkfmjkcomjmedaaGreat
open Go.RowKit
set_option linter.unusedVariables false
set_option linter.unusedSimpArgs false

/-- A block of files of the document's. -/
def TF (w : World) (b : Nat) : Prop := ∃ cs fz, w.heap[b]? = some (.cells cs 82 fz)
theorem TF.lt {w : World} {b : Nat} (h : TF w b) : b < w.heap.size := by obtain ⟨cs, fz, h⟩ := h; exact heap_lt h
theorem Dsk.typed {own : Nat → Prop} {w : World} {d m : Nat} {G : List (List UInt8 × Gf)} {fuse : Int} {off : Bool} (h : Dsk own w d m G fuse off) : Dsk (fun b => own b ∨ TF w b) w d m G fuse off := by
  refine ⟨h.db, h.mp, h.srt, h.file, h.blk, h.row, h.len, h.fz, fun b hb => ?_⟩
  rcases hb with hb | ⟨cs, fz, hb⟩
  · exact h.own b hb
  · refine ⟨heap_lt hb, ?_, ?_, fun p hp => ⟨?_, ?_⟩⟩
    · rintro rfl
      rw [h.db] at hb; cases hb
    · rintro rfl
      obtain ⟨es, c, e⟩ := h.m_obj
      rw [e] at hb; cases hb
    · rintro rfl
      obtain ⟨v, e, -⟩ := h.file p hp
      rw [e] at hb; cases hb
    · intro e
      obtain ⟨cur, f2, e2⟩ := (h.file p hp).rowAt e
      rw [e2] at hb; cases hb
theorem DiskAt.typed {own : Nat → Prop} {w : World} {d : Nat} {S : Ds} (h : DiskAt own w d S) : DiskAt (fun b => own b ∨ TF w b) w d S := by
  obtain ⟨m, G, h1, h2⟩ := h
  exact ⟨m, G, h1.typed, h2⟩
theorem WalAt.typed {own : Nat → Prop} {w : World} {l d : Nat} {S : Ds} {L : Lt} (h : WalAt own w l d S L) : WalAt (fun b => own b ∨ TF w b) w l d S L := by
  obtain ⟨lo, pv, G, hd, hl, hL, hn⟩ := h
  refine ⟨fun b => lo b ∧ ¬ TF w b, pv, G, hd.typed.weaken ?_, ⟨hl.lb, hl.pa, ⟨hl.ll, ?_⟩, fun r hr => ⟨hl.lp r hr, ?_⟩, fun g hg r hr => ⟨hl.lt g hg r hr, ?_⟩, hl.num⟩, hL, ?_⟩
  · rintro b ((hb | hb) | hb)
    · exact .inl (.inl hb)
    · exact .inr hb
    · exact .inl (.inr hb.1)
  · rintro ⟨cs, fz, e⟩
    rw [hl.lb] at e; cases e
  · rintro ⟨cs, fz, e⟩
    obtain ⟨_, c2, e2⟩ := row_at hl.pa.row hr
    rw [e2] at e; cases e
  · rintro ⟨cs, fz, e⟩
    obtain ⟨_, c2, e2⟩ := row_at (hl.pa.tx g hg) hr
    rw [e2] at e; cases e
  · rintro b ⟨h1, h2⟩ (h3 | h3)
    · exact hn b h1 h3
    · exact h2 h3
theorem RefD.keeps {own : Nat → Prop} {w w' : World} {q : Value} {S : Ds} (h : RefD w q S) (k : Keeps own w w') (ho : ∀ b, TF w b → own b) : RefD w' q S := by
  obtain ⟨a, c, h1, h2, h3⟩ := h
  refine ⟨a, c, h1, ?_, h3⟩
  rcases h2 with h | ⟨b, off, rfl, hlt, hc, cs, fz, ht⟩
  · exact .inl h
  · exact .inr ⟨b, off, rfl, Nat.lt_of_lt_of_le hlt k.size, fun j v hj => (k.cell b (off + j) (ho b ⟨cs, fz, ht⟩)).trans (hc j v hj), cs, fz, (k.block b (ho b ⟨cs, fz, ht⟩)).trans ht⟩
theorem RefL.keeps {own P : Nat → Prop} {w w' : World} {v : Value} {ts : List (List UInt8)} {os : List Nat} {n : Nat} (h : RefL P w v ts os n) (k : Keeps own w w') (ho : ∀ b, P b → own b) : RefL P w' v ts os n := by
  obtain ⟨a1, c1, a2, c2, h1, h2, h3, h4, h5⟩ := h
  refine ⟨a1, c1, a2, c2, h1, ?_, ?_, h4, h5⟩
  · by_cases hn : ts = []
    · exact .inl hn
    · rcases h2 with h | ⟨b, off, rfl, hlt, hc⟩
      · exact .inl h
      · exact .inr ⟨b, off, rfl, Nat.lt_of_lt_of_le hlt k.size, fun i hi => (k.cell b (off + i) (ho b (h4 hn b off rfl))).trans (hc i hi)⟩
  · by_cases hn : os = []
    · exact .inl hn
    · rcases h3 with h | ⟨b, off, rfl, hlt, hc⟩
      · exact .inl h
      · exact .inr ⟨b, off, rfl, Nat.lt_of_lt_of_le hlt k.size, fun i hi => (k.cell b (off + i) (ho b (h5 hn b off rfl))).trans (hc i hi)⟩
theorem RefL.mono {P P' : Nat → Prop} {w : World} {v : Value} {ts : List (List UInt8)} {os : List Nat} {n : Nat} (h : RefL P w v ts os n) (hp : ∀ b, b < w.heap.size → P b → P' b) : RefL P' w v ts os n := by
  obtain ⟨a1, c1, a2, c2, h1, h2, h3, h4, h5⟩ := h
  refine ⟨a1, c1, a2, c2, h1, h2, h3, fun hn b off e => ?_, fun hn b off e => ?_⟩
  · rcases h2 with h | ⟨b', off', e', hlt, hc⟩
    · exact absurd h hn
    · rw [e] at e'; cases e'
      exact hp b hlt (h4 hn b off e)
  · rcases h3 with h | ⟨b', off', e', hlt, hc⟩
    · exact absurd h hn
    · rw [e] at e'; cases e'
      exact hp b hlt (h5 hn b off e)
/-! ### what is at the law's side -/
/-- The cells of the struct that both sides lie in. -/
structure Gx (w : World) (G : Nat) (d : Nat) (p : Value) (a : Option Addr) (n c : Nat) (f : Int) (o : Bool) (a1 : Option Addr) (n1 c1 : Nat) (a2 : Option Addr) (n2 c2 : Nat) (x : Int) : Prop where
  g0 : w.cell? ⟨G, 0, none⟩ = some (.pointer (some ⟨d, 0, none⟩))
  g1 : w.cell? ⟨G, 1, none⟩ = some p
  g2 : w.cell? ⟨G, 2, none⟩ = some (.slice a n c)
  g3 : w.cell? ⟨G, 3, none⟩ = some (.int .i64 f)
  g4 : w.cell? ⟨G, 4, none⟩ = some (.bool o)
  g5 : w.cell? ⟨G, 5, none⟩ = some (.slice a1 n1 c1)
  g6 : w.cell? ⟨G, 6, none⟩ = some (.slice a2 n2 c2)
  g7 : w.cell? ⟨G, 7, none⟩ = some (.int .i64 x)
  fz : ∀ i, i ≤ 7 → w.frozen? ⟨G, i, none⟩ = false
  ns : NoStr w G
theorem Gx.keeps {own : Nat → Prop} {w w' : World} {G d : Nat} {p : Value} {a : Option Addr} {n c : Nat} {f : Int} {o : Bool} {a1 : Option Addr} {n1 c1 : Nat} {a2 : Option Addr} {n2 c2 : Nat} {x : Int} (h : Gx w G d p a n c f o a1 n1 c1 a2 n2 c2 x) (k : Keeps own w w') (hG : own G) : Gx w' G d p a n c f o a1 n1 c1 a2 n2 c2 x :=
  ⟨(k.cell G 0 hG).trans h.g0, (k.cell G 1 hG).trans h.g1, (k.cell G 2 hG).trans h.g2, (k.cell G 3 hG).trans h.g3, (k.cell G 4 hG).trans h.g4, (k.cell G 5 hG).trans h.g5, (k.cell G 6 hG).trans h.g6, (k.cell G 7 hG).trans h.g7, fun i hi => (k.frozen G i hG).trans (h.fz i hi), fun i s e => h.ns i s ((k.cell G i hG).symm.trans e)⟩
theorem Gx.old {w w' : World} {G d : Nat} {p : Value} {a : Option Addr} {n c : Nat} {f : Int} {o : Bool} {a1 : Option Addr} {n1 c1 : Nat} {a2 : Option Addr} {n2 c2 : Nat} {x : Int} (h : Gx w G d p a n c f o a1 n1 c1 a2 n2 c2 x) (hb : Below w.heap.size w w') : Gx w' G d p a n c f o a1 n1 c1 a2 n2 c2 x :=
  h.keeps (own := fun b => b < w.heap.size) (Keeps.of_below hb fun b hb => hb) (cell_lt h.g0)
end Go.Proofs.YtkfmjkcomjmedaaGreat
namespace Go.Proofs.YtkfmjkcomjmedaaGreat
open Go.RowKit
set_option linter.unusedVariables false
set_option linter.unusedSimpArgs false

abbrev putq (W : World) (G : Nat) (a : Option Addr) (n c : Nat) (f : Int) (o : Bool) : World := ((W.setCell ⟨G, 2, none⟩ (.slice a n c)).setCell ⟨G, 3, none⟩ (.int .i64 f)).setCell ⟨G, 4, none⟩ (.bool o)
abbrev putm (W : World) (G : Nat) (a : Option Addr) (n c : Nat) (a' : Option Addr) (n' c' : Nat) (x : Int) : World := ((W.setCell ⟨G, 5, none⟩ (.slice a n c)).setCell ⟨G, 6, none⟩ (.slice a' n' c')).setCell ⟨G, 7, none⟩ (.int .i64 x)
theorem tf_set {own : Nat → Prop} {w : World} (h : ∀ b, TF w b → own b) {G : Nat} (hG : own G) (i : Nat) (u : Value) : ∀ b, TF (w.setCell ⟨G, i, none⟩ u) b → own b := by
  rintro b ⟨cs, fz, e⟩
  by_cases hb : b = G
  · rw [hb]; exact hG
  · exact h b ⟨cs, fz, (Below.heap_setCell w ⟨G, i, none⟩ u b hb).symm.trans e⟩
theorem tf_below {own : Nat → Prop} {w w' : World} (h : ∀ b, TF w b → own b) (hb : Below w.heap.size w w') : ∀ b, TF w' b → own b ∨ (w.heap.size ≤ b ∧ b < w'.heap.size) := by
  intro b ht
  by_cases hl : b < w.heap.size
  · obtain ⟨cs, fz, e⟩ := ht
    exact .inl (h b ⟨cs, fz, (hb.block b hl).symm.trans e⟩)
  · exact .inr ⟨by omega, ht.lt⟩
section
variable {W : World} {G d : Nat} {p : Value} {a : Option Addr} {n c : Nat} {f : Int} {o : Bool} {a1 : Option Addr} {n1 c1 : Nat} {a2 : Option Addr} {n2 c2 : Nat} {x : Int}
theorem set_same (W : World) (G i : Nat) (u : Value) {v : Value} (h : W.cell? ⟨G, i, none⟩ = some v) : (W.setCell ⟨G, i, none⟩ u).cell? ⟨G, i, none⟩ = some u := World.cell?_setCell_same' _ _ _ (by rw [h]; rfl)
theorem set_else (W : World) (G i j : Nat) (u : Value) (h : i ≠ j) : (W.setCell ⟨G, i, none⟩ u).cell? ⟨G, j, none⟩ = W.cell? ⟨G, j, none⟩ := World.cell?_setCell_other _ _ _ _ (by simp [h])
theorem set_froz (W : World) (G i b j : Nat) (u : Value) : (W.setCell ⟨G, i, none⟩ u).frozen? ⟨b, j, none⟩ = W.frozen? ⟨b, j, none⟩ := by simp [go_sem]
theorem Gx.putp (h : Gx W G d p a n c f o a1 n1 c1 a2 n2 c2 x) (q : Value) (hq : ∀ s, q ≠ .string s) : Gx (W.setCell ⟨G, 1, none⟩ q) G d q a n c f o a1 n1 c1 a2 n2 c2 x :=
  ⟨(set_else _ _ _ _ _ (by omega)).trans h.g0, set_same _ _ _ _ h.g1, (set_else _ _ _ _ _ (by omega)).trans h.g2, (set_else _ _ _ _ _ (by omega)).trans h.g3, (set_else _ _ _ _ _ (by omega)).trans h.g4, (set_else _ _ _ _ _ (by omega)).trans h.g5, (set_else _ _ _ _ _ (by omega)).trans h.g6, (set_else _ _ _ _ _ (by omega)).trans h.g7,
    fun i hi => (set_froz ..).trans (h.fz i hi), h.ns.set 1 q (by rw [h.g1]; rfl) hq⟩
theorem Gx.put2 (h : Gx W G d p a n c f o a1 n1 c1 a2 n2 c2 x) (a' : Option Addr) (n' c' : Nat) : Gx (W.setCell ⟨G, 2, none⟩ (.slice a' n' c')) G d p a' n' c' f o a1 n1 c1 a2 n2 c2 x :=
  ⟨(set_else _ _ _ _ _ (by omega)).trans h.g0, (set_else _ _ _ _ _ (by omega)).trans h.g1, set_same _ _ _ _ h.g2, (set_else _ _ _ _ _ (by omega)).trans h.g3, (set_else _ _ _ _ _ (by omega)).trans h.g4, (set_else _ _ _ _ _ (by omega)).trans h.g5, (set_else _ _ _ _ _ (by omega)).trans h.g6, (set_else _ _ _ _ _ (by omega)).trans h.g7,
    fun i hi => (set_froz ..).trans (h.fz i hi), h.ns.set 2 _ (by rw [h.g2]; rfl) (fun s h => by cases h)⟩
theorem Gx.put3' (h : Gx W G d p a n c f o a1 n1 c1 a2 n2 c2 x) (f' : Int) : Gx (W.setCell ⟨G, 3, none⟩ (.int .i64 f')) G d p a n c f' o a1 n1 c1 a2 n2 c2 x :=
  ⟨(set_else _ _ _ _ _ (by omega)).trans h.g0, (set_else _ _ _ _ _ (by omega)).trans h.g1, (set_else _ _ _ _ _ (by omega)).trans h.g2, set_same _ _ _ _ h.g3, (set_else _ _ _ _ _ (by omega)).trans h.g4, (set_else _ _ _ _ _ (by omega)).trans h.g5, (set_else _ _ _ _ _ (by omega)).trans h.g6, (set_else _ _ _ _ _ (by omega)).trans h.g7,
    fun i hi => (set_froz ..).trans (h.fz i hi), h.ns.set 3 _ (by rw [h.g3]; rfl) (fun s h => by cases h)⟩
theorem Gx.put4 (h : Gx W G d p a n c f o a1 n1 c1 a2 n2 c2 x) (o' : Bool) : Gx (W.setCell ⟨G, 4, none⟩ (.bool o')) G d p a n c f o' a1 n1 c1 a2 n2 c2 x :=
  ⟨(set_else _ _ _ _ _ (by omega)).trans h.g0, (set_else _ _ _ _ _ (by omega)).trans h.g1, (set_else _ _ _ _ _ (by omega)).trans h.g2, (set_else _ _ _ _ _ (by omega)).trans h.g3, set_same _ _ _ _ h.g4, (set_else _ _ _ _ _ (by omega)).trans h.g5, (set_else _ _ _ _ _ (by omega)).trans h.g6, (set_else _ _ _ _ _ (by omega)).trans h.g7,
    fun i hi => (set_froz ..).trans (h.fz i hi), h.ns.set 4 _ (by rw [h.g4]; rfl) (fun s h => by cases h)⟩
theorem Gx.put5 (h : Gx W G d p a n c f o a1 n1 c1 a2 n2 c2 x) (a' : Option Addr) (n' c' : Nat) : Gx (W.setCell ⟨G, 5, none⟩ (.slice a' n' c')) G d p a n c f o a' n' c' a2 n2 c2 x :=
  ⟨(set_else _ _ _ _ _ (by omega)).trans h.g0, (set_else _ _ _ _ _ (by omega)).trans h.g1, (set_else _ _ _ _ _ (by omega)).trans h.g2, (set_else _ _ _ _ _ (by omega)).trans h.g3, (set_else _ _ _ _ _ (by omega)).trans h.g4, set_same _ _ _ _ h.g5, (set_else _ _ _ _ _ (by omega)).trans h.g6, (set_else _ _ _ _ _ (by omega)).trans h.g7,
    fun i hi => (set_froz ..).trans (h.fz i hi), h.ns.set 5 _ (by rw [h.g5]; rfl) (fun s h => by cases h)⟩
theorem Gx.put6 (h : Gx W G d p a n c f o a1 n1 c1 a2 n2 c2 x) (a' : Option Addr) (n' c' : Nat) : Gx (W.setCell ⟨G, 6, none⟩ (.slice a' n' c')) G d p a n c f o a1 n1 c1 a' n' c' x :=
  ⟨(set_else _ _ _ _ _ (by omega)).trans h.g0, (set_else _ _ _ _ _ (by omega)).trans h.g1, (set_else _ _ _ _ _ (by omega)).trans h.g2, (set_else _ _ _ _ _ (by omega)).trans h.g3, (set_else _ _ _ _ _ (by omega)).trans h.g4, (set_else _ _ _ _ _ (by omega)).trans h.g5, set_same _ _ _ _ h.g6, (set_else _ _ _ _ _ (by omega)).trans h.g7,
    fun i hi => (set_froz ..).trans (h.fz i hi), h.ns.set 6 _ (by rw [h.g6]; rfl) (fun s h => by cases h)⟩
theorem Gx.put7 (h : Gx W G d p a n c f o a1 n1 c1 a2 n2 c2 x) (y : Int) : Gx (W.setCell ⟨G, 7, none⟩ (.int .i64 y)) G d p a n c f o a1 n1 c1 a2 n2 c2 y :=
  ⟨(set_else _ _ _ _ _ (by omega)).trans h.g0, (set_else _ _ _ _ _ (by omega)).trans h.g1, (set_else _ _ _ _ _ (by omega)).trans h.g2, (set_else _ _ _ _ _ (by omega)).trans h.g3, (set_else _ _ _ _ _ (by omega)).trans h.g4, (set_else _ _ _ _ _ (by omega)).trans h.g5, (set_else _ _ _ _ _ (by omega)).trans h.g6, set_same _ _ _ _ h.g7,
    fun i hi => (set_froz ..).trans (h.fz i hi), h.ns.set 7 _ (by rw [h.g7]; rfl) (fun s h => by cases h)⟩
theorem Gx.putq (h : Gx W G d p a n c f o a1 n1 c1 a2 n2 c2 x) (a' : Option Addr) (n' c' : Nat) (f' : Int) (o' : Bool) : Gx (putq W G a' n' c' f' o') G d p a' n' c' f' o' a1 n1 c1 a2 n2 c2 x := ((h.put2 a' n' c').put3' f').put4 o'
theorem Gx.putm (h : Gx W G d p a n c f o a1 n1 c1 a2 n2 c2 x) (b1 : Option Addr) (m1 e1 : Nat) (b2 : Option Addr) (m2 e2 : Nat) (y : Int) : Gx (putm W G b1 m1 e1 b2 m2 e2 y) G d p a n c f o b1 m1 e1 b2 m2 e2 y := ((h.put5 b1 m1 e1).put6 b2 m2 e2).put7 y
theorem RefD.inq (h : Gx W G d p a n c f o a1 n1 c1 a2 n2 c2 x) {q : Value} {S : Ds} (hr : RefD W q S) (a' : Option Addr) (n' c' : Nat) (f' : Int) (o' : Bool) : RefD (Go.Proofs.YtkfmjkcomjmedaaGreat.putq W G a' n' c' f' o') q S :=
  ((hr.setc h.ns 2 _).setc (h.put2 a' n' c').ns 3 _).setc ((h.put2 a' n' c').put3' f').ns 4 _
theorem RefD.inm (h : Gx W G d p a n c f o a1 n1 c1 a2 n2 c2 x) {q : Value} {S : Ds} (hr : RefD W q S) (b1 : Option Addr) (m1 e1 : Nat) (b2 : Option Addr) (m2 e2 : Nat) (y : Int) : RefD (Go.Proofs.YtkfmjkcomjmedaaGreat.putm W G b1 m1 e1 b2 m2 e2 y) q S :=
  ((hr.setc h.ns 5 _).setc (h.put5 b1 m1 e1).ns 6 _).setc ((h.put5 b1 m1 e1).put6 b2 m2 e2).ns 7 _
end
/-- Two disks that answer alike: a fuse below 0 is none. -/
def EqD (C S : Ds) : Prop := C.files = S.files ∧ C.off = S.off ∧ (C.fuse = S.fuse ∨ (C.fuse < 0 ∧ S.fuse < 0))
theorem EqD.refl (S : Ds) : EqD S S := ⟨rfl, rfl, .inl rfl⟩
/-- What the law has behind each call: the struct, the document's disk in it, the code's; the log's, if there is one. -/
structure SideD (own : Nat → Prop) (w : World) (G d : Nat) (p : Value) (S : Ds) (m : Value) : Prop where
  gx : ∃ a c a1 n1 c1 a2 n2 c2 x, Gx w G d p a S.files.length c S.fuse S.off a1 n1 c1 a2 n2 c2 x ∧ RefD w (.agg #[.slice a S.files.length c, .int .i64 S.fuse, .bool S.off]) S ∧ m = .agg #[.slice a1 n1 c1, .slice a2 n2 c2, .int .i64 x]
  oG : own G
  tf : ∀ b, TF w b → own b
  dk : ∃ C, EqD C S ∧ DiskAt own w d C
end Go.Proofs.YtkfmjkcomjmedaaGreat
namespace Go.Proofs.YtkfmjkcomjmedaaGreat
open Go.RowKit
set_option linter.unusedVariables false
set_option linter.unusedSimpArgs false

theorem Kp.rdk {own : Nat → Prop} {w : World} {a : Option Addr} {ks : List Int} {d : Nat} {S : Ds} (h : Kp own w a ks) (hd : DiskAt own w d S) : RdK w a ks := by
  rcases h.2 with h | ⟨b, off, h1, h2, h3⟩
  · exact .inl h
  · exact .inr ⟨b, off, h1, hd.own h2, h3⟩
theorem Kp.setn {own : Nat → Prop} {w : World} {a : Option Addr} {ks : List Int} (h : Kp own w a ks) {G : Nat} (hG : ∀ b off, a = some ⟨b, off, none⟩ → ks = [] ∨ b ≠ G) (i : Nat) (u : Value) : Kp own (w.setCell ⟨G, i, none⟩ u) a ks := by
  refine ⟨h.1, ?_⟩
  rcases h.2 with h | ⟨b, off, h1, h2, h3⟩
  · exact .inl h
  · rcases hG b off h1 with hz | this
    · exact .inl hz
    refine .inr ⟨b, off, h1, h2, fun j hj => ?_⟩
    rw [World.cell?_setCell_other _ _ _ _ (by intro e; simp at e <;> omega)]; exact h3 j hj
def opS (S : Ds) (ks : List Int) (fr : Int) : Ds × Int × Lt := if 0 ≤ fr ∧ fr ≤ 1048576 then (S.crash ks).opens fr.toNat else (S.crash ks, 1, [])
theorem Kp.mono {own own' : Nat → Prop} {w : World} {a : Option Addr} {ks : List Int} (h : Kp own w a ks) (ho : ∀ b, own b → own' b) : Kp own' w a ks := by
  refine ⟨h.1, h.2.imp id ?_⟩
  rintro ⟨b, off, h1, h2, h3⟩
  exact ⟨b, off, h1, ho b h2, h3⟩
theorem opens_uni {own : Nat → Prop} {w w' : World} {d fr : Nat} {S : Ds} {e : Ending} (h : OpenP own w d fr S e w') : Keeps own w w' ∧ ∃ po, e = .returned (.tuple #[.pointer po, .int .i64 (S.opens fr).2.1]) ∧ DiskAt own w' d (S.opens fr).1 ∧ ((S.opens fr).2.1 = 0 → ∃ l, po = some ⟨l, 0, none⟩ ∧ WalAt own w' l d (S.opens fr).1 (S.opens fr).2.2) ∧ ((S.opens fr).2.1 ≠ 0 → po = none) := by
  obtain ⟨hk, h⟩ := h
  refine ⟨hk, ?_⟩
  rcases h with ⟨h1, l, h2, h3⟩ | ⟨h1, h2, h3⟩
  · exact ⟨_, by rw [h1]; exact h2, h3.toDisk, fun _ => ⟨l, rfl, h3⟩, fun h => absurd h1 h⟩
  · exact ⟨_, h2, h3, fun h => absurd h h1, fun _ => rfl⟩
theorem opens_lists {S : Ds} {fr : Nat} (h : (S.opens fr).2.1 = 0) : flat (loadL fr S.files) = flat (S.opens fr).2.2 ∧ ofs (loadL fr S.files) = ofs (S.opens fr).2.2 := by
  by_cases h1 : mayE S (lastN fr (loadL fr S.files)) = 0
  · by_cases h2 : (S.rm fr).2 = 0
    · rw [opens_make h1 h2]
      simp only
      rw [flat_append, ofs_append, flat_one, ofs_one]
      simp
    · rw [opens_rm h1 h2] at h
      exact absurd h h2
  · rw [opens_may h1] at h
    exact absurd h h1
theorem opens_fin {own own' : Nat → Prop} {w w6 : World} {G d x6 B : Nat} {po : Option Addr} {R : Ds × Int × Lt} {a : Option Addr} {n c : Nat} {f : Int} {o : Bool} {a1 : Option Addr} {n1 c1 : Nat} {a2 : Option Addr} {n2 c2 : Nat} {x : Int} {a6 : Option Addr} {c6 : Nat} {b1 b2 : Option Addr} {e1 e2 : Nat} {ts6 : List (List UInt8)} {os6 : List Nat}
    (hg : Gx w6 G d (.pointer po) a n c f o a1 n1 c1 a2 n2 c2 x) (hq : RefD w6 (.agg #[.slice a6 R.1.files.length c6, .int .i64 R.1.fuse, .bool R.1.off]) R.1) (hG : own' G) (htf : ∀ b, TF w6 b → own' b) (hd : DiskAt own' w6 d R.1)
    (hy : R.2.1 = 0 → ∃ l, po = some ⟨l, 0, none⟩ ∧ WalAt own' w6 l d R.1 R.2.2) (hk : Keeps (fun b => own b ∧ b ≠ G) w w6) (hoo : ∀ b, own b → own' b) (hv : RefL (fun b => B ≤ b) w6 (.agg #[.slice b1 ts6.length e1, .slice b2 os6.length e2, .int .i64 (x6 : Int)]) ts6 os6 x6) (hB : G < B) (hfr : ∀ b, B ≤ b → b < w6.heap.size → own' b) :
    ∀ W7, W7 = putm (putq w6 G a6 R.1.files.length c6 R.1.fuse R.1.off) G b1 ts6.length e1 b2 os6.length e2 (x6 : Int) →
      (∀ b, own b → own' b) ∧ Keeps (fun b => own b ∧ b ≠ G) w W7 ∧ SideD own' W7 G d (.pointer po) R.1 (.agg #[.slice b1 ts6.length e1, .slice b2 os6.length e2, .int .i64 (x6 : Int)]) ∧
        (R.2.1 = 0 → ∃ l, po = some ⟨l, 0, none⟩ ∧ WalAt own' W7 l d R.1 R.2.2) ∧ RefL (fun b => own' b ∧ b ≠ G) W7 (.agg #[.slice b1 ts6.length e1, .slice b2 os6.length e2, .int .i64 (x6 : Int)]) ts6 os6 x6 := by
  rintro W7 rfl
  have g2 := hg.putq a6 R.1.files.length c6 R.1.fuse R.1.off
  have q2 := RefD.inq hg hq a6 R.1.files.length c6 R.1.fuse R.1.off
  have g3 := g2.putm b1 ts6.length e1 b2 os6.length e2 (x6 : Int)
  have q3 := RefD.inm g2 q2 b1 ts6.length e1 b2 os6.length e2 (x6 : Int)
  have ks : ∀ (own : Nat → Prop), (∀ b, own b → b ≠ G) → Keeps own w6 (putm (putq w6 G a6 R.1.files.length c6 R.1.fuse R.1.off) G b1 ts6.length e1 b2 os6.length e2 (x6 : Int)) := fun own h =>
    (((((Keeps.setCell ⟨G, 2, none⟩ _ h).trans (Keeps.setCell ⟨G, 3, none⟩ _ h)).trans (Keeps.setCell ⟨G, 4, none⟩ _ h)).trans (Keeps.setCell ⟨G, 5, none⟩ _ h)).trans (Keeps.setCell ⟨G, 6, none⟩ _ h)).trans (Keeps.setCell ⟨G, 7, none⟩ _ h)
  refine ⟨hoo, hk.trans (ks _ fun b hb => hb.2), ⟨⟨a6, c6, b1, ts6.length, e1, b2, os6.length, e2, (x6 : Int), g3, q3, rfl⟩, hG, ?_, ?_⟩, fun h => ?_, ?_⟩
  · exact tf_set (tf_set (tf_set (tf_set (tf_set (tf_set htf hG 2 _) hG 3 _) hG 4 _) hG 5 _) hG 6 _) hG 7 _
  · exact ⟨R.1, EqD.refl _, (((((hd.setCell (a := ⟨G, 2, none⟩) hG _).setCell (a := ⟨G, 3, none⟩) hG _).setCell (a := ⟨G, 4, none⟩) hG _).setCell (a := ⟨G, 5, none⟩) hG _).setCell (a := ⟨G, 6, none⟩) hG _).setCell (a := ⟨G, 7, none⟩) hG _⟩
  · obtain ⟨l, h1, h2⟩ := hy h
    exact ⟨l, h1, (((((h2.setCell (a := ⟨G, 2, none⟩) hG _).setCell (a := ⟨G, 3, none⟩) hG _).setCell (a := ⟨G, 4, none⟩) hG _).setCell (a := ⟨G, 5, none⟩) hG _).setCell (a := ⟨G, 6, none⟩) hG _).setCell (a := ⟨G, 7, none⟩) hG _⟩
  · have hv2 := (hv.mono (P' := fun b => own' b ∧ b ≠ G) (fun b h1 h2 => ⟨hfr b h2 h1, by omega⟩)).keeps (ks (fun b => own' b ∧ b ≠ G) fun b hb => hb.2) (fun b hb => hb)
    exact hv2
def OpensE (own : Nat → Prop) (w : World) (G d : Nat) (R : Ds × Int × Lt) (n : Nat) (e : Ending) (w' : World) : Prop :=
  ∃ own' p' m', e = .returned (.bool true) ∧ (∀ b, own b → own' b) ∧ Keeps (fun b => own b ∧ b ≠ G) w w' ∧ SideD own' w' G d p' R.1 m' ∧
    (R.2.1 = 0 → ∃ l, p' = .pointer (some ⟨l, 0, none⟩) ∧ WalAt own' w' l d R.1 R.2.2 ∧ RefL (fun b => own' b ∧ b ≠ G) w' m' (flat R.2.2) (ofs R.2.2) n) ∧ (R.2.1 ≠ 0 → p' = .pointer none)
set_option maxRecDepth 100000 in
set_option maxHeartbeats 8000000 in
theorem opens_in {bb nb : Nat} {own : Nat → Prop} {w : World} {G d : Nat} {p m : Value} {S : Ds} (h : SideD own w G d p S m) (hp : ∃ po, p = .pointer po) (hk : OkS bb nb S) (hbb : bb ≤ 262144) (hnb : nb ≤ 99999000) (ka : Option Addr) (kc : Nat) (ks : List Int) (hkp : Kp own w ka ks) (hkG : ∀ b off, ka = some ⟨b, off, none⟩ → ks = [] ∨ b ≠ G) (hkl : ks.length ≤ 140737488355328) (fr : Nat) (hfr : fr ≤ 1048576) :
    Calls Tryz.prog 6 #[.pointer (some ⟨G, 0, none⟩), .int .i64 (fr : Int), .slice ka ks.length kc] w (OpensE own w G d ((S.crash ks).opens fr) (lastN fr (loadL fr (S.crash ks).files))) := by
  obtain ⟨po, rfl⟩ := hp
  obtain ⟨C, hCS, hdk⟩ := h.dk
  have hCk : C.crash ks = S.crash ks := by unfold Ds.crash; rw [hCS.1]
  have HF := Lib.hid hdk.facts
  have HK := Lib.hid hk
  have HKP := Lib.hid hkp
  have HTF0 := Lib.hid h.tf
  have HOG := Lib.hid h.oG
  have HDK := Lib.hid hdk
  obtain ⟨a, c, a1, n1, c1, a2, n2, c2, x, hg, hq, rfl⟩ := h.gx
  have HG0 := Lib.hid hg
  have HQ0 := Lib.hid hq
  have HGS := Lib.hid (HDK.out.own HOG.out)
  obtain ⟨kn, hkn⟩ : ∃ kn, kn = ks.length := ⟨_, rfl⟩
  have HCR := Lib.hid (fun (W : World) (h : RefD W (.agg #[.slice a S.files.length c, .int .i64 S.fuse, .bool S.off]) S) (hr : RdK W ka ks) => crash_ref h (by have := hk.len; omega) (Lib.hid fun p hp => ⟨(hk.fb p hp).1, Nat.le_trans (hk.fb p hp).2 (by omega)⟩) ka ks kc hr hkl (Lib.hid hkp.1))
  have HCC := Lib.hid (fun (own : Nat → Prop) (W : World) (h : DiskAt own W d C) (hp : Kp own W ka ks) => crash_any h ka kc ks hp (by unfold maxLen; omega))
  rw [hCk] at HCC
  rw [← hkn] at HCR HCC ⊢
  obtain ⟨T, hT⟩ : ∃ T, T = S.crash ks := ⟨_, rfl⟩
  rw [← hT] at HCR HCC
  have HKT := Lib.hid (show OkS bb nb T by rw [hT]; exact hk.crash ks)
  have HT := Lib.hid hT
  clear h hk hg hq hkp hkn hT hkl hdk hCk hCS
  go_enter Tryz.func6, Tryz.ntmps6
  obtain ⟨g0, g1, g2, g3, g4, g5, g6, g7, gf, -⟩ := HG0.out
  have f1 := gf 1 (by omega)
  have f2 := gf 2 (by omega)
  have f3 := gf 3 (by omega)
  have f4 := gf 4 (by omega)
  have f5 := gf 5 (by omega)
  have f6 := gf 6 (by omega)
  have f7 := gf 7 (by omega)
  clear gf
  go_wp2_with fail
  go_at_call 13
  refine (HCR.out _ HQ0.out (HKP.out.rdk HDK.out)).mono ?_
  rintro e w1 ⟨q1, rfl, hq1, b1⟩
  have HQ1 := Lib.hid hq1
  obtain ⟨a', c', rfl, -, -, -⟩ := hq1
  have HG1 := Lib.hid (HG0.out.old b1)
  have HD1 := Lib.hid (HDK.out.fresh b1)
  have TF1 := Lib.hid (tf_below HTF0.out b1)
  have K1 := Lib.hid (Keeps.of_below (own := fun b => own b ∧ b ≠ G) b1 (fun b hb => HDK.out.own hb.1))
  have HKP1 := Lib.hid (HKP.out.keeps (Keeps.of_below b1 fun b hb => HDK.out.own hb))
  clear b1
  clear g0 g1 g2 g3 g4 g5 g6 g7 f1 f2 f3 f4 f5 f6 f7
  obtain ⟨g0, g1, g2, g3, g4, g5, g6, g7, gf, -⟩ := HG1.out
  have f1 := gf 1 (by omega)
  have f2 := gf 2 (by omega)
  have f3 := gf 3 (by omega)
  have f4 := gf 4 (by omega)
  have f5 := gf 5 (by omega)
  have f6 := gf 6 (by omega)
  have f7 := gf 7 (by omega)
  clear gf
  go_wp2_with fail
  have hg2 := HG1.out.putq a' T.files.length c' T.fuse T.off
  have hq2 := RefD.inq HG1.out HQ1.out a' T.files.length c' T.fuse T.off
  have hd2 : DiskAt (fun b => own b ∨ (w.heap.size ≤ b ∧ b < w1.heap.size)) (putq w1 G a' T.files.length c' T.fuse T.off) d C := ((HD1.out.setCell (a := ⟨G, 2, none⟩) (.inl HOG.out) (.slice a' T.files.length c')).setCell (a := ⟨G, 3, none⟩) (.inl HOG.out) (.int .i64 T.fuse)).setCell (a := ⟨G, 4, none⟩) (.inl HOG.out) (.bool T.off)
  have tf2 : ∀ b, TF (putq w1 G a' T.files.length c' T.fuse T.off) b → own b ∨ (w.heap.size ≤ b ∧ b < w1.heap.size) := tf_set (tf_set (tf_set TF1.out (.inl HOG.out) 2 (.slice a' T.files.length c')) (.inl HOG.out) 3 (.int .i64 T.fuse)) (.inl HOG.out) 4 (.bool T.off)
  have k2 : Keeps (fun b => own b ∧ b ≠ G) w (putq w1 G a' T.files.length c' T.fuse T.off) := ((K1.out.trans (Keeps.setCell ⟨G, 2, none⟩ (.slice a' T.files.length c') fun b hb => hb.2)).trans (Keeps.setCell ⟨G, 3, none⟩ (.int .i64 T.fuse) fun b hb => hb.2)).trans (Keeps.setCell ⟨G, 4, none⟩ (.bool T.off) fun b hb => hb.2)
  have kp2 : Kp own (putq w1 G a' T.files.length c' T.fuse T.off) ka ks := ((HKP1.out.setn hkG 2 (.slice a' T.files.length c')).setn hkG 3 (.int .i64 T.fuse)).setn hkG 4 (.bool T.off)
  show Calls _ _ _ (putq w1 G a' T.files.length c' T.fuse T.off) _
  generalize hW2 : putq w1 G a' T.files.length c' T.fuse T.off = W2 at hg2 hq2 hd2 tf2 k2 kp2 ⊢
  have HG2 := Lib.hid hg2
  have HQ2 := Lib.hid hq2
  have TF2 := Lib.hid tf2
  have K2 := Lib.hid k2
  have HD2 := Lib.hid hd2
  obtain ⟨R, hR⟩ : ∃ R, R = T.opens fr := ⟨_, rfl⟩
  rw [← HT.out, ← hR]
  obtain ⟨x9, hx9⟩ : ∃ x9, x9 = lastN fr (loadL fr T.files) := ⟨_, rfl⟩
  rw [← hx9]
  have HR9 := Lib.hid hR
  have HX9 := Lib.hid hx9
  clear hR hx9
  refine (HCC.out _ _ HD2.out (kp2.mono fun b hb => .inl hb)).mono ?_
  rintro e w3 ⟨rfl, hd3, k3⟩
  have hfull := hd3.facts
  have HG3 := Lib.hid (HG2.out.keeps k3 (.inl HOG.out))
  have HQ3 := Lib.hid (HQ2.out.keeps k3 TF2.out)
  have HD3 := Lib.hid hd3.typed
  have K3 := Lib.hid (K2.out.trans (k3.mono fun b (hb : own b ∧ b ≠ G) => .inl hb.1))
  have HOP := Lib.hid (open_any hd3.typed hfr)
  have HNL := Lib.hid (fun p hp => (hfull.2.2 p hp).1)
  clear k3 hd3 hfull kp2 hg2 hq2 hd2 tf2 k2
  clear g0 g1 g2 g3 g4 g5 g6 g7 f1 f2 f3 f4 f5 f6 f7
  obtain ⟨g0, g1, g2, g3, g4, g5, g6, g7, gf, -⟩ := HG3.out
  have f1 := gf 1 (by omega)
  have f2 := gf 2 (by omega)
  have f3 := gf 3 (by omega)
  have f4 := gf 4 (by omega)
  have f5 := gf 5 (by omega)
  have f6 := gf 6 (by omega)
  have f7 := gf 7 (by omega)
  clear gf
  go_wp2_with fail
  go_at_call 15
  refine HOP.out.mono ?_
  rintro e w4 hop
  have hop2 := opens_uni hop
  rw [← HR9.out] at hop2
  obtain ⟨k4, po', rfl, hd4, hy, hno⟩ := hop2
  have HG4 := Lib.hid (HG3.out.keeps k4 (.inl (.inl HOG.out)))
  have HQ4 := Lib.hid (HQ3.out.keeps k4 (fun b hb => .inr hb))
  have K4 := Lib.hid (K3.out.trans (k4.mono fun b (hb : own b ∧ b ≠ G) => .inl (.inl hb.1)))
  have HD4 := Lib.hid hd4.typed
  have HY4 := Lib.hid hy
  have HNO := Lib.hid hno
  clear k4 hop hd4 hy hno
  clear g0 g1 g2 g3 g4 g5 g6 g7 f1 f2 f3 f4 f5 f6 f7
  obtain ⟨g0, g1, g2, g3, g4, g5, g6, g7, gf, -⟩ := HG4.out
  have f1 := gf 1 (by omega)
  have f2 := gf 2 (by omega)
  have f3 := gf 3 (by omega)
  have f4 := gf 4 (by omega)
  have f5 := gf 5 (by omega)
  have f6 := gf 6 (by omega)
  have f7 := gf 7 (by omega)
  clear gf
  go_wp2_with fail
  have hg5 := HG4.out.putp (.pointer po') (fun s h => by cases h)
  have hq5 := HQ4.out.setc HG4.out.ns 1 (.pointer po')
  have hd5 := HD4.out.setCell (a := ⟨G, 1, none⟩) (.inl (.inl (.inl HOG.out))) (.pointer po')
  have hy5 : R.2.1 = 0 → ∃ l, po' = some ⟨l, 0, none⟩ ∧ WalAt (fun b => ((own b ∨ (w.heap.size ≤ b ∧ b < w1.heap.size)) ∨ TF w3 b) ∨ TF w4 b) (w4.setCell ⟨G, 1, none⟩ (.pointer po')) l d R.1 R.2.2 := fun h => by
    obtain ⟨l, h1, h2⟩ := HY4.out h
    exact ⟨l, h1, h2.typed.setCell (a := ⟨G, 1, none⟩) (.inl (.inl (.inl HOG.out))) _⟩
  have tf5 : ∀ b, TF (w4.setCell ⟨G, 1, none⟩ (.pointer po')) b → ((own b ∨ (w.heap.size ≤ b ∧ b < w1.heap.size)) ∨ TF w3 b) ∨ TF w4 b := tf_set (fun b hb => .inr hb) (.inl (.inl (.inl HOG.out))) 1 (.pointer po')
  have k5 := K4.out.trans (Keeps.setCell ⟨G, 1, none⟩ (.pointer po') fun b (hb : own b ∧ b ≠ G) => hb.2)
  generalize w4.setCell ⟨G, 1, none⟩ (.pointer po') = W5 at hg5 hq5 hd5 hy5 tf5 k5 ⊢
  have HG5 := Lib.hid hg5
  have HQ5 := Lib.hid hq5
  have HD5 := Lib.hid hd5
  have HY5 := Lib.hid hy5
  have TF5 := Lib.hid tf5
  have K5 := Lib.hid k5
  have hGW := cell_lt hg5.g0
  have hor := open_ref (P := fun b => W5.heap.size ≤ b) hq5 (fun b hb => hb) HKT.out hbb hnb HNL.out hfr
  unfold OpenE at hor
  rw [← HR9.out, ← HX9.out] at hor
  have HFL := Lib.hid (show R.2.1 = 0 → flat (loadL fr T.files) = flat R.2.2 ∧ ofs (loadL fr T.files) = ofs R.2.2 by rw [HR9.out]; exact opens_lists)
  refine hor.mono ?_
  rintro e w6 ⟨q6, v6, rfl, hq6, hv6, b6⟩
  have HQ6 := Lib.hid hq6
  have HV6 := Lib.hid hv6
  obtain ⟨a6, c6, rfl, -, -, -⟩ := hq6
  obtain ⟨b1, e1, b2, e2, rfl, -, -, -⟩ := hv6
  have HG6 := Lib.hid (HG5.out.old b6)
  have HD6 := Lib.hid (HD5.out.fresh b6)
  have HY6 := Lib.hid (show R.2.1 = 0 → ∃ l, po' = some ⟨l, 0, none⟩ ∧ WalAt (fun b => (((own b ∨ (w.heap.size ≤ b ∧ b < w1.heap.size)) ∨ TF w3 b) ∨ TF w4 b) ∨ (W5.heap.size ≤ b ∧ b < w6.heap.size)) w6 l d R.1 R.2.2 from fun h => by
    obtain ⟨l, h1, h2⟩ := HY5.out h
    exact ⟨l, h1, h2.fresh b6⟩)
  have TF6 := Lib.hid (tf_below TF5.out b6)
  have K6 := Lib.hid (K5.out.trans (Keeps.of_below b6 (fun b (hb : own b ∧ b ≠ G) => Nat.lt_of_lt_of_le (HDK.out.own hb.1) K5.out.size)))
  clear b6 hor hg5 hq5 hd5 hy5 tf5 k5
  clear g0 g1 g2 g3 g4 g5 g6 g7 f1 f2 f3 f4 f5 f6 f7
  obtain ⟨g0, g1, g2, g3, g4, g5, g6, g7, gf, -⟩ := HG6.out
  have f1 := gf 1 (by omega)
  have f2 := gf 2 (by omega)
  have f3 := gf 3 (by omega)
  have f4 := gf 4 (by omega)
  have f5 := gf 5 (by omega)
  have f6 := gf 6 (by omega)
  have f7 := gf 7 (by omega)
  clear gf
  generalize hts : (if R.2.1 = 0 then flat (loadL fr T.files) else []) = ts6 at HV6 ⊢
  generalize hos : (if R.2.1 = 0 then ofs (loadL fr T.files) else []) = os6 at HV6 ⊢
  generalize hnn : (if R.2.1 = 0 then x9 else 0) = x6 at HV6 ⊢
  have HTS := Lib.hid hts
  have HOS := Lib.hid hos
  have HNN := Lib.hid hnn
  clear hts hos hnn
  obtain ⟨E, hE⟩ : ∃ E, E = R.2.1 := ⟨_, rfl⟩
  rw [← hE]
  have HE := Lib.hid hE
  have fin := opens_fin (own' := fun b => (((own b ∨ (w.heap.size ≤ b ∧ b < w1.heap.size)) ∨ TF w3 b) ∨ TF w4 b) ∨ (W5.heap.size ≤ b ∧ b < w6.heap.size)) (own := own) HG6.out HQ6.out (.inl (.inl (.inl (.inl HOG.out)))) TF6.out HD6.out HY6.out K6.out (fun b hb => .inl (.inl (.inl (.inl hb)))) HV6.out (show G < W5.heap.size from hGW) (fun b h1 h2 => .inr ⟨h1, h2⟩)
  have FIN := Lib.hid fin
  clear fin hE
  by_cases h0 : E = 0
  · obtain ⟨l, rfl, -⟩ := HY6.out (by rw [← HE.out]; exact h0)
    subst h0
    go_wp2_with fail
    go_ret
    rw [← HT.out, ← HR9.out, ← HX9.out]
    obtain ⟨f1', f2', f3', f4', f5'⟩ := FIN.out _ rfl
    have hz := HFL.out HE.out.symm
    have e1 := HTS.out
    have e2 := HOS.out
    have e3 := HNN.out
    rw [if_pos HE.out.symm] at e1 e2 e3
    rw [hz.1] at e1
    rw [hz.2] at e2
    refine ⟨_, _, _, rfl, f1', f2', f3', fun h => ?_, fun h => absurd HE.out.symm h⟩
    obtain ⟨l', h1, h2⟩ := f4' h
    refine ⟨l', by rw [h1], h2, ?_⟩
    rw [e1, e2, e3]
    exact f5'
  · obtain rfl := HNO.out (by rw [← HE.out]; exact h0)
    have hb0 : (E == 0) = false := by simpa using h0
    go_wp2_with fail
    go_ret
    rw [← HT.out, ← HR9.out, ← HX9.out]
    obtain ⟨f1', f2', f3', f4', f5'⟩ := FIN.out _ rfl
    exact ⟨_, _, _, rfl, f1', f2', f3', fun h => absurd (HE.out.trans h) h0, fun h => rfl⟩
end Go.Proofs.YtkfmjkcomjmedaaGreat
namespace Go.Proofs.YtkfmjkcomjmedaaGreat
open Go.RowKit
set_option linter.unusedVariables false
set_option linter.unusedSimpArgs false

theorem open_uno {own : Nat → Prop} {w : World} {d : Nat} {T : Ds} {R : Ds × Int × Lt} (hR : R = (T, 1, [])) (h : DiskAt own w d T) (fr : Int) (hfr : fr < 0 ∨ 1048576 < fr) :
    Calls Tryz.prog 15 #[.pointer (some ⟨d, 0, none⟩), .int .i64 fr] w fun e w' => Keeps own w w' ∧ ∃ po, e = .returned (.tuple #[.pointer po, .int .i64 R.2.1]) ∧ DiskAt own w' d R.1 ∧ (R.2.1 = 0 → ∃ l, po = some ⟨l, 0, none⟩ ∧ WalAt own w' l d R.1 R.2.2) ∧ (R.2.1 ≠ 0 → po = none) := by
  subst hR
  refine (open_arg (own := own) (some ⟨d, 0, none⟩) w fr hfr).mono ?_
  rintro e w' ⟨rfl, rfl⟩
  exact ⟨Keeps.refl _ _, none, rfl, h, fun h => absurd h (show ¬ (1 : Int) = 0 by decide), fun _ => rfl⟩
theorem open_refuno {P : Nat → Prop} {w : World} {q : Value} {T : Ds} {R : Ds × Int × Lt} {x9 : Nat} (hR : R = (T, 1, [])) (h : RefD w q T) (fr : Int) (hfr : fr < 0 ∨ 1048576 < fr) :
    Calls Tryz.prog 16 #[q, .int .i64 fr] w fun e w' => ∃ q' v', e = .returned (.tuple #[q', v', .int .i64 R.2.1]) ∧ RefD w' q' R.1 ∧ RefL P w' v' (if R.2.1 = 0 then flat (loadL 0 T.files) else []) (if R.2.1 = 0 then ofs (loadL 0 T.files) else []) (if R.2.1 = 0 then x9 else 0) ∧ Below w.heap.size w w' := by
  subst hR
  refine (open_refno (P := P) h fr hfr).mono ?_
  rintro e w' ⟨q', v', h1, h2, h3, h4⟩
  refine ⟨q', v', h1, h2, ?_, h4⟩
  rw [if_neg (show ¬ (1 : Int) = 0 by decide), if_neg (show ¬ (1 : Int) = 0 by decide), if_neg (show ¬ (1 : Int) = 0 by decide)]
  exact h3
set_option maxRecDepth 100000 in
set_option maxHeartbeats 8000000 in
theorem opens_out {bb nb : Nat} {own : Nat → Prop} {w : World} {G d : Nat} {p m : Value} {S : Ds} (h : SideD own w G d p S m) (hp : ∃ po, p = .pointer po) (hk : OkS bb nb S) (hbb : bb ≤ 262144) (hnb : nb ≤ 99999000) (ka : Option Addr) (kc : Nat) (ks : List Int) (hkp : Kp own w ka ks) (hkG : ∀ b off, ka = some ⟨b, off, none⟩ → ks = [] ∨ b ≠ G) (hkl : ks.length ≤ 140737488355328) (fr : Int) (hfr : fr < 0 ∨ 1048576 < fr) :
    Calls Tryz.prog 6 #[.pointer (some ⟨G, 0, none⟩), .int .i64 fr, .slice ka ks.length kc] w (OpensE own w G d (S.crash ks, 1, []) 0) := by
  obtain ⟨po, rfl⟩ := hp
  obtain ⟨C, hCS, hdk⟩ := h.dk
  have hCk : C.crash ks = S.crash ks := by unfold Ds.crash; rw [hCS.1]
  have HF := Lib.hid hdk.facts
  have HK := Lib.hid hk
  have HKP := Lib.hid hkp
  have HTF0 := Lib.hid h.tf
  have HOG := Lib.hid h.oG
  have HDK := Lib.hid hdk
  obtain ⟨a, c, a1, n1, c1, a2, n2, c2, x, hg, hq, rfl⟩ := h.gx
  have HG0 := Lib.hid hg
  have HQ0 := Lib.hid hq
  have HGS := Lib.hid (HDK.out.own HOG.out)
  obtain ⟨kn, hkn⟩ : ∃ kn, kn = ks.length := ⟨_, rfl⟩
  have HCR := Lib.hid (fun (W : World) (h : RefD W (.agg #[.slice a S.files.length c, .int .i64 S.fuse, .bool S.off]) S) (hr : RdK W ka ks) => crash_ref h (by have := hk.len; omega) (Lib.hid fun p hp => ⟨(hk.fb p hp).1, Nat.le_trans (hk.fb p hp).2 (by omega)⟩) ka ks kc hr hkl (Lib.hid hkp.1))
  have HCC := Lib.hid (fun (own : Nat → Prop) (W : World) (h : DiskAt own W d C) (hp : Kp own W ka ks) => crash_any h ka kc ks hp (by unfold maxLen; omega))
  rw [hCk] at HCC
  rw [← hkn] at HCR HCC ⊢
  obtain ⟨T, hT⟩ : ∃ T, T = S.crash ks := ⟨_, rfl⟩
  rw [← hT] at HCR HCC
  have HKT := Lib.hid (show OkS bb nb T by rw [hT]; exact hk.crash ks)
  have HT := Lib.hid hT
  clear h hk hg hq hkp hkn hT hkl hdk hCk hCS
  go_enter Tryz.func6, Tryz.ntmps6
  obtain ⟨g0, g1, g2, g3, g4, g5, g6, g7, gf, -⟩ := HG0.out
  have f1 := gf 1 (by omega)
  have f2 := gf 2 (by omega)
  have f3 := gf 3 (by omega)
  have f4 := gf 4 (by omega)
  have f5 := gf 5 (by omega)
  have f6 := gf 6 (by omega)
  have f7 := gf 7 (by omega)
  clear gf
  go_wp2_with fail
  go_at_call 13
  refine (HCR.out _ HQ0.out (HKP.out.rdk HDK.out)).mono ?_
  rintro e w1 ⟨q1, rfl, hq1, b1⟩
  have HQ1 := Lib.hid hq1
  obtain ⟨a', c', rfl, -, -, -⟩ := hq1
  have HG1 := Lib.hid (HG0.out.old b1)
  have HD1 := Lib.hid (HDK.out.fresh b1)
  have TF1 := Lib.hid (tf_below HTF0.out b1)
  have K1 := Lib.hid (Keeps.of_below (own := fun b => own b ∧ b ≠ G) b1 (fun b hb => HDK.out.own hb.1))
  have HKP1 := Lib.hid (HKP.out.keeps (Keeps.of_below b1 fun b hb => HDK.out.own hb))
  clear b1
  clear g0 g1 g2 g3 g4 g5 g6 g7 f1 f2 f3 f4 f5 f6 f7
  obtain ⟨g0, g1, g2, g3, g4, g5, g6, g7, gf, -⟩ := HG1.out
  have f1 := gf 1 (by omega)
  have f2 := gf 2 (by omega)
  have f3 := gf 3 (by omega)
  have f4 := gf 4 (by omega)
  have f5 := gf 5 (by omega)
  have f6 := gf 6 (by omega)
  have f7 := gf 7 (by omega)
  clear gf
  go_wp2_with fail
  have hg2 := HG1.out.putq a' T.files.length c' T.fuse T.off
  have hq2 := RefD.inq HG1.out HQ1.out a' T.files.length c' T.fuse T.off
  have hd2 : DiskAt (fun b => own b ∨ (w.heap.size ≤ b ∧ b < w1.heap.size)) (putq w1 G a' T.files.length c' T.fuse T.off) d C := ((HD1.out.setCell (a := ⟨G, 2, none⟩) (.inl HOG.out) (.slice a' T.files.length c')).setCell (a := ⟨G, 3, none⟩) (.inl HOG.out) (.int .i64 T.fuse)).setCell (a := ⟨G, 4, none⟩) (.inl HOG.out) (.bool T.off)
  have tf2 : ∀ b, TF (putq w1 G a' T.files.length c' T.fuse T.off) b → own b ∨ (w.heap.size ≤ b ∧ b < w1.heap.size) := tf_set (tf_set (tf_set TF1.out (.inl HOG.out) 2 (.slice a' T.files.length c')) (.inl HOG.out) 3 (.int .i64 T.fuse)) (.inl HOG.out) 4 (.bool T.off)
  have k2 : Keeps (fun b => own b ∧ b ≠ G) w (putq w1 G a' T.files.length c' T.fuse T.off) := ((K1.out.trans (Keeps.setCell ⟨G, 2, none⟩ (.slice a' T.files.length c') fun b hb => hb.2)).trans (Keeps.setCell ⟨G, 3, none⟩ (.int .i64 T.fuse) fun b hb => hb.2)).trans (Keeps.setCell ⟨G, 4, none⟩ (.bool T.off) fun b hb => hb.2)
  have kp2 : Kp own (putq w1 G a' T.files.length c' T.fuse T.off) ka ks := ((HKP1.out.setn hkG 2 (.slice a' T.files.length c')).setn hkG 3 (.int .i64 T.fuse)).setn hkG 4 (.bool T.off)
  show Calls _ _ _ (putq w1 G a' T.files.length c' T.fuse T.off) _
  generalize hW2 : putq w1 G a' T.files.length c' T.fuse T.off = W2 at hg2 hq2 hd2 tf2 k2 kp2 ⊢
  have HG2 := Lib.hid hg2
  have HQ2 := Lib.hid hq2
  have TF2 := Lib.hid tf2
  have K2 := Lib.hid k2
  have HD2 := Lib.hid hd2
  obtain ⟨R, hR⟩ : ∃ R : Ds × Int × Lt, R = (T, 1, []) := ⟨_, rfl⟩
  obtain ⟨x9, hx9⟩ : ∃ x9 : Nat, x9 = 0 := ⟨_, rfl⟩
  have HR9 := Lib.hid hR
  have HX9 := Lib.hid hx9
  clear hR hx9
  refine (HCC.out _ _ HD2.out (kp2.mono fun b hb => .inl hb)).mono ?_
  rintro e w3 ⟨rfl, hd3, k3⟩
  have hfull := hd3.facts
  have HG3 := Lib.hid (HG2.out.keeps k3 (.inl HOG.out))
  have HQ3 := Lib.hid (HQ2.out.keeps k3 TF2.out)
  have HD3 := Lib.hid hd3.typed
  have K3 := Lib.hid (K2.out.trans (k3.mono fun b (hb : own b ∧ b ≠ G) => .inl hb.1))
  have HOP := Lib.hid (open_uno (R := R) HR9.out hd3.typed fr hfr)
  have HNL := Lib.hid (fun p hp => (hfull.2.2 p hp).1)
  clear k3 hd3 hfull kp2 hg2 hq2 hd2 tf2 k2
  clear g0 g1 g2 g3 g4 g5 g6 g7 f1 f2 f3 f4 f5 f6 f7
  obtain ⟨g0, g1, g2, g3, g4, g5, g6, g7, gf, -⟩ := HG3.out
  have f1 := gf 1 (by omega)
  have f2 := gf 2 (by omega)
  have f3 := gf 3 (by omega)
  have f4 := gf 4 (by omega)
  have f5 := gf 5 (by omega)
  have f6 := gf 6 (by omega)
  have f7 := gf 7 (by omega)
  clear gf
  go_wp2_with fail
  go_at_call 15
  refine HOP.out.mono ?_
  rintro e w4 hop
  have hop2 := hop
  obtain ⟨k4, po', rfl, hd4, hy, hno⟩ := hop2
  have HG4 := Lib.hid (HG3.out.keeps k4 (.inl (.inl HOG.out)))
  have HQ4 := Lib.hid (HQ3.out.keeps k4 (fun b hb => .inr hb))
  have K4 := Lib.hid (K3.out.trans (k4.mono fun b (hb : own b ∧ b ≠ G) => .inl (.inl hb.1)))
  have HD4 := Lib.hid hd4.typed
  have HY4 := Lib.hid hy
  have HNO := Lib.hid hno
  clear k4 hop hd4 hy hno
  clear g0 g1 g2 g3 g4 g5 g6 g7 f1 f2 f3 f4 f5 f6 f7
  obtain ⟨g0, g1, g2, g3, g4, g5, g6, g7, gf, -⟩ := HG4.out
  have f1 := gf 1 (by omega)
  have f2 := gf 2 (by omega)
  have f3 := gf 3 (by omega)
  have f4 := gf 4 (by omega)
  have f5 := gf 5 (by omega)
  have f6 := gf 6 (by omega)
  have f7 := gf 7 (by omega)
  clear gf
  go_wp2_with fail
  have hg5 := HG4.out.putp (.pointer po') (fun s h => by cases h)
  have hq5 := HQ4.out.setc HG4.out.ns 1 (.pointer po')
  have hd5 := HD4.out.setCell (a := ⟨G, 1, none⟩) (.inl (.inl (.inl HOG.out))) (.pointer po')
  have hy5 : R.2.1 = 0 → ∃ l, po' = some ⟨l, 0, none⟩ ∧ WalAt (fun b => ((own b ∨ (w.heap.size ≤ b ∧ b < w1.heap.size)) ∨ TF w3 b) ∨ TF w4 b) (w4.setCell ⟨G, 1, none⟩ (.pointer po')) l d R.1 R.2.2 := fun h => by
    obtain ⟨l, h1, h2⟩ := HY4.out h
    exact ⟨l, h1, h2.typed.setCell (a := ⟨G, 1, none⟩) (.inl (.inl (.inl HOG.out))) _⟩
  have tf5 : ∀ b, TF (w4.setCell ⟨G, 1, none⟩ (.pointer po')) b → ((own b ∨ (w.heap.size ≤ b ∧ b < w1.heap.size)) ∨ TF w3 b) ∨ TF w4 b := tf_set (fun b hb => .inr hb) (.inl (.inl (.inl HOG.out))) 1 (.pointer po')
  have k5 := K4.out.trans (Keeps.setCell ⟨G, 1, none⟩ (.pointer po') fun b (hb : own b ∧ b ≠ G) => hb.2)
  generalize w4.setCell ⟨G, 1, none⟩ (.pointer po') = W5 at hg5 hq5 hd5 hy5 tf5 k5 ⊢
  have HG5 := Lib.hid hg5
  have HQ5 := Lib.hid hq5
  have HD5 := Lib.hid hd5
  have HY5 := Lib.hid hy5
  have TF5 := Lib.hid tf5
  have K5 := Lib.hid k5
  have hGW := cell_lt hg5.g0
  have hor := open_refuno (R := R) (x9 := x9) HR9.out (P := fun b => W5.heap.size ≤ b) hq5 fr hfr
  have HFL := Lib.hid (show R.2.1 = 0 → flat (loadL 0 T.files) = flat R.2.2 ∧ ofs (loadL 0 T.files) = ofs R.2.2 by rw [HR9.out]; intro h; exact absurd h (show ¬ (1 : Int) = 0 by decide))
  refine hor.mono ?_
  rintro e w6 ⟨q6, v6, rfl, hq6, hv6, b6⟩
  have HQ6 := Lib.hid hq6
  have HV6 := Lib.hid hv6
  obtain ⟨a6, c6, rfl, -, -, -⟩ := hq6
  obtain ⟨b1, e1, b2, e2, rfl, -, -, -⟩ := hv6
  have HG6 := Lib.hid (HG5.out.old b6)
  have HD6 := Lib.hid (HD5.out.fresh b6)
  have HY6 := Lib.hid (show R.2.1 = 0 → ∃ l, po' = some ⟨l, 0, none⟩ ∧ WalAt (fun b => (((own b ∨ (w.heap.size ≤ b ∧ b < w1.heap.size)) ∨ TF w3 b) ∨ TF w4 b) ∨ (W5.heap.size ≤ b ∧ b < w6.heap.size)) w6 l d R.1 R.2.2 from fun h => by
    obtain ⟨l, h1, h2⟩ := HY5.out h
    exact ⟨l, h1, h2.fresh b6⟩)
  have TF6 := Lib.hid (tf_below TF5.out b6)
  have K6 := Lib.hid (K5.out.trans (Keeps.of_below b6 (fun b (hb : own b ∧ b ≠ G) => Nat.lt_of_lt_of_le (HDK.out.own hb.1) K5.out.size)))
  clear b6 hor hg5 hq5 hd5 hy5 tf5 k5
  clear g0 g1 g2 g3 g4 g5 g6 g7 f1 f2 f3 f4 f5 f6 f7
  obtain ⟨g0, g1, g2, g3, g4, g5, g6, g7, gf, -⟩ := HG6.out
  have f1 := gf 1 (by omega)
  have f2 := gf 2 (by omega)
  have f3 := gf 3 (by omega)
  have f4 := gf 4 (by omega)
  have f5 := gf 5 (by omega)
  have f6 := gf 6 (by omega)
  have f7 := gf 7 (by omega)
  clear gf
  generalize hts : (if R.2.1 = 0 then flat (loadL 0 T.files) else []) = ts6 at HV6 ⊢
  generalize hos : (if R.2.1 = 0 then ofs (loadL 0 T.files) else []) = os6 at HV6 ⊢
  generalize hnn : (if R.2.1 = 0 then x9 else 0) = x6 at HV6 ⊢
  have HTS := Lib.hid hts
  have HOS := Lib.hid hos
  have HNN := Lib.hid hnn
  clear hts hos hnn
  obtain ⟨E, hE⟩ : ∃ E, E = R.2.1 := ⟨_, rfl⟩
  rw [← hE]
  have HE := Lib.hid hE
  have fin := opens_fin (own' := fun b => (((own b ∨ (w.heap.size ≤ b ∧ b < w1.heap.size)) ∨ TF w3 b) ∨ TF w4 b) ∨ (W5.heap.size ≤ b ∧ b < w6.heap.size)) (own := own) HG6.out HQ6.out (.inl (.inl (.inl (.inl HOG.out)))) TF6.out HD6.out HY6.out K6.out (fun b hb => .inl (.inl (.inl (.inl hb)))) HV6.out (show G < W5.heap.size from hGW) (fun b h1 h2 => .inr ⟨h1, h2⟩)
  have FIN := Lib.hid fin
  clear fin hE
  have h0 : E ≠ 0 := by rw [HE.out, HR9.out]; show ¬ (1 : Int) = 0; decide
  obtain rfl := HNO.out (by rw [← HE.out]; exact h0)
  have hb0 : (E == 0) = false := by simpa using h0
  go_wp2_with fail
  go_ret
  rw [← HT.out, ← HR9.out]
  obtain ⟨f1', f2', f3', f4', f5'⟩ := FIN.out _ rfl
  exact ⟨_, _, _, rfl, f1', f2', f3', fun h => absurd (HE.out.trans h) h0, fun h => rfl⟩
end Go.Proofs.YtkfmjkcomjmedaaGreat
namespace Go.Proofs.YtkfmjkcomjmedaaGreat
open Go.RowKit
set_option linter.unusedVariables false
set_option linter.unusedSimpArgs false

theorem keep_two {W W' : World} {B C i j base : Nat} {u v : Value} (h : W.cell? ⟨B, i, none⟩ = some u ∧ W.cell? ⟨C, j, none⟩ = some v) (hB : B < base) (hC : C < base) (hb : Below base W W') : W'.cell? ⟨B, i, none⟩ = some u ∧ W'.cell? ⟨C, j, none⟩ = some v :=
  ⟨(hb.cell (p := ⟨B, i, none⟩) hB).trans h.1, (hb.cell (p := ⟨C, j, none⟩) hC).trans h.2⟩
theorem keep_four {W W' : World} {B C i1 i2 i3 j base : Nat} {u1 u2 u3 v : Value} (h : W.cell? ⟨B, i1, none⟩ = some u1 ∧ W.cell? ⟨B, i2, none⟩ = some u2 ∧ W.cell? ⟨B, i3, none⟩ = some u3 ∧ W.cell? ⟨C, j, none⟩ = some v) (hB : B < base) (hC : C < base) (hb : Below base W W') : W'.cell? ⟨B, i1, none⟩ = some u1 ∧ W'.cell? ⟨B, i2, none⟩ = some u2 ∧ W'.cell? ⟨B, i3, none⟩ = some u3 ∧ W'.cell? ⟨C, j, none⟩ = some v :=
  ⟨(hb.cell (p := ⟨B, i1, none⟩) hB).trans h.1, (hb.cell (p := ⟨B, i2, none⟩) hB).trans h.2.1, (hb.cell (p := ⟨B, i3, none⟩) hB).trans h.2.2.1, (hb.cell (p := ⟨C, j, none⟩) hC).trans h.2.2.2⟩
set_option maxRecDepth 100000 in
set_option maxHeartbeats 8000000 in
theorem same_yes {own : Nat → Prop} {w : World} {G d : Nat} {p m : Value} {S : Ds} (h : SideD own w G d p S m) :
    Calls Tryz.prog 9 #[.pointer (some ⟨G, 0, none⟩)] w fun e w' => e = .returned (.bool true) ∧ Below w.heap.size w w' := by
  obtain ⟨C, hCS, hdk⟩ := h.dk
  have HF := Lib.hid hdk.facts
  have HDK := Lib.hid hdk
  have HCS := Lib.hid hCS
  obtain ⟨a, c, a1, n1, c1, a2, n2, c2, x, hg, hq, rfl⟩ := h.gx
  have HG0 := Lib.hid hg
  have HQ0 := Lib.hid hq
  obtain ⟨ln, hln⟩ : ∃ ln, ln = S.files.length := ⟨_, rfl⟩
  obtain ⟨nms, hnms⟩ : ∃ nms, nms = S.files.map (·.1) := ⟨_, rfl⟩
  have hnl : nms.length = ln := by rw [hnms, List.length_map, hln]
  have hl256 : ln ≤ 256 := by rw [hln]; rw [← hCS.1]; exact hdk.facts.2.1
  have HNL := Lib.hid hnl
  have HNX := Lib.hid (show ∀ k ∈ nms, k.length ≤ maxLen by rw [hnms]; intro k hk; obtain ⟨p, hp, rfl⟩ := List.mem_map.1 hk; exact (hdk.facts.2.2 p (by rw [hCS.1]; exact hp)).1)
  have HNC := Lib.hid (fun (W : World) (h : DiskAt own W d C) => names_any h)
  have HNR := Lib.hid (fun (W : World) (h : RefD W (.agg #[.slice a S.files.length c, .int .i64 S.fuse, .bool S.off]) S) => names_ref h (by omega))
  rw [hCS.1] at HNC
  rw [← hnms] at HNC HNR
  have HLN := Lib.hid hln
  clear h hg hq hnms hnl hln hCS hdk
  go_enter Tryz.func9, Tryz.ntmps9
  obtain ⟨g0, g1, g2, g3, g4, -, -, -, -, -⟩ := HG0.out
  go_wp2_with fail
  go_at_call 19
  refine (HNC.out _ HDK.out).mono ?_
  rintro e w1 ⟨v, rfl, hv, b1⟩
  have HG1 := Lib.hid (HG0.out.old b1)
  have HQ1 := Lib.hid (HQ0.out.old b1)
  have HD1 := Lib.hid (HDK.out.below b1)
  have B1 := Lib.hid b1
  obtain ⟨na, nc, rfl⟩ := own_slice hv
  have hrd1 : Rd w1 na nms := own_rd hv
  have RD1 := Lib.hid hrd1
  clear g0 g1 g2 g3 g4 b1 hv hrd1
  obtain ⟨g0, g1, g2, g3, g4, -, -, -, -, -⟩ := HG1.out
  go_wp2_with fail
  go_at_call 28
  refine (HNR.out _ HQ1.out).mono ?_
  rintro e w2 ⟨na2, nc2, rfl, rd2, b2⟩
  have HG2 := Lib.hid (HG1.out.old b2)
  have HQ2 := Lib.hid (HQ1.out.old b2)
  have HD2 := Lib.hid (HD1.out.below b2)
  have B2 := Lib.hid (bt B1.out b2)
  have RD2 := Lib.hid (RD1.out.old b2)
  have RR2 := Lib.hid rd2
  clear g0 g1 g2 g3 g4 b2 rd2
  go_wp2_with fail
  go_at_call 10
  refine (same_at na na2 _ _ _ _ nms nms true w2 RD2.out RR2.out rfl (by rw [HNL.out, HLN.out]) (by rw [HNL.out]; omega) (by simp)).mono ?_
  rintro e w3 ⟨rfl, b3⟩
  have HG3 := Lib.hid (HG2.out.old b3)
  have HQ3 := Lib.hid (HQ2.out.old b3)
  have HD3 := Lib.hid (HD2.out.below b3)
  have B3 := Lib.hid (bt B2.out b3)
  have RD3 := Lib.hid (RD2.out.old b3)
  clear b3
  rw [HNL.out]
  go_wp2_with fail
  go_loopw [4] (fun i wr => ∃ k : Nat, i = .int .i64 k ∧ k ≤ ln ∧ Below w3.heap.size w3 wr) (fun i _ => ln - (intOf i).toNat)
  case atStart => exact ⟨0, rfl, Nat.zero_le _, Below.refl _ _⟩
  case round =>
    obtain ⟨k, rfl, hk, bw⟩ := hrel
    have HGr := Lib.hid (HG3.out.old bw)
    have HQr := Lib.hid (HQ3.out.old bw)
    have HDr := Lib.hid (HD3.out.below bw)
    have RDr := Lib.hid (RD3.out.old bw)
    have Br := Lib.hid (bt B3.out bw)
    have BW := Lib.hid bw
    clear bw
    obtain ⟨g0, g1, g2, g3, g4, -, -, -, -, -⟩ := HGr.out
    by_cases hlt : k < ln
    · have hkc : (k : Int) < ln := by omega
      cases hoff : S.off with
      | true =>
        rw [hoff] at g4
        go_wp2_with fail
        go_ret
        exact ⟨rfl, Br.out⟩
      | false =>
        have HOFF := Lib.hid hoff
        rw [hoff] at g4
        have hkl : k < nms.length := by rw [HNL.out]; exact hlt
        have hnx := HNX.out nms[k] (List.getElem_mem hkl)
        have hct : ∃ b off, na = some ⟨b, off, none⟩ ∧ b < wr.heap.size ∧ wr.cell? ⟨b, off + k, none⟩ = some (.string ⟨nms[k].toArray⟩) := by
          rcases RDr.out with h | ⟨b, off, h, hb, hc⟩
          · rw [h] at hkl; exact absurd hkl (Nat.not_lt_zero _)
          · exact ⟨b, off, h, hb, hc k hkl⟩
        obtain ⟨b, off, rfl, hb, hc⟩ := hct
        obtain ⟨nm, hnm⟩ : ∃ nm, nm = nms[k] := ⟨_, rfl⟩
        rw [← hnm] at hc hnx
        have HRC := Lib.hid (fun (W : World) (h : DiskAt own W d C) => read_any h ⟨nm.toArray⟩ (by rw [size_mkl]; exact hnx))
        have HRR := Lib.hid (fun (W : World) (h : RefD W (.agg #[.slice a S.files.length c, .int .i64 S.fuse, .bool S.off]) S) => read_ref h (by rw [← HLN.out]; omega) nm hnx)
        simp only at HRC
        obtain ⟨bs, hbs⟩ : ∃ bs, bs = S.bytesOf nm := ⟨_, rfl⟩
        obtain ⟨su, hsu⟩ : ∃ su, su = S.sureOf nm := ⟨_, rfl⟩
        obtain ⟨E, hE⟩ : ∃ E, E = S.lookE nm := ⟨_, rfl⟩
        rw [show C.bytesOf nm = S.bytesOf nm by unfold Ds.bytesOf Ds.lookE; rw [HCS.out.1, HCS.out.2.1], show C.lookE nm = S.lookE nm by unfold Ds.lookE; rw [HCS.out.1, HCS.out.2.1]] at HRC
        rw [← hbs, ← hE] at HRC
        rw [← hbs, ← hE, ← hsu] at HRR
        rw [HOFF.out] at HRR
        have HQr := Lib.hid (show RefD wr (.agg #[.slice a S.files.length c, .int .i64 S.fuse, .bool false]) S by rw [← HOFF.out]; exact HQr.out)
        clear hnm hbs hsu hE hnx hoff
        have hG := cell_lt g0
        go_wp2_with fail
        have SS := And.intro g0 hc
        go_region_held3 (fun w' => w'.cell? ⟨G, 0, none⟩ = some (.pointer (some ⟨d, 0, none⟩)) ∧ w'.cell? ⟨b, off + k, none⟩ = some (.string ⟨nm.toArray⟩))
          (first
            | assumption
            | (refine keep_two (base := wr.heap.size) SS hG hb ?_
               repeat (first | assumption | exact Below.refl _ _ | (refine Below.drew ?_))))
          (first
            | (go_at_call 29; (with_reducible refine (HRC.out _ HDr.out).mono ?_); rintro e w5 ⟨rfl, b5⟩; have z5 : Below wr.heap.size wr w5 := b5; clear b5)
            | (go_at_call 29; (with_reducible refine (HRC.out _ (HDr.out.below ((Below.refl _ _).drew))).mono ?_); rintro e w5 ⟨rfl, b5⟩; have z5 : Below wr.heap.size wr w5 := bt ((Below.refl _ _).drew) b5; clear b5))
        have HG5 := Lib.hid (HGr.out.old z5)
        have HQ5 := Lib.hid (HQr.out.old z5)
        have hc5 := (z5.cell (p := ⟨b, off + k, none⟩) hb).trans hc
        have Z5 := Lib.hid z5
        have hs5 := z5.size
        clear g0 g1 g2 g3 g4 hc SS z5
        obtain ⟨-, -, g2, g3, g4, -, -, -, -, -⟩ := HG5.out
        rw [HOFF.out] at g4
        have hG5 : G < w5.heap.size := by omega
        have hb5 : b < w5.heap.size := by omega
        clear hs5 hG hb
        go_wp2_with fail
        have SS := And.intro g2 (And.intro g3 (And.intro g4 hc5))
        clear g2 g3 g4 hc5
        go_region_held3 (fun w' => w'.cell? ⟨G, 2, none⟩ = some (.slice a S.files.length c) ∧ w'.cell? ⟨G, 3, none⟩ = some (.int .i64 S.fuse) ∧ w'.cell? ⟨G, 4, none⟩ = some (.bool false) ∧ w'.cell? ⟨b, off + k, none⟩ = some (.string ⟨nm.toArray⟩))
          (first
            | assumption
            | (refine keep_four (base := w5.heap.size) SS hG5 hb5 ?_
               repeat (first | assumption | exact Below.refl _ _ | (refine Below.drew ?_))))
          (first
            | (go_at_call 30; (with_reducible refine (HRR.out _ HQ5.out).mono ?_); rintro e w7 ⟨rfl, b7⟩; have z7 : Below w5.heap.size w5 w7 := b7; clear b7)
            | (go_at_call 30; (with_reducible refine (HRR.out _ (HQ5.out.old ((Below.refl _ _).drew))).mono ?_); rintro e w7 ⟨rfl, b7⟩; have z7 : Below w5.heap.size w5 w7 := bt ((Below.refl _ _).drew) b7; clear b7))
        have hbe : ((⟨bs.toArray⟩ : ByteArray).toList == (⟨bs.toArray⟩ : ByteArray).toList) = true := by simp
        have hend := Lib.hid (BW.out.trans ((Z5.out.trans (z7.mono (by have := Z5.out.size; omega))).mono (by have := BW.out.size; omega)))
        clear z7 SS
        go_wp2_with fail
        go_roundw
        case rel => exact ⟨k + 1, by go_num, hlt, hend.out⟩
        case measure => simp [intOf]; omega
    · obtain rfl : k = ln := by omega
      have hk2 : ¬ (k : Int) < k := by omega
      go_wp2_with fail
      go_ret
      exact ⟨rfl, Br.out⟩
end Go.Proofs.YtkfmjkcomjmedaaGreat
namespace Go.Proofs.YtkfmjkcomjmedaaGreat
open Go.RowKit
set_option linter.unusedVariables false
set_option linter.unusedSimpArgs false

section
variable {C S : Ds}
theorem EqD.zero (h : EqD C S) : (C.fuse = 0 ↔ S.fuse = 0) ∧ (0 < C.fuse ↔ 0 < S.fuse) := by
  rcases h.2.2 with e | ⟨h1, h2⟩
  · rw [e]; exact ⟨Iff.rfl, Iff.rfl⟩
  · omega
theorem EqD.begE (h : EqD C S) (ok : Bool) : Go.Proofs.YtkfmjkcomjmedaaGreat.begE ok C.fuse C.off = Go.Proofs.YtkfmjkcomjmedaaGreat.begE ok S.fuse S.off := by
  unfold Go.Proofs.YtkfmjkcomjmedaaGreat.begE
  simp only [h.2.1, h.zero.1]
theorem EqD.chgE (h : EqD C S) (ok : Bool) (n : List UInt8) : C.chgE ok n = S.chgE ok n := by
  unfold Ds.chgE
  rw [h.begE, h.1]
theorem EqD.fz (h : EqD C S) (ok : Bool) : begF ok C.fuse C.off = begF ok S.fuse S.off ∨ (begF ok C.fuse C.off < 0 ∧ begF ok S.fuse S.off < 0) := by
  unfold begF
  simp only [h.2.1, h.zero.2]
  rcases h.2.2 with e | ⟨h1, h2⟩
  · left; rw [e]
  · right
    rw [if_neg (by omega), if_neg (by omega)]
    exact ⟨h1, h2⟩
theorem EqD.oz (h : EqD C S) (ok : Bool) : begO ok C.fuse C.off = begO ok S.fuse S.off := by
  unfold begO
  simp only [h.2.1, h.zero.1]
theorem EqD.begin (h : EqD C S) (ok : Bool) : EqD (C.begin ok) (S.begin ok) := ⟨h.1, h.oz ok, h.fz ok⟩
theorem EqD.with_ (h : EqD C S) (ok : Bool) (F : List (List UInt8 × Fl)) : EqD ⟨F, (C.begin ok).fuse, (C.begin ok).off⟩ ⟨F, (S.begin ok).fuse, (S.begin ok).off⟩ := ⟨rfl, h.oz ok, h.fz ok⟩
theorem EqD.append (h : EqD C S) (n s : List UInt8) : (C.append n s).2 = (S.append n s).2 ∧ EqD (C.append n s).1 (S.append n s).1 := by
  unfold Ds.append
  rw [h.chgE, h.1]
  split
  · split
    · split
      · exact ⟨rfl, h.begin _⟩
      · exact ⟨rfl, h.with_ _ _⟩
    · exact ⟨rfl, h.begin _⟩
  · exact ⟨rfl, h.begin _⟩
theorem EqD.sync (h : EqD C S) (n : List UInt8) : (C.sync n).2 = (S.sync n).2 ∧ EqD (C.sync n).1 (S.sync n).1 := by
  unfold Ds.sync
  rw [h.chgE, h.1]
  split
  · split
    · exact ⟨rfl, h.with_ _ _⟩
    · exact ⟨rfl, h.begin _⟩
  · exact ⟨rfl, h.begin _⟩
theorem EqD.make (h : EqD C S) (n : List UInt8) : (C.make n).2 = (S.make n).2 ∧ EqD (C.make n).1 (S.make n).1 := by
  unfold Ds.make
  rw [h.begE, h.1]
  split
  · split
    · exact ⟨rfl, h.begin _⟩
    · split
      · exact ⟨rfl, h.begin _⟩
      · exact ⟨rfl, h.with_ _ _⟩
  · exact ⟨rfl, h.begin _⟩
theorem EqD.remove (h : EqD C S) (n : List UInt8) : (C.remove n).2 = (S.remove n).2 ∧ EqD (C.remove n).1 (S.remove n).1 := by
  unfold Ds.remove
  rw [h.chgE, h.1]
  split
  · exact ⟨rfl, h.with_ _ _⟩
  · exact ⟨rfl, h.begin _⟩
end
theorem EqD.rmL (bl : Int) : ∀ (l : List (List UInt8)) {C S : Ds}, EqD C S → (Go.Proofs.YtkfmjkcomjmedaaGreat.rmL bl C l).2 = (Go.Proofs.YtkfmjkcomjmedaaGreat.rmL bl S l).2 ∧ EqD (Go.Proofs.YtkfmjkcomjmedaaGreat.rmL bl C l).1 (Go.Proofs.YtkfmjkcomjmedaaGreat.rmL bl S l).1
  | [], C, S, h => ⟨rfl, h⟩
  | k :: r, C, S, h => by
    have hr := h.remove k
    unfold Go.Proofs.YtkfmjkcomjmedaaGreat.rmL
    split
    · split
      · rw [hr.1]
        split
        · exact EqD.rmL bl r hr.2
        · exact ⟨hr.1, hr.2⟩
      · exact EqD.rmL bl r h
    · exact EqD.rmL bl r h
theorem EqD.rm {C S : Ds} (h : EqD C S) (bl : Int) : (C.rm bl).2 = (S.rm bl).2 ∧ EqD (C.rm bl).1 (S.rm bl).1 := by
  unfold Ds.rm
  rw [h.1]
  exact EqD.rmL bl _ h
theorem roll_off {S : Ds} {n : Nat} (h : S.off = true) (hn : namL (lname n) = true) : S.sync (lname n) = (S, 50) := by
  have hc : S.chgE (namL (lname n)) (lname n) = 50 := by
    unfold Ds.chgE begE
    rw [hn, h]
    simp
  have hb : S.begin (namL (lname n)) = S := by
    unfold Ds.begin begF begO
    rw [hn, h]
    obtain ⟨a, b, c⟩ := S
    simp only at h
    subst h
    simp
  unfold Ds.sync
  rw [hc, if_neg (by decide), hb]
theorem roll_eq {S : Ds} {n : Nat} (hn : n ≤ 99999997) (hm : namL (lname n) = true) : S.roll n = rollR S n := by
  unfold Ds.roll rollR mayE
  cases ho : S.off with
  | true =>
    rw [if_pos rfl, roll_off ho hm]
    simp
  | false =>
    have h1 : ¬ 99999998 < n + 1 := by omega
    simp [h1]
theorem EqD.roll {C S : Ds} (h : EqD C S) (n : Nat) : (rollR C n).2 = (rollR S n).2 ∧ EqD (rollR C n).1 (rollR S n).1 := by
  have hs := h.sync (lname n)
  unfold rollR
  rw [hs.1]
  split
  · exact hs.2.make _
  · exact ⟨hs.1, hs.2⟩
theorem dT_rep (bl : Int) (n : Nat) : ∀ (ts : List (List UInt8)) (X : List (List UInt8)) (Y : List Nat), dT bl (ts ++ X) (List.replicate ts.length n ++ Y) = (if (n : Int) < bl then [] else ts) ++ dT bl X Y
  | [], X, Y => by simp
  | t :: ts, X, Y => by
    have ih := dT_rep bl n ts X Y
    rw [List.length_cons, List.replicate_succ, List.cons_append, List.cons_append, dT, ih]
    split <;> simp
theorem dO_rep (bl : Int) (n : Nat) : ∀ (ts : List (List UInt8)) (X : List (List UInt8)) (Y : List Nat), dO bl (ts ++ X) (List.replicate ts.length n ++ Y) = (if (n : Int) < bl then [] else List.replicate ts.length n) ++ dO bl X Y
  | [], X, Y => by simp
  | t :: ts, X, Y => by
    have ih := dO_rep bl n ts X Y
    rw [List.length_cons, List.replicate_succ, List.cons_append, List.cons_append, dO, ih]
    split <;> simp
theorem flat_cons (p : Nat × List (List UInt8)) (L : Lt) : flat (p :: L) = p.2 ++ flat L := by simp [flat]
theorem ofs_cons (p : Nat × List (List UInt8)) (L : Lt) : ofs (p :: L) = List.replicate p.2.length p.1 ++ ofs L := by simp [ofs]
theorem drop_flat (bl : Int) : ∀ L : Lt, dT bl (flat L) (ofs L) = flat (L.filter (fun p => !decide ((p.1 : Int) < bl))) ∧ dO bl (flat L) (ofs L) = ofs (L.filter (fun p => !decide ((p.1 : Int) < bl)))
  | [] => ⟨by simp [flat, ofs, dT], by simp [flat, ofs, dO]⟩
  | p :: L => by
    obtain ⟨h1, h2⟩ := drop_flat bl L
    rw [flat_cons, ofs_cons, dT_rep, dO_rep, h1, h2, List.filter_cons]
    by_cases hp : (p.1 : Int) < bl
    · simp [hp]
    · simp [hp, flat_cons, ofs_cons]
end Go.Proofs.YtkfmjkcomjmedaaGreat
namespace Go.Proofs.YtkfmjkcomjmedaaGreat
open Go.RowKit
set_option linter.unusedVariables false
set_option linter.unusedSimpArgs false

/-- What the law has while there is a log. -/
structure SideL (own : Nat → Prop) (w : World) (G d l : Nat) (S : Ds) (L : Lt) (n : Nat) (m : Value) : Prop where
  sd : SideD own w G d (.pointer (some ⟨l, 0, none⟩)) S m
  wl : ∃ C, EqD C S ∧ WalAt own w l d C L
  rl : RefL (fun b => own b ∧ b ≠ G) w m (flat L) (ofs L) n
/-- Is it an error behind which the law opens anew? -/
def refB (F : Int) : Bool := F == 50 || (F == 2 || F == 3)
/-- What does leaves. -/
def DoE (own : Nat → Prop) (w : World) (G d l : Nat) (T : Ds) (F : Int) (L' : Lt) (n' : Nat) (e : Ending) (w' : World) : Prop :=
  ∃ own' m', e = .returned (.tuple #[.bool true, .bool (refB F)]) ∧ (∀ b, own b → own' b) ∧ Keeps (fun b => own b ∧ b ≠ G) w w' ∧ SideL own' w' G d l T L' n' m'
theorem does_fin1 {P own own' : Nat → Prop} {w w7 : World} {G d l n' : Nat} {T C : Ds} {L' : Lt} {a : Option Addr} {nn c : Nat} {f : Int} {o : Bool} {a1 : Option Addr} {n1 c1 : Nat} {a2 : Option Addr} {n2 c2 : Nat} {x : Int} {a7 : Option Addr} {c7 : Nat} {b1 b2 : Option Addr} {m1 m2 e1 e2 : Nat}
    (hg : Gx w7 G d (.pointer (some ⟨l, 0, none⟩)) a nn c f o a1 n1 c1 a2 n2 c2 x) (hq : RefD w7 (.agg #[.slice a7 T.files.length c7, .int .i64 T.fuse, .bool T.off]) T) (hG : own' G) (htf : ∀ b, TF w7 b → own' b) (hCT : EqD C T) (hw : WalAt own' w7 l d C L')
    (hk : Keeps (fun b => own b ∧ b ≠ G) w w7) (hoo : ∀ b, own b → own' b) (hv : RefL P w7 (.agg #[.slice b1 m1 e1, .slice b2 m2 e2, .int .i64 (n' : Int)]) (flat L') (ofs L') n') (hP : ∀ b, P b → b ≠ G) (hPo : ∀ b, b < w7.heap.size → P b → own' b) :
    ∀ W8, W8 = putm (putq w7 G a7 T.files.length c7 T.fuse T.off) G b1 m1 e1 b2 m2 e2 (n' : Int) → (∀ b, own b → own' b) ∧ Keeps (fun b => own b ∧ b ≠ G) w W8 ∧ SideL own' W8 G d l T L' n' (.agg #[.slice b1 m1 e1, .slice b2 m2 e2, .int .i64 (n' : Int)]) := by
  rintro W8 rfl
  have g2 := hg.putq a7 T.files.length c7 T.fuse T.off
  have q2 := RefD.inq hg hq a7 T.files.length c7 T.fuse T.off
  have g3 := g2.putm b1 m1 e1 b2 m2 e2 (n' : Int)
  have q3 := RefD.inm g2 q2 b1 m1 e1 b2 m2 e2 (n' : Int)
  have ks : ∀ (own : Nat → Prop), (∀ b, own b → b ≠ G) → Keeps own w7 (putm (putq w7 G a7 T.files.length c7 T.fuse T.off) G b1 m1 e1 b2 m2 e2 (n' : Int)) := fun own h => (((((Keeps.setCell ⟨G, 2, none⟩ _ h).trans (Keeps.setCell ⟨G, 3, none⟩ _ h)).trans (Keeps.setCell ⟨G, 4, none⟩ _ h)).trans (Keeps.setCell ⟨G, 5, none⟩ _ h)).trans (Keeps.setCell ⟨G, 6, none⟩ _ h)).trans (Keeps.setCell ⟨G, 7, none⟩ _ h)
  have hw8 : WalAt own' (putm (putq w7 G a7 T.files.length c7 T.fuse T.off) G b1 m1 e1 b2 m2 e2 (n' : Int)) l d C L' := ((((((hw).setCell (a := ⟨G, 2, none⟩) hG _).setCell (a := ⟨G, 3, none⟩) hG _).setCell (a := ⟨G, 4, none⟩) hG _).setCell (a := ⟨G, 5, none⟩) hG _).setCell (a := ⟨G, 6, none⟩) hG _).setCell (a := ⟨G, 7, none⟩) hG _
  refine ⟨hoo, hk.trans (ks _ fun b hb => hb.2), ⟨⟨a7, c7, b1, m1, e1, b2, m2, e2, (n' : Int), g3, q3, rfl⟩, hG, ?_, ⟨C, hCT, hw8.toDisk⟩⟩, ⟨C, hCT, hw8⟩, ?_⟩
  · exact tf_set (tf_set (tf_set (tf_set (tf_set (tf_set (htf) hG 2 _) hG 3 _) hG 4 _) hG 5 _) hG 6 _) hG 7 _
  · have h1 : RefL (fun b => own' b ∧ b ≠ G) w7 (.agg #[.slice b1 m1 e1, .slice b2 m2 e2, .int .i64 (n' : Int)]) (flat L') (ofs L') n' := hv.mono fun b h h2 => ⟨hPo b h h2, hP b h2⟩
    exact h1.keeps (ks (fun b => own' b ∧ b ≠ G) fun b hb => hb.2) (fun b hb => hb)
theorem does_fin2 {P own own' : Nat → Prop} {w w7 : World} {G d l n' : Nat} {T C : Ds} {L' : Lt} {a : Option Addr} {nn c : Nat} {f : Int} {o : Bool} {a1 : Option Addr} {n1 c1 : Nat} {a2 : Option Addr} {n2 c2 : Nat} {x : Int} {a7 : Option Addr} {c7 : Nat} {b1 b2 : Option Addr} {m1 m2 e1 e2 : Nat}
    (hg : Gx w7 G d (.pointer (some ⟨l, 0, none⟩)) a nn c f o a1 n1 c1 a2 n2 c2 x) (hq : RefD w7 (.agg #[.slice a7 T.files.length c7, .int .i64 T.fuse, .bool T.off]) T) (hG : own' G) (htf : ∀ b, TF w7 b → own' b) (hCT : EqD C T) (hw : WalAt own' w7 l d C L')
    (hk : Keeps (fun b => own b ∧ b ≠ G) w w7) (hoo : ∀ b, own b → own' b) (hv : RefL P w7 (.agg #[.slice b1 m1 e1, .slice b2 m2 e2, .int .i64 (n' : Int)]) (flat L') (ofs L') n') (hP : ∀ b, P b → b ≠ G) (hPo : ∀ b, b < w7.heap.size → P b → own' b) :
    ∀ W8, W8 = putq (putm w7 G b1 m1 e1 b2 m2 e2 (n' : Int)) G a7 T.files.length c7 T.fuse T.off → (∀ b, own b → own' b) ∧ Keeps (fun b => own b ∧ b ≠ G) w W8 ∧ SideL own' W8 G d l T L' n' (.agg #[.slice b1 m1 e1, .slice b2 m2 e2, .int .i64 (n' : Int)]) := by
  rintro W8 rfl
  have g2 := hg.putm b1 m1 e1 b2 m2 e2 (n' : Int)
  have q2 := RefD.inm hg hq b1 m1 e1 b2 m2 e2 (n' : Int)
  have g3 := g2.putq a7 T.files.length c7 T.fuse T.off
  have q3 := RefD.inq g2 q2 a7 T.files.length c7 T.fuse T.off
  have ks : ∀ (own : Nat → Prop), (∀ b, own b → b ≠ G) → Keeps own w7 (putq (putm w7 G b1 m1 e1 b2 m2 e2 (n' : Int)) G a7 T.files.length c7 T.fuse T.off) := fun own h => (((((Keeps.setCell ⟨G, 5, none⟩ _ h).trans (Keeps.setCell ⟨G, 6, none⟩ _ h)).trans (Keeps.setCell ⟨G, 7, none⟩ _ h)).trans (Keeps.setCell ⟨G, 2, none⟩ _ h)).trans (Keeps.setCell ⟨G, 3, none⟩ _ h)).trans (Keeps.setCell ⟨G, 4, none⟩ _ h)
  have hw8 : WalAt own' (putq (putm w7 G b1 m1 e1 b2 m2 e2 (n' : Int)) G a7 T.files.length c7 T.fuse T.off) l d C L' := ((((((hw).setCell (a := ⟨G, 5, none⟩) hG _).setCell (a := ⟨G, 6, none⟩) hG _).setCell (a := ⟨G, 7, none⟩) hG _).setCell (a := ⟨G, 2, none⟩) hG _).setCell (a := ⟨G, 3, none⟩) hG _).setCell (a := ⟨G, 4, none⟩) hG _
  refine ⟨hoo, hk.trans (ks _ fun b hb => hb.2), ⟨⟨a7, c7, b1, m1, e1, b2, m2, e2, (n' : Int), g3, q3, rfl⟩, hG, ?_, ⟨C, hCT, hw8.toDisk⟩⟩, ⟨C, hCT, hw8⟩, ?_⟩
  · exact tf_set (tf_set (tf_set (tf_set (tf_set (tf_set (htf) hG 5 _) hG 6 _) hG 7 _) hG 2 _) hG 3 _) hG 4 _
  · have h1 : RefL (fun b => own' b ∧ b ≠ G) w7 (.agg #[.slice b1 m1 e1, .slice b2 m2 e2, .int .i64 (n' : Int)]) (flat L') (ofs L') n' := hv.mono fun b h h2 => ⟨hPo b h h2, hP b h2⟩
    exact h1.keeps (ks (fun b => own' b ∧ b ≠ G) fun b hb => hb.2) (fun b hb => hb)
end Go.Proofs.YtkfmjkcomjmedaaGreat
