/-
  Layer 5 (fs): what a disk is in memory, its files, what it is made of in plain; how it stays behind what others do, and what its own doings make of it. Conditions: none.
-/
import Derived.Test.YthikedhbjphmeaaRows
import Derived.Test.YthikedhbjphmeaaDm
import Derived.Lib.AppendStr
import Derived.Lib.Hide
namespace Go.Proofs.Ythikedhbjphmeaa
open Go.RowKit Go.Lib
set_option linter.unusedVariables false

/-! ### what stays -/
/-- The blocks of 'own' hold what they held; nothing else is said. -/
structure Keeps (own : Nat → Prop) (w w' : World) : Prop where
  os : w'.os = w.os
  tape : w'.tape = w.tape
  output : w'.output = w.output
  size : w.heap.size ≤ w'.heap.size
  block : ∀ b, own b → w'.heap[b]? = w.heap[b]?
theorem Keeps.refl (own : Nat → Prop) (w : World) : Keeps own w w := ⟨rfl, rfl, rfl, Nat.le_refl _, fun _ _ => rfl⟩
theorem Keeps.trans {own : Nat → Prop} {a b c : World} (h : Keeps own a b) (k : Keeps own b c) : Keeps own a c :=
  ⟨k.os.trans h.os, k.tape.trans h.tape, k.output.trans h.output, Nat.le_trans h.size k.size, fun i hi => (k.block i hi).trans (h.block i hi)⟩
theorem Keeps.mono {own own' : Nat → Prop} {w w' : World} (h : Keeps own w w') (ho : ∀ b, own' b → own b) : Keeps own' w w' := ⟨h.os, h.tape, h.output, h.size, fun b hb => h.block b (ho b hb)⟩
theorem Keeps.below {own : Nat → Prop} {w w' : World} (h : Keeps own w w') {B : Nat} (ho : ∀ b, b < B → own b) : Below B w w' := ⟨h.os, h.tape, h.output, h.size, fun b hb => h.block b (ho b hb)⟩
theorem Keeps.of_below {own : Nat → Prop} {w w' : World} {B : Nat} (h : Below B w w') (ho : ∀ b, own b → b < B) : Keeps own w w' := ⟨h.os, h.tape, h.output, h.size, fun b hb => h.block b (ho b hb)⟩
theorem Keeps.of_grown {own : Nat → Prop} {w w' : World} {row : Option Nat} (h : w.grownBy w' row) (ho : ∀ b, own b → b < w.heap.size ∧ some b ≠ row) : Keeps own w w' :=
  ⟨h.os, h.tape, h.output, h.size, fun b hb => h.block b (ho b hb).1 (ho b hb).2⟩
theorem Keeps.setCell {own : Nat → Prop} {w : World} (a : Addr) (u : Value) (ho : ∀ b, own b → b ≠ a.block) : Keeps own w (w.setCell a u) :=
  ⟨rfl, rfl, rfl, by simp [World.setCell], fun b hb => Below.heap_setCell _ _ _ _ (ho b hb)⟩
theorem Keeps.alloc {own : Nat → Prop} (w : World) (o : Obj) (ho : ∀ b, own b → b < w.heap.size) : Keeps own w (w.alloc o) :=
  ⟨rfl, rfl, rfl, by simp, fun b hb => Below.heap_alloc _ _ _ (ho b hb)⟩
theorem Keeps.drew {own : Nat → Prop} {a w : World} (h : Keeps own a w) : Keeps own a w.drew := ⟨h.os, h.tape, h.output, h.size, h.block⟩
theorem Keeps.cell {own : Nat → Prop} {w w' : World} (h : Keeps own w w') : ∀ b o, own b → w'.cell? ⟨b, o, none⟩ = w.cell? ⟨b, o, none⟩ := fun b o hb => World.cell?_of_block (w := w) (h.block b hb)
theorem Keeps.frozen {own : Nat → Prop} {w w' : World} (h : Keeps own w w') : ∀ b o, own b → w'.frozen? ⟨b, o, none⟩ = w.frozen? ⟨b, o, none⟩ := fun b o hb => World.frozen?_of_block (w := w) (h.block b hb)

/-! ### plain -/
structure Fl where
  bytes : List UInt8
  sure : Nat
structure Gf where
  fl : Fl
  blk : Nat
  row : Option Nat
structure Ds where
  files : List (List UInt8 × Fl)
  fuse : Int
  off : Bool

/-! ### in memory -/
def FileAt (w : World) (g : Gf) : Prop :=
  ∃ v, w.heap[g.blk]? = some (.cells #[v, .int .i64 (g.fl.sure : Int)] 81 (0, 0)) ∧ w.ownsRow 0 5 1 v g.fl.bytes.length (bv g.fl.bytes) ∧ v.ownBlock = g.row ∧ g.fl.sure ≤ g.fl.bytes.length ∧ g.fl.bytes.length ≤ 4194304
structure Dsk (own : Nat → Prop) (w : World) (d m : Nat) (G : List (List UInt8 × Gf)) (fuse : Int) (off : Bool) : Prop where
  db : w.heap[d]? = some (.cells #[.pointer (some ⟨d, 0, none⟩), .map (some m), .int .i64 fuse, .bool off] 45 (0, 0))
  mp : w.ownsMap Try.prog 9 fR m G.length (fD (mapL Gf.blk G))
  srt : Srt G
  file : ∀ p ∈ G, FileAt w p.2
  blk : ∀ p ∈ G, ∀ q ∈ G, p.2.blk = q.2.blk → p.1 = q.1
  row : ∀ p ∈ G, ∀ q ∈ G, ∀ r, p.2.row = some r → q.2.row = some r → p.1 = q.1
  len : G.length ≤ 256
  fz : -9223372036854775808 ≤ fuse ∧ fuse ≤ 9223372036854775807
  own : ∀ b, own b → b < w.heap.size ∧ b ≠ d ∧ b ≠ m ∧ ∀ p ∈ G, b ≠ p.2.blk ∧ p.2.row ≠ some b
def DiskAt (own : Nat → Prop) (w : World) (d : Nat) (S : Ds) : Prop := ∃ m G, Dsk own w d m G S.fuse S.off ∧ mapL Gf.fl G = S.files

theorem heap_lt {w : World} {b : Nat} {o : Obj} (h : w.heap[b]? = some o) : b < w.heap.size := (Array.getElem?_eq_some_iff.1 h).1
theorem FileAt.lt {w : World} {g : Gf} (h : FileAt w g) : g.blk < w.heap.size := by obtain ⟨v, h, _⟩ := h; exact heap_lt h
theorem FileAt.rowAt {w : World} {g : Gf} (h : FileAt w g) {r : Nat} (hr : g.row = some r) : ∃ cur fz, w.heap[r]? = some (.cells cur 5 fz) := by
  obtain ⟨v, _, ho, hv, _⟩ := h
  rw [hr] at hv
  rcases ho.2 with ⟨rfl, _⟩ | ⟨b, cap, cur, rfl, _, hh, _⟩
  · simp [Value.ownBlock] at hv
  · simp [Value.ownBlock] at hv
    subst hv
    exact ⟨cur, _, hh⟩
theorem FileAt.row_lt {w : World} {g : Gf} (h : FileAt w g) {r : Nat} (hr : g.row = some r) : r < w.heap.size := by obtain ⟨c, f, h⟩ := h.rowAt hr; exact heap_lt h
theorem own_same {w w' : World} {base t size n : Nat} {v : Value} {xs : List Value} (h : w.ownsRow base t size v n xs) (hr : ∀ r, v.ownBlock = some r → w'.heap[r]? = w.heap[r]?) : w'.ownsRow base t size v n xs := by
  rcases h.2 with h2 | ⟨g, cap, cur, hv, hbg, hh, h3⟩
  · exact ⟨h.1, .inl h2⟩
  · exact ⟨h.1, .inr ⟨g, cap, cur, hv, hbg, by rw [hr g (by rw [hv]; rfl)]; exact hh, h3⟩⟩
theorem FileAt.same {w w' : World} {g : Gf} (h : FileAt w g) (hb : w'.heap[g.blk]? = w.heap[g.blk]?) (hr : ∀ r, g.row = some r → w'.heap[r]? = w.heap[r]?) : FileAt w' g := by
  obtain ⟨v, h1, h2, h3, h4⟩ := h
  exact ⟨v, hb.trans h1, own_same h2 (by rw [h3]; exact hr), h3, h4⟩
theorem map_same {P : Program} {k : TypeId} {R : Value → Option (DataW Unit × List MemPlace)} {w w' : World} {b n : Nat} {D : DataW Unit} (h : w.ownsMap P k R b n D) (hb : w'.heap[b]? = w.heap[b]?) : w'.ownsMap P k R b n D := by
  obtain ⟨es, clock, h1, h2⟩ := h
  exact ⟨es, clock, hb.trans h1, h2⟩
theorem map_exact {P : Program} {k : TypeId} {R : Value → Option (DataW Unit × List MemPlace)} {w : World} {b n : Nat} {D : DataW Unit} (h : w.ownsMap P k R b n D) : w.ownsMap P k R b (Maps.size D) D := by
  obtain ⟨es, clock, h1, h2, h3, rfl⟩ := h
  exact ⟨es, clock, h1, h2, by simp [Maps.size, length_sorted], rfl⟩

section
variable {own : Nat → Prop} {w w' : World} {d m : Nat} {G : List (List UInt8 × Gf)} {fuse : Int} {off : Bool}
theorem Dsk.d_lt (h : Dsk own w d m G fuse off) : d < w.heap.size := heap_lt h.db
theorem Dsk.m_lt (h : Dsk own w d m G fuse off) : m < w.heap.size := h.mp.lt
theorem Dsk.m_obj (h : Dsk own w d m G fuse off) : ∃ es c, w.heap[m]? = some (.map es c) := by obtain ⟨es, c, h, _⟩ := h.mp; exact ⟨es, c, h⟩
theorem Dsk.dm (h : Dsk own w d m G fuse off) : d ≠ m := by
  rintro rfl
  obtain ⟨es, c, h2⟩ := h.m_obj
  rw [h.db] at h2; cases h2
theorem FileAt.not_map {g : Gf} (hf : FileAt w g) {es : Array MapEntry} {c : Nat} (hm : w.heap[m]? = some (.map es c)) : g.blk ≠ m ∧ g.row ≠ some m := by
  constructor
  · rintro rfl
    obtain ⟨v, h1, _⟩ := hf
    rw [hm] at h1; cases h1
  · intro hr
    obtain ⟨cur, fz, h1⟩ := hf.rowAt hr
    rw [hm] at h1; cases h1
theorem FileAt.not_disk {g : Gf} (hf : FileAt w g) {cs : Array Value} {fz : Nat × Nat} (hm : w.heap[d]? = some (.cells cs 45 fz)) : g.blk ≠ d ∧ g.row ≠ some d := by
  constructor
  · rintro rfl
    obtain ⟨v, h1, _⟩ := hf
    rw [hm] at h1; cases h1
  · intro hr
    obtain ⟨cur, fz, h1⟩ := hf.rowAt hr
    rw [hm] at h1; cases h1
theorem FileAt.apart {g g' : Gf} (hf : FileAt w g) (hg : FileAt w g') : g'.row ≠ some g.blk := by
  intro hr
  obtain ⟨cur, fz, h1⟩ := hg.rowAt hr
  obtain ⟨v, h2, _⟩ := hf
  rw [h2] at h1; cases h1
/-- The disk stays while its own blocks do. -/
theorem Dsk.same (h : Dsk own w d m G fuse off) (hd : w'.heap[d]? = w.heap[d]?) (hm : w'.heap[m]? = w.heap[m]?) (hf : ∀ p ∈ G, w'.heap[p.2.blk]? = w.heap[p.2.blk]?) (hr : ∀ p ∈ G, ∀ r, p.2.row = some r → w'.heap[r]? = w.heap[r]?) (hsz : w.heap.size ≤ w'.heap.size) : Dsk own w' d m G fuse off :=
  ⟨hd.trans h.db, map_same h.mp hm, h.srt, fun p hp => (h.file p hp).same (hf p hp) (hr p hp), h.blk, h.row, h.len, h.fz, fun b hb => ⟨Nat.lt_of_lt_of_le (h.own b hb).1 hsz, (h.own b hb).2⟩⟩
theorem Dsk.below (h : Dsk own w d m G fuse off) (hb : Below w.heap.size w w') : Dsk own w' d m G fuse off :=
  h.same (hb.block _ h.d_lt) (hb.block _ h.m_lt) (fun p hp => hb.block _ (h.file p hp).lt) (fun p hp r hr => hb.block _ ((h.file p hp).row_lt hr)) hb.size
theorem Dsk.weaken (h : Dsk own w d m G fuse off) {own' : Nat → Prop} (ho : ∀ b, own' b → own b) : Dsk own' w d m G fuse off :=
  ⟨h.db, h.mp, h.srt, h.file, h.blk, h.row, h.len, h.fz, fun b hb => h.own b (ho b hb)⟩
/-- A block that was made since is nobody's. -/
theorem Dsk.fresh (h : Dsk own w d m G fuse off) (hb : Below w.heap.size w w') : Dsk (fun b => own b ∨ (w.heap.size ≤ b ∧ b < w'.heap.size)) w' d m G fuse off := by
  have h' := h.below hb
  refine ⟨h'.db, h'.mp, h'.srt, h'.file, h'.blk, h'.row, h'.len, h'.fz, fun b ho => ?_⟩
  rcases ho with ho | ⟨h1, h2⟩
  · exact h'.own b ho
  · have := h.d_lt
    have := h.m_lt
    refine ⟨h2, by omega, by omega, fun p hp => ⟨?_, fun hr => ?_⟩⟩
    · have := (h.file p hp).lt; omega
    · have := (h.file p hp).row_lt hr; omega
theorem setCell_at {w : World} {b i : Nat} {cs : Array Value} {t : TypeId} {fz : Nat × Nat} (h : w.heap[b]? = some (.cells cs t fz)) (u : Value) : (w.setCell ⟨b, i, none⟩ u).heap[b]? = some (.cells (cs.setIfInBounds i u) t fz) := by
  simp [World.setCell, Array.getElem?_modify, h]
/-- Its own block is written. -/
theorem Dsk.reDisk (h : Dsk own w d m G fuse off) {f' : Int} {off' : Bool} (hd : w'.heap[d]? = some (.cells #[.pointer (some ⟨d, 0, none⟩), .map (some m), .int .i64 f', .bool off'] 45 (0, 0)))
    (hf : -9223372036854775808 ≤ f' ∧ f' ≤ 9223372036854775807) (hs : ∀ b, b ≠ d → w'.heap[b]? = w.heap[b]?) (hsz : w.heap.size ≤ w'.heap.size) : Dsk own w' d m G f' off' :=
  ⟨hd, map_same h.mp (hs _ h.dm.symm), h.srt, fun p hp => (h.file p hp).same (hs _ ((h.file p hp).not_disk h.db).1) (fun r hr => hs _ (fun e => ((h.file p hp).not_disk h.db).2 (e ▸ hr))), h.blk, h.row, h.len, hf, fun b hb => ⟨Nat.lt_of_lt_of_le (h.own b hb).1 hsz, (h.own b hb).2⟩⟩
theorem Dsk.setFuse (h : Dsk own w d m G fuse off) (f' : Int) (hf : -9223372036854775808 ≤ f' ∧ f' ≤ 9223372036854775807) : Dsk own (w.setCell ⟨d, 2, none⟩ (.int .i64 f')) d m G f' off :=
  h.reDisk (by rw [setCell_at h.db]; rfl) hf (fun b hb => Below.heap_setCell _ _ _ _ hb) (by simp [World.setCell])
theorem Dsk.setOff (h : Dsk own w d m G fuse off) (o' : Bool) : Dsk own (w.setCell ⟨d, 3, none⟩ (.bool o')) d m G fuse o' :=
  h.reDisk (by rw [setCell_at h.db]; rfl) h.fz (fun b hb => Below.heap_setCell _ _ _ _ hb) (by simp [World.setCell])
theorem Dsk.keepsCell (h : Dsk own w d m G fuse off) (i : Nat) (u : Value) : Keeps own w (w.setCell ⟨d, i, none⟩ u) := Keeps.setCell _ _ fun b hb => (h.own b hb).2.1
/-- A file is written. -/
theorem Dsk.reFile (h : Dsk own w d m G fuse off) {k : List UInt8} {g g' : Gf} (hg : getL k G = some g) (hb : g'.blk = g.blk) (hf : FileAt w' g') (hs : ∀ b, b < w.heap.size → b ≠ g.blk → g.row ≠ some b → w'.heap[b]? = w.heap[b]?)
    (hr : ∀ r, g'.row = some r → g.row = some r ∨ w.heap.size ≤ r) (hsz : w.heap.size ≤ w'.heap.size) : Dsk own w' d m (setL k g' G) fuse off := by
  have hm := (getL_iff h.srt).1 hg
  have hgf := h.file _ hm
  obtain ⟨es, c, ho⟩ := h.m_obj
  have n1 := hgf.not_disk h.db
  have n2 := hgf.not_map ho
  refine ⟨(hs _ h.d_lt n1.1.symm n1.2).trans h.db, ?_, srt_setL h.srt, ?_, ?_, ?_, by rw [length_setL]; exact h.len, h.fz, ?_⟩
  · have e : mapL Gf.blk (setL k g' G) = mapL Gf.blk G := by
      unfold mapL setL
      rw [List.map_map]
      refine List.map_congr_left fun p hp => ?_
      simp only [Function.comp]
      split
      · rename_i e
        have e : p.1 = k := by simpa using e
        have : (k, p.2) ∈ G := by rw [← e]; exact hp
        have := (getL_iff h.srt).2 this
        rw [hg] at this
        cases this
        rw [hb]
      · rfl
    rw [e, length_setL]
    exact map_same h.mp (hs _ h.m_lt n2.1.symm n2.2)
  · intro p hp
    rcases mem_setL hp with ⟨h1, h2⟩ | ⟨h1, h2⟩
    · rw [h2]; exact hf
    · have hpf := h.file _ h1
      refine hpf.same (hs _ hpf.lt (fun e => h2 (h.blk _ h1 _ hm e)) (hpf.apart hgf)) fun r hr' => ?_
      exact hs _ (hpf.row_lt hr') (fun e => hgf.apart hpf (e ▸ hr')) (fun e => h2 (h.row _ h1 _ hm r hr' e))
  · intro p hp q hq e
    rcases mem_setL hp with ⟨h1, h2⟩ | ⟨h1, h2⟩
    · rcases mem_setL hq with ⟨h3, h4⟩ | ⟨h3, h4⟩
      · rw [h1, h3]
      · rw [h2, hb] at e
        exact absurd (h.blk _ hm _ h3 e) (fun e => h4 e.symm)
    · rcases mem_setL hq with ⟨h3, h4⟩ | ⟨h3, h4⟩
      · rw [h4, hb] at e
        exact absurd (h.blk _ h1 _ hm e) h2
      · exact h.blk _ h1 _ h3 e
  · intro p hp q hq r e1 e2
    rcases mem_setL hp with ⟨h1, h2⟩ | ⟨h1, h2⟩
    · rcases mem_setL hq with ⟨h3, h4⟩ | ⟨h3, h4⟩
      · rw [h1, h3]
      · rw [h2] at e1
        rcases hr r e1 with e | e
        · exact absurd (h.row _ hm _ h3 r e e2) (fun e => h4 e.symm)
        · have := (h.file _ h3).row_lt e2; omega
    · rcases mem_setL hq with ⟨h3, h4⟩ | ⟨h3, h4⟩
      · rw [h4] at e2
        rcases hr r e2 with e | e
        · exact absurd (h.row _ h1 _ hm r e1 e) h2
        · have := (h.file _ h1).row_lt e1; omega
      · exact h.row _ h1 _ h3 r e1 e2
  · intro b ho
    obtain ⟨o1, o2, o3, o4⟩ := h.own b ho
    refine ⟨Nat.lt_of_lt_of_le o1 hsz, o2, o3, fun p hp => ?_⟩
    rcases mem_setL hp with ⟨h1, h2⟩ | ⟨h1, h2⟩
    · rw [h2, hb]
      refine ⟨(o4 _ hm).1, fun e => ?_⟩
      rcases hr b e with e | e
      · exact (o4 _ hm).2 e
      · omega
    · exact o4 _ h1
theorem Dsk.reFile_keeps (h : Dsk own w d m G fuse off) {k : List UInt8} {g : Gf} (hg : getL k G = some g) (hos : w'.os = w.os) (htp : w'.tape = w.tape) (hou : w'.output = w.output) (hsz : w.heap.size ≤ w'.heap.size)
    (hs : ∀ b, b < w.heap.size → b ≠ g.blk → g.row ≠ some b → w'.heap[b]? = w.heap[b]?) : Keeps own w w' :=
  ⟨hos, htp, hou, hsz, fun b hb => hs b (h.own b hb).1 ((h.own b hb).2.2.2 _ ((getL_iff h.srt).1 hg)).1 ((h.own b hb).2.2.2 _ ((getL_iff h.srt).1 hg)).2⟩
/-- A file is put under a name. -/
theorem Dsk.putFile (h : Dsk own w d m G fuse off) {k : List UInt8} {g : Gf} {n : Nat} (hf : FileAt w g) (hg : w.grownBy w' (some m)) (hm : w'.ownsMap Try.prog 9 fR m n (fD (putL k g.blk (mapL Gf.blk G))))
    (hb : ∀ p ∈ G, p.1 ≠ k → p.2.blk ≠ g.blk) (hr : ∀ p ∈ G, p.1 ≠ k → ∀ r, p.2.row = some r → g.row ≠ some r) (ho : ∀ b, own b → b ≠ g.blk ∧ g.row ≠ some b) (hl : (putL k g G).length ≤ 256) : Dsk own w' d m (putL k g G) fuse off := by
  obtain ⟨es, c, hmo⟩ := h.m_obj
  have hs : ∀ b, b < w.heap.size → b ≠ m → w'.heap[b]? = w.heap[b]? := fun b hb hne => hg.block b hb (fun e => hne (Option.some.inj e))
  have keepF : ∀ g', FileAt w g' → FileAt w' g' := fun g' hf' =>
    hf'.same (hs _ hf'.lt (hf'.not_map hmo).1) fun r hr' => hs _ (hf'.row_lt hr') (fun e => (hf'.not_map hmo).2 (e ▸ hr'))
  refine ⟨(hs _ h.d_lt h.dm).trans h.db, ?_, srt_putL h.srt, ?_, ?_, ?_, hl, h.fz, ?_⟩
  · have h1 := map_exact hm
    rw [fD_size] at h1
    rw [mapL_putL, ← length_mapL Gf.blk (putL k g G), mapL_putL]
    exact h1
  · intro p hp
    rcases mem_putL.1 hp with rfl | ⟨h1, h2⟩
    · exact keepF _ hf
    · exact keepF _ (h.file _ h1)
  · intro p hp q hq e
    rcases mem_putL.1 hp with rfl | ⟨h1, h2⟩ <;> rcases mem_putL.1 hq with rfl | ⟨h3, h4⟩
    · rfl
    · exact absurd e.symm (hb _ h3 h4)
    · exact absurd e (hb _ h1 h2)
    · exact h.blk _ h1 _ h3 e
  · intro p hp q hq r e1 e2
    rcases mem_putL.1 hp with rfl | ⟨h1, h2⟩ <;> rcases mem_putL.1 hq with rfl | ⟨h3, h4⟩
    · rfl
    · exact absurd e1 (hr _ h3 h4 r e2)
    · exact absurd e2 (hr _ h1 h2 r e1)
    · exact h.row _ h1 _ h3 r e1 e2
  · intro b hbo
    obtain ⟨o1, o2, o3, o4⟩ := h.own b hbo
    refine ⟨Nat.lt_of_lt_of_le o1 hg.size, o2, o3, fun p hp => ?_⟩
    rcases mem_putL.1 hp with rfl | ⟨h1, h2⟩
    · exact ho b hbo
    · exact o4 _ h1
theorem Dsk.mapKeeps (h : Dsk own w d m G fuse off) (hg : w.grownBy w' (some m)) : Keeps own w w' := Keeps.of_grown hg fun b hb => ⟨(h.own b hb).1, fun e => (h.own b hb).2.2.1 (Option.some.inj e)⟩
/-- A file is taken away. -/
theorem Dsk.delFile (h : Dsk own w d m G fuse off) {k : List UInt8} {n : Nat} (hg : w.grownBy w' (some m)) (hm : w'.ownsMap Try.prog 9 fR m n (fD (delL k (mapL Gf.blk G)))) : Dsk own w' d m (delL k G) fuse off := by
  obtain ⟨es, c, hmo⟩ := h.m_obj
  have hs : ∀ b, b < w.heap.size → b ≠ m → w'.heap[b]? = w.heap[b]? := fun b hb hne => hg.block b hb (fun e => hne (Option.some.inj e))
  have keepF : ∀ g', FileAt w g' → FileAt w' g' := fun g' hf' =>
    hf'.same (hs _ hf'.lt (hf'.not_map hmo).1) fun r hr' => hs _ (hf'.row_lt hr') (fun e => (hf'.not_map hmo).2 (e ▸ hr'))
  refine ⟨(hs _ h.d_lt h.dm).trans h.db, ?_, srt_delL h.srt, ?_, ?_, ?_, Nat.le_trans (length_delL_le k G) h.len, h.fz, ?_⟩
  · have h1 := map_exact hm
    rw [fD_size] at h1
    rw [mapL_delL, ← length_mapL Gf.blk (delL k G), mapL_delL]
    exact h1
  · intro p hp; exact keepF _ (h.file _ (mem_delL.1 hp).1)
  · intro p hp q hq e; exact h.blk _ (mem_delL.1 hp).1 _ (mem_delL.1 hq).1 e
  · intro p hp q hq r e1 e2; exact h.row _ (mem_delL.1 hp).1 _ (mem_delL.1 hq).1 r e1 e2
  · intro b hbo
    obtain ⟨o1, o2, o3, o4⟩ := h.own b hbo
    exact ⟨Nat.lt_of_lt_of_le o1 hg.size, o2, o3, fun p hp => o4 _ (mem_delL.1 hp).1⟩
end

/-! ### bytes behind a row of one's own: which block the row then lies in -/
theorem str_own {P : Program} (w : World) (t u ty e : TypeId) (i : TypeInfo) (ht : P.underlying t = some (.slice e)) (hu : P.underlying u = some .string) (hi : P.info? e = some i) (hz : i.zero = some (.int .u8 0))
    (hsize : i.size = 1) (hby : i.bytes = 1) (v : Value) (n : Nat) (xs : List Value) (hown : w.ownsRow 0 e 1 v n xs) (s : ByteArray) (h63 : n + s.size ≤ maxLen) (hbytes : n + s.size ≤ 140737488355328) :
    ∃ v' w', (Builtin.append_ #[t, u] ty #[v, .string s]).run P w = .ok v' w' ∧ w'.ownsRow 0 e 1 v' (n + s.size) (xs ++ strCells s) ∧ w.grownBy w' v.ownBlock ∧ ∀ r, v'.ownBlock = some r → v.ownBlock = some r ∨ w.heap.size ≤ r := by
  rcases hown.2 with ⟨rfl, rfl⟩ | ⟨g, cap, cur, rfl, hbg, hg, hnc, hcm, hcs, htake⟩
  · have hx : xs = [] := List.eq_nil_of_length_eq_zero (by simpa using hown.1)
    subst hx
    obtain ⟨v', w', h1, h2, h3, h4⟩ := run_append_own_string (P := P) w w.heap.size t u ty e i ht hu hi hz hsize hby (.slice none 0 0) 0 [] (World.ownsRow_nil ..) s h63 hbytes (Nat.le_refl _)
    refine ⟨v', w', h1, ⟨h2.1, ?_⟩, h3, fun r hr => .inr (h2.lt r hr).1⟩
    rcases h2.2 with h | ⟨g, cap, cur, hv, hb, h⟩
    · exact .inl h
    · exact .inr ⟨g, cap, cur, hv, Nat.zero_le _, h⟩
  · have hsmall : n + s.size ≤ 9223372036854775807 := by simp only [maxLen] at h63; omega
    have hxl : xs.length = n := by simpa using hown.1
    have hlen : (xs ++ strCells s).length = (n + s.size) * 1 := by rw [List.length_append, hxl, strCells_length, Nat.mul_one]
    by_cases hroom : n + s.size ≤ cap
    · have hcs' : cur.size = cap := by simpa using hcs
      have hr := run_append_room_string (P := P) w t u ty e i ht hu hi hsize g n cap cur hg s hroom (by omega)
      refine ⟨_, _, hr, ⟨hlen, .inr ⟨g, cap, _, rfl, hbg, setRow_heap w g cur _ e _ hg, hroom, hcm, ?_, ?_⟩⟩, ⟨rfl, rfl, rfl, by simp, fun k _ hk => setRow_other w g k _ (fun e => hk (by simp [Value.ownBlock, e]))⟩, fun r hr => .inl hr⟩
      · simp only [List.size_toArray, List.length_append, List.length_take, List.length_drop, Array.length_toList, strCells_length]
        omega
      · have ht' : cur.toList.take n = xs := by simpa using htake
        rw [ht', ← hlen]
        exact List.take_left
    · have holds : ∀ j u, xs[j]? = some u → w.cell? ((⟨g, 0, none⟩ : Addr).add j) = some u := hown.cells (g := g) rfl
      have hr := run_append_grow_string (P := P) w t u ty e i (.int .u8 0) ht hu hi hz ⟨g, 0, none⟩ n cap xs (by rw [hsize]; simpa using hxl) holds s (by omega) (by omega) (by rw [hby]; exact growslice_fits (by omega) (by omega))
      have hge := grownCap_ge w (n + s.size) cap e
      have hcm2 : grownCap w (n + s.size) cap e ≤ maxLen := grownCap_le_maxLen w (n + s.size) cap e h63
      refine ⟨_, _, hr, ⟨hlen, .inr ⟨w.heap.size, _, _, rfl, Nat.zero_le _, heap_alloc_new w.drew _, hge, hcm2, ?_, ?_⟩⟩, ⟨rfl, rfl, rfl, by simp, fun k hk _ => Below.heap_alloc w.drew _ k hk⟩, fun r hr => .inr (by simp [Value.ownBlock] at hr; omega)⟩
      · have hz1 : (Value.int IntKind.u8 0).cells.size = 1 := rfl
        simp only [Array.size_append, List.size_toArray, size_zeroCells, hz1, hxl, strCells_length]
        omega
      · simp only [Array.toList_append, List.append_assoc]
        rw [← List.append_assoc, ← hlen]
        exact List.take_left
theorem wpList_str_own {P : Program} {w : World} {ops : Array Oper} {rest : List Oper} {o : Oper} {a : Act} {Q : Exit → Act → World → Prop} (hgd : o.guard = none) (sl x : Operand) (t u : TypeId)
    (ho : o.op = .call { callee := .builtin .append, args := #[sl, x], argTypes := #[t, u] })
    (e : TypeId) (i : TypeInfo) (ht : P.underlying t = some (.slice e)) (hu : P.underlying u = some .string) (hi : P.info? e = some i) (hz : i.zero = some (.int .u8 0))
    (hsize : i.size = 1) (hby : i.bytes = 1)
    (v : Value) (n : Nat) (xs : List Value) (hs : a.eval sl = v) (hown : w.ownsRow 0 e 1 v n xs) (s : ByteArray) (hx : a.eval x = .string s)
    (h63 : n + s.size ≤ maxLen) (hbytes : n + s.size ≤ 140737488355328)
    (h : ∀ v' w', w'.ownsRow 0 e 1 v' (n + s.size) (xs ++ strCells s) → w.grownBy w' v.ownBlock → (∀ r, v'.ownBlock = some r → v.ownBlock = some r ∨ w.heap.size ≤ r) → wpList P ops Q rest (a.put o.dst v') w') : wpList P ops Q (o :: rest) a w := by
  refine wpList_plain hgd fun K hK => ?_
  obtain ⟨v', w', hr, h2, h3, h4⟩ := str_own (P := P) w t u o.type e i ht hu hi hz hsize hby v n xs hown s h63 hbytes
  unfold Oper.wp execOp
  simp only [ho, resolve, invoke, builtin, Sem.run_bind, Sem.run_pure, Result.andThen_ok, List.map_toArray, List.map_cons, List.map_nil, hs, hx, hr]
  exact hK _ _ (h v' w' h2 h3 h4)
theorem strCells_bv (s : ByteArray) : strCells s = bv s.data.toList := rfl
/-- A row cut shorter. -/
theorem own_cut {w : World} {base t n cap : Nat} {a : Option Addr} {xs : List Value} (h : w.ownsRow base t 1 (.slice a n cap) n xs) (j : Nat) (hj : j ≤ n) : w.ownsRow base t 1 (.slice a j cap) j (xs.take j) := by
  have h1 : xs.length = n := by simpa using h.1
  refine ⟨by rw [List.length_take]; omega, ?_⟩
  rcases h.2 with ⟨hv, hn⟩ | ⟨g, cap', cur, hv, hbg, hh, h2, h3, h4, h5⟩
  · cases hv
    obtain rfl : j = 0 := by omega
    exact .inl ⟨rfl, rfl⟩
  · cases hv
    refine .inr ⟨g, cap, cur, rfl, hbg, hh, by omega, h3, h4, ?_⟩
    rw [← h5, List.take_take]
    congr 1
    omega
end Go.Proofs.Ythikedhbjphmeaa
