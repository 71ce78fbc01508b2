/-
  Texts of mine as one, in the order in which they build: Wq, Wr, Ws, Wt, Wu. Conditions: as each says.
-/
import Derived.Test.YtkfmjkcomjmedaaGreatQA
import Derived.Deep.RegionHeld3
import Derived.Test.YtkfmjkcomjmedaaGreatLp
import Derived.BigRegion
import Derived.Test.YtkfmjkcomjmedaaGreatFk
import Derived.Test.YtkfmjkcomjmedaaGreatLe
import Derived.Test.YtkfmjkcomjmedaaGreatQm
namespace Go.Proofs.YtkfmjkcomjmedaaGreat
open Go.RowKit
set_option linter.unusedVariables false
set_option linter.unusedSimpArgs false

/-- A block that holds a log's value. -/
structure Lx (W : World) (B : Nat) (a : Option Addr) (n c : Nat) (a' : Option Addr) (n' c' : Nat) (x : Int) : Prop where
  c0 : W.cell? ⟨B, 0, none⟩ = some (.slice a n c)
  c1 : W.cell? ⟨B, 1, none⟩ = some (.slice a' n' c')
  c2 : W.cell? ⟨B, 2, none⟩ = some (.int .i64 x)
  f0 : W.frozen? ⟨B, 0, none⟩ = false
  f1 : W.frozen? ⟨B, 1, none⟩ = false
  f2 : W.frozen? ⟨B, 2, none⟩ = false
theorem Lx.lt {W : World} {B : Nat} {a a' : Option Addr} {n c n' c' : Nat} {x : Int} (h : Lx W B a n c a' n' c' x) : B < W.heap.size := cell_lt h.c0
theorem Lx.new (w : World) (a a' : Option Addr) (n c n' c' : Nat) (x : Int) (t : TypeId) : Lx (w.alloc (.cells #[.slice a n c, .slice a' n' c', .int .i64 x] t)) w.heap.size a n c a' n' c' x :=
  ⟨by simp, by simp, by simp, by simp [go_sem], by simp [go_sem], by simp [go_sem]⟩
theorem Lx.old {W W' : World} {B : Nat} {a a' : Option Addr} {n c n' c' : Nat} {x : Int} (h : Lx W B a n c a' n' c' x) (hb : Below W.heap.size W W') : Lx W' B a n c a' n' c' x :=
  ⟨(hb.cell (p := ⟨B, 0, none⟩) h.lt).trans h.c0, (hb.cell (p := ⟨B, 1, none⟩) h.lt).trans h.c1, (hb.cell (p := ⟨B, 2, none⟩) h.lt).trans h.c2,
    (hb.frozen (p := ⟨B, 0, none⟩) h.lt).trans h.f0, (hb.frozen (p := ⟨B, 1, none⟩) h.lt).trans h.f1, (hb.frozen (p := ⟨B, 2, none⟩) h.lt).trans h.f2⟩
/-- What a region's loads of a disk's box and a log's number see. -/
theorem keep_dl {W W' : World} {B C base : Nat} {a : Option Addr} {n c : Nat} {f x : Int} {o : Bool} (h : W.cell? ⟨B, 0, none⟩ = some (.slice a n c) ∧ W.cell? ⟨B, 1, none⟩ = some (.int .i64 f) ∧ W.cell? ⟨B, 2, none⟩ = some (.bool o) ∧ W.cell? ⟨C, 2, none⟩ = some (.int .i64 x)) (hB : B < base) (hC : C < base) (hb : Below base W W') :
    W'.cell? ⟨B, 0, none⟩ = some (.slice a n c) ∧ W'.cell? ⟨B, 1, none⟩ = some (.int .i64 f) ∧ W'.cell? ⟨B, 2, none⟩ = some (.bool o) ∧ W'.cell? ⟨C, 2, none⟩ = some (.int .i64 x) := by
  obtain ⟨h0, h1, h2, h3⟩ := h
  exact ⟨(hb.cell (p := ⟨B, 0, none⟩) hB).trans h0, (hb.cell (p := ⟨B, 1, none⟩) hB).trans h1, (hb.cell (p := ⟨B, 2, none⟩) hB).trans h2, (hb.cell (p := ⟨C, 2, none⟩) hC).trans h3⟩
set_option maxRecDepth 100000 in
set_option maxHeartbeats 4000000 in
theorem flush_ref {w : World} {q : Value} {S : Ds} (h : RefD w q S) (hl : S.files.length ≤ 100000) (hs : Srt S.files) (hf : -9223372036854775808 ≤ S.fuse ∧ S.fuse ≤ 9223372036854775807) (a1 a2 : Option Addr) (n1 c1 n2 c2 n : Nat) (hn : n ≤ 99999999) :
    Calls Tryz.prog 21 #[q, .agg #[.slice a1 n1 c1, .slice a2 n2 c2, .int .i64 (n : Int)]] w (DoR w (S.sync (lname n)).1 (S.sync (lname n)).2) := by
  have HD := Lib.hid h
  obtain ⟨a, c, rfl, h1, h2, h3⟩ := h
  obtain ⟨ln, hln⟩ : ∃ ln, ln = S.files.length := ⟨_, rfl⟩
  rw [← hln] at HD hl ⊢
  have HLN := Lib.hid hln
  have HS := Lib.hid hs
  have HF := Lib.hid hf
  have hnl : (lname n).length ≤ maxLen := by rw [lname_length]; decide
  have HSY := Lib.hid (fun (W : World) (h : RefD W (.agg #[.slice a ln c, .int .i64 S.fuse, .bool S.off]) S) => sync_ref h (by rw [← hln]; exact hl) hs hf (lname n) hnl)
  clear h1 h2 h3 hln hs hf hnl
  obtain ⟨T, hT⟩ : ∃ T, T = (S.sync (lname n)).1 := ⟨_, rfl⟩
  obtain ⟨E, hE⟩ : ∃ E, E = (S.sync (lname n)).2 := ⟨_, rfl⟩
  rw [← hT, ← hE] at HSY ⊢
  clear hT hE
  have HNA := Lib.hid (lname_ref n hn)
  go_enter Tryz.func21, Tryz.ntmps21
  go_upto_region 1 with fail
  generalize hW : World.alloc (World.alloc (World.alloc w _) _) _ = W
  have BB : Below w.heap.size w W := by rw [← hW]; exact (((Below.refl _ _).alloc (Nat.le_refl _) _).alloc (by simp) _).alloc (by simp; omega) _
  have hsz : W.heap.size = w.heap.size + 3 := by rw [← hW]; simp
  have x0 : W.cell? ⟨w.heap.size, 0, none⟩ = some (.slice a ln c) := by rw [← hW]; simp [go_sem]
  have x1 : W.cell? ⟨w.heap.size, 1, none⟩ = some (.int .i64 S.fuse) := by rw [← hW]; simp [go_sem]
  have x2 : W.cell? ⟨w.heap.size, 2, none⟩ = some (.bool S.off) := by rw [← hW]; simp [go_sem]
  have l2 : W.cell? ⟨w.heap.size + 1, 2, none⟩ = some (.int .i64 (n : Int)) := by rw [← hW]; simp [go_sem]
  have HR : Bx W (w.heap.size + 2) none 0 0 0 false := by
    rw [← hW]
    have := Bx.new ((w.alloc (.cells #[.slice a ln c, .int .i64 S.fuse, .bool S.off] 28)).alloc (.cells #[.slice a1 n1 c1, .slice a2 n2 c2, .int .i64 (n : Int)] 34)) none 0 0 0 false 28
    simpa using this
  clear hW
  have HQ := Lib.hid (HD.out.old BB)
  have HRR := Lib.hid HR
  have BB := Lib.hid BB
  clear HR
  have SS := And.intro x0 (And.intro x1 (And.intro x2 l2))
  have HQR := Lib.hid (fun W' (h : Below W.heap.size W W') => And.intro (HQ.out.old h) (HRR.out.old h))
  clear x0 x1 x2 l2
  go_region_held3 (fun w' => w'.cell? ⟨w.heap.size, 0, none⟩ = some (.slice a ln c) ∧ w'.cell? ⟨w.heap.size, 1, none⟩ = some (.int .i64 S.fuse) ∧ w'.cell? ⟨w.heap.size, 2, none⟩ = some (.bool S.off) ∧ w'.cell? ⟨w.heap.size + 1, 2, none⟩ = some (.int .i64 (n : Int)))
    (first
      | assumption
      | exact keep_dl SS (by omega) (by omega) ((by assumption : Below W.heap.size W _).mono (show w.heap.size + 2 ≤ W.heap.size by omega))
      | exact keep_dl SS (by omega) (by omega) ((Below.refl (w.heap.size + 2) _).drew)
      | exact keep_dl SS (by omega) (by omega) (put3_below ((by assumption : Below W.heap.size W w5).mono (show w.heap.size + 2 ≤ W.heap.size by omega)) (show w.heap.size + 2 ≤ w.heap.size + 2 by omega) _ _ _ _ _))
    (first
      | (go_at_call 43; refine (HNA.out _).mono ?_; rintro e w4 ⟨rfl, b4⟩; have z4 : Below W.heap.size W w4 := by first | exact b4 | exact bt ((Below.refl _ _).drew) b4)
      | (go_at_call 53; refine (HSY.out _ (HQR.out _ (by first | assumption | exact (Below.refl _ _).drew)).1).mono ?_; rintro e w5 ⟨q5, rfl, hq5, b5⟩; have k5 := (HQR.out _ (by first | assumption | exact (Below.refl _ _).drew)).2.old b5; have hqq := Lib.hid hq5; have z5 : Below W.heap.size W w5 := bt (by first | assumption | exact (Below.refl _ _).drew) b5; obtain ⟨a5, c5, rfl, r5, g5, g6⟩ := hq5; have K5 := Lib.hid k5; obtain ⟨y0, y1, y2, v0, v1, v2, -⟩ := k5))
  clear y0 y1 y2 v0 v1 v2 r5
  go_wp2_with fail
  have kf := K5.out.put a5 T.files.length c5 T.fuse T.off
  have qf := RefD.put K5.out hqq.out a5 T.files.length c5 T.fuse T.off
  have bf := put3_below (BB.out.trans (z5.mono (by omega))) (show w.heap.size ≤ w.heap.size + 2 by omega) a5 T.files.length c5 T.fuse T.off
  show bodyPost _ _ _ _ _ (put3 w5 (w.heap.size + 2) a5 T.files.length c5 T.fuse T.off)
  generalize put3 w5 (w.heap.size + 2) a5 T.files.length c5 T.fuse T.off = WF at kf qf bf ⊢
  obtain ⟨k0, k1, k2, -⟩ := kf
  refine bodyPost_ret (v := .tuple #[.agg #[.slice a5 T.files.length c5, .int .i64 T.fuse, .bool T.off], .int .i64 E]) (by simp [results, Tryz.f21, go_sem, k0, k1, k2]) rfl ?_
  exact ⟨_, rfl, qf, bf⟩
end Go.Proofs.YtkfmjkcomjmedaaGreat
namespace Go.Proofs.YtkfmjkcomjmedaaGreat
open Go.RowKit
set_option linter.unusedVariables false
set_option linter.unusedSimpArgs false

/-! ### plain -/
structure OkS (bb nb : Nat) (S : Ds) : Prop where
  srt : Srt S.files
  len : S.files.length ≤ 256
  fb : ∀ p ∈ S.files, p.2.sure ≤ p.2.bytes.length ∧ p.2.bytes.length ≤ bb
  nm : ∀ p ∈ S.files, ∀ n, numb p.1 = some n → n ≤ nb
  fz : -9223372036854775808 ≤ S.fuse ∧ S.fuse ≤ 9223372036854775807
section
variable {bb nb : Nat} {S : Ds}
theorem OkS.mono (h : OkS bb nb S) {bb' nb' : Nat} (hb : bb ≤ bb') (hn : nb ≤ nb') : OkS bb' nb' S :=
  ⟨h.srt, h.len, fun p hp => ⟨(h.fb p hp).1, Nat.le_trans (h.fb p hp).2 hb⟩, fun p hp n e => Nat.le_trans (h.nm p hp n e) hn, h.fz⟩
theorem begF_range {ok off : Bool} {f : Int} (h : -9223372036854775808 ≤ f ∧ f ≤ 9223372036854775807) : -9223372036854775808 ≤ begF ok f off ∧ begF ok f off ≤ 9223372036854775807 := by
  unfold begF
  split <;> omega
theorem OkS.begin (h : OkS bb nb S) (ok : Bool) : OkS bb nb (S.begin ok) := ⟨h.srt, h.len, h.fb, h.nm, begF_range h.fz⟩
theorem OkS.fuse (h : OkS bb nb S) (n : Int) (hn : -9223372036854775808 ≤ n ∧ n ≤ 9223372036854775807) : OkS bb nb ⟨S.files, n, S.off⟩ := ⟨h.srt, h.len, h.fb, h.nm, hn⟩
theorem OkS.del (h : OkS bb nb S) (n : List UInt8) (f : Int) (o : Bool) (hf : -9223372036854775808 ≤ f ∧ f ≤ 9223372036854775807) : OkS bb nb ⟨delL n S.files, f, o⟩ :=
  ⟨srt_delL h.srt, Nat.le_trans (length_delL_le _ _) h.len, fun p hp => h.fb p (mem_delL.1 hp).1, fun p hp => h.nm p (mem_delL.1 hp).1, hf⟩
theorem OkS.set (h : OkS bb nb S) (n : List UInt8) (v : Fl) (f : Int) (o : Bool) (hf : -9223372036854775808 ≤ f ∧ f ≤ 9223372036854775807) (hv : v.sure ≤ v.bytes.length) {bb' : Nat} (hb : v.bytes.length ≤ bb') (hbb : bb ≤ bb') : OkS bb' nb ⟨setL n v S.files, f, o⟩ := by
  refine ⟨srt_setL h.srt, by rw [length_setL]; exact h.len, fun p hp => ?_, fun p hp => ?_, hf⟩
  · rcases mem_setL hp with ⟨-, e⟩ | ⟨hm, -⟩
    · rw [e]; exact ⟨hv, hb⟩
    · exact ⟨(h.fb p hm).1, Nat.le_trans (h.fb p hm).2 hbb⟩
  · have : p.1 ∈ (setL n v S.files).map (·.1) := List.mem_map.2 ⟨p, hp, rfl⟩
    have e : (setL n v S.files).map (·.1) = S.files.map (·.1) := by
      unfold setL
      rw [List.map_map]
      refine List.map_congr_left fun q hq => ?_
      simp only [Function.comp]
      split <;> rename_i c
      · have c2 : q.1 = n := by simpa using c
        simp [c2]
      · rfl
    rw [e] at this
    obtain ⟨q, hq, e2⟩ := List.mem_map.1 this
    rw [← e2]
    exact h.nm q hq
theorem OkS.put (h : OkS bb nb S) {n : List UInt8} (hg : getL n S.files = none) (hl : S.files.length < 256) (hn : ∀ m, numb n = some m → m ≤ nb) (f : Int) (o : Bool) (hf : -9223372036854775808 ≤ f ∧ f ≤ 9223372036854775807) : OkS bb nb ⟨putL n ⟨[], 0⟩ S.files, f, o⟩ := by
  refine ⟨srt_putL h.srt, by rw [length_putL_new hg]; omega, fun p hp => ?_, fun p hp => ?_, hf⟩
  · rcases mem_putL.1 hp with rfl | ⟨hm, -⟩
    · exact ⟨Nat.le_refl _, Nat.zero_le _⟩
    · exact h.fb p hm
  · rcases mem_putL.1 hp with rfl | ⟨hm, -⟩
    · exact hn
    · exact h.nm p hm
theorem OkS.make (h : OkS bb nb S) {n : List UInt8} (hn : ∀ m, numb n = some m → m ≤ nb) : OkS bb nb (S.make n).1 := by
  unfold Ds.make
  split
  · split
    · exact h.begin _
    · split
      · exact h.begin _
      · rename_i hg hl
        exact h.put hg (by omega) hn _ _ (begF_range h.fz)
  · exact h.begin _
theorem OkS.append (h : OkS bb nb S) {n s : List UInt8} {bb' : Nat} (hb : bb + s.length ≤ bb') : OkS bb' nb (S.append n s).1 := by
  have hm := h.mono (show bb ≤ bb' by omega) (Nat.le_refl nb)
  unfold Ds.append
  split
  · split
    · rename_i f hg
      split
      · exact hm.begin _
      · have hp := h.fb (n, f) ((getL_iff h.srt).1 hg)
        simp only at hp
        exact h.set _ _ _ _ (begF_range h.fz) (by simp only [List.length_append]; omega) (by simp only [List.length_append]; omega) (by omega)
    · exact hm.begin _
  · exact hm.begin _
theorem OkS.sync (h : OkS bb nb S) {n : List UInt8} : OkS bb nb (S.sync n).1 := by
  unfold Ds.sync
  split
  · split
    · rename_i f hg
      have hp := h.fb (n, f) ((getL_iff h.srt).1 hg)
      simp only at hp
      exact h.set _ _ _ _ (begF_range h.fz) (Nat.le_refl _) hp.2 (Nat.le_refl _)
    · exact h.begin _
  · exact h.begin _
theorem OkS.remove (h : OkS bb nb S) {n : List UInt8} : OkS bb nb (S.remove n).1 := by
  unfold Ds.remove
  split
  · exact h.del _ _ _ (begF_range h.fz)
  · exact h.begin _
theorem OkS.rm (bl : Int) : ∀ (l : List (List UInt8)) {S : Ds}, OkS bb nb S → OkS bb nb (rmL bl S l).1
  | [], S, h => h
  | k :: r, S, h => by
    unfold rmL
    split
    · split
      · split
        · exact OkS.rm bl r h.remove
        · exact h.remove
      · exact OkS.rm bl r h
    · exact OkS.rm bl r h
theorem OkS.crash (h : OkS bb nb S) (ks : List Int) : OkS bb nb (S.crash ks) := by
  have hmem : ∀ p ∈ (S.crash ks).files, ∃ q ∈ S.files, ∃ j, p = (q.1, cutF (keepAt ks j) q.2) := by
    intro p hp
    unfold Ds.crash at hp
    obtain ⟨i, hi, e⟩ := List.mem_mapIdx.1 hp
    exact ⟨S.files[i], List.getElem_mem hi, i, e.symm⟩
  refine ⟨?_, by unfold Ds.crash; simp only [List.length_mapIdx]; exact h.len, fun p hp => ?_, fun p hp => ?_, by unfold Ds.crash; simp only; omega⟩
  · have hs := h.srt
    unfold Srt at hs ⊢
    unfold Ds.crash
    rw [List.pairwise_iff_getElem] at hs ⊢
    intro i j hi hj hij
    simp only [List.length_mapIdx] at hi hj
    simpa using hs i j hi hj hij
  · obtain ⟨q, hq, j, rfl⟩ := hmem p hp
    have := h.fb q hq
    have hk := keepN_le (keepAt ks j) q.2 this.1
    unfold cutF
    simp only [List.length_take]
    omega
  · obtain ⟨q, hq, j, rfl⟩ := hmem p hp
    exact h.nm q hq
end
/-! ### in memory -/
theorem noStr_log (w : World) (a a' : Option Addr) (n c n' c' : Nat) (x : Int) (t : TypeId) : NoStr (w.alloc (.cells #[.slice a n c, .slice a' n' c', .int .i64 x] t)) w.heap.size := by
  intro o s e
  match o with
  | 0 => simp at e
  | 1 => simp at e
  | 2 => simp at e
  | o + 3 =>
    unfold World.cell? at e
    simp only [heap_alloc_new] at e
    simp at e
abbrev putg (W : World) (B : Nat) (a : Option Addr) (n c : Nat) (a' : Option Addr) (n' c' : Nat) (x : Int) : World := ((W.setCell ⟨B, 0, none⟩ (.slice a n c)).setCell ⟨B, 1, none⟩ (.slice a' n' c')).setCell ⟨B, 2, none⟩ (.int .i64 x)
section
variable {W : World} {B : Nat} {a a' : Option Addr} {n c n' c' : Nat} {x : Int}
theorem putg_cell (W : World) (B : Nat) (a : Option Addr) (n c : Nat) (a' : Option Addr) (n' c' : Nat) (x : Int) {b i : Nat} (hb : b ≠ B) : (putg W B a n c a' n' c' x).cell? ⟨b, i, none⟩ = W.cell? ⟨b, i, none⟩ := by
  unfold putg
  rw [World.cell?_setCell_other _ _ _ _ (by intro e; simp at e <;> omega), World.cell?_setCell_other _ _ _ _ (by intro e; simp at e <;> omega), World.cell?_setCell_other _ _ _ _ (by intro e; simp at e <;> omega)]
theorem putg_frozen (W : World) (B : Nat) (a : Option Addr) (n c : Nat) (a' : Option Addr) (n' c' : Nat) (x : Int) (b i : Nat) : (putg W B a n c a' n' c' x).frozen? ⟨b, i, none⟩ = W.frozen? ⟨b, i, none⟩ := by
  unfold putg
  simp [go_sem]
theorem putg_below {base : Nat} {w0 W : World} {B : Nat} (h : Below base w0 W) (hB : base ≤ B) (a : Option Addr) (n c : Nat) (a' : Option Addr) (n' c' : Nat) (x : Int) : Below base w0 (putg W B a n c a' n' c' x) := by
  unfold putg
  exact ((h.setCell hB _).setCell hB _).setCell hB _
theorem Lx.put (h : Lx W B a n c a' n' c' x) (d : Option Addr) (m e : Nat) (d' : Option Addr) (m' e' : Nat) (y : Int) : Lx (putg W B d m e d' m' e' y) B d m e d' m' e' y := by
  have s0 : (W.setCell ⟨B, 0, none⟩ (.slice d m e)).cell? ⟨B, 0, none⟩ = some (.slice d m e) := World.cell?_setCell_same' _ _ _ (by rw [h.c0]; rfl)
  refine ⟨?_, ?_, ?_, (putg_frozen ..).trans h.f0, (putg_frozen ..).trans h.f1, (putg_frozen ..).trans h.f2⟩
  · unfold putg
    rw [World.cell?_setCell_other _ _ _ _ (by simp), World.cell?_setCell_other _ _ _ _ (by simp), s0]
  · unfold putg
    rw [World.cell?_setCell_other _ _ _ _ (by simp), World.cell?_setCell_same' _ _ _ (by rw [World.cell?_setCell_other _ _ _ _ (by simp), h.c1]; rfl)]
  · unfold putg
    rw [World.cell?_setCell_same' _ _ _ (by rw [World.cell?_setCell_other _ _ _ _ (by simp), World.cell?_setCell_other _ _ _ _ (by simp), h.c2]; rfl)]
theorem Lx.other (h : Lx W B a n c a' n' c' x) {B' : Nat} (hne : B ≠ B') (d : Option Addr) (m e : Nat) (f : Int) (o : Bool) : Lx (put3 W B' d m e f o) B a n c a' n' c' x :=
  ⟨(put3_cell _ _ _ _ _ _ _ hne).trans h.c0, (put3_cell _ _ _ _ _ _ _ hne).trans h.c1, (put3_cell _ _ _ _ _ _ _ hne).trans h.c2, (put3_frozen ..).trans h.f0, (put3_frozen ..).trans h.f1, (put3_frozen ..).trans h.f2⟩
theorem Bx.otherg {o : Bool} (h : Bx W B a n c x o) {B' : Nat} (hne : B ≠ B') (d : Option Addr) (m e : Nat) (d' : Option Addr) (m' e' : Nat) (y : Int) : Bx (putg W B' d m e d' m' e' y) B a n c x o :=
  ⟨(putg_cell _ _ _ _ _ _ _ _ _ hne).trans h.c0, (putg_cell _ _ _ _ _ _ _ _ _ hne).trans h.c1, (putg_cell _ _ _ _ _ _ _ _ _ hne).trans h.c2, (putg_frozen ..).trans h.f0, (putg_frozen ..).trans h.f1, (putg_frozen ..).trans h.f2,
    fun i s e => h.ns i s ((putg_cell _ _ _ _ _ _ _ _ _ hne).symm.trans e)⟩
theorem RefD.putg (h : Lx W B a n c a' n' c' x) (hn : NoStr W B) {q : Value} {S : Ds} (hr : RefD W q S) (d : Option Addr) (m e : Nat) (d' : Option Addr) (m' e' : Nat) (y : Int) : RefD (putg W B d m e d' m' e' y) q S := by
  have n1 := hn.set 0 (.slice d m e) (by rw [h.c0]; rfl) (fun s h => by cases h)
  have n2 := n1.set 1 (.slice d' m' e') (by rw [World.cell?_setCell_other _ _ _ _ (by simp), h.c1]; rfl) (fun s h => by cases h)
  exact ((hr.setc hn _ _).setc n1 _ _).setc n2 _ _
end
theorem NoStr.put3 {W : World} {B B' : Nat} (h : NoStr W B) (hne : B ≠ B') (a : Option Addr) (n c : Nat) (f : Int) (o : Bool) : NoStr (put3 W B' a n c f o) B := fun i s e => h i s ((put3_cell _ _ _ _ _ _ _ hne).symm.trans e)
/-- Two blocks that a call answers: a disk and a log. -/
structure Res (W : World) (R1 R2 : Nat) : Prop where
  r1 : Bx W R1 none 0 0 0 false
  r2 : Lx W R2 none 0 0 none 0 0 0
  ns : NoStr W R2
  ne : R1 ≠ R2
theorem Res.old {W W' : World} {R1 R2 : Nat} (h : Res W R1 R2) (hb : Below W.heap.size W W') : Res W' R1 R2 := ⟨h.r1.old hb, h.r2.old hb, h.ns.old h.r2.lt hb, h.ne⟩
structure ResF (w W : World) (R1 R2 : Nat) (T : Ds) (a : Option Addr) (n c : Nat) (f : Int) (o : Bool) (d : Option Addr) (m e : Nat) (d' : Option Addr) (m' e' : Nat) (y : Int) : Prop where
  d0 : W.cell? ⟨R1, 0, none⟩ = some (.slice a n c)
  d1 : W.cell? ⟨R1, 1, none⟩ = some (.int .i64 f)
  d2 : W.cell? ⟨R1, 2, none⟩ = some (.bool o)
  l0 : W.cell? ⟨R2, 0, none⟩ = some (.slice d m e)
  l1 : W.cell? ⟨R2, 1, none⟩ = some (.slice d' m' e')
  l2 : W.cell? ⟨R2, 2, none⟩ = some (.int .i64 y)
  q : RefD W (.agg #[.slice a n c, .int .i64 f, .bool o]) T
  b : Below w.heap.size w W
theorem Res.fin {w W : World} {R1 R2 : Nat} (h : Res W R1 R2) {T : Ds} {a : Option Addr} {n c : Nat} {f : Int} {o : Bool} (hq : RefD W (.agg #[.slice a n c, .int .i64 f, .bool o]) T) (hb : Below w.heap.size w W) (h1 : w.heap.size ≤ R1) (h2 : w.heap.size ≤ R2) (d : Option Addr) (m e : Nat) (d' : Option Addr) (m' e' : Nat) (y : Int) :
    ResF w (putg (put3 W R1 a n c f o) R2 d m e d' m' e' y) R1 R2 T a n c f o d m e d' m' e' y ∧ ResF w (put3 (putg W R2 d m e d' m' e' y) R1 a n c f o) R1 R2 T a n c f o d m e d' m' e' y := by
  constructor
  · have k1 := (h.r1.put a n c f o).otherg h.ne d m e d' m' e' y
    have k2 := (h.r2.other h.ne.symm a n c f o).put d m e d' m' e' y
    have q1 := RefD.put h.r1 hq a n c f o
    exact ⟨k1.c0, k1.c1, k1.c2, k2.c0, k2.c1, k2.c2, RefD.putg (h.r2.other h.ne.symm a n c f o) (h.ns.put3 h.ne.symm a n c f o) q1 .., putg_below (put3_below hb h1 ..) h2 ..⟩
  · have k1 := (h.r1.otherg h.ne d m e d' m' e' y)
    have k2 := ((h.r2.put d m e d' m' e' y).other h.ne.symm a n c f o)
    have q1 := RefD.putg h.r2 h.ns hq d m e d' m' e' y
    have k3 := k1.put a n c f o
    exact ⟨k3.c0, k3.c1, k3.c2, k2.c0, k2.c1, k2.c2, RefD.put k1 q1 .., put3_below (putg_below hb h2 ..) h1 ..⟩
end Go.Proofs.YtkfmjkcomjmedaaGreat
namespace Go.Proofs.YtkfmjkcomjmedaaGreat
open Go.RowKit
set_option linter.unusedVariables false
set_option linter.unusedSimpArgs false

theorem new_after {Y W : World} {t : TypeId} (b : Below (Y.alloc (.cells #[.slice none 0 0, .int .i64 0, .bool false] t)).heap.size (Y.alloc (.cells #[.slice none 0 0, .int .i64 0, .bool false] t)) W) : Bx W Y.heap.size none 0 0 0 false ∧ Below Y.heap.size Y W :=
  ⟨(Bx.new ..).old b, ((Below.refl Y.heap.size Y).alloc (Nat.le_refl _) _).trans (b.mono (by simp))⟩
theorem new_afterd {Y W : World} {t : TypeId} (b : Below (Y.alloc (.cells #[.slice none 0 0, .int .i64 0, .bool false] t)).drew.heap.size (Y.alloc (.cells #[.slice none 0 0, .int .i64 0, .bool false] t)).drew W) : Bx W Y.heap.size none 0 0 0 false ∧ Below Y.heap.size Y W :=
  ⟨((Bx.new ..).old ((Below.refl _ _).drew)).old b, ((Below.refl Y.heap.size Y).alloc (Nat.le_refl _) _).drew.trans (b.mono (by show Y.heap.size ≤ (Y.alloc _).heap.size; simp))⟩
theorem Res.setc {W : World} {R1 R2 b : Nat} (h : Res W R1 R2) (h1 : R1 ≠ b) (h2 : R2 ≠ b) (i : Nat) (u : Value) : Res (W.setCell ⟨b, i, none⟩ u) R1 R2 := by
  have hc : ∀ j, (W.setCell ⟨b, i, none⟩ u).cell? ⟨R2, j, none⟩ = W.cell? ⟨R2, j, none⟩ := fun j => World.cell?_setCell_other _ _ _ _ (by intro e; simp at e <;> omega)
  refine ⟨h.r1.setc h1 i u, ⟨(hc 0).trans h.r2.c0, (hc 1).trans h.r2.c1, (hc 2).trans h.r2.c2, ?_, ?_, ?_⟩, fun j s e => h.ns j s ((hc j).symm.trans e), h.ne⟩
  · simp [go_sem, h.r2.f0]
  · simp [go_sem, h.r2.f1]
  · simp [go_sem, h.r2.f2]
def rollR (S : Ds) (n : Nat) : Ds × Int := if (S.sync (lname n)).2 = 0 then (S.sync (lname n)).1.make (lname (n + 1)) else S.sync (lname n)
def RollE (w : World) (S : Ds) (n : Nat) (a1 a2 : Option Addr) (n1 c1 n2 c2 : Nat) (e : Ending) (w' : World) : Prop :=
  ∃ q', e = .returned (.tuple #[q', .agg #[.slice a1 n1 c1, .slice a2 n2 c2, .int .i64 ((if (rollR S n).2 = 0 then n + 1 else n : Nat) : Int)], .int .i64 (rollR S n).2]) ∧ RefD w' q' (rollR S n).1 ∧ Below w.heap.size w w'
set_option maxRecDepth 100000 in
set_option maxHeartbeats 4000000 in
theorem roll_ref {bb nb : Nat} {w : World} {q : Value} {S : Ds} (h : RefD w q S) (hk : OkS bb nb S) (a1 a2 : Option Addr) (n1 c1 n2 c2 n : Nat) (hn : n ≤ 99999997) :
    Calls Tryz.prog 23 #[q, .agg #[.slice a1 n1 c1, .slice a2 n2 c2, .int .i64 (n : Int)]] w (RollE w S n a1 a2 n1 c1 n2 c2) := by
  have HD := Lib.hid h
  obtain ⟨a, c, rfl, h1, h2, h3⟩ := h
  obtain ⟨ln, hln⟩ : ∃ ln, ln = S.files.length := ⟨_, rfl⟩
  rw [← hln] at HD ⊢
  have HK := Lib.hid hk
  have HFL := Lib.hid (fun (W : World) (h : RefD W (.agg #[.slice a ln c, .int .i64 S.fuse, .bool S.off]) S) => flush_ref h (by have := hk.len; omega) hk.srt hk.fz a1 a2 n1 c1 n2 c2 n (by omega))
  have hk2 : OkS bb nb (S.sync (lname n)).1 := hk.sync
  have HRL := Lib.hid (show ∀ w, RollE w S n a1 a2 n1 c1 n2 c2 = RollE w S n a1 a2 n1 c1 n2 c2 from fun _ => rfl)
  obtain ⟨T, hT⟩ : ∃ T, T = (S.sync (lname n)).1 := ⟨_, rfl⟩
  obtain ⟨E, hE⟩ : ∃ E, E = (S.sync (lname n)).2 := ⟨_, rfl⟩
  rw [← hT] at hk2
  rw [← hT, ← hE] at HFL
  have HR := Lib.hid (show rollR S n = if E = 0 then T.make (lname (n + 1)) else (T, E) by unfold rollR; rw [hT, hE])
  have HK2 := Lib.hid hk2
  clear h1 h2 h3 hln hk hk2 hT hE HRL
  have HNA := Lib.hid (show ∀ w : World, Calls Tryz.prog 43 #[.int .i64 ((n : Int) + 1)] w fun e w' => e = .returned (.string ⟨(lname (n + 1)).toArray⟩) ∧ Below w.heap.size w w' from lname_ref (n + 1) (by omega))
  go_enter Tryz.func23, Tryz.ntmps23
  go_upto_region 1 with fail
  generalize hW : World.alloc (World.alloc (World.alloc (World.alloc w _) _) _) _ = W
  have BB : Below w.heap.size w W := by rw [← hW]; exact ((((Below.refl _ _).alloc (Nat.le_refl _) _).alloc (by simp) _).alloc (by simp; omega) _).alloc (by simp; omega) _
  have hsz : W.heap.size = w.heap.size + 4 := by rw [← hW]; simp
  have x0 : W.cell? ⟨w.heap.size, 0, none⟩ = some (.slice a ln c) := by rw [← hW]; simp [go_sem]
  have x1 : W.cell? ⟨w.heap.size, 1, none⟩ = some (.int .i64 S.fuse) := by rw [← hW]; simp [go_sem]
  have x2 : W.cell? ⟨w.heap.size, 2, none⟩ = some (.bool S.off) := by rw [← hW]; simp [go_sem]
  have HL : Lx W (w.heap.size + 1) a1 n1 c1 a2 n2 c2 (n : Int) := by
    rw [← hW]; constructor <;> simp [go_sem]
  have HNS : NoStr W (w.heap.size + 1) := by
    rw [← hW]
    have e2 := ((noStr_log (w.alloc (.cells #[.slice a ln c, .int .i64 S.fuse, .bool S.off] 28)) a1 a2 n1 c1 n2 c2 (n : Int) 34).old (by simp) ((Below.refl _ _).alloc (Nat.le_refl _) (.cells #[.slice none 0 0, .int .i64 0, .bool false] 28))).old (by simp) ((Below.refl _ _).alloc (Nat.le_refl _) (.cells #[.slice none 0 0, .slice none 0 0, .int .i64 0] 34))
    simpa using e2
  have HRES : Res W (w.heap.size + 2) (w.heap.size + 3) := by
    rw [← hW]
    have e1 := (Bx.new ((w.alloc (.cells #[.slice a ln c, .int .i64 S.fuse, .bool S.off] 28)).alloc (.cells #[.slice a1 n1 c1, .slice a2 n2 c2, .int .i64 (n : Int)] 34)) none 0 0 0 false 28).old ((Below.refl _ _).alloc (Nat.le_refl _) (.cells #[.slice none 0 0, .slice none 0 0, .int .i64 0] 34))
    have e2 := noStr_log (((w.alloc (.cells #[.slice a ln c, .int .i64 S.fuse, .bool S.off] 28)).alloc (.cells #[.slice a1 n1 c1, .slice a2 n2 c2, .int .i64 (n : Int)] 34)).alloc (.cells #[.slice none 0 0, .int .i64 0, .bool false] 28)) none none 0 0 0 0 0 34
    refine ⟨by simpa using e1, ?_, by simpa using e2, by omega⟩
    constructor <;> simp [go_sem]
  clear hW
  have HQ := Lib.hid (HD.out.old BB)
  have BB := Lib.hid BB
  have HLL := Lib.hid HL
  have HRS := Lib.hid HRES
  obtain ⟨l0, l1, l2, m0, m1, m2⟩ := HL
  clear HRES
  go_wp2_with fail
  go_at_call 21
  refine (HFL.out _ HQ.out).mono ?_
  rintro e W1 ⟨q1, rfl, hq1, b1⟩
  have HQ1 := Lib.hid hq1
  obtain ⟨d1, e1, rfl, r1, g1, g2⟩ := hq1
  have HL1 := Lib.hid (HLL.out.old b1)
  have NS1 := Lib.hid (HNS.old (by omega) b1)
  have HR1 := Lib.hid (HRS.out.old b1)
  have BB1 := Lib.hid (BB.out.trans (b1.mono (by omega)))
  have hs1 := b1.size
  clear x0 x1 x2 l0 l1 l2 m0 m1 m2 b1 r1
  go_upto_if 18 with fail
  generalize hW2 : World.alloc W1 _ = W2
  have b2 : Below W1.heap.size W1 W2 := by rw [← hW2]; exact (Below.refl _ _).alloc (Nat.le_refl _) _
  have hs2 : W2.heap.size = W1.heap.size + 1 := by rw [← hW2]; simp
  have HN : Bx W2 W1.heap.size d1 T.files.length e1 T.fuse T.off := by rw [← hW2]; exact Bx.new ..
  have HL2 := Lib.hid (HL1.out.old b2)
  have NS2 := Lib.hid (NS1.out.old (by omega) b2)
  have HR2 := Lib.hid (HR1.out.old b2)
  have HQ2 := Lib.hid (HQ1.out.old b2)
  have BB2 := Lib.hid (BB1.out.trans (b2.mono (by omega)))
  have HNN := Lib.hid HN
  clear hW2 b2
  obtain ⟨n0, n1', n2', z0, z1, z2, -⟩ := HN
  obtain ⟨l0, l1, l2, m0, m1, m2⟩ := HL2.out
  obtain ⟨⟨p0, p1, p2, s0, s1, s2, -⟩, ⟨t0, t1, t2, v0, v1, v2⟩, -, -⟩ := HR2.out
  by_cases hE0 : E = 0
  · subst hE0
    have HR0 := Lib.hid (show rollR S n = T.make (lname (n + 1)) by rw [HR.out]; rfl)
    have hn9 : ¬ (99999998 : Int) ≤ (n : Int) := by omega
    have hw1 : IntKind.i64.wrap ((n : Int) + 1) = ((n + 1 : Nat) : Int) := by rw [IntWalk.i64_in _ (by omega)]; omega
    have HMK := Lib.hid (fun (W : World) (h : RefD W (.agg #[.slice d1 T.files.length e1, .int .i64 T.fuse, .bool T.off]) T) => make_ref h (by have := HK2.out.len; omega) HK2.out.srt HK2.out.fz (lname (n + 1)) (by rw [lname_length]; decide))
    obtain ⟨U, hU⟩ : ∃ U, U = (T.make (lname (n + 1))).1 := ⟨_, rfl⟩
    obtain ⟨F, hF⟩ : ∃ F, F = (T.make (lname (n + 1))).2 := ⟨_, rfl⟩
    rw [← hU, ← hF] at HMK
    have HR1' := Lib.hid (show (rollR S n).1 = U ∧ (rollR S n).2 = F by rw [HR0.out, hU, hF]; exact ⟨rfl, rfl⟩)
    clear hU hF
    go_upto_region 6 with fail
    have SS := And.intro n0 (And.intro n1' (And.intro n2' l2))
    have HQR := Lib.hid (fun W' (h : Below W2.heap.size W2 W') => HQ2.out.old h)
    clear n0 n1' n2' l2 l0 l1 m0 m1 m2 z0 z1 z2 p0 p1 p2 s0 s1 s2 t0 t1 t2 v0 v1 v2
    have ha : W1.heap.size < W2.heap.size := by omega
    have hb : w.heap.size + 1 < W2.heap.size := by omega
    have hb4 : w.heap.size + 4 ≤ W2.heap.size := by omega
    clear hs2 hs1 hsz
    go_cut [9, 10] (fun s9 s10 wx => ∃ g a5 c5, s9 = .pointer (some ⟨g, 0, none⟩) ∧ s10 = .int .i64 F ∧ Bx wx g a5 U.files.length c5 U.fuse U.off ∧ RefD wx (.agg #[.slice a5 U.files.length c5, .int .i64 U.fuse, .bool U.off]) U ∧ W2.heap.size ≤ g ∧ Below W2.heap.size W2 wx)
    case first =>
      go_region_held3 (fun w' => w'.cell? ⟨W1.heap.size, 0, none⟩ = some (.slice d1 T.files.length e1) ∧ w'.cell? ⟨W1.heap.size, 1, none⟩ = some (.int .i64 T.fuse) ∧ w'.cell? ⟨W1.heap.size, 2, none⟩ = some (.bool T.off) ∧ w'.cell? ⟨w.heap.size + 1, 2, none⟩ = some (.int .i64 (n : Int)))
        (first
          | assumption
          | (refine keep_dl (base := W2.heap.size) SS (by omega) (by omega) ?_
             repeat (first | assumption | exact Below.refl _ _ | (refine Below.alloc ?_ ?_ _) | (refine Below.setCell ?_ ?_ _) | (refine Below.drew ?_))
             all_goals (first | omega | (simp; done) | (simp; omega))))
        (first
          | (go_at_call 43; (with_reducible refine (HNA.out _).mono ?_); rintro e w4 ⟨rfl, b4⟩; have hq : Bx w4 _ none 0 0 0 false ∧ Below _ _ w4 := (by with_reducible exact new_after b4); obtain ⟨hbx, hyy⟩ := hq; have z4 : Below W2.heap.size W2 w4 := (by first | (with_reducible exact hyy) | exact bt ((Below.refl _ _).drew) hyy); have hz4 := z4.size)
          | (go_at_call 43; (with_reducible refine (HNA.out _).mono ?_); rintro e w4 ⟨rfl, b4⟩; have hq : Bx w4 _ none 0 0 0 false ∧ Below _ _ w4 := (by with_reducible exact new_afterd b4); obtain ⟨hbx, hyy⟩ := hq; have z4 : Below W2.heap.size W2 w4 := (by first | (with_reducible exact hyy) | exact bt ((Below.refl _ _).drew) hyy); have hz4 := z4.size)
          | (go_at_call 43; (with_reducible refine (HNA.out _).mono ?_); rintro e w4 ⟨rfl, b4⟩; have z4 : Below W2.heap.size W2 w4 := (by first | (with_reducible exact b4) | (with_reducible exact bt ((Below.refl _ _).drew) b4)); have hz4 := z4.size)
          | (go_at_call 42; (with_reducible refine (HMK.out _ (HQR.out _ (z4.alloc hz4 _))).mono ?_); rintro e w5 ⟨q5, rfl, hq5, b5⟩; have hq : Bx w5 _ none 0 0 0 false ∧ Below _ _ w5 := (by with_reducible exact new_after b5); obtain ⟨hbx5, hyy⟩ := hq; have z5 : Below W2.heap.size W2 w5 := (by with_reducible exact bt z4 hyy); have hz5 := z5.size; have hqq := Lib.hid hq5; obtain ⟨a5, c5, rfl, r5, g5, g6⟩ := hq5; clear b5 hyy; have K5 := Lib.hid hbx5; obtain ⟨y0, y1, y2, x0, x1, x2, -⟩ := hbx5)
          | (go_at_call 42; (with_reducible refine (HMK.out _ (HQR.out _ (z4.alloc hz4 _))).mono ?_); rintro e w5 ⟨q5, rfl, hq5, b5⟩; have hq : Bx w5 _ none 0 0 0 false ∧ Below _ _ w5 := (by with_reducible exact new_afterd b5); obtain ⟨hbx5, hyy⟩ := hq; have z5 : Below W2.heap.size W2 w5 := (by with_reducible exact bt z4 hyy); have hz5 := z5.size; have hqq := Lib.hid hq5; obtain ⟨a5, c5, rfl, r5, g5, g6⟩ := hq5; clear b5 hyy; have K5 := Lib.hid hbx5; obtain ⟨y0, y1, y2, x0, x1, x2, -⟩ := hbx5)
          | (go_at_call 42; (with_reducible refine (HMK.out _ (HQR.out _ z4)).mono ?_); rintro e w5 ⟨q5, rfl, hq5, b5⟩; have hbx5 := hbx.old b5; have z5 : Below W2.heap.size W2 w5 := (by with_reducible exact bt z4 b5); have hz5 := z5.size; have hqq := Lib.hid hq5; obtain ⟨a5, c5, rfl, r5, g5, g6⟩ := hq5; clear b5; have K5 := Lib.hid hbx5; obtain ⟨y0, y1, y2, x0, x1, x2, -⟩ := hbx5)
          | (go_at_call 42; (with_reducible refine (HMK.out _ (HQR.out _ z4)).mono ?_); rintro e w5 ⟨q5, rfl, hq5, b5⟩; have z5 : Below W2.heap.size W2 w5 := (by with_reducible exact bt z4 b5); have hz5 := z5.size; have hqq := Lib.hid hq5; obtain ⟨a5, c5, rfl, r5, g5, g6⟩ := hq5))
      all_goals
        go_wp2_with fail
        go_meet
        first
          | exact ⟨_, a5, c5, rfl, rfl, Bx.new .., hqq.out.old ((Below.refl _ _).alloc (Nat.le_refl _) _), hz5, z5.alloc hz5 _⟩
          | exact ⟨_, a5, c5, rfl, rfl, K5.out.put .., RefD.put K5.out hqq.out .., hz4, put3_below z5 hz4 ..⟩
          | exact ⟨_, a5, c5, rfl, rfl, K5.out.put .., RefD.put K5.out hqq.out .., Nat.le_refl _, put3_below z5 (Nat.le_refl _) ..⟩
    case rest =>
      obtain ⟨g, a5, c5, rfl, rfl, kg, hq5, hg, bc⟩ := hcut
      have HL5 := Lib.hid (HL2.out.old bc)
      have HR5 := Lib.hid (HR2.out.old bc)
      have NS5 := Lib.hid (NS2.out.old (by omega) bc)
      have BB5 := Lib.hid (BB2.out.trans (bc.mono (by omega)))
      have KG := Lib.hid kg
      have HQ5 := Lib.hid hq5
      have hcs := bc.size
      clear bc hq5
      obtain ⟨n0, n1', n2', z0, z1, z2, -⟩ := kg
      obtain ⟨l0, l1, l2, m0, m1, m2⟩ := HL5.out
      obtain ⟨⟨p0, p1, p2, s0, s1, s2, -⟩, ⟨t0, t1, t2, v0, v1, v2⟩, -, -⟩ := HR5.out
      by_cases hF0 : F = 0
      · subst hF0
        go_wp2_with fail
        have k1 := KG.out.setc (show g ≠ w.heap.size + 1 by omega) 2 (.int .i64 ((n : Int) + 1))
        have k2 := HR5.out.setc (show w.heap.size + 2 ≠ w.heap.size + 1 by omega) (show w.heap.size + 3 ≠ w.heap.size + 1 by omega) 2 (.int .i64 ((n : Int) + 1))
        have k3 := HQ5.out.setc NS5.out 2 (.int .i64 ((n : Int) + 1))
        have k4 : Below w.heap.size w (wc.setCell ⟨w.heap.size + 1, 2, none⟩ (.int .i64 ((n : Int) + 1))) := BB5.out.setCell (by show w.heap.size ≤ w.heap.size + 1; omega) _
        have c0 : (wc.setCell ⟨w.heap.size + 1, 2, none⟩ (.int .i64 ((n : Int) + 1))).cell? ⟨w.heap.size + 1, 0, none⟩ = some (.slice a1 n1 c1) := by rw [World.cell?_setCell_other _ _ _ _ (by simp)]; exact l0
        have c1' : (wc.setCell ⟨w.heap.size + 1, 2, none⟩ (.int .i64 ((n : Int) + 1))).cell? ⟨w.heap.size + 1, 1, none⟩ = some (.slice a2 n2 c2) := by rw [World.cell?_setCell_other _ _ _ _ (by simp)]; exact l1
        have c2' : (wc.setCell ⟨w.heap.size + 1, 2, none⟩ (.int .i64 ((n : Int) + 1))).cell? ⟨w.heap.size + 1, 2, none⟩ = some (.int .i64 ((n : Int) + 1)) := World.cell?_setCell_same' _ _ _ (by rw [l2]; rfl)
        clear n0 n1' n2' z0 z1 z2 l0 l1 l2 m0 m1 m2 p0 p1 p2 s0 s1 s2 t0 t1 t2 v0 v1 v2
        generalize wc.setCell ⟨w.heap.size + 1, 2, none⟩ (.int .i64 ((n : Int) + 1)) = W6 at k1 k2 k3 k4 c0 c1' c2' ⊢
        have HR6 := Lib.hid k2
        have HQ6 := Lib.hid k3
        have BB6 := Lib.hid k4
        obtain ⟨n0, n1', n2', z0, z1, z2, -⟩ := k1
        obtain ⟨⟨p0, p1, p2, s0, s1, s2, -⟩, ⟨t0, t1, t2, v0, v1, v2⟩, -, -⟩ := k2
        clear k3 k4
        go_region
        clear n0 n1' n2' z0 z1 z2 c0 c1' c2' p0 p1 p2 s0 s1 s2 t0 t1 t2 v0 v1 v2
        have kf := ((HR6.out).fin (HQ6.out) (BB6.out) (by omega) (by omega) a1 (n1) c1 a2 (n2) c2 ((n : Int) + 1)).1
        go_wp2_with fail
        show bodyPost _ _ _ _ _ (World.drew (putg (put3 W6 (w.heap.size + 2) a5 (U.files.length) c5 (U.fuse) U.off) (w.heap.size + 3) a1 (n1) c1 a2 (n2) c2 ((n : Int) + 1)))
        generalize (putg (put3 W6 (w.heap.size + 2) a5 (U.files.length) c5 (U.fuse) U.off) (w.heap.size + 3) a1 (n1) c1 a2 (n2) c2 ((n : Int) + 1)) = WF at kf ⊢
        obtain ⟨k0, k1, k2, k3, k4, k5, kq, kb⟩ := kf
        refine bodyPost_ret (v := .tuple #[.agg #[.slice a5 (U.files.length) c5, .int .i64 (U.fuse), .bool U.off], .agg #[.slice a1 (n1) c1, .slice a2 (n2) c2, .int .i64 ((n : Int) + 1)], .int .i64 0]) (by simp [results, Tryz.f23, go_sem, k0, k1, k2, k3, k4, k5]) rfl ?_
        exact ⟨_, by rw [HR1'.out.2]; rfl, by rw [HR1'.out.1]; exact (kq.old ((Below.refl _ _).drew)), kb.drew⟩
      · have HF0 := Lib.hid hF0
        go_wp2_with fail
        go_region
        clear n0 n1' n2' z0 z1 z2 l0 l1 l2 m0 m1 m2 p0 p1 p2 s0 s1 s2 t0 t1 t2 v0 v1 v2
        have kf := ((HR5.out).fin (HQ5.out) (BB5.out) (by omega) (by omega) a1 (n1) c1 a2 (n2) c2 ((n : Int))).1
        go_wp2_with fail
        show bodyPost _ _ _ _ _ (World.drew (putg (put3 wc (w.heap.size + 2) a5 (U.files.length) c5 (U.fuse) U.off) (w.heap.size + 3) a1 (n1) c1 a2 (n2) c2 ((n : Int))))
        generalize (putg (put3 wc (w.heap.size + 2) a5 (U.files.length) c5 (U.fuse) U.off) (w.heap.size + 3) a1 (n1) c1 a2 (n2) c2 ((n : Int))) = WF at kf ⊢
        obtain ⟨k0, k1, k2, k3, k4, k5, kq, kb⟩ := kf
        refine bodyPost_ret (v := .tuple #[.agg #[.slice a5 (U.files.length) c5, .int .i64 (U.fuse), .bool U.off], .agg #[.slice a1 (n1) c1, .slice a2 (n2) c2, .int .i64 ((n : Int))], .int .i64 F]) (by simp [results, Tryz.f23, go_sem, k0, k1, k2, k3, k4, k5]) rfl ?_
        exact ⟨_, by rw [HR1'.out.2, if_neg HF0.out], by rw [HR1'.out.1]; exact (kq.old ((Below.refl _ _).drew)), kb.drew⟩
  · have HRS := Lib.hid (show (rollR S n).1 = T ∧ (rollR S n).2 = E by rw [HR.out, if_neg hE0]; exact ⟨rfl, rfl⟩)
    have HE0 := Lib.hid hE0
    go_wp2_with fail
    go_region
    clear n0 n1' n2' z0 z1 z2 l0 l1 l2 m0 m1 m2 p0 p1 p2 s0 s1 s2 t0 t1 t2 v0 v1 v2
    have kf := ((HR2.out).fin (HQ2.out) (BB2.out) (by omega) (by omega) a1 (n1) c1 a2 (n2) c2 ((n : Int))).1
    go_wp2_with fail
    show bodyPost _ _ _ _ _ (World.drew (putg (put3 W2 (w.heap.size + 2) d1 (T.files.length) e1 (T.fuse) T.off) (w.heap.size + 3) a1 (n1) c1 a2 (n2) c2 ((n : Int))))
    generalize (putg (put3 W2 (w.heap.size + 2) d1 (T.files.length) e1 (T.fuse) T.off) (w.heap.size + 3) a1 (n1) c1 a2 (n2) c2 ((n : Int))) = WF at kf ⊢
    obtain ⟨k0, k1, k2, k3, k4, k5, kq, kb⟩ := kf
    refine bodyPost_ret (v := .tuple #[.agg #[.slice d1 (T.files.length) e1, .int .i64 (T.fuse), .bool T.off], .agg #[.slice a1 (n1) c1, .slice a2 (n2) c2, .int .i64 ((n : Int))], .int .i64 E]) (by simp [results, Tryz.f23, go_sem, k0, k1, k2, k3, k4, k5]) rfl ?_
    exact ⟨_, by rw [HRS.out.2, if_neg HE0.out], by rw [HRS.out.1]; exact (kq.old ((Below.refl _ _).drew)), kb.drew⟩
end Go.Proofs.YtkfmjkcomjmedaaGreat
namespace Go.Proofs.YtkfmjkcomjmedaaGreat
open Go.RowKit
set_option linter.unusedVariables false
set_option linter.unusedSimpArgs false

/-- The document's log as a value: texts, their files' numbers (both in blocks of the class P), the last number. -/
def RefL (P : Nat → Prop) (w : World) (v : Value) (ts : List (List UInt8)) (os : List Nat) (n : Nat) : Prop := ∃ a1 c1 a2 c2, v = .agg #[.slice a1 ts.length c1, .slice a2 os.length c2, .int .i64 (n : Int)] ∧ Rd w a1 ts ∧ RdI w a2 os ∧ (ts ≠ [] → ∀ b off, a1 = some ⟨b, off, none⟩ → P b) ∧ (os ≠ [] → ∀ b off, a2 = some ⟨b, off, none⟩ → P b)
theorem RefL.old {P : Nat → Prop} {w w' : World} {v : Value} {ts : List (List UInt8)} {os : List Nat} {n : Nat} (h : RefL P w v ts os n) (hb : Below w.heap.size w w') : RefL P w' v ts os n := by
  obtain ⟨a1, c1, a2, c2, h1, h2, h3, h4⟩ := h
  exact ⟨a1, c1, a2, c2, h1, h2.old hb, h3.old hb, h4⟩
theorem RdI.news {w : World} {a : Option Addr} {ns : List Nat} (h : RdI w a ns) : ∀ y, a = some y → ∀ j u, (nv ns)[j]? = some u → w.cell? (y.add j) = some u := by
  rintro y rfl j u hj
  rcases h with rfl | ⟨b, off, h, hb, hc⟩
  · simp [nv] at hj
  · cases h
    have hjl : j < ns.length := by
      have := (List.getElem?_eq_some_iff.1 hj).1
      simpa [nv] using this
    have e : (⟨b, off, none⟩ : Addr).add j = ⟨b, off + j, none⟩ := by unfold Addr.add; split <;> simp_all
    rw [e, hc j hjl]
    simp [nv, List.getElem?_map, List.getElem?_eq_getElem hjl] at hj
    rw [hj]
theorem RdI.isNone {w : World} {a : Option Addr} {ns : List Nat} (h : RdI w a ns) : a = none → ns.length = 0 := by
  rintro rfl
  rcases h with rfl | ⟨_, _, h, _⟩
  · rfl
  · cases h
theorem nv_ones (ns : List Nat) : ∀ u ∈ nv ns, u.oneCell' = true := by
  intro u hu
  simp only [nv, List.mem_map] at hu
  obtain ⟨t, _, rfl⟩ := hu
  rfl
theorem Tryz.infoInt : (Tryz.prog.info? 3).map (fun i => (i.zero, i.size, i.bytes)) = some (some (.int .i64 0), 1, 8) := by kernel_rfl
theorem nv_length (ns : List Nat) : (nv ns).length = ns.length := by simp [nv]
theorem Lx.set0 {W : World} {B : Nat} {a a' : Option Addr} {n c n' c' : Nat} {x : Int} (h : Lx W B a n c a' n' c' x) (d : Option Addr) (m e : Nat) : Lx (W.setCell ⟨B, 0, none⟩ (.slice d m e)) B d m e a' n' c' x := by
  refine ⟨World.cell?_setCell_same' _ _ _ (by rw [h.c0]; rfl), ?_, ?_, ?_, ?_, ?_⟩
  · rw [World.cell?_setCell_other _ _ _ _ (by simp)]; exact h.c1
  · rw [World.cell?_setCell_other _ _ _ _ (by simp)]; exact h.c2
  · simp [go_sem, h.f0]
  · simp [go_sem, h.f1]
  · simp [go_sem, h.f2]
theorem Lx.set1 {W : World} {B : Nat} {a a' : Option Addr} {n c n' c' : Nat} {x : Int} (h : Lx W B a n c a' n' c' x) (d : Option Addr) (m e : Nat) : Lx (W.setCell ⟨B, 1, none⟩ (.slice d m e)) B a n c d m e x := by
  refine ⟨?_, World.cell?_setCell_same' _ _ _ (by rw [h.c1]; rfl), ?_, ?_, ?_, ?_⟩
  · rw [World.cell?_setCell_other _ _ _ _ (by simp)]; exact h.c0
  · rw [World.cell?_setCell_other _ _ _ _ (by simp)]; exact h.c2
  · simp [go_sem, h.f0]
  · simp [go_sem, h.f1]
  · simp [go_sem, h.f2]
theorem own_setc {W : World} {base t size n : Nat} {v : Value} {xs : List Value} (h : W.ownsRow base t size v n xs) {B : Nat} (hB : B < base) (i : Nat) (u : Value) : (W.setCell ⟨B, i, none⟩ u).ownsRow base t size v n xs := by
  refine own_same h fun r hr => Below.heap_setCell _ _ _ _ ?_
  have := (h.lt r hr).1
  simp only
  omega
theorem own_put {W : World} {base t size n : Nat} {v : Value} {xs : List Value} (h : W.ownsRow base t size v n xs) {R1 R2 : Nat} (h1 : R1 < base) (h2 : R2 < base) (a : Option Addr) (m c : Nat) (f : Int) (o : Bool) (d : Option Addr) (k e : Nat) (d' : Option Addr) (k' e' : Nat) (y : Int) : (putg (put3 W R1 a m c f o) R2 d k e d' k' e' y).ownsRow base t size v n xs :=
  own_setc (own_setc (own_setc (own_setc (own_setc (own_setc h h1 _ _) h1 _ _) h1 _ _) h2 _ _) h2 _ _) h2 _ _
theorem Lx.olds {W W' : World} {B base : Nat} {a a' : Option Addr} {n c n' c' : Nat} {x : Int} (h : Lx W B a n c a' n' c' x) (hB : B < base) (hb : Below base W W') : Lx W' B a n c a' n' c' x :=
  ⟨(hb.cell (p := ⟨B, 0, none⟩) hB).trans h.c0, (hb.cell (p := ⟨B, 1, none⟩) hB).trans h.c1, (hb.cell (p := ⟨B, 2, none⟩) hB).trans h.c2,
    (hb.frozen (p := ⟨B, 0, none⟩) hB).trans h.f0, (hb.frozen (p := ⟨B, 1, none⟩) hB).trans h.f1, (hb.frozen (p := ⟨B, 2, none⟩) hB).trans h.f2⟩
theorem add_refl {P : Nat → Prop} {w W : World} {b1 b2 : Nat} {a1 a2 : Option Addr} {n1 n2 c1 c2 : Nat} {t1 t2 : TypeId} {ts : List (List UInt8)} {os : List Nat} {s : List UInt8} {n : Nat} (hP : ∀ b, w.heap.size ≤ b → P b) (hb : w.heap.size ≤ b1) (hb2 : w.heap.size ≤ b2) (h1 : n1 = ts.length) (h2 : n2 = os.length)
    (k1 : W.ownsRow b1 t1 1 (.slice a2 (n2 + 1) c2) (n2 + 1) (nv (os ++ [n]))) (k2 : W.ownsRow b2 t2 1 (.slice a1 (n1 + 1) c1) (n1 + 1) (sv (ts ++ [s]))) :
    RefL P W.drew (.agg #[.slice a1 (n1 + 1) c1, .slice a2 (n2 + 1) c2, .int .i64 (n : Int)]) (if (0 : Int) = 0 then ts ++ [s] else ts) (if (0 : Int) = 0 then os ++ [n] else os) n := by
  rw [if_pos rfl, if_pos rfl]
  have e1 : (ts ++ [s]).length = n1 + 1 := by rw [List.length_append, h1]; rfl
  have e2 : (os ++ [n]).length = n2 + 1 := by rw [List.length_append, h2]; rfl
  refine ⟨a1, c1, a2, c2, by rw [e1, e2], (own_rd (by rw [e1]; exact k2)).old ((Below.refl _ _).drew), (own_rdi (by rw [e2]; exact k1)).old ((Below.refl _ _).drew), ?_⟩
  constructor
  · rintro - b off rfl
    exact hP b (Nat.le_trans hb2 (k2.lt b rfl).1)
  · rintro - b off rfl
    exact hP b (Nat.le_trans hb (k1.lt b rfl).1)
def AddE (P : Nat → Prop) (w : World) (T : Ds) (F : Int) (s : List UInt8) (ts : List (List UInt8)) (os : List Nat) (n : Nat) (e : Ending) (w' : World) : Prop :=
  ∃ q' v', e = .returned (.tuple #[q', v', .int .i64 F]) ∧ RefD w' q' T ∧ RefL P w' v' (if F = 0 then ts ++ [s] else ts) (if F = 0 then os ++ [n] else os) n ∧ Below w.heap.size w w'
set_option maxRecDepth 100000 in
set_option maxHeartbeats 4000000 in
theorem add_ref {bb nb : Nat} {P : Nat → Prop} {w : World} {q v : Value} {S : Ds} {ts : List (List UInt8)} {os : List Nat} {n : Nat} (h : RefD w q S) (hv : RefL P w v ts os n) (hP : ∀ b, w.heap.size ≤ b → P b) (hk : OkS bb nb S) (hbb : bb ≤ 4194304) (hn : n ≤ 99999999) (htl : ts.length ≤ 100000000) (hol : os.length ≤ 100000000) (s : List UInt8) (hs : s.length ≤ 131072) :
    Calls Tryz.prog 20 #[q, v, .string ⟨s.toArray⟩] w (AddE P w (S.append (lname n) (frL s)).1 (S.append (lname n) (frL s)).2 s ts os n) := by
  have HD := Lib.hid h
  obtain ⟨a, c, rfl, h1, h2, h3⟩ := h
  have HV := Lib.hid hv
  obtain ⟨a1, c1, a2, c2, rfl, hr1, hr2, hr3⟩ := hv
  obtain ⟨ln, hln⟩ : ∃ ln, ln = S.files.length := ⟨_, rfl⟩
  obtain ⟨n1, hn1⟩ : ∃ n1, n1 = ts.length := ⟨_, rfl⟩
  obtain ⟨n2, hn2⟩ : ∃ n2, n2 = os.length := ⟨_, rfl⟩
  rw [← hln] at HD ⊢
  rw [← hn1, ← hn2] at HV ⊢
  rw [← hn1] at htl
  rw [← hn2] at hol
  have HK := Lib.hid hk
  have HP := Lib.hid hP
  have hfl : (frL s).length ≤ maxLen := by have := frL_le s (by omega); unfold maxLen; omega
  have HAP := Lib.hid (fun (W : World) (h : RefD W (.agg #[.slice a ln c, .int .i64 S.fuse, .bool S.off]) S) => append_ref h (by have := hk.len; omega) hk.srt hk.fz (lname n) (by rw [lname_length]; decide) (Lib.hid fun p hp => Nat.le_trans (hk.fb p hp).2 hbb) (frL s) hfl)
  have HNA := Lib.hid (lname_ref n hn)
  have HPU := Lib.hid (fput_ref ⟨s.toArray⟩ · (by rw [size_mkl]; omega))
  simp only at HPU
  have HR1 := Lib.hid hr1
  have HR2 := Lib.hid hr2
  have HN1 := Lib.hid hn1
  have HN2 := Lib.hid hn2
  have hsl : (⟨s.toArray⟩ : ByteArray).size = s.length := size_mkl s
  obtain ⟨U, hU⟩ : ∃ U, U = (S.append (lname n) (frL s)).1 := ⟨_, rfl⟩
  obtain ⟨F, hF⟩ : ∃ F, F = (S.append (lname n) (frL s)).2 := ⟨_, rfl⟩
  rw [← hU, ← hF] at HAP ⊢
  clear h1 h2 h3 hln hk hfl hU hF hr1 hr2 hr3 hn1 hn2 hP
  go_enter Tryz.func20, Tryz.ntmps20
  go_upto_region 1 with fail
  generalize hW : World.alloc (World.alloc (World.alloc (World.alloc w _) _) _) _ = W
  have BB : Below w.heap.size w W := by rw [← hW]; exact ((((Below.refl _ _).alloc (Nat.le_refl _) _).alloc (by simp) _).alloc (by simp; omega) _).alloc (by simp; omega) _
  have hsz : W.heap.size = w.heap.size + 4 := by rw [← hW]; simp
  have HB : Bx W w.heap.size a ln c S.fuse S.off := by
    rw [← hW]
    have := (((Bx.new w a ln c S.fuse S.off 28).old ((Below.refl _ _).alloc (Nat.le_refl _) (.cells #[.slice a1 n1 c1, .slice a2 n2 c2, .int .i64 (n : Int)] 34))).old ((Below.refl _ _).alloc (Nat.le_refl _) (.cells #[.slice none 0 0, .int .i64 0, .bool false] 28))).old ((Below.refl _ _).alloc (Nat.le_refl _) (.cells #[.slice none 0 0, .slice none 0 0, .int .i64 0] 34))
    simpa using this
  have HL : Lx W (w.heap.size + 1) a1 n1 c1 a2 n2 c2 (n : Int) := by
    rw [← hW]; constructor <;> simp [go_sem]
  have HNS : NoStr W (w.heap.size + 1) := by
    rw [← hW]
    have e2 := ((noStr_log (w.alloc (.cells #[.slice a ln c, .int .i64 S.fuse, .bool S.off] 28)) a1 a2 n1 c1 n2 c2 (n : Int) 34).old (by simp) ((Below.refl _ _).alloc (Nat.le_refl _) (.cells #[.slice none 0 0, .int .i64 0, .bool false] 28))).old (by simp) ((Below.refl _ _).alloc (Nat.le_refl _) (.cells #[.slice none 0 0, .slice none 0 0, .int .i64 0] 34))
    simpa using e2
  have HRES : Res W (w.heap.size + 2) (w.heap.size + 3) := by
    rw [← hW]
    have e1 := (Bx.new ((w.alloc (.cells #[.slice a ln c, .int .i64 S.fuse, .bool S.off] 28)).alloc (.cells #[.slice a1 n1 c1, .slice a2 n2 c2, .int .i64 (n : Int)] 34)) none 0 0 0 false 28).old ((Below.refl _ _).alloc (Nat.le_refl _) (.cells #[.slice none 0 0, .slice none 0 0, .int .i64 0] 34))
    have e2 := noStr_log (((w.alloc (.cells #[.slice a ln c, .int .i64 S.fuse, .bool S.off] 28)).alloc (.cells #[.slice a1 n1 c1, .slice a2 n2 c2, .int .i64 (n : Int)] 34)).alloc (.cells #[.slice none 0 0, .int .i64 0, .bool false] 28)) none none 0 0 0 0 0 34
    refine ⟨by simpa using e1, ?_, by simpa using e2, by omega⟩
    constructor <;> simp [go_sem]
  clear hW
  have HQ := Lib.hid (HD.out.old BB)
  have BB := Lib.hid BB
  have HBB := Lib.hid HB
  have HLL := Lib.hid HL
  have HRS := Lib.hid HRES
  have NS := Lib.hid HNS
  clear HB HL HRES HNS
  have hs13 : ¬ (131072 : Int) < (s.length : Int) := by omega
  obtain ⟨n0, n1', n2', z0, z1, z2, -⟩ := HBB.out
  obtain ⟨l0, l1, l2, m0, m1, m2⟩ := HLL.out
  go_wp2_with fail
  go_at_call 51
  refine (HPU.out _).mono ?_
  rintro e W2 ⟨rfl, b2⟩
  have HB2 := HBB.out.old b2
  have HL2 := Lib.hid (HLL.out.old b2)
  have NS2 := Lib.hid (NS.out.old (by omega) b2)
  have HR2' := Lib.hid (HRS.out.old b2)
  have HQ2 := Lib.hid (HQ.out.old b2)
  have BB2 := Lib.hid (BB.out.trans (b2.mono (by omega)))
  have hs2 := b2.size
  clear n0 n1' n2' z0 z1 z2 l0 l1 l2 m0 m1 m2 b2
  go_upto_region 4 with fail
  have SS := And.intro HB2.c0 (And.intro HB2.c1 (And.intro HB2.c2 HL2.out.c2))
  have HQR := Lib.hid (fun W' (h : Below W2.heap.size W2 W') => HQ2.out.old h)
  have hb : w.heap.size < W2.heap.size := by omega
  have hb1 : w.heap.size + 1 < W2.heap.size := by omega
  have hb4 : w.heap.size + 4 ≤ W2.heap.size := by omega
  clear hsz hs2 HB2
  go_cut [11, 12] (fun s11 s12 wx => ∃ g a5 c5, s11 = .pointer (some ⟨g, 0, none⟩) ∧ s12 = .int .i64 F ∧ Bx wx g a5 U.files.length c5 U.fuse U.off ∧ RefD wx (.agg #[.slice a5 U.files.length c5, .int .i64 U.fuse, .bool U.off]) U ∧ W2.heap.size ≤ g ∧ Below W2.heap.size W2 wx)
  case first =>
    go_region_held3 (fun w' => w'.cell? ⟨w.heap.size, 0, none⟩ = some (.slice a ln c) ∧ w'.cell? ⟨w.heap.size, 1, none⟩ = some (.int .i64 S.fuse) ∧ w'.cell? ⟨w.heap.size, 2, none⟩ = some (.bool S.off) ∧ w'.cell? ⟨w.heap.size + 1, 2, none⟩ = some (.int .i64 (n : Int)))
      (first
        | assumption
        | (refine keep_dl (base := W2.heap.size) SS (by omega) (by omega) ?_
           repeat (first | assumption | exact Below.refl _ _ | (refine Below.alloc ?_ ?_ _) | (refine Below.setCell ?_ ?_ _) | (refine Below.drew ?_))
           all_goals (first | omega | (simp; done) | (simp; omega))))
      (first
        | (go_at_call 43; (with_reducible refine (HNA.out _).mono ?_); rintro e w4 ⟨rfl, b4⟩; have hq : Bx w4 _ none 0 0 0 false ∧ Below _ _ w4 := (by with_reducible exact new_after b4); obtain ⟨hbx, hyy⟩ := hq; have z4 : Below W2.heap.size W2 w4 := (by first | (with_reducible exact hyy) | exact bt ((Below.refl _ _).drew) hyy); have hz4 := z4.size)
        | (go_at_call 43; (with_reducible refine (HNA.out _).mono ?_); rintro e w4 ⟨rfl, b4⟩; have hq : Bx w4 _ none 0 0 0 false ∧ Below _ _ w4 := (by with_reducible exact new_afterd b4); obtain ⟨hbx, hyy⟩ := hq; have z4 : Below W2.heap.size W2 w4 := (by first | (with_reducible exact hyy) | exact bt ((Below.refl _ _).drew) hyy); have hz4 := z4.size)
        | (go_at_call 43; (with_reducible refine (HNA.out _).mono ?_); rintro e w4 ⟨rfl, b4⟩; have z4 : Below W2.heap.size W2 w4 := (by first | (with_reducible exact b4) | (with_reducible exact bt ((Below.refl _ _).drew) b4)); have hz4 := z4.size)
        | (go_at_call 52; (with_reducible refine (HAP.out _ (HQR.out _ (z4.alloc hz4 _))).mono ?_); rintro e w5 ⟨q5, rfl, hq5, b5⟩; have hq : Bx w5 _ none 0 0 0 false ∧ Below _ _ w5 := (by with_reducible exact new_after b5); obtain ⟨hbx5, hyy⟩ := hq; have z5 : Below W2.heap.size W2 w5 := bt z4 hyy; have hz5 := z5.size; have hqq := Lib.hid hq5; obtain ⟨a5, c5, rfl, r5, g5, g6⟩ := hq5; clear b5 hyy; have K5 := Lib.hid hbx5; obtain ⟨y0, y1, y2, x0, x1, x2, -⟩ := hbx5)
        | (go_at_call 52; (with_reducible refine (HAP.out _ (HQR.out _ (z4.alloc hz4 _))).mono ?_); rintro e w5 ⟨q5, rfl, hq5, b5⟩; have hq : Bx w5 _ none 0 0 0 false ∧ Below _ _ w5 := (by with_reducible exact new_afterd b5); obtain ⟨hbx5, hyy⟩ := hq; have z5 : Below W2.heap.size W2 w5 := bt z4 hyy; have hz5 := z5.size; have hqq := Lib.hid hq5; obtain ⟨a5, c5, rfl, r5, g5, g6⟩ := hq5; clear b5 hyy; have K5 := Lib.hid hbx5; obtain ⟨y0, y1, y2, x0, x1, x2, -⟩ := hbx5)
        | (go_at_call 52; (with_reducible refine (HAP.out _ (HQR.out _ z4)).mono ?_); rintro e w5 ⟨q5, rfl, hq5, b5⟩; have hbx5 := hbx.old b5; have z5 : Below W2.heap.size W2 w5 := bt z4 b5; have hz5 := z5.size; have hqq := Lib.hid hq5; obtain ⟨a5, c5, rfl, r5, g5, g6⟩ := hq5; clear b5; have K5 := Lib.hid hbx5; obtain ⟨y0, y1, y2, x0, x1, x2, -⟩ := hbx5)
        | (go_at_call 52; (with_reducible refine (HAP.out _ (HQR.out _ z4)).mono ?_); rintro e w5 ⟨q5, rfl, hq5, b5⟩; have z5 : Below W2.heap.size W2 w5 := bt z4 b5; have hz5 := z5.size; have hqq := Lib.hid hq5; obtain ⟨a5, c5, rfl, r5, g5, g6⟩ := hq5))
    all_goals
      go_wp2_with fail
      go_meet
      first
        | exact ⟨_, a5, c5, rfl, rfl, Bx.new .., hqq.out.old ((Below.refl _ _).alloc (Nat.le_refl _) _), hz5, z5.alloc hz5 _⟩
        | exact ⟨_, a5, c5, rfl, rfl, K5.out.put .., RefD.put K5.out hqq.out .., hz4, put3_below z5 hz4 ..⟩
        | exact ⟨_, a5, c5, rfl, rfl, K5.out.put .., RefD.put K5.out hqq.out .., Nat.le_refl _, put3_below z5 (Nat.le_refl _) ..⟩
  case rest =>
    obtain ⟨g, a5, c5, rfl, rfl, kg, hq5, hg, bc⟩ := hcut
    have HL5 := Lib.hid (HL2.out.old bc)
    have HR5 := Lib.hid (HR2'.out.old bc)
    have NS5 := Lib.hid (NS2.out.old (by omega) bc)
    have BB5 := Lib.hid (BB2.out.trans (bc.mono (by omega)))
    have KG := Lib.hid kg
    have HQ5 := Lib.hid hq5
    have hcs := bc.size
    clear bc hq5
    obtain ⟨n0, n1', n2', z0, z1, z2, -⟩ := kg
    obtain ⟨l0, l1, l2, m0, m1, m2⟩ := HL5.out
    obtain ⟨⟨p0, p1, p2, s0, s1, s2, -⟩, ⟨t0, t1, t2, v0, v1, v2⟩, -, -⟩ := HR5.out
    by_cases hF0 : F = 0
    · subst hF0
      go_upto_region 8 with fail
      generalize hW6 : World.alloc wc _ = W6
      have b6 : Below wc.heap.size wc W6 := by rw [← hW6]; exact (Below.refl _ _).alloc (Nat.le_refl _) _
      have hs6 : W6.heap.size = wc.heap.size + 1 := by rw [← hW6]; simp
      have KN := Lib.hid (show Lx W6 wc.heap.size none 0 0 none 0 0 (n : Int) by rw [← hW6]; exact Lx.new ..)
      clear hW6
      have KG6 := Lib.hid (KG.out.old b6)
      have HL6 := Lib.hid (HL5.out.old b6)
      have HR6 := Lib.hid (HR5.out.old b6)
      have HQ6 := Lib.hid (HQ5.out.old b6)
      have B6 : Below w.heap.size w W6 := BB5.out.trans (b6.mono (by omega))
      have hc6 : wc.heap.size < W6.heap.size := by omega
      have RT6 := Lib.hid (HR1.out.old B6)
      have RO6 := Lib.hid (HR2.out.old B6)
      have BB6 := Lib.hid B6
      have B6C := Lib.hid (b6.mono (Nat.le_refl wc.heap.size))
      clear b6 hs6 B6 n0 n1' n2' z0 z1 z2 l0 l1 l2 m0 m1 m2 p0 p1 p2 s0 s1 s2 t0 t1 t2 v0 v1 v2
      obtain ⟨n0, n1', n2', z0, z1, z2⟩ := KN.out
      obtain ⟨l0, l1, l2, m0, m1, m2⟩ := HL6.out
      obtain ⟨i0, hi, hz0, hz1, hz2⟩ := info_parts Tryz.infoStr
      obtain ⟨j0, ji, jz0, jz1, jz2⟩ := info_parts Tryz.infoInt
      go_wp2_with (at_builtin; generalize hG : wpList _ _ _ _ _ _ = G)
      rw [← hG]
      clear hG
      refine wpList_append_any rfl _ _ 31 rfl W6.heap.size 9 i0 (.string ⟨#[]⟩) 1 16 Tryz.underlying31 hi hz0 hz1 hz2 rfl (by decide) _ 0 [] rfl (World.ownsRow_nil _ _ _ _) a1 n1 _ (sv ts) rfl (fun h => by rw [HN1.out]; exact RT6.out.isNone h) (by rw [sv_length, HN1.out, Nat.mul_one]) RT6.out.news (sv_one _) (by unfold maxLen; omega) (by omega) (Nat.le_refl _) ?_
      intro v7 W7 own7 b7
      simp only [Nat.zero_add, List.nil_append] at own7
      obtain ⟨r1, e1, rfl⟩ := own_slice own7
      have kn7 := KN.out.old b7
      have hl7 := Lib.hid (HL6.out.old b7)
      clear n0 n1' n2' z0 z1 z2 l0 l1 l2 m0 m1 m2
      obtain ⟨n0, n1', n2', z0, z1, z2⟩ := kn7
      obtain ⟨l0, l1, l2, m0, m1, m2⟩ := hl7.out
      go_upto_region 9 with fail
      have kn8 := (KN.out.old b7).set0 r1 n1 e1
      have own8 := own_setc own7 hc6 0 (.slice r1 n1 e1)
      have bc8 : Below wc.heap.size wc (W7.setCell ⟨wc.heap.size, 0, none⟩ (.slice r1 n1 e1)) := (B6C.out.trans (b7.mono (by omega))).setCell (Nat.le_refl _) _
      have hs8 : W6.heap.size ≤ (W7.setCell ⟨wc.heap.size, 0, none⟩ (.slice r1 n1 e1)).heap.size := by have := b7.size; simpa [World.setCell] using this
      generalize W7.setCell ⟨wc.heap.size, 0, none⟩ (.slice r1 n1 e1) = W8 at kn8 own8 bc8 hs8 ⊢
      have KN8 := Lib.hid kn8
      have BC8 := Lib.hid bc8
      have HL8 := Lib.hid (HL5.out.old bc8)
      clear n0 n1' n2' z0 z1 z2 l0 l1 l2 m0 m1 m2
      clear own7 b7 bc8
      obtain ⟨n0, n1', n2', z0, z1, z2⟩ := kn8
      obtain ⟨l0, l1, l2, m0, m1, m2⟩ := HL8.out
      have O8 := Lib.hid own8
      clear own8
      go_wp2_with (at_builtin; generalize hG : wpList _ _ _ _ _ _ = G)
      rw [← hG]
      clear hG
      refine wpList_append_any rfl _ _ 31 rfl W6.heap.size 9 i0 (.string ⟨#[]⟩) 1 16 Tryz.underlying31 hi hz0 hz1 hz2 rfl (by decide) _ n1 _ rfl (O8.out.alloc _) (some ⟨W8.heap.size, 0, none⟩) 1 _ [.string ⟨s.toArray⟩] rfl (fun h => by cases h) rfl (lit_one W8 _ _) (by intro u hu; simp at hu; subst hu; rfl) (by unfold maxLen; omega) (by omega) (by simp; omega) ?_
      intro v9 W9 own9 b9
      rw [sv_snoc] at own9
      obtain ⟨r2, e2, rfl⟩ := own_slice own9
      have b9' : Below W6.heap.size W8 W9 := (((Below.refl W8.heap.size W8).alloc (Nat.le_refl _) (.cells #[.string ⟨s.toArray⟩] 9)).mono hs8).trans b9
      have kn9 := KN8.out.olds (show wc.heap.size < W6.heap.size from hc6) b9'
      have bc9 : Below wc.heap.size wc W9 := BC8.out.trans (b9'.mono (by omega))
      have hl9 := Lib.hid (HL5.out.old bc9)
      clear n0 n1' n2' z0 z1 z2 l0 l1 l2 m0 m1 m2
      obtain ⟨n0, n1', n2', z0, z1, z2⟩ := kn9
      obtain ⟨l0, l1, l2, m0, m1, m2⟩ := hl9.out
      go_upto_region 10 with fail
      have kn10 := (KN8.out.olds (show wc.heap.size < W6.heap.size from hc6) b9').set0 r2 (n1 + 1) e2
      have own10 := own_setc own9 hc6 0 (.slice r2 (n1 + 1) e2)
      have bc10 : Below wc.heap.size wc (W9.setCell ⟨wc.heap.size, 0, none⟩ (.slice r2 (n1 + 1) e2)) := bc9.setCell (Nat.le_refl _) _
      have hs10 : W6.heap.size ≤ (W9.setCell ⟨wc.heap.size, 0, none⟩ (.slice r2 (n1 + 1) e2)).heap.size := by have := b9'.size; have h2 : W6.heap.size ≤ W9.heap.size := Nat.le_trans hs8 this; simpa [World.setCell] using h2
      generalize W9.setCell ⟨wc.heap.size, 0, none⟩ (.slice r2 (n1 + 1) e2) = W10 at kn10 own10 bc10 hs10 ⊢
      have KN10 := Lib.hid kn10
      have BC10 := Lib.hid bc10
      have HL10 := Lib.hid (HL5.out.old bc10)
      have RO10 := Lib.hid (HR2.out.old (BB5.out.trans (bc10.mono (by omega))))
      clear n0 n1' n2' z0 z1 z2 l0 l1 l2 m0 m1 m2
      clear own9 b9 b9' bc9 bc10 hl9 hl7
      obtain ⟨n0, n1', n2', z0, z1, z2⟩ := kn10
      obtain ⟨l0, l1, l2, m0, m1, m2⟩ := HL10.out
      have O10 := Lib.hid own10
      clear own10
      go_wp2_with (at_builtin; generalize hG : wpList _ _ _ _ _ _ = G)
      rw [← hG]
      clear hG
      refine wpList_append_any rfl _ _ 32 rfl W10.heap.size 3 j0 (.int .i64 0) 1 8 Tryz.underlying32 ji jz0 jz1 jz2 rfl (by decide) _ 0 [] rfl (World.ownsRow_nil _ _ _ _) a2 n2 _ (nv os) rfl (fun h => by rw [HN2.out]; exact RO10.out.isNone h) (by rw [nv_length, HN2.out, Nat.mul_one]) RO10.out.news (nv_ones _) (by unfold maxLen; omega) (by omega) (Nat.le_refl _) ?_
      intro v11 W11 own11 b11
      simp only [Nat.zero_add, List.nil_append] at own11
      obtain ⟨r3, e3, rfl⟩ := own_slice own11
      have kn11 := KN10.out.old b11
      have o11 := below_own O10.out b11
      have bc11 : Below wc.heap.size wc W11 := BC10.out.trans (b11.mono (by have := KN10.out.lt; omega))
      have hl11 := Lib.hid (HL5.out.old bc11)
      clear n0 n1' n2' z0 z1 z2 l0 l1 l2 m0 m1 m2
      obtain ⟨n0, n1', n2', z0, z1, z2⟩ := kn11
      obtain ⟨l0, l1, l2, m0, m1, m2⟩ := hl11.out
      go_upto_region 11 with fail
      have kn12 := (KN10.out.old b11).set1 r3 n2 e3
      have own12 := own_setc own11 KN10.out.lt 1 (.slice r3 n2 e3)
      have o12 := own_setc o11 hc6 1 (.slice r3 n2 e3)
      have hlt12 : ∀ r, (Value.slice r2 (n1 + 1) e2).ownBlock = some r → r < W10.heap.size := fun r hr => (O10.out.lt r hr).2
      have bc12 : Below wc.heap.size wc (W11.setCell ⟨wc.heap.size, 1, none⟩ (.slice r3 n2 e3)) := bc11.setCell (Nat.le_refl _) _
      have hs12 : W10.heap.size ≤ (W11.setCell ⟨wc.heap.size, 1, none⟩ (.slice r3 n2 e3)).heap.size := by have := b11.size; simpa [World.setCell] using this
      generalize W11.setCell ⟨wc.heap.size, 1, none⟩ (.slice r3 n2 e3) = W12 at kn12 own12 o12 bc12 hs12 ⊢
      have KN12 := Lib.hid kn12
      have BC12 := Lib.hid bc12
      have HL12 := Lib.hid (HL5.out.old bc12)
      clear n0 n1' n2' z0 z1 z2 l0 l1 l2 m0 m1 m2
      clear own11 b11 bc11 bc12 hl11 o11
      obtain ⟨n0, n1', n2', z0, z1, z2⟩ := kn12
      obtain ⟨l0, l1, l2, m0, m1, m2⟩ := HL12.out
      have O12 := Lib.hid own12
      have Q12 := Lib.hid o12
      have HLT := Lib.hid hlt12
      have hc10 := KN10.out.lt
      clear own12 o12 hlt12
      go_wp2_with (at_builtin; generalize hG : wpList _ _ _ _ _ _ = G)
      rw [← hG]
      clear hG
      refine wpList_append_any rfl _ _ 32 rfl W10.heap.size 3 j0 (.int .i64 0) 1 8 Tryz.underlying32 ji jz0 jz1 jz2 rfl (by decide) _ n2 _ rfl (O12.out.alloc _) (some ⟨W12.heap.size, 0, none⟩) 1 _ [.int .i64 (n : Int)] rfl (fun h => by cases h) rfl (lit_one W12 _ _) (by intro u hu; simp at hu; subst hu; rfl) (by unfold maxLen; omega) (by omega) (by simp; omega) ?_
      intro v13 W13 own13 b13
      rw [nv_snoc] at own13
      obtain ⟨r4, e4, rfl⟩ := own_slice own13
      have b13' : Below W10.heap.size W12 W13 := (((Below.refl W12.heap.size W12).alloc (Nat.le_refl _) (.cells #[.int .i64 (n : Int)] 3)).mono hs12).trans b13
      have kn13 := KN12.out.olds hc10 b13'
      have o13 := own_same Q12.out (fun r hr => b13'.block r (HLT.out r hr))
      have bc13 : Below wc.heap.size wc W13 := BC12.out.trans (b13'.mono (by omega))
      have hl13 := Lib.hid (HL5.out.old bc13)
      clear n0 n1' n2' z0 z1 z2 l0 l1 l2 m0 m1 m2
      obtain ⟨n0, n1', n2', z0, z1, z2⟩ := kn13
      obtain ⟨l0, l1, l2, m0, m1, m2⟩ := hl13.out
      go_upto_region 12 with fail
      have kn14 := (KN12.out.olds hc10 b13').set1 r4 (n2 + 1) e4
      have own14 := own_setc own13 hc10 1 (.slice r4 (n2 + 1) e4)
      have o14 := own_setc o13 hc6 1 (.slice r4 (n2 + 1) e4)
      have bc14 : Below wc.heap.size wc (W13.setCell ⟨wc.heap.size, 1, none⟩ (.slice r4 (n2 + 1) e4)) := bc13.setCell (Nat.le_refl _) _
      generalize W13.setCell ⟨wc.heap.size, 1, none⟩ (.slice r4 (n2 + 1) e4) = W14 at kn14 own14 o14 bc14 ⊢
      have HR14 := Lib.hid (HR5.out.old bc14)
      have HQ14 := Lib.hid (HQ5.out.old bc14)
      have BB14 := Lib.hid (BB5.out.trans (bc14.mono (by omega)))
      have kg14 := KG.out.old bc14
      clear n0 n1' n2' z0 z1 z2 l0 l1 l2 m0 m1 m2
      clear own13 b13 b13' bc13 bc14 hl13 o13
      obtain ⟨n0, n1', n2', z0, z1, z2⟩ := kn14
      obtain ⟨l0, l1, l2, m0, m1, m2, -⟩ := kg14
      obtain ⟨⟨p0, p1, p2, s0, s1, s2, -⟩, ⟨t0, t1, t2, v0, v1, v2⟩, -, -⟩ := HR14.out
      have OA := Lib.hid own14
      have OB := Lib.hid o14
      clear own14 o14
      go_region
      clear n0 n1' n2' z0 z1 z2 l0 l1 l2 m0 m1 m2 p0 p1 p2 s0 s1 s2 t0 t1 t2 v0 v1 v2
      have ka := own_put OA.out (show w.heap.size + 2 < W10.heap.size by omega) (show w.heap.size + 3 < W10.heap.size by omega) a5 U.files.length c5 U.fuse U.off r2 (n1 + 1) e2 r4 (n2 + 1) e4 (n : Int)
      have kb' := own_put OB.out (show w.heap.size + 2 < W6.heap.size by omega) (show w.heap.size + 3 < W6.heap.size by omega) a5 U.files.length c5 U.fuse U.off r2 (n1 + 1) e2 r4 (n2 + 1) e4 (n : Int)
      have kf := ((HR14.out).fin (HQ14.out) (BB14.out) (by omega) (by omega) r2 (n1 + 1) e2 r4 (n2 + 1) e4 ((n : Int))).1
      go_wp2_with fail
      show bodyPost _ _ _ _ _ (World.drew (putg (put3 W14 (w.heap.size + 2) a5 (U.files.length) c5 (U.fuse) U.off) (w.heap.size + 3) r2 (n1 + 1) e2 r4 (n2 + 1) e4 ((n : Int))))
      generalize (putg (put3 W14 (w.heap.size + 2) a5 (U.files.length) c5 (U.fuse) U.off) (w.heap.size + 3) r2 (n1 + 1) e2 r4 (n2 + 1) e4 ((n : Int))) = WF at kf ka kb' ⊢
      obtain ⟨k0, k1, k2, k3, k4, k5, kq, kb⟩ := kf
      refine bodyPost_ret (v := .tuple #[.agg #[.slice a5 (U.files.length) c5, .int .i64 (U.fuse), .bool U.off], .agg #[.slice r2 (n1 + 1) e2, .slice r4 (n2 + 1) e4, .int .i64 ((n : Int))], .int .i64 0]) (by simp [results, Tryz.f20, go_sem, k0, k1, k2, k3, k4, k5]) rfl ?_
      exact ⟨_, _, rfl, (kq.old ((Below.refl _ _).drew)), add_refl HP.out (by omega) (by omega) HN1.out HN2.out ka kb', kb.drew⟩
    · have HF0 := Lib.hid hF0
      go_wp2_with fail
      go_region
      clear n0 n1' n2' z0 z1 z2 l0 l1 l2 m0 m1 m2 p0 p1 p2 s0 s1 s2 t0 t1 t2 v0 v1 v2
      have kf := ((HR5.out).fin (HQ5.out) (BB5.out) (by omega) (by omega) a1 (n1) c1 a2 (n2) c2 ((n : Int))).1
      go_wp2_with fail
      show bodyPost _ _ _ _ _ (World.drew (putg (put3 wc (w.heap.size + 2) a5 (U.files.length) c5 (U.fuse) U.off) (w.heap.size + 3) a1 (n1) c1 a2 (n2) c2 ((n : Int))))
      generalize (putg (put3 wc (w.heap.size + 2) a5 (U.files.length) c5 (U.fuse) U.off) (w.heap.size + 3) a1 (n1) c1 a2 (n2) c2 ((n : Int))) = WF at kf ⊢
      obtain ⟨k0, k1, k2, k3, k4, k5, kq, kb⟩ := kf
      refine bodyPost_ret (v := .tuple #[.agg #[.slice a5 (U.files.length) c5, .int .i64 (U.fuse), .bool U.off], .agg #[.slice a1 (n1) c1, .slice a2 (n2) c2, .int .i64 ((n : Int))], .int .i64 F]) (by simp [results, Tryz.f20, go_sem, k0, k1, k2, k3, k4, k5]) rfl ?_
      exact ⟨_, _, rfl, (kq.old ((Below.refl _ _).drew)), by rw [if_neg HF0.out, if_neg HF0.out]; exact HV.out.old kb.drew, kb.drew⟩
end Go.Proofs.YtkfmjkcomjmedaaGreat
namespace Go.Proofs.YtkfmjkcomjmedaaGreat
open Go.RowKit
set_option linter.unusedVariables false
set_option linter.unusedSimpArgs false

theorem keep_ds {W W' : World} {B C base i : Nat} {a : Option Addr} {n c : Nat} {f : Int} {o : Bool} {u : Value} (h : W.cell? ⟨B, 0, none⟩ = some (.slice a n c) ∧ W.cell? ⟨B, 1, none⟩ = some (.int .i64 f) ∧ W.cell? ⟨B, 2, none⟩ = some (.bool o) ∧ W.cell? ⟨C, i, none⟩ = some u) (hB : B < base) (hC : C < base) (hb : Below base W W') :
    W'.cell? ⟨B, 0, none⟩ = some (.slice a n c) ∧ W'.cell? ⟨B, 1, none⟩ = some (.int .i64 f) ∧ W'.cell? ⟨B, 2, none⟩ = some (.bool o) ∧ W'.cell? ⟨C, i, none⟩ = some u := by
  obtain ⟨h0, h1, h2, h3⟩ := h
  exact ⟨(hb.cell (p := ⟨B, 0, none⟩) hB).trans h0, (hb.cell (p := ⟨B, 1, none⟩) hB).trans h1, (hb.cell (p := ⟨B, 2, none⟩) hB).trans h2, (hb.cell (p := ⟨C, i, none⟩) hC).trans h3⟩
theorem refD_keeps {w' w : World} {q : Value} {S : Ds} {N : Nat} {own : Nat → Prop} (h : RefD w q S) (hn : NoStr w N) (hk : Keeps own w w') (ho : ∀ b, b < w.heap.size → b ≠ N → (∃ cs fz, w.heap[b]? = some (.cells cs 82 fz)) → own b) : RefD w' q S := by
  obtain ⟨a, c, h1, h2, h3⟩ := h
  refine ⟨a, c, h1, ?_, h3⟩
  rcases h2 with h | ⟨b, off, rfl, hlt, hc, cs, fz, ht⟩
  · exact .inl h
  · cases hl : S.files with
    | nil => exact .inl rfl
    | cons p r =>
      rw [hl] at hc
      have hne : b ≠ N := by
        rintro rfl
        exact hn _ _ (hc 0 _ rfl)
      exact .inr ⟨b, off, rfl, Nat.lt_of_lt_of_le hlt hk.size, fun j v hj => (hk.cell b (off + j) (ho b hlt hne ⟨cs, fz, ht⟩)).trans (hc j v hj), cs, fz, (hk.block b (ho b hlt hne ⟨cs, fz, ht⟩)).trans ht⟩
def dT (bl : Int) : List (List UInt8) → List Nat → List (List UInt8)
  | t :: ts, o :: os => if (o : Int) < bl then dT bl ts os else t :: dT bl ts os
  | _, _ => []
def dO (bl : Int) : List (List UInt8) → List Nat → List Nat
  | t :: ts, o :: os => if (o : Int) < bl then dO bl ts os else o :: dO bl ts os
  | _, _ => []
theorem dT_snoc (bl : Int) : ∀ (a : List (List UInt8)) (b : List Nat) (t : List UInt8) (o : Nat), a.length = b.length → dT bl (a ++ [t]) (b ++ [o]) = dT bl a b ++ (if (o : Int) < bl then [] else [t])
  | [], [], t, o, _ => by simp [dT]
  | x :: a, y :: b, t, o, h => by
    simp only [List.cons_append, dT]
    rw [dT_snoc bl a b t o (by simpa using h)]
    split <;> simp
theorem dO_snoc (bl : Int) : ∀ (a : List (List UInt8)) (b : List Nat) (t : List UInt8) (o : Nat), a.length = b.length → dO bl (a ++ [t]) (b ++ [o]) = dO bl a b ++ (if (o : Int) < bl then [] else [o])
  | [], [], t, o, _ => by simp [dO]
  | x :: a, y :: b, t, o, h => by
    simp only [List.cons_append, dO]
    rw [dO_snoc bl a b t o (by simpa using h)]
    split <;> simp
theorem dT_step (bl : Int) {ts : List (List UInt8)} {os : List Nat} {k : Nat} (h1 : k < ts.length) (h2 : k < os.length) : dT bl (ts.take (k + 1)) (os.take (k + 1)) = dT bl (ts.take k) (os.take k) ++ (if (os[k] : Int) < bl then [] else [ts[k]]) := by
  rw [List.take_succ_eq_append_getElem h1, List.take_succ_eq_append_getElem h2]
  exact dT_snoc bl _ _ _ _ (by rw [List.length_take, List.length_take]; omega)
theorem dO_step (bl : Int) {ts : List (List UInt8)} {os : List Nat} {k : Nat} (h1 : k < ts.length) (h2 : k < os.length) : dO bl (ts.take (k + 1)) (os.take (k + 1)) = dO bl (ts.take k) (os.take k) ++ (if (os[k] : Int) < bl then [] else [os[k]]) := by
  rw [List.take_succ_eq_append_getElem h1, List.take_succ_eq_append_getElem h2]
  exact dO_snoc bl _ _ ts[k] _ (by rw [List.length_take, List.length_take]; omega)
theorem rmL_some {bl : Int} {S : Ds} {k : List UInt8} {r : List (List UInt8)} {m : Nat} (h : numb k = some m) (hm : (m : Int) < bl) : rmL bl S (k :: r) = if (S.remove k).2 = 0 then rmL bl (S.remove k).1 r else S.remove k := by
  rw [rmL, h]
  simp only
  rw [if_pos hm]
theorem rmL_skip {bl : Int} {S : Ds} {k : List UInt8} {r : List (List UInt8)} (h : ∀ m, numb k = some m → ¬ (m : Int) < bl) : rmL bl S (k :: r) = rmL bl S r := by
  rw [rmL]
  cases hn : numb k with
  | none => rfl
  | some m => simp only; rw [if_neg (h m hn)]
theorem numI_some {s : List UInt8} {m : Nat} (h : numb s = some m) : numI s = (m : Int) := by unfold numI; rw [h]
theorem numI_none {s : List UInt8} (h : numb s = none) : numI s = -1 := by unfold numI; rw [h]
theorem RefL.keep {P : Nat → Prop} {w w' : World} {v : Value} {ts : List (List UInt8)} {os : List Nat} {n : Nat} (h : RefL P w v ts os n) (hb : Below w.heap.size w w') : RefL P w' v ts os n := h.old hb
theorem Lx.keeps {own : Nat → Prop} {W W' : World} {B : Nat} {a a' : Option Addr} {n c n' c' : Nat} {x : Int} (h : Lx W B a n c a' n' c' x) (k : Keeps own W W') (hB : own B) : Lx W' B a n c a' n' c' x :=
  ⟨(k.cell B 0 hB).trans h.c0, (k.cell B 1 hB).trans h.c1, (k.cell B 2 hB).trans h.c2, (k.frozen B 0 hB).trans h.f0, (k.frozen B 1 hB).trans h.f1, (k.frozen B 2 hB).trans h.f2⟩
theorem Res.keeps {own : Nat → Prop} {W W' : World} {R1 R2 : Nat} (h : Res W R1 R2) (k : Keeps own W W') (h1 : own R1) (h2 : own R2) : Res W' R1 R2 :=
  ⟨h.r1.keeps k h1, h.r2.keeps k h2, fun i s e => h.ns i s ((k.cell R2 i h2).symm.trans e), h.ne⟩
theorem dTO_len (bl : Int) : ∀ (a : List (List UInt8)) (b : List Nat), (dT bl a b).length = (dO bl a b).length
  | [], _ => by simp [dT, dO]
  | _ :: _, [] => by simp [dT, dO]
  | _ :: a, y :: b => by
    simp only [dT, dO]
    split <;> simp [dTO_len bl a b]
theorem drop_refl {P : Nat → Prop} {w W : World} {bs : Nat} {a1 a2 : Option Addr} {k m c1 c2 : Nat} {t1 t2 : TypeId} {ts : List (List UInt8)} {os : List Nat} {n : Nat} {bl : Int} (hP : ∀ b, w.heap.size ≤ b → P b) (hb : w.heap.size ≤ bs) (h1 : k = ts.length) (h2 : k = os.length)
    (k1 : W.ownsRow bs t1 1 (.slice a1 m c1) m (sv (dT bl (ts.take k) (os.take k)))) (k2 : W.ownsRow bs t2 1 (.slice a2 m c2) m (nv (dO bl (ts.take k) (os.take k)))) :
    RefL P W.drew (.agg #[.slice a1 m c1, .slice a2 m c2, .int .i64 (n : Int)]) (if (0 : Int) = 0 then dT bl ts os else ts) (if (0 : Int) = 0 then dO bl ts os else os) n := by
  rw [if_pos rfl, if_pos rfl]
  rw [List.take_of_length_le (by omega), List.take_of_length_le (by omega)] at k1 k2
  have e1 : (dT bl ts os).length = m := by have := k1.1; simpa [sv] using this
  have e2 : (dO bl ts os).length = m := by have := k2.1; simpa [nv] using this
  refine ⟨a1, c1, a2, c2, by rw [e1, e2], (own_rd (by rw [e1]; exact k1)).old ((Below.refl _ _).drew), (own_rdi (by rw [e2]; exact k2)).old ((Below.refl _ _).drew), ?_⟩
  constructor
  · rintro - b off rfl
    exact hP b (Nat.le_trans hb (k1.lt b rfl).1)
  · rintro - b off rfl
    exact hP b (Nat.le_trans hb (k2.lt b rfl).1)
def DropE (P : Nat → Prop) (w : World) (T : Ds) (F : Int) (bl : Int) (ts : List (List UInt8)) (os : List Nat) (n : Nat) (e : Ending) (w' : World) : Prop :=
  ∃ q' v', e = .returned (.tuple #[q', v', .int .i64 F]) ∧ RefD w' q' T ∧ RefL P w' v' (if F = 0 then dT bl ts os else ts) (if F = 0 then dO bl ts os else os) n ∧ Below w.heap.size w w'
set_option maxRecDepth 100000 in
set_option maxHeartbeats 8000000 in
theorem drop_ref {bb nb : Nat} {P : Nat → Prop} {w : World} {q v : Value} {S : Ds} {ts : List (List UInt8)} {os : List Nat} {n : Nat} (h : RefD w q S) (hv : RefL P w v ts os n) (hP : ∀ b, w.heap.size ≤ b → P b) (hk : OkS bb nb S) (hnl : ∀ p ∈ S.files, p.1.length ≤ maxLen) (hn : n ≤ 99999999) (htl : ts.length ≤ 100000000) (hol : os.length = ts.length) (bl : Int) (hbl : bl ≤ (n : Int)) (hbl2 : -9223372036854775808 ≤ bl) :
    Calls Tryz.prog 25 #[q, v, .int .i64 bl] w (DropE P w (S.rm bl).1 (S.rm bl).2 bl ts os n) := by
  have HD := Lib.hid h
  have hlenS := h
  obtain ⟨a, c, rfl, h1, h2, h3⟩ := h
  have HV := Lib.hid hv
  obtain ⟨a1, c1, a2, c2, rfl, hr1, hr2, hr3⟩ := hv
  obtain ⟨ln, hln⟩ : ∃ ln, ln = S.files.length := ⟨_, rfl⟩
  obtain ⟨n1, hn1⟩ : ∃ n1, n1 = ts.length := ⟨_, rfl⟩
  have hn2 : n1 = os.length := by rw [hol, hn1]
  have hn2' := hn2
  rw [← hln] at HD ⊢
  rw [← hn1, ← hn2] at HV ⊢
  rw [← hn1] at htl
  have HK := Lib.hid hk
  have HP := Lib.hid hP
  have hl256 := hk.len
  rw [← hln] at hl256
  have HNL := Lib.hid hnl
  have HNA := Lib.hid (fun (W : World) (h : RefD W (.agg #[.slice a ln c, .int .i64 S.fuse, .bool S.off]) S) => names_ref h (by have := hk.len; omega))
  rw [← hln] at HNA
  have HR1 := Lib.hid hr1
  have HR2 := Lib.hid hr2
  have HN1 := Lib.hid hn1
  have HN2 := Lib.hid hn2'
  have HLN := Lib.hid hln
  obtain ⟨nms, hnms⟩ : ∃ nms, nms = S.files.map (·.1) := ⟨_, rfl⟩
  have hrm : S.rm bl = rmL bl S nms := by unfold Ds.rm; rw [hnms]
  rw [hrm]
  rw [← hnms] at HNA
  have hnl2 : nms.length = ln := by rw [hnms, List.length_map, hln]
  have HNX := Lib.hid (show ∀ k ∈ nms, k.length ≤ maxLen by rw [hnms]; intro k hk; obtain ⟨p, hp, rfl⟩ := List.mem_map.1 hk; exact hnl p hp)
  have HNLN := Lib.hid hnl2
  clear h1 h2 h3 hln hk hr1 hr2 hr3 hn1 hn2 hn2' hP hol hrm hnms hnl2 hnl hlenS
  go_enter Tryz.func25, Tryz.ntmps25
  go_upto_region 1 with fail
  generalize hW : World.alloc (World.alloc (World.alloc (World.alloc w _) _) _) _ = W
  have BB : Below w.heap.size w W := by rw [← hW]; exact ((((Below.refl _ _).alloc (Nat.le_refl _) _).alloc (by simp) _).alloc (by simp; omega) _).alloc (by simp; omega) _
  have hsz : W.heap.size = w.heap.size + 4 := by rw [← hW]; simp
  have HB : Bx W w.heap.size a ln c S.fuse S.off := by
    rw [← hW]
    have := (((Bx.new w a ln c S.fuse S.off 28).old ((Below.refl _ _).alloc (Nat.le_refl _) (.cells #[.slice a1 n1 c1, .slice a2 n1 c2, .int .i64 (n : Int)] 34))).old ((Below.refl _ _).alloc (Nat.le_refl _) (.cells #[.slice none 0 0, .int .i64 0, .bool false] 28))).old ((Below.refl _ _).alloc (Nat.le_refl _) (.cells #[.slice none 0 0, .slice none 0 0, .int .i64 0] 34))
    simpa using this
  have HL : Lx W (w.heap.size + 1) a1 n1 c1 a2 n1 c2 (n : Int) := by
    rw [← hW]; constructor <;> simp [go_sem]
  have HNS : NoStr W (w.heap.size + 1) := by
    rw [← hW]
    have e2 := ((noStr_log (w.alloc (.cells #[.slice a ln c, .int .i64 S.fuse, .bool S.off] 28)) a1 a2 n1 c1 n1 c2 (n : Int) 34).old (by simp) ((Below.refl _ _).alloc (Nat.le_refl _) (.cells #[.slice none 0 0, .int .i64 0, .bool false] 28))).old (by simp) ((Below.refl _ _).alloc (Nat.le_refl _) (.cells #[.slice none 0 0, .slice none 0 0, .int .i64 0] 34))
    simpa using e2
  have HRES : Res W (w.heap.size + 2) (w.heap.size + 3) := by
    rw [← hW]
    have e1 := (Bx.new ((w.alloc (.cells #[.slice a ln c, .int .i64 S.fuse, .bool S.off] 28)).alloc (.cells #[.slice a1 n1 c1, .slice a2 n1 c2, .int .i64 (n : Int)] 34)) none 0 0 0 false 28).old ((Below.refl _ _).alloc (Nat.le_refl _) (.cells #[.slice none 0 0, .slice none 0 0, .int .i64 0] 34))
    have e2 := noStr_log (((w.alloc (.cells #[.slice a ln c, .int .i64 S.fuse, .bool S.off] 28)).alloc (.cells #[.slice a1 n1 c1, .slice a2 n1 c2, .int .i64 (n : Int)] 34)).alloc (.cells #[.slice none 0 0, .int .i64 0, .bool false] 28)) none none 0 0 0 0 0 34
    refine ⟨by simpa using e1, ?_, by simpa using e2, by omega⟩
    constructor <;> simp [go_sem]
  clear hW
  have HQ := Lib.hid (HD.out.old BB)
  have BB := Lib.hid BB
  have HBB := Lib.hid HB
  have HLL := Lib.hid HL
  have HRS := Lib.hid HRES
  have NS := Lib.hid HNS
  clear HB HL HRES HNS
  have hng : ¬ (n : Int) < bl := by omega
  obtain ⟨n0, n1', n2', z0, z1, z2, -⟩ := HBB.out
  obtain ⟨l0, l1, l2, m0, m1, m2⟩ := HLL.out
  obtain ⟨⟨p0, p1, p2, s0, s1, s2, -⟩, ⟨t0, t1, t2, v0, v1, v2⟩, -, -⟩ := HRS.out
  go_wp2_with fail
  go_at_call 28
  refine (HNA.out _ HQ.out).mono ?_
  rintro e W1 ⟨na, nc, rfl, rd, b1⟩
  have HB1 := Lib.hid (HBB.out.old b1)
  have HL1 := Lib.hid (HLL.out.old b1)
  have NS1 := Lib.hid (NS.out.old (by omega) b1)
  have HRS1 := Lib.hid (HRS.out.old b1)
  have HQ1 := Lib.hid (HQ.out.old b1)
  have BB1 := Lib.hid (BB.out.trans (b1.mono (by omega)))
  have RD1 := Lib.hid rd
  have hs1 := b1.size
  clear n0 n1' n2' z0 z1 z2 l0 l1 l2 m0 m1 m2 p0 p1 p2 s0 s1 s2 t0 t1 t2 v0 v1 v2 b1 rd
  go_upto_block 0 with fail
  go_cut [10] (fun s10 wx => ∃ Sk ak ck, rmL bl S nms = (Sk, 0) ∧ Bx wx w.heap.size ak Sk.files.length ck Sk.fuse Sk.off ∧ RefD wx (.agg #[.slice ak Sk.files.length ck, .int .i64 Sk.fuse, .bool Sk.off]) Sk ∧ Keeps (fun b => b < W1.heap.size ∧ b ≠ w.heap.size) W1 wx)
  case first =>
    go_wp2_with fail
    go_loopw [10] (fun i wr => ∃ (k : Nat) (Sk : Ds) (ak : Option Addr) (ck : Nat), i = .int .i64 k ∧ k ≤ ln ∧ Hid (rmL bl S nms = rmL bl Sk (nms.drop k)) ∧ Hid (OkS bb nb Sk) ∧ Bx wr w.heap.size ak Sk.files.length ck Sk.fuse Sk.off ∧ RefD wr (.agg #[.slice ak Sk.files.length ck, .int .i64 Sk.fuse, .bool Sk.off]) Sk ∧ Keeps (fun b => b < W1.heap.size ∧ b ≠ w.heap.size) W1 wr) (fun i _ => ln - (intOf i).toNat)
    case atStart => exact ⟨0, S, a, c, rfl, Nat.zero_le _, Lib.hid rfl, HK, by rw [← HLN.out]; exact HB1.out, by rw [← HLN.out]; exact HQ1.out, Keeps.refl _ _⟩
    case round =>
      obtain ⟨k, Sk, ak, ck, rfl, hk, HRM, HKK, hbx, hqk, kp⟩ := hrel
      have HBX := Lib.hid hbx
      have HQK := Lib.hid hqk
      have KP := Lib.hid kp
      have hws := kp.size
      clear hqk kp
      obtain ⟨n0, n1', n2', z0, z1, z2, -⟩ := hbx
      by_cases hlt : k < ln
      · have hkl : k < nms.length := by rw [HNLN.out]; exact hlt
        have hnb : ∃ b off, na = some ⟨b, off, none⟩ ∧ b < W1.heap.size ∧ b ≠ w.heap.size ∧ W1.cell? ⟨b, off + k, none⟩ = some (.string ⟨nms[k].toArray⟩) := by
          rcases RD1.out with h | ⟨b, off, h, hb, hc⟩
          · rw [h] at hkl; exact absurd hkl (Nat.not_lt_zero _)
          · refine ⟨b, off, h, hb, ?_, hc k hkl⟩
            rintro rfl
            exact HB1.out.ns _ _ (hc k hkl)
        obtain ⟨b, off, rfl, hbl1, hbne, hc0⟩ := hnb
        have hc1 := (KP.out.cell b (off + k) ⟨hbl1, hbne⟩).trans hc0
        have hkc : (k : Int) < ln := by omega
        have hnx := HNX.out nms[k] (List.getElem_mem hkl)
        have HDR := Lib.hid (List.drop_eq_getElem_cons hkl)
        obtain ⟨nm, hnm⟩ : ∃ nm, nm = nms[k] := ⟨_, rfl⟩
        rw [← hnm] at hc1 hnx HDR
        have HNU := Lib.hid (number_ref ⟨nm.toArray⟩ (by rw [size_mkl]; exact hnx))
        simp only at HNU
        clear hc0 hnm hnx
        go_wp2_with fail
        go_at_call 39
        refine (HNU.out _).mono ?_
        rintro e wn ⟨rfl, bn⟩
        have HBN := Lib.hid (HBX.out.old bn)
        have HQN := Lib.hid (HQK.out.old bn)
        have KPN := Lib.hid (KP.out.trans (Keeps.of_below bn (fun b hb => Nat.lt_of_lt_of_le hb.1 hws)))
        have hcn := (bn.cell (p := ⟨b, off + k, none⟩) (by show b < wr.heap.size; omega)).trans hc1
        have hsn := bn.size
        clear n0 n1' n2' z0 z1 z2 hc1 bn
        cases hnum : numb nm with
        | none =>
          rw [numI_none hnum]
          have HNX2 := Lib.hid (show rmL bl S nms = rmL bl Sk (nms.drop (k + 1)) by rw [HRM.out, HDR.out]; exact rmL_skip (fun m hm => by rw [hnum] at hm; cases hm))
          go_wp2_with fail
          go_roundw
          case rel => exact ⟨k + 1, Sk, ak, ck, by go_num, hlt, HNX2, HKK, HBN.out, HQN.out, KPN.out⟩
          case measure => simp [intOf]; omega
        | some m =>
          rw [numI_some hnum]
          have hm9 := numb_le hnum
          have hm0 : (0 : Int) ≤ (m : Int) := by omega
          by_cases hmb : (m : Int) < bl
          · have HRS2 := Lib.hid (rmL_some (S := Sk) (r := nms.drop (k + 1)) hnum hmb)
            obtain ⟨U, hU⟩ : ∃ U, U = (Sk.remove nm).1 := ⟨_, rfl⟩
            obtain ⟨F, hF⟩ : ∃ F, F = (Sk.remove nm).2 := ⟨_, rfl⟩
            have hnm2 : nm.length ≤ maxLen := by rw [numb_name hnum, lname_length]; decide
            have HRV := Lib.hid (fun (W : World) (h : RefD W (.agg #[.slice ak Sk.files.length ck, .int .i64 Sk.fuse, .bool Sk.off]) Sk) => remove_ref h (by have := HKK.out.len; omega) HKK.out.srt HKK.out.fz nm hnm2)
            rw [← hU, ← hF] at HRV
            have HUF := Lib.hid (show rmL bl S nms = if F = 0 then rmL bl U (nms.drop (k + 1)) else (U, F) by rw [HRM.out, HDR.out, HRS2.out, hU, hF])
            have HKU := Lib.hid (show OkS bb nb U by rw [hU]; exact HKK.out.remove)
            have hbB := HBN.out
            have SS := And.intro hbB.c0 (And.intro hbB.c1 (And.intro hbB.c2 hcn))
            have HQR := Lib.hid (fun W' (h : Below wn.heap.size wn W') => HQN.out.old h)
            have hB0 : w.heap.size < wn.heap.size := hbB.lt
            have hB1 : b < wn.heap.size := by omega
            obtain ⟨n0, n1', n2', z0, z1, z2, -⟩ := hbB
            clear hU hF hnm2
            go_upto_region 9 with fail
            clear n0 n1' n2' z0 z1 z2
            go_cut [12, 13] (fun s12 s13 wx => ∃ g a5 c5, s12 = .pointer (some ⟨g, 0, none⟩) ∧ s13 = .int .i64 F ∧ Bx wx g a5 U.files.length c5 U.fuse U.off ∧ RefD wx (.agg #[.slice a5 U.files.length c5, .int .i64 U.fuse, .bool U.off]) U ∧ wn.heap.size ≤ g ∧ Below wn.heap.size wn wx)
            case first =>
              go_region_held3 (fun w' => w'.cell? ⟨w.heap.size, 0, none⟩ = some (.slice ak Sk.files.length ck) ∧ w'.cell? ⟨w.heap.size, 1, none⟩ = some (.int .i64 Sk.fuse) ∧ w'.cell? ⟨w.heap.size, 2, none⟩ = some (.bool Sk.off) ∧ w'.cell? ⟨b, off + k, none⟩ = some (.string ⟨nm.toArray⟩))
                (first
                  | assumption
                  | (refine keep_ds (base := wn.heap.size) SS (by omega) (by omega) ?_
                     repeat (first | assumption | exact Below.refl _ _ | (refine Below.alloc ?_ ?_ _) | (refine Below.setCell ?_ ?_ _) | (refine Below.drew ?_))
                     all_goals (first | omega | (simp; done) | (simp; omega))))
                (first
                  | (go_at_call 40; (with_reducible refine (HRV.out _ (HQR.out _ ((Below.refl _ _).alloc (Nat.le_refl _) _))).mono ?_); rintro e w5 ⟨q5, rfl, hq5, b5⟩; have hq : Bx w5 _ none 0 0 0 false ∧ Below _ _ w5 := (by with_reducible exact new_after b5); obtain ⟨hbx5, hyy⟩ := hq; have z5 : Below wn.heap.size wn w5 := (by first | (with_reducible exact hyy) | (with_reducible exact bt ((Below.refl _ _).drew) hyy)); have hz5 := z5.size; have hqq := Lib.hid hq5; obtain ⟨a5, c5, rfl, r5, g5, g6⟩ := hq5; clear b5 hyy; have K5 := Lib.hid hbx5; obtain ⟨y0, y1, y2, x0, x1, x2, -⟩ := hbx5)
                  | (go_at_call 40; (with_reducible refine (HRV.out _ (HQR.out _ ((Below.refl _ _).alloc (Nat.le_refl _) _).drew)).mono ?_); rintro e w5 ⟨q5, rfl, hq5, b5⟩; have hq : Bx w5 _ none 0 0 0 false ∧ Below _ _ w5 := (by with_reducible exact new_afterd b5); obtain ⟨hbx5, hyy⟩ := hq; have z5 : Below wn.heap.size wn w5 := (by first | (with_reducible exact hyy) | (with_reducible exact bt ((Below.refl _ _).drew) hyy)); have hz5 := z5.size; have hqq := Lib.hid hq5; obtain ⟨a5, c5, rfl, r5, g5, g6⟩ := hq5; clear b5 hyy; have K5 := Lib.hid hbx5; obtain ⟨y0, y1, y2, x0, x1, x2, -⟩ := hbx5)
                  | (go_at_call 40; (with_reducible refine (HRV.out _ (HQR.out _ (((Below.refl _ _).drew).alloc (Nat.le_refl _) _))).mono ?_); rintro e w5 ⟨q5, rfl, hq5, b5⟩; have hq : Bx w5 _ none 0 0 0 false ∧ Below _ _ w5 := (by with_reducible exact new_after b5); obtain ⟨hbx5, hyy⟩ := hq; have z5 : Below wn.heap.size wn w5 := (by first | (with_reducible exact hyy) | (with_reducible exact bt ((Below.refl _ _).drew) hyy)); have hz5 := z5.size; have hqq := Lib.hid hq5; obtain ⟨a5, c5, rfl, r5, g5, g6⟩ := hq5; clear b5 hyy; have K5 := Lib.hid hbx5; obtain ⟨y0, y1, y2, x0, x1, x2, -⟩ := hbx5)
                  | (go_at_call 40; (with_reducible refine (HRV.out _ (HQR.out _ (Below.refl _ _))).mono ?_); rintro e w5 ⟨q5, rfl, hq5, b5⟩; have z5 : Below wn.heap.size wn w5 := (by first | (with_reducible exact b5) | (with_reducible exact bt ((Below.refl _ _).drew) b5)); have hz5 := z5.size; have hqq := Lib.hid hq5; obtain ⟨a5, c5, rfl, r5, g5, g6⟩ := hq5; clear b5)
                  | (go_at_call 40; (with_reducible refine (HRV.out _ (HQR.out _ ((Below.refl _ _).drew))).mono ?_); rintro e w5 ⟨q5, rfl, hq5, b5⟩; have z5 : Below wn.heap.size wn w5 := (by first | (with_reducible exact b5) | (with_reducible exact bt ((Below.refl _ _).drew) b5)); have hz5 := z5.size; have hqq := Lib.hid hq5; obtain ⟨a5, c5, rfl, r5, g5, g6⟩ := hq5; clear b5))
              all_goals
                go_wp2_with fail
                go_meet
                first
                  | exact ⟨_, a5, c5, rfl, rfl, Bx.new .., hqq.out.old ((Below.refl _ _).alloc (Nat.le_refl _) _), hz5, z5.alloc hz5 _⟩
                  | exact ⟨_, a5, c5, rfl, rfl, K5.out.put .., RefD.put K5.out hqq.out .., Nat.le_refl _, put3_below z5 (Nat.le_refl _) ..⟩
            case rest =>
              obtain ⟨g, a5, c5, rfl, rfl, kg, hq5, hg, bc⟩ := hcut
              have hbc := HBN.out.old bc
              have KPC := Lib.hid (KPN.out.trans (Keeps.of_below bc (fun b hb => by omega)))
              have HBC := Lib.hid hbc
              have HQ5 := Lib.hid hq5
              have hcs := bc.size
              clear bc hq5
              obtain ⟨n0, n1', n2', z0, z1, z2, -⟩ := kg
              obtain ⟨p0, p1, p2, s0, s1, s2, -⟩ := hbc
              go_upto_if 53 with fail
              have kb := HBC.out.put a5 U.files.length c5 U.fuse U.off
              have qb := RefD.put HBC.out HQ5.out a5 U.files.length c5 U.fuse U.off
              have kpb : Keeps (fun b => b < W1.heap.size ∧ b ≠ w.heap.size) W1 (put3 wc w.heap.size a5 U.files.length c5 U.fuse U.off) := ((KPC.out.trans (Keeps.setCell _ _ fun b hb => hb.2)).trans (Keeps.setCell _ _ fun b hb => hb.2)).trans (Keeps.setCell _ _ fun b hb => hb.2)
              show Code.wp _ _ _ _ (put3 wc w.heap.size a5 U.files.length c5 U.fuse U.off)
              generalize put3 wc w.heap.size a5 U.files.length c5 U.fuse U.off = Wd at kb qb kpb ⊢
              have HBD := Lib.hid kb
              have HQD := Lib.hid qb
              have KPD := Lib.hid kpb
              clear n0 n1' n2' z0 z1 z2 p0 p1 p2 s0 s1 s2 qb
              by_cases hF0 : F = 0
              · subst hF0
                have HUF0 := Lib.hid (show rmL bl S nms = rmL bl U (nms.drop (k + 1)) by rw [HUF.out]; rfl)
                clear kb kpb
                go_wp2_with fail
                go_roundw
                case rel => exact ⟨k + 1, U, a5, c5, by go_num, hlt, HUF0, HKU, HBD.out, HQD.out, KPD.out⟩
                case measure => simp [intOf]; omega
              · have HF0 := Lib.hid hF0
                have HUF1 := Lib.hid (show rmL bl S nms = (U, F) by rw [HUF.out, if_neg hF0])
                have hkl1 : ∀ i, i = 1 ∨ i = 2 ∨ i = 3 → w.heap.size + i < W1.heap.size ∧ w.heap.size + i ≠ w.heap.size := fun i hi => by omega
                have HLD := HL1.out.keeps kpb (hkl1 1 (by omega))
                have HRD := HRS1.out.keeps kpb (hkl1 2 (by omega)) (hkl1 3 (by omega))
                have HRDD := Lib.hid HRD
                have BBD := Lib.hid (BB1.out.trans (kpb.below fun b hb => (⟨by omega, by omega⟩ : b < W1.heap.size ∧ b ≠ w.heap.size)))
                obtain ⟨n0, n1', n2', z0, z1, z2, -⟩ := kb
                obtain ⟨l0, l1, l2, m0, m1, m2⟩ := HLD
                obtain ⟨⟨p0, p1, p2, s0, s1, s2, -⟩, ⟨t0, t1, t2, v0, v1, v2⟩, -, -⟩ := HRD
                clear kpb hkl1
                go_wp2_with fail
                go_region
                clear n0 n1' n2' z0 z1 z2 l0 l1 l2 m0 m1 m2 p0 p1 p2 s0 s1 s2 t0 t1 t2 v0 v1 v2
                have kf := ((HRDD.out).fin (HQD.out) (BBD.out) (by omega) (by omega) a1 (n1) c1 a2 (n1) c2 ((n : Int))).1
                go_wp2_with fail
                show bodyPost _ _ _ _ _ (World.drew (putg (put3 Wd (w.heap.size + 2) a5 (U.files.length) c5 (U.fuse) U.off) (w.heap.size + 3) a1 (n1) c1 a2 (n1) c2 ((n : Int))))
                generalize (putg (put3 Wd (w.heap.size + 2) a5 (U.files.length) c5 (U.fuse) U.off) (w.heap.size + 3) a1 (n1) c1 a2 (n1) c2 ((n : Int))) = WF at kf ⊢
                obtain ⟨k0, k1, k2, k3, k4, k5, kq, kb⟩ := kf
                refine bodyPost_ret (v := .tuple #[.agg #[.slice a5 (U.files.length) c5, .int .i64 (U.fuse), .bool U.off], .agg #[.slice a1 (n1) c1, .slice a2 (n1) c2, .int .i64 ((n : Int))], .int .i64 F]) (by simp [results, Tryz.f25, go_sem, k0, k1, k2, k3, k4, k5]) rfl ?_
                exact ⟨_, _, by rw [HUF1.out], by rw [HUF1.out]; exact (kq.old ((Below.refl _ _).drew)), by rw [HUF1.out, if_neg HF0.out, if_neg HF0.out]; exact HV.out.old kb.drew, kb.drew⟩
          · have HNX2 := Lib.hid (show rmL bl S nms = rmL bl Sk (nms.drop (k + 1)) by rw [HRM.out, HDR.out]; exact rmL_skip (fun m' hm' => by rw [hnum] at hm'; cases hm'; exact hmb))
            go_wp2_with fail
            go_roundw
            case rel => exact ⟨k + 1, Sk, ak, ck, by go_num, hlt, HNX2, HKK, HBN.out, HQN.out, KPN.out⟩
            case measure => simp [intOf]; omega
      · obtain rfl : k = ln := by omega
        have hk2 : ¬ (k : Int) < k := by omega
        have HEND := Lib.hid (show rmL bl S nms = (Sk, 0) by rw [HRM.out, List.drop_eq_nil_of_le (by rw [HNLN.out]; exact Nat.le_refl _)]; rfl)
        go_wp2_with fail
        go_meet
        case rel => exact ⟨Sk, ak, ck, HEND.out, HBX.out, HQK.out, KP.out⟩
  case rest =>
    obtain ⟨Sk, ak, ck, hend, hbx, hqk, kp⟩ := hcut
    have HEND := Lib.hid hend
    have HBX := Lib.hid hbx
    have HQK := Lib.hid hqk
    have HLc := Lib.hid (HL1.out.keeps kp (⟨by omega, by omega⟩ : w.heap.size + 1 < W1.heap.size ∧ w.heap.size + 1 ≠ w.heap.size))
    have HRc := Lib.hid (HRS1.out.keeps kp (⟨by omega, by omega⟩ : w.heap.size + 2 < W1.heap.size ∧ w.heap.size + 2 ≠ w.heap.size) (⟨by omega, by omega⟩ : w.heap.size + 3 < W1.heap.size ∧ w.heap.size + 3 ≠ w.heap.size))
    have BBc := Lib.hid (BB1.out.trans (kp.below fun b hb => (⟨by omega, by omega⟩ : b < W1.heap.size ∧ b ≠ w.heap.size)))
    have hcs := kp.size
    clear hend hbx hqk kp
    obtain ⟨l0, l1, l2, m0, m1, m2⟩ := HLc.out
    go_upto_region 14 with fail
    generalize hW6 : World.alloc wc _ = W6
    have b6 : Below wc.heap.size wc W6 := by rw [← hW6]; exact (Below.refl _ _).alloc (Nat.le_refl _) _
    have hc6 : wc.heap.size < W6.heap.size := by rw [← hW6]; simp
    have KN := Lib.hid (show Lx W6 wc.heap.size none 0 0 none 0 0 (n : Int) by rw [← hW6]; exact Lx.new ..)
    have NS6 := Lib.hid (show NoStr W6 wc.heap.size by rw [← hW6]; exact noStr_log wc none none 0 0 0 0 (n : Int) _)
    clear hW6
    have HB6 := Lib.hid (HBX.out.old b6)
    have HL6 := Lib.hid (HLc.out.old b6)
    have HR6 := Lib.hid (HRc.out.old b6)
    have HQ6 := Lib.hid (HQK.out.old b6)
    have B6 : Below w.heap.size w W6 := BBc.out.trans (b6.mono (by omega))
    have HT6 : Hid (ts = [] ∨ ∃ b off, a1 = some ⟨b, off, none⟩ ∧ b < w.heap.size ∧ ∀ i (h : i < ts.length), W6.cell? ⟨b, off + i, none⟩ = some (.string ⟨ts[i].toArray⟩)) := Lib.hid (by
      rcases HR1.out with h | ⟨b, off, e, hb, hc⟩
      · exact .inl h
      · exact .inr ⟨b, off, e, hb, fun i hi => (B6.cell (p := ⟨b, off + i, none⟩) hb).trans (hc i hi)⟩)
    have HO6 : Hid (os = [] ∨ ∃ b off, a2 = some ⟨b, off, none⟩ ∧ b < w.heap.size ∧ ∀ i (h : i < os.length), W6.cell? ⟨b, off + i, none⟩ = some (.int .i64 (os[i] : Nat))) := Lib.hid (by
      rcases HR2.out with h | ⟨b, off, e, hb, hc⟩
      · exact .inl h
      · exact .inr ⟨b, off, e, hb, fun i hi => (B6.cell (p := ⟨b, off + i, none⟩) hb).trans (hc i hi)⟩)
    have BB6 := Lib.hid B6
    clear b6 B6 l0 l1 l2 m0 m1 m2
    obtain ⟨i0, hi, hz0, hz1, hz2⟩ := info_parts Tryz.infoStr
    obtain ⟨j0, ji, jz0, jz1, jz2⟩ := info_parts Tryz.infoInt
    go_wp2_with fail
    go_loopw [15] (fun i wr => ∃ (k m : Nat) (r1 r2 : Option Addr) (e1 e2 : Nat), i = .int .i64 k ∧ k ≤ n1 ∧ m ≤ k ∧ Lx wr wc.heap.size r1 m e1 r2 m e2 (n : Int) ∧ wr.ownsRow W6.heap.size 9 1 (.slice r1 m e1) m (sv (dT bl (ts.take k) (os.take k))) ∧ wr.ownsRow W6.heap.size 3 1 (.slice r2 m e2) m (nv (dO bl (ts.take k) (os.take k))) ∧ Keeps (fun b => b < W6.heap.size ∧ b ≠ wc.heap.size) W6 wr) (fun i _ => n1 - (intOf i).toNat)
    case atStart => exact ⟨0, 0, none, none, 0, 0, rfl, Nat.zero_le _, Nat.le_refl _, KN.out, World.ownsRow_nil _ _ _ _, World.ownsRow_nil _ _ _ _, Keeps.refl _ _⟩
    case round =>
      obtain ⟨k, m, r1, r2, e1, e2, rfl, hk, hmk, hlx, own1, own2, kp⟩ := hrel
      have HLX := Lib.hid hlx
      have O1 := Lib.hid own1
      have O2 := Lib.hid own2
      have hL := HL6.out.keeps kp (⟨by omega, by omega⟩ : w.heap.size + 1 < W6.heap.size ∧ w.heap.size + 1 ≠ wc.heap.size)
      have KP := Lib.hid kp
      have hws := kp.size
      clear own1 own2 kp
      have HLr := Lib.hid hL
      obtain ⟨n0, n1', n2', z0, z1, z2⟩ := hlx
      obtain ⟨l0, l1, l2, m0, m1, m2⟩ := hL
      by_cases hlt : k < n1
      · have hkt : k < ts.length := by rw [← HN1.out]; exact hlt
        have hko : k < os.length := by rw [← HN2.out]; exact hlt
        have hkc : (k : Int) < n1 := by omega
        have h1 : ∃ b off, a1 = some ⟨b, off, none⟩ ∧ b < w.heap.size ∧ wr.cell? ⟨b, off + k, none⟩ = some (.string ⟨ts[k].toArray⟩) := by
          rcases HT6.out with h | ⟨b, off, e, hb, hc⟩
          · rw [h] at hkt; exact absurd hkt (Nat.not_lt_zero _)
          · exact ⟨b, off, e, hb, (KP.out.cell b (off + k) ⟨by omega, by omega⟩).trans (hc k hkt)⟩
        have h2 : ∃ b off, a2 = some ⟨b, off, none⟩ ∧ b < w.heap.size ∧ wr.cell? ⟨b, off + k, none⟩ = some (.int .i64 (os[k] : Nat)) := by
          rcases HO6.out with h | ⟨b, off, e, hb, hc⟩
          · rw [h] at hko; exact absurd hko (Nat.not_lt_zero _)
          · exact ⟨b, off, e, hb, (KP.out.cell b (off + k) ⟨by omega, by omega⟩).trans (hc k hko)⟩
        obtain ⟨b1, f1, rfl, hb1, hc1⟩ := h1
        obtain ⟨b2, f2, rfl, hb2, hc2⟩ := h2
        have HST := Lib.hid (dT_step bl hkt hko)
        have HSO := Lib.hid (dO_step bl hkt hko)
        obtain ⟨t, ht⟩ : ∃ t, t = ts[k] := ⟨_, rfl⟩
        obtain ⟨o, ho⟩ : ∃ o, o = os[k] := ⟨_, rfl⟩
        rw [← ht] at hc1 HST
        rw [← ho] at hc2 HST HSO
        clear ht ho
        by_cases hob : bl ≤ (o : Int)
        · have hob' : ¬ (o : Int) < bl := by omega
          have E1 := Lib.hid (show dT bl (ts.take (k + 1)) (os.take (k + 1)) = dT bl (ts.take k) (os.take k) ++ [t] by rw [HST.out, if_neg hob'])
          have E2 := Lib.hid (show dO bl (ts.take (k + 1)) (os.take (k + 1)) = dO bl (ts.take k) (os.take k) ++ [o] by rw [HSO.out, if_neg hob'])
          go_wp2_with fail
          have HC2 := Lib.hid hc2
          clear z0 z1 z2 m0 m1 m2 l2 n1' n2' l1 hc2
          have bdp : Below wr.heap.size wr wr.drew := (Below.refl _ _).drew
          refine mixed_region (D := (fun w' => w'.cell? ⟨wc.heap.size, 0, none⟩ = some (.slice r1 m e1) ∧ w'.cell? ⟨w.heap.size + 1, 0, none⟩ = some (.slice (some ⟨b1, f1, none⟩) n1 c1) ∧ w'.cell? ⟨b1, f1 + k, none⟩ = some (.string ⟨t.toArray⟩))) [0, 1, 2, 3, 4, 5, 6] [7, 8, 9, 10] 10 (by kernel_rfl) (by kernel_rfl) (by decide) (⟨n0, l0, hc1⟩) ?_
          simp only [List.filterMap_cons, List.filterMap_nil, List.getElem?_cons_zero, List.getElem?_cons_succ]
          repeat (
            (first
             | (refine calm_move _ rfl ?_)
             | (apply calm_cons
                · (intro w' hw'
                   first | (obtain ⟨hwa', hwb', hwc'⟩ := hw') | (obtain ⟨hwa', hwb'⟩ := hw') | skip
                   go_simp
                   first
                   | done
                   | exact rfl)))
            simp only [Act.put, Act.eval, List.setIfInBounds_toArray, List.set_cons_zero, List.set_cons_succ, Array.getD_eq_getD_getElem?, List.getElem?_toArray, List.getElem?_cons_zero, List.getElem?_cons_succ, Option.getD_some])
          refine calm_nil ?_
          refine loud_cons fun K hK => ?_
          go_wp2_with fail
          have halp : Below wr.heap.size wr (wr.drew.alloc (.cells #[.string ⟨t.toArray⟩] 9)) := bdp.alloc (Nat.le_refl _) _
          have hnrp : wc.heap.size < wr.heap.size := by omega
          have q0 := (halp.cell (p := ⟨wc.heap.size, 0, none⟩) hnrp).trans n0
          have q1 := (halp.cell (p := ⟨w.heap.size + 1, 0, none⟩) (by show w.heap.size + 1 < wr.heap.size; omega)).trans l0
          have q2 := (halp.cell (p := ⟨b1, f1 + k, none⟩) (by show b1 < wr.heap.size; omega)).trans hc1
          refine hK _ _ (fun _ => ⟨q0, q1, q2⟩) ?_
          clear hK K
          refine loud_cons fun K hK => ?_
          have o1p := below_own O1.out bdp
          have o2p := (below_own O2.out bdp).alloc (.cells #[.string ⟨t.toArray⟩] 9)
          refine wpList_append_own _ rfl _ _ 31 rfl W6.heap.size 9 i0 (.string ⟨#[]⟩) 1 16 Tryz.underlying31 hi hz0 hz1 hz2 rfl (by decide) _ _ _ rfl (o1p.alloc _) ⟨wr.heap.size, 0, none⟩ 1 1 [.string ⟨t.toArray⟩] rfl rfl ?up1 ?up2 ?up3 ?up4 ?up5 ?_
          case up1 => exact cell_new1 _ _ _
          case up2 => intro u hu; simp at hu; subst hu; rfl
          case up3 => unfold maxLen; omega
          case up4 => omega
          case up5 => simp [go_sem]; omega
          intro vp wp ownp hgrowp _
          rw [sv_snoc, ← E1.out] at ownp
          obtain ⟨r3, e3, rfl⟩ := own_slice ownp
          have hgp : (wr.drew.alloc (.cells #[.string ⟨t.toArray⟩] 9)).grownBy wp (Value.slice r1 m e1).ownBlock := hgrowp
          have bwp : Below W6.heap.size wr wp := (halp.mono (by omega)).grown hgp (by have := halp.size; omega) (fun k hk => (O1.out.lt k hk).1)
          have okp := o2p.kept hgp (by
            cases h : (Value.slice r2 m e2).ownBlock with
            | none => exact .inl rfl
            | some r0 => exact .inr (fun e0 => rows_apart o2p (o1p.alloc _) (by decide) r0 h e0.symm))
          have x0p := (bwp.cell (p := ⟨wc.heap.size, 0, none⟩) hc6).trans n0
          have x1p := (bwp.cell (p := ⟨w.heap.size + 1, 0, none⟩) (by show w.heap.size + 1 < W6.heap.size; omega)).trans l0
          have x2p := (bwp.cell (p := ⟨b1, f1 + k, none⟩) (by show b1 < W6.heap.size; omega)).trans hc1
          have xfp := (bwp.frozen (p := ⟨wc.heap.size, 0, none⟩) hc6).trans HLX.out.f0
          refine hK _ _ (fun _ => ⟨x0p, x1p, x2p⟩) ?_
          clear hK K q0 q1 q2
          refine loud_cons fun K hK => ?_
          go_wp2
          refine hK _ _ (fun _ => ⟨x0p, x1p, x2p⟩) ?_
          clear hK K
          refine loud_cons fun K hK => ?_
          go_wp2
          refine hK _ _ (fun h => absurd rfl h) ?_
          clear hK K
          refine loud_nil ?_
          have lxp := (HLX.out.olds hc6 bwp).set0 r3 (m + 1) e3
          have oap := own_setc ownp hc6 0 (.slice r3 (m + 1) e3)
          have obp := own_setc okp hc6 0 (.slice r3 (m + 1) e3)
          have kpp := (KP.out.trans (Keeps.of_below bwp (fun b (hb : b < W6.heap.size ∧ b ≠ wc.heap.size) => hb.1))).trans (Keeps.setCell ⟨wc.heap.size, 0, none⟩ (.slice r3 (m + 1) e3) fun b (hb : b < W6.heap.size ∧ b ≠ wc.heap.size) => hb.2)
          generalize wp.setCell ⟨wc.heap.size, 0, none⟩ (.slice r3 (m + 1) e3) = W8 at lxp oap obp kpp ⊢
          have LXp := Lib.hid lxp
          have OAp := Lib.hid oap
          have OBp := Lib.hid obp
          have KPp := Lib.hid kpp
          clear ownp hgrowp hgp okp lxp oap obp bwp x0p x1p x2p xfp o1p o2p halp bdp
          clear n0 l0 hc1
          have hws8 := KPp.out.size
          have g0 := LXp.out.c1
          have hL8 := HL6.out.keeps KPp.out (⟨by omega, by omega⟩ : w.heap.size + 1 < W6.heap.size ∧ w.heap.size + 1 ≠ wc.heap.size)
          have g1 := hL8.c1
          have g2 : W8.cell? ⟨b2, f2 + k, none⟩ = some (.int .i64 (o : Int)) := by
            have e1 := KPp.out.cell b2 (f2 + k) ⟨by omega, by omega⟩
            have e2 := KP.out.cell b2 (f2 + k) ⟨by omega, by omega⟩
            rw [e1, ← e2]; exact HC2.out
          clear hL8
          go_upto_region 19 with fail
          have bdq : Below W8.heap.size W8 W8.drew := (Below.refl _ _).drew
          refine mixed_region (D := (fun w' => w'.cell? ⟨wc.heap.size, 1, none⟩ = some (.slice r2 m e2) ∧ w'.cell? ⟨w.heap.size + 1, 1, none⟩ = some (.slice (some ⟨b2, f2, none⟩) n1 c2) ∧ w'.cell? ⟨b2, f2 + k, none⟩ = some (.int .i64 (o : Int)))) [0, 1, 2, 3, 4, 5, 6] [7, 8, 9, 10] 10 (by kernel_rfl) (by kernel_rfl) (by decide) (⟨g0, g1, g2⟩) ?_
          simp only [List.filterMap_cons, List.filterMap_nil, List.getElem?_cons_zero, List.getElem?_cons_succ]
          repeat (
            (first
             | (refine calm_move _ rfl ?_)
             | (apply calm_cons
                · (intro w' hw'
                   first | (obtain ⟨hwa', hwb', hwc'⟩ := hw') | (obtain ⟨hwa', hwb'⟩ := hw') | skip
                   go_simp
                   first
                   | done
                   | exact rfl)))
            simp only [Act.put, Act.eval, List.setIfInBounds_toArray, List.set_cons_zero, List.set_cons_succ, Array.getD_eq_getD_getElem?, List.getElem?_toArray, List.getElem?_cons_zero, List.getElem?_cons_succ, Option.getD_some])
          refine calm_nil ?_
          refine loud_cons fun K hK => ?_
          go_wp2_with fail
          have halq : Below W8.heap.size W8 (W8.drew.alloc (.cells #[.int .i64 (o : Int)] 3)) := bdq.alloc (Nat.le_refl _) _
          have hnrq : wc.heap.size < W8.heap.size := by omega
          have q0 := (halq.cell (p := ⟨wc.heap.size, 1, none⟩) hnrq).trans g0
          have q1 := (halq.cell (p := ⟨w.heap.size + 1, 1, none⟩) (by show w.heap.size + 1 < W8.heap.size; omega)).trans g1
          have q2 := (halq.cell (p := ⟨b2, f2 + k, none⟩) (by show b2 < W8.heap.size; omega)).trans g2
          refine hK _ _ (fun _ => ⟨q0, q1, q2⟩) ?_
          clear hK K
          refine loud_cons fun K hK => ?_
          have o1q := below_own OBp.out bdq
          have o2q := (below_own OAp.out bdq).alloc (.cells #[.int .i64 (o : Int)] 3)
          refine wpList_append_own _ rfl _ _ 32 rfl W6.heap.size 3 j0 (.int .i64 0) 1 8 Tryz.underlying32 ji jz0 jz1 jz2 rfl (by decide) _ _ _ rfl (o1q.alloc _) ⟨W8.heap.size, 0, none⟩ 1 1 [.int .i64 (o : Int)] rfl rfl ?uq1 ?uq2 ?uq3 ?uq4 ?uq5 ?_
          case uq1 => exact cell_new1 _ _ _
          case uq2 => intro u hu; simp at hu; subst hu; rfl
          case uq3 => unfold maxLen; omega
          case uq4 => omega
          case uq5 => simp [go_sem]; omega
          intro vq wq ownq hgrowq _
          rw [nv_snoc, ← E2.out] at ownq
          obtain ⟨r4, e4, rfl⟩ := own_slice ownq
          have hgq : (W8.drew.alloc (.cells #[.int .i64 (o : Int)] 3)).grownBy wq (Value.slice r2 m e2).ownBlock := hgrowq
          have bwq : Below W6.heap.size W8 wq := (halq.mono (by omega)).grown hgq (by have := halq.size; omega) (fun k hk => (OBp.out.lt k hk).1)
          have okq := o2q.kept hgq (by
            cases h : (Value.slice r3 (m + 1) e3).ownBlock with
            | none => exact .inl rfl
            | some r0 => exact .inr (fun e0 => rows_apart o2q (o1q.alloc _) (by decide) r0 h e0.symm))
          have x0q := (bwq.cell (p := ⟨wc.heap.size, 1, none⟩) hc6).trans g0
          have x1q := (bwq.cell (p := ⟨w.heap.size + 1, 1, none⟩) (by show w.heap.size + 1 < W6.heap.size; omega)).trans g1
          have x2q := (bwq.cell (p := ⟨b2, f2 + k, none⟩) (by show b2 < W6.heap.size; omega)).trans g2
          have xfq := (bwq.frozen (p := ⟨wc.heap.size, 1, none⟩) hc6).trans LXp.out.f1
          refine hK _ _ (fun _ => ⟨x0q, x1q, x2q⟩) ?_
          clear hK K q0 q1 q2
          refine loud_cons fun K hK => ?_
          go_wp2
          refine hK _ _ (fun _ => ⟨x0q, x1q, x2q⟩) ?_
          clear hK K
          refine loud_cons fun K hK => ?_
          go_wp2
          refine hK _ _ (fun h => absurd rfl h) ?_
          clear hK K
          refine loud_nil ?_
          have lxq := (LXp.out.olds hc6 bwq).set1 r4 (m + 1) e4
          have oaq := own_setc ownq hc6 1 (.slice r4 (m + 1) e4)
          have obq := own_setc okq hc6 1 (.slice r4 (m + 1) e4)
          have kpq := (KPp.out.trans (Keeps.of_below bwq (fun b (hb : b < W6.heap.size ∧ b ≠ wc.heap.size) => hb.1))).trans (Keeps.setCell ⟨wc.heap.size, 1, none⟩ (.slice r4 (m + 1) e4) fun b (hb : b < W6.heap.size ∧ b ≠ wc.heap.size) => hb.2)
          generalize wq.setCell ⟨wc.heap.size, 1, none⟩ (.slice r4 (m + 1) e4) = W9 at lxq oaq obq kpq ⊢
          have LXq := Lib.hid lxq
          have OAq := Lib.hid oaq
          have OBq := Lib.hid obq
          have KPq := Lib.hid kpq
          clear ownq hgrowq hgq okq lxq oaq obq bwq x0q x1q x2q xfq o1q o2q halq bdq
          clear g0 g1 g2
          go_wp2_with fail
          go_roundw
          case rel => exact ⟨k + 1, m + 1, r3, r4, e3, e4, by go_num, hlt, by omega, LXq.out, OBq.out, OAq.out, KPq.out⟩
          case measure => simp [intOf]; omega
        · have hob' : (o : Int) < bl := by omega
          have E1 := Lib.hid (show dT bl (ts.take (k + 1)) (os.take (k + 1)) = dT bl (ts.take k) (os.take k) by rw [HST.out, if_pos hob', List.append_nil])
          have E2 := Lib.hid (show dO bl (ts.take (k + 1)) (os.take (k + 1)) = dO bl (ts.take k) (os.take k) by rw [HSO.out, if_pos hob', List.append_nil])
          go_wp2_with fail
          go_roundw
          case rel => exact ⟨k + 1, m, r1, r2, e1, e2, by go_num, hlt, by omega, HLX.out, by rw [E1.out]; exact O1.out, by rw [E2.out]; exact O2.out, KP.out⟩
          case measure => simp [intOf]; omega
      · obtain rfl : k = n1 := by omega
        have hk2 : ¬ (k : Int) < k := by omega
        have hkd : decide ((k : Int) < k) = false := by simp
        go_wp2_with fail
        have hR := HR6.out.keeps KP.out (⟨by omega, by omega⟩ : w.heap.size + 2 < W6.heap.size ∧ w.heap.size + 2 ≠ wc.heap.size) (⟨by omega, by omega⟩ : w.heap.size + 3 < W6.heap.size ∧ w.heap.size + 3 ≠ wc.heap.size)
        have hB := HB6.out.keeps KP.out (⟨by omega, by omega⟩ : w.heap.size < W6.heap.size ∧ w.heap.size ≠ wc.heap.size)
        have HQr := Lib.hid (refD_keeps HQ6.out NS6.out KP.out (fun b h1 h2 _ => ⟨h1, h2⟩))
        have HRr := Lib.hid hR
        have BBr := Lib.hid (BB6.out.trans (KP.out.below fun b hb => (⟨by omega, by omega⟩ : b < W6.heap.size ∧ b ≠ wc.heap.size)))
        clear z0 z1 z2 l0 l1 l2 m0 m1 m2
        obtain ⟨x0, x1, x2, z0, z1, z2, -⟩ := hB
        obtain ⟨⟨p0, p1, p2, s0, s1, s2, -⟩, ⟨t0, t1, t2, v0, v1, v2⟩, -, -⟩ := hR
        go_region
        clear n0 n1' n2' x0 x1 x2 z0 z1 z2 p0 p1 p2 s0 s1 s2 t0 t1 t2 v0 v1 v2
        have ka := own_put O1.out (show w.heap.size + 2 < W6.heap.size by omega) (show w.heap.size + 3 < W6.heap.size by omega) ak Sk.files.length ck Sk.fuse Sk.off r1 m e1 r2 m e2 (n : Int)
        have kb' := own_put O2.out (show w.heap.size + 2 < W6.heap.size by omega) (show w.heap.size + 3 < W6.heap.size by omega) ak Sk.files.length ck Sk.fuse Sk.off r1 m e1 r2 m e2 (n : Int)
        have kf := ((HRr.out).fin (HQr.out) (BBr.out) (by omega) (by omega) r1 (m) e1 r2 (m) e2 ((n : Int))).1
        go_wp2_with fail
        show bodyPost _ _ _ _ _ (World.drew (putg (put3 wr (w.heap.size + 2) ak (Sk.files.length) ck (Sk.fuse) Sk.off) (w.heap.size + 3) r1 (m) e1 r2 (m) e2 ((n : Int))))
        generalize (putg (put3 wr (w.heap.size + 2) ak (Sk.files.length) ck (Sk.fuse) Sk.off) (w.heap.size + 3) r1 (m) e1 r2 (m) e2 ((n : Int))) = WF at kf ka kb' ⊢
        obtain ⟨k0, k1, k2, k3, k4, k5, kq, kb⟩ := kf
        refine bodyPost_ret (v := .tuple #[.agg #[.slice ak (Sk.files.length) ck, .int .i64 (Sk.fuse), .bool Sk.off], .agg #[.slice r1 (m) e1, .slice r2 (m) e2, .int .i64 ((n : Int))], .int .i64 0]) (by simp [results, Tryz.f25, go_sem, k0, k1, k2, k3, k4, k5]) rfl ?_
        exact ⟨_, _, by rw [HEND.out], by rw [HEND.out]; exact (kq.old ((Below.refl _ _).drew)), by rw [HEND.out]; exact drop_refl HP.out (by omega) HN1.out HN2.out ka kb', kb.drew⟩
end Go.Proofs.YtkfmjkcomjmedaaGreat
