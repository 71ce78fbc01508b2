/-
  Layer 7 (sorted): a map of values (int) in memory; the contracts of New, given, Len, Put, Get, Drop. Conditions: fewer keys than 2^30, keys within the reach.
-/
import Derived.Test.YteolhbcmffbdlaaOy
import Derived.LaidEqlPtr
namespace Go.Proofs.Yteolhbcmffbdlaa.TI
open Go.RowKit
set_option linter.unusedVariables false
set_option linter.unusedSimpArgs false

/-- All blocks but m hold what they held. -/
structure Km (m : Nat) (w w' : World) : Prop where
  os : w'.os = w.os
  tape : w'.tape = w.tape
  output : w'.output = w.output
  size : w.heap.size ≤ w'.heap.size
  block : ∀ b, b < w.heap.size → b ≠ m → w'.heap[b]? = w.heap[b]?
theorem Km.of {m : Nat} {w w' : World} (h : Below w.heap.size w w') : Km m w w' := ⟨h.os, h.tape, h.output, h.size, fun b hb _ => h.block b hb⟩
theorem Km.trans {m : Nat} {a b c : World} (h : Km m a b) (k : Km m b c) : Km m a c :=
  ⟨k.os.trans h.os, k.tape.trans h.tape, k.output.trans h.output, Nat.le_trans h.size k.size, fun i hi hm => (k.block i (Nat.lt_of_lt_of_le hi h.size) hm).trans (h.block i hi hm)⟩
theorem Km.below {m B : Nat} {w w' : World} (h : Km m w w') (hB : B ≤ m) (hs : B ≤ w.heap.size) : Below B w w' := ⟨h.os, h.tape, h.output, h.size, fun b hb => h.block b (Nat.lt_of_lt_of_le hb hs) (by omega)⟩
theorem Km.set {m i : Nat} {w : World} (v : Value) : Km m w (w.setCell ⟨m, i, none⟩ v) := ⟨rfl, rfl, rfl, by simp [World.setCell], fun b _ hm => Below.heap_setCell _ _ _ _ hm⟩
theorem Km.drew {m : Nat} {a w : World} (h : Km m a w) : Km m a w.drew := ⟨h.os, h.tape, h.output, h.size, h.block⟩
/-- A map lies at block m: it has l. -/
def MapAt (w : World) (m : Nat) (l : List (Ky × Int)) : Prop :=
  ∃ p t, w.heap[m]? = some (.cells #[.pointer (some ⟨m, 0, none⟩), .pointer p] 62 (0, 0)) ∧ IsT w p t ∧ t.all = l ∧ Rise l ∧ l.length < 1073741824
theorem MapAt.lt {w : World} {m : Nat} {l : List (Ky × Int)} (h : MapAt w m l) : m < w.heap.size := by obtain ⟨p, t, h, _⟩ := h; exact (Array.getElem?_eq_some_iff.1 h).1
theorem MapAt.rise {w : World} {m : Nat} {l : List (Ky × Int)} (h : MapAt w m l) : Rise l := by obtain ⟨_, _, _, _, _, h, _⟩ := h; exact h
theorem MapAt.len {w : World} {m : Nat} {l : List (Ky × Int)} (h : MapAt w m l) : l.length < 1073741824 := by obtain ⟨_, _, _, _, _, _, h⟩ := h; exact h
theorem MapAt.below {w w' : World} {m : Nat} {l : List (Ky × Int)} (h : MapAt w m l) (hb : Below w.heap.size w w') : MapAt w' m l := by
  have hm := h.lt
  obtain ⟨p, t, h1, h2, h3⟩ := h
  exact ⟨p, t, (hb.block m hm).trans h1, h2.below hb, h3⟩
theorem cellsOf {w : World} {m : Nat} {a b : Value} {t : TypeId} (h : w.heap[m]? = some (.cells #[a, b] t (0, 0))) : w.cell? ⟨m, 0, none⟩ = some a ∧ w.cell? ⟨m, 1, none⟩ = some b ∧ w.cell? ⟨m, 4, none⟩ = none ∧ w.frozen? ⟨m, 0, none⟩ = false ∧ w.frozen? ⟨m, 1, none⟩ = false := by
  refine ⟨?_, ?_, ?_, ?_, ?_⟩ <;> simp [World.cell?, World.frozen?, h]
theorem setCellAt {w : World} {b i : Nat} {cs : Array Value} {t : TypeId} {fz : Nat × Nat} (h : w.heap[b]? = some (.cells cs t fz)) (u : Value) : (w.setCell ⟨b, i, none⟩ u).heap[b]? = some (.cells (cs.setIfInBounds i u) t fz) := by
  simp [World.setCell, Array.getElem?_modify, h]
/-- Another tree is laid into a map. -/
theorem MapAt.turn {w w' : World} {m : Nat} {l : List (Ky × Int)} (h : MapAt w m l) (hb : Below w.heap.size w w') {q : Option Addr} {t : BT Int} (ht : IsT w' q t) (hr : Rise t.all) (hl : t.all.length < 1073741824) :
    MapAt (w'.setCell ⟨m, 1, none⟩ (.pointer q)) m t.all ∧ Km m w (w'.setCell ⟨m, 1, none⟩ (.pointer q)) := by
  have hm := h.lt
  obtain ⟨p, t0, h1, _⟩ := h
  have h2 := (hb.block m hm).trans h1
  refine ⟨⟨q, t, setCellAt h2 _, ?_, rfl, hr, hl⟩, (Km.of hb).trans (Km.set _)⟩
  exact ht.same (Km.set (m := m) _).size (Km.set (m := m) _).block (cellsOf h2).2.2.1

theorem heapNew (w : World) (o : Obj) : (w.alloc o).heap[w.heap.size]? = some o := by unfold World.alloc; simp
set_option maxHeartbeats 1000000 in
theorem new_any (w : World) : Calls Try.prog 8 #[] w fun e w' => e = .returned (.pointer (some ⟨w.heap.size, 0, none⟩)) ∧ Below w.heap.size w w' ∧ MapAt w' w.heap.size [] := by
  go_enter Try.func8, Try.ntmps8
  go_wp2
  go_ret
  exact ⟨rfl, (Below.refl _ _).alloc (Nat.le_refl _) _, none, .nil, heapNew w _, rfl, rfl, List.Pairwise.nil, by decide⟩
theorem infoMap : (Try.prog.info? 62).map (·.size) = some 2 := by kernel_rfl
theorem ptr_same (a : Addr) (w : World) : (binOp .eql 23 (.pointer (some a)) (.pointer (some a))).run Try.prog w = .ok (.bool true) w := by
  obtain ⟨j, hj, _⟩ := Option.map_eq_some_iff.1 infoMap
  exact run_eql_ptr_same w a Try.underlying23 hj
theorem ptr_nil_left (a : Addr) (w : World) : (binOp .eql 23 (.pointer none) (.pointer (some a))).run Try.prog w = .ok (.bool false) w := by
  have h : ∀ d : Nat, (Op.equalIn (d + 1) 23 (.pointer none) (.pointer (some a))).run Try.prog w = .ok false w := fun d => by
    simp [Op.equalIn, run_underlying Try.underlying23]
  simp only [binOp]
  simp [Op.equal, Op.maxDepth, h 9999]
theorem given_yes {w : World} {m : Nat} {l : List (Ky × Int)} (h : MapAt w m l) : Calls Try.prog 31 #[.pointer (some ⟨m, 0, none⟩)] w fun e w' => e = .returned (.bool true) ∧ Below w.heap.size w w' := by
  obtain ⟨p, t, h1, -⟩ := h
  obtain ⟨c0, c1, c2, f0, f1⟩ := cellsOf h1
  clear h1 c2 f0 f1 c1
  have E := ptr_same ⟨m, 0, none⟩
  go_enter Try.func31, Try.ntmps31
  go_wp2
  go_ret
  exact ⟨rfl, Below.refl _ _⟩
/-- A map that nobody made: none, or one without its mark. -/
def Nobody (w : World) (p : Option Addr) : Prop := p = none ∨ ∃ b, p = some ⟨b, 0, none⟩ ∧ b < w.heap.size ∧ w.cell? ⟨b, 0, none⟩ = some (.pointer none)
theorem Nobody.below {w w' : World} {p : Option Addr} (h : Nobody w p) (hb : Below w.heap.size w w') : Nobody w' p := by
  rcases h with h | ⟨b, h, hlt, hc⟩
  · exact .inl h
  · exact .inr ⟨b, h, Nat.lt_of_lt_of_le hlt hb.size, (hb.cell (p := ⟨b, 0, none⟩) hlt).trans hc⟩
theorem given_no {w : World} {p : Option Addr} (h : Nobody w p) : Calls Try.prog 31 #[.pointer p] w fun e w' => e = .returned (.bool false) ∧ Below w.heap.size w w' := by
  rcases h with rfl | ⟨b, rfl, hlt, hc⟩
  · go_enter Try.func31, Try.ntmps31
    go_wp2
    go_ret
    exact ⟨rfl, Below.refl _ _⟩
  · have E := ptr_nil_left ⟨b, 0, none⟩
    go_enter Try.func31, Try.ntmps31
    go_wp2
    go_ret
    exact ⟨rfl, Below.refl _ _⟩
theorem len_any {w : World} {m : Nat} {l : List (Ky × Int)} (h : MapAt w m l) : Calls Try.prog 20 #[.pointer (some ⟨m, 0, none⟩)] w fun e w' => e = .returned (.int .i64 (l.length : Nat)) ∧ Below w.heap.size w w' := by
  have HH := Lib.hid h
  have hm := h.lt
  obtain ⟨p, t, h1, h2, rfl, -⟩ := h
  obtain ⟨c0, c1, c2, f0, f1⟩ := cellsOf h1
  have HT := Lib.hid h2
  clear h1 h2 c0 c2 f0 f1
  go_enter Try.func20, Try.ntmps20
  go_wp2_with fail
  refine (given_yes HH.out).mono ?_
  rintro e w1 ⟨rfl, b1⟩
  have B1 := Lib.hid b1
  obtain ⟨hc, hf⟩ := bcell b1
  clear b1
  go_wp2_with fail
  refine (count_any (HT.out.below B1.out)).mono ?_
  rintro e w2 ⟨rfl, b2⟩
  have B2 := Lib.hid (bt B1.out b2)
  clear b2
  go_wp2_with fail
  go_ret
  exact ⟨rfl, B2.out⟩
/-- A put's end. -/
def PutR (w : World) (m : Nat) (l' : List (Ky × Int)) (b : Bool) (e : Ending) (w' : World) : Prop := e = .returned (.bool b) ∧ Km m w w' ∧ MapAt w' m l'
set_option maxRecDepth 100000 in
set_option maxHeartbeats 2000000 in
theorem put_map {w : World} {m : Nat} {l : List (Ky × Int)} (h : MapAt w m l) (k : Ky) (hk : k.length ≤ 281474976710656) (v : Int) (hl : l.length + 1 < 1073741824) :
    Calls Try.prog 11 #[.pointer (some ⟨m, 0, none⟩), .string ⟨k.toArray⟩, .int .i64 v] w (PutR w m (putA k v l) (getA k l).isSome) := by
  have HH := Lib.hid h
  have HK := Lib.hid hk
  have hm := h.lt
  have hr := h.rise
  have hlen := putA_len hr k v
  have hle : (putA k v l).length < 1073741824 := Nat.lt_of_le_of_lt (putA_le hr k v) hl
  have HLE := Lib.hid hle
  have hcmp : ((putA k v l).length == l.length) = (getA k l).isSome := by
    rw [hlen]
    cases (getA k l).isSome <;> simp
  have HR := Lib.hid hr
  obtain ⟨p, t, h1, h2, rfl, -⟩ := h
  obtain ⟨c0, c1, c2, f0, f1⟩ := cellsOf h1
  have HT := Lib.hid h2
  have hcn : t.cnt + 1 < lim := by unfold lim BT.cnt; omega
  have HCN := Lib.hid hcn
  obtain ⟨x, hx⟩ : ∃ x, x = (putA k v t.all).length := ⟨_, rfl⟩
  rw [← hx] at hcmp
  have HX := Lib.hid hx
  obtain ⟨b, hb⟩ : ∃ b, (getA k t.all).isSome = b := ⟨_, rfl⟩
  rw [hb] at hcmp ⊢
  have hcmp2 : ((x : Int) == (t.all.length : Int)) = b := by
    rw [← hcmp]
    by_cases e : x = t.all.length
    · subst e; simp
    · rw [beq_eq_false_iff_ne.2 e]; simp; omega
  obtain ⟨y, hy⟩ : ∃ y, y = t.all.length := ⟨_, rfl⟩
  rw [← hy] at hcmp2 hcmp
  have HY := Lib.hid hy
  clear h1 h2 c0 c2 f0 hk hr hlen hle hcn hx hb hy hl
  go_enter Try.func11, Try.ntmps11
  go_wp2_with fail
  refine (given_yes HH.out).mono ?_
  rintro e w1 ⟨rfl, b1⟩
  have B1 := Lib.hid b1
  clear b1
  go_wp2_with fail
  refine (len_any (HH.out.below B1.out)).mono ?_
  rintro e w2 ⟨rfl, b2⟩
  rw [← HY.out]
  have B2 := Lib.hid (bt B1.out b2)
  obtain ⟨hc, hf⟩ := bcell B2.out
  clear b2
  go_wp2_with fail
  refine (put_any k HK.out v t _ _ (HT.out.below B2.out) HR.out HCN.out).mono ?_
  rintro e w3 ⟨q3, t3, rfl, b3, i3, a3⟩
  obtain ⟨hc3, hf3⟩ := bcell (bt B2.out b3)
  have hs3 : m < w3.heap.size := Nat.lt_of_lt_of_le hm (bt B2.out b3).size
  obtain ⟨m3, k3⟩ := HH.out.turn (bt B2.out b3) i3 (by rw [a3]; exact rise_putA HR.out k v) (by rw [a3]; exact HLE.out)
  rw [a3] at m3
  have M3 := Lib.hid m3
  have K3 := Lib.hid k3
  clear b3 i3 a3 m3 k3 hc hf
  go_wp2_with fail
  refine (len_any M3.out).mono ?_
  rintro e w4 ⟨rfl, b4⟩
  rw [← HX.out]
  have M4 := Lib.hid (M3.out.below b4)
  have K4 := Lib.hid (K3.out.trans (Km.of b4))
  clear b4 hc3 hf3
  go_wp2_with fail
  go_ret
  exact ⟨rfl, K4.out, M4.out⟩
theorem HQ2 {g : Option Int} {q : Option Addr} {w' : World} {v : Int} (h : (g = none ∧ q = none) ∨ ∃ b v, g = some v ∧ q = some ⟨b, 0, none⟩ ∧ w'.cell? ⟨b, 1, none⟩ = some (.int .i64 v)) (hg : g = some v) : ∃ b, q = some ⟨b, 0, none⟩ ∧ w'.cell? ⟨b, 1, none⟩ = some (.int .i64 v) := by
  rcases h with ⟨h, _⟩ | ⟨b, v', h, hq, hc⟩
  · rw [hg] at h; cases h
  · rw [hg] at h; cases h; exact ⟨b, hq, hc⟩
theorem HQ3 {g : Option Int} {q : Option Addr} {w' : World} (h : (g = none ∧ q = none) ∨ ∃ b v, g = some v ∧ q = some ⟨b, 0, none⟩ ∧ w'.cell? ⟨b, 1, none⟩ = some (.int .i64 v)) (hg : g = none) : q = none := by
  rcases h with ⟨_, h⟩ | ⟨b, v', h, _⟩
  · exact h
  · rw [hg] at h; cases h
set_option maxRecDepth 100000 in
set_option maxHeartbeats 2000000 in
theorem get_some {w : World} {m : Nat} {l : List (Ky × Int)} (h : MapAt w m l) {k : Ky} {v : Int} (hg : getA k l = some v) :
    Calls Try.prog 12 #[.pointer (some ⟨m, 0, none⟩), .string ⟨k.toArray⟩] w fun e w' => e = .returned (.tuple #[.int .i64 v, .bool true]) ∧ Below w.heap.size w w' := by
  have HH := Lib.hid h
  have HG := Lib.hid hg
  have hm := h.lt
  have HR := Lib.hid h.rise
  obtain ⟨p, t, h1, h2, rfl, -⟩ := h
  obtain ⟨c0, c1, c2, f0, f1⟩ := cellsOf h1
  have HT := Lib.hid h2
  clear h1 h2 c0 c2 f0 f1 hg
  go_enter Try.func12, Try.ntmps12
  go_wp2_with fail
  refine (given_yes HH.out).mono ?_
  rintro e w1 ⟨rfl, b1⟩
  have B1 := Lib.hid b1
  obtain ⟨hc, hf⟩ := bcell b1
  clear b1
  go_wp2_with fail
  refine (find_any (HT.out.below B1.out) HR.out k).mono ?_
  rintro e w2 ⟨q, rfl, b2, hq⟩
  have B2 := Lib.hid (bt B1.out b2)
  have HQ := HQ2 hq HG.out
  obtain ⟨g, rfl, hv⟩ := HQ
  clear b2 hq
  go_wp2_with fail
  go_ret2
  exact ⟨rfl, B2.out⟩
set_option maxRecDepth 100000 in
set_option maxHeartbeats 2000000 in
theorem get_none {w : World} {m : Nat} {l : List (Ky × Int)} (h : MapAt w m l) {k : Ky} (hg : getA k l = none) :
    Calls Try.prog 12 #[.pointer (some ⟨m, 0, none⟩), .string ⟨k.toArray⟩] w fun e w' => e = .returned (.tuple #[.int .i64 0, .bool false]) ∧ Below w.heap.size w w' := by
  have HH := Lib.hid h
  have HG := Lib.hid hg
  have hm := h.lt
  have HR := Lib.hid h.rise
  obtain ⟨p, t, h1, h2, rfl, -⟩ := h
  obtain ⟨c0, c1, c2, f0, f1⟩ := cellsOf h1
  have HT := Lib.hid h2
  clear h1 h2 c0 c2 f0 f1 hg
  go_enter Try.func12, Try.ntmps12
  go_wp2_with fail
  refine (given_yes HH.out).mono ?_
  rintro e w1 ⟨rfl, b1⟩
  have B1 := Lib.hid b1
  obtain ⟨hc, hf⟩ := bcell b1
  clear b1
  go_wp2_with fail
  refine (find_any (HT.out.below B1.out) HR.out k).mono ?_
  rintro e w2 ⟨q, rfl, b2, hq⟩
  have B2 := Lib.hid (bt B1.out b2)
  obtain rfl := HQ3 hq HG.out
  clear b2 hq
  go_wp2_with fail
  go_ret2
  exact ⟨rfl, B2.out⟩
set_option maxRecDepth 100000 in
set_option maxHeartbeats 2000000 in
theorem drop_none {w : World} {m : Nat} {l : List (Ky × Int)} (h : MapAt w m l) {k : Ky} (hg : getA k l = none) :
    Calls Try.prog 15 #[.pointer (some ⟨m, 0, none⟩), .string ⟨k.toArray⟩] w (PutR w m l false) := by
  have HH := Lib.hid h
  have HG := Lib.hid hg
  clear hg h
  go_enter Try.func15, Try.ntmps15
  go_wp2_with fail
  refine (get_none HH.out HG.out).mono ?_
  rintro e w1 ⟨rfl, b1⟩
  have B1 := Lib.hid b1
  clear b1
  go_wp2_with fail
  go_ret
  exact ⟨rfl, Km.of B1.out, HH.out.below B1.out⟩
set_option maxRecDepth 100000 in
set_option maxHeartbeats 2000000 in
theorem drop_some {w : World} {m : Nat} {l : List (Ky × Int)} (h : MapAt w m l) {k : Ky} {v : Int} (hg : getA k l = some v) :
    Calls Try.prog 15 #[.pointer (some ⟨m, 0, none⟩), .string ⟨k.toArray⟩] w (PutR w m (delA k l) true) := by
  have HH := Lib.hid h
  have HG := Lib.hid hg
  have hm := h.lt
  have HR := Lib.hid h.rise
  have hle : (delA k l).length < 1073741824 := Nat.lt_of_le_of_lt (del_len k) h.len
  have HLE := Lib.hid hle
  have hlen := h.len
  obtain ⟨p, t, h1, h2, rfl, -⟩ := h
  obtain ⟨c0, c1, c2, f0, f1⟩ := cellsOf h1
  have hcn : t.cnt < lim := by unfold lim BT.cnt; omega
  have HCN := Lib.hid hcn
  have HT := Lib.hid h2
  clear h1 h2 c0 c2 f0 hg hle hlen hcn
  go_enter Try.func15, Try.ntmps15
  go_wp2_with fail
  refine (get_some HH.out HG.out).mono ?_
  rintro e w1 ⟨rfl, b1⟩
  have B1 := Lib.hid b1
  obtain ⟨hc, hf⟩ := bcell b1
  clear b1
  go_wp2_with fail
  refine (drops_any t _ _ k (HT.out.below B1.out) HR.out HCN.out (by rw [HG.out]; simp)).mono ?_
  rintro e w3 ⟨q3, t3, rfl, b3, i3, a3⟩
  obtain ⟨hc3, hf3⟩ := bcell (bt B1.out b3)
  have hs3 : m < w3.heap.size := Nat.lt_of_lt_of_le hm (bt B1.out b3).size
  obtain ⟨m3, k3⟩ := HH.out.turn (bt B1.out b3) i3 (by rw [a3]; exact rise_delA HR.out k) (by rw [a3]; exact HLE.out)
  rw [a3] at m3
  have M3 := Lib.hid m3
  have K3 := Lib.hid k3
  clear b3 i3 a3 m3 k3 hc hf
  go_wp2_with fail
  go_ret
  exact ⟨rfl, K3.out, M3.out⟩
end Go.Proofs.Yteolhbcmffbdlaa.TI
