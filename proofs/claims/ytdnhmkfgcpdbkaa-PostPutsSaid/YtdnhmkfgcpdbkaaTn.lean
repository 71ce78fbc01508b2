/-
  Bytes of which up to four in a row are turned into others, over lists; a row of bytes of a known block, read and written cell by cell; '[]byte(s)' and 'string(b)' at such a row; arrays of integers that come in. No function of the program is spoken of. Conditions: none.
-/
import Derived.Test.YtdnhmkfgcpdbkaaWl
import Derived.Lib.ConvBytes
import Derived.ChangeAlike
import Derived.Lib.Strings
import Derived.ChangeArms
import Derived.WideShapes
import Derived.Deep.Quiet
namespace Go.Proofs.Ytdnhmkfgcpdbkaa
open Go.RowKit

/-! ### lists -/
def zxl (l m : List UInt8) : List UInt8 := List.zipWith (· ^^^ ·) l m
/-- L, from place k on j bytes turned by Y's. -/
def turnL (L : List UInt8) (k : Nat) (Y : List UInt8) (j : Nat) : List UInt8 := L.take k ++ zxl ((L.drop k).take j) (Y.take j) ++ L.drop (k + j)
theorem turnL_zero (L : List UInt8) (k : Nat) (Y : List UInt8) : turnL L k Y 0 = L := by simp [turnL, zxl]
theorem turnL_length (L : List UInt8) (k : Nat) (Y : List UInt8) (j : Nat) (h : k + j ≤ L.length) (hj : j ≤ Y.length) : (turnL L k Y j).length = L.length := by
  simp only [turnL, zxl, List.length_append, List.length_take, List.length_drop, List.length_zipWith]
  omega
theorem turnL_get (L : List UInt8) (k : Nat) (Y : List UInt8) (j : Nat) (h : k + j < L.length) (hj : j < Y.length) : (turnL L k Y j)[k + j]? = some L[k + j] := by
  have h1 : (L.take k ++ zxl ((L.drop k).take j) (Y.take j)).length = k + j := by
    simp only [zxl, List.length_append, List.length_take, List.length_drop, List.length_zipWith]
    omega
  rw [turnL, List.getElem?_append_right (by omega), h1, Nat.sub_self, List.getElem?_drop, Nat.add_zero, List.getElem?_eq_getElem h]
theorem turnL_set (L : List UInt8) (k : Nat) (Y : List UInt8) (j : Nat) (h : k + j < L.length) (hj : j < Y.length) : (turnL L k Y j).set (k + j) (L[k + j] ^^^ Y[j]) = turnL L k Y (j + 1) := by
  have h1 : (L.take k ++ zxl ((L.drop k).take j) (Y.take j)).length = k + j := by
    simp only [zxl, List.length_append, List.length_take, List.length_drop, List.length_zipWith]
    omega
  have h2 : (L.drop k).take (j + 1) = (L.drop k).take j ++ [L[k + j]] := by
    rw [List.take_succ_eq_append_getElem (by simp; omega)]
    simp
  have h3 : Y.take (j + 1) = Y.take j ++ [Y[j]] := List.take_succ_eq_append_getElem hj
  have h4 : ((L.drop k).take j).length = (Y.take j).length := by
    simp only [List.length_take, List.length_drop]
    omega
  have h5 : zxl ((L.drop k).take (j + 1)) (Y.take (j + 1)) = zxl ((L.drop k).take j) (Y.take j) ++ [L[k + j] ^^^ Y[j]] := by
    rw [h2, h3, zxl, zxl, List.zipWith_append h4]
    rfl
  have h6 : L.drop (k + j) = L[k + j] :: L.drop (k + (j + 1)) := List.drop_eq_getElem_cons h
  rw [turnL, turnL, h5, List.set_append_right _ _ (by omega), h1, Nat.sub_self, h6, List.set_cons_zero]
  simp
/-- Turning by nothing but zeros. -/
theorem zxl_same : ∀ {x y : List UInt8}, x.length = y.length → (zxl x y = x ↔ y.any (· != 0) = false)
  | [], [], _ => by simp [zxl]
  | [], _ :: _, h => by simp at h
  | _ :: _, [], h => by simp at h
  | a :: x, b :: y, h => by
    have ih := zxl_same (x := x) (y := y) (by simpa using h)
    have hb : a ^^^ b = a ↔ b = 0 := by
      constructor
      · intro e
        have := congrArg (a ^^^ ·) e
        simpa [← UInt8.xor_assoc] using this
      · rintro rfl
        simp
    simp only [zxl, List.zipWith_cons_cons, List.cons.injEq, List.any_cons, Bool.or_eq_false_iff] at ih ⊢
    rw [hb, ih]
    simp
theorem any_snoc (Y : List UInt8) (j : Nat) (h : j < Y.length) : (Y.take (j + 1)).any (· != 0) = ((Y.take j).any (· != 0) || Y[j] != 0) := by
  rw [List.take_succ_eq_append_getElem h, List.any_append]
  simp

/-! ### a row of bytes, cell by cell -/
def hasRow (w : World) (g : Nat) (l : List UInt8) : Prop := ∀ j (h : j < l.length), w.cell? ⟨g, j, none⟩ = some (.int .u8 (l[j].toNat : Int)) ∧ w.frozen? ⟨g, j, none⟩ = false
theorem hasRow.drew {w : World} {g : Nat} {l : List UInt8} (h : hasRow w g l) : hasRow w.drew g l := h
theorem hasRow.drewN {w : World} {g : Nat} {l : List UInt8} (h : hasRow w g l) (n : Nat) : hasRow (w.drewN n) g l := h
theorem hasRow.set {w : World} {g : Nat} {l : List UInt8} (h : hasRow w g l) (j : Nat) (hj : j < l.length) (b : UInt8) : hasRow (w.setCell ⟨g, j, none⟩ (.int .u8 (b.toNat : Int))) g (l.set j b) := by
  intro i hi
  rw [List.length_set] at hi
  obtain ⟨h1, h2⟩ := h i hi
  refine ⟨?_, by rw [World.frozen?_setCell]; exact h2⟩
  by_cases e : i = j
  · subst e
    rw [World.cell?_setCell_same' w _ _ (by rw [h1]; rfl), List.getElem_set_self]
  · have hne : (⟨g, j, none⟩ : Addr) ≠ ⟨g, i, none⟩ := by
      intro c
      cases c
      exact e rfl
    rw [World.cell?_setCell_other w _ _ _ hne, h1, List.getElem_set_ne (by omega)]
theorem hasRow.below {w w' : World} {g : Nat} {l : List UInt8} (h : hasRow w g l) (hg : g < w.heap.size) (hb : Below w.heap.size w w') : hasRow w' g l := by
  intro j hj
  obtain ⟨h1, h2⟩ := h j hj
  exact ⟨(hb.cell hg).trans h1, (hb.frozen hg).trans h2⟩
theorem hasRow_bytes (w : World) (e : TypeId) (s : ByteArray) : hasRow (Lib.bytesWorld w e s) w.heap.size s.data.toList := by
  intro j hj
  have hj' : j < s.size := by simpa using hj
  refine ⟨?_, ?_⟩
  · rw [Lib.bytesWorld_cell w e s j hj']
    simp [List.getD, List.getElem?_eq_getElem hj]
  · have h := Lib.bytesWorld_at_new w e s
    unfold World.frozen?
    simp only [h]
    simp [Lib.bytesCells]
    omega
theorem below_bytes (w : World) (e : TypeId) (s : ByteArray) : Below w.heap.size w (Lib.bytesWorld w e s) :=
  ⟨rfl, rfl, rfl, by rw [Lib.bytesWorld_size]; omega, fun k hk => Lib.bytesWorld_at_old w e s k hk⟩
/-- 'string(b)' at such a row. -/
theorem run_str_row {P : Program} (w : World) (src dst e : TypeId) (hs : P.underlying src = some (.slice e)) (he : P.underlying e = some (.int .u8)) (hd : P.underlying dst = some .string)
    (g n cap : Nat) (l : List UInt8) (hn : l.length = n) (h : hasRow w g l) : (convert src dst (.slice (some ⟨g, 0, none⟩) n cap)).run P w = .ok (.string ⟨l.toArray⟩) w := by
  subst hn
  refine run_convert_bytes_back w src dst e ⟨g, 0, none⟩ cap l hs he hd fun j hj => ?_
  have e1 : (⟨g, 0, none⟩ : Addr).add j = ⟨g, j, none⟩ := by unfold Addr.add; split <;> simp_all
  rw [e1]
  exact (h j hj).1

/-- A callee that leaves the world as it is, in a region that draws its order. -/
theorem quiet_same {P : Program} {f : FuncId} {args : Array Value} {w : World} {n : Nat} {v : Value}
    (h : Calls P f args (w.drewN n) fun e w' => e = .returned v ∧ w.drewN n = w') : Calls P f args (w.drewN n) fun e w'' => e = .returned v ∧ ∃ m, w'' = w.drewN m :=
  h.mono fun _ _ ⟨he, hm⟩ => ⟨he, n, hm.symm⟩

/-! ### arrays of integers that come in -/
theorem mapM_each {α β : Type} {f : α → Option β} : ∀ (L : List α) {r : List β}, L.mapM f = some r → ∀ x ∈ L, ∃ y, f x = some y
  | [], _, _, x, hx => by simp at hx
  | a :: L, r, h, x, hx => by
    rw [List.mapM_cons] at h
    simp only [bind, Option.bind_eq_some_iff, pure, Option.some.injEq] at h
    obtain ⟨y, hy, ys, hys, _⟩ := h
    rcases List.mem_cons.1 hx with rfl | hx
    · exact ⟨y, hy⟩
    · exact mapM_each L hys x hx
theorem open_arrN {H : Type} {enc : TypeId × Value → H} {P : Program} {W : World} {base : Nat} {sp : Nat → Bool} {held : Bool} {t e : TypeId} {n : Nat} {k : IntKind} {r : Reach} {b0 : Nat} {v : Value} {d : DataW H} {ps : List MemPlace}
    (ht : P.underlying t = some (.array n e)) (he : P.underlying e = some (.int k)) (h1 : P.cellsOf e = 1) (hs : P.cellsOf t = n)
    (hval : Value.okWide P W r b0 t v) (hd : DataW.Trod enc P W base sp held t v d ps) :
    ∃ zs : List Int, zs.length = n ∧ v = .agg (zs.map (Value.int k)).toArray ∧ ∀ z ∈ zs, (Lit.int k z).wf = true := by
  simp only [Value.okWide, ht] at hval
  obtain ⟨cs, rfl, h2, _⟩ := hval
  rw [hs] at h2
  obtain ⟨fuel, hf⟩ := hd
  cases fuel with
  | zero => simp [DataW.trod] at hf
  | succ m =>
    rw [DataW.trod_step] at hf
    unfold DataW.trodStep at hf
    simp only [ht, Value.cells] at hf
    rw [if_pos (by rw [hs]; simpa using h2)] at hf
    simp only [Option.map_eq_some_iff] at hf
    obtain ⟨ys, hy, _⟩ := hf
    have hall : ∀ i (hi : i < n), ∃ z, cs[i]'(by omega) = .int k z ∧ (Lit.int k z).wf = true := by
      intro i hi
      obtain ⟨y, hy'⟩ := mapM_each _ hy i (by simpa using hi)
      obtain ⟨z, ez, _, wz⟩ := DataW.trod_int he hy'
      rw [h1, Nat.mul_one] at ez
      refine ⟨z, ?_, wz⟩
      have e2 := congrArg (fun l : List Value => l[0]?) ez
      simp only [List.getElem?_take, List.getElem?_drop, Nat.add_zero] at e2
      rw [if_pos (by omega), Array.getElem?_toList, Array.getElem?_eq_getElem (by omega)] at e2
      simpa using e2
    refine ⟨cs.toList.map intOf, by simpa using h2, ?_, ?_⟩
    · congr 1
      apply Array.ext
      · simp
      · intro i hi1 hi2
        obtain ⟨z, ez, _⟩ := hall i (by omega)
        simp [ez, intOf]
    · intro z hz
      obtain ⟨v, hv, rfl⟩ := List.mem_map.1 hz
      obtain ⟨i, hi, rfl⟩ := List.getElem_of_mem hv
      obtain ⟨z, ez, wz⟩ := hall i (by simpa [h2] using hi)
      simpa [ez, intOf] using wz
theorem u8_of_wf {z : Int} (h : (Lit.int .u8 z).wf = true) : ∃ b : UInt8, z = (b.toNat : Int) := by
  have h' : 0 ≤ z ∧ z ≤ 255 := by simpa [Lit.wf, IntKind.min, IntKind.max, IntKind.bits, IntKind.signed] using h
  refine ⟨UInt8.ofNat z.toNat, ?_⟩
  rw [UInt8.toNat_ofNat']
  omega
/-- [4]byte. -/
theorem open_by4 {H : Type} {enc : TypeId × Value → H} {P : Program} {W : World} {base : Nat} {sp : Nat → Bool} {held : Bool} {t e : TypeId} {r : Reach} {b0 : Nat} {v : Value} {d : DataW H} {ps : List MemPlace}
    (ht : P.underlying t = some (.array 4 e)) (he : P.underlying e = some (.int .u8)) (h1 : P.cellsOf e = 1) (hs : P.cellsOf t = 4)
    (hval : Value.okWide P W r b0 t v) (hd : DataW.Trod enc P W base sp held t v d ps) :
    ∃ a b c d : UInt8, v = .agg #[.int .u8 (a.toNat : Int), .int .u8 (b.toNat : Int), .int .u8 (c.toNat : Int), .int .u8 (d.toNat : Int)] := by
  obtain ⟨zs, hl, hv, hw⟩ := open_arrN ht he h1 hs hval hd
  match zs, hl, hv, hw with
  | [x, y, z, u], _, hv, hw =>
    obtain ⟨a, rfl⟩ := u8_of_wf (hw x (by simp))
    obtain ⟨b, rfl⟩ := u8_of_wf (hw y (by simp))
    obtain ⟨c, rfl⟩ := u8_of_wf (hw z (by simp))
    obtain ⟨d, rfl⟩ := u8_of_wf (hw u (by simp))
    exact ⟨a, b, c, d, by simpa using hv⟩
theorem hasRow_box (w : World) (t : TypeId) (y0 y1 y2 y3 : UInt8) (Y : List UInt8) (hY : Y = [y0, y1, y2, y3]) :
    hasRow (w.alloc (.cells #[.int .u8 (y0.toNat : Int), .int .u8 (y1.toNat : Int), .int .u8 (y2.toNat : Int), .int .u8 (y3.toNat : Int)] t)) w.heap.size Y := by
  subst hY
  intro j hj
  have hj' : j < 4 := hj
  refine ⟨?_, by unfold World.frozen?; simp only [heap_alloc_new]; simp⟩
  have e : j = 0 ∨ j = 1 ∨ j = 2 ∨ j = 3 := by omega
  rcases e with rfl | rfl | rfl | rfl <;> simp
end Go.Proofs.Ytdnhmkfgcpdbkaa
