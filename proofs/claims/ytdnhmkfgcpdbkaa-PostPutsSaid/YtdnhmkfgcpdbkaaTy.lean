/-
  Layer 16 (post): the contract of Take. Conditions: as each says.
-/
import Derived.Test.YtdnhmkfgcpdbkaaTt
import Derived.Test.YtdnhmkfgcpdbkaaTq
import Derived.Test.YtdnhmkfgcpdbkaaA3
import Derived.Deep.MidRow
namespace Go.Proofs.Ytdnhmkfgcpdbkaa
open Go.RowKit
set_option linter.unusedVariables false
set_option linter.unusedSimpArgs false

def zM : Mg := ⟨[.n 1 15 0, .n 0 maxN 0, .n 0 maxN 0, .n 0 maxN 0, .n 0 maxN 0, .n 0 maxN 0, .n 0 maxN 0, .f false], [.n 0 maxN 0, .t ⟨#[]⟩, .t ⟨#[]⟩, .t ⟨#[]⟩, .f false], [], [.t ⟨#[]⟩, .t ⟨#[]⟩, .n 0 maxN 0], [.n 0 maxN 0, .t ⟨#[]⟩, .f false], [], [.t ⟨#[]⟩], [], [], []⟩
/-- A slice, and what it leads to. -/
def LRv (w : World) (sz : Nat) (sv : Value) (L : List (List Fld)) : Prop := ∃ a n c, sv = .slice a n c ∧ L.length = n ∧ (L = [] ∨ ∃ rb ro, a = some ⟨rb, ro, none⟩ ∧ rb < w.heap.size ∧ RowAt w rb ro sz L)
theorem LRv.old {w w' : World} {sz : Nat} {sv : Value} {L : List (List Fld)} (h : LRv w sz sv L) (hb : Below w.heap.size w w') : LRv w' sz sv L := by
  obtain ⟨a, n, c, h1, h2, h5⟩ := h
  refine ⟨a, n, c, h1, h2, ?_⟩
  rcases h5 with h5 | ⟨rb, ro, h5, h6, h7⟩
  · exact .inl h5
  · exact .inr ⟨rb, ro, h5, Nat.lt_of_lt_of_le h6 hb.size, fun i hi j hj => (hb.cell (p := ⟨rb, _, none⟩) h6).trans (h7 i hi j hj)⟩
theorem LRd.v {w : World} {sz : Nat} {sv : Value} {L : List (List Fld)} (h : LRd w sz sv L) : LRv w sz sv L := by
  obtain ⟨a, n, c, h1, h2, _, h5⟩ := h
  exact ⟨a, n, c, h1, h2, h5⟩
theorem LRv.d {w : World} {sz : Nat} {sv : Value} {L : List (List Fld)} (h : LRv w sz sv L) (hl : L.length ≤ maxLen) : LRd w sz sv L := by
  obtain ⟨a, n, c, h1, h2, h5⟩ := h
  exact ⟨a, n, c, h1, h2, by omega, h5⟩
/-- What LRow has, where the block x alone has been stored to behind it. -/
theorem LRow.v {G : Prop} {b B : Nat} {w w' : World} {p sz x : Nat} {sv : Value} {L : List (List Fld)} {vs : List Value} (h : LRow G b B w p sz sv L) (hx : ∀ rb, Loc G b B w rb → rb ≠ p → rb ≠ x) (hb : Below w.heap.size (w.setCells x 0 vs) w') : LRv w' sz sv L := by
  obtain ⟨a, n, c, h1, h2, h5⟩ := h
  refine ⟨a, n, c, h1, h2, ?_⟩
  rcases h5 with h5 | ⟨rb, ro, h5, h6, h7, h8⟩
  · exact .inl h5
  · refine .inr ⟨rb, ro, h5, Nat.lt_of_lt_of_le h6.2.1 (by have := hb.size; rw [sets_size] at this; exact this), fun i hi j hj => ?_⟩
    rw [hb.cell (p := ⟨rb, _, none⟩) h6.2.1]
    exact (h8 i hi).out (.inl (hx rb h6 h7)) j hj
def TKr (s : ByteArray) : (Bool × ByteArray) × Mg := msgW takesW (false, s) zM
def tkOk (s : ByteArray) : Bool := !(TKr s).1.1 && (decide ((TKr s).1.2.size = 4) && CR.chk s.data.toList)
def TkP (s : ByteArray) (w : World) (e : Ending) (w' : World) : Prop := Below w.heap.size w w' ∧
  ((tkOk s = false ∧ e = .returned (.tuple #[.agg #[.int .i64 0, .int .i64 0, .int .i64 0, .int .i64 0, .int .i64 0, .int .i64 0, .int .i64 0, .bool false, .int .i64 0, .string ⟨#[]⟩, .string ⟨#[]⟩, .string ⟨#[]⟩, .bool false, .slice none 0 0, .string ⟨#[]⟩, .string ⟨#[]⟩, .int .i64 0, .int .i64 0, .string ⟨#[]⟩, .bool false, .slice none 0 0, .string ⟨#[]⟩, .slice none 0 0, .slice none 0 0, .slice none 0 0], .int .i64 160])) ∨
   (tkOk s = true ∧ ∃ u1 u2 u3 u4 u5, e = .returned (.tuple #[.agg (mcells (TKr s).2 u1 u2 u3 u4 u5).toArray, .int .i64 0]) ∧ LRv w' 3 u1 (TKr s).2.OW ∧ LRv w' 2 u2 (TKr s).2.RP ∧ LRv w' 6 u3 (TKr s).2.MP ∧ LRv w' 4 u4 (TKr s).2.EN ∧ LRv w' 7 u5 (TKr s).2.SE))
theorem Try.sizeMsg : (Try.prog.info? 35).map (·.size) = some 25 := by kernel_rfl
theorem take_res (tmps : Array Value) (w : World) (x : Nat) (VL : List Value) (E : Int) (h : w.rangeAt x 0 VL) (hl : VL.length = 25) (h2 : tmps.getD 2 undef = .pointer (some ⟨x, 0, none⟩)) (h3 : tmps.getD 3 undef = .int .i64 E) :
    (results Try.f14 tmps).run Try.prog w = .ok (.tuple #[.agg VL.toArray, .int .i64 E]) w := by
  have hl := run_loadVar_mid (P := Try.prog) w x 0 35 VL _ h Try.underlying35 rfl (by rw [Try.sizeMsg, hl])
  rw [Array.getD_eq_getD_getElem?] at h2 h3
  simp [results, Try.results14, asAddr, hl, h2, h3]
theorem mcells_len {s : Bool × ByteArray} (u1 u2 u3 u4 u5 : Value) : (mcells (msgW takesW s zM).2 u1 u2 u3 u4 u5).length = 25 := by
  unfold mcells msgW segW
  simp only [List.length_append, List.length_map, List.length_cons, List.length_nil, elemW_len]
  rfl
theorem mcells_one {s : Bool × ByteArray} (u1 u2 u3 u4 u5 : Value) (h : ∀ v ∈ [u1, u2, u3, u4, u5], v.oneCell' = true) : ∀ v ∈ mcells (msgW takesW s zM).2 u1 u2 u3 u4 u5, v.oneCell' = true := by
  have hF : ∀ (F : List Fld) (s : Bool × ByteArray), (∀ x ∈ F, ∀ v, x ≠ .r v) → ∀ v ∈ (elemW takesW s F).2.map Fld.cell, v.oneCell' = true := by
    intro F
    induction F with
    | nil => intro s _ v hv; simp [elemW, stepsW] at hv
    | cons x r ih =>
      intro s hx v hv
      have e : (elemW takesW s (x :: r)).2 = (stepF takesW s x).2 :: (elemW takesW (stepF takesW s x).1 r).2 := rfl
      rw [e, List.map_cons, List.mem_cons] at hv
      rcases hv with rfl | hv
      · cases x with
        | n lo hi x => rfl
        | t x => rfl
        | f x => rfl
        | r v => exact absurd rfl (hx _ (by simp) v)
      · exact ih _ (fun y hy => hx y (by simp [hy])) v hv
  have hn : ∀ x ∈ zM.A ++ zM.OA ++ zM.OC ++ zM.RA ++ zM.RC, ∀ v, x ≠ Fld.r v := by
    intro x hx v e
    subst e
    simp [zM] at hx
  intro v hv
  unfold mcells msgW segW at hv
  simp only [List.mem_append, List.mem_cons, List.not_mem_nil, or_false] at hv
  have hn' : ∀ (F : List Fld), (∀ x ∈ F, x ∈ zM.A ++ zM.OA ++ zM.OC ++ zM.RA ++ zM.RC) → ∀ x ∈ F, ∀ v, x ≠ Fld.r v := fun F hF x hx => hn x (hF x hx)
  rcases hv with hv | (hv | rfl | hv) | (hv | rfl | hv) | rfl | rfl | rfl
  · exact hF _ _ (hn' _ (fun x hx => by simp [hx])) v hv
  · exact hF _ _ (hn' _ (fun x hx => by simp [hx])) v hv
  · exact h _ (by simp)
  · exact hF _ _ (hn' _ (fun x hx => by simp [hx])) v hv
  · exact hF _ _ (hn' _ (fun x hx => by simp [hx])) v hv
  · exact h _ (by simp)
  · exact hF _ _ (hn' _ (fun x hx => by simp [hx])) v hv
  · exact h _ (by simp)
  · exact h _ (by simp)
  · exact h _ (by simp)
theorem heap_sets (x p : Nat) (hx : x ≠ p) : ∀ (vs : List Value) (o : Nat) (w : World), (w.setCells p o vs).heap[x]? = w.heap[x]?
  | [], _, _ => rfl
  | v :: r, o, w => (heap_sets x p hx r (o + 1) _).trans (Below.heap_setCell w ⟨p, o, none⟩ v x hx)
theorem wpList_val {P : Program} {ops : Array Oper} {rest : List Oper} {op : Oper} {a : Act} {w : World} {Q : Exit → Act → World → Prop} (hgd : op.guard = none) (v : Value) (h : (execOp a.eval op).run P w = .ok (.value v) w) (h2 : wpList P ops Q rest (a.put op.dst v) w) : wpList P ops Q (op :: rest) a w :=
  wpList_plain hgd fun _ hK => by
    unfold Oper.wp
    rw [h]
    exact hK _ _ h2
theorem there_heap {w : World} {x n : Nat} {cs : Array Value} {T : TypeId} (h : w.heap[x]? = some (.cells cs T (0, 0))) (hn : cs.size = n) : w.there x 0 n := fun j hj => by
  refine ⟨?_, ?_⟩
  · unfold World.cell?
    simp only [h, Nat.zero_add]
    simp [hn, hj]
  · unfold World.frozen?
    simp [h]
set_option maxRecDepth 100000 in
set_option maxHeartbeats 4000000 in
theorem take16_any (s : ByteArray) (w : World) (hs : s.size ≤ 140737488351232) : Calls Try.prog 14 #[.string s] w (TkP s w) := by
  obtain ⟨q, hq⟩ : ∃ q, q = tkOk s := ⟨_, rfl⟩
  obtain ⟨⟨g, r⟩, hgr⟩ : ∃ t, t = (TKr s).1 := ⟨_, rfl⟩
  have hq2 : q = (!g && (decide (r.size = 4) && CR.chk s.data.toList)) := by rw [hq]; unfold tkOk; rw [← hgr]
  obtain ⟨zs, hzs⟩ : ∃ zs : Array Value, zs = #[.int .i64 0, .int .i64 0, .int .i64 0, .int .i64 0, .int .i64 0, .int .i64 0, .int .i64 0, .bool false, .int .i64 0, .string ⟨#[]⟩, .string ⟨#[]⟩, .string ⟨#[]⟩, .bool false, .slice none 0 0, .string ⟨#[]⟩, .string ⟨#[]⟩, .int .i64 0, .int .i64 0, .string ⟨#[]⟩, .bool false, .slice none 0 0, .string ⟨#[]⟩, .slice none 0 0, .slice none 0 0, .slice none 0 0] := ⟨_, rfl⟩
  have hzl : zs.size = 25 := by rw [hzs]; rfl
  obtain ⟨rb, hrb⟩ : ∃ x, x = w.heap.size := ⟨_, rfl⟩
  obtain ⟨mb, hmb⟩ : ∃ x, x = w.heap.size + 1 := ⟨_, rfl⟩
  obtain ⟨tb, htb⟩ : ∃ x, x = w.heap.size + 2 := ⟨_, rfl⟩
  obtain ⟨W1, hW1⟩ : ∃ W, W = ((w.alloc (.cells #[.int .i64 0, .int .i64 0, .int .i64 0, .int .i64 0, .int .i64 0, .int .i64 0, .int .i64 0, .bool false, .int .i64 0, .string ⟨#[]⟩, .string ⟨#[]⟩, .string ⟨#[]⟩, .bool false, .slice none 0 0, .string ⟨#[]⟩, .string ⟨#[]⟩, .int .i64 0, .int .i64 0, .string ⟨#[]⟩, .bool false, .slice none 0 0, .string ⟨#[]⟩, .slice none 0 0, .slice none 0 0, .slice none 0 0] 35)).alloc (.cells #[.int .i64 0, .int .i64 0, .int .i64 0, .int .i64 0, .int .i64 0, .int .i64 0, .int .i64 0, .bool false, .int .i64 0, .string ⟨#[]⟩, .string ⟨#[]⟩, .string ⟨#[]⟩, .bool false, .slice none 0 0, .string ⟨#[]⟩, .string ⟨#[]⟩, .int .i64 0, .int .i64 0, .string ⟨#[]⟩, .bool false, .slice none 0 0, .string ⟨#[]⟩, .slice none 0 0, .slice none 0 0, .slice none 0 0] 35)).alloc (.cells #[.bool false, .string s] 76) := ⟨_, rfl⟩
  have s1 : (w.alloc (.cells #[.int .i64 0, .int .i64 0, .int .i64 0, .int .i64 0, .int .i64 0, .int .i64 0, .int .i64 0, .bool false, .int .i64 0, .string ⟨#[]⟩, .string ⟨#[]⟩, .string ⟨#[]⟩, .bool false, .slice none 0 0, .string ⟨#[]⟩, .string ⟨#[]⟩, .int .i64 0, .int .i64 0, .string ⟨#[]⟩, .bool false, .slice none 0 0, .string ⟨#[]⟩, .slice none 0 0, .slice none 0 0, .slice none 0 0] 35)).heap.size = w.heap.size + 1 := by simp
  have s2 : ((w.alloc (.cells #[.int .i64 0, .int .i64 0, .int .i64 0, .int .i64 0, .int .i64 0, .int .i64 0, .int .i64 0, .bool false, .int .i64 0, .string ⟨#[]⟩, .string ⟨#[]⟩, .string ⟨#[]⟩, .bool false, .slice none 0 0, .string ⟨#[]⟩, .string ⟨#[]⟩, .int .i64 0, .int .i64 0, .string ⟨#[]⟩, .bool false, .slice none 0 0, .string ⟨#[]⟩, .slice none 0 0, .slice none 0 0, .slice none 0 0] 35)).alloc (.cells #[.int .i64 0, .int .i64 0, .int .i64 0, .int .i64 0, .int .i64 0, .int .i64 0, .int .i64 0, .bool false, .int .i64 0, .string ⟨#[]⟩, .string ⟨#[]⟩, .string ⟨#[]⟩, .bool false, .slice none 0 0, .string ⟨#[]⟩, .string ⟨#[]⟩, .int .i64 0, .int .i64 0, .string ⟨#[]⟩, .bool false, .slice none 0 0, .string ⟨#[]⟩, .slice none 0 0, .slice none 0 0, .slice none 0 0] 35)).heap.size = w.heap.size + 2 := by simp
  have s3 : W1.heap.size = w.heap.size + 3 := by rw [hW1]; simp
  have b1 : Below w.heap.size w (w.alloc (.cells #[.int .i64 0, .int .i64 0, .int .i64 0, .int .i64 0, .int .i64 0, .int .i64 0, .int .i64 0, .bool false, .int .i64 0, .string ⟨#[]⟩, .string ⟨#[]⟩, .string ⟨#[]⟩, .bool false, .slice none 0 0, .string ⟨#[]⟩, .string ⟨#[]⟩, .int .i64 0, .int .i64 0, .string ⟨#[]⟩, .bool false, .slice none 0 0, .string ⟨#[]⟩, .slice none 0 0, .slice none 0 0, .slice none 0 0] 35)) := (Below.refl _ w).alloc (Nat.le_refl _) _
  have b2 := b1.alloc (by rw [s1]; omega) (.cells #[.int .i64 0, .int .i64 0, .int .i64 0, .int .i64 0, .int .i64 0, .int .i64 0, .int .i64 0, .bool false, .int .i64 0, .string ⟨#[]⟩, .string ⟨#[]⟩, .string ⟨#[]⟩, .bool false, .slice none 0 0, .string ⟨#[]⟩, .string ⟨#[]⟩, .int .i64 0, .int .i64 0, .string ⟨#[]⟩, .bool false, .slice none 0 0, .string ⟨#[]⟩, .slice none 0 0, .slice none 0 0, .slice none 0 0] 35)
  have b3 : Below w.heap.size w W1 := by rw [hW1]; exact b2.alloc (by rw [s2]; omega) _
  have hr1 : W1.heap[rb]? = some (.cells zs 35 (0, 0)) := by
    rw [hW1, hrb, Below.heap_alloc _ _ _ (by rw [s2]; omega), Below.heap_alloc _ _ _ (by rw [s1]; omega), hzs]
    exact heap_alloc_new w _
  have hm1 : W1.heap[mb]? = some (.cells zs 35 (0, 0)) := by
    have := heap_alloc_new (w.alloc (.cells #[.int .i64 0, .int .i64 0, .int .i64 0, .int .i64 0, .int .i64 0, .int .i64 0, .int .i64 0, .bool false, .int .i64 0, .string ⟨#[]⟩, .string ⟨#[]⟩, .string ⟨#[]⟩, .bool false, .slice none 0 0, .string ⟨#[]⟩, .string ⟨#[]⟩, .int .i64 0, .int .i64 0, .string ⟨#[]⟩, .bool false, .slice none 0 0, .string ⟨#[]⟩, .slice none 0 0, .slice none 0 0, .slice none 0 0] 35)) (.cells #[.int .i64 0, .int .i64 0, .int .i64 0, .int .i64 0, .int .i64 0, .int .i64 0, .int .i64 0, .bool false, .int .i64 0, .string ⟨#[]⟩, .string ⟨#[]⟩, .string ⟨#[]⟩, .bool false, .slice none 0 0, .string ⟨#[]⟩, .string ⟨#[]⟩, .int .i64 0, .int .i64 0, .string ⟨#[]⟩, .bool false, .slice none 0 0, .string ⟨#[]⟩, .slice none 0 0, .slice none 0 0, .slice none 0 0] 35)
    rw [s1] at this
    rw [hW1, hmb, Below.heap_alloc _ _ _ (by rw [s2]; omega), hzs]
    exact this
  have ht1 : W1.heap[tb]? = some (.cells #[.bool false, .string s] 76 (0, 0)) := by
    have := heap_alloc_new ((w.alloc (.cells #[.int .i64 0, .int .i64 0, .int .i64 0, .int .i64 0, .int .i64 0, .int .i64 0, .int .i64 0, .bool false, .int .i64 0, .string ⟨#[]⟩, .string ⟨#[]⟩, .string ⟨#[]⟩, .bool false, .slice none 0 0, .string ⟨#[]⟩, .string ⟨#[]⟩, .int .i64 0, .int .i64 0, .string ⟨#[]⟩, .bool false, .slice none 0 0, .string ⟨#[]⟩, .slice none 0 0, .slice none 0 0, .slice none 0 0] 35)).alloc (.cells #[.int .i64 0, .int .i64 0, .int .i64 0, .int .i64 0, .int .i64 0, .int .i64 0, .int .i64 0, .bool false, .int .i64 0, .string ⟨#[]⟩, .string ⟨#[]⟩, .string ⟨#[]⟩, .bool false, .slice none 0 0, .string ⟨#[]⟩, .string ⟨#[]⟩, .int .i64 0, .int .i64 0, .string ⟨#[]⟩, .bool false, .slice none 0 0, .string ⟨#[]⟩, .slice none 0 0, .slice none 0 0, .slice none 0 0] 35)) (.cells #[.bool false, .string s] 76)
    rw [s2] at this
    rw [hW1, htb]
    exact this
  have hat : AtT tb (w.heap.size + 1) W1 (false, s) := by
    refine ⟨?_, ?_, ?_, ?_, by omega, by omega, hs⟩
    · unfold World.cell?; simp [ht1]
    · unfold World.cell?; simp [ht1]
    · unfold World.frozen?; simp [ht1]
    · unfold World.frozen?; simp [ht1]
  have hlm : Loc False tb (w.heap.size + 1) W1 mb := ⟨by omega, by omega, .inr ⟨by omega, zs, _, hm1, by decide⟩⟩
  have hfa : FAt W1 mb 0 (mflds zM (.slice none 0 0) (.slice none 0 0) (.slice none 0 0) (.slice none 0 0) (.slice none 0 0)) := by
    intro i hi
    have e : zs.toList = (mflds zM (.slice none 0 0) (.slice none 0 0) (.slice none 0 0) (.slice none 0 0) (.slice none 0 0)).map Fld.cell := by rw [hzs]; rfl
    unfold World.cell?
    simp only [hm1, Nat.zero_add]
    rw [← Array.getElem?_toList, e]
    simp [hi]
  have hnil : ∀ sz, LRow False tb (w.heap.size + 1) W1 mb sz (.slice none 0 0) [] := fun sz => ⟨none, 0, 0, rfl, rfl, .inl rfl⟩
  have HM := Lib.hid (tmsg_any (takes_way tb (w.heap.size + 1) (by omega)) W1 (false, s) mb 0 0 0 0 0 0 0 0 false 0 ⟨#[]⟩ ⟨#[]⟩ ⟨#[]⟩ false [] ⟨#[]⟩ ⟨#[]⟩ 0 0 ⟨#[]⟩ false [] ⟨#[]⟩ [] [] [] (.slice none 0 0) (.slice none 0 0) (.slice none 0 0) (.slice none 0 0) (.slice none 0 0) hat hlm hfa (hnil 3) (fun x hx => by simp at hx) (.inr rfl) (Nat.zero_le _) (hnil 2) (fun x hx => by simp at hx) (.inr rfl) (Nat.zero_le _) (hnil 6) (fun x hx => by simp at hx) (.inr rfl) (Nat.zero_le _) (hnil 4) (fun x hx => by simp at hx) (.inr rfl) (Nat.zero_le _) (hnil 7) (fun x hx => by simp at hx) (.inr rfl) (Nat.zero_le _) trivial)
  have HM2 : Hid (Calls Try.prog 17 #[.iface 74 (.pointer (some ⟨tb, 0, none⟩)), .pointer (some ⟨mb, 0, none⟩)] W1 fun e w' => e = .returned (.tuple #[]) ∧ MPost (AtT tb (w.heap.size + 1)) False tb (w.heap.size + 1) W1 mb 0 (TKr s) w') := HM
  have HX := Lib.hid (And.intro hrb (And.intro hmb htb))
  have HB := Lib.hid b3
  have HLM := Lib.hid hlm
  have HFA := Lib.hid hfa
  have HR1 := Lib.hid hr1
  have HZ := Lib.hid (And.intro hzs hzl)
  have HQ := Lib.hid (And.intro hq hq2)
  have HGR := Lib.hid hgr
  clear HM hrb hmb htb b1 b2 b3 s1 s2 s3 hlm hfa hr1 hm1 ht1 hat hnil hzs hzl hq hq2 hgr
  go_enter Try.func14, Try.ntmps14
  go_upto_region 3 with fail
  rw [← hW1]
  rw [show w.heap.size + 1 + 1 = tb from HX.out.2.2.symm, show w.heap.size + 1 = mb from HX.out.2.1.symm, show w.heap.size = rb from HX.out.1.symm]
  clear hW1
  go_wp2_with fail
  refine HM2.out.mono ?_
  rintro e w2 ⟨rfl, u1, u2, u3, u4, u5, p1, p2, p3, p4, p5, p6, p7⟩
  rw [← HGR.out] at p1
  obtain ⟨vs, hvl, hvs, pk⟩ : ∃ vs : List Value, vs.length = 25 ∧ vs = mcells (TKr s).2 u1 u2 u3 u4 u5 ∧ KB tb (w.heap.size + 1) (W1.setCells mb 0 vs) w2 := ⟨_, mcells_len u1 u2 u3 u4 u5, rfl, p2⟩
  have hxs := HX.out
  have hr2 : w2.heap[rb]? = some (.cells zs 35 (0, 0)) := by
    rw [pk.l.block rb (by omega), heap_sets rb mb (by omega)]
    exact HR1.out
  have HRG : Hid (w2.rangeAt mb 0 vs) := Lib.hid (fun j v hj => by
    rw [Nat.zero_add, (Loc.sets mb vs 0 W1 HLM.out).cell pk]
    exact sets_at HFA.out (by rw [hvl]; rfl) hj)
  have HB2 : Hid (Below w.heap.size w w2) := Lib.hid ((below_sets vs 0 W1 HB.out (by omega)).trans (pk.l.mono (by omega)))
  have HH2 := Lib.hid hr2
  have hrl : rb < w2.heap.size := heap_lt hr2
  have hml : mb < w2.heap.size := ((Loc.sets mb vs 0 W1 HLM.out).keep pk).2.1
  obtain ⟨a0, a1, a2, a3, a4, a5, a6⟩ := p1
  simp only at a0 a1
  have HV := Lib.hid (And.intro hvl hvs)
  have HRW := Lib.hid (And.intro p3 (And.intro p4 (And.intro p5 (And.intro p6 p7))))
  have HCK := Lib.hid (CR.check_code s w2 hs)
  obtain ⟨ck, hck⟩ : ∃ c, c = CR.chk s.data.toList := ⟨_, rfl⟩
  rw [← hck] at HCK HQ
  have HS1 : Hid ((Try.prog.info? 35).map (·.size) = some (#[.int .i64 0, .int .i64 0, .int .i64 0, .int .i64 0, .int .i64 0, .int .i64 0, .int .i64 0, .bool false, .int .i64 0, .string ⟨#[]⟩, .string ⟨#[]⟩, .string ⟨#[]⟩, .bool false, .slice none 0 0, .string ⟨#[]⟩, .string ⟨#[]⟩, .int .i64 0, .int .i64 0, .string ⟨#[]⟩, .bool false, .slice none 0 0, .string ⟨#[]⟩, .slice none 0 0, .slice none 0 0, .slice none 0 0] : Array Value).size ∧ (Try.prog.info? 35).map (·.size) = some vs.length ∧ (Try.prog.info? 35).map (·.size) = some vs.toArray.size) := Lib.hid ⟨Try.sizeMsg, by rw [hvl]; exact Try.sizeMsg, by rw [List.size_toArray, hvl]; exact Try.sizeMsg⟩
  have HLE : Hid (w.heap.size ≤ rb) := Lib.hid (by omega)
  have HXS := Lib.hid hxs
  clear p2 p3 p4 p5 p6 p7 hvl hvs pk hr2 hxs hck HM2 HB HFA HLM HR1 HX HGR
  have hbad : ∀ (W : World), Hid (Below w2.heap.size w2 W) → Hid (W.heap[rb]? = some (.cells zs 35 (0, 0))) := fun W hW => Lib.hid ((hW.out.block rb hrl).trans HH2.out)
  have HBAD := Lib.hid hbad
  clear hbad
  cases g with
  | true =>
    have HQF : Hid (tkOk s = false) := Lib.hid (by rw [← HQ.out.1, HQ.out.2]; rfl)
    have HTH : Hid (w2.there rb 0 25) := Lib.hid (there_heap HH2.out HZ.out.2)
    go_upto_region 5 with fail
    go_wp2_with (generalize hG : wpList _ _ _ _ _ _ = GG)
    rw [← hG]
    clear hG
    refine wpList_val rfl (.agg zs) (by rw [HZ.out.1]; kernel_rfl) ?_
    refine wpList_store_mid rfl 35 (.tmp 2) (.tmp 30) rfl rb 0 zs rfl rfl (by rw [HZ.out.2]; exact HTH.out) (by rw [HZ.out.2]; exact Try.sizeMsg) (by rw [HZ.out.1]; kernel_rfl) ?_
    go_wp2_with fail
    refine bodyPost_ret (v := .tuple #[.agg zs, .int .i64 160]) ?_ rfl ⟨below_sets _ _ _ HB2.out HLE.out, .inl ⟨HQF.out, by rw [HZ.out.1]⟩⟩
    exact take_res _ _ rb zs.toList 160 (World.rangeAt_setCells_same _ _ _ _ (by rw [Array.length_toList, HZ.out.2]; exact HTH.out)) (by rw [Array.length_toList, HZ.out.2]) rfl rfl
  | false =>
    by_cases h4 : r.size = 4
    case neg =>
      have h4i : ¬ (r.size : Int) = 4 := by omega
      have h4b : ((r.size : Int) != 4) = true := by rw [bne_iff_ne]; exact h4i
      have HQF : Hid (tkOk s = false) := Lib.hid (by rw [← HQ.out.1, HQ.out.2, decide_eq_false h4]; rfl)
      have HTH : Hid (w2.there rb 0 25) := Lib.hid (there_heap HH2.out HZ.out.2)
      go_upto_region 5 with fail
      go_wp2_with (generalize hG : wpList _ _ _ _ _ _ = GG)
      rw [← hG]
      clear hG
      refine wpList_val rfl (.agg zs) (by rw [HZ.out.1]; kernel_rfl) ?_
      refine wpList_store_mid rfl 35 (.tmp 2) (.tmp 30) rfl rb 0 zs rfl rfl (by rw [HZ.out.2]; exact HTH.out) (by rw [HZ.out.2]; exact Try.sizeMsg) (by rw [HZ.out.1]; kernel_rfl) ?_
      go_wp2_with fail
      refine bodyPost_ret (v := .tuple #[.agg zs, .int .i64 160]) ?_ rfl ⟨below_sets _ _ _ HB2.out HLE.out, .inl ⟨HQF.out, by rw [HZ.out.1]⟩⟩
      exact take_res _ _ rb zs.toList 160 (World.rangeAt_setCells_same _ _ _ _ (by rw [Array.length_toList, HZ.out.2]; exact HTH.out)) (by rw [Array.length_toList, HZ.out.2]) rfl rfl
    have h4i : (r.size : Int) = 4 := by omega
    have h4b : ((r.size : Int) != 4) = false := by rw [h4i]; rfl
    have h4c : ((r.size : Int) == 4) = true := by rw [h4i]; rfl
    have HQ2 : Hid (tkOk s = ck) := Lib.hid (by rw [← HQ.out.1, HQ.out.2, decide_eq_true h4]; simp)
    clear h4
    go_wp2_with fail
    refine HCK.out.mono ?_
    rintro e w3 ⟨rfl, hb3⟩
    have HB3 := Lib.hid (HB2.out.trans (hb3.mono HB2.out.size))
    have HTH : Hid (w3.there rb 0 25) := Lib.hid (there_heap (HBAD.out w3 (Lib.hid hb3)).out HZ.out.2)
    have HRG3 : Hid (w3.rangeAt mb 0 vs) := Lib.hid (fun j v hj => (hb3.cell (p := ⟨mb, _, none⟩) hml).trans (HRG.out j v hj))
    have HRW3 : Hid (LRow False tb (w.heap.size + 1) w3 mb 3 u1 (TKr s).2.OW ∧ LRow False tb (w.heap.size + 1) w3 mb 2 u2 (TKr s).2.RP ∧ LRow False tb (w.heap.size + 1) w3 mb 6 u3 (TKr s).2.MP ∧ LRow False tb (w.heap.size + 1) w3 mb 4 u4 (TKr s).2.EN ∧ LRow False tb (w.heap.size + 1) w3 mb 7 u5 (TKr s).2.SE) := Lib.hid (by
      have hk : KB tb (w.heap.size + 1) (w2.setCells mb 0 []) w3 := KB.of hb3 a5
      obtain ⟨r1, r2, r3, r4, r5⟩ := HRW.out
      exact ⟨r1.next hk, r2.next hk, r3.next hk, r4.next hk, r5.next hk⟩)
    clear hb3 HCK
    cases ck with
    | false =>
      have HQF : Hid (tkOk s = false) := HQ2
      go_upto_region 5 with fail
      go_wp2_with (generalize hG : wpList _ _ _ _ _ _ = GG)
      rw [← hG]
      clear hG
      refine wpList_val rfl (.agg zs) (by rw [HZ.out.1]; kernel_rfl) ?_
      refine wpList_store_mid rfl 35 (.tmp 2) (.tmp 30) rfl rb 0 zs rfl rfl (by rw [HZ.out.2]; exact HTH.out) (by rw [HZ.out.2]; exact Try.sizeMsg) (by rw [HZ.out.1]; kernel_rfl) ?_
      go_wp2_with fail
      refine bodyPost_ret (v := .tuple #[.agg zs, .int .i64 160]) ?_ rfl ⟨below_sets _ _ _ HB3.out HLE.out, .inl ⟨HQF.out, by rw [HZ.out.1]⟩⟩
      exact take_res _ _ rb zs.toList 160 (World.rangeAt_setCells_same _ _ _ _ (by rw [Array.length_toList, HZ.out.2]; exact HTH.out)) (by rw [Array.length_toList, HZ.out.2]) rfl rfl
    | true =>
      go_upto_region 6 with fail
      go_wp2_with (generalize hG : wpList _ _ _ _ _ _ = GG)
      rw [← hG]
      clear hG
      refine wpList_load_mid rfl 35 (.tmp 4) rfl mb 0 rfl vs _ HRG3.out Try.underlying35 rfl HS1.out.2.1 ?_
      have hvsz : vs.toArray.size = 25 := by rw [List.size_toArray]; exact HV.out.1
      have hone : (vs.toArray.all (·.oneCell')) = true := all_oneCell_toArray (by
        rw [HV.out.2]
        refine mcells_one u1 u2 u3 u4 u5 ?_
        obtain ⟨⟨_, _, _, e1, _⟩, ⟨_, _, _, e2, _⟩, ⟨_, _, _, e3, _⟩, ⟨_, _, _, e4, _⟩, ⟨_, _, _, e5, _⟩⟩ := HRW3.out
        intro v hv
        simp only [List.mem_cons, List.not_mem_nil, or_false] at hv
        rcases hv with rfl | rfl | rfl | rfl | rfl
        · rw [e1]; rfl
        · rw [e2]; rfl
        · rw [e3]; rfl
        · rw [e4]; rfl
        · rw [e5]; rfl)
      have HON := Lib.hid (And.intro hvsz hone)
      clear hvsz hone
      refine wpList_store_mid rfl 35 (.tmp 2) (.tmp 31) rfl rb 0 vs.toArray rfl rfl (by rw [HON.out.1]; exact HTH.out) HS1.out.2.2 HON.out.2 ?_
      go_wp2_with fail
      refine bodyPost_ret (v := .tuple #[.agg vs.toArray, .int .i64 0]) ?_ rfl ⟨below_sets _ _ _ HB3.out HLE.out, .inr ⟨HQ2.out, u1, u2, u3, u4, u5, by rw [HV.out.2], ?_, ?_, ?_, ?_, ?_⟩⟩
      · exact take_res _ _ rb vs 0 (World.rangeAt_setCells_same _ _ _ _ (by rw [HV.out.1]; exact HTH.out)) HV.out.1 rfl rfl
      · exact HRW3.out.1.v (vs := vs) (x := rb) (fun z hz _ => by have := hz.le id; have := HXS.out; omega) (Below.refl _ _)
      · exact HRW3.out.2.1.v (vs := vs) (x := rb) (fun z hz _ => by have := hz.le id; have := HXS.out; omega) (Below.refl _ _)
      · exact HRW3.out.2.2.1.v (vs := vs) (x := rb) (fun z hz _ => by have := hz.le id; have := HXS.out; omega) (Below.refl _ _)
      · exact HRW3.out.2.2.2.1.v (vs := vs) (x := rb) (fun z hz _ => by have := hz.le id; have := HXS.out; omega) (Below.refl _ _)
      · exact HRW3.out.2.2.2.2.v (vs := vs) (x := rb) (fun z hz _ => by have := hz.le id; have := HXS.out; omega) (Below.refl _ _)
end Go.Proofs.Ytdnhmkfgcpdbkaa
