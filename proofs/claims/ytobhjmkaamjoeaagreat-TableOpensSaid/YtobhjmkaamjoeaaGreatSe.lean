/-
  Layer 4 (span): slices of entries; the contracts of Clip, of the document's own Clip and Same. Conditions: at most 100000 entries, texts within the form's reach.
-/
import Derived.Test.YtobhjmkaamjoeaaGreatSh
import Derived.Test.YtobhjmkaamjoeaaGreatSn
import Derived.Laws.OwnMore
namespace Go.Proofs.YtobhjmkaamjoeaaGreat
open Go.RowKit

/-- An entry: key, value, gone, number. -/
abbrev Ent := ByteArray × ByteArray × Bool × Int
def ev (e : Ent) : List Value := [.string e.1, .string e.2.1, .bool e.2.2.1, .int .i64 e.2.2.2]
def ev4 (es : List Ent) : List Value := es.flatMap ev
theorem ev4_length (es : List Ent) : (ev4 es).length = es.length * 4 := by
  induction es with
  | nil => rfl
  | cons e es ih =>
    show (ev e ++ ev4 es).length = _
    rw [List.length_append, ih, List.length_cons]
    show 4 + _ = _
    omega
theorem ev4_snoc (es : List Ent) (e : Ent) : ev4 es ++ ev e = ev4 (es ++ [e]) := by simp [ev4]
theorem ev4_get (es : List Ent) : ∀ (i : Nat) (h : i < es.length), (ev4 es)[i * 4]? = some (.string es[i].1) ∧ (ev4 es)[i * 4 + 1]? = some (.string es[i].2.1) ∧ (ev4 es)[i * 4 + 2]? = some (.bool es[i].2.2.1) ∧ (ev4 es)[i * 4 + 3]? = some (.int .i64 es[i].2.2.2) := by
  induction es with
  | nil => intro i h; simp at h
  | cons e es ih =>
    intro i h
    have e0 : ev4 (e :: es) = ev e ++ ev4 es := rfl
    rw [e0]
    cases i with
    | zero => simp [ev]
    | succ i =>
      have hi := ih i (by simpa using h)
      have hl : (ev e).length = 4 := rfl
      rw [List.getElem?_append_right (by rw [hl]; omega), List.getElem?_append_right (by rw [hl]; omega), List.getElem?_append_right (by rw [hl]; omega), List.getElem?_append_right (by rw [hl]; omega), hl]
      rw [show (i + 1) * 4 - 4 = i * 4 by omega, show (i + 1) * 4 + 1 - 4 = i * 4 + 1 by omega, show (i + 1) * 4 + 2 - 4 = i * 4 + 2 by omega, show (i + 1) * 4 + 3 - 4 = i * 4 + 3 by omega]
      simpa using hi
theorem ev4_one (es : List Ent) : ∀ u ∈ ev4 es, u.oneCell' = true := by
  intro u hu
  simp only [ev4, List.mem_flatMap, ev, List.mem_cons, List.not_mem_nil, or_false] at hu
  obtain ⟨e, _, rfl | rfl | rfl | rfl⟩ := hu <;> rfl
/-- A slice's first elements are the entries es: its address, if there is one, is plain. -/
def RdE (w : World) (a : Option Addr) (es : List Ent) : Prop :=
  es = [] ∨ ∃ b off, a = some ⟨b, off, none⟩ ∧ b < w.heap.size ∧ ∀ i (h : i < es.length), w.cell? ⟨b, off + i * 4, none⟩ = some (.string es[i].1) ∧ w.cell? ⟨b, off + i * 4 + 1, none⟩ = some (.string es[i].2.1) ∧
    w.cell? ⟨b, off + i * 4 + 2, none⟩ = some (.bool es[i].2.2.1) ∧ w.cell? ⟨b, off + i * 4 + 3, none⟩ = some (.int .i64 es[i].2.2.2)
theorem RdE.old {w w' : World} {a : Option Addr} {es : List Ent} (h : RdE w a es) (hb : Below w.heap.size w w') : RdE w' a es := by
  rcases h with rfl | ⟨b, off, rfl, hlt, hc⟩
  · exact .inl rfl
  · refine .inr ⟨b, off, rfl, Nat.lt_of_lt_of_le hlt hb.size, fun i hi => ?_⟩
    obtain ⟨h0, h1, h2, h3⟩ := hc i hi
    exact ⟨(hb.cell (p := ⟨b, off + i * 4, none⟩) hlt).trans h0, (hb.cell (p := ⟨b, off + i * 4 + 1, none⟩) hlt).trans h1, (hb.cell (p := ⟨b, off + i * 4 + 2, none⟩) hlt).trans h2, (hb.cell (p := ⟨b, off + i * 4 + 3, none⟩) hlt).trans h3⟩
theorem own_form {w : World} {base size n : Nat} {t : TypeId} {v : Value} {xs : List Value} (h : w.ownsRow base t size v n xs) (hs : 0 < size) : ∃ a cap, v = .slice a n cap := by
  rcases h.2 with ⟨rfl, hnil⟩ | ⟨g, cap, cur, rfl, _⟩
  · have h1 := h.1
    rw [hnil] at h1
    have : n = 0 := by
      rcases Nat.eq_zero_or_pos n with h0 | h0
      · exact h0
      · have := Nat.mul_pos h0 hs
        simp at h1
        omega
    subst this
    exact ⟨_, _, rfl⟩
  · exact ⟨_, _, rfl⟩
theorem own_rde {w : World} {base n cap : Nat} {t : TypeId} {a : Option Addr} {es : List Ent} (h : w.ownsRow base t 4 (.slice a n cap) n (ev4 es)) (hn : es.length = n) : RdE w a es := by
  subst hn
  by_cases h0 : es = []
  · exact .inl h0
  · obtain ⟨g, hA⟩ : ∃ g, a = some ⟨g, 0, none⟩ := by
      rcases h.2 with ⟨_, hn⟩ | ⟨g, c, cur, hv, _⟩
      · exact absurd (List.length_eq_zero_iff.1 hn) h0
      · injection hv with hA
        exact ⟨g, hA⟩
    subst hA
    have hlt := (h.lt g rfl).2
    refine .inr ⟨g, 0, rfl, hlt, fun i hi => ?_⟩
    obtain ⟨h0, h1, h2, h3⟩ := ev4_get es i hi
    have hc := h.cells (g := g) rfl
    have e : ∀ j, 0 < j → (⟨g, 0, none⟩ : Addr).add j = ⟨g, 0 + j, none⟩ := by intro j hj; unfold Addr.add; rw [if_neg (by omega)]
    have e' : ∀ j, (⟨g, 0, none⟩ : Addr).add j = ⟨g, 0 + j, none⟩ := by intro j; unfold Addr.add; split <;> simp_all
    have c0 := hc _ _ h0
    have c1 := hc _ _ h1
    have c2 := hc _ _ h2
    have c3 := hc _ _ h3
    rw [e'] at c0 c1 c2 c3
    exact ⟨c0, c1, c2, c3⟩

theorem Tryz.infoEnt : (Tryz.prog.info? 41).map (fun i => (i.zero, i.size, i.bytes)) = some (some (.agg #[.string ⟨#[]⟩, .string ⟨#[]⟩, .bool false, .int .i64 0]), 4, 48) := by kernel_rfl
/-- The new cells of 'append(l, e)'. -/
theorem cell_new4 (w : World) (A B C D : Value) (t : TypeId) : ∀ j u, [A, B, C, D][j]? = some u → (w.alloc (.cells #[A, B, C, D] t)).cell? ((⟨w.heap.size, 0, none⟩ : Addr).add j) = some u := by
  intro j u hj
  have e' : ∀ j, (⟨w.heap.size, 0, none⟩ : Addr).add j = ⟨w.heap.size, 0 + j, none⟩ := by intro j; unfold Addr.add; split <;> simp_all
  rw [e']
  match j, hj with
  | 0, hj => simp at hj; subst hj; simp
  | 1, hj => simp at hj; subst hj; simp
  | 2, hj => simp at hj; subst hj; simp
  | 3, hj => simp at hj; subst hj; simp
/-- The entries whose keys are within a range. -/
def clipL (lo hi : ByteArray) (es : List Ent) : List Ent := es.filter fun e => hasB lo hi e.1
theorem clip_snoc (lo hi : ByteArray) (es : List Ent) (e : Ent) : clipL lo hi (es ++ [e]) = if hasB lo hi e.1 = true then clipL lo hi es ++ [e] else clipL lo hi es := by
  unfold clipL
  rw [List.filter_append]
  cases h : hasB lo hi e.1 <;> simp [h]
theorem clip_le (lo hi : ByteArray) (es : List Ent) : (clipL lo hi es).length ≤ es.length := List.length_filter_le _ _
def okE (es : List Ent) : Prop := ∀ e ∈ es, okS e.1
/-- What Clip leaves. -/
def CL (lo hi : ByteArray) (es : List Ent) (w : World) (e : Ending) (w' : World) : Prop := ∃ a cap, e = .returned (.slice a (clipL lo hi es).length cap) ∧ RdE w' a (clipL lo hi es) ∧ Below w.heap.size w w'
set_option maxHeartbeats 1000000 in
theorem clip_none (a : Option Addr) (cap : Nat) (lo hi : ByteArray) (w : World) :
    Calls Tryz.prog 36 #[.slice a 0 cap, .agg #[.string lo, .string hi]] w (CL lo hi [] w) := by
  go_enter Tryz.func36, Tryz.ntmps36
  go_wp2
  refine wp_loop_rounds 1 ?_
  rw [rounds_succ]
  go_wp2
  go_ret
  exact ⟨none, 0, rfl, .inl rfl, (Below.refl _ _).alloc (Nat.le_refl _) _⟩
set_option maxHeartbeats 2000000 in
theorem clip_some (b off n cap : Nat) (es : List Ent) (lo hi : ByteArray) (h1 : okS lo) (h2 : okS hi) (w : World) (hn : n ≤ 100000) (hl : es.length = n) (hb : b < w.heap.size) (hok : okE es)
    (hc : ∀ i (h : i < es.length), w.cell? ⟨b, off + i * 4, none⟩ = some (.string es[i].1) ∧ w.cell? ⟨b, off + i * 4 + 1, none⟩ = some (.string es[i].2.1) ∧
      w.cell? ⟨b, off + i * 4 + 2, none⟩ = some (.bool es[i].2.2.1) ∧ w.cell? ⟨b, off + i * 4 + 3, none⟩ = some (.int .i64 es[i].2.2.2)) :
    Calls Tryz.prog 36 #[.slice (some ⟨b, off, none⟩) n cap, .agg #[.string lo, .string hi]] w (CL lo hi es w) := by
  obtain ⟨i0, hi0, hz0, hz1, hz2⟩ := info_parts Tryz.infoEnt
  have HC := Lib.hid hc
  have HL := Lib.hid hl
  have HO := Lib.hid hok
  have HS := Lib.hid (And.intro h1 h2)
  clear hc hl hok h1 h2
  go_enter Tryz.func36, Tryz.ntmps36
  go_wp2
  go_loopw [5, 10] (fun v i wr => ∃ (k m : Nat), i = .int .i64 k ∧ k ≤ n ∧ m ≤ k ∧ Hid (m = (clipL lo hi (es.take k)).length ∧ wr.ownsRow (w.heap.size + 1) 41 4 v m (ev4 (clipL lo hi (es.take k)))) ∧ Below (w.heap.size + 1) (w.alloc (.cells #[.string lo, .string hi] 38)) wr) (fun _ i _ => n - (intOf i).toNat)
  case atStart => exact ⟨0, 0, rfl, by omega, by omega, Lib.hid ⟨rfl, World.ownsRow_nil _ _ _ _⟩, Below.refl _ _⟩
  case round =>
    obtain ⟨k, m, rfl, hk, hm, HM, hbel⟩ := hrel
    have hbs : w.heap.size + 1 ≤ wr.heap.size := by have := hbel.size; simpa using this
    have x0 : wr.cell? ⟨w.heap.size, 0, none⟩ = some (.string lo) := (hbel.cell (p := ⟨w.heap.size, 0, none⟩) (by simp)).trans (by simp [go_sem])
    have x1 : wr.cell? ⟨w.heap.size, 1, none⟩ = some (.string hi) := (hbel.cell (p := ⟨w.heap.size, 1, none⟩) (by simp)).trans (by simp [go_sem])
    have xl : w.heap.size < wr.heap.size := by omega
    by_cases hlt : k < n
    · have hkl : k < es.length := by rw [HL.out]; exact hlt
      have hx := HC.out k hkl
      have hcell : ∀ j, wr.cell? ⟨b, j, none⟩ = w.cell? ⟨b, j, none⟩ := fun j => (hbel.cell (p := ⟨b, j, none⟩) (by simp; omega)).trans (World.cell?_alloc_lt w _ ⟨b, j, none⟩ hb)
      rw [← hcell, ← hcell, ← hcell, ← hcell] at hx
      obtain ⟨g0, g1, g2, g3⟩ := hx
      have o1 := HO.out _ (List.getElem_mem hkl)
      have hs := clip_snoc lo hi (es.take k) es[k]
      rw [← List.take_succ_eq_append_getElem hkl] at hs
      obtain ⟨E, hE⟩ : ∃ E, E = es[k] := ⟨_, rfl⟩
      rw [← hE] at g0 g1 g2 g3 o1 hs
      obtain ⟨ek, evl, eg, eq⟩ := E
      clear hcell hE
      cases ha : hasB lo hi ek with
      | false =>
        have HN := Lib.hid (show clipL lo hi (es.take (k + 1)) = clipL lo hi (es.take k) by rw [hs, ha]; rfl)
        have HF := Lib.hid fun w => has_any lo hi ek _ ha HS.out.1 HS.out.2 o1 w
        clear hs ha o1
        go_wp2_with fail
        refine (HF.out _).mono ?_
        rintro e w1 ⟨rfl, b1⟩
        have hbel1 := (hbel.alloc hbs (.cells #[.string ek, .string evl, .bool eg, .int .i64 eq] 41)).trans (b1.mono (by simp; omega))
        have HR := Lib.hid (And.intro (show m = (clipL lo hi (es.take (k + 1))).length by rw [HN.out]; exact HM.out.1) (show w1.ownsRow (w.heap.size + 1) 41 4 u5 m (ev4 (clipL lo hi (es.take (k + 1)))) by rw [HN.out]; exact below_own (HM.out.2.alloc _) b1))
        go_wp2
        go_roundw
        case rel => exact ⟨k + 1, m, by go_num, by omega, by omega, HR, hbel1⟩
        case measure => simp [intOf]; omega
      | true =>
        have HN := Lib.hid (show clipL lo hi (es.take (k + 1)) = clipL lo hi (es.take k) ++ [(ek, evl, eg, eq)] by rw [hs, ha]; rfl)
        have HF := Lib.hid fun w => has_any lo hi ek _ ha HS.out.1 HS.out.2 o1 w
        clear hs ha o1
        go_wp2_with fail
        refine (HF.out _).mono ?_
        rintro e w1 ⟨rfl, b1⟩
        have hbel1 := (hbel.alloc hbs (.cells #[.string ek, .string evl, .bool eg, .int .i64 eq] 41)).trans (b1.mono (by simp; omega))
        have y0 : w1.cell? ⟨wr.heap.size, 0, none⟩ = some (.string ek) := (b1.cell (p := ⟨wr.heap.size, 0, none⟩) (by simp)).trans (by simp [go_sem])
        have y1 : w1.cell? ⟨wr.heap.size, 1, none⟩ = some (.string evl) := (b1.cell (p := ⟨wr.heap.size, 1, none⟩) (by simp)).trans (by simp [go_sem])
        have y2 : w1.cell? ⟨wr.heap.size, 2, none⟩ = some (.bool eg) := (b1.cell (p := ⟨wr.heap.size, 2, none⟩) (by simp)).trans (by simp [go_sem])
        have y3 : w1.cell? ⟨wr.heap.size, 3, none⟩ = some (.int .i64 eq) := (b1.cell (p := ⟨wr.heap.size, 3, none⟩) (by simp)).trans (by simp [go_sem])
        have hown1 := below_own (HM.out.2.alloc _) b1
        have hb1s : w.heap.size + 1 ≤ w1.heap.size := by have := hbel1.size; simpa using this
        have HB1 := Lib.hid hbel1
        have HO1 := Lib.hid hown1
        clear hbel1 b1 hown1
        go_wp2_with (at_builtin; refine wpList_append_own _ rfl _ _ 22 rfl (w.heap.size + 1) 41 i0 (.agg #[.string ⟨#[]⟩, .string ⟨#[]⟩, .bool false, .int .i64 0]) 4 48 Tryz.underlying22 hi0 hz0 hz1 hz2 rfl (by decide) _ _ _ rfl (HO1.out.alloc _) ⟨w1.heap.size, 0, none⟩ 1 1 (ev (ek, evl, eg, eq)) rfl rfl ?c1 ?c2 ?c3 ?c4 ?c5 ?_)
        case c1 => exact cell_new4 _ _ _ _ _ _
        case c2 => intro u hu; simp [ev] at hu; rcases hu with rfl | rfl | rfl | rfl <;> rfl
        case c3 => unfold maxLen; omega
        case c4 => omega
        case c5 => simp; omega
        · intro v' w2 hown2 hgrow _
          have hbel2 := ((HB1.out.alloc hb1s (.cells #[.string ek, .string evl, .bool eg, .int .i64 eq] 41)).grown hgrow (by simp; omega) (fun k hk => (HO1.out.lt k hk).1))
          rw [ev4_snoc, ← HN.out] at hown2
          have HR := Lib.hid (And.intro (show m + 1 = (clipL lo hi (es.take (k + 1))).length by rw [HN.out, List.length_append, ← HM.out.1]; rfl) hown2)
          clear hown2 hgrow HB1 HO1 HN
          go_wp2
          go_roundw
          case rel => exact ⟨k + 1, m + 1, by go_num, by omega, by omega, HR, hbel2⟩
          case measure => simp [intOf]; omega
    · obtain rfl : k = n := by omega
      obtain ⟨a', cap', rfl⟩ := own_form HM.out.2 (by decide)
      have HE := HM.out
      rw [← HL.out, List.take_length] at HE
      have HE2 := Lib.hid HE
      clear HE HM
      go_wp2
      go_ret
      refine ⟨a', cap', by rw [← HE2.out.1]; rfl, own_rde HE2.out.2 HE2.out.1.symm, ?_⟩
      exact ((Below.refl _ _).alloc (Nat.le_refl _) (.cells #[.string lo, .string hi] 38)).trans (hbel.mono (by omega))
theorem clip_any (a : Option Addr) (n cap : Nat) (es : List Ent) (lo hi : ByteArray) (h1 : okS lo) (h2 : okS hi) (w : World) (hn : n ≤ 100000) (hl : es.length = n) (h : RdE w a es) (hok : okE es) :
    Calls Tryz.prog 36 #[.slice a n cap, .agg #[.string lo, .string hi]] w (CL lo hi es w) := by
  rcases h with rfl | ⟨b, off, rfl, hb, hc⟩
  · subst hl; exact clip_none a cap lo hi w
  · exact clip_some b off n cap es lo hi h1 h2 w hn hl hb hok hc
end Go.Proofs.YtobhjmkaamjoeaaGreat
