/-
  Layer 6 (wal), contracts of slices.DeleteFunc at a log's parts (with IndexFunc and Drop's closure). Conditions: none.
-/
import Derived.Test.YthikedhbjphmeaaLv
namespace Go.Proofs.Ythikedhbjphmeaa
open Go.RowKit Go.Lib
set_option linter.unusedVariables false
set_option linter.unusedSimpArgs false

def keepP (bl : Int) (g : Gp) : Bool := !decide ((g.n : Int) < bl)
set_option maxRecDepth 100000 in
set_option maxHeartbeats 400000 in
theorem pred_any (n : Nat) (a : Option Addr) (l c : Nat) (fb : Nat) (bl : Int) (w : World) (hc : w.cell? ⟨fb, 0, none⟩ = some (.int .i64 bl)) :
    Calls Try.prog 35 #[.agg #[.int .i64 (n : Int), .slice a l c], .pointer (some ⟨fb, 0, none⟩)] w fun e w' => e = .returned (.bool (decide ((n : Int) < bl))) ∧ Below w.heap.size w w' := by
  have hlt := cell_lt hc
  have hc1 : (w.alloc (.cells #[.int .i64 (n : Int), .slice a l c] 55)).cell? ⟨fb, 0, none⟩ = some (.int .i64 bl) := Lib.cell?_alloc_some _ hc
  go_enter Try.func35, Try.ntmps35
  go_wp2
  go_ret
  exact ⟨rfl, (Below.refl _ _).alloc (Nat.le_refl _) _⟩
/-! ### IndexFunc -/
/-- The first part that is struck. -/
def IdxE (bl : Int) (G : List Gp) (x : Int) : Prop := (x = -1 ∧ ∀ k (h : k < G.length), keepP bl G[k] = true) ∨ ∃ i, ∃ h : i < G.length, x = (i : Int) ∧ keepP bl G[i] = false ∧ ∀ k (h2 : k < i), keepP bl (G[k]'(by omega)) = true
set_option maxRecDepth 100000 in
set_option maxHeartbeats 600000 in
theorem idx_any {pb cap fb : Nat} {bl : Int} {G : List Gp} {w : World} (hrow : w.ownsRow 0 55 2 (.slice (some ⟨pb, 0, none⟩) G.length cap) G.length (gcs G)) (htv : ∀ g ∈ G, ∃ a l c, g.tv = .slice a l c) (hc : w.cell? ⟨fb, 0, none⟩ = some (.int .i64 bl)) (hl : G.length ≤ 1000000) :
    Calls Try.prog 50 #[.slice (some ⟨pb, 0, none⟩) G.length cap, .func (.func 35) #[] #[.pointer (some ⟨fb, 0, none⟩)]] w fun e w' => ∃ x, e = .returned (.int .i64 x) ∧ IdxE bl G x ∧ Below w.heap.size w w' := by
  have HR := Lib.hid hrow
  have HT := Lib.hid htv
  have HC := Lib.hid hc
  clear hrow htv hc
  go_enter Try.func50, Try.ntmps50
  go_wp2
  go_loopw [8] (fun i wr => ∃ q : Nat, i = .int .i64 q ∧ q ≤ G.length ∧ Hid (∀ k (h : k < G.length), k < q → keepP bl G[k] = true) ∧ Below w.heap.size w wr) (fun i _ => G.length - (intOf i).toNat)
  case atStart => exact ⟨0, rfl, Nat.zero_le _, Lib.hid (fun k _ h => absurd h (by omega)), Below.refl _ _⟩
  case round =>
    obtain ⟨q, rfl, hq, hA, hbw⟩ := hrel
    by_cases hlt : q < G.length
    · have hlti : (q : Int) < (G.length : Int) := by omega
      have hr := below_own HR.out hbw
      have k0 := (hr.cellAt (q * 2) (by omega)).trans (gcs_get G q hlt).1
      have k1 := (hr.cellAt (q * 2 + 1) (by omega)).trans (gcs_get G q hlt).2
      have hpb : pb < wr.heap.size := (hr.lt pb rfl).2
      obtain ⟨ta, tl, tc, htv⟩ := HT.out _ (List.getElem_mem hlt)
      rw [htv] at k1
      have hkp : keepP bl G[q] = !decide ((G[q].n : Int) < bl) := rfl
      have hcr := (hbw.cell (p := ⟨fb, 0, none⟩) (cell_lt HC.out)).trans HC.out
      have HP := Lib.hid (pred_any G[q].n ta tl tc fb bl wr hcr)
      have HKP := Lib.hid hkp
      clear hr hkp hcr htv
      obtain ⟨nn, hnn⟩ : ∃ nn, nn = G[q].n := ⟨_, rfl⟩
      rw [← hnn] at k0 HP HKP
      clear hnn
      by_cases hb : (nn : Int) < bl
      · have hbt : decide ((nn : Int) < bl) = true := decide_eq_true hb
        rw [hbt] at HP HKP
        clear hb hbt
        go_wp2_with (go_at_call 35; refine HP.out.mono ?_; rintro e w2 ⟨rfl, hb2⟩)
        go_ret
        exact ⟨_, rfl, .inr ⟨q, hlt, rfl, HKP.out, fun k hk => hA.out k (by omega) hk⟩, hbw.trans (hb2.mono hbw.size)⟩
      · have hbt : decide ((nn : Int) < bl) = false := decide_eq_false hb
        rw [hbt] at HP HKP
        clear hb hbt
        go_wp2_with (go_at_call 35; refine HP.out.mono ?_; rintro e w2 ⟨rfl, hb2⟩)
        go_roundw
        case rel =>
          refine ⟨q + 1, by go_num, by omega, Lib.hid fun k hk hk2 => ?_, hbw.trans (hb2.mono hbw.size)⟩
          rcases Nat.lt_or_ge k q with c | c
          · exact hA.out k hk c
          · have : k = q := by omega
            subst this
            exact HKP.out
        case measure => simp [intOf]; omega
    · have hlti : ¬ (q : Int) < (G.length : Int) := by omega
      go_wp2
      go_ret
      exact ⟨-1, rfl, .inl ⟨rfl, fun k hk => hA.out k hk (by omega)⟩, hbw⟩
/-! ### clear -/
theorem run_clear_pairs {P : Program} (w : World) (t e ty : TypeId) (z : Value) (z0 z1 : Value) (ht : P.underlying t = some (.slice e)) (hv : ∀ w, (zeroValue e).run P w = .ok z w) (hz : z.cells = #[z0, z1]) (h0 : z0.oneCell' = true) (h1 : z1.oneCell' = true) (b o n c : Nat) (hn : 0 < n) (cur : Array Value) (te : TypeId)
    (hg : w.heap[b]? = some (.cells cur te (0, 0))) (hl : o + n * 2 ≤ cur.size) :
    ∃ vs : List Value, vs.length = n * 2 ∧ (Builtin.clear_ #[t] ty #[.slice (some ⟨b, o, none⟩) n c]).run P w = .ok (.tuple #[]) (w.setRow b (cur.toList.take o ++ vs ++ cur.toList.drop (o + n * 2)).toArray) := by
  obtain ⟨vs, hvs⟩ : ∃ vs, vs = (Builtin.zeroCells z.cells n).toList := ⟨_, rfl⟩
  have hlen : vs.length = n * 2 := by rw [hvs, hz]; simp [Builtin.zeroCells]
  have hone : ∀ v ∈ vs, v.oneCell' = true := by
    intro v hv'
    rw [hvs, hz] at hv'
    simp [Builtin.zeroCells] at hv'
    obtain ⟨i, _, rfl⟩ := hv'
    rcases (by omega : i % 2 = 0 ∨ i % 2 = 1) with e | e <;> rw [e] <;> simp [h0, h1]
  have hst := run_storeCells_at (P := P) b o te vs 0 cur w hg (by simp; omega) hone
  simp only [Nat.add_zero] at hst
  rw [hlen] at hst
  refine ⟨vs, hlen, ?_⟩
  obtain ⟨m, rfl⟩ : ∃ m, n = m + 1 := ⟨n - 1, by omega⟩
  simp [Builtin.clear_, run_underlying ht, hv, ← hvs, hst]

/-! ### DeleteFunc -/
theorem gcs_set2 : ∀ (E : List Gp) (i : Nat) (g : Gp), ((gcs E).set (i * 2) (.int .i64 (g.n : Int))).set (i * 2 + 1) g.tv = gcs (E.set i g)
  | [], i, g => by simp [gcs]
  | x :: E, 0, g => rfl
  | x :: E, i + 1, g => by
    have ih := gcs_set2 E i g
    have e : gcs (x :: E) = .int .i64 (x.n : Int) :: x.tv :: gcs E := rfl
    rw [e, show (i + 1) * 2 = i * 2 + 1 + 1 by omega, show i * 2 + 1 + 1 + 1 = (i * 2 + 1) + 1 + 1 by omega]
    simp only [List.set_cons_succ]
    rw [ih]
    rfl
theorem gcs_take : ∀ (E : List Gp) (i : Nat), (gcs E).take (i * 2) = gcs (E.take i)
  | [], i => by simp [gcs]
  | x :: E, 0 => by simp [gcs]
  | x :: E, i + 1 => by
    have ih := gcs_take E i
    have e : gcs (x :: E) = .int .i64 (x.n : Int) :: x.tv :: gcs E := rfl
    rw [e, show (i + 1) * 2 = i * 2 + 1 + 1 by omega]
    simp only [List.take_succ_cons]
    rw [ih]
    rfl
structure DelI (bl : Int) (G E : List Gp) (i j : Nat) : Prop where
  len : E.length = G.length
  lt : i < j
  le : j ≤ G.length
  low : E.take i = (G.take j).filter (keepP bl)
  high : E.drop j = G.drop j
theorem all_filter (bl : Int) (G : List Gp) (h : ∀ k (h : k < G.length), keepP bl G[k] = true) : G.filter (keepP bl) = G := by
  rw [List.filter_eq_self]
  intro g hg
  obtain ⟨k, hk, rfl⟩ := List.getElem_of_mem hg
  exact h k hk
theorem DelI.start {bl : Int} {G : List Gp} {i : Nat} (h : i < G.length) (hf : keepP bl G[i] = false) (ha : ∀ k (h2 : k < i), keepP bl (G[k]'(by omega)) = true) : DelI bl G G i (i + 1) := by
  refine ⟨rfl, by omega, by omega, ?_, rfl⟩
  rw [List.take_succ_eq_append_getElem h, List.filter_append]
  have e1 : (G.take i).filter (keepP bl) = G.take i := all_filter bl _ fun k hk => by
    rw [List.length_take] at hk
    rw [List.getElem_take]
    exact ha k (by omega)
  rw [e1, List.filter_cons_of_neg (by rw [hf]; decide)]
  simp
theorem DelI.at_ {bl : Int} {G E : List Gp} {i j : Nat} (h : DelI bl G E i j) (hj : j < G.length) : E[j]'(by rw [h.len]; exact hj) = G[j] := by
  have e := congrArg (·[0]?) h.high
  simp only [List.getElem?_drop, Nat.add_zero] at e
  rw [List.getElem?_eq_getElem (by rw [h.len]; exact hj), List.getElem?_eq_getElem hj] at e
  exact Option.some.inj e
theorem DelI.skip {bl : Int} {G E : List Gp} {i j : Nat} (h : DelI bl G E i j) (hj : j < G.length) (hk : keepP bl G[j] = false) : DelI bl G E i (j + 1) := by
  refine ⟨h.len, by have := h.lt; omega, by omega, ?_, ?_⟩
  · rw [List.take_succ_eq_append_getElem hj, List.filter_append, List.filter_cons_of_neg (by rw [hk]; decide), h.low]
    simp
  · have := congrArg (List.drop 1) h.high
    rw [List.drop_drop, List.drop_drop] at this
    exact this
theorem DelI.keep {bl : Int} {G E : List Gp} {i j : Nat} (h : DelI bl G E i j) (hj : j < G.length) (hk : keepP bl G[j] = true) : DelI bl G (E.set i G[j]) (i + 1) (j + 1) := by
  have hij := h.lt
  have hi : i < E.length := by rw [h.len]; omega
  refine ⟨by rw [List.length_set]; exact h.len, by omega, by omega, ?_, ?_⟩
  · rw [List.take_succ_eq_append_getElem (by rw [List.length_set]; exact hi), List.take_set_of_le (Nat.le_refl i), h.low, List.getElem_set_self, List.take_succ_eq_append_getElem hj, List.filter_append, List.filter_cons_of_pos hk]
    simp
  · rw [List.drop_set_of_lt (by omega)]
    have := congrArg (List.drop 1) h.high
    rw [List.drop_drop, List.drop_drop] at this
    exact this
/-- What DeleteFunc leaves: the row cut shorter; no other block is written. -/
def DelE (w : World) (pb cap : Nat) (bl : Int) (G : List Gp) (e : Ending) (w' : World) : Prop :=
  e = .returned (.slice (some ⟨pb, 0, none⟩) (G.filter (keepP bl)).length cap) ∧ w'.ownsRow 0 55 2 (.slice (some ⟨pb, 0, none⟩) (G.filter (keepP bl)).length cap) (G.filter (keepP bl)).length (gcs (G.filter (keepP bl))) ∧ Keeps (fun b => b < w.heap.size ∧ b ≠ pb) w w'
set_option maxRecDepth 100000 in
set_option maxHeartbeats 800000 in
theorem del_any {pb cap fb : Nat} {bl : Int} {G : List Gp} {w : World} (hrow : w.ownsRow 0 55 2 (.slice (some ⟨pb, 0, none⟩) G.length cap) G.length (gcs G)) (htv : ∀ g ∈ G, ∃ a l c, g.tv = .slice a l c) (hc : w.cell? ⟨fb, 0, none⟩ = some (.int .i64 bl)) (hfp : fb ≠ pb) (hl : G.length ≤ 1000000) :
    Calls Try.prog 34 #[.slice (some ⟨pb, 0, none⟩) G.length cap, .func (.func 35) #[] #[.pointer (some ⟨fb, 0, none⟩)]] w (DelE w pb cap bl G) := by
  have HI := Lib.hid (idx_any hrow htv hc hl)
  have HR := Lib.hid hrow
  have HT := Lib.hid htv
  have HC := Lib.hid hc
  have hcm : G.length ≤ cap := by
    rcases hrow.2 with ⟨h, _⟩ | ⟨g, cap', cur, hv, _, _, h1, _⟩
    · cases h
    · cases hv; exact h1
  clear hrow htv hc
  go_enter Try.func34, Try.ntmps34
  go_wp2_with fail
  refine HI.out.mono ?_
  rintro e w1 ⟨x, rfl, hx, hb1⟩
  have HB1 := Lib.hid hb1
  clear HI hb1
  rcases hx with ⟨rfl, hall⟩ | ⟨i0, hi0, rfl, hf, ha⟩
  · have HA := Lib.hid hall
    clear hall
    go_wp2
    go_ret
    unfold DelE
    rw [all_filter bl G HA.out]
    exact ⟨rfl, below_own HR.out HB1.out, Keeps.of_below HB1.out fun b hb => hb.1⟩
  · have HS := Lib.hid (DelI.start hi0 hf ha)
    clear hf ha
    have hne : ((i0 : Int) == -1) = false := beq_eq_false_iff_ne.2 (by omega)
    go_wp2
    go_loopw [5, 6, 7] (fun s t _ wr => ∃ (i j : Nat) (E : List Gp), s = .int .i64 i ∧ t = .int .i64 j ∧ Hid (DelI bl G E i j) ∧ Hid (wr.ownsRow 0 55 2 (.slice (some ⟨pb, 0, none⟩) G.length cap) G.length (gcs E)) ∧ Hid (Keeps (fun b => b < w.heap.size ∧ b ≠ pb) w wr) ∧ j ≤ G.length) (fun _ t _ _ => G.length - (intOf t).toNat)
    case atStart => exact ⟨i0, i0 + 1, G, rfl, by go_num, HS, Lib.hid (below_own HR.out HB1.out), Lib.hid (Keeps.of_below HB1.out fun b hb => hb.1), by omega⟩
    case round =>
      obtain ⟨i, j, E, rfl, rfl, hD, hR, hK, hj⟩ := hrel
      clear HS HB1 hi0
      have hij := hD.out.lt
      have hEl := hD.out.len
      by_cases hlt : j < G.length
      · have hlti : (j : Int) < (G.length : Int) := by omega
        have hlti2 : (i : Int) < (G.length : Int) := by omega
        have k0 := (hR.out.cellAt (j * 2) (by omega)).trans (gcs_get E j (by rw [hEl]; exact hlt)).1
        have k1 := (hR.out.cellAt (j * 2 + 1) (by omega)).trans (gcs_get E j (by rw [hEl]; exact hlt)).2
        have hpb : pb < wr.heap.size := (hR.out.lt pb rfl).2
        rw [hD.out.at_ hlt] at k0 k1
        obtain ⟨ta, tl, tc, htv⟩ := HT.out _ (List.getElem_mem hlt)
        have hfl : fb < w.heap.size := cell_lt HC.out
        have hcr := (hK.out.cell fb 0 ⟨hfl, hfp⟩).trans HC.out
        have hfw := cell_lt hcr
        have HKE : Hid (keepP bl G[j] = true → DelI bl G (E.set i G[j]) (i + 1) (j + 1)) := Lib.hid fun h => hD.out.keep hlt h
        have HSK : Hid (keepP bl G[j] = false → DelI bl G E i (j + 1)) := Lib.hid fun h => hD.out.skip hlt h
        have hkp : keepP bl G[j] = !decide ((G[j].n : Int) < bl) := rfl
        have HKP := Lib.hid hkp
        generalize G[j] = g at k0 k1 htv HKE HSK HKP
        rw [htv] at k1
        have HTV := Lib.hid htv
        have HP := Lib.hid (pred_any g.n ta tl tc fb bl (wr.alloc (.cells #[.int .i64 (g.n : Int), .slice ta tl tc] 55)) (Lib.cell?_alloc_some _ hcr))
        clear hkp hcr htv
        obtain ⟨W1, hW1⟩ : ∃ W1, W1 = wr.alloc (.cells #[.int .i64 (g.n : Int), .slice ta tl tc] 55) := ⟨_, rfl⟩
        have hal := al1 wr (.cells #[.int .i64 (g.n : Int), .slice ta tl tc] 55)
        have b0 : (wr.alloc (.cells #[.int .i64 (g.n : Int), .slice ta tl tc] 55)).cell? ⟨wr.heap.size, 0, none⟩ = some (.int .i64 (g.n : Int)) := by rw [World.cell?_alloc_mark]; rfl
        have b1 : (wr.alloc (.cells #[.int .i64 (g.n : Int), .slice ta tl tc] 55)).cell? ⟨wr.heap.size, 1, none⟩ = some (.slice ta tl tc) := by rw [World.cell?_alloc_mark]; rfl
        have hw1 : wr.heap.size < (wr.alloc (.cells #[.int .i64 (g.n : Int), .slice ta tl tc] 55)).heap.size := by simp
        have B0 := Lib.hid (And.intro b0 (And.intro b1 (And.intro hw1 hal)))
        clear b0 b1 hw1 hal hW1
        go_wp2_with fail
        refine HP.out.mono ?_
        rintro e w2 ⟨rfl, hb2⟩
        have c0 := (hb2.cell (p := ⟨wr.heap.size, 0, none⟩) B0.out.2.2.1).trans B0.out.1
        have c1 := (hb2.cell (p := ⟨wr.heap.size, 1, none⟩) B0.out.2.2.1).trans B0.out.2.1
        have hb12 := bt B0.out.2.2.2 hb2
        have hr2 := below_own hR.out hb12
        have d0 := hr2.cellAt (i * 2) (by omega)
        have d1 := hr2.cellAt (i * 2 + 1) (by omega)
        rw [(gcs_get E i (by omega)).1] at d0
        rw [(gcs_get E i (by omega)).2] at d1
        have f0 := hr2.frozenAt (i * 2)
        have f1 := hr2.frozenAt (i * 2 + 1)
        have hpb2 : pb < w2.heap.size := Nat.lt_of_lt_of_le hpb hb12.size
        have hws2 : wr.heap.size < w2.heap.size := Nat.lt_of_lt_of_le B0.out.2.2.1 hb2.size
        have HR2 := Lib.hid hr2
        have HK2 := Lib.hid (hK.out.trans (Keeps.of_below hb12 fun b hb => Nat.lt_of_lt_of_le hb.1 hK.out.size))
        clear hb2 hb12 hr2 HP B0 k0 k1
        by_cases hb : (g.n : Int) < bl
        · have hbt : decide ((g.n : Int) < bl) = true := decide_eq_true hb
          rw [hbt] at HKP ⊢
          clear d0 d1 f0 f1 c0 c1
          go_wp2
          go_roundw
          case rel => exact ⟨i, j + 1, E, rfl, by go_num, Lib.hid (HSK.out HKP.out), HR2, HK2, by omega⟩
          case measure => simp [intOf]; omega
        · have hbt : decide ((g.n : Int) < bl) = false := decide_eq_false hb
          rw [hbt] at HKP ⊢
          go_wp2
          go_roundw
          case rel =>
            have h1 := (HR2.out.stored (i * 2) (.int .i64 (g.n : Int))).1
            have h2 := (h1.stored (i * 2 + 1) (.slice ta tl tc)).1
            rw [← HTV.out, gcs_set2] at h2
            rw [HTV.out] at h2
            refine ⟨i + 1, j + 1, E.set i g, by go_num, by go_num, Lib.hid (HKE.out HKP.out), Lib.hid h2, Lib.hid ?_, by omega⟩
            exact (HK2.out.trans (Keeps.setCell _ _ fun b hb => hb.2)).trans (Keeps.setCell _ _ fun b hb => hb.2)
          case measure => simp [intOf]; omega
      · have hje : j = G.length := by omega
        have hlti : ¬ (j : Int) < (G.length : Int) := by omega
        have hlow := hD.out.low
        rw [hje, List.take_length] at hlow
        have hfl : (G.filter (keepP bl)).length = i := by rw [← hlow, List.length_take]; omega
        obtain ⟨cur, hh, hsz, htk⟩ : ∃ cur, wr.heap[pb]? = some (.cells cur 55 (0, 0)) ∧ cur.size = cap * 2 ∧ cur.toList.take (G.length * 2) = gcs E := by
          rcases hR.out.2 with ⟨h, _⟩ | ⟨g, cap', cur, hv, _, hh, _, _, h1, h2⟩
          · cases h
          · cases hv; exact ⟨cur, hh, h1, h2⟩
        have hcm2 : cap ≤ maxLen := by
          rcases hR.out.2 with ⟨h, _⟩ | ⟨g, cap', cur, hv, _, _, _, h1, _⟩
          · cases h
          · cases hv; exact h1
        obtain ⟨vs, hvs, hcl⟩ := run_clear_pairs wr 46 55 0 _ (.int .i64 0) (.slice none 0 0) Try.underlying46 Try.zeroValue55 rfl rfl rfl pb (i * 2) (G.length - i) (cap - i) (by omega) cur 55 hh (by rw [hsz]; omega)
        have HCL := Lib.hid hcl
        have HH := Lib.hid (And.intro hh (And.intro hsz htk))
        have HF := Lib.hid (And.intro hlow hfl)
        have hi1 : (i : Int) ≤ (G.length : Int) := by omega
        have hi2 : (i : Int) ≤ (cap : Int) := by omega
        clear hh hsz htk hlow hfl
        go_wp2
        go_ret
        unfold DelE
        rw [HF.out.2]
        obtain ⟨hh, hsz, htk⟩ := HH.out
        have hD2 := hD.out.low
        have hei : E.take i = G.filter (keepP bl) := HF.out.1
        refine ⟨rfl, ⟨?_, .inr ⟨pb, cap, _, rfl, Nat.zero_le _, setRow_heap wr pb cur _ _ _ hh, by omega, hcm2, ?_, ?_⟩⟩, hK.out.trans ⟨rfl, rfl, rfl, by simp, fun b hb => setRow_other _ _ _ _ hb.2⟩⟩
        · rw [← hei, gcs_length, List.length_take]; omega
        · simp only [List.size_toArray, List.length_append, List.length_take, List.length_drop, Array.length_toList, hvs]
          omega
        · rw [List.take_append_of_le_length (by rw [List.length_take, Array.length_toList]; omega), List.take_take, Nat.min_self, ← hei, ← gcs_take, ← htk, List.take_take, Nat.min_eq_left (by omega)]
end Go.Proofs.Ythikedhbjphmeaa
