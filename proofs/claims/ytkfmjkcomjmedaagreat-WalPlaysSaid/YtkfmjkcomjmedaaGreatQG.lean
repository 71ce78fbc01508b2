/-
  Texts of mine as one, in the order in which they build: Ld, Lk. Conditions: as each says.
-/
import Derived.Test.YtkfmjkcomjmedaaGreatQF
namespace Go.Proofs.YtkfmjkcomjmedaaGreat
open Go.RowKit Go.Lib
set_option linter.unusedVariables false
set_option linter.unusedSimpArgs false

def keepP (bl : Int) (g : Gp) : Bool := !decide ((g.n : Int) < bl)
set_option maxRecDepth 100000 in
set_option maxHeartbeats 400000 in
theorem pred_any (n : Nat) (a : Option Addr) (l c : Nat) (fb : Nat) (bl : Int) (w : World) (hc : w.cell? ⟨fb, 0, none⟩ = some (.int .i64 bl)) :
    Calls Tryz.prog 55 #[.agg #[.int .i64 (n : Int), .slice a l c], .pointer (some ⟨fb, 0, none⟩)] w fun e w' => e = .returned (.bool (decide ((n : Int) < bl))) ∧ Below w.heap.size w w' := by
  have hlt := cell_lt hc
  have hc1 : (w.alloc (.cells #[.int .i64 (n : Int), .slice a l c] 78)).cell? ⟨fb, 0, none⟩ = some (.int .i64 bl) := Lib.cell?_alloc_some _ hc
  go_enter Tryz.func55, Tryz.ntmps55
  go_wp2
  go_ret
  exact ⟨rfl, (Below.refl _ _).alloc (Nat.le_refl _) _⟩
/-! ### IndexFunc -/
/-- The first part that is struck. -/
def IdxE (bl : Int) (G : List Gp) (x : Int) : Prop := (x = -1 ∧ ∀ k (h : k < G.length), keepP bl G[k] = true) ∨ ∃ i, ∃ h : i < G.length, x = (i : Int) ∧ keepP bl G[i] = false ∧ ∀ k (h2 : k < i), keepP bl (G[k]'(by omega)) = true
set_option maxRecDepth 100000 in
set_option maxHeartbeats 600000 in
theorem idx_any {pb cap fb : Nat} {bl : Int} {G : List Gp} {w : World} (hrow : w.ownsRow 0 78 2 (.slice (some ⟨pb, 0, none⟩) G.length cap) G.length (gcs G)) (htv : ∀ g ∈ G, ∃ a l c, g.tv = .slice a l c) (hc : w.cell? ⟨fb, 0, none⟩ = some (.int .i64 bl)) (hl : G.length ≤ 1000000) :
    Calls Tryz.prog 79 #[.slice (some ⟨pb, 0, none⟩) G.length cap, .func (.func 55) #[] #[.pointer (some ⟨fb, 0, none⟩)]] w fun e w' => ∃ x, e = .returned (.int .i64 x) ∧ IdxE bl G x ∧ Below w.heap.size w w' := by
  have HR := Lib.hid hrow
  have HT := Lib.hid htv
  have HC := Lib.hid hc
  clear hrow htv hc
  go_enter Tryz.func79, Tryz.ntmps79
  go_wp2
  go_loopw [8] (fun i wr => ∃ q : Nat, i = .int .i64 q ∧ q ≤ G.length ∧ Hid (∀ k (h : k < G.length), k < q → keepP bl G[k] = true) ∧ Below w.heap.size w wr) (fun i _ => G.length - (intOf i).toNat)
  case atStart => exact ⟨0, rfl, Nat.zero_le _, Lib.hid (fun k _ h => absurd h (by omega)), Below.refl _ _⟩
  case round =>
    obtain ⟨q, rfl, hq, hA, hbw⟩ := hrel
    by_cases hlt : q < G.length
    · have hlti : (q : Int) < (G.length : Int) := by omega
      have hr := below_own HR.out hbw
      have k0 := (hr.cellAt (q * 2) (by omega)).trans (gcs_get G q hlt).1
      have k1 := (hr.cellAt (q * 2 + 1) (by omega)).trans (gcs_get G q hlt).2
      have hpb : pb < wr.heap.size := (hr.lt pb rfl).2
      obtain ⟨ta, tl, tc, htv⟩ := HT.out _ (List.getElem_mem hlt)
      rw [htv] at k1
      have hkp : keepP bl G[q] = !decide ((G[q].n : Int) < bl) := rfl
      have hcr := (hbw.cell (p := ⟨fb, 0, none⟩) (cell_lt HC.out)).trans HC.out
      have HP := Lib.hid (pred_any G[q].n ta tl tc fb bl wr hcr)
      have HKP := Lib.hid hkp
      clear hr hkp hcr htv
      obtain ⟨nn, hnn⟩ : ∃ nn, nn = G[q].n := ⟨_, rfl⟩
      rw [← hnn] at k0 HP HKP
      clear hnn
      by_cases hb : (nn : Int) < bl
      · have hbt : decide ((nn : Int) < bl) = true := decide_eq_true hb
        rw [hbt] at HP HKP
        clear hb hbt
        go_wp2_with (go_at_call 55; refine HP.out.mono ?_; rintro e w2 ⟨rfl, hb2⟩)
        go_ret
        exact ⟨_, rfl, .inr ⟨q, hlt, rfl, HKP.out, fun k hk => hA.out k (by omega) hk⟩, hbw.trans (hb2.mono hbw.size)⟩
      · have hbt : decide ((nn : Int) < bl) = false := decide_eq_false hb
        rw [hbt] at HP HKP
        clear hb hbt
        go_wp2_with (go_at_call 55; refine HP.out.mono ?_; rintro e w2 ⟨rfl, hb2⟩)
        go_roundw
        case rel =>
          refine ⟨q + 1, by go_num, by omega, Lib.hid fun k hk hk2 => ?_, hbw.trans (hb2.mono hbw.size)⟩
          rcases Nat.lt_or_ge k q with c | c
          · exact hA.out k hk c
          · have : k = q := by omega
            subst this
            exact HKP.out
        case measure => simp [intOf]; omega
    · have hlti : ¬ (q : Int) < (G.length : Int) := by omega
      go_wp2
      go_ret
      exact ⟨-1, rfl, .inl ⟨rfl, fun k hk => hA.out k hk (by omega)⟩, hbw⟩
/-! ### clear -/
theorem run_clear_pairs {P : Program} (w : World) (t e ty : TypeId) (z : Value) (z0 z1 : Value) (ht : P.underlying t = some (.slice e)) (hv : ∀ w, (zeroValue e).run P w = .ok z w) (hz : z.cells = #[z0, z1]) (h0 : z0.oneCell' = true) (h1 : z1.oneCell' = true) (b o n c : Nat) (hn : 0 < n) (cur : Array Value) (te : TypeId)
    (hg : w.heap[b]? = some (.cells cur te (0, 0))) (hl : o + n * 2 ≤ cur.size) :
    ∃ vs : List Value, vs.length = n * 2 ∧ (Builtin.clear_ #[t] ty #[.slice (some ⟨b, o, none⟩) n c]).run P w = .ok (.tuple #[]) (w.setRow b (cur.toList.take o ++ vs ++ cur.toList.drop (o + n * 2)).toArray) := by
  obtain ⟨vs, hvs⟩ : ∃ vs, vs = (Builtin.zeroCells z.cells n).toList := ⟨_, rfl⟩
  have hlen : vs.length = n * 2 := by rw [hvs, hz]; simp [Builtin.zeroCells]
  have hone : ∀ v ∈ vs, v.oneCell' = true := by
    intro v hv'
    rw [hvs, hz] at hv'
    simp [Builtin.zeroCells] at hv'
    obtain ⟨i, _, rfl⟩ := hv'
    rcases (by omega : i % 2 = 0 ∨ i % 2 = 1) with e | e <;> rw [e] <;> simp [h0, h1]
  have hst := run_storeCells_at (P := P) b o te vs 0 cur w hg (by simp; omega) hone
  simp only [Nat.add_zero] at hst
  rw [hlen] at hst
  refine ⟨vs, hlen, ?_⟩
  obtain ⟨m, rfl⟩ : ∃ m, n = m + 1 := ⟨n - 1, by omega⟩
  simp [Builtin.clear_, run_underlying ht, hv, ← hvs, hst]

/-! ### DeleteFunc -/
theorem gcs_set2 : ∀ (E : List Gp) (i : Nat) (g : Gp), ((gcs E).set (i * 2) (.int .i64 (g.n : Int))).set (i * 2 + 1) g.tv = gcs (E.set i g)
  | [], i, g => by simp [gcs]
  | x :: E, 0, g => rfl
  | x :: E, i + 1, g => by
    have ih := gcs_set2 E i g
    have e : gcs (x :: E) = .int .i64 (x.n : Int) :: x.tv :: gcs E := rfl
    rw [e, show (i + 1) * 2 = i * 2 + 1 + 1 by omega, show i * 2 + 1 + 1 + 1 = (i * 2 + 1) + 1 + 1 by omega]
    simp only [List.set_cons_succ]
    rw [ih]
    rfl
theorem gcs_take : ∀ (E : List Gp) (i : Nat), (gcs E).take (i * 2) = gcs (E.take i)
  | [], i => by simp [gcs]
  | x :: E, 0 => by simp [gcs]
  | x :: E, i + 1 => by
    have ih := gcs_take E i
    have e : gcs (x :: E) = .int .i64 (x.n : Int) :: x.tv :: gcs E := rfl
    rw [e, show (i + 1) * 2 = i * 2 + 1 + 1 by omega]
    simp only [List.take_succ_cons]
    rw [ih]
    rfl
structure DelI (bl : Int) (G E : List Gp) (i j : Nat) : Prop where
  len : E.length = G.length
  lt : i < j
  le : j ≤ G.length
  low : E.take i = (G.take j).filter (keepP bl)
  high : E.drop j = G.drop j
theorem all_filter (bl : Int) (G : List Gp) (h : ∀ k (h : k < G.length), keepP bl G[k] = true) : G.filter (keepP bl) = G := by
  rw [List.filter_eq_self]
  intro g hg
  obtain ⟨k, hk, rfl⟩ := List.getElem_of_mem hg
  exact h k hk
theorem DelI.start {bl : Int} {G : List Gp} {i : Nat} (h : i < G.length) (hf : keepP bl G[i] = false) (ha : ∀ k (h2 : k < i), keepP bl (G[k]'(by omega)) = true) : DelI bl G G i (i + 1) := by
  refine ⟨rfl, by omega, by omega, ?_, rfl⟩
  rw [List.take_succ_eq_append_getElem h, List.filter_append]
  have e1 : (G.take i).filter (keepP bl) = G.take i := all_filter bl _ fun k hk => by
    rw [List.length_take] at hk
    rw [List.getElem_take]
    exact ha k (by omega)
  rw [e1, List.filter_cons_of_neg (by rw [hf]; decide)]
  simp
theorem DelI.at_ {bl : Int} {G E : List Gp} {i j : Nat} (h : DelI bl G E i j) (hj : j < G.length) : E[j]'(by rw [h.len]; exact hj) = G[j] := by
  have e := congrArg (·[0]?) h.high
  simp only [List.getElem?_drop, Nat.add_zero] at e
  rw [List.getElem?_eq_getElem (by rw [h.len]; exact hj), List.getElem?_eq_getElem hj] at e
  exact Option.some.inj e
theorem DelI.skip {bl : Int} {G E : List Gp} {i j : Nat} (h : DelI bl G E i j) (hj : j < G.length) (hk : keepP bl G[j] = false) : DelI bl G E i (j + 1) := by
  refine ⟨h.len, by have := h.lt; omega, by omega, ?_, ?_⟩
  · rw [List.take_succ_eq_append_getElem hj, List.filter_append, List.filter_cons_of_neg (by rw [hk]; decide), h.low]
    simp
  · have := congrArg (List.drop 1) h.high
    rw [List.drop_drop, List.drop_drop] at this
    exact this
theorem DelI.keep {bl : Int} {G E : List Gp} {i j : Nat} (h : DelI bl G E i j) (hj : j < G.length) (hk : keepP bl G[j] = true) : DelI bl G (E.set i G[j]) (i + 1) (j + 1) := by
  have hij := h.lt
  have hi : i < E.length := by rw [h.len]; omega
  refine ⟨by rw [List.length_set]; exact h.len, by omega, by omega, ?_, ?_⟩
  · rw [List.take_succ_eq_append_getElem (by rw [List.length_set]; exact hi), List.take_set_of_le (Nat.le_refl i), h.low, List.getElem_set_self, List.take_succ_eq_append_getElem hj, List.filter_append, List.filter_cons_of_pos hk]
    simp
  · rw [List.drop_set_of_lt (by omega)]
    have := congrArg (List.drop 1) h.high
    rw [List.drop_drop, List.drop_drop] at this
    exact this
/-- What DeleteFunc leaves: the row cut shorter; no other block is written. -/
def DelE (w : World) (pb cap : Nat) (bl : Int) (G : List Gp) (e : Ending) (w' : World) : Prop :=
  e = .returned (.slice (some ⟨pb, 0, none⟩) (G.filter (keepP bl)).length cap) ∧ w'.ownsRow 0 78 2 (.slice (some ⟨pb, 0, none⟩) (G.filter (keepP bl)).length cap) (G.filter (keepP bl)).length (gcs (G.filter (keepP bl))) ∧ Keeps (fun b => b < w.heap.size ∧ b ≠ pb) w w'
set_option maxRecDepth 100000 in
set_option maxHeartbeats 800000 in
theorem del_any {pb cap fb : Nat} {bl : Int} {G : List Gp} {w : World} (hrow : w.ownsRow 0 78 2 (.slice (some ⟨pb, 0, none⟩) G.length cap) G.length (gcs G)) (htv : ∀ g ∈ G, ∃ a l c, g.tv = .slice a l c) (hc : w.cell? ⟨fb, 0, none⟩ = some (.int .i64 bl)) (hfp : fb ≠ pb) (hl : G.length ≤ 1000000) :
    Calls Tryz.prog 54 #[.slice (some ⟨pb, 0, none⟩) G.length cap, .func (.func 55) #[] #[.pointer (some ⟨fb, 0, none⟩)]] w (DelE w pb cap bl G) := by
  have HI := Lib.hid (idx_any hrow htv hc hl)
  have HR := Lib.hid hrow
  have HT := Lib.hid htv
  have HC := Lib.hid hc
  have hcm : G.length ≤ cap := by
    rcases hrow.2 with ⟨h, _⟩ | ⟨g, cap', cur, hv, _, _, h1, _⟩
    · cases h
    · cases hv; exact h1
  clear hrow htv hc
  go_enter Tryz.func54, Tryz.ntmps54
  go_wp2_with fail
  refine HI.out.mono ?_
  rintro e w1 ⟨x, rfl, hx, hb1⟩
  have HB1 := Lib.hid hb1
  clear HI hb1
  rcases hx with ⟨rfl, hall⟩ | ⟨i0, hi0, rfl, hf, ha⟩
  · have HA := Lib.hid hall
    clear hall
    go_wp2
    go_ret
    unfold DelE
    rw [all_filter bl G HA.out]
    exact ⟨rfl, below_own HR.out HB1.out, Keeps.of_below HB1.out fun b hb => hb.1⟩
  · have HS := Lib.hid (DelI.start hi0 hf ha)
    clear hf ha
    have hne : ((i0 : Int) == -1) = false := beq_eq_false_iff_ne.2 (by omega)
    go_wp2
    go_loopw [5, 6, 7] (fun s t _ wr => ∃ (i j : Nat) (E : List Gp), s = .int .i64 i ∧ t = .int .i64 j ∧ Hid (DelI bl G E i j) ∧ Hid (wr.ownsRow 0 78 2 (.slice (some ⟨pb, 0, none⟩) G.length cap) G.length (gcs E)) ∧ Hid (Keeps (fun b => b < w.heap.size ∧ b ≠ pb) w wr) ∧ j ≤ G.length) (fun _ t _ _ => G.length - (intOf t).toNat)
    case atStart => exact ⟨i0, i0 + 1, G, rfl, by go_num, HS, Lib.hid (below_own HR.out HB1.out), Lib.hid (Keeps.of_below HB1.out fun b hb => hb.1), by omega⟩
    case round =>
      obtain ⟨i, j, E, rfl, rfl, hD, hR, hK, hj⟩ := hrel
      clear HS HB1 hi0
      have hij := hD.out.lt
      have hEl := hD.out.len
      by_cases hlt : j < G.length
      · have hlti : (j : Int) < (G.length : Int) := by omega
        have hlti2 : (i : Int) < (G.length : Int) := by omega
        have k0 := (hR.out.cellAt (j * 2) (by omega)).trans (gcs_get E j (by rw [hEl]; exact hlt)).1
        have k1 := (hR.out.cellAt (j * 2 + 1) (by omega)).trans (gcs_get E j (by rw [hEl]; exact hlt)).2
        have hpb : pb < wr.heap.size := (hR.out.lt pb rfl).2
        rw [hD.out.at_ hlt] at k0 k1
        obtain ⟨ta, tl, tc, htv⟩ := HT.out _ (List.getElem_mem hlt)
        have hfl : fb < w.heap.size := cell_lt HC.out
        have hcr := (hK.out.cell fb 0 ⟨hfl, hfp⟩).trans HC.out
        have hfw := cell_lt hcr
        have HKE : Hid (keepP bl G[j] = true → DelI bl G (E.set i G[j]) (i + 1) (j + 1)) := Lib.hid fun h => hD.out.keep hlt h
        have HSK : Hid (keepP bl G[j] = false → DelI bl G E i (j + 1)) := Lib.hid fun h => hD.out.skip hlt h
        have hkp : keepP bl G[j] = !decide ((G[j].n : Int) < bl) := rfl
        have HKP := Lib.hid hkp
        generalize G[j] = g at k0 k1 htv HKE HSK HKP
        rw [htv] at k1
        have HTV := Lib.hid htv
        have HP := Lib.hid (pred_any g.n ta tl tc fb bl (wr.alloc (.cells #[.int .i64 (g.n : Int), .slice ta tl tc] 78)) (Lib.cell?_alloc_some _ hcr))
        clear hkp hcr htv
        obtain ⟨W1, hW1⟩ : ∃ W1, W1 = wr.alloc (.cells #[.int .i64 (g.n : Int), .slice ta tl tc] 78) := ⟨_, rfl⟩
        have hal := al1 wr (.cells #[.int .i64 (g.n : Int), .slice ta tl tc] 78)
        have b0 : (wr.alloc (.cells #[.int .i64 (g.n : Int), .slice ta tl tc] 78)).cell? ⟨wr.heap.size, 0, none⟩ = some (.int .i64 (g.n : Int)) := by rw [World.cell?_alloc_mark]; rfl
        have b1 : (wr.alloc (.cells #[.int .i64 (g.n : Int), .slice ta tl tc] 78)).cell? ⟨wr.heap.size, 1, none⟩ = some (.slice ta tl tc) := by rw [World.cell?_alloc_mark]; rfl
        have hw1 : wr.heap.size < (wr.alloc (.cells #[.int .i64 (g.n : Int), .slice ta tl tc] 78)).heap.size := by simp
        have B0 := Lib.hid (And.intro b0 (And.intro b1 (And.intro hw1 hal)))
        clear b0 b1 hw1 hal hW1
        go_wp2_with fail
        refine HP.out.mono ?_
        rintro e w2 ⟨rfl, hb2⟩
        have c0 := (hb2.cell (p := ⟨wr.heap.size, 0, none⟩) B0.out.2.2.1).trans B0.out.1
        have c1 := (hb2.cell (p := ⟨wr.heap.size, 1, none⟩) B0.out.2.2.1).trans B0.out.2.1
        have hb12 := bt B0.out.2.2.2 hb2
        have hr2 := below_own hR.out hb12
        have d0 := hr2.cellAt (i * 2) (by omega)
        have d1 := hr2.cellAt (i * 2 + 1) (by omega)
        rw [(gcs_get E i (by omega)).1] at d0
        rw [(gcs_get E i (by omega)).2] at d1
        have f0 := hr2.frozenAt (i * 2)
        have f1 := hr2.frozenAt (i * 2 + 1)
        have hpb2 : pb < w2.heap.size := Nat.lt_of_lt_of_le hpb hb12.size
        have hws2 : wr.heap.size < w2.heap.size := Nat.lt_of_lt_of_le B0.out.2.2.1 hb2.size
        have HR2 := Lib.hid hr2
        have HK2 := Lib.hid (hK.out.trans (Keeps.of_below hb12 fun b hb => Nat.lt_of_lt_of_le hb.1 hK.out.size))
        clear hb2 hb12 hr2 HP B0 k0 k1
        by_cases hb : (g.n : Int) < bl
        · have hbt : decide ((g.n : Int) < bl) = true := decide_eq_true hb
          rw [hbt] at HKP ⊢
          clear d0 d1 f0 f1 c0 c1
          go_wp2
          go_roundw
          case rel => exact ⟨i, j + 1, E, rfl, by go_num, Lib.hid (HSK.out HKP.out), HR2, HK2, by omega⟩
          case measure => simp [intOf]; omega
        · have hbt : decide ((g.n : Int) < bl) = false := decide_eq_false hb
          rw [hbt] at HKP ⊢
          go_wp2
          go_roundw
          case rel =>
            have h1 := (HR2.out.stored (i * 2) (.int .i64 (g.n : Int))).1
            have h2 := (h1.stored (i * 2 + 1) (.slice ta tl tc)).1
            rw [← HTV.out, gcs_set2] at h2
            rw [HTV.out] at h2
            refine ⟨i + 1, j + 1, E.set i g, by go_num, by go_num, Lib.hid (HKE.out HKP.out), Lib.hid h2, Lib.hid ?_, by omega⟩
            exact (HK2.out.trans (Keeps.setCell _ _ fun b hb => hb.2)).trans (Keeps.setCell _ _ fun b hb => hb.2)
          case measure => simp [intOf]; omega
      · have hje : j = G.length := by omega
        have hlti : ¬ (j : Int) < (G.length : Int) := by omega
        have hlow := hD.out.low
        rw [hje, List.take_length] at hlow
        have hfl : (G.filter (keepP bl)).length = i := by rw [← hlow, List.length_take]; omega
        obtain ⟨cur, hh, hsz, htk⟩ : ∃ cur, wr.heap[pb]? = some (.cells cur 78 (0, 0)) ∧ cur.size = cap * 2 ∧ cur.toList.take (G.length * 2) = gcs E := by
          rcases hR.out.2 with ⟨h, _⟩ | ⟨g, cap', cur, hv, _, hh, _, _, h1, h2⟩
          · cases h
          · cases hv; exact ⟨cur, hh, h1, h2⟩
        have hcm2 : cap ≤ maxLen := by
          rcases hR.out.2 with ⟨h, _⟩ | ⟨g, cap', cur, hv, _, _, _, h1, _⟩
          · cases h
          · cases hv; exact h1
        obtain ⟨vs, hvs, hcl⟩ := run_clear_pairs wr 73 78 0 _ (.int .i64 0) (.slice none 0 0) Tryz.underlying73 Tryz.zeroValue78 rfl rfl rfl pb (i * 2) (G.length - i) (cap - i) (by omega) cur 78 hh (by rw [hsz]; omega)
        have HCL := Lib.hid hcl
        have HH := Lib.hid (And.intro hh (And.intro hsz htk))
        have HF := Lib.hid (And.intro hlow hfl)
        have hi1 : (i : Int) ≤ (G.length : Int) := by omega
        have hi2 : (i : Int) ≤ (cap : Int) := by omega
        clear hh hsz htk hlow hfl
        go_wp2
        go_ret
        unfold DelE
        rw [HF.out.2]
        obtain ⟨hh, hsz, htk⟩ := HH.out
        have hD2 := hD.out.low
        have hei : E.take i = G.filter (keepP bl) := HF.out.1
        refine ⟨rfl, ⟨?_, .inr ⟨pb, cap, _, rfl, Nat.zero_le _, setRow_heap wr pb cur _ _ _ hh, by omega, hcm2, ?_, ?_⟩⟩, hK.out.trans ⟨rfl, rfl, rfl, by simp, fun b hb => setRow_other _ _ _ _ hb.2⟩⟩
        · rw [← hei, gcs_length, List.length_take]; omega
        · simp only [List.size_toArray, List.length_append, List.length_take, List.length_drop, Array.length_toList, hvs]
          omega
        · rw [List.take_append_of_le_length (by rw [List.length_take, Array.length_toList]; omega), List.take_take, Nat.min_self, ← hei, ← gcs_take, ← htk, List.take_take, Nat.min_eq_left (by omega)]
end Go.Proofs.YtkfmjkcomjmedaaGreat
namespace Go.Proofs.YtkfmjkcomjmedaaGreat
open Go.RowKit Go.Lib
set_option linter.unusedVariables false
set_option linter.unusedSimpArgs false

theorem WalAt.cutp {own lo : Nat → Prop} {w w2 : World} {l d : Nat} {S : Ds} {G G' : List Gp} {pb cap : Nat} {c : Gp → Bool} (hd : DiskAt (fun b => own b ∨ lo b) w d S) (hl : LogAt lo w l d (.slice (some ⟨pb, 0, none⟩) G.length cap) G) (hno : ∀ b, lo b → ¬ own b) (hG : G' = G.filter c)
    (hrow : w2.ownsRow 0 78 2 (.slice (some ⟨pb, 0, none⟩) G'.length cap) G'.length (gcs G')) (hk : Keeps (fun b => b < w.heap.size ∧ b ≠ pb) w w2) :
    WalAt own (w2.setCell ⟨l, 2, none⟩ (.slice (some ⟨pb, 0, none⟩) G'.length cap)) l d S (G'.map Gp.lt) ∧ Keeps own w (w2.setCell ⟨l, 2, none⟩ (.slice (some ⟨pb, 0, none⟩) G'.length cap)) := by
  have hlw := hd.own (b := l) (.inr hl.ll)
  have hpb := hl.lp pb rfl
  have hlpb : l ≠ pb := fun e => by
    obtain ⟨_, cc, e'⟩ := row_at hl.pa.row (r := pb) rfl
    have := hl.lb
    rw [e, e'] at this; cases this
  have hs := hk.size
  have hl2 : w2.heap[l]? = _ := (hk.block l ⟨hlw, hlpb⟩).trans hl.lb
  obtain ⟨U, hU⟩ : ∃ U, U = Value.slice (some ⟨pb, 0, none⟩) G'.length cap := ⟨_, rfl⟩
  have hUb : U.ownBlock = some pb := by rw [hU]; rfl
  rw [← hU] at hrow ⊢
  have hsz : (w2.setCell ⟨l, 2, none⟩ U).heap.size = w2.heap.size := by simp [World.setCell]
  have same : ∀ b, b < w.heap.size → b ≠ l → b ≠ pb → (w2.setCell ⟨l, 2, none⟩ U).heap[b]? = w.heap[b]? := fun b hb h1 h2 =>
    (Below.heap_setCell _ _ _ _ h1).trans (hk.block b ⟨hb, h2⟩)
  have hd2 := hd.others (w' := w2.setCell ⟨l, 2, none⟩ U) (fun b hb hb' => same b hb (fun e => hb' (.inr (e ▸ hl.ll))) (fun e => hb' (.inr (e ▸ hpb)))) (by rw [hsz]; omega)
  have hsub : ∀ g ∈ G', g ∈ G := fun g hg => by rw [hG] at hg; exact (List.mem_filter.1 hg).1
  have hp : PartsAt w2 0 U G' := ⟨hrow, fun g hg => own_same (hl.pa.tx g (hsub g hg)) fun r hr => hk.block r ⟨((hl.pa.tx g (hsub g hg)).lt r hr).2, fun e => by
    obtain ⟨_, c1, e1⟩ := row_at (hl.pa.tx g (hsub g hg)) hr
    obtain ⟨_, c2, e2⟩ := row_at hl.pa.row (r := pb) rfl
    rw [e, e2] at e1; cases e1⟩, by rw [hG]; exact hl.pa.ap.filter _⟩
  refine ⟨⟨lo, U, G', hd2.weaken fun b hb => hb.elim (fun h => .inl (.inl h)) (fun h => .inl (.inr h)), ⟨?_, hp.cellL hl2 2 _, hl.ll, fun r hr => ?_, fun g hg r hr => hl.lt g (hsub g hg) r hr, fun g hg => hl.num g (hsub g hg)⟩, rfl, hno⟩, ⟨?_, ?_, ?_, by rw [hsz]; omega, fun b hb => ?_⟩⟩
  · rw [setCell_at hl2]; rfl
  · rw [hUb] at hr; cases hr; exact hpb
  · exact hk.os
  · exact hk.tape
  · exact hk.output
  · exact same b (hd.own (.inl hb)) (fun e => hno l hl.ll (e ▸ hb)) (fun e => hno pb hpb (e ▸ hb))
theorem filter_lt (G : List Gp) (bl : Int) : (G.filter (keepP bl)).map Gp.lt = (G.map Gp.lt).filter fun p => !decide ((p.1 : Int) < bl) := by
  rw [List.filter_map]
  rfl
set_option maxRecDepth 100000 in
set_option maxHeartbeats 400000 in
theorem drop_big {own : Nat → Prop} {w : World} {l d n : Nat} {S : Ds} {L0 : Lt} {ts : List (List UInt8)} (h : WalAt own w l d S (L0 ++ [(n, ts)])) (bl : Int) (hbl : (n : Int) < bl) :
    Calls Tryz.prog 24 #[.pointer (some ⟨l, 0, none⟩), .int .i64 bl] w fun e w' => e = .returned (.int .i64 1) ∧ Below w.heap.size w w' := by
  have HLast := Lib.hid (last_any h)
  obtain ⟨lo, pv, G, -, hl, -, -⟩ := h
  have hg := lgiven_yes l w hl.cells.c0
  clear hl
  go_enter Tryz.func24, Tryz.ntmps24
  go_wp2_with (first
    | (go_at_call 31; refine hg.mono ?_; rintro e w' ⟨rfl, rfl⟩)
    | (go_at_call 12; refine HLast.out.mono ?_; rintro e w1 ⟨rfl, hb⟩; have HB := Lib.hid hb; clear hb))
  go_ret
  exact ⟨rfl, HB.out⟩
set_option maxRecDepth 100000 in
set_option maxHeartbeats 800000 in
theorem drop_any {own : Nat → Prop} {w : World} {l d n : Nat} {S : Ds} {L0 : Lt} {ts : List (List UInt8)} (h : WalAt own w l d S (L0 ++ [(n, ts)])) (bl : Int) (hbl : bl ≤ (n : Int)) (hlen : L0.length + 1 ≤ 1000000) :
    Calls Tryz.prog 24 #[.pointer (some ⟨l, 0, none⟩), .int .i64 bl] w fun e w' => e = .returned (.int .i64 (S.rm bl).2) ∧ WalAt own w' l d (S.rm bl).1 (if (S.rm bl).2 = 0 then (L0 ++ [(n, ts)]).filter (fun p => !decide ((p.1 : Int) < bl)) else L0 ++ [(n, ts)]) ∧ Keeps own w w' := by
  have HLast := Lib.hid (last_any h)
  have H := Lib.hid h
  have hg : Calls Tryz.prog 31 #[.pointer (some ⟨l, 0, none⟩)] w fun e w' => e = .returned (.bool true) ∧ w = w' := by
    obtain ⟨lo, pv, G, -, hl, -, -⟩ := h
    exact lgiven_yes l w hl.cells.c0
  obtain ⟨⟨S1, E⟩, hR⟩ : ∃ R, R = S.rm bl := ⟨_, rfl⟩
  have HR := Lib.hid hR
  rw [← hR]
  simp only
  clear h hR
  have key : ∀ (w1 : World), Below w.heap.size w w1 → ∃ own1 : Nat → Prop, own1 w1.heap.size ∧ (∀ b, own b → own1 b) ∧ WalAt own1 (w1.alloc (.cells #[.int .i64 bl] 76)) l d S (L0 ++ [(n, ts)]) := fun w1 hb1 =>
    ⟨fun b => own b ∨ b = w1.heap.size, .inr rfl, fun b hb => .inl hb, (H.out.below hb1).lent _⟩
  have HKey := Lib.hid key
  clear key
  by_cases h0 : E = 0
  · subst h0
    rw [if_pos rfl]
    go_enter Tryz.func24, Tryz.ntmps24
    go_wp2_with fail
    refine hg.mono ?_
    rintro e w' ⟨rfl, rfl⟩
    go_wp2_with fail
    refine HLast.out.mono ?_
    rintro e w1 ⟨rfl, hb1⟩
    obtain ⟨own1, ho1, ho2, hw1⟩ := HKey.out w1 hb1
    have HB1 := Lib.hid hb1
    have HO2 := Lib.hid ho2
    have HW1 := Lib.hid hw1
    have hfb : (w1.alloc (.cells #[.int .i64 bl] 76)).cell? ⟨w1.heap.size, 0, none⟩ = some (.int .i64 bl) := by rw [World.cell?_alloc_mark]; rfl
    have HFB := Lib.hid hfb
    have HOB := Lib.hid ho1
    clear hb1 ho2 hw1 HKey HLast hg hfb ho1
    go_wp2_with fail
    obtain ⟨x1, hx1⟩ : ∃ x1, x1 = w1.alloc (.cells #[.int .i64 bl] 76) := ⟨_, rfl⟩
    rw [← hx1] at HW1 HFB ⊢
    have HX1 := Lib.hid hx1
    have hxs : w1.heap.size < x1.heap.size := by rw [hx1]; simp
    clear hx1
    have hKX : Keeps own w1 x1 := by rw [HX1.out]; exact Keeps.of_below (al1 _ _) fun b hb => Nat.lt_of_lt_of_le (H.out.own hb) HB1.out.size
    have KX := Lib.hid hKX
    clear hKX
    obtain ⟨lo, pv, G, hd, hl, hL, hno⟩ := HW1.out
    have c1 := hl.cells.c1
    have clt := hl.cells.lt
    have cfb := HFB.out
    have HD := Lib.hid hd
    have HL := Lib.hid hl
    have HLt := Lib.hid hL
    have HNO := Lib.hid hno
    clear hd hl hL hno
    refine below_tail 5 (by kernel_rfl) (by kernel_rfl) ?_
    simp only [List.take_succ_cons, List.take_zero, List.drop_succ_cons, List.drop_zero]
    repeat (first
      | go_big_quiet_skip
      | (go_big_quiet_want
         first
         | (refine BigFrame.quiet_move _ rfl ?_)
         | (refine BigFrame.quiet_assign _ rfl ?_)
         | (unfold Oper.quiet
            apply Exists.intro
            refine ⟨fun w' hw' => ?_, ?_⟩
            · (obtain ⟨hc', hf'⟩ := bcell hw'
               go_simp
               first
               | done
               | exact rfl))
         go_big_quiet_on
         simp only [Act.put, Act.eval, List.setIfInBounds_toArray, List.set_cons_zero, List.set_cons_succ, Array.getD_eq_getD_getElem?, List.getElem?_toArray, List.getElem?_cons_zero, List.getElem?_cons_succ, Option.getD_some]))
    refine wpQuiet_nil ?_
    intro w' hw'
    have C := removes_any (bl := bl) (HD.out.below hw')
    rw [← HR.out] at C
    have HC := Lib.hid C
    have HK := Lib.hid (Keeps.of_below hw' fun b (hb : own1 b ∨ lo b) => HD.out.own hb)
    clear C hw' c1 cfb
    go_wp2_with fail
    refine HC.out.mono ?_
    rintro e w2 ⟨rfl, hd2, hk2⟩
    have hkk := HK.out.trans hk2
    have HK2 := Lib.hid hkk
    have HD2 := Lib.hid hd2
    have hl2 := HL.out.same fun b hb => hkk.block b (.inr hb)
    have HL2 := Lib.hid hl2
    have hfin : Keeps own w w2 := by
      have h1 : Keeps own w w1 := Keeps.of_below HB1.out fun b hb => H.out.own hb
      exact h1.trans (KX.out.trans (hkk.mono fun b hb => .inl (HO2.out b hb)))
    have HFIN := Lib.hid hfin
    clear hd2 hk2 hkk hl2 hfin HC HK
    obtain ⟨pa, pc, rfl⟩ := row_slice HL2.out.pa.row
    have hGl : G.length = L0.length + 1 := by have := congrArg List.length HLt.out; rw [List.length_map, List.length_append] at this; simpa using this
    obtain ⟨pb, rfl⟩ : ∃ pb, pa = some ⟨pb, 0, none⟩ := by
      rcases HL2.out.pa.row.2 with ⟨_, h⟩ | ⟨pb, cap, cur, hv, _⟩
      · omega
      · cases hv; exact ⟨pb, rfl⟩
    have HGl := Lib.hid hGl
    clear hGl
    have c2 := HL2.out.cells.c2
    have clt2 := HL2.out.cells.lt
    have hcf : w2.cell? ⟨w1.heap.size, 0, none⟩ = some (.int .i64 bl) := (HK2.out.cell _ 0 (.inl HOB.out)).trans HFB.out
    have hfp : w1.heap.size ≠ pb := fun e => HNO.out pb (HL2.out.lp pb rfl) (e ▸ HOB.out)
    have hdel := del_any HL2.out.pa.row (fun g hg => by obtain ⟨a, c, e⟩ := row_slice (HL2.out.pa.tx g hg); exact ⟨a, _, c, e⟩) hcf hfp (by have := HGl.out; omega)
    have HDel := Lib.hid hdel
    clear hcf hfp hdel
    go_wp2_with fail
    refine HDel.out.mono ?_
    rintro e w3 ⟨rfl, hrow3, hk3⟩
    have hcut := WalAt.cutp (c := keepP bl) HD2.out HL2.out HNO.out rfl hrow3 hk3
    have hl3 : w3.heap[l]? = w2.heap[l]? := hk3.block l ⟨clt2, fun e => by
      obtain ⟨_, cc, e'⟩ := row_at HL2.out.pa.row (r := pb) rfl
      have := HL2.out.lb
      rw [e, e'] at this; cases this⟩
    have hc3 := (World.cell?_of_block (a := ⟨l, 2, none⟩) hl3).trans c2
    have hf3 := (World.frozen?_of_block (a := ⟨l, 2, none⟩) hl3).trans HL2.out.cells.f2
    have hs3 : l < w3.heap.size := Nat.lt_of_lt_of_le clt2 hk3.size
    rw [filter_lt, HLt.out] at hcut
    have HCut := Lib.hid hcut
    clear hrow3 hk3 hcut hl3 c2 HDel
    go_wp2
    go_ret
    exact ⟨rfl, HCut.out.1.weaken HO2.out, HFIN.out.trans (HCut.out.2.mono HO2.out)⟩
  · rw [if_neg h0]
    have hX : (E != 0) = true := by simpa using h0
    go_enter Tryz.func24, Tryz.ntmps24
    go_wp2_with fail
    refine hg.mono ?_
    rintro e w' ⟨rfl, rfl⟩
    go_wp2_with fail
    refine HLast.out.mono ?_
    rintro e w1 ⟨rfl, hb1⟩
    obtain ⟨own1, ho1, ho2, hw1⟩ := HKey.out w1 hb1
    have HB1 := Lib.hid hb1
    have HO2 := Lib.hid ho2
    have HW1 := Lib.hid hw1
    have hfb : (w1.alloc (.cells #[.int .i64 bl] 76)).cell? ⟨w1.heap.size, 0, none⟩ = some (.int .i64 bl) := by rw [World.cell?_alloc_mark]; rfl
    have HFB := Lib.hid hfb
    have HOB := Lib.hid ho1
    clear hb1 ho2 hw1 HKey HLast hg hfb ho1
    go_wp2_with fail
    obtain ⟨x1, hx1⟩ : ∃ x1, x1 = w1.alloc (.cells #[.int .i64 bl] 76) := ⟨_, rfl⟩
    rw [← hx1] at HW1 HFB ⊢
    have HX1 := Lib.hid hx1
    have hxs : w1.heap.size < x1.heap.size := by rw [hx1]; simp
    clear hx1
    have hKX : Keeps own w1 x1 := by rw [HX1.out]; exact Keeps.of_below (al1 _ _) fun b hb => Nat.lt_of_lt_of_le (H.out.own hb) HB1.out.size
    have KX := Lib.hid hKX
    clear hKX
    obtain ⟨lo, pv, G, hd, hl, hL, hno⟩ := HW1.out
    have c1 := hl.cells.c1
    have clt := hl.cells.lt
    have cfb := HFB.out
    have HD := Lib.hid hd
    have HL := Lib.hid hl
    have HLt := Lib.hid hL
    have HNO := Lib.hid hno
    clear hd hl hL hno
    refine below_tail 5 (by kernel_rfl) (by kernel_rfl) ?_
    simp only [List.take_succ_cons, List.take_zero, List.drop_succ_cons, List.drop_zero]
    repeat (first
      | go_big_quiet_skip
      | (go_big_quiet_want
         first
         | (refine BigFrame.quiet_move _ rfl ?_)
         | (refine BigFrame.quiet_assign _ rfl ?_)
         | (unfold Oper.quiet
            apply Exists.intro
            refine ⟨fun w' hw' => ?_, ?_⟩
            · (obtain ⟨hc', hf'⟩ := bcell hw'
               go_simp
               first
               | done
               | exact rfl))
         go_big_quiet_on
         simp only [Act.put, Act.eval, List.setIfInBounds_toArray, List.set_cons_zero, List.set_cons_succ, Array.getD_eq_getD_getElem?, List.getElem?_toArray, List.getElem?_cons_zero, List.getElem?_cons_succ, Option.getD_some]))
    refine wpQuiet_nil ?_
    intro w' hw'
    have C := removes_any (bl := bl) (HD.out.below hw')
    rw [← HR.out] at C
    have HC := Lib.hid C
    have HK := Lib.hid (Keeps.of_below hw' fun b (hb : own1 b ∨ lo b) => HD.out.own hb)
    clear C hw' c1 cfb
    go_wp2_with fail
    refine HC.out.mono ?_
    rintro e w2 ⟨rfl, hd2, hk2⟩
    have hkk := HK.out.trans hk2
    have HK2 := Lib.hid hkk
    have HD2 := Lib.hid hd2
    have hl2 := HL.out.same fun b hb => hkk.block b (.inr hb)
    have HL2 := Lib.hid hl2
    have hfin : Keeps own w w2 := by
      have h1 : Keeps own w w1 := Keeps.of_below HB1.out fun b hb => H.out.own hb
      exact h1.trans (KX.out.trans (hkk.mono fun b hb => .inl (HO2.out b hb)))
    have HFIN := Lib.hid hfin
    clear hd2 hk2 hkk hl2 hfin HC HK
    go_wp2
    go_ret
    exact ⟨rfl, (show WalAt own1 w2 l d S1 (L0 ++ [(n, ts)]) from ⟨lo, pv, G, HD2.out, HL2.out, HLt.out, HNO.out⟩).weaken HO2.out, HFIN.out⟩
end Go.Proofs.YtkfmjkcomjmedaaGreat
