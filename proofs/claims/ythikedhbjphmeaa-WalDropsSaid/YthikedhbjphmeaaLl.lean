/-
  Layer 6 (wal): what a log is in memory, beside its disk; how both stay behind what others do. Contracts of given, end, Last, Flush. Conditions: none.
-/
import Derived.Test.YthikedhbjphmeaaLr
namespace Go.Proofs.Ythikedhbjphmeaa
open Go.RowKit Go.Lib
set_option linter.unusedVariables false
set_option linter.unusedSimpArgs false

/-- A log's own blocks, the numbers and texts of its files. -/
structure LogAt (lo : Nat → Prop) (w : World) (l d : Nat) (pv : Value) (G : List Gp) : Prop where
  lb : w.heap[l]? = some (.cells #[.pointer (some ⟨l, 0, none⟩), .pointer (some ⟨d, 0, none⟩), pv] 48 (0, 0))
  pa : PartsAt w 0 pv G
  ll : lo l
  lp : ∀ r, pv.ownBlock = some r → lo r
  lt : ∀ g ∈ G, ∀ r, g.tv.ownBlock = some r → lo r
  num : ∀ g ∈ G, g.n ≤ 99999998
theorem LogAt.same {lo : Nat → Prop} {w w' : World} {l d : Nat} {pv : Value} {G : List Gp} (h : LogAt lo w l d pv G) (hs : ∀ b, lo b → w'.heap[b]? = w.heap[b]?) : LogAt lo w' l d pv G :=
  ⟨(hs _ h.ll).trans h.lb, h.pa.same (fun r hr => hs _ (h.lp r hr)) (fun g hg r hr => hs _ (h.lt g hg r hr)), h.ll, h.lp, h.lt, h.num⟩
/-- A log beside its disk; the blocks of 'own' are neither's. -/
def WalAt (own : Nat → Prop) (w : World) (l d : Nat) (S : Ds) (L : Lt) : Prop := ∃ lo pv G, DiskAt (fun b => own b ∨ lo b) w d S ∧ LogAt lo w l d pv G ∧ G.map Gp.lt = L ∧ ∀ b, lo b → ¬ own b
theorem WalAt.own {own : Nat → Prop} {w : World} {l d : Nat} {S : Ds} {L : Lt} (h : WalAt own w l d S L) {b : Nat} (hb : own b) : b < w.heap.size := by
  obtain ⟨lo, pv, G, hd, _⟩ := h
  exact hd.own (.inl hb)
section
variable {own : Nat → Prop} {w w' : World} {l d : Nat} {S : Ds} {L : Lt}
theorem WalAt.below (h : WalAt own w l d S L) (hb : Below w.heap.size w w') : WalAt own w' l d S L := by
  obtain ⟨lo, pv, G, hd, hl, hL, hn⟩ := h
  exact ⟨lo, pv, G, hd.below hb, hl.same fun b hb' => hb.block b (hd.own (.inr hb')), hL, hn⟩
theorem WalAt.drew (h : WalAt own w l d S L) : WalAt own w.drew l d S L := h.below ((Below.refl _ _).drew)
theorem WalAt.weaken (h : WalAt own w l d S L) {own' : Nat → Prop} (ho : ∀ b, own' b → own b) : WalAt own' w l d S L := by
  obtain ⟨lo, pv, G, hd, hl, hL, hn⟩ := h
  exact ⟨lo, pv, G, hd.weaken fun b hb => hb.imp (ho b) id, hl, hL, fun b hb hb' => hn b hb (ho b hb')⟩
theorem WalAt.fresh (h : WalAt own w l d S L) (hb : Below w.heap.size w w') : WalAt (fun b => own b ∨ (w.heap.size ≤ b ∧ b < w'.heap.size)) w' l d S L := by
  obtain ⟨lo, pv, G, hd, hl, hL, hn⟩ := h
  refine ⟨lo, pv, G, (hd.fresh hb).weaken fun b h => ?_, hl.same fun b hb' => hb.block b (hd.own (.inr hb')), hL, fun b hb1 hb2 => ?_⟩
  · rcases h with (h | h) | h
    · exact .inl (.inl h)
    · exact .inr h
    · exact .inl (.inr h)
  · rcases hb2 with h | h
    · exact hn b hb1 h
    · have := hd.own (b := b) (.inr hb1)
      omega
theorem WalAt.lent (h : WalAt own w l d S L) (o : Obj) : WalAt (fun b => own b ∨ b = w.heap.size) (w.alloc o) l d S L :=
  (h.fresh ((Below.refl _ _).alloc (Nat.le_refl _) o)).weaken fun b hb => hb.imp id fun e => by rw [e]; simp
theorem WalAt.setCell (h : WalAt own w l d S L) {a : Addr} (ha : own a.block) (u : Value) : WalAt own (w.setCell a u) l d S L := by
  obtain ⟨lo, pv, G, hd, hl, hL, hn⟩ := h
  exact ⟨lo, pv, G, hd.setCell (a := a) (.inl ha) u, hl.same fun b hb => Below.heap_setCell _ _ _ _ (fun e => hn b hb (e ▸ ha)), hL, hn⟩
/-- The disk alone, and the log beside it behind what is done to the disk. -/
theorem WalAt.disk (h : WalAt own w l d S L) : ∃ own', DiskAt own' w d S ∧ (∀ b, own b → own' b) ∧ ∀ w' S', DiskAt own' w' d S' → Keeps own' w w' → WalAt own w' l d S' L := by
  obtain ⟨lo, pv, G, hd, hl, hL, hn⟩ := h
  exact ⟨_, hd, fun b hb => .inl hb, fun w' S' hd' hk => ⟨lo, pv, G, hd', hl.same fun b hb => hk.block b (.inr hb), hL, hn⟩⟩
theorem WalAt.toDisk (h : WalAt own w l d S L) : DiskAt own w d S := by
  obtain ⟨lo, pv, G, hd, _⟩ := h
  exact hd.weaken fun b hb => .inl hb
end
/-! ### given, end -/
theorem infoLog : (Try.prog.info? 48).map (·.size) = some 3 := by kernel_rfl
theorem lptr_same (a : Addr) (w : World) : (binOp .eql 27 (.pointer (some a)) (.pointer (some a))).run Try.prog w = .ok (.bool true) w := by
  obtain ⟨j, hj, _⟩ := Option.map_eq_some_iff.1 infoLog
  exact run_eql_ptr_same w a Try.underlying27 hj
theorem lptr_nil_left (a : Addr) (w : World) : (binOp .eql 27 (.pointer none) (.pointer (some a))).run Try.prog w = .ok (.bool false) w := by
  have h : ∀ d : Nat, (Op.equalIn (d + 1) 27 (.pointer none) (.pointer (some a))).run Try.prog w = .ok false w := fun d => by
    simp [Op.equalIn, run_underlying Try.underlying27]
  simp only [binOp]
  simp [Op.equal, Op.maxDepth, h 9999]
theorem lgiven_yes (l : Nat) (w : World) (h : w.cell? ⟨l, 0, none⟩ = some (.pointer (some ⟨l, 0, none⟩))) : Calls Try.prog 25 #[.pointer (some ⟨l, 0, none⟩)] w fun e w' => e = .returned (.bool true) ∧ w = w' := by
  have E := lptr_same ⟨l, 0, none⟩
  go_enter Try.func25, Try.ntmps25
  go_wp2
  go_ret
  exact ⟨rfl, rfl⟩
theorem lgiven_nil (w : World) : Calls Try.prog 25 #[.pointer none] w fun e w' => e = .returned (.bool false) ∧ w = w' := by
  go_enter Try.func25, Try.ntmps25
  go_wp2
  go_ret
  exact ⟨rfl, rfl⟩
theorem lgiven_no (l : Nat) (w : World) (h : w.cell? ⟨l, 0, none⟩ = some (.pointer none)) : Calls Try.prog 25 #[.pointer (some ⟨l, 0, none⟩)] w fun e w' => e = .returned (.bool false) ∧ w = w' := by
  have E := lptr_nil_left ⟨l, 0, none⟩
  go_enter Try.func25, Try.ntmps25
  go_wp2
  go_ret
  exact ⟨rfl, rfl⟩
/-- What a walk reads of a log: its cells; its last part's. -/
structure LCells (w : World) (l d : Nat) (pv : Value) : Prop where
  c0 : w.cell? ⟨l, 0, none⟩ = some (.pointer (some ⟨l, 0, none⟩))
  c1 : w.cell? ⟨l, 1, none⟩ = some (.pointer (some ⟨d, 0, none⟩))
  c2 : w.cell? ⟨l, 2, none⟩ = some pv
  f2 : w.frozen? ⟨l, 2, none⟩ = false
  lt : l < w.heap.size
theorem LogAt.cells {lo : Nat → Prop} {w : World} {l d : Nat} {pv : Value} {G : List Gp} (h : LogAt lo w l d pv G) : LCells w l d pv :=
  ⟨cell_of h.lb 0, cell_of h.lb 1, cell_of h.lb 2, frozen_of h.lb 2, heap_lt h.lb⟩
theorem gcs_length (G : List Gp) : (gcs G).length = G.length * 2 := by
  induction G with
  | nil => rfl
  | cons g G ih =>
    have : gcs (g :: G) = [.int .i64 (g.n : Int), g.tv] ++ gcs G := rfl
    rw [this, List.length_append, ih, List.length_cons]
    simp only [List.length_cons, List.length_nil]
    omega
theorem gcs_last (G : List Gp) (g : Gp) : (gcs (G ++ [g]))[G.length * 2]? = some (.int .i64 (g.n : Int)) ∧ (gcs (G ++ [g]))[G.length * 2 + 1]? = some g.tv := by
  rw [← gcs_snoc, List.getElem?_append_right (by rw [gcs_length]; omega), List.getElem?_append_right (by rw [gcs_length]; omega), gcs_length]
  constructor
  · rw [Nat.sub_self]; rfl
  · rw [show G.length * 2 + 1 - G.length * 2 = 1 by omega]; rfl
/-- The last part's place and cells. -/
theorem LogAt.last {lo : Nat → Prop} {w : World} {l d : Nat} {pv : Value} {G : List Gp} {g : Gp} (h : LogAt lo w l d pv (G ++ [g])) : ∃ pb cap, pv = .slice (some ⟨pb, 0, none⟩) (G.length + 1) cap ∧ pb < w.heap.size ∧ lo pb ∧ G.length + 1 ≤ maxLen ∧
    w.cell? ⟨pb, G.length * 2, none⟩ = some (.int .i64 (g.n : Int)) ∧ w.cell? ⟨pb, G.length * 2 + 1, none⟩ = some g.tv ∧ w.frozen? ⟨pb, G.length * 2 + 1, none⟩ = false := by
  have hr := h.pa.row
  have hlen : (G ++ [g]).length = G.length + 1 := by simp
  rw [hlen] at hr
  have hl := h.lp
  rcases hr.2 with ⟨_, h0⟩ | ⟨pb, cap, cur, rfl, _, hh, hnc, hcm, _⟩
  · omega
  · have e1 := hr.cellAt (G.length * 2) (by omega)
    have e2 := hr.cellAt (G.length * 2 + 1) (by omega)
    rw [(gcs_last G g).1] at e1
    rw [(gcs_last G g).2] at e2
    exact ⟨pb, cap, rfl, heap_lt hh, hl pb rfl, by omega, e1, e2, hr.frozenAt _⟩
set_option maxRecDepth 100000 in
set_option maxHeartbeats 1000000 in
theorem end_any {w : World} {l d pb q cap : Nat} (h : LCells w l d (.slice (some ⟨pb, 0, none⟩) (q + 1) cap)) (hq : q + 1 ≤ maxLen) :
    Calls Try.prog 27 #[.pointer (some ⟨l, 0, none⟩)] w fun e w' => e = .returned (.pointer (some ⟨pb, q * 2, none⟩)) ∧ Below w.heap.size w w' := by
  obtain ⟨c0, c1, c2, f2, lt⟩ := h
  unfold maxLen at hq
  have hq1 : (q : Int) < (q : Int) + 1 := by omega
  have hwr := i64_wrap_nat q (by omega)
  go_enter Try.func27, Try.ntmps27
  go_wp2_with fail
  refine wp_region_below (by kernel_rfl) (by kernel_rfl) ?_
  repeat (first
    | go_big_quiet_skip
    | (go_big_quiet_want
       first
       | (refine BigFrame.quiet_move _ rfl ?_)
       | (refine BigFrame.quiet_assign _ rfl ?_)
       | (unfold Oper.quiet
          apply Exists.intro
          refine ⟨fun w' hw' => ?_, ?_⟩
          · (obtain ⟨hc', hf'⟩ := bcell hw'
             go_simp
             first
             | done
             | exact rfl))
       go_big_quiet_on
       simp only [Act.put, Act.eval, List.setIfInBounds_toArray, List.set_cons_zero, List.set_cons_succ, Array.getD_eq_getD_getElem?, List.getElem?_toArray, List.getElem?_cons_zero, List.getElem?_cons_succ, Option.getD_some]))
  refine wpQuiet_nil ?_
  intro w' hw'
  go_wp2
  go_ret
  exact ⟨rfl, hw'⟩

/-! ### Last, Flush -/
theorem snoc_of {L : Lt} {L0 : Lt} {n : Nat} {ts : List (List UInt8)} {G : List Gp} (h : G.map Gp.lt = L0 ++ [(n, ts)]) : ∃ G0 g, G = G0 ++ [g] ∧ G0.map Gp.lt = L0 ∧ g.n = n ∧ g.ts = ts := by
  have hne : G ≠ [] := by rintro rfl; simp at h
  obtain ⟨G0, g, rfl⟩ : ∃ G0 g, G = G0 ++ [g] := ⟨G.dropLast, G.getLast hne, (List.dropLast_concat_getLast _).symm⟩
  rw [List.map_append, List.map_singleton] at h
  have h2 := List.append_inj' h rfl
  have h3 : g.lt = (n, ts) := by simpa using h2.2
  exact ⟨G0, g, rfl, h2.1, congrArg Prod.fst h3, congrArg Prod.snd h3⟩
set_option maxRecDepth 100000 in
set_option maxHeartbeats 1000000 in
theorem last_any {own : Nat → Prop} {w : World} {l d n : Nat} {S : Ds} {L0 : Lt} {ts : List (List UInt8)} (h : WalAt own w l d S (L0 ++ [(n, ts)])) :
    Calls Try.prog 18 #[.pointer (some ⟨l, 0, none⟩)] w fun e w' => e = .returned (.int .i64 (n : Int)) ∧ Below w.heap.size w w' := by
  obtain ⟨lo, pv, G, hd, hl, hL, hno⟩ := h
  obtain ⟨G0, g, rfl, -, rfl, -⟩ := snoc_of (L := []) hL
  obtain ⟨pb, cap, rfl, hpb, hlo, hml, e1, e2, e3⟩ := hl.last
  have hnum := hl.num g (by simp)
  have hg := lgiven_yes l w hl.cells.c0
  have he := Lib.hid (end_any hl.cells hml)
  clear hd hl hL hno hlo e2 e3
  generalize G0.length = q at he e1 hml
  obtain ⟨j, hj⟩ : ∃ j, j = q * 2 := ⟨_, rfl⟩
  rw [← hj] at he e1
  clear hj
  go_enter Try.func18, Try.ntmps18
  go_wp2_with (first
    | (go_at_call 25; refine hg.mono ?_; rintro e w' ⟨rfl, rfl⟩)
    | (go_at_call 27; refine he.out.mono ?_; rintro e w2 ⟨rfl, hb⟩; have e1 := (hb.cell (p := ⟨pb, j, none⟩) hpb).trans e1; have HB := Lib.hid hb; clear hb))
  go_ret
  exact ⟨rfl, HB.out⟩
set_option maxRecDepth 100000 in
set_option maxHeartbeats 1000000 in
theorem flush_any {own : Nat → Prop} {w : World} {l d n : Nat} {S : Ds} {L0 : Lt} {ts : List (List UInt8)} (h : WalAt own w l d S (L0 ++ [(n, ts)])) :
    Calls Try.prog 11 #[.pointer (some ⟨l, 0, none⟩)] w fun e w' => e = .returned (.int .i64 (S.sync (lname n)).2) ∧ WalAt own w' l d (S.sync (lname n)).1 (L0 ++ [(n, ts)]) ∧ Keeps own w w' := by
  obtain ⟨own', hd, ho, hre⟩ := h.disk
  obtain ⟨lo, pv, G, -, hl, hL, -⟩ := h
  obtain ⟨G0, g, rfl, -, rfl, -⟩ := snoc_of (L := []) hL
  obtain ⟨pb, cap, rfl, hpb, hlo, hml, e1, e2, e3⟩ := hl.last
  have hnum := hl.num g (by simp)
  have hg := lgiven_yes l w hl.cells.c0
  obtain ⟨c0, c1, c2, f2, lt⟩ := hl.cells
  have he : ∀ w', Below w.heap.size w w' → Calls Try.prog 27 #[.pointer (some ⟨l, 0, none⟩)] w' fun e w'' => e = .returned (.pointer (some ⟨pb, G0.length * 2, none⟩)) ∧ Below w'.heap.size w' w'' := fun w' hb =>
    end_any ⟨(hb.cell (p := ⟨l, 0, none⟩) lt).trans c0, (hb.cell (p := ⟨l, 1, none⟩) lt).trans c1, (hb.cell (p := ⟨l, 2, none⟩) lt).trans c2, (hb.frozen (p := ⟨l, 2, none⟩) lt).trans f2, Nat.lt_of_lt_of_le lt hb.size⟩ hml
  have hF := Lib.hid (file_any g.n (by omega))
  have HRE := Lib.hid hre
  have HD := Lib.hid hd
  have HO := Lib.hid ho
  generalize G0.length = q at he e1 hml
  obtain ⟨j, hj⟩ : ∃ j, j = q * 2 := ⟨_, rfl⟩
  rw [← hj] at he e1
  have HE := Lib.hid he
  clear hd hre hl hL hlo e2 e3 hj he c0 c2 f2 ho
  generalize g.n = n at *
  go_enter Try.func11, Try.ntmps11
  go_wp2_with (go_at_call 25; refine hg.mono ?_; rintro e w' ⟨rfl, rfl⟩)
  refine below_tail 10 (by kernel_rfl) (by kernel_rfl) ?_
  simp only [List.take_succ_cons, List.take_zero, List.drop_succ_cons, List.drop_zero]
  repeat (first
    | go_big_quiet_skip
    | (go_big_quiet_want
       first
       | (refine BigFrame.quiet_move _ rfl ?_)
       | (refine BigFrame.quiet_assign _ rfl ?_)
       | (unfold Oper.quiet
          apply Exists.intro
          refine ⟨fun w' hw' => ?_, ?_⟩
          · (obtain ⟨hc', hf'⟩ := bcell hw'
             go_simp
             first
             | done
             | exact rfl
             | (go_at_call 27; refine (HE.out _ hw').mono ?_; rintro e w'' ⟨rfl, bb⟩; exact ⟨rfl, bt hw' bb⟩)
             | (go_at_call 29; refine (hF.out _).mono ?_; rintro e w'' ⟨rfl, bb⟩; exact ⟨rfl, bt hw' bb⟩)))
       go_big_quiet_on
       simp only [Act.put, Act.eval, List.setIfInBounds_toArray, List.set_cons_zero, List.set_cons_succ, Array.getD_eq_getD_getElem?, List.getElem?_toArray, List.getElem?_cons_zero, List.getElem?_cons_succ, Option.getD_some]))
  refine wpQuiet_nil ?_
  intro w' hw'
  have C := sync_any (HD.out.below hw') ⟨(lname n).toArray⟩ (lname_size n)
  rw [show (⟨(lname n).toArray⟩ : ByteArray).data.toList = lname n from rfl] at C
  have HC := Lib.hid C
  have HK := Lib.hid (Keeps.of_below hw' fun b (hb : own' b) => HD.out.own hb)
  clear C hw'
  go_wp2_with fail
  refine HC.out.mono ?_
  rintro e w2 ⟨rfl, hd2, hk⟩
  have HK2 := Lib.hid (HK.out.trans hk)
  have HD2 := Lib.hid hd2
  clear hk hd2
  go_wp2
  go_ret
  exact ⟨rfl, HRE.out _ _ HD2.out HK2.out, HK2.out.mono HO.out⟩
end Go.Proofs.Ythikedhbjphmeaa
