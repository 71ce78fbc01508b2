/-
  Layer 16 (post): contracts of reply with its pairs and of operation, over any way. Conditions: as each says.
-/
import Derived.Test.YtdnhmkfgcpdbkaaTj
namespace Go.Proofs.Ytdnhmkfgcpdbkaa
open Go.RowKit
set_option linter.unusedVariables false
set_option linter.unusedSimpArgs false
section
variable {σ : Type} {W : Way σ} {D b B : Nat} {G : Prop} {At : World → σ → Prop}
theorem listW_ok {zero : List Fld} {most : Nat} {s : σ} {L : List (List Fld)} (h : W.ok (listW W zero most s L).1) : W.ok s := W.mono _ _ _ _ (elsW_ok h)
/-- Fields, a list, fields. -/
def segW (W : Way σ) (zero : List Fld) (most : Nat) (s : σ) (A : List Fld) (L : List (List Fld)) (C : List Fld) : σ × List Fld × List (List Fld) × List Fld :=
  ((elemW W (listW W zero most (elemW W s A).1 L).1 C).1, (elemW W s A).2, (listW W zero most (elemW W s A).1 L).2, (elemW W (listW W zero most (elemW W s A).1 L).1 C).2)
theorem segW_ok {zero : List Fld} {most : Nat} {s : σ} {A : List Fld} {L : List (List Fld)} {C : List Fld} (h : W.ok (segW W zero most s A L C).1) : W.ok s := elemW_ok (listW_ok (elemW_ok h))
/-- A slice and what it leads to. -/
def LRow (G : Prop) (b B : Nat) (w : World) (p sz : Nat) (sv : Value) (L : List (List Fld)) : Prop := ∃ a n c, sv = .slice a n c ∧ L.length = n ∧ (L = [] ∨ ∃ rb ro, a = some ⟨rb, ro, none⟩ ∧ Loc G b B w rb ∧ rb ≠ p ∧ RowAt w rb ro sz L)
theorem LRow.next {w w' : World} {p o sz : Nat} {sv : Value} {L : List (List Fld)} {vs : List Value} (h : LRow G b B w p sz sv L) (hk : KB b B (w.setCells p o vs) w') : LRow G b B w' p sz sv L := by
  obtain ⟨a, n, c, h1, h2, h3⟩ := h
  refine ⟨a, n, c, h1, h2, ?_⟩
  rcases h3 with h3 | ⟨rb, ro, h3, h4, h5, h6⟩
  · exact .inl h3
  · have hl := Loc.sets p vs o w h4
    refine .inr ⟨rb, ro, h3, hl.keep hk, h5, RowAt.keep (w := w.setCells p o vs) (fun i hi => (h6 i hi).out (.inl h5)) hl hk⟩
/-- The same, and it is not the block wb. -/
def LRw (G : Prop) (b B : Nat) (w : World) (p sz wb : Nat) (sv : Value) (L : List (List Fld)) : Prop := ∃ a n c, sv = .slice a n c ∧ L.length = n ∧ (L = [] ∨ ∃ rb ro, a = some ⟨rb, ro, none⟩ ∧ Loc G b B w rb ∧ rb ≠ p ∧ rb ≠ wb ∧ RowAt w rb ro sz L)
theorem LRow.wb {w w' : World} {p sz : Nat} {sv : Value} {L : List (List Fld)} (h : LRow G b B w p sz sv L) (hk : KB b B w w') : LRw G b B w' p sz w.heap.size sv L := by
  obtain ⟨a, n, c, h1, h2, h3⟩ := h
  refine ⟨a, n, c, h1, h2, ?_⟩
  rcases h3 with h3 | ⟨rb, ro, h3, h4, h5, h6⟩
  · exact .inl h3
  · exact .inr ⟨rb, ro, h3, h4.keep hk, h5, by have := h4.2.1; omega, h6.keep h4 hk⟩
theorem LRw.next {w w' : World} {p o sz wb : Nat} {sv : Value} {L : List (List Fld)} {vs : List Value} (h : LRw G b B w p sz wb sv L) (hk : KB b B (w.setCells p o vs) w') : LRw G b B w' p sz wb sv L := by
  obtain ⟨a, n, c, h1, h2, h3⟩ := h
  refine ⟨a, n, c, h1, h2, ?_⟩
  rcases h3 with h3 | ⟨rb, ro, h3, h4, h5, h7, h6⟩
  · exact .inl h3
  · have hl := Loc.sets p vs o w h4
    refine .inr ⟨rb, ro, h3, hl.keep hk, h5, h7, RowAt.keep (w := w.setCells p o vs) (fun i hi => (h6 i hi).out (.inl h5)) hl hk⟩
def SPost (At : World → σ → Prop) (G : Prop) (b B : Nat) (w : World) (p o sz : Nat) (t : σ × List Fld × List (List Fld) × List Fld) (w' : World) : Prop :=
  ∃ sv, At w' t.1 ∧ KB b B (w.setCells p o (t.2.1.map Fld.cell ++ sv :: t.2.2.2.map Fld.cell)) w' ∧ LRow G b B w' p sz sv t.2.2.1
/-- How far a way has gone: vs as they are now (c of them); rest; a box of the way itself in block wb. -/
structure Cs (At : World → σ → Prop) (G : Prop) (D b B : Nat) (w0 : World) (p o wb : Nat) (vs : List Value) (c : Nat) (rest : List Fld) (s : σ) (wr : World) : Prop where
  st : At wr s
  kb : KB b B (w0.setCells p o vs) wr
  len : vs.length = c
  fa : FAt wr p (o + c) rest
  lo : Loc G b B wr p
  bx : wr.cell? ⟨wb, 0, none⟩ = some (.iface D (.pointer (some ⟨b, 0, none⟩)))
  lw : Loc G b B wr wb
theorem Cs.next {w0 wr w2 : World} {p o wb c : Nat} {vs vs2 : List Value} {g rest : List Fld} {s s2 : σ} (h : Cs At G D b B w0 p o wb vs c (g ++ rest) s wr) (hne : wb ≠ p) (h2 : At w2 s2) (hk : KB b B (wr.setCells p (o + c) vs2) w2) (hl : vs2.length = g.length) :
    Cs At G D b B w0 p o wb (vs ++ vs2) (c + g.length) rest s2 w2 := by
  have hls := Loc.sets p vs2 (o + c) wr h.lo
  have hlw := Loc.sets p vs2 (o + c) wr h.lw
  refine ⟨h2, ?_, by rw [List.length_append, h.len, hl], ?_, hls.keep hk, ?_, hlw.keep hk⟩
  · rw [setCells_app, h.len]
    exact (KB.sets (w := wr) (w' := wr) p h.lo.1 vs2 (o + c) h.kb).trans hk
  · have := FAt.out (x := p) (y := o + c) (vs := vs2) h.fa.app.2 (.inr (.inr (by rw [hl]; omega)))
    rw [← Nat.add_assoc]
    exact this.keep hls hk
  · rw [hlw.cell hk, World.cell?_setCells_out _ _ _ _ _ (fun e _ => absurd e hne)]
    exact h.bx
theorem Cs.old {w0 wr w' : World} {p o wb c : Nat} {vs : List Value} {rest : List Fld} {s : σ} (H : WayAt W D b B G At) (h : Cs At G D b B w0 p o wb vs c rest s wr) (hb : Below wr.heap.size wr w') : Cs At G D b B w0 p o wb vs c rest s w' := by
  have hk : KB b B wr w' := KB.of hb (H.lt wr s h.st).2
  exact ⟨H.old _ _ _ h.st hb, h.kb.trans hk, h.len, h.fa.keep h.lo hk, h.lo.keep hk, (h.lw.cell hk 0).trans h.bx, h.lw.keep hk⟩
/-- The last fields: all as it is then. -/
theorem Cs.last {w0 wr w2 : World} {p o wb c : Nat} {vs vs2 : List Value} {g : List Fld} {s s2 : σ} (h : Cs At G D b B w0 p o wb vs c g s wr) (hne : wb ≠ p) (h2 : At w2 s2) (hk : KB b B (wr.setCells p (o + c) vs2) w2) (hl : vs2.length = g.length) :
    At w2 s2 ∧ KB b B (w0.setCells p o (vs ++ vs2)) w2 ∧ KB b B (wr.setCells p (o + c) vs2) w2 := by
  refine ⟨h2, ?_, hk⟩
  rw [setCells_app, h.len]
  exact (KB.sets (w := wr) (w' := wr) p h.lo.1 vs2 (o + c) h.kb).trans hk
set_option maxRecDepth 100000 in
set_option maxHeartbeats 4000000 in
theorem trep1_any (H : WayAt W D b B G At) (w : World) (s : σ) (p o : Nat) (er : Int) (va : ByteArray) (g : Bool) (u : ByteArray) (sv : Value) (L : List (List Fld)) (h : At w s) (hp : Loc G b B w p) (hf : FAt w p o ([.n 0 maxN er, .t va, .f g] ++ ([.r sv] ++ [.t u]))) (hr : LRow G b B w p 2 sv L) (hsh : ∀ x ∈ L, isPair x) (hg : G ∨ L = []) (hlen : L.length ≤ maxLen) (hok : W.ok (segW W zeroPair 512 s [.n 0 maxN er, .t va, .f g] L [.t u]).1) :
    Calls Try.prog 33 #[.iface D (.pointer (some ⟨b, 0, none⟩)), .pointer (some ⟨p, o, none⟩), .bool true] w fun e w' => e = .returned (.tuple #[]) ∧ SPost At G b B w p o 2 (segW W zeroPair 512 s [.n 0 maxN er, .t va, .f g] L [.t u]) w' := by
  have HH := Lib.hid H
  obtain ⟨s1, A1, hA⟩ : ∃ s1 A1, elemW W s [.n 0 maxN er, .t va, .f g] = (s1, A1) := ⟨_, _, rfl⟩
  obtain ⟨s2, L2, hB⟩ : ∃ s2 L2, listW W zeroPair 512 s1 L = (s2, L2) := ⟨_, _, rfl⟩
  obtain ⟨s3, C1, hC⟩ : ∃ s3 C1, elemW W s2 [.t u] = (s3, C1) := ⟨_, _, rfl⟩
  have hsw : segW W zeroPair 512 s [.n 0 maxN er, .t va, .f g] L [.t u] = (s3, A1, L2, C1) := by unfold segW; simp only [hA, hB, hC]
  rw [hsw] at hok ⊢
  have hok3 : W.ok (elemW W s2 [.t u]).1 := by rw [hC]; exact hok
  have hok2 : W.ok (listW W zeroPair 512 s1 L).1 := by rw [hB]; exact elemW_ok hok3
  have hok1 : W.ok (elemW W s [.n 0 maxN er, .t va, .f g]).1 := by rw [hA]; exact listW_ok hok2
  have HA := Lib.hid hA
  have HB := Lib.hid hB
  have HC0 := Lib.hid hC
  have HO1 := Lib.hid hok1
  have HO2 := Lib.hid hok2
  have HO3 := Lib.hid hok3
  have HSH := Lib.hid hsh
  have HGG := Lib.hid hg
  have HLE := Lib.hid hlen
  have hst := H.lt w s h
  have hb1 := (Below.refl w.heap.size w).alloc (Nat.le_refl _) (.cells #[.iface D (.pointer (some ⟨b, 0, none⟩))] 87)
  have hk0 : KB b B w (w.alloc (.cells #[.iface D (.pointer (some ⟨b, 0, none⟩))] 87)) := KB.of hb1 hst.2
  have hwl : Loc G b B (w.alloc (.cells #[.iface D (.pointer (some ⟨b, 0, none⟩))] 87)) w.heap.size := Loc.new hst.1 hst.2 _ _ (by decide)
  have hne : w.heap.size ≠ p := by have := hp.2.1; omega
  have hcs : Cs At G D b B (w.alloc (.cells #[.iface D (.pointer (some ⟨b, 0, none⟩))] 87)) p o w.heap.size [] 0 ([.n 0 maxN er, .t va, .f g] ++ ([.r sv] ++ [.t u])) s (w.alloc (.cells #[.iface D (.pointer (some ⟨b, 0, none⟩))] 87)) := ⟨H.old _ _ _ h hb1, KB.refl _ _ _, rfl, hf.keep hp hk0, hp.keep hk0, (alloc_cell _ _ _ 0).trans rfl, hwl⟩
  have hrw := hr.wb hk0
  have HPN := Lib.hid hp.1
  clear hst hb1 H hok h hp hf hwl hr hsh hg hlen hA hB hC hsw hok1 hok2 hok3
  go_enter Try.func33, Try.ntmps33
  go_upto_region 1 with fail
  generalize (w.alloc (.cells #[.iface D (.pointer (some ⟨b, 0, none⟩))] 87)) = w1 at *
  generalize w.heap.size = wb at *
  have HRW := Lib.hid hrw
  have HNE := Lib.hid hne
  have HK0 := Lib.hid hk0
  have HS := Lib.hid hcs
  clear hrw hne hk0 hcs
  have HG := Lib.hid (Pg.start (W := W) HS.out.st (FAt.app (l := [.n 0 maxN er, .t va, .f g]) (r := ([.r sv] ++ [.t u])) HS.out.fa).1 HS.out.lo)
  have HW := Lib.hid HS.out.lw
  have HBX := Lib.hid HS.out.bx
  have HDL : Hid (([] : List Fld).length = 0) := Lib.hid rfl
  have HOK := Lib.hid HO1.out
  have hbx := (HG.out.box HW.out HNE.out HBX.out).1
  go_wp2_with fail
  refine mixed_region2 (D := (fun w' => w'.cell? ⟨wb, 0, none⟩ = some (.iface D (.pointer (some ⟨b, 0, none⟩))))) [0, 1, 2, 3] [4, 5] 5 (by kernel_rfl) (by kernel_rfl) (by decide) (hbx) ?_
  simp only [List.filterMap_cons, List.filterMap_nil, List.getElem?_cons_zero, List.getElem?_cons_succ]
  repeat (
    (first
     | (refine calm_move _ rfl ?_)
     | (apply calm_cons
        · (intro w' hw'
           first | (obtain ⟨hwa', hwb', hwc'⟩ := hw') | (obtain ⟨hwa', hwb'⟩ := hw') | skip
           go_simp
           first
           | done
           | exact rfl)))
    simp only [Act.put, Act.eval, List.setIfInBounds_toArray, List.set_cons_zero, List.set_cons_succ, Array.getD_eq_getD_getElem?, List.getElem?_toArray, List.getElem?_cons_zero, List.getElem?_cons_succ, Option.getD_some])
  refine calm_nil ?_
  have hst := HH.out.lt _ _ HG.out.st
  have hnb := ((Below.refl w1.heap.size w1).drew.alloc (Nat.le_refl _) (.cells #[.pointer (some ⟨p, o, none⟩)] 89))
  have HG1 := Lib.hid (HG.out.old HH.out hnb)
  have HVA : Hid (Loc G b B (w1.drew.alloc (.cells #[.pointer (some ⟨p, o, none⟩)] 89)) w1.drew.heap.size) := Lib.hid (Loc.new hst.1 hst.2 _ _ (by decide))
  have HNP : Hid (w1.drew.heap.size ≠ p) := Lib.hid (by have := HG.out.lo.2.1; show w1.heap.size ≠ _; omega)
  have HC := Lib.hid (Pg.nums HH.out (l := [er]) HG1.out HOK.out HDL.out w1.drew.heap.size 1 1 HVA.out HNP.out rfl (by omega) (fun i hi => match i, hi with | 0, _ => (alloc_cell _ _ _ 0).trans rfl))
  have HBD : Hid ((w1.drew.alloc (.cells #[.pointer (some ⟨p, o, none⟩)] 89)).cell? ⟨wb, 0, none⟩ = some (.iface D (.pointer (some ⟨b, 0, none⟩)))) := Lib.hid (HG1.out.box HW.out HNE.out HBX.out).1
  clear hbx hnb hst
  refine loud_cons fun K hK => ?_
  go_wp2_with fail
  refine hK _ _ (fun _ => HBD.out) ?_
  clear hK K
  refine loud_cons fun K hK => ?_
  have hbx := HBD.out
  go_wp2_with fail
  refine HC.out.mono ?_
  rintro e w2 ⟨rfl, d2, sx2, hd2, hg2⟩
  clear HG HDL HG1 HVA HNP HC HBD hbx
  have HG := Lib.hid hg2
  have HDL := Lib.hid hd2
  clear hg2 hd2
  go_wp2_with fail
  refine hK _ _ (fun hh => absurd rfl hh) ?_
  clear hK K
  refine loud_nil ?_
  have hbx := (HG.out.box HW.out HNE.out HBX.out).1
  go_wp2_with fail
  refine mixed_region2 (D := (fun w' => w'.cell? ⟨wb, 0, none⟩ = some (.iface D (.pointer (some ⟨b, 0, none⟩))))) [0, 1, 2, 3] [4, 5] 5 (by kernel_rfl) (by kernel_rfl) (by decide) (hbx) ?_
  simp only [List.filterMap_cons, List.filterMap_nil, List.getElem?_cons_zero, List.getElem?_cons_succ]
  repeat (
    (first
     | (refine calm_move _ rfl ?_)
     | (apply calm_cons
        · (intro w' hw'
           first | (obtain ⟨hwa', hwb', hwc'⟩ := hw') | (obtain ⟨hwa', hwb'⟩ := hw') | skip
           go_simp
           first
           | done
           | exact rfl)))
    simp only [Act.put, Act.eval, List.setIfInBounds_toArray, List.set_cons_zero, List.set_cons_succ, Array.getD_eq_getD_getElem?, List.getElem?_toArray, List.getElem?_cons_zero, List.getElem?_cons_succ, Option.getD_some])
  refine calm_nil ?_
  have hst := HH.out.lt _ _ HG.out.st
  have hnb := ((Below.refl w2.heap.size w2).drew.alloc (Nat.le_refl _) (.cells #[.pointer (some ⟨p, o + 1, none⟩)] 101))
  have HG1 := Lib.hid (HG.out.old HH.out hnb)
  have HVA : Hid (Loc G b B (w2.drew.alloc (.cells #[.pointer (some ⟨p, o + 1, none⟩)] 101)) w2.drew.heap.size) := Lib.hid (Loc.new hst.1 hst.2 _ _ (by decide))
  have HNP : Hid (w2.drew.heap.size ≠ p) := Lib.hid (by have := HG.out.lo.2.1; show w2.heap.size ≠ _; omega)
  have HC := Lib.hid (Pg.txts HH.out (l := [va]) HG1.out HOK.out HDL.out w2.drew.heap.size 1 1 HVA.out HNP.out rfl (by omega) (fun i hi => match i, hi with | 0, _ => (alloc_cell _ _ _ 0).trans rfl))
  have HBD : Hid ((w2.drew.alloc (.cells #[.pointer (some ⟨p, o + 1, none⟩)] 101)).cell? ⟨wb, 0, none⟩ = some (.iface D (.pointer (some ⟨b, 0, none⟩)))) := Lib.hid (HG1.out.box HW.out HNE.out HBX.out).1
  clear hbx hnb hst
  refine loud_cons fun K hK => ?_
  go_wp2_with fail
  refine hK _ _ (fun _ => HBD.out) ?_
  clear hK K
  refine loud_cons fun K hK => ?_
  have hbx := HBD.out
  go_wp2_with fail
  refine HC.out.mono ?_
  rintro e w3 ⟨rfl, d3, sx3, hd2, hg2⟩
  clear HG HDL HG1 HVA HNP HC HBD hbx
  have HG := Lib.hid hg2
  have HDL := Lib.hid hd2
  clear hg2 hd2
  go_wp2_with fail
  refine hK _ _ (fun hh => absurd rfl hh) ?_
  clear hK K
  refine loud_nil ?_
  have hbx := (HG.out.box HW.out HNE.out HBX.out).1
  go_wp2_with fail
  refine mixed_region2 (D := (fun w' => w'.cell? ⟨wb, 0, none⟩ = some (.iface D (.pointer (some ⟨b, 0, none⟩))))) [0, 1, 2, 3] [4] 4 (by kernel_rfl) (by kernel_rfl) (by decide) (hbx) ?_
  simp only [List.filterMap_cons, List.filterMap_nil, List.getElem?_cons_zero, List.getElem?_cons_succ]
  repeat (
    (first
     | (refine calm_move _ rfl ?_)
     | (apply calm_cons
        · (intro w' hw'
           first | (obtain ⟨hwa', hwb', hwc'⟩ := hw') | (obtain ⟨hwa', hwb'⟩ := hw') | skip
           go_simp
           first
           | done
           | exact rfl)))
    simp only [Act.put, Act.eval, List.setIfInBounds_toArray, List.set_cons_zero, List.set_cons_succ, Array.getD_eq_getD_getElem?, List.getElem?_toArray, List.getElem?_cons_zero, List.getElem?_cons_succ, Option.getD_some])
  refine calm_nil ?_
  have HG1 := Lib.hid (HG.out.old HH.out (Below.refl w3.heap.size w3).drew)
  have HC := Lib.hid (HG1.out.flag HH.out HOK.out HDL.out)
  clear hbx
  refine loud_cons fun K hK => ?_
  go_wp2_with fail
  refine HC.out.mono ?_
  rintro e w4 ⟨rfl, d4, sx4, hd2, hg2⟩
  clear HG HDL HG1 HC
  have HG := Lib.hid hg2
  have HDL := Lib.hid hd2
  clear hg2 hd2
  go_wp2_with fail
  refine hK _ _ (fun hh => absurd rfl hh) ?_
  clear hK K
  refine loud_nil ?_
  have HFN := Lib.hid HG.out.fin
  clear HG HW HBX HDL HOK
  rw [HA.out] at HFN
  have HS2 := Lib.hid (HS.out.next (g := [.n 0 maxN er, .t va, .f g]) (rest := ([.r sv] ++ [.t u])) HNE.out HFN.out.1 HFN.out.2 (by rw [List.length_map, show (A1) = (elemW W s [.n 0 maxN er, .t va, .f g]).2 by rw [HA.out], elemW_len]))
  clear HS HFN
  have HS := HS2
  clear HS2
  have hbx := HS.out.bx
  go_wp2_with fail
  refine mixed_region2 (D := (fun w' => w'.cell? ⟨wb, 0, none⟩ = some (.iface D (.pointer (some ⟨b, 0, none⟩))))) [0, 1, 2, 3, 4] [5] 5 (by kernel_rfl) (by kernel_rfl) (by decide) (hbx) ?_
  simp only [List.filterMap_cons, List.filterMap_nil, List.getElem?_cons_zero, List.getElem?_cons_succ]
  repeat (
    (first
     | (refine calm_move _ rfl ?_)
     | (apply calm_cons
        · (intro w' hw'
           first | (obtain ⟨hwa', hwb', hwc'⟩ := hw') | (obtain ⟨hwa', hwb'⟩ := hw') | skip
           go_simp
           first
           | done
           | exact rfl)))
    simp only [Act.put, Act.eval, List.setIfInBounds_toArray, List.set_cons_zero, List.set_cons_succ, Array.getD_eq_getD_getElem?, List.getElem?_toArray, List.getElem?_cons_zero, List.getElem?_cons_succ, Option.getD_some])
  refine calm_nil ?_
  have HS1 := Lib.hid (HS.out.old HH.out (Below.refl w4.heap.size w4).drew)
  clear hbx
  obtain ⟨a5, n5, c5, hsv, hln, hrw⟩ := HRW.out.next HS1.out.kb
  have HC : Hid (Calls Try.prog 58 #[.iface D (.pointer (some ⟨b, 0, none⟩)), .pointer (some ⟨p, o + 3, none⟩), .int .i64 (512 : Nat), .func (.func 59) #[] #[.pointer (some ⟨wb, 0, none⟩)]] w4.drew fun e w' => e = .returned (.tuple #[]) ∧ LPost At G b B w4.drew p (o + 3) 2 (s2, L2) w') := Lib.hid (by
    have := listPair_any HH.out w4.drew s1 p (o + 3) wb 512 n5 c5 a5 L HS1.out.st HS1.out.lo HS1.out.lw HNE.out HS1.out.bx (by have := (FAt.app (l := [.r sv]) (r := [.t u]) HS1.out.fa).1 0 (by simp); rw [hsv] at this; exact this) hln HSH.out HGG.out (by decide) (by rw [← hln]; exact HLE.out) hrw HO2.out
    rw [HB.out] at this
    exact this)
  clear hln hrw hsv
  refine loud_cons fun K hK => ?_
  go_wp2_with fail
  refine HC.out.mono ?_
  rintro e w5 ⟨rfl, hpo⟩
  obtain ⟨x5, y5, z5, h1, h2, h3, h4⟩ := hpo
  have HS2 := Lib.hid (Cs.next (g := [.r sv]) (rest := [.t u]) (vs2 := [.slice x5 y5 z5]) HS1.out HNE.out h1 h2 rfl)
  have HR5 : Hid (LRow G b B w5 p 2 (.slice x5 y5 z5) L2) := Lib.hid ⟨_, _, _, rfl, h3, h4⟩
  clear HS HS1 HC h1 h2 h3 h4
  have HS := HS2
  clear HS2
  go_wp2_with fail
  refine hK _ _ (fun hh => absurd rfl hh) ?_
  clear hK K
  refine loud_nil ?_
  have HG := Lib.hid (Pg.start (W := W) HS.out.st HS.out.fa HS.out.lo)
  have HW := Lib.hid HS.out.lw
  have HBX := Lib.hid HS.out.bx
  have HDL : Hid (([] : List Fld).length = 0) := Lib.hid rfl
  have HOK := Lib.hid HO3.out
  have hbx := (HG.out.box HW.out HNE.out HBX.out).1
  go_wp2_with fail
  refine mixed_region2 (D := (fun w' => w'.cell? ⟨wb, 0, none⟩ = some (.iface D (.pointer (some ⟨b, 0, none⟩))))) [0, 1, 2, 3] [4, 5] 5 (by kernel_rfl) (by kernel_rfl) (by decide) (hbx) ?_
  simp only [List.filterMap_cons, List.filterMap_nil, List.getElem?_cons_zero, List.getElem?_cons_succ]
  repeat (
    (first
     | (refine calm_move _ rfl ?_)
     | (apply calm_cons
        · (intro w' hw'
           first | (obtain ⟨hwa', hwb', hwc'⟩ := hw') | (obtain ⟨hwa', hwb'⟩ := hw') | skip
           go_simp
           first
           | done
           | exact rfl)))
    simp only [Act.put, Act.eval, List.setIfInBounds_toArray, List.set_cons_zero, List.set_cons_succ, Array.getD_eq_getD_getElem?, List.getElem?_toArray, List.getElem?_cons_zero, List.getElem?_cons_succ, Option.getD_some])
  refine calm_nil ?_
  have hst := HH.out.lt _ _ HG.out.st
  have hnb := ((Below.refl w5.heap.size w5).drew.alloc (Nat.le_refl _) (.cells #[.pointer (some ⟨p, o + 4, none⟩)] 101))
  have HG1 := Lib.hid (HG.out.old HH.out hnb)
  have HVA : Hid (Loc G b B (w5.drew.alloc (.cells #[.pointer (some ⟨p, o + 4, none⟩)] 101)) w5.drew.heap.size) := Lib.hid (Loc.new hst.1 hst.2 _ _ (by decide))
  have HNP : Hid (w5.drew.heap.size ≠ p) := Lib.hid (by have := HG.out.lo.2.1; show w5.heap.size ≠ _; omega)
  have HC := Lib.hid (Pg.txts HH.out (l := [u]) HG1.out HOK.out HDL.out w5.drew.heap.size 1 1 HVA.out HNP.out rfl (by omega) (fun i hi => match i, hi with | 0, _ => (alloc_cell _ _ _ 0).trans rfl))
  have HBD : Hid ((w5.drew.alloc (.cells #[.pointer (some ⟨p, o + 4, none⟩)] 101)).cell? ⟨wb, 0, none⟩ = some (.iface D (.pointer (some ⟨b, 0, none⟩)))) := Lib.hid (HG1.out.box HW.out HNE.out HBX.out).1
  clear hbx hnb hst
  refine loud_cons fun K hK => ?_
  go_wp2_with fail
  refine hK _ _ (fun _ => HBD.out) ?_
  clear hK K
  refine loud_cons fun K hK => ?_
  have hbx := HBD.out
  go_wp2_with fail
  refine HC.out.mono ?_
  rintro e w6 ⟨rfl, d6, sx6, hd2, hg2⟩
  clear HG HDL HG1 HVA HNP HC HBD hbx
  have HG := Lib.hid hg2
  have HDL := Lib.hid hd2
  clear hg2 hd2
  go_wp2_with fail
  refine hK _ _ (fun hh => absurd rfl hh) ?_
  clear hK K
  refine loud_nil ?_
  have HFN := Lib.hid HG.out.fin
  clear HG HW HBX HDL HOK
  rw [HC0.out] at HFN
  have HS2 := Lib.hid (Cs.last HS.out HNE.out HFN.out.1 HFN.out.2 (by rw [List.length_map, show (C1) = (elemW W s2 [.t u]).2 by rw [HC0.out], elemW_len]))
  clear HS HFN
  have HS := HS2
  clear HS2
  go_wp2_with fail
  go_end0
  refine ⟨rfl, _, HS.out.1, ?_, HR5.out.next HS.out.2.2⟩
  have hk := HS.out.2.1
  simp only [List.nil_append, List.append_assoc, List.singleton_append] at hk
  exact (KB.sets (w := w) (w' := w) p HPN.out _ o HK0.out).trans hk
set_option maxRecDepth 100000 in
set_option maxHeartbeats 4000000 in
theorem top_any (H : WayAt W D b B G At) (w : World) (s : σ) (p o : Nat) (kd : Int) (ky va od : ByteArray) (g : Bool) (lo hi : ByteArray) (lm : Int) (sv : Value) (L : List (List Fld)) (h : At w s) (hp : Loc G b B w p) (hf : FAt w p o ([.n 0 maxN kd, .t ky, .t va, .t od, .f g] ++ ([.r sv] ++ [.t lo, .t hi, .n 0 maxN lm]))) (hr : LRow G b B w p 3 sv L) (hsh : ∀ x ∈ L, isWrite x) (hg : G ∨ L = []) (hlen : L.length ≤ maxLen) (hok : W.ok (segW W zeroWrite 64 s [.n 0 maxN kd, .t ky, .t va, .t od, .f g] L [.t lo, .t hi, .n 0 maxN lm]).1) :
    Calls Try.prog 32 #[.iface D (.pointer (some ⟨b, 0, none⟩)), .pointer (some ⟨p, o, none⟩)] w fun e w' => e = .returned (.tuple #[]) ∧ SPost At G b B w p o 3 (segW W zeroWrite 64 s [.n 0 maxN kd, .t ky, .t va, .t od, .f g] L [.t lo, .t hi, .n 0 maxN lm]) w' := by
  have HH := Lib.hid H
  obtain ⟨s1, A1, hA⟩ : ∃ s1 A1, elemW W s [.n 0 maxN kd, .t ky, .t va, .t od, .f g] = (s1, A1) := ⟨_, _, rfl⟩
  obtain ⟨s2, L2, hB⟩ : ∃ s2 L2, listW W zeroWrite 64 s1 L = (s2, L2) := ⟨_, _, rfl⟩
  obtain ⟨s3, C1, hC⟩ : ∃ s3 C1, elemW W s2 [.t lo, .t hi, .n 0 maxN lm] = (s3, C1) := ⟨_, _, rfl⟩
  have hsw : segW W zeroWrite 64 s [.n 0 maxN kd, .t ky, .t va, .t od, .f g] L [.t lo, .t hi, .n 0 maxN lm] = (s3, A1, L2, C1) := by unfold segW; simp only [hA, hB, hC]
  rw [hsw] at hok ⊢
  have hok3 : W.ok (elemW W s2 [.t lo, .t hi, .n 0 maxN lm]).1 := by rw [hC]; exact hok
  have hok2 : W.ok (listW W zeroWrite 64 s1 L).1 := by rw [hB]; exact elemW_ok hok3
  have hok1 : W.ok (elemW W s [.n 0 maxN kd, .t ky, .t va, .t od, .f g]).1 := by rw [hA]; exact listW_ok hok2
  have HA := Lib.hid hA
  have HB := Lib.hid hB
  have HC0 := Lib.hid hC
  have HO1 := Lib.hid hok1
  have HO2 := Lib.hid hok2
  have HO3 := Lib.hid hok3
  have HSH := Lib.hid hsh
  have HGG := Lib.hid hg
  have HLE := Lib.hid hlen
  have hst := H.lt w s h
  have hb1 := (Below.refl w.heap.size w).alloc (Nat.le_refl _) (.cells #[.iface D (.pointer (some ⟨b, 0, none⟩))] 87)
  have hk0 : KB b B w (w.alloc (.cells #[.iface D (.pointer (some ⟨b, 0, none⟩))] 87)) := KB.of hb1 hst.2
  have hwl : Loc G b B (w.alloc (.cells #[.iface D (.pointer (some ⟨b, 0, none⟩))] 87)) w.heap.size := Loc.new hst.1 hst.2 _ _ (by decide)
  have hne : w.heap.size ≠ p := by have := hp.2.1; omega
  have hcs : Cs At G D b B (w.alloc (.cells #[.iface D (.pointer (some ⟨b, 0, none⟩))] 87)) p o w.heap.size [] 0 ([.n 0 maxN kd, .t ky, .t va, .t od, .f g] ++ ([.r sv] ++ [.t lo, .t hi, .n 0 maxN lm])) s (w.alloc (.cells #[.iface D (.pointer (some ⟨b, 0, none⟩))] 87)) := ⟨H.old _ _ _ h hb1, KB.refl _ _ _, rfl, hf.keep hp hk0, hp.keep hk0, (alloc_cell _ _ _ 0).trans rfl, hwl⟩
  have hrw := hr.wb hk0
  have HPN := Lib.hid hp.1
  clear hst hb1 H hok h hp hf hwl hr hsh hg hlen hA hB hC hsw hok1 hok2 hok3
  go_enter Try.func32, Try.ntmps32
  go_upto_region 1 with fail
  generalize (w.alloc (.cells #[.iface D (.pointer (some ⟨b, 0, none⟩))] 87)) = w1 at *
  generalize w.heap.size = wb at *
  have HRW := Lib.hid hrw
  have HNE := Lib.hid hne
  have HK0 := Lib.hid hk0
  have HS := Lib.hid hcs
  clear hrw hne hk0 hcs
  have HG := Lib.hid (Pg.start (W := W) HS.out.st (FAt.app (l := [.n 0 maxN kd, .t ky, .t va, .t od, .f g]) (r := ([.r sv] ++ [.t lo, .t hi, .n 0 maxN lm])) HS.out.fa).1 HS.out.lo)
  have HW := Lib.hid HS.out.lw
  have HBX := Lib.hid HS.out.bx
  have HDL : Hid (([] : List Fld).length = 0) := Lib.hid rfl
  have HOK := Lib.hid HO1.out
  have hbx := (HG.out.box HW.out HNE.out HBX.out).1
  go_wp2_with fail
  refine mixed_region2 (D := (fun w' => w'.cell? ⟨wb, 0, none⟩ = some (.iface D (.pointer (some ⟨b, 0, none⟩))))) [0, 1, 2, 3] [4, 5] 5 (by kernel_rfl) (by kernel_rfl) (by decide) (hbx) ?_
  simp only [List.filterMap_cons, List.filterMap_nil, List.getElem?_cons_zero, List.getElem?_cons_succ]
  repeat (
    (first
     | (refine calm_move _ rfl ?_)
     | (apply calm_cons
        · (intro w' hw'
           first | (obtain ⟨hwa', hwb', hwc'⟩ := hw') | (obtain ⟨hwa', hwb'⟩ := hw') | skip
           go_simp
           first
           | done
           | exact rfl)))
    simp only [Act.put, Act.eval, List.setIfInBounds_toArray, List.set_cons_zero, List.set_cons_succ, Array.getD_eq_getD_getElem?, List.getElem?_toArray, List.getElem?_cons_zero, List.getElem?_cons_succ, Option.getD_some])
  refine calm_nil ?_
  have hst := HH.out.lt _ _ HG.out.st
  have hnb := ((Below.refl w1.heap.size w1).drew.alloc (Nat.le_refl _) (.cells #[.pointer (some ⟨p, o, none⟩)] 89))
  have HG1 := Lib.hid (HG.out.old HH.out hnb)
  have HVA : Hid (Loc G b B (w1.drew.alloc (.cells #[.pointer (some ⟨p, o, none⟩)] 89)) w1.drew.heap.size) := Lib.hid (Loc.new hst.1 hst.2 _ _ (by decide))
  have HNP : Hid (w1.drew.heap.size ≠ p) := Lib.hid (by have := HG.out.lo.2.1; show w1.heap.size ≠ _; omega)
  have HC := Lib.hid (Pg.nums HH.out (l := [kd]) HG1.out HOK.out HDL.out w1.drew.heap.size 1 1 HVA.out HNP.out rfl (by omega) (fun i hi => match i, hi with | 0, _ => (alloc_cell _ _ _ 0).trans rfl))
  have HBD : Hid ((w1.drew.alloc (.cells #[.pointer (some ⟨p, o, none⟩)] 89)).cell? ⟨wb, 0, none⟩ = some (.iface D (.pointer (some ⟨b, 0, none⟩)))) := Lib.hid (HG1.out.box HW.out HNE.out HBX.out).1
  clear hbx hnb hst
  refine loud_cons fun K hK => ?_
  go_wp2_with fail
  refine hK _ _ (fun _ => HBD.out) ?_
  clear hK K
  refine loud_cons fun K hK => ?_
  have hbx := HBD.out
  go_wp2_with fail
  refine HC.out.mono ?_
  rintro e w2 ⟨rfl, d2, sx2, hd2, hg2⟩
  clear HG HDL HG1 HVA HNP HC HBD hbx
  have HG := Lib.hid hg2
  have HDL := Lib.hid hd2
  clear hg2 hd2
  go_wp2_with fail
  refine hK _ _ (fun hh => absurd rfl hh) ?_
  clear hK K
  refine loud_nil ?_
  have hbx := (HG.out.box HW.out HNE.out HBX.out).1
  go_wp2_with fail
  refine mixed_region2 (D := (fun w' => w'.cell? ⟨wb, 0, none⟩ = some (.iface D (.pointer (some ⟨b, 0, none⟩))))) [0, 1, 2, 3, 4, 5, 6, 7, 8, 9] [10, 11] 11 (by kernel_rfl) (by kernel_rfl) (by decide) (hbx) ?_
  simp only [List.filterMap_cons, List.filterMap_nil, List.getElem?_cons_zero, List.getElem?_cons_succ]
  repeat (
    (first
     | (refine calm_move _ rfl ?_)
     | (apply calm_cons
        · (intro w' hw'
           first | (obtain ⟨hwa', hwb', hwc'⟩ := hw') | (obtain ⟨hwa', hwb'⟩ := hw') | skip
           go_simp
           first
           | done
           | exact rfl)))
    simp only [Act.put, Act.eval, List.setIfInBounds_toArray, List.set_cons_zero, List.set_cons_succ, Array.getD_eq_getD_getElem?, List.getElem?_toArray, List.getElem?_cons_zero, List.getElem?_cons_succ, Option.getD_some])
  refine calm_nil ?_
  have hst := HH.out.lt _ _ HG.out.st
  have hnb := ((Below.refl w2.heap.size w2).drew.alloc (Nat.le_refl _) (.cells #[.pointer (some ⟨p, o + 1, none⟩), .pointer (some ⟨p, o + 2, none⟩), .pointer (some ⟨p, o + 3, none⟩)] 101))
  have HG1 := Lib.hid (HG.out.old HH.out hnb)
  have HVA : Hid (Loc G b B (w2.drew.alloc (.cells #[.pointer (some ⟨p, o + 1, none⟩), .pointer (some ⟨p, o + 2, none⟩), .pointer (some ⟨p, o + 3, none⟩)] 101)) w2.drew.heap.size) := Lib.hid (Loc.new hst.1 hst.2 _ _ (by decide))
  have HNP : Hid (w2.drew.heap.size ≠ p) := Lib.hid (by have := HG.out.lo.2.1; show w2.heap.size ≠ _; omega)
  have HC := Lib.hid (Pg.txts HH.out (l := [ky, va, od]) HG1.out HOK.out HDL.out w2.drew.heap.size 3 3 HVA.out HNP.out rfl (by omega) (fun i hi => match i, hi with | 0, _ => (alloc_cell _ _ _ 0).trans rfl | 1, _ => (alloc_cell _ _ _ 1).trans rfl | 2, _ => (alloc_cell _ _ _ 2).trans rfl))
  have HBD : Hid ((w2.drew.alloc (.cells #[.pointer (some ⟨p, o + 1, none⟩), .pointer (some ⟨p, o + 2, none⟩), .pointer (some ⟨p, o + 3, none⟩)] 101)).cell? ⟨wb, 0, none⟩ = some (.iface D (.pointer (some ⟨b, 0, none⟩)))) := Lib.hid (HG1.out.box HW.out HNE.out HBX.out).1
  clear hbx hnb hst
  refine loud_cons fun K hK => ?_
  go_wp2_with fail
  refine hK _ _ (fun _ => HBD.out) ?_
  clear hK K
  refine loud_cons fun K hK => ?_
  have hbx := HBD.out
  go_wp2_with fail
  refine HC.out.mono ?_
  rintro e w3 ⟨rfl, d3, sx3, hd2, hg2⟩
  clear HG HDL HG1 HVA HNP HC HBD hbx
  have HG := Lib.hid hg2
  have HDL := Lib.hid hd2
  clear hg2 hd2
  go_wp2_with fail
  refine hK _ _ (fun hh => absurd rfl hh) ?_
  clear hK K
  refine loud_nil ?_
  have hbx := (HG.out.box HW.out HNE.out HBX.out).1
  go_wp2_with fail
  refine mixed_region2 (D := (fun w' => w'.cell? ⟨wb, 0, none⟩ = some (.iface D (.pointer (some ⟨b, 0, none⟩))))) [0, 1, 2, 3] [4] 4 (by kernel_rfl) (by kernel_rfl) (by decide) (hbx) ?_
  simp only [List.filterMap_cons, List.filterMap_nil, List.getElem?_cons_zero, List.getElem?_cons_succ]
  repeat (
    (first
     | (refine calm_move _ rfl ?_)
     | (apply calm_cons
        · (intro w' hw'
           first | (obtain ⟨hwa', hwb', hwc'⟩ := hw') | (obtain ⟨hwa', hwb'⟩ := hw') | skip
           go_simp
           first
           | done
           | exact rfl)))
    simp only [Act.put, Act.eval, List.setIfInBounds_toArray, List.set_cons_zero, List.set_cons_succ, Array.getD_eq_getD_getElem?, List.getElem?_toArray, List.getElem?_cons_zero, List.getElem?_cons_succ, Option.getD_some])
  refine calm_nil ?_
  have HG1 := Lib.hid (HG.out.old HH.out (Below.refl w3.heap.size w3).drew)
  have HC := Lib.hid (HG1.out.flag HH.out HOK.out HDL.out)
  clear hbx
  refine loud_cons fun K hK => ?_
  go_wp2_with fail
  refine HC.out.mono ?_
  rintro e w4 ⟨rfl, d4, sx4, hd2, hg2⟩
  clear HG HDL HG1 HC
  have HG := Lib.hid hg2
  have HDL := Lib.hid hd2
  clear hg2 hd2
  go_wp2_with fail
  refine hK _ _ (fun hh => absurd rfl hh) ?_
  clear hK K
  refine loud_nil ?_
  have HFN := Lib.hid HG.out.fin
  clear HG HW HBX HDL HOK
  rw [HA.out] at HFN
  have HS2 := Lib.hid (HS.out.next (g := [.n 0 maxN kd, .t ky, .t va, .t od, .f g]) (rest := ([.r sv] ++ [.t lo, .t hi, .n 0 maxN lm])) HNE.out HFN.out.1 HFN.out.2 (by rw [List.length_map, show (A1) = (elemW W s [.n 0 maxN kd, .t ky, .t va, .t od, .f g]).2 by rw [HA.out], elemW_len]))
  clear HS HFN
  have HS := HS2
  clear HS2
  have hbx := HS.out.bx
  go_wp2_with fail
  refine mixed_region2 (D := (fun w' => w'.cell? ⟨wb, 0, none⟩ = some (.iface D (.pointer (some ⟨b, 0, none⟩))))) [0, 1, 2, 3, 4] [5] 5 (by kernel_rfl) (by kernel_rfl) (by decide) (hbx) ?_
  simp only [List.filterMap_cons, List.filterMap_nil, List.getElem?_cons_zero, List.getElem?_cons_succ]
  repeat (
    (first
     | (refine calm_move _ rfl ?_)
     | (apply calm_cons
        · (intro w' hw'
           first | (obtain ⟨hwa', hwb', hwc'⟩ := hw') | (obtain ⟨hwa', hwb'⟩ := hw') | skip
           go_simp
           first
           | done
           | exact rfl)))
    simp only [Act.put, Act.eval, List.setIfInBounds_toArray, List.set_cons_zero, List.set_cons_succ, Array.getD_eq_getD_getElem?, List.getElem?_toArray, List.getElem?_cons_zero, List.getElem?_cons_succ, Option.getD_some])
  refine calm_nil ?_
  have HS1 := Lib.hid (HS.out.old HH.out (Below.refl w4.heap.size w4).drew)
  clear hbx
  obtain ⟨a5, n5, c5, hsv, hln, hrw⟩ := HRW.out.next HS1.out.kb
  have HC : Hid (Calls Try.prog 56 #[.iface D (.pointer (some ⟨b, 0, none⟩)), .pointer (some ⟨p, o + 5, none⟩), .int .i64 (64 : Nat), .func (.func 57) #[] #[.pointer (some ⟨wb, 0, none⟩)]] w4.drew fun e w' => e = .returned (.tuple #[]) ∧ LPost At G b B w4.drew p (o + 5) 3 (s2, L2) w') := Lib.hid (by
    have := listWrite_any HH.out w4.drew s1 p (o + 5) wb 64 n5 c5 a5 L HS1.out.st HS1.out.lo HS1.out.lw HNE.out HS1.out.bx (by have := (FAt.app (l := [.r sv]) (r := [.t lo, .t hi, .n 0 maxN lm]) HS1.out.fa).1 0 (by simp); rw [hsv] at this; exact this) hln HSH.out HGG.out (by decide) (by rw [← hln]; exact HLE.out) hrw HO2.out
    rw [HB.out] at this
    exact this)
  clear hln hrw hsv
  refine loud_cons fun K hK => ?_
  go_wp2_with fail
  refine HC.out.mono ?_
  rintro e w5 ⟨rfl, hpo⟩
  obtain ⟨x5, y5, z5, h1, h2, h3, h4⟩ := hpo
  have HS2 := Lib.hid (Cs.next (g := [.r sv]) (rest := [.t lo, .t hi, .n 0 maxN lm]) (vs2 := [.slice x5 y5 z5]) HS1.out HNE.out h1 h2 rfl)
  have HR5 : Hid (LRow G b B w5 p 3 (.slice x5 y5 z5) L2) := Lib.hid ⟨_, _, _, rfl, h3, h4⟩
  clear HS HS1 HC h1 h2 h3 h4
  have HS := HS2
  clear HS2
  go_wp2_with fail
  refine hK _ _ (fun hh => absurd rfl hh) ?_
  clear hK K
  refine loud_nil ?_
  have HG := Lib.hid (Pg.start (W := W) HS.out.st HS.out.fa HS.out.lo)
  have HW := Lib.hid HS.out.lw
  have HBX := Lib.hid HS.out.bx
  have HDL : Hid (([] : List Fld).length = 0) := Lib.hid rfl
  have HOK := Lib.hid HO3.out
  have hbx := (HG.out.box HW.out HNE.out HBX.out).1
  go_wp2_with fail
  refine mixed_region2 (D := (fun w' => w'.cell? ⟨wb, 0, none⟩ = some (.iface D (.pointer (some ⟨b, 0, none⟩))))) [0, 1, 2, 3, 4, 5, 6, 7, 8] [9, 10] 10 (by kernel_rfl) (by kernel_rfl) (by decide) (hbx) ?_
  simp only [List.filterMap_cons, List.filterMap_nil, List.getElem?_cons_zero, List.getElem?_cons_succ]
  repeat (
    (first
     | (refine calm_move _ rfl ?_)
     | (apply calm_cons
        · (intro w' hw'
           first | (obtain ⟨hwa', hwb', hwc'⟩ := hw') | (obtain ⟨hwa', hwb'⟩ := hw') | skip
           go_simp
           first
           | done
           | exact rfl)))
    simp only [Act.put, Act.eval, List.setIfInBounds_toArray, List.set_cons_zero, List.set_cons_succ, Array.getD_eq_getD_getElem?, List.getElem?_toArray, List.getElem?_cons_zero, List.getElem?_cons_succ, Option.getD_some])
  refine calm_nil ?_
  have hst := HH.out.lt _ _ HG.out.st
  have hnb := ((Below.refl w5.heap.size w5).drew.alloc (Nat.le_refl _) (.cells #[.pointer (some ⟨p, o + 6, none⟩), .pointer (some ⟨p, o + 6 + 1, none⟩)] 101))
  have HG1 := Lib.hid (HG.out.old HH.out hnb)
  have HVA : Hid (Loc G b B (w5.drew.alloc (.cells #[.pointer (some ⟨p, o + 6, none⟩), .pointer (some ⟨p, o + 6 + 1, none⟩)] 101)) w5.drew.heap.size) := Lib.hid (Loc.new hst.1 hst.2 _ _ (by decide))
  have HNP : Hid (w5.drew.heap.size ≠ p) := Lib.hid (by have := HG.out.lo.2.1; show w5.heap.size ≠ _; omega)
  have HC := Lib.hid (Pg.txts HH.out (l := [lo, hi]) HG1.out HOK.out HDL.out w5.drew.heap.size 2 2 HVA.out HNP.out rfl (by omega) (fun i hi => match i, hi with | 0, _ => (alloc_cell _ _ _ 0).trans rfl | 1, _ => (alloc_cell _ _ _ 1).trans rfl))
  have HBD : Hid ((w5.drew.alloc (.cells #[.pointer (some ⟨p, o + 6, none⟩), .pointer (some ⟨p, o + 6 + 1, none⟩)] 101)).cell? ⟨wb, 0, none⟩ = some (.iface D (.pointer (some ⟨b, 0, none⟩)))) := Lib.hid (HG1.out.box HW.out HNE.out HBX.out).1
  clear hbx hnb hst
  refine loud_cons fun K hK => ?_
  go_wp2_with fail
  refine hK _ _ (fun _ => HBD.out) ?_
  clear hK K
  refine loud_cons fun K hK => ?_
  have hbx := HBD.out
  go_wp2_with fail
  refine HC.out.mono ?_
  rintro e w6 ⟨rfl, d6, sx6, hd2, hg2⟩
  clear HG HDL HG1 HVA HNP HC HBD hbx
  have HG := Lib.hid hg2
  have HDL := Lib.hid hd2
  clear hg2 hd2
  go_wp2_with fail
  refine hK _ _ (fun hh => absurd rfl hh) ?_
  clear hK K
  refine loud_nil ?_
  have hbx := (HG.out.box HW.out HNE.out HBX.out).1
  go_wp2_with fail
  refine mixed_region2 (D := (fun w' => w'.cell? ⟨wb, 0, none⟩ = some (.iface D (.pointer (some ⟨b, 0, none⟩))))) [0, 1, 2, 3] [4, 5] 5 (by kernel_rfl) (by kernel_rfl) (by decide) (hbx) ?_
  simp only [List.filterMap_cons, List.filterMap_nil, List.getElem?_cons_zero, List.getElem?_cons_succ]
  repeat (
    (first
     | (refine calm_move _ rfl ?_)
     | (apply calm_cons
        · (intro w' hw'
           first | (obtain ⟨hwa', hwb', hwc'⟩ := hw') | (obtain ⟨hwa', hwb'⟩ := hw') | skip
           go_simp
           first
           | done
           | exact rfl)))
    simp only [Act.put, Act.eval, List.setIfInBounds_toArray, List.set_cons_zero, List.set_cons_succ, Array.getD_eq_getD_getElem?, List.getElem?_toArray, List.getElem?_cons_zero, List.getElem?_cons_succ, Option.getD_some])
  refine calm_nil ?_
  have hst := HH.out.lt _ _ HG.out.st
  have hnb := ((Below.refl w6.heap.size w6).drew.alloc (Nat.le_refl _) (.cells #[.pointer (some ⟨p, o + 6 + 2, none⟩)] 89))
  have HG1 := Lib.hid (HG.out.old HH.out hnb)
  have HVA : Hid (Loc G b B (w6.drew.alloc (.cells #[.pointer (some ⟨p, o + 6 + 2, none⟩)] 89)) w6.drew.heap.size) := Lib.hid (Loc.new hst.1 hst.2 _ _ (by decide))
  have HNP : Hid (w6.drew.heap.size ≠ p) := Lib.hid (by have := HG.out.lo.2.1; show w6.heap.size ≠ _; omega)
  have HC := Lib.hid (Pg.nums HH.out (l := [lm]) HG1.out HOK.out HDL.out w6.drew.heap.size 1 1 HVA.out HNP.out rfl (by omega) (fun i hi => match i, hi with | 0, _ => (alloc_cell _ _ _ 0).trans rfl))
  have HBD : Hid ((w6.drew.alloc (.cells #[.pointer (some ⟨p, o + 6 + 2, none⟩)] 89)).cell? ⟨wb, 0, none⟩ = some (.iface D (.pointer (some ⟨b, 0, none⟩)))) := Lib.hid (HG1.out.box HW.out HNE.out HBX.out).1
  clear hbx hnb hst
  refine loud_cons fun K hK => ?_
  go_wp2_with fail
  refine hK _ _ (fun _ => HBD.out) ?_
  clear hK K
  refine loud_cons fun K hK => ?_
  have hbx := HBD.out
  go_wp2_with fail
  refine HC.out.mono ?_
  rintro e w7 ⟨rfl, d7, sx7, hd2, hg2⟩
  clear HG HDL HG1 HVA HNP HC HBD hbx
  have HG := Lib.hid hg2
  have HDL := Lib.hid hd2
  clear hg2 hd2
  go_wp2_with fail
  refine hK _ _ (fun hh => absurd rfl hh) ?_
  clear hK K
  refine loud_nil ?_
  have HFN := Lib.hid HG.out.fin
  clear HG HW HBX HDL HOK
  rw [HC0.out] at HFN
  have HS2 := Lib.hid (Cs.last HS.out HNE.out HFN.out.1 HFN.out.2 (by rw [List.length_map, show (C1) = (elemW W s2 [.t lo, .t hi, .n 0 maxN lm]).2 by rw [HC0.out], elemW_len]))
  clear HS HFN
  have HS := HS2
  clear HS2
  go_wp2_with fail
  go_end0
  refine ⟨rfl, _, HS.out.1, ?_, HR5.out.next HS.out.2.2⟩
  have hk := HS.out.2.1
  simp only [List.nil_append, List.append_assoc, List.singleton_append] at hk
  exact (KB.sets (w := w) (w' := w) p HPN.out _ o HK0.out).trans hk
end
end Go.Proofs.Ytdnhmkfgcpdbkaa
