/-
  Layer 16 (post): contracts of reply without its pairs, and of the closure that lets what a client did last go, over any way. Conditions: as each says.
-/
import Derived.Test.YtdnhmkfgcpdbkaaTf
namespace Go.Proofs.Ytdnhmkfgcpdbkaa
open Go.RowKit
set_option linter.unusedVariables false
set_option linter.unusedSimpArgs false
section
variable {σ : Type} {W : Way σ} {D b B : Nat} {G : Prop} {At : World → σ → Prop}
variable {w0 wr w' : World} {p o : Nat} {s0 s : σ} {L done rest : List Fld}
/-- A field that the way leaves alone. -/
theorem Pg.skip {v : Value} (h : Pg W At G b B w0 p o s0 L done (.r v :: rest) s wr) (hl : Loc G b B w0 p) : Pg W At G b B w0 p o s0 L (done ++ [.r v]) rest s wr := by
  obtain ⟨f1, f2⟩ := FAt.app (l := [.r v]) (r := rest) h.fa
  have hls := Loc.sets p (done.map Fld.cell) o w0 hl
  have hc : (w0.setCells p o (done.map Fld.cell)).cell? ⟨p, o + done.length, none⟩ = some v := by
    rw [← hls.cell h.kb]
    have := f1 0 (by simp)
    simpa [Fld.cell] using this
  refine ⟨h.st, ?_, ?_, h.lo, ?_⟩
  · have e := setCells_snoc p (done.map Fld.cell) o w0 v
    rw [List.length_map, set_same hc] at e
    rw [List.map_append]
    show KB b B (w0.setCells p o (done.map Fld.cell ++ [v])) wr
    rw [← e]
    exact h.kb
  · rw [List.length_append, ← Nat.add_assoc]; exact f2
  · rw [h.eq]
    have := elemW_app (W := W) s [.r v] rest
    simp only [List.cons_append, List.nil_append] at this
    rw [this]
    simp [elemW, stepsW, stepF]
set_option maxRecDepth 100000 in
set_option maxHeartbeats 2000000 in
theorem trep0_any (H : WayAt W D b B G At) (w : World) (s : σ) (p o : Nat) (er : Int) (v : ByteArray) (g : Bool) (pv : Value) (u : ByteArray) (h : At w s) (hp : Loc G b B w p) (hf : FAt w p o [.n 0 maxN er, .t v, .f g, .r pv, .t u]) (hok : W.ok (elemW W s [.n 0 maxN er, .t v, .f g, .r pv, .t u]).1) :
    Calls Try.prog 33 #[.iface D (.pointer (some ⟨b, 0, none⟩)), .pointer (some ⟨p, o, none⟩), .bool false] w fun e w' => e = .returned (.tuple #[]) ∧ At w' (elemW W s [.n 0 maxN er, .t v, .f g, .r pv, .t u]).1 ∧ KB b B (w.setCells p o ((elemW W s [.n 0 maxN er, .t v, .f g, .r pv, .t u]).2.map Fld.cell)) w' := by
  have HH := Lib.hid H
  have HOK := Lib.hid hok
  have hst := H.lt w s h
  have hb1 := (Below.refl w.heap.size w).alloc (Nat.le_refl _) (.cells #[.iface D (.pointer (some ⟨b, 0, none⟩))] 87)
  have hk0 : KB b B w (w.alloc (.cells #[.iface D (.pointer (some ⟨b, 0, none⟩))] 87)) := KB.of hb1 hst.2
  have hwl : Loc G b B (w.alloc (.cells #[.iface D (.pointer (some ⟨b, 0, none⟩))] 87)) w.heap.size := Loc.new hst.1 hst.2 _ _ (by decide)
  have hbx0 : (w.alloc (.cells #[.iface D (.pointer (some ⟨b, 0, none⟩))] 87)).cell? ⟨w.heap.size, 0, none⟩ = some (.iface D (.pointer (some ⟨b, 0, none⟩))) := (alloc_cell _ _ _ 0).trans rfl
  have hne : w.heap.size ≠ p := by have := hp.2.1; omega
  have hg := Pg.start (W := W) (H.old _ _ _ h hb1) (hf.keep hp hk0) (hp.keep hk0)
  have HPN := Lib.hid hp.1
  have HDL : Hid (([] : List Fld).length = 0) := Lib.hid rfl
  clear hst hb1 H hok h hp hf
  go_enter Try.func33, Try.ntmps33
  go_upto_region 1 with fail
  generalize (w.alloc (.cells #[.iface D (.pointer (some ⟨b, 0, none⟩))] 87)) = w1 at *
  generalize w.heap.size = wb at *
  have HW := Lib.hid hwl
  have HNE := Lib.hid hne
  have HBX := Lib.hid hbx0
  have HK0 := Lib.hid hk0
  have HPL := Lib.hid hg.lo
  have HG := Lib.hid hg
  clear hwl hne hbx0 hk0 hg
  have hbx := (HG.out.box HW.out HNE.out HBX.out).1
  go_wp2_with fail
  refine mixed_region2 (D := (fun w' => w'.cell? ⟨wb, 0, none⟩ = some (.iface D (.pointer (some ⟨b, 0, none⟩))))) [0, 1, 2, 3] [4, 5] 5 (by kernel_rfl) (by kernel_rfl) (by decide) (hbx) ?_
  simp only [List.filterMap_cons, List.filterMap_nil, List.getElem?_cons_zero, List.getElem?_cons_succ]
  repeat (
    (first
     | (refine calm_move _ rfl ?_)
     | (apply calm_cons
        · (intro w' hw'
           first | (obtain ⟨hwa', hwb', hwc'⟩ := hw') | (obtain ⟨hwa', hwb'⟩ := hw') | skip
           go_simp
           first
           | done
           | exact rfl)))
    simp only [Act.put, Act.eval, List.setIfInBounds_toArray, List.set_cons_zero, List.set_cons_succ, Array.getD_eq_getD_getElem?, List.getElem?_toArray, List.getElem?_cons_zero, List.getElem?_cons_succ, Option.getD_some])
  refine calm_nil ?_
  have hst := HH.out.lt _ _ HG.out.st
  have hnb := ((Below.refl w1.heap.size w1).drew.alloc (Nat.le_refl _) (.cells #[.pointer (some ⟨p, o, none⟩)] 89))
  have HG1 := Lib.hid (HG.out.old HH.out hnb)
  have HVA : Hid (Loc G b B (w1.drew.alloc (.cells #[.pointer (some ⟨p, o, none⟩)] 89)) w1.drew.heap.size) := Lib.hid (Loc.new hst.1 hst.2 _ _ (by decide))
  have HNP : Hid (w1.drew.heap.size ≠ p) := Lib.hid (by have := HG.out.lo.2.1; show w1.heap.size ≠ _; omega)
  have HC := Lib.hid (Pg.nums HH.out (l := [er]) HG1.out HOK.out HDL.out w1.drew.heap.size 1 1 HVA.out HNP.out rfl (by omega) (fun i hi => match i, hi with | 0, _ => (alloc_cell _ _ _ 0).trans rfl))
  have HBD : Hid ((w1.drew.alloc (.cells #[.pointer (some ⟨p, o, none⟩)] 89)).cell? ⟨wb, 0, none⟩ = some (.iface D (.pointer (some ⟨b, 0, none⟩)))) := Lib.hid (HG1.out.box HW.out HNE.out HBX.out).1
  clear hbx hnb hst
  refine loud_cons fun K hK => ?_
  go_wp2_with fail
  refine hK _ _ (fun _ => HBD.out) ?_
  clear hK K
  refine loud_cons fun K hK => ?_
  have hbx := HBD.out
  go_wp2_with fail
  refine HC.out.mono ?_
  rintro e w2 ⟨rfl, d2, s2, hd2, hg2⟩
  clear HG HDL HG1 HVA HNP HC HBD hbx
  have HG := Lib.hid hg2
  have HDL := Lib.hid hd2
  clear hg2 hd2
  go_wp2_with fail
  refine hK _ _ (fun hh => absurd rfl hh) ?_
  clear hK K
  refine loud_nil ?_
  have hbx := (HG.out.box HW.out HNE.out HBX.out).1
  go_wp2_with fail
  refine mixed_region2 (D := (fun w' => w'.cell? ⟨wb, 0, none⟩ = some (.iface D (.pointer (some ⟨b, 0, none⟩))))) [0, 1, 2, 3] [4, 5] 5 (by kernel_rfl) (by kernel_rfl) (by decide) (hbx) ?_
  simp only [List.filterMap_cons, List.filterMap_nil, List.getElem?_cons_zero, List.getElem?_cons_succ]
  repeat (
    (first
     | (refine calm_move _ rfl ?_)
     | (apply calm_cons
        · (intro w' hw'
           first | (obtain ⟨hwa', hwb', hwc'⟩ := hw') | (obtain ⟨hwa', hwb'⟩ := hw') | skip
           go_simp
           first
           | done
           | exact rfl)))
    simp only [Act.put, Act.eval, List.setIfInBounds_toArray, List.set_cons_zero, List.set_cons_succ, Array.getD_eq_getD_getElem?, List.getElem?_toArray, List.getElem?_cons_zero, List.getElem?_cons_succ, Option.getD_some])
  refine calm_nil ?_
  have hst := HH.out.lt _ _ HG.out.st
  have hnb := ((Below.refl w2.heap.size w2).drew.alloc (Nat.le_refl _) (.cells #[.pointer (some ⟨p, o + 1, none⟩)] 101))
  have HG1 := Lib.hid (HG.out.old HH.out hnb)
  have HVA : Hid (Loc G b B (w2.drew.alloc (.cells #[.pointer (some ⟨p, o + 1, none⟩)] 101)) w2.drew.heap.size) := Lib.hid (Loc.new hst.1 hst.2 _ _ (by decide))
  have HNP : Hid (w2.drew.heap.size ≠ p) := Lib.hid (by have := HG.out.lo.2.1; show w2.heap.size ≠ _; omega)
  have HC := Lib.hid (Pg.txts HH.out (l := [v]) HG1.out HOK.out HDL.out w2.drew.heap.size 1 1 HVA.out HNP.out rfl (by omega) (fun i hi => match i, hi with | 0, _ => (alloc_cell _ _ _ 0).trans rfl))
  have HBD : Hid ((w2.drew.alloc (.cells #[.pointer (some ⟨p, o + 1, none⟩)] 101)).cell? ⟨wb, 0, none⟩ = some (.iface D (.pointer (some ⟨b, 0, none⟩)))) := Lib.hid (HG1.out.box HW.out HNE.out HBX.out).1
  clear hbx hnb hst
  refine loud_cons fun K hK => ?_
  go_wp2_with fail
  refine hK _ _ (fun _ => HBD.out) ?_
  clear hK K
  refine loud_cons fun K hK => ?_
  have hbx := HBD.out
  go_wp2_with fail
  refine HC.out.mono ?_
  rintro e w3 ⟨rfl, d3, s3, hd2, hg2⟩
  clear HG HDL HG1 HVA HNP HC HBD hbx
  have HG := Lib.hid hg2
  have HDL := Lib.hid hd2
  clear hg2 hd2
  go_wp2_with fail
  refine hK _ _ (fun hh => absurd rfl hh) ?_
  clear hK K
  refine loud_nil ?_
  have hbx := (HG.out.box HW.out HNE.out HBX.out).1
  go_wp2_with fail
  refine mixed_region2 (D := (fun w' => w'.cell? ⟨wb, 0, none⟩ = some (.iface D (.pointer (some ⟨b, 0, none⟩))))) [0, 1, 2, 3] [4] 4 (by kernel_rfl) (by kernel_rfl) (by decide) (hbx) ?_
  simp only [List.filterMap_cons, List.filterMap_nil, List.getElem?_cons_zero, List.getElem?_cons_succ]
  repeat (
    (first
     | (refine calm_move _ rfl ?_)
     | (apply calm_cons
        · (intro w' hw'
           first | (obtain ⟨hwa', hwb', hwc'⟩ := hw') | (obtain ⟨hwa', hwb'⟩ := hw') | skip
           go_simp
           first
           | done
           | exact rfl)))
    simp only [Act.put, Act.eval, List.setIfInBounds_toArray, List.set_cons_zero, List.set_cons_succ, Array.getD_eq_getD_getElem?, List.getElem?_toArray, List.getElem?_cons_zero, List.getElem?_cons_succ, Option.getD_some])
  refine calm_nil ?_
  have HG1 := Lib.hid (HG.out.old HH.out (Below.refl w3.heap.size w3).drew)
  have HC := Lib.hid (HG1.out.flag HH.out HOK.out HDL.out)
  clear hbx
  refine loud_cons fun K hK => ?_
  go_wp2_with fail
  refine HC.out.mono ?_
  rintro e w4 ⟨rfl, d4, s4, hd2, hg2⟩
  clear HG HDL HG1 HC
  have HG := Lib.hid hg2
  have HDL := Lib.hid hd2
  clear hg2 hd2
  go_wp2_with fail
  refine hK _ _ (fun hh => absurd rfl hh) ?_
  clear hK K
  refine loud_nil ?_
  have HG := Lib.hid (HG.out.skip HPL.out)
  have HDL := Lib.hid (show (d4 ++ [Fld.r pv]).length = 3 + 1 by rw [List.length_append, HDL.out]; rfl)
  go_upto_region 6 with fail
  have hbx := (HG.out.box HW.out HNE.out HBX.out).1
  go_wp2_with fail
  refine mixed_region2 (D := (fun w' => w'.cell? ⟨wb, 0, none⟩ = some (.iface D (.pointer (some ⟨b, 0, none⟩))))) [0, 1, 2, 3] [4, 5] 5 (by kernel_rfl) (by kernel_rfl) (by decide) (hbx) ?_
  simp only [List.filterMap_cons, List.filterMap_nil, List.getElem?_cons_zero, List.getElem?_cons_succ]
  repeat (
    (first
     | (refine calm_move _ rfl ?_)
     | (apply calm_cons
        · (intro w' hw'
           first | (obtain ⟨hwa', hwb', hwc'⟩ := hw') | (obtain ⟨hwa', hwb'⟩ := hw') | skip
           go_simp
           first
           | done
           | exact rfl)))
    simp only [Act.put, Act.eval, List.setIfInBounds_toArray, List.set_cons_zero, List.set_cons_succ, Array.getD_eq_getD_getElem?, List.getElem?_toArray, List.getElem?_cons_zero, List.getElem?_cons_succ, Option.getD_some])
  refine calm_nil ?_
  have hst := HH.out.lt _ _ HG.out.st
  have hnb := ((Below.refl w4.heap.size w4).drew.alloc (Nat.le_refl _) (.cells #[.pointer (some ⟨p, o + 4, none⟩)] 101))
  have HG1 := Lib.hid (HG.out.old HH.out hnb)
  have HVA : Hid (Loc G b B (w4.drew.alloc (.cells #[.pointer (some ⟨p, o + 4, none⟩)] 101)) w4.drew.heap.size) := Lib.hid (Loc.new hst.1 hst.2 _ _ (by decide))
  have HNP : Hid (w4.drew.heap.size ≠ p) := Lib.hid (by have := HG.out.lo.2.1; show w4.heap.size ≠ _; omega)
  have HC := Lib.hid (Pg.txts HH.out (l := [u]) HG1.out HOK.out HDL.out w4.drew.heap.size 1 1 HVA.out HNP.out rfl (by omega) (fun i hi => match i, hi with | 0, _ => (alloc_cell _ _ _ 0).trans rfl))
  have HBD : Hid ((w4.drew.alloc (.cells #[.pointer (some ⟨p, o + 4, none⟩)] 101)).cell? ⟨wb, 0, none⟩ = some (.iface D (.pointer (some ⟨b, 0, none⟩)))) := Lib.hid (HG1.out.box HW.out HNE.out HBX.out).1
  clear hbx hnb hst
  refine loud_cons fun K hK => ?_
  go_wp2_with fail
  refine hK _ _ (fun _ => HBD.out) ?_
  clear hK K
  refine loud_cons fun K hK => ?_
  have hbx := HBD.out
  go_wp2_with fail
  refine HC.out.mono ?_
  rintro e w6 ⟨rfl, d6, s6, hd2, hg2⟩
  clear HG HDL HG1 HVA HNP HC HBD hbx
  have HG := Lib.hid hg2
  have HDL := Lib.hid hd2
  clear hg2 hd2
  go_wp2_with fail
  refine hK _ _ (fun hh => absurd rfl hh) ?_
  clear hK K
  refine loud_nil ?_
  go_wp2_with fail
  go_end0
  exact ⟨rfl, HG.out.fin.1, (KB.sets (w := w) (w' := w) p HPN.out _ _ HK0.out).trans HG.out.fin.2⟩
theorem Pg.rep0 (H : WayAt W D b B G At) {er : Int} {v : ByteArray} {g : Bool} {pv : Value} {u : ByteArray} (h : Pg W At G b B w0 p o s0 L done (.n 0 maxN er :: .t v :: .f g :: .r pv :: .t u :: rest) s wr) (hok : W.ok (elemW W s0 L).1) {c : Nat} (hd : done.length = c) :
    Calls Try.prog 33 #[.iface D (.pointer (some ⟨b, 0, none⟩)), .pointer (some ⟨p, o + c, none⟩), .bool false] wr fun e w' => e = .returned (.tuple #[]) ∧ ∃ (d' : List Fld) (s' : σ), d'.length = c + 5 ∧ Pg W At G b B w0 p o s0 L d' rest s' w' := by
  subst hd
  have h1 := h.okAll hok
  have h2 : W.ok (elemW W s [.n 0 maxN er, .t v, .f g, .r pv, .t u]).1 := by
    have := elemW_app (W := W) s [.n 0 maxN er, .t v, .f g, .r pv, .t u] rest
    simp only [List.cons_append, List.nil_append] at this
    rw [this] at h1
    exact elemW_ok h1
  refine (trep0_any H wr s p (o + done.length) er v g pv u h.st h.lo (FAt.app (l := [.n 0 maxN er, .t v, .f g, .r pv, .t u]) (r := rest) h.fa).1 h2).mono ?_
  rintro e w' ⟨rfl, h3, h4⟩
  exact ⟨rfl, done ++ _, _, by rw [List.length_append, elemW_len]; rfl, Pg.step (g := [.n 0 maxN er, .t v, .f g, .r pv, .t u]) (g' := (elemW W s [.n 0 maxN er, .t v, .f g, .r pv, .t u]).2) (s2 := (elemW W s [.n 0 maxN er, .t v, .f g, .r pv, .t u]).1) h rfl h3 h4⟩
set_option maxRecDepth 100000 in
set_option maxHeartbeats 2000000 in
theorem clSeen_any (H : WayAt W D b B G At) (w : World) (s : σ) (p o wb : Nat) (c q : Int) (er : Int) (v : ByteArray) (g : Bool) (pv : Value) (u : ByteArray) (h : At w s) (hp : Loc G b B w p) (hw : Loc G b B w wb) (hne : wb ≠ p) (hb : w.cell? ⟨wb, 0, none⟩ = some (.iface D (.pointer (some ⟨b, 0, none⟩)))) (hf : FAt w p o [.n 0 maxN c, .n 0 maxN q, .n 0 maxN er, .t v, .f g, .r pv, .t u]) (hok : W.ok (elemW W s [.n 0 maxN c, .n 0 maxN q, .n 0 maxN er, .t v, .f g, .r pv, .t u]).1) :
    Calls Try.prog 40 #[.pointer (some ⟨p, o, none⟩), .pointer (some ⟨wb, 0, none⟩)] w fun e w' => e = .returned (.tuple #[]) ∧ At w' (elemW W s [.n 0 maxN c, .n 0 maxN q, .n 0 maxN er, .t v, .f g, .r pv, .t u]).1 ∧ KB b B (w.setCells p o ((elemW W s [.n 0 maxN c, .n 0 maxN q, .n 0 maxN er, .t v, .f g, .r pv, .t u]).2.map Fld.cell)) w' := by
  have HH := Lib.hid H
  have HW := Lib.hid hw
  have HNE := Lib.hid hne
  have HBX := Lib.hid hb
  have HOK := Lib.hid hok
  have HG := Lib.hid (Pg.start (W := W) h hf hp)
  have HDL : Hid (([] : List Fld).length = 0) := Lib.hid rfl
  clear H hw hne hb hok h hf hp
  go_enter Try.func40, Try.ntmps40
  have hbx := (HG.out.box HW.out HNE.out HBX.out).1
  go_wp2_with fail
  refine mixed_region2 (D := (fun w' => w'.cell? ⟨wb, 0, none⟩ = some (.iface D (.pointer (some ⟨b, 0, none⟩))))) [0, 1, 2, 3, 4, 5, 6] [7, 8] 8 (by kernel_rfl) (by kernel_rfl) (by decide) (hbx) ?_
  simp only [List.filterMap_cons, List.filterMap_nil, List.getElem?_cons_zero, List.getElem?_cons_succ]
  repeat (
    (first
     | (refine calm_move _ rfl ?_)
     | (apply calm_cons
        · (intro w' hw'
           first | (obtain ⟨hwa', hwb', hwc'⟩ := hw') | (obtain ⟨hwa', hwb'⟩ := hw') | skip
           go_simp
           first
           | done
           | exact rfl)))
    simp only [Act.put, Act.eval, List.setIfInBounds_toArray, List.set_cons_zero, List.set_cons_succ, Array.getD_eq_getD_getElem?, List.getElem?_toArray, List.getElem?_cons_zero, List.getElem?_cons_succ, Option.getD_some])
  refine calm_nil ?_
  have hst := HH.out.lt _ _ HG.out.st
  have hnb := ((Below.refl w.heap.size w).drew.alloc (Nat.le_refl _) (.cells #[.pointer (some ⟨p, o, none⟩), .pointer (some ⟨p, o + 1, none⟩)] 89))
  have HG1 := Lib.hid (HG.out.old HH.out hnb)
  have HVA : Hid (Loc G b B (w.drew.alloc (.cells #[.pointer (some ⟨p, o, none⟩), .pointer (some ⟨p, o + 1, none⟩)] 89)) w.drew.heap.size) := Lib.hid (Loc.new hst.1 hst.2 _ _ (by decide))
  have HNP : Hid (w.drew.heap.size ≠ p) := Lib.hid (by have := HG.out.lo.2.1; show w.heap.size ≠ _; omega)
  have HC := Lib.hid (Pg.nums HH.out (l := [c, q]) HG1.out HOK.out HDL.out w.drew.heap.size 2 2 HVA.out HNP.out rfl (by omega) (fun i hi => match i, hi with | 0, _ => (alloc_cell _ _ _ 0).trans rfl | 1, _ => (alloc_cell _ _ _ 1).trans rfl))
  have HBD : Hid ((w.drew.alloc (.cells #[.pointer (some ⟨p, o, none⟩), .pointer (some ⟨p, o + 1, none⟩)] 89)).cell? ⟨wb, 0, none⟩ = some (.iface D (.pointer (some ⟨b, 0, none⟩)))) := Lib.hid (HG1.out.box HW.out HNE.out HBX.out).1
  clear hbx hnb hst
  refine loud_cons fun K hK => ?_
  go_wp2_with fail
  refine hK _ _ (fun _ => HBD.out) ?_
  clear hK K
  refine loud_cons fun K hK => ?_
  have hbx := HBD.out
  go_wp2_with fail
  refine HC.out.mono ?_
  rintro e w2 ⟨rfl, d2, s2, hd2, hg2⟩
  clear HG HDL HG1 HVA HNP HC HBD hbx
  have HG := Lib.hid hg2
  have HDL := Lib.hid hd2
  clear hg2 hd2
  go_wp2_with fail
  refine hK _ _ (fun hh => absurd rfl hh) ?_
  clear hK K
  refine loud_nil ?_
  have hbx := (HG.out.box HW.out HNE.out HBX.out).1
  go_wp2_with fail
  refine mixed_region2 (D := (fun w' => w'.cell? ⟨wb, 0, none⟩ = some (.iface D (.pointer (some ⟨b, 0, none⟩))))) [0, 1, 2, 3] [4] 4 (by kernel_rfl) (by kernel_rfl) (by decide) (hbx) ?_
  simp only [List.filterMap_cons, List.filterMap_nil, List.getElem?_cons_zero, List.getElem?_cons_succ]
  repeat (
    (first
     | (refine calm_move _ rfl ?_)
     | (apply calm_cons
        · (intro w' hw'
           first | (obtain ⟨hwa', hwb', hwc'⟩ := hw') | (obtain ⟨hwa', hwb'⟩ := hw') | skip
           go_simp
           first
           | done
           | exact rfl)))
    simp only [Act.put, Act.eval, List.setIfInBounds_toArray, List.set_cons_zero, List.set_cons_succ, Array.getD_eq_getD_getElem?, List.getElem?_toArray, List.getElem?_cons_zero, List.getElem?_cons_succ, Option.getD_some])
  refine calm_nil ?_
  have HG1 := Lib.hid (HG.out.old HH.out (Below.refl w2.heap.size w2).drew)
  have HC := Lib.hid (HG1.out.rep0 HH.out HOK.out HDL.out)
  clear hbx
  refine loud_cons fun K hK => ?_
  go_wp2_with fail
  refine HC.out.mono ?_
  rintro e w3 ⟨rfl, d3, s3, hd2, hg2⟩
  clear HG HDL HG1 HC
  have HG := Lib.hid hg2
  have HDL := Lib.hid hd2
  clear hg2 hd2
  go_wp2_with fail
  refine hK _ _ (fun hh => absurd rfl hh) ?_
  clear hK K
  refine loud_nil ?_
  go_wp2_with fail
  go_end0
  exact ⟨rfl, HG.out.fin⟩
end
end Go.Proofs.Ytdnhmkfgcpdbkaa
