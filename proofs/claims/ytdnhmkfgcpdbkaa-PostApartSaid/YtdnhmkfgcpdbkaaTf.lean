/-
  Layer 16 (post): contracts of the closures that let an element's fields go, over any way. Conditions: as each says.
-/
import Derived.Test.YtdnhmkfgcpdbkaaTe
import Derived.Test.YtdnhmkfgcpdbkaaTg
namespace Go.Proofs.Ytdnhmkfgcpdbkaa
open Go.RowKit
set_option linter.unusedVariables false
set_option linter.unusedSimpArgs false
theorem alloc_cell (w : World) (cs : Array Value) (T : TypeId) (i : Nat) : (w.alloc (.cells cs T)).cell? ⟨w.heap.size, i, none⟩ = cs[i]? := by
  unfold World.cell?
  rw [show (⟨w.heap.size, i, none⟩ : Addr).block = w.heap.size from rfl, heap_alloc_new]
  rfl
section
variable {σ : Type} {W : Way σ} {D b B : Nat} {G : Prop} {At : World → σ → Prop}
set_option maxRecDepth 100000 in
set_option maxHeartbeats 2000000 in
theorem clWrite_any (H : WayAt W D b B G At) (w : World) (s : σ) (p o wb : Nat) (k v : ByteArray) (g : Bool) (h : At w s) (hp : Loc G b B w p) (hw : Loc G b B w wb) (hne : wb ≠ p) (hb : w.cell? ⟨wb, 0, none⟩ = some (.iface D (.pointer (some ⟨b, 0, none⟩)))) (hf : FAt w p o [.t k, .t v, .f g]) (hok : W.ok (elemW W s [.t k, .t v, .f g]).1) :
    Calls Try.prog 57 #[.pointer (some ⟨p, o, none⟩), .pointer (some ⟨wb, 0, none⟩)] w fun e w' => e = .returned (.tuple #[]) ∧ At w' (elemW W s [.t k, .t v, .f g]).1 ∧ KB b B (w.setCells p o ((elemW W s [.t k, .t v, .f g]).2.map Fld.cell)) w' := by
  have HH := Lib.hid H
  have HW := Lib.hid hw
  have HNE := Lib.hid hne
  have HBX := Lib.hid hb
  have HOK := Lib.hid hok
  have HG := Lib.hid (Pg.start (W := W) h hf hp)
  have HDL : Hid (([] : List Fld).length = 0) := Lib.hid rfl
  clear H hw hne hb hok h hf hp
  go_enter Try.func57, Try.ntmps57
  have hbx := (HG.out.box HW.out HNE.out HBX.out).1
  go_wp2_with fail
  refine mixed_region2 (D := (fun w' => w'.cell? ⟨wb, 0, none⟩ = some (.iface D (.pointer (some ⟨b, 0, none⟩))))) [0, 1, 2, 3, 4, 5, 6] [7, 8] 8 (by kernel_rfl) (by kernel_rfl) (by decide) (hbx) ?_
  simp only [List.filterMap_cons, List.filterMap_nil, List.getElem?_cons_zero, List.getElem?_cons_succ]
  repeat (
    (first
     | (refine calm_move _ rfl ?_)
     | (apply calm_cons
        · (intro w' hw'
           first | (obtain ⟨hwa', hwb', hwc'⟩ := hw') | (obtain ⟨hwa', hwb'⟩ := hw') | skip
           go_simp
           first
           | done
           | exact rfl)))
    simp only [Act.put, Act.eval, List.setIfInBounds_toArray, List.set_cons_zero, List.set_cons_succ, Array.getD_eq_getD_getElem?, List.getElem?_toArray, List.getElem?_cons_zero, List.getElem?_cons_succ, Option.getD_some])
  refine calm_nil ?_
  have hst := HH.out.lt _ _ HG.out.st
  have hnb := ((Below.refl w.heap.size w).drew.alloc (Nat.le_refl _) (.cells #[.pointer (some ⟨p, o, none⟩), .pointer (some ⟨p, o + 1, none⟩)] 101))
  have HG1 := Lib.hid (HG.out.old HH.out hnb)
  have HVA : Hid (Loc G b B (w.drew.alloc (.cells #[.pointer (some ⟨p, o, none⟩), .pointer (some ⟨p, o + 1, none⟩)] 101)) w.drew.heap.size) := Lib.hid (Loc.new hst.1 hst.2 _ _ (by decide))
  have HNP : Hid (w.drew.heap.size ≠ p) := Lib.hid (by have := HG.out.lo.2.1; show w.heap.size ≠ _; omega)
  have HC := Lib.hid (Pg.txts HH.out (l := [k, v]) HG1.out HOK.out HDL.out w.drew.heap.size 2 2 HVA.out HNP.out rfl (by omega) (fun i hi => match i, hi with | 0, _ => (alloc_cell _ _ _ 0).trans rfl | 1, _ => (alloc_cell _ _ _ 1).trans rfl))
  have HBD : Hid ((w.drew.alloc (.cells #[.pointer (some ⟨p, o, none⟩), .pointer (some ⟨p, o + 1, none⟩)] 101)).cell? ⟨wb, 0, none⟩ = some (.iface D (.pointer (some ⟨b, 0, none⟩)))) := Lib.hid (HG1.out.box HW.out HNE.out HBX.out).1
  clear hbx hnb hst
  refine loud_cons fun K hK => ?_
  go_wp2_with fail
  refine hK _ _ (fun _ => HBD.out) ?_
  clear hK K
  refine loud_cons fun K hK => ?_
  have hbx := HBD.out
  go_wp2_with fail
  refine HC.out.mono ?_
  rintro e w2 ⟨rfl, d2, s2, hd2, hg2⟩
  clear HG HDL HG1 HVA HNP HC HBD hbx
  have HG := Lib.hid hg2
  have HDL := Lib.hid hd2
  clear hg2 hd2
  go_wp2_with fail
  refine hK _ _ (fun hh => absurd rfl hh) ?_
  clear hK K
  refine loud_nil ?_
  have hbx := (HG.out.box HW.out HNE.out HBX.out).1
  go_wp2_with fail
  refine mixed_region2 (D := (fun w' => w'.cell? ⟨wb, 0, none⟩ = some (.iface D (.pointer (some ⟨b, 0, none⟩))))) [0, 1, 2, 3] [4] 4 (by kernel_rfl) (by kernel_rfl) (by decide) (hbx) ?_
  simp only [List.filterMap_cons, List.filterMap_nil, List.getElem?_cons_zero, List.getElem?_cons_succ]
  repeat (
    (first
     | (refine calm_move _ rfl ?_)
     | (apply calm_cons
        · (intro w' hw'
           first | (obtain ⟨hwa', hwb', hwc'⟩ := hw') | (obtain ⟨hwa', hwb'⟩ := hw') | skip
           go_simp
           first
           | done
           | exact rfl)))
    simp only [Act.put, Act.eval, List.setIfInBounds_toArray, List.set_cons_zero, List.set_cons_succ, Array.getD_eq_getD_getElem?, List.getElem?_toArray, List.getElem?_cons_zero, List.getElem?_cons_succ, Option.getD_some])
  refine calm_nil ?_
  have HG1 := Lib.hid (HG.out.old HH.out (Below.refl w2.heap.size w2).drew)
  have HC := Lib.hid (HG1.out.flag HH.out HOK.out HDL.out)
  clear hbx
  refine loud_cons fun K hK => ?_
  go_wp2_with fail
  refine HC.out.mono ?_
  rintro e w3 ⟨rfl, d3, s3, hd2, hg2⟩
  clear HG HDL HG1 HC
  have HG := Lib.hid hg2
  have HDL := Lib.hid hd2
  clear hg2 hd2
  go_wp2_with fail
  refine hK _ _ (fun hh => absurd rfl hh) ?_
  clear hK K
  refine loud_nil ?_
  go_wp2_with fail
  go_end0
  exact ⟨rfl, HG.out.fin⟩
set_option maxRecDepth 100000 in
set_option maxHeartbeats 2000000 in
theorem clPair_any (H : WayAt W D b B G At) (w : World) (s : σ) (p o wb : Nat) (k v : ByteArray) (h : At w s) (hp : Loc G b B w p) (hw : Loc G b B w wb) (hne : wb ≠ p) (hb : w.cell? ⟨wb, 0, none⟩ = some (.iface D (.pointer (some ⟨b, 0, none⟩)))) (hf : FAt w p o [.t k, .t v]) (hok : W.ok (elemW W s [.t k, .t v]).1) :
    Calls Try.prog 59 #[.pointer (some ⟨p, o, none⟩), .pointer (some ⟨wb, 0, none⟩)] w fun e w' => e = .returned (.tuple #[]) ∧ At w' (elemW W s [.t k, .t v]).1 ∧ KB b B (w.setCells p o ((elemW W s [.t k, .t v]).2.map Fld.cell)) w' := by
  have HH := Lib.hid H
  have HW := Lib.hid hw
  have HNE := Lib.hid hne
  have HBX := Lib.hid hb
  have HOK := Lib.hid hok
  have HG := Lib.hid (Pg.start (W := W) h hf hp)
  have HDL : Hid (([] : List Fld).length = 0) := Lib.hid rfl
  clear H hw hne hb hok h hf hp
  go_enter Try.func59, Try.ntmps59
  have hbx := (HG.out.box HW.out HNE.out HBX.out).1
  go_wp2_with fail
  refine mixed_region2 (D := (fun w' => w'.cell? ⟨wb, 0, none⟩ = some (.iface D (.pointer (some ⟨b, 0, none⟩))))) [0, 1, 2, 3, 4, 5, 6] [7, 8] 8 (by kernel_rfl) (by kernel_rfl) (by decide) (hbx) ?_
  simp only [List.filterMap_cons, List.filterMap_nil, List.getElem?_cons_zero, List.getElem?_cons_succ]
  repeat (
    (first
     | (refine calm_move _ rfl ?_)
     | (apply calm_cons
        · (intro w' hw'
           first | (obtain ⟨hwa', hwb', hwc'⟩ := hw') | (obtain ⟨hwa', hwb'⟩ := hw') | skip
           go_simp
           first
           | done
           | exact rfl)))
    simp only [Act.put, Act.eval, List.setIfInBounds_toArray, List.set_cons_zero, List.set_cons_succ, Array.getD_eq_getD_getElem?, List.getElem?_toArray, List.getElem?_cons_zero, List.getElem?_cons_succ, Option.getD_some])
  refine calm_nil ?_
  have hst := HH.out.lt _ _ HG.out.st
  have hnb := ((Below.refl w.heap.size w).drew.alloc (Nat.le_refl _) (.cells #[.pointer (some ⟨p, o, none⟩), .pointer (some ⟨p, o + 1, none⟩)] 101))
  have HG1 := Lib.hid (HG.out.old HH.out hnb)
  have HVA : Hid (Loc G b B (w.drew.alloc (.cells #[.pointer (some ⟨p, o, none⟩), .pointer (some ⟨p, o + 1, none⟩)] 101)) w.drew.heap.size) := Lib.hid (Loc.new hst.1 hst.2 _ _ (by decide))
  have HNP : Hid (w.drew.heap.size ≠ p) := Lib.hid (by have := HG.out.lo.2.1; show w.heap.size ≠ _; omega)
  have HC := Lib.hid (Pg.txts HH.out (l := [k, v]) HG1.out HOK.out HDL.out w.drew.heap.size 2 2 HVA.out HNP.out rfl (by omega) (fun i hi => match i, hi with | 0, _ => (alloc_cell _ _ _ 0).trans rfl | 1, _ => (alloc_cell _ _ _ 1).trans rfl))
  have HBD : Hid ((w.drew.alloc (.cells #[.pointer (some ⟨p, o, none⟩), .pointer (some ⟨p, o + 1, none⟩)] 101)).cell? ⟨wb, 0, none⟩ = some (.iface D (.pointer (some ⟨b, 0, none⟩)))) := Lib.hid (HG1.out.box HW.out HNE.out HBX.out).1
  clear hbx hnb hst
  refine loud_cons fun K hK => ?_
  go_wp2_with fail
  refine hK _ _ (fun _ => HBD.out) ?_
  clear hK K
  refine loud_cons fun K hK => ?_
  have hbx := HBD.out
  go_wp2_with fail
  refine HC.out.mono ?_
  rintro e w2 ⟨rfl, d2, s2, hd2, hg2⟩
  clear HG HDL HG1 HVA HNP HC HBD hbx
  have HG := Lib.hid hg2
  have HDL := Lib.hid hd2
  clear hg2 hd2
  go_wp2_with fail
  refine hK _ _ (fun hh => absurd rfl hh) ?_
  clear hK K
  refine loud_nil ?_
  go_wp2_with fail
  go_end0
  exact ⟨rfl, HG.out.fin⟩
set_option maxRecDepth 100000 in
set_option maxHeartbeats 2000000 in
theorem clShard_any (H : WayAt W D b B G At) (w : World) (s : σ) (p o wb : Nat) (i : Int) (lo hi : ByteArray) (ep nd st : Int) (h : At w s) (hp : Loc G b B w p) (hw : Loc G b B w wb) (hne : wb ≠ p) (hb : w.cell? ⟨wb, 0, none⟩ = some (.iface D (.pointer (some ⟨b, 0, none⟩)))) (hf : FAt w p o [.n 0 maxN i, .t lo, .t hi, .n 0 maxN ep, .n 0 maxN nd, .n 0 maxN st]) (hok : W.ok (elemW W s [.n 0 maxN i, .t lo, .t hi, .n 0 maxN ep, .n 0 maxN nd, .n 0 maxN st]).1) :
    Calls Try.prog 35 #[.pointer (some ⟨p, o, none⟩), .pointer (some ⟨wb, 0, none⟩)] w fun e w' => e = .returned (.tuple #[]) ∧ At w' (elemW W s [.n 0 maxN i, .t lo, .t hi, .n 0 maxN ep, .n 0 maxN nd, .n 0 maxN st]).1 ∧ KB b B (w.setCells p o ((elemW W s [.n 0 maxN i, .t lo, .t hi, .n 0 maxN ep, .n 0 maxN nd, .n 0 maxN st]).2.map Fld.cell)) w' := by
  have HH := Lib.hid H
  have HW := Lib.hid hw
  have HNE := Lib.hid hne
  have HBX := Lib.hid hb
  have HOK := Lib.hid hok
  have HG := Lib.hid (Pg.start (W := W) h hf hp)
  have HDL : Hid (([] : List Fld).length = 0) := Lib.hid rfl
  clear H hw hne hb hok h hf hp
  go_enter Try.func35, Try.ntmps35
  have hbx := (HG.out.box HW.out HNE.out HBX.out).1
  go_wp2_with fail
  refine mixed_region2 (D := (fun w' => w'.cell? ⟨wb, 0, none⟩ = some (.iface D (.pointer (some ⟨b, 0, none⟩))))) [0, 1, 2, 3] [4, 5] 5 (by kernel_rfl) (by kernel_rfl) (by decide) (hbx) ?_
  simp only [List.filterMap_cons, List.filterMap_nil, List.getElem?_cons_zero, List.getElem?_cons_succ]
  repeat (
    (first
     | (refine calm_move _ rfl ?_)
     | (apply calm_cons
        · (intro w' hw'
           first | (obtain ⟨hwa', hwb', hwc'⟩ := hw') | (obtain ⟨hwa', hwb'⟩ := hw') | skip
           go_simp
           first
           | done
           | exact rfl)))
    simp only [Act.put, Act.eval, List.setIfInBounds_toArray, List.set_cons_zero, List.set_cons_succ, Array.getD_eq_getD_getElem?, List.getElem?_toArray, List.getElem?_cons_zero, List.getElem?_cons_succ, Option.getD_some])
  refine calm_nil ?_
  have hst := HH.out.lt _ _ HG.out.st
  have hnb := ((Below.refl w.heap.size w).drew.alloc (Nat.le_refl _) (.cells #[.pointer (some ⟨p, o, none⟩)] 89))
  have HG1 := Lib.hid (HG.out.old HH.out hnb)
  have HVA : Hid (Loc G b B (w.drew.alloc (.cells #[.pointer (some ⟨p, o, none⟩)] 89)) w.drew.heap.size) := Lib.hid (Loc.new hst.1 hst.2 _ _ (by decide))
  have HNP : Hid (w.drew.heap.size ≠ p) := Lib.hid (by have := HG.out.lo.2.1; show w.heap.size ≠ _; omega)
  have HC := Lib.hid (Pg.nums HH.out (l := [i]) HG1.out HOK.out HDL.out w.drew.heap.size 1 1 HVA.out HNP.out rfl (by omega) (fun i hi => match i, hi with | 0, _ => (alloc_cell _ _ _ 0).trans rfl))
  have HBD : Hid ((w.drew.alloc (.cells #[.pointer (some ⟨p, o, none⟩)] 89)).cell? ⟨wb, 0, none⟩ = some (.iface D (.pointer (some ⟨b, 0, none⟩)))) := Lib.hid (HG1.out.box HW.out HNE.out HBX.out).1
  clear hbx hnb hst
  refine loud_cons fun K hK => ?_
  go_wp2_with fail
  refine hK _ _ (fun _ => HBD.out) ?_
  clear hK K
  refine loud_cons fun K hK => ?_
  have hbx := HBD.out
  go_wp2_with fail
  refine HC.out.mono ?_
  rintro e w2 ⟨rfl, d2, s2, hd2, hg2⟩
  clear HG HDL HG1 HVA HNP HC HBD hbx
  have HG := Lib.hid hg2
  have HDL := Lib.hid hd2
  clear hg2 hd2
  go_wp2_with fail
  refine hK _ _ (fun hh => absurd rfl hh) ?_
  clear hK K
  refine loud_nil ?_
  have hbx := (HG.out.box HW.out HNE.out HBX.out).1
  go_wp2_with fail
  refine mixed_region2 (D := (fun w' => w'.cell? ⟨wb, 0, none⟩ = some (.iface D (.pointer (some ⟨b, 0, none⟩))))) [0, 1, 2, 3, 4, 5, 6, 7, 8] [9, 10] 10 (by kernel_rfl) (by kernel_rfl) (by decide) (hbx) ?_
  simp only [List.filterMap_cons, List.filterMap_nil, List.getElem?_cons_zero, List.getElem?_cons_succ]
  repeat (
    (first
     | (refine calm_move _ rfl ?_)
     | (apply calm_cons
        · (intro w' hw'
           first | (obtain ⟨hwa', hwb', hwc'⟩ := hw') | (obtain ⟨hwa', hwb'⟩ := hw') | skip
           go_simp
           first
           | done
           | exact rfl)))
    simp only [Act.put, Act.eval, List.setIfInBounds_toArray, List.set_cons_zero, List.set_cons_succ, Array.getD_eq_getD_getElem?, List.getElem?_toArray, List.getElem?_cons_zero, List.getElem?_cons_succ, Option.getD_some])
  refine calm_nil ?_
  have hst := HH.out.lt _ _ HG.out.st
  have hnb := ((Below.refl w2.heap.size w2).drew.alloc (Nat.le_refl _) (.cells #[.pointer (some ⟨p, o + 1, none⟩), .pointer (some ⟨p, o + 2, none⟩)] 101))
  have HG1 := Lib.hid (HG.out.old HH.out hnb)
  have HVA : Hid (Loc G b B (w2.drew.alloc (.cells #[.pointer (some ⟨p, o + 1, none⟩), .pointer (some ⟨p, o + 2, none⟩)] 101)) w2.drew.heap.size) := Lib.hid (Loc.new hst.1 hst.2 _ _ (by decide))
  have HNP : Hid (w2.drew.heap.size ≠ p) := Lib.hid (by have := HG.out.lo.2.1; show w2.heap.size ≠ _; omega)
  have HC := Lib.hid (Pg.txts HH.out (l := [lo, hi]) HG1.out HOK.out HDL.out w2.drew.heap.size 2 2 HVA.out HNP.out rfl (by omega) (fun i hi => match i, hi with | 0, _ => (alloc_cell _ _ _ 0).trans rfl | 1, _ => (alloc_cell _ _ _ 1).trans rfl))
  have HBD : Hid ((w2.drew.alloc (.cells #[.pointer (some ⟨p, o + 1, none⟩), .pointer (some ⟨p, o + 2, none⟩)] 101)).cell? ⟨wb, 0, none⟩ = some (.iface D (.pointer (some ⟨b, 0, none⟩)))) := Lib.hid (HG1.out.box HW.out HNE.out HBX.out).1
  clear hbx hnb hst
  refine loud_cons fun K hK => ?_
  go_wp2_with fail
  refine hK _ _ (fun _ => HBD.out) ?_
  clear hK K
  refine loud_cons fun K hK => ?_
  have hbx := HBD.out
  go_wp2_with fail
  refine HC.out.mono ?_
  rintro e w3 ⟨rfl, d3, s3, hd2, hg2⟩
  clear HG HDL HG1 HVA HNP HC HBD hbx
  have HG := Lib.hid hg2
  have HDL := Lib.hid hd2
  clear hg2 hd2
  go_wp2_with fail
  refine hK _ _ (fun hh => absurd rfl hh) ?_
  clear hK K
  refine loud_nil ?_
  have hbx := (HG.out.box HW.out HNE.out HBX.out).1
  go_wp2_with fail
  refine mixed_region2 (D := (fun w' => w'.cell? ⟨wb, 0, none⟩ = some (.iface D (.pointer (some ⟨b, 0, none⟩))))) [0, 1, 2, 3, 4, 5, 6, 7, 8, 9] [10, 11] 11 (by kernel_rfl) (by kernel_rfl) (by decide) (hbx) ?_
  simp only [List.filterMap_cons, List.filterMap_nil, List.getElem?_cons_zero, List.getElem?_cons_succ]
  repeat (
    (first
     | (refine calm_move _ rfl ?_)
     | (apply calm_cons
        · (intro w' hw'
           first | (obtain ⟨hwa', hwb', hwc'⟩ := hw') | (obtain ⟨hwa', hwb'⟩ := hw') | skip
           go_simp
           first
           | done
           | exact rfl)))
    simp only [Act.put, Act.eval, List.setIfInBounds_toArray, List.set_cons_zero, List.set_cons_succ, Array.getD_eq_getD_getElem?, List.getElem?_toArray, List.getElem?_cons_zero, List.getElem?_cons_succ, Option.getD_some])
  refine calm_nil ?_
  have hst := HH.out.lt _ _ HG.out.st
  have hnb := ((Below.refl w3.heap.size w3).drew.alloc (Nat.le_refl _) (.cells #[.pointer (some ⟨p, o + 3, none⟩), .pointer (some ⟨p, o + 4, none⟩), .pointer (some ⟨p, o + 5, none⟩)] 89))
  have HG1 := Lib.hid (HG.out.old HH.out hnb)
  have HVA : Hid (Loc G b B (w3.drew.alloc (.cells #[.pointer (some ⟨p, o + 3, none⟩), .pointer (some ⟨p, o + 4, none⟩), .pointer (some ⟨p, o + 5, none⟩)] 89)) w3.drew.heap.size) := Lib.hid (Loc.new hst.1 hst.2 _ _ (by decide))
  have HNP : Hid (w3.drew.heap.size ≠ p) := Lib.hid (by have := HG.out.lo.2.1; show w3.heap.size ≠ _; omega)
  have HC := Lib.hid (Pg.nums HH.out (l := [ep, nd, st]) HG1.out HOK.out HDL.out w3.drew.heap.size 3 3 HVA.out HNP.out rfl (by omega) (fun i hi => match i, hi with | 0, _ => (alloc_cell _ _ _ 0).trans rfl | 1, _ => (alloc_cell _ _ _ 1).trans rfl | 2, _ => (alloc_cell _ _ _ 2).trans rfl))
  have HBD : Hid ((w3.drew.alloc (.cells #[.pointer (some ⟨p, o + 3, none⟩), .pointer (some ⟨p, o + 4, none⟩), .pointer (some ⟨p, o + 5, none⟩)] 89)).cell? ⟨wb, 0, none⟩ = some (.iface D (.pointer (some ⟨b, 0, none⟩)))) := Lib.hid (HG1.out.box HW.out HNE.out HBX.out).1
  clear hbx hnb hst
  refine loud_cons fun K hK => ?_
  go_wp2_with fail
  refine hK _ _ (fun _ => HBD.out) ?_
  clear hK K
  refine loud_cons fun K hK => ?_
  have hbx := HBD.out
  go_wp2_with fail
  refine HC.out.mono ?_
  rintro e w4 ⟨rfl, d4, s4, hd2, hg2⟩
  clear HG HDL HG1 HVA HNP HC HBD hbx
  have HG := Lib.hid hg2
  have HDL := Lib.hid hd2
  clear hg2 hd2
  go_wp2_with fail
  refine hK _ _ (fun hh => absurd rfl hh) ?_
  clear hK K
  refine loud_nil ?_
  go_wp2_with fail
  go_end0
  exact ⟨rfl, HG.out.fin⟩
set_option maxRecDepth 100000 in
set_option maxHeartbeats 2000000 in
theorem clEntry_any (H : WayAt W D b B G At) (w : World) (s : σ) (p o wb : Nat) (k v : ByteArray) (g : Bool) (q : Int) (h : At w s) (hp : Loc G b B w p) (hw : Loc G b B w wb) (hne : wb ≠ p) (hb : w.cell? ⟨wb, 0, none⟩ = some (.iface D (.pointer (some ⟨b, 0, none⟩)))) (hf : FAt w p o [.t k, .t v, .f g, .n 0 maxN q]) (hok : W.ok (elemW W s [.t k, .t v, .f g, .n 0 maxN q]).1) :
    Calls Try.prog 38 #[.pointer (some ⟨p, o, none⟩), .pointer (some ⟨wb, 0, none⟩)] w fun e w' => e = .returned (.tuple #[]) ∧ At w' (elemW W s [.t k, .t v, .f g, .n 0 maxN q]).1 ∧ KB b B (w.setCells p o ((elemW W s [.t k, .t v, .f g, .n 0 maxN q]).2.map Fld.cell)) w' := by
  have HH := Lib.hid H
  have HW := Lib.hid hw
  have HNE := Lib.hid hne
  have HBX := Lib.hid hb
  have HOK := Lib.hid hok
  have HG := Lib.hid (Pg.start (W := W) h hf hp)
  have HDL : Hid (([] : List Fld).length = 0) := Lib.hid rfl
  clear H hw hne hb hok h hf hp
  go_enter Try.func38, Try.ntmps38
  have hbx := (HG.out.box HW.out HNE.out HBX.out).1
  go_wp2_with fail
  refine mixed_region2 (D := (fun w' => w'.cell? ⟨wb, 0, none⟩ = some (.iface D (.pointer (some ⟨b, 0, none⟩))))) [0, 1, 2, 3, 4, 5, 6] [7, 8] 8 (by kernel_rfl) (by kernel_rfl) (by decide) (hbx) ?_
  simp only [List.filterMap_cons, List.filterMap_nil, List.getElem?_cons_zero, List.getElem?_cons_succ]
  repeat (
    (first
     | (refine calm_move _ rfl ?_)
     | (apply calm_cons
        · (intro w' hw'
           first | (obtain ⟨hwa', hwb', hwc'⟩ := hw') | (obtain ⟨hwa', hwb'⟩ := hw') | skip
           go_simp
           first
           | done
           | exact rfl)))
    simp only [Act.put, Act.eval, List.setIfInBounds_toArray, List.set_cons_zero, List.set_cons_succ, Array.getD_eq_getD_getElem?, List.getElem?_toArray, List.getElem?_cons_zero, List.getElem?_cons_succ, Option.getD_some])
  refine calm_nil ?_
  have hst := HH.out.lt _ _ HG.out.st
  have hnb := ((Below.refl w.heap.size w).drew.alloc (Nat.le_refl _) (.cells #[.pointer (some ⟨p, o, none⟩), .pointer (some ⟨p, o + 1, none⟩)] 101))
  have HG1 := Lib.hid (HG.out.old HH.out hnb)
  have HVA : Hid (Loc G b B (w.drew.alloc (.cells #[.pointer (some ⟨p, o, none⟩), .pointer (some ⟨p, o + 1, none⟩)] 101)) w.drew.heap.size) := Lib.hid (Loc.new hst.1 hst.2 _ _ (by decide))
  have HNP : Hid (w.drew.heap.size ≠ p) := Lib.hid (by have := HG.out.lo.2.1; show w.heap.size ≠ _; omega)
  have HC := Lib.hid (Pg.txts HH.out (l := [k, v]) HG1.out HOK.out HDL.out w.drew.heap.size 2 2 HVA.out HNP.out rfl (by omega) (fun i hi => match i, hi with | 0, _ => (alloc_cell _ _ _ 0).trans rfl | 1, _ => (alloc_cell _ _ _ 1).trans rfl))
  have HBD : Hid ((w.drew.alloc (.cells #[.pointer (some ⟨p, o, none⟩), .pointer (some ⟨p, o + 1, none⟩)] 101)).cell? ⟨wb, 0, none⟩ = some (.iface D (.pointer (some ⟨b, 0, none⟩)))) := Lib.hid (HG1.out.box HW.out HNE.out HBX.out).1
  clear hbx hnb hst
  refine loud_cons fun K hK => ?_
  go_wp2_with fail
  refine hK _ _ (fun _ => HBD.out) ?_
  clear hK K
  refine loud_cons fun K hK => ?_
  have hbx := HBD.out
  go_wp2_with fail
  refine HC.out.mono ?_
  rintro e w2 ⟨rfl, d2, s2, hd2, hg2⟩
  clear HG HDL HG1 HVA HNP HC HBD hbx
  have HG := Lib.hid hg2
  have HDL := Lib.hid hd2
  clear hg2 hd2
  go_wp2_with fail
  refine hK _ _ (fun hh => absurd rfl hh) ?_
  clear hK K
  refine loud_nil ?_
  have hbx := (HG.out.box HW.out HNE.out HBX.out).1
  go_wp2_with fail
  refine mixed_region2 (D := (fun w' => w'.cell? ⟨wb, 0, none⟩ = some (.iface D (.pointer (some ⟨b, 0, none⟩))))) [0, 1, 2, 3] [4] 4 (by kernel_rfl) (by kernel_rfl) (by decide) (hbx) ?_
  simp only [List.filterMap_cons, List.filterMap_nil, List.getElem?_cons_zero, List.getElem?_cons_succ]
  repeat (
    (first
     | (refine calm_move _ rfl ?_)
     | (apply calm_cons
        · (intro w' hw'
           first | (obtain ⟨hwa', hwb', hwc'⟩ := hw') | (obtain ⟨hwa', hwb'⟩ := hw') | skip
           go_simp
           first
           | done
           | exact rfl)))
    simp only [Act.put, Act.eval, List.setIfInBounds_toArray, List.set_cons_zero, List.set_cons_succ, Array.getD_eq_getD_getElem?, List.getElem?_toArray, List.getElem?_cons_zero, List.getElem?_cons_succ, Option.getD_some])
  refine calm_nil ?_
  have HG1 := Lib.hid (HG.out.old HH.out (Below.refl w2.heap.size w2).drew)
  have HC := Lib.hid (HG1.out.flag HH.out HOK.out HDL.out)
  clear hbx
  refine loud_cons fun K hK => ?_
  go_wp2_with fail
  refine HC.out.mono ?_
  rintro e w3 ⟨rfl, d3, s3, hd2, hg2⟩
  clear HG HDL HG1 HC
  have HG := Lib.hid hg2
  have HDL := Lib.hid hd2
  clear hg2 hd2
  go_wp2_with fail
  refine hK _ _ (fun hh => absurd rfl hh) ?_
  clear hK K
  refine loud_nil ?_
  have hbx := (HG.out.box HW.out HNE.out HBX.out).1
  go_wp2_with fail
  refine mixed_region2 (D := (fun w' => w'.cell? ⟨wb, 0, none⟩ = some (.iface D (.pointer (some ⟨b, 0, none⟩))))) [0, 1, 2, 3] [4, 5] 5 (by kernel_rfl) (by kernel_rfl) (by decide) (hbx) ?_
  simp only [List.filterMap_cons, List.filterMap_nil, List.getElem?_cons_zero, List.getElem?_cons_succ]
  repeat (
    (first
     | (refine calm_move _ rfl ?_)
     | (apply calm_cons
        · (intro w' hw'
           first | (obtain ⟨hwa', hwb', hwc'⟩ := hw') | (obtain ⟨hwa', hwb'⟩ := hw') | skip
           go_simp
           first
           | done
           | exact rfl)))
    simp only [Act.put, Act.eval, List.setIfInBounds_toArray, List.set_cons_zero, List.set_cons_succ, Array.getD_eq_getD_getElem?, List.getElem?_toArray, List.getElem?_cons_zero, List.getElem?_cons_succ, Option.getD_some])
  refine calm_nil ?_
  have hst := HH.out.lt _ _ HG.out.st
  have hnb := ((Below.refl w3.heap.size w3).drew.alloc (Nat.le_refl _) (.cells #[.pointer (some ⟨p, o + 3, none⟩)] 89))
  have HG1 := Lib.hid (HG.out.old HH.out hnb)
  have HVA : Hid (Loc G b B (w3.drew.alloc (.cells #[.pointer (some ⟨p, o + 3, none⟩)] 89)) w3.drew.heap.size) := Lib.hid (Loc.new hst.1 hst.2 _ _ (by decide))
  have HNP : Hid (w3.drew.heap.size ≠ p) := Lib.hid (by have := HG.out.lo.2.1; show w3.heap.size ≠ _; omega)
  have HC := Lib.hid (Pg.nums HH.out (l := [q]) HG1.out HOK.out HDL.out w3.drew.heap.size 1 1 HVA.out HNP.out rfl (by omega) (fun i hi => match i, hi with | 0, _ => (alloc_cell _ _ _ 0).trans rfl))
  have HBD : Hid ((w3.drew.alloc (.cells #[.pointer (some ⟨p, o + 3, none⟩)] 89)).cell? ⟨wb, 0, none⟩ = some (.iface D (.pointer (some ⟨b, 0, none⟩)))) := Lib.hid (HG1.out.box HW.out HNE.out HBX.out).1
  clear hbx hnb hst
  refine loud_cons fun K hK => ?_
  go_wp2_with fail
  refine hK _ _ (fun _ => HBD.out) ?_
  clear hK K
  refine loud_cons fun K hK => ?_
  have hbx := HBD.out
  go_wp2_with fail
  refine HC.out.mono ?_
  rintro e w4 ⟨rfl, d4, s4, hd2, hg2⟩
  clear HG HDL HG1 HVA HNP HC HBD hbx
  have HG := Lib.hid hg2
  have HDL := Lib.hid hd2
  clear hg2 hd2
  go_wp2_with fail
  refine hK _ _ (fun hh => absurd rfl hh) ?_
  clear hK K
  refine loud_nil ?_
  go_wp2_with fail
  go_end0
  exact ⟨rfl, HG.out.fin⟩
end
end Go.Proofs.Ytdnhmkfgcpdbkaa
