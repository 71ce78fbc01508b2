/-
  Layer 16 (post): the contract of message, over any way. Conditions: as each says.
-/
import Derived.Test.YtdnhmkfgcpdbkaaTm
import Derived.Test.YtdnhmkfgcpdbkaaTk
import Derived.Test.YtdnhmkfgcpdbkaaTl
namespace Go.Proofs.Ytdnhmkfgcpdbkaa
open Go.RowKit
set_option linter.unusedVariables false
set_option linter.unusedSimpArgs false
section
variable {σ : Type} {W : Way σ} {D b B : Nat} {G : Prop} {At : World → σ → Prop}
/-- A message, field by field; its five lists apart. -/
structure Mg where
  A : List Fld
  OA : List Fld
  OW : List (List Fld)
  OC : List Fld
  RA : List Fld
  RP : List (List Fld)
  RC : List Fld
  MP : List (List Fld)
  EN : List (List Fld)
  SE : List (List Fld)
def mcells (m : Mg) (v1 v2 v3 v4 v5 : Value) : List Value := m.A.map Fld.cell ++ ((m.OA.map Fld.cell ++ v1 :: m.OC.map Fld.cell) ++ ((m.RA.map Fld.cell ++ v2 :: m.RC.map Fld.cell) ++ ([v3] ++ ([v4] ++ [v5]))))
def mflds (m : Mg) (v1 v2 v3 v4 v5 : Value) : List Fld := m.A ++ ((m.OA ++ ([.r v1] ++ m.OC)) ++ ((m.RA ++ ([.r v2] ++ m.RC)) ++ ([.r v3] ++ ([.r v4] ++ [.r v5]))))
def msgW (W : Way σ) (s : σ) (m : Mg) : σ × Mg :=
  let t1 := elemW W s m.A
  let t2 := segW W zeroWrite 64 t1.1 m.OA m.OW m.OC
  let t3 := segW W zeroPair 512 t2.1 m.RA m.RP m.RC
  let t4 := listW W zeroShard 64 t3.1 m.MP
  let t5 := listW W zeroEntry 512 t4.1 m.EN
  let t6 := listW W zeroSeen 8 t5.1 m.SE
  (t6.1, ⟨t1.2, t2.2.1, t2.2.2.1, t2.2.2.2, t3.2.1, t3.2.2.1, t3.2.2.2, t4.2, t5.2, t6.2⟩)
/-- What message leaves. -/
def MPost (At : World → σ → Prop) (G : Prop) (b B : Nat) (w : World) (p o : Nat) (t : σ × Mg) (w' : World) : Prop :=
  ∃ v1 v2 v3 v4 v5, At w' t.1 ∧ KB b B (w.setCells p o (mcells t.2 v1 v2 v3 v4 v5)) w' ∧ LRow G b B w' p 3 v1 t.2.OW ∧ LRow G b B w' p 2 v2 t.2.RP ∧ LRow G b B w' p 6 v3 t.2.MP ∧ LRow G b B w' p 4 v4 t.2.EN ∧ LRow G b B w' p 7 v5 t.2.SE
theorem seg_len {zero : List Fld} {most : Nat} {s s2 : σ} {A A1 C C1 : List Fld} {L L1 : List (List Fld)} (h : segW W zero most s A L C = (s2, A1, L1, C1)) (v v0 : Value) : (A1.map Fld.cell ++ v :: C1.map Fld.cell).length = (A ++ ([Fld.r v0] ++ C)).length := by
  have h1 : A1 = (elemW W s A).2 := by have := congrArg (·.2.1) h; exact this.symm
  have h2 : C1 = (elemW W (listW W zero most (elemW W s A).1 L).1 C).2 := by have := congrArg (·.2.2.2) h; exact this.symm
  rw [h1, h2]
  simp [elemW_len]
theorem LRw.low {w : World} {p sz wb : Nat} {sv : Value} {L : List (List Fld)} (h : LRw G b B w p sz wb sv L) : LRow G b B w p sz sv L := by
  obtain ⟨a, n, c, h1, h2, h3⟩ := h
  refine ⟨a, n, c, h1, h2, ?_⟩
  rcases h3 with h3 | ⟨rb, ro, h3, h4, h5, h7, h6⟩
  · exact .inl h3
  · exact .inr ⟨rb, ro, h3, h4, h5, h6⟩
theorem LRow.drew {w : World} {p sz : Nat} {sv : Value} {L : List (List Fld)} (h : LRow G b B w p sz sv L) : LRow G b B w.drew p sz sv L := h.next (o := 0) (vs := []) (KB.drew (KB.refl b B w))
theorem LRow.next1 {w w' : World} {p o sz : Nat} {sv v : Value} {L : List (List Fld)} (h : LRow G b B w p sz sv L) (hk : KB b B (w.setCell ⟨p, o, none⟩ v) w') : LRow G b B w' p sz sv L := h.next (o := o) (vs := [v]) hk
theorem Pg.num1 {w0 wr : World} {p o : Nat} {s0 s : σ} {L rest : List Fld} {f : FuncId} {r : Value} {lo hi x : Int} (h : Pg W At G b B w0 p o s0 L [] (.n lo hi x :: rest) s wr) (hok : W.ok (elemW W s0 L).1)
    (hn : ∀ w s p o lo hi x, At w s → Loc G b B w p → w.cell? ⟨p, o, none⟩ = some (.int .i64 x) → W.ok (W.num s lo hi x).1 → Calls Try.prog f #[r, .pointer (some ⟨p, o, none⟩), .int .i64 lo, .int .i64 hi] w fun e w' => e = .returned (.tuple #[]) ∧ At w' (W.num s lo hi x).1 ∧ KB b B (w.setCell ⟨p, o, none⟩ (.int .i64 (W.num s lo hi x).2)) w') :
    Calls Try.prog f #[r, .pointer (some ⟨p, o, none⟩), .int .i64 lo, .int .i64 hi] wr fun e w' => e = .returned (.tuple #[]) ∧ ∃ (d' : List Fld) (s' : σ), d'.length = 0 + 1 ∧ Pg W At G b B w0 p o s0 L d' rest s' w' := by
  have h1 := h.okAll hok
  have h2 : W.ok (W.num s lo hi x).1 := elemW_ok (l := rest) h1
  refine (hn wr s p o lo hi x h.st h.lo (by have := h.fa 0 (by simp); simpa [Fld.cell] using this) h2).mono ?_
  rintro e w' ⟨rfl, h3, h4⟩
  exact ⟨rfl, [] ++ [Fld.n lo hi (W.num s lo hi x).2], _, by simp, Pg.step (g := [Fld.n lo hi x]) (g' := [Fld.n lo hi (W.num s lo hi x).2]) (s2 := (W.num s lo hi x).1) h rfl h3 h4⟩
set_option maxRecDepth 100000 in
set_option maxHeartbeats 8000000 in
theorem tmsg_any (H : WayAt W D b B G At) (w : World) (s : σ) (p o : Nat) (kd a1 a2 a3 a4 a5 a6 : Int) (wh : Bool) (ok : Int) (oy ov od : ByteArray) (og : Bool) (OW : List (List Fld)) (ol oh : ByteArray) (om : Int) (er : Int) (rv : ByteArray) (rg : Bool) (RP : List (List Fld)) (ru : ByteArray) (MP EN SE : List (List Fld)) (v1 v2 v3 v4 v5 : Value)
    (h : At w s) (hp : Loc G b B w p) (hf : FAt w p o (mflds ⟨[.n 1 15 kd, .n 0 maxN a1, .n 0 maxN a2, .n 0 maxN a3, .n 0 maxN a4, .n 0 maxN a5, .n 0 maxN a6, .f wh], [.n 0 maxN ok, .t oy, .t ov, .t od, .f og], OW, [.t ol, .t oh, .n 0 maxN om], [.n 0 maxN er, .t rv, .f rg], RP, [.t ru], MP, EN, SE⟩ v1 v2 v3 v4 v5)) (r1 : LRow G b B w p 3 v1 OW) (h1 : ∀ x ∈ OW, isWrite x) (g1 : G ∨ OW = []) (l1 : OW.length ≤ maxLen) (r2 : LRow G b B w p 2 v2 RP) (h2 : ∀ x ∈ RP, isPair x) (g2 : G ∨ RP = []) (l2 : RP.length ≤ maxLen) (r3 : LRow G b B w p 6 v3 MP) (h3 : ∀ x ∈ MP, isShard x) (g3 : G ∨ MP = []) (l3 : MP.length ≤ maxLen) (r4 : LRow G b B w p 4 v4 EN) (h4 : ∀ x ∈ EN, isEntry x) (g4 : G ∨ EN = []) (l4 : EN.length ≤ maxLen) (r5 : LRow G b B w p 7 v5 SE) (h5 : ∀ x ∈ SE, isSeen x) (g5 : G ∨ SE = []) (l5 : SE.length ≤ maxLen) (hok : W.ok (msgW W s ⟨[.n 1 15 kd, .n 0 maxN a1, .n 0 maxN a2, .n 0 maxN a3, .n 0 maxN a4, .n 0 maxN a5, .n 0 maxN a6, .f wh], [.n 0 maxN ok, .t oy, .t ov, .t od, .f og], OW, [.t ol, .t oh, .n 0 maxN om], [.n 0 maxN er, .t rv, .f rg], RP, [.t ru], MP, EN, SE⟩).1) :
    Calls Try.prog 17 #[.iface D (.pointer (some ⟨b, 0, none⟩)), .pointer (some ⟨p, o, none⟩)] w fun e w' => e = .returned (.tuple #[]) ∧ MPost At G b B w p o (msgW W s ⟨[.n 1 15 kd, .n 0 maxN a1, .n 0 maxN a2, .n 0 maxN a3, .n 0 maxN a4, .n 0 maxN a5, .n 0 maxN a6, .f wh], [.n 0 maxN ok, .t oy, .t ov, .t od, .f og], OW, [.t ol, .t oh, .n 0 maxN om], [.n 0 maxN er, .t rv, .f rg], RP, [.t ru], MP, EN, SE⟩) w' := by
  have HH := Lib.hid H
  obtain ⟨f, r, hm0, hcf, hN⟩ := H.num
  have hmt : ∀ w, (method 274 D (.pointer (some ⟨b, 0, none⟩)) "sorrel/post.number").run Try.prog w = .ok (f, r) w := hm0 273
  have hna : ∀ w, (nilAhead 274 D (.pointer (some ⟨b, 0, none⟩)) "sorrel/post.number").run Try.prog w = .ok (some false) w := H.nah 273
  have HN := Lib.hid hN
  clear hm0 hN
  obtain ⟨s1, A1, e1⟩ : ∃ s1 A1, elemW W s [.n 1 15 kd, .n 0 maxN a1, .n 0 maxN a2, .n 0 maxN a3, .n 0 maxN a4, .n 0 maxN a5, .n 0 maxN a6, .f wh] = (s1, A1) := ⟨_, _, rfl⟩
  obtain ⟨s2, OA1, OW1, OC1, e2⟩ : ∃ s2 X Y Z, segW W zeroWrite 64 s1 [.n 0 maxN ok, .t oy, .t ov, .t od, .f og] OW [.t ol, .t oh, .n 0 maxN om] = (s2, X, Y, Z) := ⟨_, _, _, _, rfl⟩
  obtain ⟨s3, RA1, RP1, RC1, e3⟩ : ∃ s3 X Y Z, segW W zeroPair 512 s2 [.n 0 maxN er, .t rv, .f rg] RP [.t ru] = (s3, X, Y, Z) := ⟨_, _, _, _, rfl⟩
  obtain ⟨s4, MP1, e4⟩ : ∃ s4 X, listW W zeroShard 64 s3 MP = (s4, X) := ⟨_, _, rfl⟩
  obtain ⟨s5, EN1, e5⟩ : ∃ s5 X, listW W zeroEntry 512 s4 EN = (s5, X) := ⟨_, _, rfl⟩
  obtain ⟨s6, SE1, e6⟩ : ∃ s6 X, listW W zeroSeen 8 s5 SE = (s6, X) := ⟨_, _, rfl⟩
  have hmw : msgW W s ⟨[.n 1 15 kd, .n 0 maxN a1, .n 0 maxN a2, .n 0 maxN a3, .n 0 maxN a4, .n 0 maxN a5, .n 0 maxN a6, .f wh], [.n 0 maxN ok, .t oy, .t ov, .t od, .f og], OW, [.t ol, .t oh, .n 0 maxN om], [.n 0 maxN er, .t rv, .f rg], RP, [.t ru], MP, EN, SE⟩ = (s6, ⟨A1, OA1, OW1, OC1, RA1, RP1, RC1, MP1, EN1, SE1⟩) := by unfold msgW; simp only [e1, e2, e3, e4, e5, e6]
  rw [hmw] at hok ⊢
  have k6 : W.ok (listW W zeroSeen 8 s5 SE).1 := by rw [e6]; exact hok
  have k5 : W.ok (listW W zeroEntry 512 s4 EN).1 := by rw [e5]; exact listW_ok k6
  have k4 : W.ok (listW W zeroShard 64 s3 MP).1 := by rw [e4]; exact listW_ok k5
  have k3 : W.ok (segW W zeroPair 512 s2 [.n 0 maxN er, .t rv, .f rg] RP [.t ru]).1 := by rw [e3]; exact listW_ok k4
  have k2 : W.ok (segW W zeroWrite 64 s1 [.n 0 maxN ok, .t oy, .t ov, .t od, .f og] OW [.t ol, .t oh, .n 0 maxN om]).1 := by rw [e2]; exact segW_ok k3
  have k1 : W.ok (elemW W s [.n 1 15 kd, .n 0 maxN a1, .n 0 maxN a2, .n 0 maxN a3, .n 0 maxN a4, .n 0 maxN a5, .n 0 maxN a6, .f wh]).1 := by rw [e1]; exact segW_ok k2
  have E1 := Lib.hid e1
  have O1 := Lib.hid k1
  have E2 := Lib.hid e2
  have O2 := Lib.hid k2
  have E3 := Lib.hid e3
  have O3 := Lib.hid k3
  have E4 := Lib.hid e4
  have O4 := Lib.hid k4
  have E5 := Lib.hid e5
  have O5 := Lib.hid k5
  have E6 := Lib.hid e6
  have O6 := Lib.hid k6
  have HSH1 := Lib.hid h1
  have HG1 := Lib.hid g1
  have HLE1 := Lib.hid l1
  have HSH2 := Lib.hid h2
  have HG2 := Lib.hid g2
  have HLE2 := Lib.hid l2
  have HSH3 := Lib.hid h3
  have HG3 := Lib.hid g3
  have HLE3 := Lib.hid l3
  have HSH4 := Lib.hid h4
  have HG4 := Lib.hid g4
  have HLE4 := Lib.hid l4
  have HSH5 := Lib.hid h5
  have HG5 := Lib.hid g5
  have HLE5 := Lib.hid l5
  have hst := H.lt w s h
  have hb1 := (Below.refl w.heap.size w).alloc (Nat.le_refl _) (.cells #[.iface D (.pointer (some ⟨b, 0, none⟩))] 87)
  have hk0 : KB b B w (w.alloc (.cells #[.iface D (.pointer (some ⟨b, 0, none⟩))] 87)) := KB.of hb1 hst.2
  have hwl : Loc G b B (w.alloc (.cells #[.iface D (.pointer (some ⟨b, 0, none⟩))] 87)) w.heap.size := Loc.new hst.1 hst.2 _ _ (by decide)
  have hne : w.heap.size ≠ p := by have := hp.2.1; omega
  have hcs : Cs At G D b B (w.alloc (.cells #[.iface D (.pointer (some ⟨b, 0, none⟩))] 87)) p o w.heap.size [] 0 ([.n 1 15 kd, .n 0 maxN a1, .n 0 maxN a2, .n 0 maxN a3, .n 0 maxN a4, .n 0 maxN a5, .n 0 maxN a6, .f wh] ++ (([.n 0 maxN ok, .t oy, .t ov, .t od, .f og] ++ ([.r v1] ++ [.t ol, .t oh, .n 0 maxN om])) ++ (([.n 0 maxN er, .t rv, .f rg] ++ ([.r v2] ++ [.t ru])) ++ ([.r v3] ++ ([.r v4] ++ [.r v5]))))) s (w.alloc (.cells #[.iface D (.pointer (some ⟨b, 0, none⟩))] 87)) := ⟨H.old _ _ _ h hb1, KB.refl _ _ _, rfl, hf.keep hp hk0, hp.keep hk0, (alloc_cell _ _ _ 0).trans rfl, hwl⟩
  have q1 := r1.wb hk0
  have q2 := r2.wb hk0
  have q3 := r3.wb hk0
  have q4 := r4.wb hk0
  have q5 := r5.wb hk0
  have HPN := Lib.hid hp.1
  clear hst hb1 H hok h hp hf hwl hmw r1 h1 g1 l1 r2 h2 g2 l2 r3 h3 g3 l3 r4 h4 g4 l4 r5 h5 g5 l5 e1 k1 e2 k2 e3 k3 e4 k4 e5 k5 e6 k6
  go_enter Try.func17, Try.ntmps17
  go_upto_region 1 with fail
  generalize (w.alloc (.cells #[.iface D (.pointer (some ⟨b, 0, none⟩))] 87)) = w1 at *
  generalize w.heap.size = wb at *
  have HRW1 := Lib.hid q1
  have HRW2 := Lib.hid q2
  have HRW3 := Lib.hid q3
  have HRW4 := Lib.hid q4
  have HRW5 := Lib.hid q5
  have HNE := Lib.hid hne
  have HK0 := Lib.hid hk0
  have HS := Lib.hid hcs
  clear q1 q2 q3 q4 q5 hne hk0 hcs
  have HG := Lib.hid (Pg.start (W := W) HS.out.st (FAt.app (l := [.n 1 15 kd, .n 0 maxN a1, .n 0 maxN a2, .n 0 maxN a3, .n 0 maxN a4, .n 0 maxN a5, .n 0 maxN a6, .f wh]) (r := (([.n 0 maxN ok, .t oy, .t ov, .t od, .f og] ++ ([.r v1] ++ [.t ol, .t oh, .n 0 maxN om])) ++ (([.n 0 maxN er, .t rv, .f rg] ++ ([.r v2] ++ [.t ru])) ++ ([.r v3] ++ ([.r v4] ++ [.r v5]))))) HS.out.fa).1 HS.out.lo)
  have HW := Lib.hid HS.out.lw
  have HBX := Lib.hid HS.out.bx
  have HDL : Hid (([] : List Fld).length = 0) := Lib.hid rfl
  have HOK := Lib.hid O1.out
  have hbx := (HG.out.box HW.out HNE.out HBX.out).1
  go_wp2_with fail
  refine mixed_region2 (D := (fun w' => w'.cell? ⟨wb, 0, none⟩ = some (.iface D (.pointer (some ⟨b, 0, none⟩))))) [0, 1, 2, 3, 4, 5, 6] [7] 7 (by kernel_rfl) (by kernel_rfl) (by decide) (hbx) ?_
  simp only [List.filterMap_cons, List.filterMap_nil, List.getElem?_cons_zero, List.getElem?_cons_succ]
  repeat (
    (first
     | (refine calm_move _ rfl ?_)
     | (apply calm_cons
        · (intro w' hw'
           first | (obtain ⟨hwa', hwb', hwc'⟩ := hw') | (obtain ⟨hwa', hwb'⟩ := hw') | skip
           go_simp
           first
           | done
           | exact rfl)))
    simp only [Act.put, Act.eval, List.setIfInBounds_toArray, List.set_cons_zero, List.set_cons_succ, Array.getD_eq_getD_getElem?, List.getElem?_toArray, List.getElem?_cons_zero, List.getElem?_cons_succ, Option.getD_some])
  refine calm_nil ?_
  have HG1 := Lib.hid (HG.out.old HH.out (Below.refl w1.heap.size w1).drew)
  have HC := Lib.hid (Pg.num1 HG1.out HOK.out HN.out)
  clear hbx
  refine loud_cons fun K hK => ?_
  go_wp2_with fail
  refine HC.out.mono ?_
  rintro e w2 ⟨rfl, d2, sx2, hd2, hg2⟩
  clear HG HDL HG1 HC
  have HG := Lib.hid hg2
  have HDL := Lib.hid hd2
  clear hg2 hd2
  go_wp2_with fail
  refine hK _ _ (fun hh => absurd rfl hh) ?_
  clear hK K
  refine loud_nil ?_
  have hbx := (HG.out.box HW.out HNE.out HBX.out).1
  go_wp2_with fail
  refine mixed_region2 (D := (fun w' => w'.cell? ⟨wb, 0, none⟩ = some (.iface D (.pointer (some ⟨b, 0, none⟩))))) [0, 1, 2, 3, 4, 5, 6, 7, 8, 9, 10, 11, 12, 13, 14, 15, 16, 17, 18] [19, 20] 20 (by kernel_rfl) (by kernel_rfl) (by decide) (hbx) ?_
  simp only [List.filterMap_cons, List.filterMap_nil, List.getElem?_cons_zero, List.getElem?_cons_succ]
  repeat (
    (first
     | (refine calm_move _ rfl ?_)
     | (apply calm_cons
        · (intro w' hw'
           first | (obtain ⟨hwa', hwb', hwc'⟩ := hw') | (obtain ⟨hwa', hwb'⟩ := hw') | skip
           go_simp
           first
           | done
           | exact rfl)))
    simp only [Act.put, Act.eval, List.setIfInBounds_toArray, List.set_cons_zero, List.set_cons_succ, Array.getD_eq_getD_getElem?, List.getElem?_toArray, List.getElem?_cons_zero, List.getElem?_cons_succ, Option.getD_some])
  refine calm_nil ?_
  have hst := HH.out.lt _ _ HG.out.st
  have hnb := ((Below.refl w2.heap.size w2).drew.alloc (Nat.le_refl _) (.cells #[.pointer (some ⟨p, o + 1, none⟩), .pointer (some ⟨p, o + 2, none⟩), .pointer (some ⟨p, o + 3, none⟩), .pointer (some ⟨p, o + 4, none⟩), .pointer (some ⟨p, o + 5, none⟩), .pointer (some ⟨p, o + 6, none⟩)] 89))
  have HG1 := Lib.hid (HG.out.old HH.out hnb)
  have HVA : Hid (Loc G b B (w2.drew.alloc (.cells #[.pointer (some ⟨p, o + 1, none⟩), .pointer (some ⟨p, o + 2, none⟩), .pointer (some ⟨p, o + 3, none⟩), .pointer (some ⟨p, o + 4, none⟩), .pointer (some ⟨p, o + 5, none⟩), .pointer (some ⟨p, o + 6, none⟩)] 89)) w2.drew.heap.size) := Lib.hid (Loc.new hst.1 hst.2 _ _ (by decide))
  have HNP : Hid (w2.drew.heap.size ≠ p) := Lib.hid (by have := HG.out.lo.2.1; show w2.heap.size ≠ _; omega)
  have HC := Lib.hid (Pg.nums HH.out (l := [a1, a2, a3, a4, a5, a6]) HG1.out HOK.out HDL.out w2.drew.heap.size 6 6 HVA.out HNP.out rfl (by omega) (fun i hi => match i, hi with | 0, _ => (alloc_cell _ _ _ 0).trans rfl | 1, _ => (alloc_cell _ _ _ 1).trans rfl | 2, _ => (alloc_cell _ _ _ 2).trans rfl | 3, _ => (alloc_cell _ _ _ 3).trans rfl | 4, _ => (alloc_cell _ _ _ 4).trans rfl | 5, _ => (alloc_cell _ _ _ 5).trans rfl))
  have HBD : Hid ((w2.drew.alloc (.cells #[.pointer (some ⟨p, o + 1, none⟩), .pointer (some ⟨p, o + 2, none⟩), .pointer (some ⟨p, o + 3, none⟩), .pointer (some ⟨p, o + 4, none⟩), .pointer (some ⟨p, o + 5, none⟩), .pointer (some ⟨p, o + 6, none⟩)] 89)).cell? ⟨wb, 0, none⟩ = some (.iface D (.pointer (some ⟨b, 0, none⟩)))) := Lib.hid (HG1.out.box HW.out HNE.out HBX.out).1
  clear hbx hnb hst
  refine loud_cons fun K hK => ?_
  go_wp2_with fail
  refine hK _ _ (fun _ => HBD.out) ?_
  clear hK K
  refine loud_cons fun K hK => ?_
  have hbx := HBD.out
  go_wp2_with fail
  refine HC.out.mono ?_
  rintro e w3 ⟨rfl, d3, sx3, hd2, hg2⟩
  clear HG HDL HG1 HVA HNP HC HBD hbx
  have HG := Lib.hid hg2
  have HDL := Lib.hid hd2
  clear hg2 hd2
  go_wp2_with fail
  refine hK _ _ (fun hh => absurd rfl hh) ?_
  clear hK K
  refine loud_nil ?_
  have hbx := (HG.out.box HW.out HNE.out HBX.out).1
  go_wp2_with fail
  refine mixed_region2 (D := (fun w' => w'.cell? ⟨wb, 0, none⟩ = some (.iface D (.pointer (some ⟨b, 0, none⟩))))) [0, 1, 2, 3] [4] 4 (by kernel_rfl) (by kernel_rfl) (by decide) (hbx) ?_
  simp only [List.filterMap_cons, List.filterMap_nil, List.getElem?_cons_zero, List.getElem?_cons_succ]
  repeat (
    (first
     | (refine calm_move _ rfl ?_)
     | (apply calm_cons
        · (intro w' hw'
           first | (obtain ⟨hwa', hwb', hwc'⟩ := hw') | (obtain ⟨hwa', hwb'⟩ := hw') | skip
           go_simp
           first
           | done
           | exact rfl)))
    simp only [Act.put, Act.eval, List.setIfInBounds_toArray, List.set_cons_zero, List.set_cons_succ, Array.getD_eq_getD_getElem?, List.getElem?_toArray, List.getElem?_cons_zero, List.getElem?_cons_succ, Option.getD_some])
  refine calm_nil ?_
  have HG1 := Lib.hid (HG.out.old HH.out (Below.refl w3.heap.size w3).drew)
  have HC := Lib.hid (HG1.out.flag HH.out HOK.out HDL.out)
  clear hbx
  refine loud_cons fun K hK => ?_
  go_wp2_with fail
  refine HC.out.mono ?_
  rintro e w4 ⟨rfl, d4, sx4, hd2, hg2⟩
  clear HG HDL HG1 HC
  have HG := Lib.hid hg2
  have HDL := Lib.hid hd2
  clear hg2 hd2
  go_wp2_with fail
  refine hK _ _ (fun hh => absurd rfl hh) ?_
  clear hK K
  refine loud_nil ?_
  have HFN := Lib.hid HG.out.fin
  clear HG HW HBX HDL HOK
  rw [E1.out] at HFN
  have HS2 := Lib.hid (HS.out.next (g := [.n 1 15 kd, .n 0 maxN a1, .n 0 maxN a2, .n 0 maxN a3, .n 0 maxN a4, .n 0 maxN a5, .n 0 maxN a6, .f wh]) (rest := (([.n 0 maxN ok, .t oy, .t ov, .t od, .f og] ++ ([.r v1] ++ [.t ol, .t oh, .n 0 maxN om])) ++ (([.n 0 maxN er, .t rv, .f rg] ++ ([.r v2] ++ [.t ru])) ++ ([.r v3] ++ ([.r v4] ++ [.r v5]))))) HNE.out HFN.out.1 HFN.out.2 (by rw [List.length_map, show (A1) = (elemW W s [.n 1 15 kd, .n 0 maxN a1, .n 0 maxN a2, .n 0 maxN a3, .n 0 maxN a4, .n 0 maxN a5, .n 0 maxN a6, .f wh]).2 by rw [E1.out], elemW_len]))
  clear HS HFN
  have HS := HS2
  clear HS2
  have hbx := HS.out.bx
  go_wp2_with fail
  refine mixed_region2 (D := (fun w' => w'.cell? ⟨wb, 0, none⟩ = some (.iface D (.pointer (some ⟨b, 0, none⟩))))) [0, 1, 2, 3] [4] 4 (by kernel_rfl) (by kernel_rfl) (by decide) (hbx) ?_
  simp only [List.filterMap_cons, List.filterMap_nil, List.getElem?_cons_zero, List.getElem?_cons_succ]
  repeat (
    (first
     | (refine calm_move _ rfl ?_)
     | (apply calm_cons
        · (intro w' hw'
           first | (obtain ⟨hwa', hwb', hwc'⟩ := hw') | (obtain ⟨hwa', hwb'⟩ := hw') | skip
           go_simp
           first
           | done
           | exact rfl)))
    simp only [Act.put, Act.eval, List.setIfInBounds_toArray, List.set_cons_zero, List.set_cons_succ, Array.getD_eq_getD_getElem?, List.getElem?_toArray, List.getElem?_cons_zero, List.getElem?_cons_succ, Option.getD_some])
  refine calm_nil ?_
  have HS1 := Lib.hid (HS.out.old HH.out (Below.refl w4.heap.size w4).drew)
  clear hbx
  have HC : Hid (Calls Try.prog 32 #[.iface D (.pointer (some ⟨b, 0, none⟩)), .pointer (some ⟨p, o + 8, none⟩)] w4.drew fun e w' => e = .returned (.tuple #[]) ∧ SPost At G b B w4.drew p (o + 8) 3 (s2, OA1, OW1, OC1) w') := Lib.hid (by
    have := top_any HH.out w4.drew s1 p (o + 8) ok oy ov od og ol oh om v1 OW HS1.out.st HS1.out.lo (FAt.app (l := ([.n 0 maxN ok, .t oy, .t ov, .t od, .f og] ++ ([.r v1] ++ [.t ol, .t oh, .n 0 maxN om]))) (r := (([.n 0 maxN er, .t rv, .f rg] ++ ([.r v2] ++ [.t ru])) ++ ([.r v3] ++ ([.r v4] ++ [.r v5])))) HS1.out.fa).1 (HRW1.out.next HS1.out.kb).low HSH1.out HG1.out HLE1.out O2.out
    rw [E2.out] at this
    exact this)
  refine loud_cons fun K hK => ?_
  go_wp2_with fail
  refine HC.out.mono ?_
  rintro e w5 ⟨rfl, x5, h1, h2, h3⟩
  have HS2 := Lib.hid (Cs.next (g := ([.n 0 maxN ok, .t oy, .t ov, .t od, .f og] ++ ([.r v1] ++ [.t ol, .t oh, .n 0 maxN om]))) (rest := (([.n 0 maxN er, .t rv, .f rg] ++ ([.r v2] ++ [.t ru])) ++ ([.r v3] ++ ([.r v4] ++ [.r v5])))) HS1.out HNE.out h1 h2 (seg_len E2.out _ _))
  have HR5 := Lib.hid h3
  clear HS HS1 HC h1 h2 h3
  have HS := HS2
  clear HS2
  go_wp2_with fail
  refine hK _ _ (fun hh => absurd rfl hh) ?_
  clear hK K
  refine loud_nil ?_
  have hbx := HS.out.bx
  go_wp2_with fail
  refine mixed_region2 (D := (fun w' => w'.cell? ⟨wb, 0, none⟩ = some (.iface D (.pointer (some ⟨b, 0, none⟩))))) [0, 1, 2, 3] [4] 4 (by kernel_rfl) (by kernel_rfl) (by decide) (hbx) ?_
  simp only [List.filterMap_cons, List.filterMap_nil, List.getElem?_cons_zero, List.getElem?_cons_succ]
  repeat (
    (first
     | (refine calm_move _ rfl ?_)
     | (apply calm_cons
        · (intro w' hw'
           first | (obtain ⟨hwa', hwb', hwc'⟩ := hw') | (obtain ⟨hwa', hwb'⟩ := hw') | skip
           go_simp
           first
           | done
           | exact rfl)))
    simp only [Act.put, Act.eval, List.setIfInBounds_toArray, List.set_cons_zero, List.set_cons_succ, Array.getD_eq_getD_getElem?, List.getElem?_toArray, List.getElem?_cons_zero, List.getElem?_cons_succ, Option.getD_some])
  refine calm_nil ?_
  have HS1 := Lib.hid (HS.out.old HH.out (Below.refl w5.heap.size w5).drew)
  clear hbx
  have HC : Hid (Calls Try.prog 33 #[.iface D (.pointer (some ⟨b, 0, none⟩)), .pointer (some ⟨p, o + 17, none⟩), .bool true] w5.drew fun e w' => e = .returned (.tuple #[]) ∧ SPost At G b B w5.drew p (o + 17) 2 (s3, RA1, RP1, RC1) w') := Lib.hid (by
    have := trep1_any HH.out w5.drew s2 p (o + 17) er rv rg ru v2 RP HS1.out.st HS1.out.lo (FAt.app (l := ([.n 0 maxN er, .t rv, .f rg] ++ ([.r v2] ++ [.t ru]))) (r := ([.r v3] ++ ([.r v4] ++ [.r v5]))) HS1.out.fa).1 (HRW2.out.next HS1.out.kb).low HSH2.out HG2.out HLE2.out O3.out
    rw [E3.out] at this
    exact this)
  refine loud_cons fun K hK => ?_
  go_wp2_with fail
  refine HC.out.mono ?_
  rintro e w6 ⟨rfl, x6, h1, h2, h3⟩
  have HS2 := Lib.hid (Cs.next (g := ([.n 0 maxN er, .t rv, .f rg] ++ ([.r v2] ++ [.t ru]))) (rest := ([.r v3] ++ ([.r v4] ++ [.r v5]))) HS1.out HNE.out h1 h2 (seg_len E3.out _ _))
  have HR6 := Lib.hid h3
  have HT := Lib.hid (LRow.next (LRow.drew HR5.out) h2)
  clear HR5
  have HR5 := HT
  clear HT
  clear HS HS1 HC h1 h2 h3
  have HS := HS2
  clear HS2
  go_wp2_with fail
  refine hK _ _ (fun hh => absurd rfl hh) ?_
  clear hK K
  refine loud_nil ?_
  have hbx := HS.out.bx
  go_wp2_with fail
  refine mixed_region2 (D := (fun w' => w'.cell? ⟨wb, 0, none⟩ = some (.iface D (.pointer (some ⟨b, 0, none⟩))))) [0, 1, 2, 3, 4] [5] 5 (by kernel_rfl) (by kernel_rfl) (by decide) (hbx) ?_
  simp only [List.filterMap_cons, List.filterMap_nil, List.getElem?_cons_zero, List.getElem?_cons_succ]
  repeat (
    (first
     | (refine calm_move _ rfl ?_)
     | (apply calm_cons
        · (intro w' hw'
           first | (obtain ⟨hwa', hwb', hwc'⟩ := hw') | (obtain ⟨hwa', hwb'⟩ := hw') | skip
           go_simp
           first
           | done
           | exact rfl)))
    simp only [Act.put, Act.eval, List.setIfInBounds_toArray, List.set_cons_zero, List.set_cons_succ, Array.getD_eq_getD_getElem?, List.getElem?_toArray, List.getElem?_cons_zero, List.getElem?_cons_succ, Option.getD_some])
  refine calm_nil ?_
  have HS1 := Lib.hid (HS.out.old HH.out (Below.refl w6.heap.size w6).drew)
  clear hbx
  obtain ⟨a7, n7, c7, hsv, hln, hrw⟩ := HRW3.out.next HS1.out.kb
  have HC : Hid (Calls Try.prog 34 #[.iface D (.pointer (some ⟨b, 0, none⟩)), .pointer (some ⟨p, o + 22, none⟩), .int .i64 (64 : Nat), .func (.func 35) #[] #[.pointer (some ⟨wb, 0, none⟩)]] w6.drew fun e w' => e = .returned (.tuple #[]) ∧ LPost At G b B w6.drew p (o + 22) 6 (s4, MP1) w') := Lib.hid (by
    have := listShard_any HH.out w6.drew s3 p (o + 22) wb 64 n7 c7 a7 MP HS1.out.st HS1.out.lo HS1.out.lw HNE.out HS1.out.bx (by have := (FAt.app (l := [.r v3]) (r := ([.r v4] ++ [.r v5])) HS1.out.fa).1 0 (by simp); rw [hsv] at this; exact this) hln HSH3.out HG3.out (by decide) (by rw [← hln]; exact HLE3.out) hrw O4.out
    rw [E4.out] at this
    exact this)
  clear hln hrw hsv
  refine loud_cons fun K hK => ?_
  go_wp2_with fail
  refine HC.out.mono ?_
  rintro e w7 ⟨rfl, hpo⟩
  obtain ⟨x7, y7, z7, h1, h2, h3, h4⟩ := hpo
  have HS2 := Lib.hid (Cs.next (g := [.r v3]) (rest := ([.r v4] ++ [.r v5])) (vs2 := [.slice x7 y7 z7]) HS1.out HNE.out h1 h2 rfl)
  have HR7 : Hid (LRow G b B w7 p 6 (.slice x7 y7 z7) MP1) := Lib.hid ⟨_, _, _, rfl, h3, h4⟩
  have HT := Lib.hid (LRow.next1 (LRow.drew HR5.out) h2)
  clear HR5
  have HR5 := HT
  clear HT
  have HT := Lib.hid (LRow.next1 (LRow.drew HR6.out) h2)
  clear HR6
  have HR6 := HT
  clear HT
  clear HS HS1 HC h1 h2 h3 h4
  have HS := HS2
  clear HS2
  go_wp2_with fail
  refine hK _ _ (fun hh => absurd rfl hh) ?_
  clear hK K
  refine loud_nil ?_
  have hbx := HS.out.bx
  go_wp2_with fail
  refine mixed_region2 (D := (fun w' => w'.cell? ⟨wb, 0, none⟩ = some (.iface D (.pointer (some ⟨b, 0, none⟩))))) [0, 1, 2, 3, 4] [5] 5 (by kernel_rfl) (by kernel_rfl) (by decide) (hbx) ?_
  simp only [List.filterMap_cons, List.filterMap_nil, List.getElem?_cons_zero, List.getElem?_cons_succ]
  repeat (
    (first
     | (refine calm_move _ rfl ?_)
     | (apply calm_cons
        · (intro w' hw'
           first | (obtain ⟨hwa', hwb', hwc'⟩ := hw') | (obtain ⟨hwa', hwb'⟩ := hw') | skip
           go_simp
           first
           | done
           | exact rfl)))
    simp only [Act.put, Act.eval, List.setIfInBounds_toArray, List.set_cons_zero, List.set_cons_succ, Array.getD_eq_getD_getElem?, List.getElem?_toArray, List.getElem?_cons_zero, List.getElem?_cons_succ, Option.getD_some])
  refine calm_nil ?_
  have HS1 := Lib.hid (HS.out.old HH.out (Below.refl w7.heap.size w7).drew)
  clear hbx
  obtain ⟨a8, n8, c8, hsv, hln, hrw⟩ := HRW4.out.next HS1.out.kb
  have HC : Hid (Calls Try.prog 37 #[.iface D (.pointer (some ⟨b, 0, none⟩)), .pointer (some ⟨p, o + 23, none⟩), .int .i64 (512 : Nat), .func (.func 38) #[] #[.pointer (some ⟨wb, 0, none⟩)]] w7.drew fun e w' => e = .returned (.tuple #[]) ∧ LPost At G b B w7.drew p (o + 23) 4 (s5, EN1) w') := Lib.hid (by
    have := listEntry_any HH.out w7.drew s4 p (o + 23) wb 512 n8 c8 a8 EN HS1.out.st HS1.out.lo HS1.out.lw HNE.out HS1.out.bx (by have := (FAt.app (l := [.r v4]) (r := [.r v5]) HS1.out.fa).1 0 (by simp); rw [hsv] at this; exact this) hln HSH4.out HG4.out (by decide) (by rw [← hln]; exact HLE4.out) hrw O5.out
    rw [E5.out] at this
    exact this)
  clear hln hrw hsv
  refine loud_cons fun K hK => ?_
  go_wp2_with fail
  refine HC.out.mono ?_
  rintro e w8 ⟨rfl, hpo⟩
  obtain ⟨x8, y8, z8, h1, h2, h3, h4⟩ := hpo
  have HS2 := Lib.hid (Cs.next (g := [.r v4]) (rest := [.r v5]) (vs2 := [.slice x8 y8 z8]) HS1.out HNE.out h1 h2 rfl)
  have HR8 : Hid (LRow G b B w8 p 4 (.slice x8 y8 z8) EN1) := Lib.hid ⟨_, _, _, rfl, h3, h4⟩
  have HT := Lib.hid (LRow.next1 (LRow.drew HR5.out) h2)
  clear HR5
  have HR5 := HT
  clear HT
  have HT := Lib.hid (LRow.next1 (LRow.drew HR6.out) h2)
  clear HR6
  have HR6 := HT
  clear HT
  have HT := Lib.hid (LRow.next1 (LRow.drew HR7.out) h2)
  clear HR7
  have HR7 := HT
  clear HT
  clear HS HS1 HC h1 h2 h3 h4
  have HS := HS2
  clear HS2
  go_wp2_with fail
  refine hK _ _ (fun hh => absurd rfl hh) ?_
  clear hK K
  refine loud_nil ?_
  have hbx := HS.out.bx
  go_wp2_with fail
  refine mixed_region2 (D := (fun w' => w'.cell? ⟨wb, 0, none⟩ = some (.iface D (.pointer (some ⟨b, 0, none⟩))))) [0, 1, 2, 3, 4] [5] 5 (by kernel_rfl) (by kernel_rfl) (by decide) (hbx) ?_
  simp only [List.filterMap_cons, List.filterMap_nil, List.getElem?_cons_zero, List.getElem?_cons_succ]
  repeat (
    (first
     | (refine calm_move _ rfl ?_)
     | (apply calm_cons
        · (intro w' hw'
           first | (obtain ⟨hwa', hwb', hwc'⟩ := hw') | (obtain ⟨hwa', hwb'⟩ := hw') | skip
           go_simp
           first
           | done
           | exact rfl)))
    simp only [Act.put, Act.eval, List.setIfInBounds_toArray, List.set_cons_zero, List.set_cons_succ, Array.getD_eq_getD_getElem?, List.getElem?_toArray, List.getElem?_cons_zero, List.getElem?_cons_succ, Option.getD_some])
  refine calm_nil ?_
  have HS1 := Lib.hid (HS.out.old HH.out (Below.refl w8.heap.size w8).drew)
  clear hbx
  obtain ⟨a9, n9, c9, hsv, hln, hrw⟩ := HRW5.out.next HS1.out.kb
  have HC : Hid (Calls Try.prog 39 #[.iface D (.pointer (some ⟨b, 0, none⟩)), .pointer (some ⟨p, o + 24, none⟩), .int .i64 (8 : Nat), .func (.func 40) #[] #[.pointer (some ⟨wb, 0, none⟩)]] w8.drew fun e w' => e = .returned (.tuple #[]) ∧ LPost At G b B w8.drew p (o + 24) 7 (s6, SE1) w') := Lib.hid (by
    have := listSeen_any HH.out w8.drew s5 p (o + 24) wb 8 n9 c9 a9 SE HS1.out.st HS1.out.lo HS1.out.lw HNE.out HS1.out.bx (by have := HS1.out.fa 0 (by simp); rw [hsv] at this; exact this) hln HSH5.out HG5.out (by decide) (by rw [← hln]; exact HLE5.out) hrw O6.out
    rw [E6.out] at this
    exact this)
  clear hln hrw hsv
  refine loud_cons fun K hK => ?_
  go_wp2_with fail
  refine HC.out.mono ?_
  rintro e w9 ⟨rfl, hpo⟩
  obtain ⟨x9, y9, z9, h1, h2, h3, h4⟩ := hpo
  have HS2 := Lib.hid (Cs.last (g := [.r v5]) (vs2 := [.slice x9 y9 z9]) HS1.out HNE.out h1 h2 rfl)
  have HR9 : Hid (LRow G b B w9 p 7 (.slice x9 y9 z9) SE1) := Lib.hid ⟨_, _, _, rfl, h3, h4⟩
  have HT := Lib.hid (LRow.next1 (LRow.drew HR5.out) h2)
  clear HR5
  have HR5 := HT
  clear HT
  have HT := Lib.hid (LRow.next1 (LRow.drew HR6.out) h2)
  clear HR6
  have HR6 := HT
  clear HT
  have HT := Lib.hid (LRow.next1 (LRow.drew HR7.out) h2)
  clear HR7
  have HR7 := HT
  clear HT
  have HT := Lib.hid (LRow.next1 (LRow.drew HR8.out) h2)
  clear HR8
  have HR8 := HT
  clear HT
  clear HS HS1 HC h1 h2 h3 h4
  have HS := HS2
  clear HS2
  go_wp2_with fail
  refine hK _ _ (fun hh => absurd rfl hh) ?_
  clear hK K
  refine loud_nil ?_
  go_wp2_with fail
  go_end0
  refine ⟨rfl, _, _, _, _, _, HS.out.1, ?_, HR5.out, HR6.out, HR7.out, HR8.out, HR9.out⟩
  have hk := HS.out.2.1
  simp only [List.nil_append, List.append_assoc] at hk
  unfold mcells
  simp only [List.append_assoc]
  exact (KB.sets (w := w) (w' := w) p HPN.out _ o HK0.out).trans hk
end
end Go.Proofs.Ytdnhmkfgcpdbkaa
