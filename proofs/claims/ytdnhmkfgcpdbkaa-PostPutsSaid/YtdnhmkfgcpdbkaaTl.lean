/-
  Layer 16 (post): contracts of list at some of its types, over any way. Conditions: as each says.
-/
import Derived.Test.YtdnhmkfgcpdbkaaA1
namespace Go.Proofs.Ytdnhmkfgcpdbkaa
open Go.RowKit
set_option linter.unusedVariables false
set_option linter.unusedSimpArgs false
section
variable {σ : Type} {W : Way σ} {D b B : Nat} {G : Prop} {At : World → σ → Prop}
def isSeen (x : List Fld) : Prop := ∃ cc sq er va g pv u, x = [.n 0 maxN cc, .n 0 maxN sq, .n 0 maxN er, .t va, .f g, .r pv, .t u]
def zeroSeen : List Fld := [.n 0 maxN 0, .n 0 maxN 0, .n 0 maxN 0, .t ⟨#[]⟩, .f false, .r (.slice none 0 0), .t ⟨#[]⟩]
theorem Try.infoSeen : (Try.prog.info? 58).map (fun i => (i.zero, i.size)) = some (some (.agg #[.int .i64 0, .int .i64 0, .int .i64 0, .string ⟨#[]⟩, .bool false, .slice none 0 0, .string ⟨#[]⟩]), 7) := by kernel_rfl
theorem isSeen.len {x : List Fld} (h : isSeen x) : x.length = 7 := by obtain ⟨_, _, _, _, _, _, _, rfl⟩ := h; rfl
set_option maxRecDepth 100000 in
set_option maxHeartbeats 4000000 in
theorem listSeen_any (H : WayAt W D b B G At) (w : World) (s : σ) (p o wb most n cap : Nat) (a : Option Addr) (L : List (List Fld)) (h : At w s) (hp : Loc G b B w p) (hw : Loc G b B w wb) (hne : wb ≠ p) (hb : w.cell? ⟨wb, 0, none⟩ = some (.iface D (.pointer (some ⟨b, 0, none⟩)))) (hc : w.cell? ⟨p, o, none⟩ = some (.slice a n cap)) (hL : L.length = n) (hsh : ∀ x ∈ L, isSeen x) (hg : G ∨ L = []) (hmost : most ≤ 512) (hnm : n ≤ maxLen)
    (hr : L = [] ∨ ∃ rb ro, a = some ⟨rb, ro, none⟩ ∧ Loc G b B w rb ∧ rb ≠ p ∧ rb ≠ wb ∧ RowAt w rb ro 7 L) (hok : W.ok (listW W zeroSeen most s L).1) :
    Calls Try.prog 39 #[.iface D (.pointer (some ⟨b, 0, none⟩)), .pointer (some ⟨p, o, none⟩), .int .i64 most, .func (.func 40) #[] #[.pointer (some ⟨wb, 0, none⟩)]] w fun e w' => e = .returned (.tuple #[]) ∧ LPost At G b B w p o 7 (listW W zeroSeen most s L) w' := by
  unfold maxLen at hnm
  obtain ⟨f, r, hm0, hcf, hn⟩ := H.num
  have hmt : ∀ w, (method 274 D (.pointer (some ⟨b, 0, none⟩)) "sorrel/post.number").run Try.prog w = .ok (f, r) w := hm0 273
  clear hm0
  have HH := Lib.hid H
  obtain ⟨hbl, hBl⟩ := H.lt w s h
  have hpl := hp.2.1
  obtain ⟨s1, z', ht⟩ : ∃ s1 z', W.num s 0 most n = (s1, z') := ⟨_, _, rfl⟩
  have hfl : listW W zeroSeen most s L = elsW W s1 (if z' = n then L else List.replicate z'.toNat zeroSeen) := by unfold listW; rw [hL, ht]
  rw [hfl] at hok ⊢
  have hzg : G → z' = n := fun hG => by have := H.gnum hG s 0 most n; rw [ht] at this; exact this
  have hzr : z' = n ∨ (0 ≤ z' ∧ z' ≤ most) := by have := H.rng s 0 most n; rw [ht] at this; exact this
  have hN1 : ∀ z0 : Value, Below w.heap.size w (w.alloc (.cells #[z0] 3)) := fun z0 => (Below.refl _ w).alloc (Nat.le_refl _) _
  have HC : Hid (Calls Try.prog f #[r, .pointer (some ⟨w.heap.size, 0, none⟩), .int .i64 0, .int .i64 most] (w.alloc (.cells #[.int .i64 n] 3)) fun e w' => e = .returned (.tuple #[]) ∧ At w' s1 ∧ (w'.cell? ⟨w.heap.size, 0, none⟩ = some (.int .i64 z') ∧ Loc G b B w' w.heap.size) ∧ KB b B w w') := Lib.hid (by
    have hloc : Loc G b B (w.alloc (.cells #[.int .i64 n] 3)) w.heap.size := Loc.new hbl hBl _ _ (by decide)
    refine (hn _ s w.heap.size 0 0 most n (H.old _ _ _ h (hN1 _)) hloc (by simp) (by rw [ht]; exact elsW_ok hok)).mono ?_
    rintro e w' ⟨h1, h2, h3⟩
    rw [ht] at h2 h3
    refine ⟨h1, h2, ⟨?_, (hloc.set _ _).keep h3⟩, KB.trans (KB.of ((hN1 _).setCell (p := ⟨w.heap.size, 0, none⟩) (Nat.le_refl _) _) hBl) h3⟩
    rw [(hloc.set ⟨w.heap.size, 0, none⟩ (.int .i64 z')).cell h3 0]
    exact World.cell?_setCell_same' _ _ _ (by simp))
  have HP := Lib.hid hp
  have HCP := Lib.hid hc
  have HW := Lib.hid hw
  have HB := Lib.hid hb
  have HR := Lib.hid hr
  have HSH := Lib.hid hsh
  have HG := Lib.hid hg
  have HLN := Lib.hid hL
  have HNE := Lib.hid hne
  clear hn hN1 hfl ht h H hp hw hb hr hsh hg hL hne
  by_cases hzn : z' = n
  · subst hzn
    rw [if_pos rfl] at hok ⊢
    have HOK := Lib.hid hok
    clear hok
    go_enter Try.func39, Try.ntmps39
    go_upto_region 1 with fail
    go_wp2_with fail
    refine HC.out.mono ?_
    rintro e w2 ⟨rfl, hat, ⟨hz, hzl⟩, hk⟩
    have hc2 := (HP.out.cell hk o).trans HCP.out
    have hs2 := hk.size
    have hpl2 : p < w2.heap.size := by omega
    have hnbl := hzl.2.1
    have HA := Lib.hid hat
    have HK := Lib.hid hk
    clear hat hk HC hzl
    have hzb : ((n : Int) == (n : Int)) = true := by simp
    have HS : Hid (∃ L1 : List (List Fld), L1 = L ∧ L1.length = n ∧ (∀ x ∈ L1, isSeen x) ∧ w2.drew.cell? ⟨p, o, none⟩ = some (.slice a n cap) ∧ KB b B (w.setCell ⟨p, o, none⟩ (.slice a n cap)) w2.drew ∧
        (L1 = [] ∨ ∃ rb ro, a = some ⟨rb, ro, none⟩ ∧ Loc G b B w2.drew rb ∧ rb ≠ p ∧ rb ≠ wb ∧ RowAt w2.drew rb ro 7 L1 ∧ (G ∨ (w.setCell ⟨p, o, none⟩ (.slice a n cap)).heap.size ≤ rb) ∧ (¬ G → B ≤ rb))) := Lib.hid (by
      refine ⟨L, rfl, HLN.out, HSH.out, hc2, by rw [set_same HCP.out]; exact HK.out.drew, ?_⟩
      rcases HR.out with e | ⟨rb, ro, e, h1, h2, h3, h4⟩
      · exact .inl e
      · rcases HG.out with g | g
        · exact .inr ⟨rb, ro, e, h1.keep HK.out.drew, h2, h3, h4.keep h1 HK.out.drew, .inl g, fun hh => absurd g hh⟩
        · exact .inl g)
    have HA3 : Hid (At w2.drew s1) := Lib.hid (HH.out.old _ _ _ HA.out (Below.refl _ w2).drew)
    obtain ⟨base, hbase⟩ : ∃ x, x = w.setCell ⟨p, o, none⟩ (.slice a n cap) := ⟨_, rfl⟩
    rw [← hbase] at HS
    have HPB : Hid (∀ wr, KB b B base wr → wr.cell? ⟨p, o, none⟩ = some (.slice a n cap) ∧ wr.cell? ⟨wb, 0, none⟩ = some (.iface D (.pointer (some ⟨b, 0, none⟩))) ∧ Loc G b B wr wb ∧ p < wr.heap.size) := Lib.hid fun wr hk => by
      rw [hbase] at hk
      exact ⟨((HP.out.set ⟨p, o, none⟩ (.slice a n cap)).cell hk o).trans (World.cell?_setCell_same' _ _ _ (by rw [HCP.out]; rfl)), ((HW.out.set ⟨p, o, none⟩ (.slice a n cap)).cell hk 0).trans ((World.cell?_setCell_other _ _ _ _ (fun e => HNE.out (by injection e with e1; exact e1.symm))).trans HB.out), (HW.out.set ⟨p, o, none⟩ (.slice a n cap)).keep hk, Nat.lt_of_lt_of_le (HP.out.set ⟨p, o, none⟩ (.slice a n cap)).2.1 hk.size⟩
    have HBASE := Lib.hid hbase
    clear HK hbase
    go_upto_region 2 with fail
    go_region
    go_upto_region 4 with fail
    generalize w2.drew = w3 at *
    obtain ⟨L1, rfl, hlen, hsh1, hc3, hk3, hrow⟩ := HS.out
    have HLN1 := Lib.hid hlen
    have HSH1 := Lib.hid hsh1
    have HK3 := Lib.hid hk3
    have HROW := Lib.hid hrow
    have hpl3 := (HPB.out _ hk3).2.2.2
    clear hlen hsh1 hk3 hrow HS hc2 hs2 hpl2 hnbl hz hzb HR HSH HG HLN HP HCP HW HB
    go_wp2_with fail
    go_loopw [9, 31] (fun _ i wr => ∃ (k : Nat) (s' : σ) (d : List (List Fld)), i = .int .i64 k ∧ k ≤ n ∧ Hid (d.length = k) ∧ Hid (∀ y ∈ d, y.length = 7) ∧ Hid (elsW W s1 L1 = ((elsW W s' (L1.drop k)).1, d ++ (elsW W s' (L1.drop k)).2)) ∧ Hid (At wr s') ∧ Hid (KB b B base wr) ∧
      Hid (L1 = [] ∨ ∃ rb ro, a = some ⟨rb, ro, none⟩ ∧ Loc G b B wr rb ∧ rb ≠ p ∧ rb ≠ wb ∧ RowAt wr rb ro 7 (d ++ L1.drop k) ∧ (G ∨ base.heap.size ≤ rb) ∧ (¬ G → B ≤ rb))) (fun _ i _ => n - (intOf i).toNat)
    case atStart => exact ⟨0, s1, [], by first | rfl | go_num, by omega, Lib.hid rfl, Lib.hid (fun y hy => by simp at hy), Lib.hid rfl, HA3, HK3, HROW⟩
    case round =>
      obtain ⟨k, s', d, rfl, hk, HD, HDS, HE, HT, HKR, HRR⟩ := hrel
      obtain ⟨hcr, hbx, hwl, hplr⟩ := HPB.out wr HKR.out
      have HWL := Lib.hid hwl
      by_cases hlt : k < n
      · have hki : (k : Int) < (n : Int) := by omega
        have hkl : k < L1.length := by rw [HLN1.out]; exact hlt
        obtain ⟨x, hx⟩ : ∃ x, x = L1[k] := ⟨_, rfl⟩
        have hdr : L1.drop k = x :: L1.drop (k + 1) := by rw [hx]; exact List.drop_eq_getElem_cons hkl
        have hshx : isSeen x := by rw [hx]; exact HSH1.out _ (List.getElem_mem hkl)
        have hE := HE.out
        rw [hdr] at hE
        rcases HRR.out with e0 | ⟨rb, ro, ha, g1, g2, g3, g4, g5, g6⟩
        · rw [e0] at hkl; simp at hkl
        rw [hdr] at g4
        have hfx : FAt wr rb (ro + k * 7) x := row_mid g4 HD.out
        obtain ⟨s2, x2, ht2⟩ : ∃ s2 x2, elemW W s' x = (s2, x2) := ⟨_, _, rfl⟩
        have e1 : elsW W s' (x :: L1.drop (k + 1)) = ((elsW W s2 (L1.drop (k + 1))).1, x2 :: (elsW W s2 (L1.drop (k + 1))).2) := by
          show ((stepsW _ (elemW W s' x).1 _).1, (elemW W s' x).2 :: (stepsW _ (elemW W s' x).1 _).2) = _
          rw [ht2]; rfl
        rw [e1] at hE
        have hok2 : W.ok s2 := by
          have := HOK.out
          rw [hE] at this
          exact elsW_ok this
        have hsz : ∀ y ∈ d ++ x :: L1.drop (k + 1), y.length = 7 := fun y hy => by
          rw [List.mem_append] at hy
          rcases hy with hy | hy
          · exact HDS.out y hy
          · rw [← hdr] at hy; exact (HSH1.out y (List.mem_of_mem_drop hy)).len
        have HC2 : Hid (Calls Try.prog 40 #[.pointer (some ⟨rb, ro + k * 7, none⟩), .pointer (some ⟨wb, 0, none⟩)] wr fun e w' => e = .returned (.tuple #[]) ∧ At w' s2 ∧ KB b B base w' ∧ Loc G b B w' rb ∧ RowAt w' rb ro 7 ((d ++ [x2]) ++ L1.drop (k + 1))) := Lib.hid (by
          obtain ⟨cc, sq, er, va, g, pv, u, rfl⟩ := hshx
          refine (clSeen_any HH.out wr s' rb (ro + k * 7) wb cc sq er va g pv u HT.out g1 HWL.out (fun e => g3 e.symm) hbx hfx (by rw [ht2]; exact hok2)).mono ?_
          rintro e w' ⟨rfl, h1, h2⟩
          rw [ht2] at h1
          obtain ⟨r1, r2, r3⟩ := Row.step HH.out g5 g6 HKR.out g4 HD.out hsz g1 h2
          rw [ht2] at r2
          refine ⟨rfl, h1, r1, r3, ?_⟩
          rw [List.append_assoc]; exact r2)
        have HE2 : Hid (elsW W s1 L1 = ((elsW W s2 (L1.drop (k + 1))).1, (d ++ [x2]) ++ (elsW W s2 (L1.drop (k + 1))).2)) := Lib.hid (by rw [hE]; simp)
        have HD2 : Hid ((d ++ [x2]).length = k + 1) := Lib.hid (by rw [List.length_append, HD.out]; rfl)
        have HDS2 : Hid (∀ y ∈ d ++ [x2], y.length = 7) := Lib.hid (fun y hy => by
          rw [List.mem_append, List.mem_singleton] at hy
          rcases hy with hy | rfl
          · exact HDS.out y hy
          · rw [show y = (elemW W s' x).2 by rw [ht2], elemW_len]; exact hshx.len)
        have HX := Lib.hid (And.intro ha (And.intro g2 (And.intro g3 (And.intro g5 g6))))
        have hrl := g1.2.1
        obtain rfl := ha
        clear hx hdr hE e1 ht2 hok2 hkl hshx g1 g2 g3 g4 g5 g6 hfx hsz HRR HE HDS HD hwl
        go_wp2_with fail
        refine HC2.out.mono ?_
        rintro e w4 ⟨rfl, h1, h2, h3, h4⟩
        have HT2 := Lib.hid h1
        have HK2 := Lib.hid h2
        have HRR2 : Hid (L1 = [] ∨ ∃ rb' ro', some (⟨rb, ro, none⟩ : Addr) = some ⟨rb', ro', none⟩ ∧ Loc G b B w4 rb' ∧ rb' ≠ p ∧ rb' ≠ wb ∧ RowAt w4 rb' ro' 7 ((d ++ [x2]) ++ L1.drop (k + 1)) ∧ (G ∨ base.heap.size ≤ rb') ∧ (¬ G → B ≤ rb')) := Lib.hid (.inr ⟨rb, ro, rfl, h3, HX.out.2.1, HX.out.2.2.1, h4, HX.out.2.2.2.1, HX.out.2.2.2.2⟩)
        clear h1 h2 h3 h4 HC2 HX hcr hbx hrl
        go_wp2_with fail
        go_roundw
        case rel => exact ⟨k + 1, s2, d ++ [x2], by go_num, by omega, HD2, HDS2, HE2, HT2, HK2, HRR2⟩
        case measure => simp [intOf]; omega
      · obtain rfl : k = n := by omega
        have hki : ¬ (k : Int) < (k : Int) := by omega
        have hE := HE.out
        rw [← HLN1.out, List.drop_length] at hE
        have hE2 : elsW W s1 L1 = (s', d) := by rw [hE]; show (s', d ++ []) = _; rw [List.append_nil]
        have HFIN := Lib.hid (And.intro hE2 (And.intro HD.out HT.out))
        have HRR2 := HRR
        clear hlt hk hE hE2 HE HRR
        go_wp2_with fail
        go_end0
        refine ⟨rfl, ?_⟩
        rw [HFIN.out.1]
        refine ⟨a, _, _, HFIN.out.2.2, (by have := HKR.out; rw [HBASE.out] at this; exact this), HFIN.out.2.1, ?_⟩
        rcases HRR2.out with e0 | ⟨rb, ro, ha, g1, g2, g3, g4, g5, g6⟩
        · left
          have : d.length = 0 := by rw [HFIN.out.2.1, ← HLN1.out, e0]; rfl
          exact List.eq_nil_of_length_eq_zero this
        · right
          refine ⟨rb, ro, ha, g1, g2, ?_⟩
          rw [← HLN1.out, List.drop_length, List.append_nil] at g4
          exact g4
  · have hg0 : ¬ G := fun g => hzn (hzg g)
    obtain rfl : L = [] := HG.out.resolve_left hg0
    obtain rfl : n = 0 := HLN.out.symm
    have hq0 := hzr.resolve_left hzn
    obtain ⟨q, rfl⟩ : ∃ q : Nat, z' = q := ⟨z'.toNat, by omega⟩
    have hq1 : q ≤ 512 := by omega
    have hzb : ((q : Int) == ((0 : Nat) : Int)) = false := by rw [beq_eq_false_iff_ne]; exact hzn
    have hzb2 : ((q : Int) == (0 : Int)) = false := hzb
    have hnq : ¬ (q : Int) = 0 := by simpa using hzn
    have hnq2 : ¬ q = 0 := by omega
    have hqb : ((q : Int) != 0) = true := by rw [bne_iff_ne]; exact hnq
    obtain ⟨i0, hi0, hi1⟩ : ∃ i0, Try.prog.info? 58 = some i0 ∧ (i0.zero, i0.size) = (some (.agg #[.int .i64 0, .int .i64 0, .int .i64 0, .string ⟨#[]⟩, .bool false, .slice none 0 0, .string ⟨#[]⟩]), 7) := Option.map_eq_some_iff.1 Try.infoSeen
    have hib : i0.bytes ≤ 4096 := by
      have : (Try.prog.info? 58).map (fun i => decide (i.bytes ≤ 4096)) = some true := by kernel_rfl
      rw [hi0] at this
      exact of_decide_eq_true (Option.some.inj this)
    have hmk : ∀ W : World, (Instr.makeSlice 33 (.int .i64 (q : Int)) (.int .i64 (q : Int))).run Try.prog W = .ok (.slice (some ⟨W.heap.size, 0, none⟩) q q) (W.alloc (.cells (madeCells #[.int .i64 0, .int .i64 0, .int .i64 0, .string ⟨#[]⟩, .bool false, .slice none 0 0, .string ⟨#[]⟩] (q * 7)) 58)) := fun W => by
      have := run_make (P := Try.prog) W 33 58 i0 (.agg #[.int .i64 0, .int .i64 0, .int .i64 0, .string ⟨#[]⟩, .bool false, .slice none 0 0, .string ⟨#[]⟩]) Try.underlying33 hi0 (by injection hi1) .i64 .i64 q q (by omega) (Int.le_refl _) (by
        have : (i0.bytes : Int) * (q : Int) ≤ 4096 * 512 := Int.mul_le_mul (by omega) (by omega) (by omega) (by omega)
        omega) (by omega)
      rw [this]
      have e2 : i0.size = 7 := by injection hi1
      rw [e2]; rfl
    have hL1 : (if (q : Int) = ((0 : Nat) : Int) then [] else List.replicate (q : Int).toNat zeroSeen) = List.replicate q zeroSeen := by rw [if_neg hzn]; rfl
    rw [hL1] at hok ⊢
    have HLN1 : Hid ((List.replicate q zeroSeen).length = q) := Lib.hid (by simp)
    have HSH1 : Hid (∀ x ∈ List.replicate q zeroSeen, isSeen x) := Lib.hid (fun x hx => by rw [List.eq_of_mem_replicate hx]; exact ⟨_, _, _, _, _, _, _, rfl⟩)
    obtain ⟨L1, hL1'⟩ : ∃ L1, L1 = List.replicate q zeroSeen := ⟨_, rfl⟩
    rw [← hL1'] at hok HLN1 HSH1 ⊢
    have HL1 := Lib.hid hL1'
    have HOK := Lib.hid hok
    clear hok hL1 hL1'
    go_enter Try.func39, Try.ntmps39
    go_upto_region 1 with fail
    go_wp2_with fail
    refine HC.out.mono ?_
    rintro e w2 ⟨rfl, hat, ⟨hz, hzl⟩, hk⟩
    have hc2 := (HP.out.cell hk o).trans HCP.out
    have hs2 := hk.size
    have hpl2 : p < w2.heap.size := by omega
    have hnbl := hzl.2.1
    have HA := Lib.hid hat
    have HK := Lib.hid hk
    clear hat hk HC hzl
    have HL2 := Lib.hid (HP.out.keep HK.out.drew)
    have HW2 := Lib.hid (HW.out.keep HK.out.drew)
    have HA3 : Hid (At w2.drew s1) := Lib.hid (HH.out.old _ _ _ HA.out (Below.refl _ w2).drew)
    have HK3 : Hid (KB b B w w2.drew) := Lib.hid HK.out.drew
    have hc3 : w2.drew.cell? ⟨p, o, none⟩ = some (.slice a 0 cap) := hc2
    have hz3 : w2.drew.cell? ⟨w.heap.size, 0, none⟩ = some (.int .i64 q) := hz
    have HBL3 : Hid (b < w2.drew.heap.size ∧ B ≤ w2.drew.heap.size) := Lib.hid (HH.out.lt _ _ HA3.out)
    have hpl3 : p < w2.drew.heap.size := hpl2
    have hnb3 : w.heap.size < w2.drew.heap.size := hnbl
    have hfz : ∀ ob : Obj, (w2.drew.alloc ob).frozen? ⟨p, o, none⟩ = false := fun ob => (Loc.old HL2.out ((Below.refl _ w2.drew).alloc (Nat.le_refl _) ob)).frozen (HP.out.le hg0) _
    go_upto_region 2 with fail
    go_region
    generalize w2.drew = w3 at *
    clear HK HA hc2 hz hs2 hpl2 hnbl
    go_upto_region 4 with fail
    obtain ⟨w4, hw4⟩ : ∃ x, x = (w3.setCell ⟨p, o, none⟩ (.slice (some ⟨w3.heap.size, 0, none⟩) q q)).alloc (.cells (madeCells #[.int .i64 0, .int .i64 0, .int .i64 0, .string ⟨#[]⟩, .bool false, .slice none 0 0, .string ⟨#[]⟩] (q * 7)) 58) := ⟨_, rfl⟩
    have hsz3 : (w3.setCell ⟨p, o, none⟩ (.slice (some ⟨w3.heap.size, 0, none⟩) q q)).heap.size = w3.heap.size := by simp
    rw [← hw4]
    obtain ⟨rx, hrx⟩ : ∃ x, x = w3.heap.size := ⟨_, rfl⟩
    have hb3 := (Below.refl (w3.setCell ⟨p, o, none⟩ (.slice (some ⟨w3.heap.size, 0, none⟩) q q)).heap.size (w3.setCell ⟨p, o, none⟩ (.slice (some ⟨w3.heap.size, 0, none⟩) q q))).alloc (Nat.le_refl _) (.cells (madeCells #[.int .i64 0, .int .i64 0, .int .i64 0, .string ⟨#[]⟩, .bool false, .slice none 0 0, .string ⟨#[]⟩] (q * 7)) 58)
    have hrp : rx ≠ p := by omega
    have hs3 := HK3.out.size
    have hwlt := HW.out.2.1
    have hk4 : KB b B (w.setCell ⟨p, o, none⟩ (.slice (some ⟨rx, 0, none⟩) q q)) w4 := by
      rw [hw4, hrx]
      exact (HK3.out.set _ _ HP.out.1).alloc (by rw [hsz3]; exact HBL3.out.2) _
    have hat4 : At w4 s1 := by
      rw [hw4]
      exact HH.out.old _ _ _ (HH.out.set _ _ _ _ _ HA3.out HL2.out) hb3
    have hrow4 : RowAt w4 rx 0 7 (List.replicate q zeroSeen) := by
      have := made_row (w3.setCell ⟨p, o, none⟩ (.slice (some ⟨w3.heap.size, 0, none⟩) q q)) #[.int .i64 0, .int .i64 0, .int .i64 0, .string ⟨#[]⟩, .bool false, .slice none 0 0, .string ⟨#[]⟩] 58 q 7 zeroSeen rfl rfl (by decide)
      rw [hsz3] at this
      rw [hw4, hrx]
      exact this
    have hlr : Loc G b B w4 rx := by
      have := Loc.new (G := G) (w := w3.setCell ⟨p, o, none⟩ (.slice (some ⟨w3.heap.size, 0, none⟩) q q)) (b := b) (B := B) (by rw [hsz3]; exact HBL3.out.1) (by rw [hsz3]; exact HBL3.out.2) (madeCells #[.int .i64 0, .int .i64 0, .int .i64 0, .string ⟨#[]⟩, .bool false, .slice none 0 0, .string ⟨#[]⟩] (q * 7)) 58 (by decide)
      rw [hsz3] at this
      rw [hw4, hrx]
      exact this
    obtain ⟨base, hbase⟩ : ∃ x, x = w.setCell ⟨p, o, none⟩ (.slice (some ⟨rx, 0, none⟩) q q) := ⟨_, rfl⟩
    have HPB : Hid (∀ wr, KB b B base wr → wr.cell? ⟨p, o, none⟩ = some (.slice (some ⟨rx, 0, none⟩) q q) ∧ wr.cell? ⟨wb, 0, none⟩ = some (.iface D (.pointer (some ⟨b, 0, none⟩))) ∧ Loc G b B wr wb ∧ p < wr.heap.size) := Lib.hid fun wr hk => by
      rw [hbase] at hk
      exact ⟨((HP.out.set ⟨p, o, none⟩ (.slice (some ⟨rx, 0, none⟩) q q)).cell hk o).trans (World.cell?_setCell_same' _ _ _ (by rw [HCP.out]; rfl)), ((HW.out.set ⟨p, o, none⟩ (.slice (some ⟨rx, 0, none⟩) q q)).cell hk 0).trans ((World.cell?_setCell_other _ _ _ _ (fun e => HNE.out (by injection e with e1; exact e1.symm))).trans HB.out), (HW.out.set ⟨p, o, none⟩ (.slice (some ⟨rx, 0, none⟩) q q)).keep hk, Nat.lt_of_lt_of_le (HP.out.set ⟨p, o, none⟩ (.slice (some ⟨rx, 0, none⟩) q q)).2.1 hk.size⟩
    have HROW : Hid (List.replicate q zeroSeen = [] ∨ ∃ rb ro, some (⟨rx, 0, none⟩ : Addr) = some ⟨rb, ro, none⟩ ∧ Loc G b B w4 rb ∧ rb ≠ p ∧ rb ≠ wb ∧ RowAt w4 rb ro 7 (List.replicate q zeroSeen) ∧ (G ∨ base.heap.size ≤ rb) ∧ (¬ G → B ≤ rb)) := Lib.hid (.inr ⟨rx, 0, rfl, hlr, hrp, by omega, hrow4, .inr (by rw [hbase, hrx]; simpa using hs3), fun _ => by rw [hrx]; exact HBL3.out.2⟩)
    have HBASE := Lib.hid hbase
    rw [← hbase] at hk4
    rw [← hrx]
    try rw [hqb]
    rw [← HL1.out] at HROW
    clear HA3 HK3
    have HK3 := Lib.hid hk4
    have HA3 := Lib.hid hat4
    have hc3' := (HPB.out _ hk4).1
    have hpl3' := (HPB.out _ hk4).2.2.2
    clear hk4 hat4 hrow4 hlr hbase hb3 hsz3 hw4 hrx hrp hg0 hzg hfz hmk hib hi0 hi1 hs3 hwlt HBL3 HL2 HW2 hc3 hz3 hnb3 hpl3 HR HSH HG HLN HP HCP HW HB
    go_wp2_with fail
    go_loopw [9, 31] (fun _ i wr => ∃ (k : Nat) (s' : σ) (d : List (List Fld)), i = .int .i64 k ∧ k ≤ q ∧ Hid (d.length = k) ∧ Hid (∀ y ∈ d, y.length = 7) ∧ Hid (elsW W s1 L1 = ((elsW W s' (L1.drop k)).1, d ++ (elsW W s' (L1.drop k)).2)) ∧ Hid (At wr s') ∧ Hid (KB b B base wr) ∧
      Hid (L1 = [] ∨ ∃ rb ro, some (⟨rx, 0, none⟩ : Addr) = some ⟨rb, ro, none⟩ ∧ Loc G b B wr rb ∧ rb ≠ p ∧ rb ≠ wb ∧ RowAt wr rb ro 7 (d ++ L1.drop k) ∧ (G ∨ base.heap.size ≤ rb) ∧ (¬ G → B ≤ rb))) (fun _ i _ => q - (intOf i).toNat)
    case atStart => exact ⟨0, s1, [], by first | rfl | go_num, by omega, Lib.hid rfl, Lib.hid (fun y hy => by simp at hy), Lib.hid rfl, HA3, HK3, HROW⟩
    case round =>
      obtain ⟨k, s', d, rfl, hk, HD, HDS, HE, HT, HKR, HRR⟩ := hrel
      obtain ⟨hcr, hbx, hwl, hplr⟩ := HPB.out wr HKR.out
      have HWL := Lib.hid hwl
      by_cases hlt : k < q
      · have hki : (k : Int) < (q : Int) := by omega
        have hkl : k < L1.length := by rw [HLN1.out]; exact hlt
        obtain ⟨x, hx⟩ : ∃ x, x = L1[k] := ⟨_, rfl⟩
        have hdr : L1.drop k = x :: L1.drop (k + 1) := by rw [hx]; exact List.drop_eq_getElem_cons hkl
        have hshx : isSeen x := by rw [hx]; exact HSH1.out _ (List.getElem_mem hkl)
        have hE := HE.out
        rw [hdr] at hE
        rcases HRR.out with e0 | ⟨rb, ro, ha, g1, g2, g3, g4, g5, g6⟩
        · rw [e0] at hkl; simp at hkl
        rw [hdr] at g4
        have hfx : FAt wr rb (ro + k * 7) x := row_mid g4 HD.out
        obtain ⟨s2, x2, ht2⟩ : ∃ s2 x2, elemW W s' x = (s2, x2) := ⟨_, _, rfl⟩
        have e1 : elsW W s' (x :: L1.drop (k + 1)) = ((elsW W s2 (L1.drop (k + 1))).1, x2 :: (elsW W s2 (L1.drop (k + 1))).2) := by
          show ((stepsW _ (elemW W s' x).1 _).1, (elemW W s' x).2 :: (stepsW _ (elemW W s' x).1 _).2) = _
          rw [ht2]; rfl
        rw [e1] at hE
        have hok2 : W.ok s2 := by
          have := HOK.out
          rw [hE] at this
          exact elsW_ok this
        have hsz : ∀ y ∈ d ++ x :: L1.drop (k + 1), y.length = 7 := fun y hy => by
          rw [List.mem_append] at hy
          rcases hy with hy | hy
          · exact HDS.out y hy
          · rw [← hdr] at hy; exact (HSH1.out y (List.mem_of_mem_drop hy)).len
        have HC2 : Hid (Calls Try.prog 40 #[.pointer (some ⟨rb, ro + k * 7, none⟩), .pointer (some ⟨wb, 0, none⟩)] wr fun e w' => e = .returned (.tuple #[]) ∧ At w' s2 ∧ KB b B base w' ∧ Loc G b B w' rb ∧ RowAt w' rb ro 7 ((d ++ [x2]) ++ L1.drop (k + 1))) := Lib.hid (by
          obtain ⟨cc, sq, er, va, g, pv, u, rfl⟩ := hshx
          refine (clSeen_any HH.out wr s' rb (ro + k * 7) wb cc sq er va g pv u HT.out g1 HWL.out (fun e => g3 e.symm) hbx hfx (by rw [ht2]; exact hok2)).mono ?_
          rintro e w' ⟨rfl, h1, h2⟩
          rw [ht2] at h1
          obtain ⟨r1, r2, r3⟩ := Row.step HH.out g5 g6 HKR.out g4 HD.out hsz g1 h2
          rw [ht2] at r2
          refine ⟨rfl, h1, r1, r3, ?_⟩
          rw [List.append_assoc]; exact r2)
        have HE2 : Hid (elsW W s1 L1 = ((elsW W s2 (L1.drop (k + 1))).1, (d ++ [x2]) ++ (elsW W s2 (L1.drop (k + 1))).2)) := Lib.hid (by rw [hE]; simp)
        have HD2 : Hid ((d ++ [x2]).length = k + 1) := Lib.hid (by rw [List.length_append, HD.out]; rfl)
        have HDS2 : Hid (∀ y ∈ d ++ [x2], y.length = 7) := Lib.hid (fun y hy => by
          rw [List.mem_append, List.mem_singleton] at hy
          rcases hy with hy | rfl
          · exact HDS.out y hy
          · rw [show y = (elemW W s' x).2 by rw [ht2], elemW_len]; exact hshx.len)
        have HX := Lib.hid (And.intro ha (And.intro g2 (And.intro g3 (And.intro g5 g6))))
        have hrl := g1.2.1
        obtain ⟨rfl, rfl⟩ : rx = rb ∧ 0 = ro := by injection ha with e; injection e with e1 e2; exact ⟨e1, e2⟩
        rw [Nat.zero_add] at HC2
        clear hx hdr hE e1 ht2 hok2 hkl hshx g1 g2 g3 g4 g5 g6 hfx hsz HRR HE HDS HD hwl
        go_wp2_with fail
        refine HC2.out.mono ?_
        rintro e w4 ⟨rfl, h1, h2, h3, h4⟩
        have HT2 := Lib.hid h1
        have HK2 := Lib.hid h2
        have HRR2 : Hid (L1 = [] ∨ ∃ rb' ro', some (⟨rx, 0, none⟩ : Addr) = some ⟨rb', ro', none⟩ ∧ Loc G b B w4 rb' ∧ rb' ≠ p ∧ rb' ≠ wb ∧ RowAt w4 rb' ro' 7 ((d ++ [x2]) ++ L1.drop (k + 1)) ∧ (G ∨ base.heap.size ≤ rb') ∧ (¬ G → B ≤ rb')) := Lib.hid (.inr ⟨rx, 0, rfl, h3, HX.out.2.1, HX.out.2.2.1, h4, HX.out.2.2.2.1, HX.out.2.2.2.2⟩)
        clear h1 h2 h3 h4 HC2 HX hcr hbx hrl
        go_wp2_with fail
        go_roundw
        case rel => exact ⟨k + 1, s2, d ++ [x2], by go_num, by omega, HD2, HDS2, HE2, HT2, HK2, HRR2⟩
        case measure => simp [intOf]; omega
      · obtain rfl : k = q := by omega
        have hki : ¬ (k : Int) < (k : Int) := by omega
        have hE := HE.out
        rw [← HLN1.out, List.drop_length] at hE
        have hE2 : elsW W s1 L1 = (s', d) := by rw [hE]; show (s', d ++ []) = _; rw [List.append_nil]
        have HFIN := Lib.hid (And.intro hE2 (And.intro HD.out HT.out))
        have HRR2 := HRR
        clear hlt hk hE hE2 HE HRR
        go_wp2_with fail
        go_end0
        refine ⟨rfl, ?_⟩
        rw [HFIN.out.1]
        refine ⟨some (⟨rx, 0, none⟩ : Addr), _, _, HFIN.out.2.2, (by have := HKR.out; rw [HBASE.out] at this; exact this), HFIN.out.2.1, ?_⟩
        rcases HRR2.out with e0 | ⟨rb, ro, ha, g1, g2, g3, g4, g5, g6⟩
        · left
          have : d.length = 0 := by rw [HFIN.out.2.1, ← HLN1.out, e0]; rfl
          exact List.eq_nil_of_length_eq_zero this
        · right
          refine ⟨rb, ro, ha, g1, g2, ?_⟩
          rw [← HLN1.out, List.drop_length, List.append_nil] at g4
          exact g4
end
end Go.Proofs.Ytdnhmkfgcpdbkaa
