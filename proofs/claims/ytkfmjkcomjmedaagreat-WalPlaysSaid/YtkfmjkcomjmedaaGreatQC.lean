/-
  Texts of mine as one, in the order in which they build: Wv, Ww, Wx. Conditions: as each says.
-/
import Derived.Test.YtkfmjkcomjmedaaGreatQB
import Derived.Test.YtkfmjkcomjmedaaGreatLb
namespace Go.Proofs.YtkfmjkcomjmedaaGreat
open Go.RowKit
set_option linter.unusedVariables false
set_option linter.unusedSimpArgs false

def ofs (L : Lt) : List Nat := L.flatMap fun p => List.replicate p.2.length p.1
theorem ofs_append (L M : Lt) : ofs (L ++ M) = ofs L ++ ofs M := by simp [ofs]
theorem ofs_one (n : Nat) (ts : List (List UInt8)) : ofs [(n, ts)] = List.replicate ts.length n := by simp [ofs]
theorem ofs_len : ∀ L : Lt, (ofs L).length = (flat L).length
  | [] => rfl
  | p :: L => by
    have e1 : ofs (p :: L) = List.replicate p.2.length p.1 ++ ofs L := by simp [ofs]
    have e2 : flat (p :: L) = p.2 ++ flat L := by simp [flat]
    rw [e1, e2, List.length_append, List.length_append, ofs_len L, List.length_replicate]
theorem load_no {fr : Nat} {F : List Fe} {k : Nat} (hk : k < F.length) (h : partOf fr F[k] = none) : loadL fr (F.take (k + 1)) = loadL fr (F.take k) := by
  unfold loadL
  rw [List.take_succ_eq_append_getElem hk, List.filterMap_append]
  simp [h]
theorem load_yes {fr : Nat} {F : List Fe} {k : Nat} (hk : k < F.length) {p : Nat × List (List UInt8)} (h : partOf fr F[k] = some p) : loadL fr (F.take (k + 1)) = loadL fr (F.take k) ++ [p] := by
  unfold loadL
  rw [List.take_succ_eq_append_getElem hk, List.filterMap_append]
  simp [h]
theorem part_none {fr : Nat} {p : Fe} (h : numb p.1 = none) : partOf fr p = none := by unfold partOf; rw [h]
theorem part_low {fr m : Nat} {p : Fe} (h : numb p.1 = some m) (hm : m < fr) : partOf fr p = none := by unfold partOf; rw [h]; simp only; rw [if_neg (by omega)]
theorem part_high {fr m : Nat} {p : Fe} (h : numb p.1 = some m) (hm : fr ≤ m) : partOf fr p = some (m, (fa p.2.bytes).1) := by unfold partOf; rw [h]; simp only; rw [if_pos hm]
theorem lastN_add (fr : Nat) (L : Lt) (p : Nat × List (List UInt8)) : lastN fr (L ++ [p]) = p.1 + 1 := by unfold lastN; rw [List.getLast?_concat]
theorem lastN_le {fr nb : Nat} {F : List Fe} (h : ∀ p ∈ F, ∀ n, numb p.1 = some n → n ≤ nb) : lastN fr (loadL fr F) ≤ max fr (nb + 1) := by
  unfold lastN
  split
  · rename_i p hp
    have hm := List.mem_of_getLast? hp
    unfold loadL at hm
    obtain ⟨q, hq, e⟩ := List.mem_filterMap.1 hm
    unfold partOf at e
    split at e
    · rename_i n hn
      split at e
      · cases e
        have := h q hq n hn
        simp only
        omega
      · cases e
    · cases e
  · omega
theorem begE_zero {f : Int} {o : Bool} (h : begE true f o = 0) : o = false ∧ f ≠ 0 := by
  unfold begE at h
  cases o with
  | true => simp at h
  | false =>
    refine ⟨rfl, fun e => ?_⟩
    subst e
    simp at h
theorem remove_ok {S : Ds} {n : List UInt8} (hn : namL n = true) (h : (S.remove n).2 = 0) : (S.remove n).1.files = delL n S.files ∧ (S.remove n).1.off = false := by
  unfold Ds.remove at h ⊢
  by_cases c : S.chgE (namL n) n = 0
  · rw [if_pos c]
    refine ⟨rfl, ?_⟩
    unfold Ds.chgE at c
    rw [hn] at c
    by_cases c2 : begE true S.fuse S.off = 0
    · obtain ⟨h1, h2⟩ := begE_zero c2
      unfold Ds.begin
      simp only
      unfold begO
      rw [hn, h1]
      simp [h2]
    · rw [if_neg c2] at c
      exact absurd c c2
  · rw [if_neg c] at h
    exact absurd h c
/-- What of the disk is still as it was. -/
def Rest (S Sk : Ds) (k : Nat) : Prop := ∀ j (h : j < S.files.length), k ≤ j → getL S.files[j].1 Sk.files = some S.files[j].2
theorem Rest.start {S : Ds} (hs : Srt S.files) : Rest S S 0 := fun j h _ => (getL_iff hs).2 (List.getElem_mem h)
theorem Rest.next {S Sk : Ds} {k : Nat} (h : Rest S Sk k) : Rest S Sk (k + 1) := fun j hj hk => h j hj (by omega)
theorem Rest.del {S Sk U : Ds} {k : Nat} (h : Rest S Sk k) (hs : Srt S.files) (hsk : Srt Sk.files) (hk : k < S.files.length) (hU : U.files = delL S.files[k].1 Sk.files) : Rest S U (k + 1) := by
  intro j hj hkj
  rw [hU, getL_delL hsk]
  have hne : S.files[j].1 ≠ S.files[k].1 := by
    have := List.pairwise_iff_getElem.1 (srt_ne hs) k j hk hj (by omega)
    exact fun e => this e.symm
  rw [if_neg hne]
  exact h j hj (by omega)
theorem Rest.read {S Sk : Ds} {k : Nat} (h : Rest S Sk k) (hk : k < S.files.length) (ho : Sk.off = false) (hn : namL S.files[k].1 = true) : Sk.lookE S.files[k].1 = 0 ∧ Sk.bytesOf S.files[k].1 = S.files[k].2.bytes ∧ Sk.sureOf S.files[k].1 = S.files[k].2.sure := look_yes hn ho (h k hk (Nat.le_refl _))
theorem fa_le (l : List UInt8) : (fa l).1.length ≤ l.length := by
  have := fa_len l.length l (Nat.le_refl _)
  omega
end Go.Proofs.YtkfmjkcomjmedaaGreat
namespace Go.Proofs.YtkfmjkcomjmedaaGreat
open Go.RowKit
set_option linter.unusedVariables false
set_option linter.unusedSimpArgs false

theorem Lx.set2 {W : World} {B : Nat} {a a' : Option Addr} {n c n' c' : Nat} {x : Int} (h : Lx W B a n c a' n' c' x) (y : Int) : Lx (W.setCell ⟨B, 2, none⟩ (.int .i64 y)) B a n c a' n' c' y := by
  refine ⟨?_, ?_, World.cell?_setCell_same' _ _ _ (by rw [h.c2]; rfl), ?_, ?_, ?_⟩
  · rw [World.cell?_setCell_other _ _ _ _ (by simp)]; exact h.c0
  · rw [World.cell?_setCell_other _ _ _ _ (by simp)]; exact h.c1
  · simp [go_sem, h.f0]
  · simp [go_sem, h.f1]
  · simp [go_sem, h.f2]
theorem own_put3 {W : World} {base t size n : Nat} {v : Value} {xs : List Value} (h : W.ownsRow base t size v n xs) {R1 : Nat} (h1 : R1 < base) (a : Option Addr) (m c : Nat) (f : Int) (o : Bool) : (put3 W R1 a m c f o).ownsRow base t size v n xs :=
  own_setc (own_setc (own_setc h h1 _ _) h1 _ _) h1 _ _
theorem row_no {w : World} {base t t' s n : Nat} {v : Value} {xs : List Value} (h : w.ownsRow base t s v n xs) (hne : t' ≠ t) {b : Nat} (hb : ∃ cs fz, w.heap[b]? = some (.cells cs t' fz)) : v.ownBlock ≠ some b := by
  intro e
  obtain ⟨_, cu, h4⟩ := row_at h e
  obtain ⟨cs, fz, h5⟩ := hb
  rw [h4] at h5
  cases h5
  exact hne rfl
theorem NoStr.olds {w w' : World} {B base : Nat} (h : NoStr w B) (hB : B < base) (hb : Below base w w') : NoStr w' B := fun o s e => h o s ((hb.cell (p := ⟨B, o, none⟩) hB).symm.trans e)
def OpenE (P : Nat → Prop) (w : World) (S : Ds) (fr : Nat) (e : Ending) (w' : World) : Prop :=
  ∃ q' v', e = .returned (.tuple #[q', v', .int .i64 (S.opens fr).2.1]) ∧ RefD w' q' (S.opens fr).1 ∧ RefL P w' v' (if (S.opens fr).2.1 = 0 then flat (loadL fr S.files) else []) (if (S.opens fr).2.1 = 0 then ofs (loadL fr S.files) else []) (if (S.opens fr).2.1 = 0 then lastN fr (loadL fr S.files) else 0) ∧ Below w.heap.size w w'
theorem RefL.nil (P : Nat → Prop) (w : World) : RefL P w (.agg #[.slice none 0 0, .slice none 0 0, .int .i64 0]) [] [] 0 :=
  ⟨none, 0, none, 0, rfl, .inl rfl, .inl rfl, ⟨fun h => absurd rfl h, fun h => absurd rfl h⟩⟩
theorem openE_no {P : Nat → Prop} {w W : World} {S U : Ds} {fr : Nat} {F : Int} {q : Value} (h1 : (S.opens fr).1 = U ∧ (S.opens fr).2.1 = F) (hF : F ≠ 0) (hq : RefD W q U) (hb : Below w.heap.size w W) : OpenE P w S fr (.returned (.tuple #[q, .agg #[.slice none 0 0, .slice none 0 0, .int .i64 0], .int .i64 F])) W := by
  refine ⟨q, _, by rw [h1.2], by rw [h1.1]; exact hq, ?_, hb⟩
  rw [h1.2, if_neg hF, if_neg hF, if_neg hF]
  exact RefL.nil P W
theorem openE_yes {P : Nat → Prop} {w W : World} {S U : Ds} {fr m bs : Nat} {q : Value} {r1 r2 : Option Addr} {e1 e2 : Nat} {t1 t2 : TypeId} (h1 : (S.opens fr).1 = U ∧ (S.opens fr).2.1 = 0) (hq : RefD W q U) (hb : Below w.heap.size w W) (hP : ∀ b, w.heap.size ≤ b → P b) (hbs : w.heap.size ≤ bs)
    (k1 : W.ownsRow bs t1 1 (.slice r1 m e1) m (sv (flat (loadL fr S.files)))) (k2 : W.ownsRow bs t2 1 (.slice r2 m e2) m (nv (ofs (loadL fr S.files)))) :
    OpenE P w S fr (.returned (.tuple #[q, .agg #[.slice r1 m e1, .slice r2 m e2, .int .i64 (lastN fr (loadL fr S.files) : Int)], .int .i64 0])) W := by
  refine ⟨q, _, by rw [h1.2], by rw [h1.1]; exact hq, ?_, hb⟩
  rw [h1.2, if_pos rfl, if_pos rfl, if_pos rfl]
  have f1 : (flat (loadL fr S.files)).length = m := by have := k1.1; simpa [sv] using this
  have f2 : (ofs (loadL fr S.files)).length = m := by have := k2.1; simpa [nv] using this
  refine ⟨r1, e1, r2, e2, by rw [f1, f2], own_rd (by rw [f1]; exact k1), own_rdi (by rw [f2]; exact k2), ?_⟩
  constructor
  · rintro - b off rfl
    exact hP b (Nat.le_trans hbs (k1.lt b rfl).1)
  · rintro - b off rfl
    exact hP b (Nat.le_trans hbs (k2.lt b rfl).1)
theorem OpenE.drew {P : Nat → Prop} {w W : World} {S : Ds} {fr : Nat} {e : Ending} (h : OpenE P w S fr e W) : OpenE P w S fr e W.drew := by
  obtain ⟨q', v', h1, h2, h3, h4⟩ := h
  exact ⟨q', v', h1, h2.old ((Below.refl _ _).drew), h3.old ((Below.refl _ _).drew), h4.drew⟩
theorem open_off {S : Ds} {fr : Nat} (h : S.off = true) : (S.opens fr).1 = S ∧ (S.opens fr).2.1 = 50 := by
  have hm : mayE S (lastN fr (loadL fr S.files)) = 50 := by unfold mayE; rw [h]; simp
  rw [opens_may (by rw [hm]; decide), hm]
  exact ⟨rfl, rfl⟩
theorem open_may {S : Ds} {fr : Nat} (h : S.off = false) (hl : lastN fr (loadL fr S.files) ≤ 99999998) : mayE S (lastN fr (loadL fr S.files)) = 0 := by
  unfold mayE; rw [h]; simp; omega
set_option maxRecDepth 100000 in
set_option maxHeartbeats 8000000 in
theorem open_ref {bb nb : Nat} {P : Nat → Prop} {w : World} {q : Value} {S : Ds} {fr : Nat} (h : RefD w q S) (hP : ∀ b, w.heap.size ≤ b → P b) (hk : OkS bb nb S) (hbb : bb ≤ 262144) (hnb : nb ≤ 99999000) (hnl : ∀ p ∈ S.files, p.1.length ≤ maxLen) (hfr : fr ≤ 1048576) :
    Calls Tryz.prog 16 #[q, .int .i64 (fr : Int)] w (OpenE P w S fr) := by
  have HD := Lib.hid h
  obtain ⟨a, c, rfl, h1, h2, h3⟩ := h
  obtain ⟨ln, hln⟩ : ∃ ln, ln = S.files.length := ⟨_, rfl⟩
  rw [← hln] at HD ⊢
  have HK := Lib.hid hk
  have HP := Lib.hid hP
  have hl256 := hk.len
  rw [← hln] at hl256
  have HNA := Lib.hid (fun (W : World) (h : RefD W (.agg #[.slice a ln c, .int .i64 S.fuse, .bool S.off]) S) => names_ref h (by have := hk.len; omega))
  rw [← hln] at HNA
  have HLN := Lib.hid hln
  have hlast := lastN_le (fr := fr) hk.nm
  have HLE := Lib.hid (show lastN fr (loadL fr S.files) ≤ 99999998 by omega)
  obtain ⟨nms, hnms⟩ : ∃ nms, nms = S.files.map (·.1) := ⟨_, rfl⟩
  have HRMS := Lib.hid (show S.rm (fr : Int) = rmL fr S nms by unfold Ds.rm; rw [hnms])
  rw [← hnms] at HNA
  have HNG := Lib.hid (show ∀ k (h1 : k < nms.length) (h2 : k < S.files.length), nms[k] = S.files[k].1 by intro k h1 h2; simp [hnms])
  have hnl2 : nms.length = ln := by rw [hnms, List.length_map, hln]
  have HNX := Lib.hid (show ∀ k ∈ nms, k.length ≤ maxLen by rw [hnms]; intro k hk; obtain ⟨p, hp, rfl⟩ := List.mem_map.1 hk; exact hnl p hp)
  have HNLN := Lib.hid hnl2
  clear h1 h2 h3 hln hk hP hnms hnl2 hnl hlast
  go_enter Tryz.func16, Tryz.ntmps16
  go_upto_region 1 with fail
  generalize hW : World.alloc (World.alloc (World.alloc w _) _) _ = W
  have BB : Below w.heap.size w W := by rw [← hW]; exact (((Below.refl _ _).alloc (Nat.le_refl _) _).alloc (by simp) _).alloc (by simp; omega) _
  have hsz : w.heap.size + 3 ≤ W.heap.size := by rw [← hW]; simp
  have HB : Bx W w.heap.size a ln c S.fuse S.off := by
    rw [← hW]
    have := ((Bx.new w a ln c S.fuse S.off 28).old ((Below.refl _ _).alloc (Nat.le_refl _) (.cells #[.slice none 0 0, .int .i64 0, .bool false] 28))).old ((Below.refl _ _).alloc (Nat.le_refl _) (.cells #[.slice none 0 0, .slice none 0 0, .int .i64 0] 34))
    simpa using this
  have HRES : Res W (w.heap.size + 1) (w.heap.size + 2) := by
    rw [← hW]
    have e1 := (Bx.new (w.alloc (.cells #[.slice a ln c, .int .i64 S.fuse, .bool S.off] 28)) none 0 0 0 false 28).old ((Below.refl _ _).alloc (Nat.le_refl _) (.cells #[.slice none 0 0, .slice none 0 0, .int .i64 0] 34))
    have e2 := noStr_log ((w.alloc (.cells #[.slice a ln c, .int .i64 S.fuse, .bool S.off] 28)).alloc (.cells #[.slice none 0 0, .int .i64 0, .bool false] 28)) none none 0 0 0 0 0 34
    refine ⟨by simpa using e1, ?_, by simpa using e2, by omega⟩
    constructor <;> simp [go_sem]
  clear hW
  have HQ := Lib.hid (HD.out.old BB)
  have BB := Lib.hid BB
  have HBB := Lib.hid HB
  have HRS := Lib.hid HRES
  obtain ⟨n0, n1', n2', z0, z1, z2, -⟩ := HB
  obtain ⟨⟨p0, p1, p2, s0, s1, s2, -⟩, ⟨t0, t1, t2, v0, v1, v2⟩, -, -⟩ := HRES
  have hf1 : ¬ (fr : Int) < 0 := by omega
  have hf2 : ¬ (1048576 : Int) < (fr : Int) := by omega
  cases hoff : S.off with
  | true =>
    have HOF := Lib.hid (open_off (fr := fr) hoff)
    rw [hoff] at n2'
    have HQ' : RefD W (.agg #[.slice a ln c, .int .i64 S.fuse, .bool true]) S := by rw [← hoff]; exact HQ.out
    have HQ' := Lib.hid HQ'
    clear hoff
    go_wp2_with fail
    clear n0 n1' n2' z0 z1 z2 p0 p1 p2 s0 s1 s2 t0 t1 t2 v0 v1 v2
    have kf := ((HRS.out).fin (HQ'.out) (BB.out) (by omega) (by omega) none (0) 0 none (0) 0 (0)).1
    show bodyPost _ _ _ _ _ (putg (put3 W (w.heap.size + 1) a (ln) c (S.fuse) true) (w.heap.size + 2) none (0) 0 none (0) 0 (0))
    generalize (putg (put3 W (w.heap.size + 1) a (ln) c (S.fuse) true) (w.heap.size + 2) none (0) 0 none (0) 0 (0)) = WF at kf ⊢
    obtain ⟨k0, k1, k2, k3, k4, k5, kq, kb⟩ := kf
    refine bodyPost_ret (v := .tuple #[.agg #[.slice a (ln) c, .int .i64 (S.fuse), .bool true], .agg #[.slice none (0) 0, .slice none (0) 0, .int .i64 (0)], .int .i64 50]) (by simp [results, Tryz.f16, go_sem, k0, k1, k2, k3, k4, k5]) rfl ?_
    exact openE_no HOF.out (by decide) kq kb
  | false =>
    have HOFF := Lib.hid hoff
    have HMAY := Lib.hid (open_may hoff HLE.out)
    rw [hoff] at n2'
    clear hoff
    go_upto_region 6 with fail
    generalize hW6 : World.alloc W _ = W6
    have b6 : Below W.heap.size W W6 := by rw [← hW6]; exact (Below.refl _ _).alloc (Nat.le_refl _) _
    have KN := Lib.hid (show Lx W6 W.heap.size none 0 0 none 0 0 (fr : Int) by rw [← hW6]; exact Lx.new ..)
    have NSN := Lib.hid (show NoStr W6 W.heap.size by rw [← hW6]; exact noStr_log W none none 0 0 0 0 (fr : Int) _)
    have hs6 : W.heap.size < W6.heap.size := by rw [← hW6]; simp
    clear hW6 n0 n1' n2' z0 z1 z2 p0 p1 p2 s0 s1 s2 t0 t1 t2 v0 v1 v2
    have HB6 := Lib.hid (HBB.out.old b6)
    have HR6 := Lib.hid (HRS.out.old b6)
    have HQ6 := Lib.hid (HQ.out.old b6)
    have BB6 := Lib.hid (BB.out.trans (b6.mono (by omega)))
    clear b6
    obtain ⟨n0, n1', n2', z0, z1, z2, -⟩ := HB6.out
    go_wp2_with fail
    go_at_call 28
    refine (HNA.out _ HQ6.out).mono ?_
    rintro e W1 ⟨na, nc, rfl, rd, b1⟩
    have HB1 := Lib.hid (HB6.out.old b1)
    have HN1 := Lib.hid (KN.out.old b1)
    have NS1 := Lib.hid (NSN.out.old hs6 b1)
    have HR1 := Lib.hid (HR6.out.old b1)
    have HQ1 := Lib.hid (HQ6.out.old b1)
    have BB1 := Lib.hid (BB6.out.trans (b1.mono (by omega)))
    have RD1 := Lib.hid rd
    have hs1 := b1.size
    have hN1 : W.heap.size < W1.heap.size := by omega
    have hB1 : w.heap.size < W1.heap.size := by omega
    have hw4 : w.heap.size + 3 ≤ W1.heap.size := by omega
    have hBN : w.heap.size + 3 ≤ W.heap.size := by omega
    have hR1c : w.heap.size + 1 < W1.heap.size ∧ w.heap.size + 1 ≠ w.heap.size ∧ w.heap.size + 1 ≠ W.heap.size := by omega
    have hR2c : w.heap.size + 2 < W1.heap.size ∧ w.heap.size + 2 ≠ w.heap.size ∧ w.heap.size + 2 ≠ W.heap.size := by omega
    have HR1C := Lib.hid hR1c
    have HR2C := Lib.hid hR2c
    clear n0 n1' n2' z0 z1 z2 b1 rd hsz hs6 hs1 hR1c hR2c
    obtain ⟨i0, hi, hz0, hz1, hz2⟩ := info_parts Tryz.infoStr
    obtain ⟨j0, ji, jz0, jz1, jz2⟩ := info_parts Tryz.infoInt
    go_upto_block 0 with fail
    go_cut [9] (fun s9 wx => ∃ Sk ak ck m r1 e1 r2 e2, rmL fr S nms = (Sk, 0) ∧ Hid (OkS bb nb Sk) ∧ Bx wx w.heap.size ak Sk.files.length ck Sk.fuse Sk.off ∧ RefD wx (.agg #[.slice ak Sk.files.length ck, .int .i64 Sk.fuse, .bool Sk.off]) Sk ∧ Lx wx W.heap.size r1 m e1 r2 m e2 (lastN fr (loadL fr S.files) : Int) ∧ NoStr wx W.heap.size ∧ wx.ownsRow W1.heap.size 9 1 (.slice r1 m e1) m (sv (flat (loadL fr S.files))) ∧ wx.ownsRow W1.heap.size 3 1 (.slice r2 m e2) m (nv (ofs (loadL fr S.files))) ∧ Keeps (fun b => b < W1.heap.size ∧ b ≠ w.heap.size ∧ b ≠ W.heap.size) W1 wx)
    case first =>
      go_wp2_with fail
      go_loopw [9] (fun i wr => ∃ (k : Nat) (Sk : Ds) (ak : Option Addr) (ck m : Nat) (r1 : Option Addr) (e1 : Nat) (r2 : Option Addr) (e2 : Nat), i = .int .i64 k ∧ k ≤ ln ∧ m ≤ 262144 * k ∧ Hid (rmL fr S nms = rmL fr Sk (nms.drop k)) ∧ Hid (OkS bb nb Sk) ∧ Hid (Sk.off = false) ∧ Hid (Rest S Sk k) ∧ Bx wr w.heap.size ak Sk.files.length ck Sk.fuse Sk.off ∧ RefD wr (.agg #[.slice ak Sk.files.length ck, .int .i64 Sk.fuse, .bool Sk.off]) Sk ∧ Lx wr W.heap.size r1 m e1 r2 m e2 (lastN fr (loadL fr (S.files.take k)) : Int) ∧ NoStr wr W.heap.size ∧ wr.ownsRow W1.heap.size 9 1 (.slice r1 m e1) m (sv (flat (loadL fr (S.files.take k)))) ∧ wr.ownsRow W1.heap.size 3 1 (.slice r2 m e2) m (nv (ofs (loadL fr (S.files.take k)))) ∧ Keeps (fun b => b < W1.heap.size ∧ b ≠ w.heap.size ∧ b ≠ W.heap.size) W1 wr) (fun i _ => ln - (intOf i).toNat)
      case atStart => exact ⟨0, S, a, c, 0, none, 0, none, 0, rfl, Nat.zero_le _, Nat.le_refl _, Lib.hid rfl, HK, HOFF, Lib.hid (Rest.start HK.out.srt), by rw [← HLN.out]; exact HB1.out, by rw [← HLN.out]; exact HQ1.out, HN1.out, NS1.out, World.ownsRow_nil _ _ _ _, World.ownsRow_nil _ _ _ _, Keeps.refl _ _⟩
      case round =>
        obtain ⟨k, Sk, ak, ck, m, r1, e1, r2, e2, rfl, hk, hmk, HRM, HKK, HOK, HRST, hbx, hqk, hlx, hns, own1, own2, kp⟩ := hrel
        have HBX := Lib.hid hbx
        have HQK := Lib.hid hqk
        have HLX := Lib.hid hlx
        have HNS := Lib.hid hns
        have O1 := Lib.hid own1
        have O2 := Lib.hid own2
        have KP := Lib.hid kp
        have hws := kp.size
        clear hbx hqk kp hlx hns own1 own2
        by_cases hlt : k < ln
        · have hkl : k < nms.length := by rw [HNLN.out]; exact hlt
          have hkf : k < S.files.length := by rw [← HLN.out]; exact hlt
          have hnb : ∃ b off, na = some ⟨b, off, none⟩ ∧ b < W1.heap.size ∧ b ≠ w.heap.size ∧ b ≠ W.heap.size ∧ W1.cell? ⟨b, off + k, none⟩ = some (.string ⟨nms[k].toArray⟩) := by
            rcases RD1.out with h | ⟨b, off, h, hb, hc⟩
            · rw [h] at hkl; exact absurd hkl (Nat.not_lt_zero _)
            · refine ⟨b, off, h, hb, ?_, ?_, hc k hkl⟩
              · rintro rfl
                exact HB1.out.ns _ _ (hc k hkl)
              · rintro rfl
                exact NS1.out _ _ (hc k hkl)
          obtain ⟨b, off, rfl, hbl1, hbne, hbne2, hc0⟩ := hnb
          have hc1 := (KP.out.cell b (off + k) ⟨hbl1, hbne, hbne2⟩).trans hc0
          have hkc : (k : Int) < ln := by omega
          have hnx := HNX.out nms[k] (List.getElem_mem hkl)
          have HDR := Lib.hid (List.drop_eq_getElem_cons hkl)
          have HNK := Lib.hid (HNG.out k hkl hkf)
          obtain ⟨nm, hnm⟩ : ∃ nm, nm = nms[k] := ⟨_, rfl⟩
          rw [← hnm] at hc1 hnx HDR HNK
          have HNU := Lib.hid (number_ref ⟨nm.toArray⟩ (by rw [size_mkl]; exact hnx))
          simp only at HNU
          clear hc0 hnm hnx
          go_wp2_with fail
          go_at_call 39
          refine (HNU.out _).mono ?_
          rintro e wn ⟨rfl, bn⟩
          have HBN := Lib.hid (HBX.out.old bn)
          have HQN := Lib.hid (HQK.out.old bn)
          have HLXN := Lib.hid (HLX.out.old bn)
          have HNSN := Lib.hid (HNS.out.old HLX.out.lt bn)
          have ON1 := Lib.hid (below_own O1.out bn)
          have ON2 := Lib.hid (below_own O2.out bn)
          have KPN := Lib.hid (KP.out.trans (Keeps.of_below bn (fun b (hb : b < W1.heap.size ∧ b ≠ w.heap.size ∧ b ≠ W.heap.size) => Nat.lt_of_lt_of_le hb.1 hws)))
          have hcn := (bn.cell (p := ⟨b, off + k, none⟩) (by show b < wr.heap.size; omega)).trans hc1
          have hsn := bn.size
          clear hc1 bn
          cases hnum : numb nm with
          | none =>
            rw [numI_none hnum]
            have HNX2 := Lib.hid (show rmL fr S nms = rmL fr Sk (nms.drop (k + 1)) by rw [HRM.out, HDR.out]; exact rmL_skip (fun m hm => by rw [hnum] at hm; cases hm))
            have HLD := Lib.hid (load_no (fr := fr) hkf (part_none (by rw [← HNK.out]; exact hnum)))
            go_wp2_with fail
            go_roundw
            case rel => exact ⟨k + 1, Sk, ak, ck, m, r1, e1, r2, e2, by go_num, hlt, by omega, HNX2, HKK, HOK, Lib.hid HRST.out.next, HBN.out, HQN.out, by rw [HLD.out]; exact HLXN.out, HNSN.out, by rw [HLD.out]; exact ON1.out, by rw [HLD.out]; exact ON2.out, KPN.out⟩
            case measure => simp [intOf]; omega
          | some mm =>
            rw [numI_some hnum]
            have hm9 := numb_le hnum
            have hm0 : ¬ (mm : Int) < 0 := by omega
            by_cases hmb : (mm : Int) < (fr : Int)
            · have HRS2 := Lib.hid (rmL_some (S := Sk) (r := nms.drop (k + 1)) hnum hmb)
              have HLD := Lib.hid (load_no (fr := fr) hkf (part_low (by rw [← HNK.out]; exact hnum) (by omega)))
              obtain ⟨U, hU⟩ : ∃ U, U = (Sk.remove nm).1 := ⟨_, rfl⟩
              obtain ⟨F, hF⟩ : ∃ F, F = (Sk.remove nm).2 := ⟨_, rfl⟩
              have hnm2 : nm.length ≤ maxLen := by rw [numb_name hnum, lname_length]; decide
              have hnm3 : namL nm = true := by rw [numb_name hnum]; exact lname_ok _
              have HRV := Lib.hid (fun (W : World) (h : RefD W (.agg #[.slice ak Sk.files.length ck, .int .i64 Sk.fuse, .bool Sk.off]) Sk) => remove_ref h (by have := HKK.out.len; omega) HKK.out.srt HKK.out.fz nm hnm2)
              rw [← hU, ← hF] at HRV
              have HUF := Lib.hid (show rmL fr S nms = if F = 0 then rmL fr U (nms.drop (k + 1)) else (U, F) by rw [HRM.out, HDR.out, HRS2.out, hU, hF])
              have HKU := Lib.hid (show OkS bb nb U by rw [hU]; exact HKK.out.remove)
              have HUO := Lib.hid (show F = 0 → U.files = delL nm Sk.files ∧ U.off = false by rw [hU, hF]; exact remove_ok hnm3)
              have hbB := HBN.out
              have SS := And.intro hbB.c0 (And.intro hbB.c1 (And.intro hbB.c2 hcn))
              have HQR := Lib.hid (fun W' (h : Below wn.heap.size wn W') => HQN.out.old h)
              have hB0 : w.heap.size < wn.heap.size := hbB.lt
              have hB1' : b < wn.heap.size := by omega
              clear hU hF hnm2 hnm3
              go_upto_region 13 with fail
              go_cut [11, 12] (fun s11 s12 wx => ∃ g a5 c5, s11 = .pointer (some ⟨g, 0, none⟩) ∧ s12 = .int .i64 F ∧ Bx wx g a5 U.files.length c5 U.fuse U.off ∧ RefD wx (.agg #[.slice a5 U.files.length c5, .int .i64 U.fuse, .bool U.off]) U ∧ wn.heap.size ≤ g ∧ Below wn.heap.size wn wx)
              case first =>
                go_region_held3 (fun w' => w'.cell? ⟨w.heap.size, 0, none⟩ = some (.slice ak Sk.files.length ck) ∧ w'.cell? ⟨w.heap.size, 1, none⟩ = some (.int .i64 Sk.fuse) ∧ w'.cell? ⟨w.heap.size, 2, none⟩ = some (.bool Sk.off) ∧ w'.cell? ⟨b, off + k, none⟩ = some (.string ⟨nm.toArray⟩))
                  (first
                    | assumption
                    | (refine keep_ds (base := wn.heap.size) SS (by omega) (by omega) ?_
                       repeat (first | assumption | exact Below.refl _ _ | (refine Below.alloc ?_ ?_ _) | (refine Below.setCell ?_ ?_ _) | (refine Below.drew ?_))
                       all_goals (first | omega | (simp; done) | (simp; omega))))
                  (first
                    | (go_at_call 40; (with_reducible refine (HRV.out _ (HQR.out _ ((Below.refl _ _).alloc (Nat.le_refl _) _))).mono ?_); rintro e w5 ⟨q5, rfl, hq5, b5⟩; have hq : Bx w5 _ none 0 0 0 false ∧ Below _ _ w5 := (by with_reducible exact new_after b5); obtain ⟨hbx5, hyy⟩ := hq; have z5 : Below wn.heap.size wn w5 := (by first | (with_reducible exact hyy) | (with_reducible exact bt ((Below.refl _ _).drew) hyy)); have hz5 := z5.size; have hqq := Lib.hid hq5; obtain ⟨a5, c5, rfl, r5, g5, g6⟩ := hq5; clear b5 hyy; have K5 := Lib.hid hbx5; obtain ⟨y0, y1, y2, x0, x1, x2, -⟩ := hbx5)
                    | (go_at_call 40; (with_reducible refine (HRV.out _ (HQR.out _ ((Below.refl _ _).alloc (Nat.le_refl _) _).drew)).mono ?_); rintro e w5 ⟨q5, rfl, hq5, b5⟩; have hq : Bx w5 _ none 0 0 0 false ∧ Below _ _ w5 := (by with_reducible exact new_afterd b5); obtain ⟨hbx5, hyy⟩ := hq; have z5 : Below wn.heap.size wn w5 := (by first | (with_reducible exact hyy) | (with_reducible exact bt ((Below.refl _ _).drew) hyy)); have hz5 := z5.size; have hqq := Lib.hid hq5; obtain ⟨a5, c5, rfl, r5, g5, g6⟩ := hq5; clear b5 hyy; have K5 := Lib.hid hbx5; obtain ⟨y0, y1, y2, x0, x1, x2, -⟩ := hbx5)
                    | (go_at_call 40; (with_reducible refine (HRV.out _ (HQR.out _ (((Below.refl _ _).drew).alloc (Nat.le_refl _) _))).mono ?_); rintro e w5 ⟨q5, rfl, hq5, b5⟩; have hq : Bx w5 _ none 0 0 0 false ∧ Below _ _ w5 := (by with_reducible exact new_after b5); obtain ⟨hbx5, hyy⟩ := hq; have z5 : Below wn.heap.size wn w5 := (by first | (with_reducible exact hyy) | (with_reducible exact bt ((Below.refl _ _).drew) hyy)); have hz5 := z5.size; have hqq := Lib.hid hq5; obtain ⟨a5, c5, rfl, r5, g5, g6⟩ := hq5; clear b5 hyy; have K5 := Lib.hid hbx5; obtain ⟨y0, y1, y2, x0, x1, x2, -⟩ := hbx5)
                    | (go_at_call 40; (with_reducible refine (HRV.out _ (HQR.out _ (Below.refl _ _))).mono ?_); rintro e w5 ⟨q5, rfl, hq5, b5⟩; have z5 : Below wn.heap.size wn w5 := (by first | (with_reducible exact b5) | (with_reducible exact bt ((Below.refl _ _).drew) b5)); have hz5 := z5.size; have hqq := Lib.hid hq5; obtain ⟨a5, c5, rfl, r5, g5, g6⟩ := hq5; clear b5)
                    | (go_at_call 40; (with_reducible refine (HRV.out _ (HQR.out _ ((Below.refl _ _).drew))).mono ?_); rintro e w5 ⟨q5, rfl, hq5, b5⟩; have z5 : Below wn.heap.size wn w5 := (by first | (with_reducible exact b5) | (with_reducible exact bt ((Below.refl _ _).drew) b5)); have hz5 := z5.size; have hqq := Lib.hid hq5; obtain ⟨a5, c5, rfl, r5, g5, g6⟩ := hq5; clear b5))
                all_goals
                  go_wp2_with fail
                  go_meet
                  first
                    | exact ⟨_, a5, c5, rfl, rfl, Bx.new .., hqq.out.old ((Below.refl _ _).alloc (Nat.le_refl _) _), hz5, z5.alloc hz5 _⟩
                    | exact ⟨_, a5, c5, rfl, rfl, K5.out.put .., RefD.put K5.out hqq.out .., Nat.le_refl _, put3_below z5 (Nat.le_refl _) ..⟩
              case rest =>
                obtain ⟨g, a5, c5, rfl, rfl, kg, hq5, hg, bc⟩ := hcut
                have hbc := HBN.out.old bc
                have hlc := HLXN.out.old bc
                have HNSC := Lib.hid (HNSN.out.old HLXN.out.lt bc)
                have OC1 := Lib.hid (below_own ON1.out bc)
                have OC2 := Lib.hid (below_own ON2.out bc)
                have KPC := Lib.hid (KPN.out.trans (Keeps.of_below bc (fun b (hb : b < W1.heap.size ∧ b ≠ w.heap.size ∧ b ≠ W.heap.size) => by omega)))
                have HBC := Lib.hid hbc
                have HLC := Lib.hid hlc
                have HQ5 := Lib.hid hq5
                have hcs := bc.size
                clear bc hq5 hlc
                obtain ⟨n0, n1', n2', z0, z1, z2, -⟩ := kg
                obtain ⟨p0, p1, p2, s0, s1, s2, -⟩ := hbc
                go_upto_if 64 with fail
                have kb := HBC.out.put a5 U.files.length c5 U.fuse U.off
                have qb := RefD.put HBC.out HQ5.out a5 U.files.length c5 U.fuse U.off
                have lb := HLC.out.other (show W.heap.size ≠ w.heap.size by omega) a5 U.files.length c5 U.fuse U.off
                have nsb := HNSC.out.put3 (show W.heap.size ≠ w.heap.size by omega) a5 U.files.length c5 U.fuse U.off
                have ob1 := own_put3 OC1.out hB1 a5 U.files.length c5 U.fuse U.off
                have ob2 := own_put3 OC2.out hB1 a5 U.files.length c5 U.fuse U.off
                have kpb : Keeps (fun b => b < W1.heap.size ∧ b ≠ w.heap.size ∧ b ≠ W.heap.size) W1 (put3 wc w.heap.size a5 U.files.length c5 U.fuse U.off) := ((KPC.out.trans (Keeps.setCell _ _ fun b hb => hb.2.1)).trans (Keeps.setCell _ _ fun b hb => hb.2.1)).trans (Keeps.setCell _ _ fun b hb => hb.2.1)
                show Code.wp _ _ _ _ (put3 wc w.heap.size a5 U.files.length c5 U.fuse U.off)
                generalize put3 wc w.heap.size a5 U.files.length c5 U.fuse U.off = Wd at kb qb lb nsb ob1 ob2 kpb ⊢
                have HBD := Lib.hid kb
                have HQD := Lib.hid qb
                have HLDD := Lib.hid lb
                have HNSD := Lib.hid nsb
                have OD1 := Lib.hid ob1
                have OD2 := Lib.hid ob2
                have KPD := Lib.hid kpb
                clear n0 n1' n2' z0 z1 z2 p0 p1 p2 s0 s1 s2 qb lb nsb ob1 ob2
                by_cases hF0 : F = 0
                · subst hF0
                  have HUF0 := Lib.hid (show rmL fr S nms = rmL fr U (nms.drop (k + 1)) by rw [HUF.out]; rfl)
                  have hu := HUO.out rfl
                  have HUOF := Lib.hid hu.2
                  have HRS3 := Lib.hid (show Rest S U (k + 1) from HRST.out.del HK.out.srt HKK.out.srt hkf (by rw [← HNK.out]; exact hu.1))
                  clear kb kpb hu
                  go_wp2_with fail
                  go_roundw
                  case rel => exact ⟨k + 1, U, a5, c5, m, r1, e1, r2, e2, by go_num, hlt, by omega, HUF0, HKU, HUOF, HRS3, HBD.out, HQD.out, by rw [HLD.out]; exact HLDD.out, HNSD.out, by rw [HLD.out]; exact OD1.out, by rw [HLD.out]; exact OD2.out, KPD.out⟩
                  case measure => simp [intOf]; omega
                · have HF0 := Lib.hid hF0
                  have HUF1 := Lib.hid (show (S.opens fr).1 = U ∧ (S.opens fr).2.1 = F by
                    have e1 : S.rm (fr : Int) = (U, F) := by rw [HRMS.out, HUF.out, if_neg hF0]
                    rw [opens_rm HMAY.out (by rw [e1]; exact hF0), e1]
                    exact ⟨rfl, rfl⟩)
                  have HRD := HR1.out.keeps kpb HR1C.out HR2C.out
                  have HRDD := Lib.hid HRD
                  have BBD := Lib.hid (BB1.out.trans (kpb.below fun b hb => (⟨by omega, by omega, by omega⟩ : b < W1.heap.size ∧ b ≠ w.heap.size ∧ b ≠ W.heap.size)))
                  obtain ⟨n0, n1', n2', z0, z1, z2, -⟩ := kb
                  obtain ⟨⟨p0, p1, p2, s0, s1, s2, -⟩, ⟨t0, t1, t2, v0, v1, v2⟩, -, -⟩ := HRD
                  clear kpb
                  go_wp2_with fail
                  clear n0 n1' n2' z0 z1 z2 p0 p1 p2 s0 s1 s2 t0 t1 t2 v0 v1 v2
                  have kf := ((HRDD.out).fin (HQD.out) (BBD.out) (by omega) (by omega) none (0) 0 none (0) 0 (0)).1
                  show bodyPost _ _ _ _ _ (putg (put3 Wd (w.heap.size + 1) a5 (U.files.length) c5 (U.fuse) U.off) (w.heap.size + 2) none (0) 0 none (0) 0 (0))
                  generalize (putg (put3 Wd (w.heap.size + 1) a5 (U.files.length) c5 (U.fuse) U.off) (w.heap.size + 2) none (0) 0 none (0) 0 (0)) = WF at kf ⊢
                  obtain ⟨k0, k1, k2, k3, k4, k5, kq, kb⟩ := kf
                  refine bodyPost_ret (v := .tuple #[.agg #[.slice a5 (U.files.length) c5, .int .i64 (U.fuse), .bool U.off], .agg #[.slice none (0) 0, .slice none (0) 0, .int .i64 (0)], .int .i64 F]) (by simp [results, Tryz.f16, go_sem, k0, k1, k2, k3, k4, k5]) rfl ?_
                  exact openE_no HUF1.out HF0.out kq kb
            · have HPH := Lib.hid (load_yes (fr := fr) hkf (part_high (by rw [← HNK.out]; exact hnum) (by omega)))
              have HSK := Lib.hid (show rmL fr S nms = rmL fr Sk (nms.drop (k + 1)) by rw [HRM.out, HDR.out]; exact rmL_skip (fun m' hm' => by rw [hnum] at hm'; cases hm'; exact hmb))
              have hnm2 : nm.length ≤ maxLen := by rw [numb_name hnum, lname_length]; decide
              have hnm3 : namL nm = true := by rw [numb_name hnum]; exact lname_ok _
              have hlk := HRST.out.read hkf HOK.out (by rw [← HNK.out]; exact hnm3)
              have hfb := (HK.out.fb S.files[k] (List.getElem_mem hkf)).2
              obtain ⟨f, hf⟩ : ∃ f, f = S.files[k].2 := ⟨_, rfl⟩
              rw [← hf] at HPH hlk hfb
              rw [← HNK.out] at hlk
              have HRV := Lib.hid (fun (W : World) (h : RefD W (.agg #[.slice ak Sk.files.length ck, .int .i64 Sk.fuse, .bool Sk.off]) Sk) => read_ref h (by have := HKK.out.len; omega) nm hnm2)
              rw [hlk.1, hlk.2.1, hlk.2.2] at HRV
              have HAL := Lib.hid (all_ref_own ⟨f.bytes.toArray⟩ · (by rw [size_mkl]; omega))
              simp only at HAL
              have htb := fa_le f.bytes
              obtain ⟨T, hT⟩ : ∃ T, T = (fa f.bytes).1 := ⟨_, rfl⟩
              obtain ⟨fx, hfx⟩ : ∃ fx, fx = (fa f.bytes).2 := ⟨_, rfl⟩
              rw [← hT] at HPH HAL htb
              rw [← hfx] at HAL
              obtain ⟨tn, htn⟩ : ∃ tn, tn = T.length := ⟨_, rfl⟩
              rw [← htn] at HAL htb
              have HTN := Lib.hid htn
              have htb2 : tn ≤ 262144 := by omega
              obtain ⟨fl, hfl⟩ : ∃ fl, fl = flat (loadL fr (S.files.take k)) := ⟨_, rfl⟩
              obtain ⟨ol, hol⟩ : ∃ ol, ol = ofs (loadL fr (S.files.take k)) := ⟨_, rfl⟩
              have HF1 := Lib.hid (show flat (loadL fr (S.files.take (k + 1))) = fl ++ T by rw [HPH.out, flat_append, flat_one, hfl])
              have HF2 := Lib.hid (show ofs (loadL fr (S.files.take (k + 1))) = ol ++ List.replicate tn mm by rw [HPH.out, ofs_append, ofs_one, hol, htn])
              have HF3 := Lib.hid (show lastN fr (loadL fr (S.files.take (k + 1))) = mm + 1 by rw [HPH.out, lastN_add])
              rw [← hfl] at ON1
              rw [← hol] at ON2
              have hbB := HBN.out
              obtain ⟨n0, n1', n2', z0, z1, z2⟩ := HLXN.out
              clear hnm2 hnm3 hlk hfb hf hT hfx htn hfl hol htb
              go_upto_region 18 with fail
              have kb := hbB.setc (show w.heap.size ≠ W.heap.size by omega) 2 (.int .i64 ((mm : Int) + 1))
              have lb := HLXN.out.set2 ((mm : Int) + 1)
              have nsb := HNSN.out.set 2 (.int .i64 ((mm : Int) + 1)) (by rw [n2']; rfl) (fun s h => by cases h)
              have qb := HQN.out.setc HNSN.out 2 (.int .i64 ((mm : Int) + 1))
              have ob1 := own_setc ON1.out hN1 2 (.int .i64 ((mm : Int) + 1))
              have ob2 := own_setc ON2.out hN1 2 (.int .i64 ((mm : Int) + 1))
              have kpb := KPN.out.trans (Keeps.setCell ⟨W.heap.size, 2, none⟩ (.int .i64 ((mm : Int) + 1)) fun b (hb : b < W1.heap.size ∧ b ≠ w.heap.size ∧ b ≠ W.heap.size) => hb.2.2)
              have cb : (wn.setCell ⟨W.heap.size, 2, none⟩ (.int .i64 ((mm : Int) + 1))).cell? ⟨b, off + k, none⟩ = some (.string ⟨nm.toArray⟩) := by rw [World.cell?_setCell_other _ _ _ _ (by intro e; simp at e <;> omega)]; exact hcn
              have hsz2 : (wn.setCell ⟨W.heap.size, 2, none⟩ (.int .i64 ((mm : Int) + 1))).heap.size = wn.heap.size := by simp [World.setCell]
              have hb1n : b < wn.heap.size := by omega
              clear n0 n1' n2' z0 z1 z2 hbB
              generalize wn.setCell ⟨W.heap.size, 2, none⟩ (.int .i64 ((mm : Int) + 1)) = W2 at kb lb nsb qb ob1 ob2 kpb cb hsz2 ⊢
              have SS := And.intro kb.c0 (And.intro kb.c1 (And.intro kb.c2 cb))
              have hB2 := kb.lt
              have hB3 : b < W2.heap.size := by omega
              have KB2 := Lib.hid kb
              have LX2 := Lib.hid lb
              have NS2 := Lib.hid nsb
              have HQ2 := Lib.hid qb
              have OB1 := Lib.hid ob1
              have OB2 := Lib.hid ob2
              have KP2 := Lib.hid kpb
              have hN2 := lb.lt
              have HQR := Lib.hid (fun W' (h : Below W2.heap.size W2 W') => HQ2.out.old h)
              have hW2 : W1.heap.size ≤ W2.heap.size := by omega
              clear kb lb nsb qb ob1 ob2 kpb cb hsz2
              go_region_held3 (fun w' => w'.cell? ⟨w.heap.size, 0, none⟩ = some (.slice ak Sk.files.length ck) ∧ w'.cell? ⟨w.heap.size, 1, none⟩ = some (.int .i64 Sk.fuse) ∧ w'.cell? ⟨w.heap.size, 2, none⟩ = some (.bool Sk.off) ∧ w'.cell? ⟨b, off + k, none⟩ = some (.string ⟨nm.toArray⟩))
                (first
                  | assumption
                  | (refine keep_ds (base := W2.heap.size) SS (by omega) (by omega) ?_
                     repeat (first | assumption | exact Below.refl _ _ | (refine Below.drew ?_))))
                (first
                  | (go_at_call 30; (with_reducible refine (HRV.out _ (HQR.out _ (Below.refl _ _))).mono ?_); rintro e w5 ⟨rfl, b5⟩; have z5 : Below W2.heap.size W2 w5 := b5; clear b5)
                  | (go_at_call 30; (with_reducible refine (HRV.out _ (HQR.out _ ((Below.refl _ _).drew))).mono ?_); rintro e w5 ⟨rfl, b5⟩; have z5 : Below W2.heap.size W2 w5 := bt ((Below.refl _ _).drew) b5; clear b5))
              go_wp2_with fail
              go_at_call 41
              refine (HAL.out _).mono ?_
              rintro e w6 ⟨ta, tc, rfl, ownT, b6⟩
              have z6 := bt z5 b6
              have HBx := Lib.hid (KB2.out.old z6)
              have HQx := Lib.hid (HQ2.out.old z6)
              have lx6 := LX2.out.old z6
              have HNSx := Lib.hid (NS2.out.old hN2 z6)
              have o51 := below_own OB1.out z5
              have o52 := below_own OB2.out z5
              have Ox1 := Lib.hid (below_own o51 b6)
              have Ox2 := Lib.hid (below_own o52 b6)
              have KPx := Lib.hid (KP2.out.trans (Keeps.of_below z6 (fun b (hb : b < W1.heap.size ∧ b ≠ w.heap.size ∧ b ≠ W.heap.size) => by omega)))
              have OT := Lib.hid ownT
              have HAP := Lib.hid (show ∀ r, (Value.slice ta tn tc).ownBlock = some r → (Value.slice r1 m e1).ownBlock ≠ some r ∧ (Value.slice r2 m e2).ownBlock ≠ some r from fun r hr => by
                have h5 := (ownT.lt r hr).1
                exact ⟨fun e0 => by have := (o51.lt r e0).2; omega, fun e0 => by have := (o52.lt r e0).2; omega⟩)
              have hs6 : W1.heap.size ≤ w6.heap.size := by have := z6.size; omega
              have hs5 : W1.heap.size ≤ w5.heap.size := by have := z5.size; omega
              have LX6 := Lib.hid lx6
              clear z5 z6 o51 o52 ownT b6 hcn lx6
              go_wp2_with fail
              go_loopw [18] (fun i wq => ∃ (j : Nat) (r3 : Option Addr) (e3 : Nat) (r4 : Option Addr) (e4 : Nat), i = .int .i64 j ∧ j ≤ tn ∧ Lx wq W.heap.size r3 (m + j) e3 r4 (m + j) e4 ((mm : Int) + 1) ∧ NoStr wq W.heap.size ∧ wq.ownsRow W1.heap.size 9 1 (.slice r3 (m + j) e3) (m + j) (sv (fl ++ T.take j)) ∧ wq.ownsRow W1.heap.size 3 1 (.slice r4 (m + j) e4) (m + j) (nv (ol ++ List.replicate j mm)) ∧ Hid (∀ r, (Value.slice r3 (m + j) e3).ownBlock = some r → (Value.slice r1 m e1).ownBlock = some r ∨ w6.heap.size ≤ r) ∧ Hid (∀ r, (Value.slice r4 (m + j) e4).ownBlock = some r → (Value.slice r2 m e2).ownBlock = some r ∨ w6.heap.size ≤ r) ∧ Keeps (fun b => b < w6.heap.size ∧ b ≠ W.heap.size ∧ (Value.slice r1 m e1).ownBlock ≠ some b ∧ (Value.slice r2 m e2).ownBlock ≠ some b) w6 wq) (fun i _ => tn - (intOf i).toNat)
              case atStart => exact ⟨0, r1, e1, r2, e2, rfl, Nat.zero_le _, LX6.out, HNSx.out, by rw [List.take_zero, List.append_nil]; exact Ox1.out, by rw [List.replicate_zero, List.append_nil]; exact Ox2.out, Lib.hid fun r h => .inl h, Lib.hid fun r h => .inl h, Keeps.refl _ _⟩
              case round =>
                obtain ⟨j, r3, e3, r4, e4, rfl, hj, hlx, hns, own1, own2, HA1, HA2, kp⟩ := hrel
                have HLX3 := Lib.hid hlx
                have HNS3 := Lib.hid hns
                have P1 := Lib.hid own1
                have P2 := Lib.hid own2
                have KP3 := Lib.hid kp
                have hws3 := kp.size
                clear own1 own2 kp hns
                by_cases hjt : j < tn
                · have hjl : j < T.length := by rw [← HTN.out]; exact hjt
                  have hjc : (j : Int) < tn := by omega
                  have HTJ := Lib.hid (show fl ++ T.take (j + 1) = (fl ++ T.take j) ++ [T[j]] by rw [List.take_succ_eq_append_getElem hjl, List.append_assoc])
                  have HOJ := Lib.hid (show ol ++ List.replicate (j + 1) mm = (ol ++ List.replicate j mm) ++ [mm] by rw [List.replicate_succ', List.append_assoc])
                  have htq := own_same OT.out (fun r hr => KP3.out.block r ⟨(OT.out.lt r hr).2, by have := (OT.out.lt r hr).1; omega, (HAP.out r hr).1, (HAP.out r hr).2⟩)
                  have hrd : Rd wr ta T := own_rd (by rw [← HTN.out]; exact htq)
                  have hct : ∃ b3 f3, ta = some ⟨b3, f3, none⟩ ∧ b3 < w6.heap.size ∧ b3 ≠ W.heap.size ∧ wr.cell? ⟨b3, f3 + j, none⟩ = some (.string ⟨T[j].toArray⟩) := by
                    rcases htq.2 with ⟨hv, h0⟩ | ⟨g3, c3, cur3, hv, hbg, hh, _⟩
                    · exact absurd h0 (by omega)
                    · cases hv
                      rcases hrd with h | ⟨b3, f3, h, hb, hc⟩
                      · rw [h] at hjl; exact absurd hjl (Nat.not_lt_zero _)
                      · cases h
                        have hl3 := OT.out.lt g3 rfl
                        exact ⟨g3, 0, rfl, hl3.2, by omega, hc j hjl⟩
                  obtain ⟨b3, f3, rfl, hb3, hbn3, ht0⟩ := hct
                  obtain ⟨t, ht⟩ : ∃ t, t = T[j] := ⟨_, rfl⟩
                  rw [← ht] at ht0 HTJ
                  obtain ⟨n0, n1', n2', z0, z1, z2⟩ := hlx
                  clear ht htq hrd
                  go_wp2_with fail
                  have bd : Below wr.heap.size wr wr.drew := (Below.refl _ _).drew
                  have hNr : W.heap.size < wr.heap.size := HLX3.out.lt
                  have hb3r : b3 < wr.heap.size := by omega
                  clear z0 z1 z2 n1' n2'
                  refine mixed_region (D := (fun w' => w'.cell? ⟨W.heap.size, 0, none⟩ = some (.slice r3 (m + j) e3) ∧ w'.cell? ⟨b3, f3 + j, none⟩ = some (.string ⟨t.toArray⟩))) [0, 1, 2, 3, 4, 5] [6, 7, 8, 9] 9 (by kernel_rfl) (by kernel_rfl) (by decide) (⟨n0, ht0⟩) ?_
                  simp only [List.filterMap_cons, List.filterMap_nil, List.getElem?_cons_zero, List.getElem?_cons_succ]
                  repeat (
                    (first
                     | (refine calm_move _ rfl ?_)
                     | (apply calm_cons
                        · (intro w' hw'
                           first | (obtain ⟨hwa', hwb', hwc'⟩ := hw') | (obtain ⟨hwa', hwb'⟩ := hw') | skip
                           go_simp
                           first
                           | done
                           | exact rfl)))
                    simp only [Act.put, Act.eval, List.setIfInBounds_toArray, List.set_cons_zero, List.set_cons_succ, Array.getD_eq_getD_getElem?, List.getElem?_toArray, List.getElem?_cons_zero, List.getElem?_cons_succ, Option.getD_some])
                  refine calm_nil ?_
                  refine loud_cons fun K hK => ?_
                  go_wp2_with fail
                  have hal : Below wr.heap.size wr (wr.drew.alloc (.cells #[.string ⟨t.toArray⟩] 9)) := bd.alloc (Nat.le_refl _) _
                  have q0 := (hal.cell (p := ⟨W.heap.size, 0, none⟩) hNr).trans n0
                  have q1 := (hal.cell (p := ⟨b3, f3 + j, none⟩) hb3r).trans ht0
                  refine hK _ _ (fun _ => ⟨q0, q1⟩) ?_
                  clear hK K
                  refine loud_cons fun K hK => ?_
                  have o1 := below_own P1.out bd
                  have o2 := (below_own P2.out bd).alloc (.cells #[.string ⟨t.toArray⟩] 9)
                  refine wpList_append_lies _ rfl (.tmp 93) (.tmp 98) 31 rfl W1.heap.size 9 i0 (.string ⟨#[]⟩) 1 16 Tryz.underlying31 hi hz0 hz1 hz2 rfl (by decide) (.slice r3 (m + j) e3) (m + j) _ rfl (o1.alloc _) ⟨wr.heap.size, 0, none⟩ 1 1 [.string ⟨t.toArray⟩] rfl rfl ?u1 ?u2 (by decide) ?u3 ?u4 ?u5 _ rfl ?_
                  case u1 => exact cell_new1 _ _ _
                  case u2 => intro u hu; simp at hu; subst hu; rfl
                  case u3 => unfold maxLen; omega
                  case u4 => omega
                  case u5 => simp [go_sem]; omega
                  intro g cap w7 own7 hgrow hrl hrlt
                  rw [sv_snoc, ← HTJ.out] at own7
                  have hg : (wr.drew.alloc (.cells #[.string ⟨t.toArray⟩] 9)).grownBy w7 (Value.slice r3 (m + j) e3).ownBlock := hgrow
                  have bw : Below W1.heap.size wr w7 := (hal.mono (by omega)).grown hg (by have := hal.size; omega) (fun k hk => (P1.out.lt k hk).1)
                  have ok := o2.kept hg (by
                    cases h : (Value.slice r4 (m + j) e4).ownBlock with
                    | none => exact .inl rfl
                    | some r0 => exact .inr (fun e0 => rows_apart o2 (o1.alloc _) (by decide) r0 h e0.symm))
                  have kp7 : Keeps (fun b => b < w6.heap.size ∧ b ≠ W.heap.size ∧ (Value.slice r1 m e1).ownBlock ≠ some b ∧ (Value.slice r2 m e2).ownBlock ≠ some b) w6 w7 := (KP3.out.trans (Keeps.of_below hal (fun b (hb : b < w6.heap.size ∧ b ≠ W.heap.size ∧ (Value.slice r1 m e1).ownBlock ≠ some b ∧ (Value.slice r2 m e2).ownBlock ≠ some b) => by omega))).trans (Keeps.of_grown hg (fun b (hb : b < w6.heap.size ∧ b ≠ W.heap.size ∧ (Value.slice r1 m e1).ownBlock ≠ some b ∧ (Value.slice r2 m e2).ownBlock ≠ some b) => ⟨by have := hal.size; omega, fun e0 => by
                    rcases HA1.out b e0.symm with h | h
                    · exact hb.2.2.1 h
                    · omega⟩))
                  have hH : (wr.drew.alloc (.cells #[.string ⟨t.toArray⟩] 9)).heap.size ≥ w6.heap.size := by have := hal.size; omega
                  have HA1' := Lib.hid (show ∀ r, (Value.slice (some ⟨g, 0, none⟩) (m + (j + 1)) cap).ownBlock = some r → (Value.slice r1 m e1).ownBlock = some r ∨ w6.heap.size ≤ r from fun r e0 => by
                    obtain rfl : g = r := by cases e0; rfl
                    rcases hrl with h | h
                    · exact HA1.out _ h
                    · exact .inr (by rw [h]; exact hH))
                  have x0 := (bw.cell (p := ⟨W.heap.size, 0, none⟩) hN1).trans n0
                  have x1 := (kp7.cell b3 (f3 + j)) 
                  have xf := (bw.frozen (p := ⟨W.heap.size, 0, none⟩) hN1).trans HLX3.out.f0
                  have hd7 : w7.cell? ⟨b3, f3 + j, none⟩ = some (.string ⟨t.toArray⟩) := by
                    have hbb3 : b3 < (wr.drew.alloc (.cells #[.string ⟨t.toArray⟩] 9)).heap.size := by have := hal.size; omega
                    have := hg.block b3 hbb3 (fun e0 => by
                      rcases HA1.out b3 e0.symm with h | h
                      · exact (HAP.out b3 rfl).1 h
                      · omega)
                    exact (World.cell?_of_block (a := ⟨b3, f3 + j, none⟩) this).trans q1
                  refine hK _ _ (fun _ => ⟨x0, hd7⟩) ?_
                  clear hK K q0 q1 x1
                  refine loud_cons fun K hK => ?_
                  go_wp2
                  refine hK _ _ (fun _ => ⟨x0, hd7⟩) ?_
                  clear hK K
                  refine loud_cons fun K hK => ?_
                  go_wp2
                  refine hK _ _ (fun h => absurd rfl h) ?_
                  clear hK K
                  refine loud_nil ?_
                  have lx := (HLX3.out.olds hN1 bw).set0 (some ⟨g, 0, none⟩) (m + j + 1) cap
                  have ns := (HNS3.out.olds hN1 bw).set 0 (.slice (some ⟨g, 0, none⟩) (m + j + 1) cap) (by rw [x0]; rfl) (fun s h => by cases h)
                  have oa := own_setc own7 hN1 0 (.slice (some ⟨g, 0, none⟩) (m + j + 1) cap)
                  have ob := own_setc ok hN1 0 (.slice (some ⟨g, 0, none⟩) (m + j + 1) cap)
                  have kp8 := kp7.trans (Keeps.setCell ⟨W.heap.size, 0, none⟩ (.slice (some ⟨g, 0, none⟩) (m + j + 1) cap) fun b (hb : b < w6.heap.size ∧ b ≠ W.heap.size ∧ (Value.slice r1 m e1).ownBlock ≠ some b ∧ (Value.slice r2 m e2).ownBlock ≠ some b) => hb.2.1)
                  generalize w7.setCell ⟨W.heap.size, 0, none⟩ (.slice (some ⟨g, 0, none⟩) (m + j + 1) cap) = W8 at lx ns oa ob kp8 ⊢
                  have LX8 := Lib.hid lx
                  have NS8 := Lib.hid ns
                  have OA8 := Lib.hid oa
                  have OB8 := Lib.hid ob
                  have KP8 := Lib.hid kp8
                  have hw8 := kp8.size
                  clear own7 hgrow hg ok ns oa ob kp8 kp7 bw x0 xf hd7 o1 o2 hal bd hrl hH n0 ht0
                  obtain ⟨n0, n1', n2', z0, z1, z2⟩ := lx
                  go_wp2_with (at_builtin; generalize hG : wpList _ _ _ _ _ _ = G)
                  rw [← hG]
                  clear hG
                  refine wpList_append_lies _ rfl (.tmp 102) (.tmp 104) 32 rfl W1.heap.size 3 j0 (.int .i64 0) 1 8 Tryz.underlying32 ji jz0 jz1 jz2 rfl (by decide) (.slice r4 (m + j) e4) (m + j) _ rfl (OB8.out.alloc _) ⟨W8.heap.size, 0, none⟩ 1 1 [.int .i64 (mm : Int)] rfl rfl ?y1 ?y2 (by decide) ?y3 ?y4 ?y5 _ rfl ?_
                  case y1 => exact cell_new1 _ _ _
                  case y2 => intro u hu; simp at hu; subst hu; rfl
                  case y3 => unfold maxLen; omega
                  case y4 => omega
                  case y5 => simp; omega
                  intro g2 cap2 w9 own9 hgrow2 hrl2 hrlt2
                  rw [nv_snoc, ← HOJ.out] at own9
                  have hal2 : Below W8.heap.size W8 (W8.alloc (.cells #[.int .i64 (mm : Int)] 3)) := (Below.refl _ _).alloc (Nat.le_refl _) _
                  have hg2 : (W8.alloc (.cells #[.int .i64 (mm : Int)] 3)).grownBy w9 (Value.slice r4 (m + j) e4).ownBlock := hgrow2
                  have bw2 : Below W1.heap.size W8 w9 := (hal2.mono (by omega)).grown hg2 (by have := hal2.size; omega) (fun k hk => (OB8.out.lt k hk).1)
                  have ok2 := (OA8.out.alloc (.cells #[.int .i64 (mm : Int)] 3)).kept hg2 (.inr (fun e0 => rows_apart (OA8.out.alloc (.cells #[.int .i64 (mm : Int)] 3)) (OB8.out.alloc (.cells #[.int .i64 (mm : Int)] 3)) (by decide) g rfl e0.symm))
                  have kp9 : Keeps (fun b => b < w6.heap.size ∧ b ≠ W.heap.size ∧ (Value.slice r1 m e1).ownBlock ≠ some b ∧ (Value.slice r2 m e2).ownBlock ≠ some b) w6 w9 := (KP8.out.trans (Keeps.of_below hal2 (fun b (hb : b < w6.heap.size ∧ b ≠ W.heap.size ∧ (Value.slice r1 m e1).ownBlock ≠ some b ∧ (Value.slice r2 m e2).ownBlock ≠ some b) => by omega))).trans (Keeps.of_grown hg2 (fun b (hb : b < w6.heap.size ∧ b ≠ W.heap.size ∧ (Value.slice r1 m e1).ownBlock ≠ some b ∧ (Value.slice r2 m e2).ownBlock ≠ some b) => ⟨by have := hal2.size; omega, fun e0 => by
                    rcases HA2.out b e0.symm with h | h
                    · exact hb.2.2.2 h
                    · omega⟩))
                  have hH2 : (W8.alloc (.cells #[.int .i64 (mm : Int)] 3)).heap.size ≥ w6.heap.size := by have := hal2.size; omega
                  have HA2' := Lib.hid (show ∀ r, (Value.slice (some ⟨g2, 0, none⟩) (m + (j + 1)) cap2).ownBlock = some r → (Value.slice r2 m e2).ownBlock = some r ∨ w6.heap.size ≤ r from fun r e0 => by
                    obtain rfl : g2 = r := by cases e0; rfl
                    rcases hrl2 with h | h
                    · exact HA2.out _ h
                    · exact .inr (by rw [h]; exact hH2))
                  have y1 := (bw2.cell (p := ⟨W.heap.size, 1, none⟩) hN1).trans n1'
                  have yf := (bw2.frozen (p := ⟨W.heap.size, 1, none⟩) hN1).trans z1
                  have lx9 := (LX8.out.olds hN1 bw2).set1 (some ⟨g2, 0, none⟩) (m + j + 1) cap2
                  have ns9 := (NS8.out.olds hN1 bw2).set 1 (.slice (some ⟨g2, 0, none⟩) (m + j + 1) cap2) (by rw [y1]; rfl) (fun s h => by cases h)
                  have oa9 := own_setc ok2 hN1 1 (.slice (some ⟨g2, 0, none⟩) (m + j + 1) cap2)
                  have ob9 := own_setc own9 hN1 1 (.slice (some ⟨g2, 0, none⟩) (m + j + 1) cap2)
                  have kp10 := kp9.trans (Keeps.setCell ⟨W.heap.size, 1, none⟩ (.slice (some ⟨g2, 0, none⟩) (m + j + 1) cap2) fun b (hb : b < w6.heap.size ∧ b ≠ W.heap.size ∧ (Value.slice r1 m e1).ownBlock ≠ some b ∧ (Value.slice r2 m e2).ownBlock ≠ some b) => hb.2.1)
                  have LX9 := Lib.hid lx9
                  have NS9 := Lib.hid ns9
                  have OA9 := Lib.hid oa9
                  have OB9 := Lib.hid ob9
                  have KP9 := Lib.hid kp10
                  clear own9 hgrow2 hg2 ok2 ns9 oa9 ob9 kp10 kp9 bw2 hal2 hrl2 hH2 n0 n1' n2' z0 z1 z2 lx9
                  go_wp2_with fail
                  go_roundw
                  case rel => exact ⟨j + 1, _, _, _, _, by go_num, hjt, LX9.out, NS9.out, OA9.out, OB9.out, HA1', HA2', KP9.out⟩
                  case measure => simp [intOf]; omega
                · obtain rfl : j = tn := by omega
                  have hj2 : ¬ (j : Int) < j := by omega
                  have HTT := Lib.hid (show T.take j = T from List.take_of_length_le (by rw [HTN.out]; exact Nat.le_refl _))
                  have HQE := Lib.hid (refD_keeps HQx.out HNSx.out KP3.out (fun b h1 h2 h3 => ⟨h1, h2, row_no Ox1.out (by decide) h3, row_no Ox2.out (by decide) h3⟩))
                  have hrb1 : ∀ r, (Value.slice r1 m e1).ownBlock = some r → W1.heap.size ≤ r := fun r e0 => (Ox1.out.lt r e0).1
                  have hrb2 : ∀ r, (Value.slice r2 m e2).ownBlock = some r → W1.heap.size ≤ r := fun r e0 => (Ox2.out.lt r e0).1
                  have HBE := Lib.hid (HBx.out.keeps KP3.out (⟨by have := HBx.out.lt; omega, by omega, fun e0 => by have := hrb1 _ e0; omega, fun e0 => by have := hrb2 _ e0; omega⟩))
                  have KPE := Lib.hid (KPx.out.trans (KP3.out.mono (fun b (hb : b < W1.heap.size ∧ b ≠ w.heap.size ∧ b ≠ W.heap.size) => (⟨by omega, hb.2.2, fun e0 => by have := hrb1 _ e0; omega, fun e0 => by have := hrb2 _ e0; omega⟩ : b < w6.heap.size ∧ b ≠ W.heap.size ∧ (Value.slice r1 m e1).ownBlock ≠ some b ∧ (Value.slice r2 m e2).ownBlock ≠ some b))))
                  clear hlx hrb1 hrb2
                  go_wp2_with fail
                  go_roundw
                  case rel => exact ⟨k + 1, Sk, ak, ck, m + j, r3, e3, r4, e4, by go_num, hlt, by omega, HSK, HKK, HOK, Lib.hid HRST.out.next, HBE.out, HQE.out, by rw [HF3.out]; exact HLX3.out, HNS3.out, by rw [HF1.out, ← HTT.out]; exact P1.out, by rw [HF2.out]; exact P2.out, KPE.out⟩
                  case measure => simp [intOf]; omega
        · obtain rfl : k = ln := by omega
          have hk2 : ¬ (k : Int) < k := by omega
          have HEND := Lib.hid (show rmL fr S nms = (Sk, 0) by rw [HRM.out, List.drop_eq_nil_of_le (by rw [HNLN.out]; exact Nat.le_refl _)]; rfl)
          have HTK := Lib.hid (show S.files.take k = S.files from List.take_of_length_le (by rw [HLN.out]; exact Nat.le_refl _))
          go_wp2_with fail
          go_meet
          case rel => exact ⟨Sk, ak, ck, m, r1, e1, r2, e2, HEND.out, HKK, HBX.out, HQK.out, by rw [← HTK.out]; exact HLX.out, HNS.out, by rw [← HTK.out]; exact O1.out, by rw [← HTK.out]; exact O2.out, KP.out⟩
    case rest =>
      rename World => wd
      obtain ⟨Sk, ak, ck, m, r1, e1, r2, e2, hend, HKK, hbx, hqk, hlx, hns, own1, own2, kp⟩ := hcut
      obtain ⟨x, hx⟩ : ∃ x, x = lastN fr (loadL fr S.files) := ⟨_, rfl⟩
      rw [← hx] at hlx
      have hx8 : x ≤ 99999998 := by rw [hx]; exact HLE.out
      have hx9 : ¬ (99999998 : Int) < (x : Int) := by omega
      have HMK := Lib.hid (fun (W : World) (h : RefD W (.agg #[.slice ak Sk.files.length ck, .int .i64 Sk.fuse, .bool Sk.off]) Sk) => make_ref h (by have := HKK.out.len; omega) HKK.out.srt HKK.out.fz (lname x) (by rw [lname_length]; decide))
      obtain ⟨U, hU⟩ : ∃ U, U = (Sk.make (lname x)).1 := ⟨_, rfl⟩
      obtain ⟨F, hF⟩ : ∃ F, F = (Sk.make (lname x)).2 := ⟨_, rfl⟩
      rw [← hU, ← hF] at HMK
      have HOPN := Lib.hid (show (S.opens fr).1 = U ∧ (S.opens fr).2.1 = F by
        have e1 : S.rm (fr : Int) = (Sk, 0) := by rw [HRMS.out, hend]
        rw [opens_make HMAY.out (by rw [e1]), e1, hU, hF, hx]
        exact ⟨rfl, rfl⟩)
      have HNA2 := Lib.hid (lname_ref x (by omega))
      have HX := Lib.hid hx
      have HBX := Lib.hid hbx
      have HQK := Lib.hid hqk
      have HLX := Lib.hid hlx
      have O1 := Lib.hid own1
      have O2 := Lib.hid own2
      have HRc := Lib.hid (HR1.out.keeps kp HR1C.out HR2C.out)
      have BBc := Lib.hid (BB1.out.trans (kp.below fun b hb => (⟨by omega, by omega, by omega⟩ : b < W1.heap.size ∧ b ≠ w.heap.size ∧ b ≠ W.heap.size)))
      have hcs := kp.size
      have hbB := hbx.lt
      have hbN := hlx.lt
      have SS := And.intro hbx.c0 (And.intro hbx.c1 (And.intro hbx.c2 hlx.c2))
      have HQR := Lib.hid (fun W' (h : Below wd.heap.size wd W') => HQK.out.old h)
      obtain ⟨n0, n1', n2', z0, z1, z2⟩ := hlx
      clear hend hbx hqk hns own1 own2 kp hU hF hx
      go_upto_region 27 with fail
      clear n0 n1' n2' z0 z1 z2
      go_cut [19, 20] (fun s19 s20 wx => ∃ g a5 c5, s19 = .pointer (some ⟨g, 0, none⟩) ∧ s20 = .int .i64 F ∧ Bx wx g a5 U.files.length c5 U.fuse U.off ∧ RefD wx (.agg #[.slice a5 U.files.length c5, .int .i64 U.fuse, .bool U.off]) U ∧ wd.heap.size ≤ g ∧ Below wd.heap.size wd wx)
      case first =>
        go_region_held3 (fun w' => w'.cell? ⟨w.heap.size, 0, none⟩ = some (.slice ak Sk.files.length ck) ∧ w'.cell? ⟨w.heap.size, 1, none⟩ = some (.int .i64 Sk.fuse) ∧ w'.cell? ⟨w.heap.size, 2, none⟩ = some (.bool Sk.off) ∧ w'.cell? ⟨W.heap.size, 2, none⟩ = some (.int .i64 (x : Int)))
          (first
            | assumption
            | (refine keep_dl (base := wd.heap.size) SS (by omega) (by omega) ?_
               repeat (first | assumption | exact Below.refl _ _ | (refine Below.alloc ?_ ?_ _) | (refine Below.setCell ?_ ?_ _) | (refine Below.drew ?_))
               all_goals (first | omega | (simp; done) | (simp; omega))))
          (first
            | (go_at_call 43; (with_reducible refine (HNA2.out _).mono ?_); rintro e w4 ⟨rfl, b4⟩; have hq : Bx w4 _ none 0 0 0 false ∧ Below _ _ w4 := (by with_reducible exact new_after b4); obtain ⟨hbx, hyy⟩ := hq; have z4 : Below wd.heap.size wd w4 := (by first | (with_reducible exact hyy) | exact bt ((Below.refl _ _).drew) hyy); have hz4 := z4.size)
            | (go_at_call 43; (with_reducible refine (HNA2.out _).mono ?_); rintro e w4 ⟨rfl, b4⟩; have hq : Bx w4 _ none 0 0 0 false ∧ Below _ _ w4 := (by with_reducible exact new_afterd b4); obtain ⟨hbx, hyy⟩ := hq; have z4 : Below wd.heap.size wd w4 := (by first | (with_reducible exact hyy) | exact bt ((Below.refl _ _).drew) hyy); have hz4 := z4.size)
            | (go_at_call 43; (with_reducible refine (HNA2.out _).mono ?_); rintro e w4 ⟨rfl, b4⟩; have z4 : Below wd.heap.size wd w4 := (by first | (with_reducible exact b4) | (with_reducible exact bt ((Below.refl _ _).drew) b4)); have hz4 := z4.size)
            | (go_at_call 42; (with_reducible refine (HMK.out _ (HQR.out _ (z4.alloc hz4 _))).mono ?_); rintro e w5 ⟨q5, rfl, hq5, b5⟩; have hq : Bx w5 _ none 0 0 0 false ∧ Below _ _ w5 := (by with_reducible exact new_after b5); obtain ⟨hbx5, hyy⟩ := hq; have z5 : Below wd.heap.size wd w5 := bt z4 hyy; have hz5 := z5.size; have hqq := Lib.hid hq5; obtain ⟨a5, c5, rfl, r5, g5, g6⟩ := hq5; clear b5 hyy; have K5 := Lib.hid hbx5; obtain ⟨y0, y1, y2, x0, x1, x2, -⟩ := hbx5)
            | (go_at_call 42; (with_reducible refine (HMK.out _ (HQR.out _ (z4.alloc hz4 _))).mono ?_); rintro e w5 ⟨q5, rfl, hq5, b5⟩; have hq : Bx w5 _ none 0 0 0 false ∧ Below _ _ w5 := (by with_reducible exact new_afterd b5); obtain ⟨hbx5, hyy⟩ := hq; have z5 : Below wd.heap.size wd w5 := bt z4 hyy; have hz5 := z5.size; have hqq := Lib.hid hq5; obtain ⟨a5, c5, rfl, r5, g5, g6⟩ := hq5; clear b5 hyy; have K5 := Lib.hid hbx5; obtain ⟨y0, y1, y2, x0, x1, x2, -⟩ := hbx5)
            | (go_at_call 42; (with_reducible refine (HMK.out _ (HQR.out _ z4)).mono ?_); rintro e w5 ⟨q5, rfl, hq5, b5⟩; have hbx5 := hbx.old b5; have z5 : Below wd.heap.size wd w5 := bt z4 b5; have hz5 := z5.size; have hqq := Lib.hid hq5; obtain ⟨a5, c5, rfl, r5, g5, g6⟩ := hq5; clear b5; have K5 := Lib.hid hbx5; obtain ⟨y0, y1, y2, x0, x1, x2, -⟩ := hbx5)
            | (go_at_call 42; (with_reducible refine (HMK.out _ (HQR.out _ z4)).mono ?_); rintro e w5 ⟨q5, rfl, hq5, b5⟩; have z5 : Below wd.heap.size wd w5 := bt z4 b5; have hz5 := z5.size; have hqq := Lib.hid hq5; obtain ⟨a5, c5, rfl, r5, g5, g6⟩ := hq5))
        all_goals
          go_wp2_with fail
          go_meet
          first
            | exact ⟨_, a5, c5, rfl, rfl, Bx.new .., hqq.out.old ((Below.refl _ _).alloc (Nat.le_refl _) _), hz5, z5.alloc hz5 _⟩
            | exact ⟨_, a5, c5, rfl, rfl, K5.out.put .., RefD.put K5.out hqq.out .., hz4, put3_below z5 hz4 ..⟩
            | exact ⟨_, a5, c5, rfl, rfl, K5.out.put .., RefD.put K5.out hqq.out .., Nat.le_refl _, put3_below z5 (Nat.le_refl _) ..⟩
      case rest =>
        obtain ⟨g, a5, c5, rfl, rfl, kg, hq5, hg, bc⟩ := hcut
        have HL5 := Lib.hid (HLX.out.old bc)
        have HR5 := Lib.hid (HRc.out.old bc)
        have OC1 := Lib.hid (below_own O1.out bc)
        have OC2 := Lib.hid (below_own O2.out bc)
        have BB5 := Lib.hid (BBc.out.trans (bc.mono (by omega)))
        have KG := Lib.hid kg
        have HQ5 := Lib.hid hq5
        clear bc hq5
        obtain ⟨n0, n1', n2', z0, z1, z2, -⟩ := kg
        obtain ⟨l0, l1, l2, m0, m1, m2⟩ := HL5.out
        obtain ⟨⟨p0, p1, p2, s0, s1, s2, -⟩, ⟨t0, t1, t2, v0, v1, v2⟩, -, -⟩ := HR5.out
        by_cases hF0 : F = 0
        · subst hF0
          go_wp2_with fail
          go_region
          clear n0 n1' n2' z0 z1 z2 l0 l1 l2 m0 m1 m2 p0 p1 p2 s0 s1 s2 t0 t1 t2 v0 v1 v2
          have ka := own_put OC1.out (show w.heap.size + 1 < W1.heap.size by omega) (show w.heap.size + 2 < W1.heap.size by omega) a5 U.files.length c5 U.fuse U.off r1 m e1 r2 m e2 (x : Int)
          have kb' := own_put OC2.out (show w.heap.size + 1 < W1.heap.size by omega) (show w.heap.size + 2 < W1.heap.size by omega) a5 U.files.length c5 U.fuse U.off r1 m e1 r2 m e2 (x : Int)
          have kf := ((HR5.out).fin (HQ5.out) (BB5.out) (by omega) (by omega) r1 (m) e1 r2 (m) e2 ((x : Int))).1
          go_wp2_with fail
          show bodyPost _ _ _ _ _ (World.drew (putg (put3 wc (w.heap.size + 1) a5 (U.files.length) c5 (U.fuse) U.off) (w.heap.size + 2) r1 (m) e1 r2 (m) e2 ((x : Int))))
          generalize (putg (put3 wc (w.heap.size + 1) a5 (U.files.length) c5 (U.fuse) U.off) (w.heap.size + 2) r1 (m) e1 r2 (m) e2 ((x : Int))) = WF at kf ka kb' ⊢
          obtain ⟨k0, k1, k2, k3, k4, k5, kq, kb⟩ := kf
          refine bodyPost_ret (v := .tuple #[.agg #[.slice a5 (U.files.length) c5, .int .i64 (U.fuse), .bool U.off], .agg #[.slice r1 (m) e1, .slice r2 (m) e2, .int .i64 ((x : Int))], .int .i64 0]) (by simp [results, Tryz.f16, go_sem, k0, k1, k2, k3, k4, k5]) rfl ?_
          have ho := openE_yes HOPN.out kq kb HP.out (show w.heap.size ≤ W1.heap.size by omega) ka kb'
          rw [← HX.out] at ho
          exact ho.drew
        · have HF0 := Lib.hid hF0
          go_wp2_with fail
          clear n0 n1' n2' z0 z1 z2 l0 l1 l2 m0 m1 m2 p0 p1 p2 s0 s1 s2 t0 t1 t2 v0 v1 v2
          have kf := ((HR5.out).fin (HQ5.out) (BB5.out) (by omega) (by omega) none (0) 0 none (0) 0 (0)).1
          show bodyPost _ _ _ _ _ (putg (put3 wc (w.heap.size + 1) a5 (U.files.length) c5 (U.fuse) U.off) (w.heap.size + 2) none (0) 0 none (0) 0 (0))
          generalize (putg (put3 wc (w.heap.size + 1) a5 (U.files.length) c5 (U.fuse) U.off) (w.heap.size + 2) none (0) 0 none (0) 0 (0)) = WF at kf ⊢
          obtain ⟨k0, k1, k2, k3, k4, k5, kq, kb⟩ := kf
          refine bodyPost_ret (v := .tuple #[.agg #[.slice a5 (U.files.length) c5, .int .i64 (U.fuse), .bool U.off], .agg #[.slice none (0) 0, .slice none (0) 0, .int .i64 (0)], .int .i64 F]) (by simp [results, Tryz.f16, go_sem, k0, k1, k2, k3, k4, k5]) rfl ?_
          exact openE_no HOPN.out HF0.out kq kb
end Go.Proofs.YtkfmjkcomjmedaaGreat
namespace Go.Proofs.YtkfmjkcomjmedaaGreat
open Go.RowKit
set_option linter.unusedVariables false
set_option linter.unusedSimpArgs false

def BigE (P : Nat → Prop) (w : World) (S : Ds) (ts : List (List UInt8)) (os : List Nat) (n : Nat) (e : Ending) (w' : World) : Prop :=
  ∃ q' v', e = .returned (.tuple #[q', v', .int .i64 1]) ∧ RefD w' q' S ∧ RefL P w' v' ts os n ∧ Below w.heap.size w w'
set_option maxRecDepth 100000 in
set_option maxHeartbeats 4000000 in
theorem add_refno {P : Nat → Prop} {w : World} {q v : Value} {S : Ds} {ts : List (List UInt8)} {os : List Nat} {n : Nat} (h : RefD w q S) (hv : RefL P w v ts os n) (s : ByteArray) (hs : 131072 < s.size) (hs2 : s.size ≤ 140737488351232) :
    Calls Tryz.prog 20 #[q, v, .string s] w (BigE P w S ts os n) := by
  have HD := Lib.hid h
  obtain ⟨a, c, rfl, h1, h2, h3⟩ := h
  have HV := Lib.hid hv
  obtain ⟨a1, c1, a2, c2, rfl, hr1, hr2, hr3⟩ := hv
  obtain ⟨ln, hln⟩ : ∃ ln, ln = S.files.length := ⟨_, rfl⟩
  obtain ⟨n1, hn1⟩ : ∃ n1, n1 = ts.length := ⟨_, rfl⟩
  obtain ⟨n2, hn2⟩ : ∃ n2, n2 = os.length := ⟨_, rfl⟩
  rw [← hln] at HD ⊢
  rw [← hn1, ← hn2] at HV ⊢
  clear h1 h2 h3 hln hr1 hr2 hr3 hn1 hn2
  have hs3 : (131072 : Int) < (s.size : Int) := by omega
  go_enter Tryz.func20, Tryz.ntmps20
  go_upto_region 1 with fail
  generalize hW : World.alloc (World.alloc (World.alloc (World.alloc w _) _) _) _ = W
  have BB : Below w.heap.size w W := by rw [← hW]; exact ((((Below.refl _ _).alloc (Nat.le_refl _) _).alloc (by simp) _).alloc (by simp; omega) _).alloc (by simp; omega) _
  have hsz : W.heap.size = w.heap.size + 4 := by rw [← hW]; simp
  have HB : Bx W w.heap.size a ln c S.fuse S.off := by
    rw [← hW]
    have := (((Bx.new w a ln c S.fuse S.off 28).old ((Below.refl _ _).alloc (Nat.le_refl _) (.cells #[.slice a1 n1 c1, .slice a2 n2 c2, .int .i64 (n : Int)] 34))).old ((Below.refl _ _).alloc (Nat.le_refl _) (.cells #[.slice none 0 0, .int .i64 0, .bool false] 28))).old ((Below.refl _ _).alloc (Nat.le_refl _) (.cells #[.slice none 0 0, .slice none 0 0, .int .i64 0] 34))
    simpa using this
  have HL : Lx W (w.heap.size + 1) a1 n1 c1 a2 n2 c2 (n : Int) := by
    rw [← hW]; constructor <;> simp [go_sem]
  have HNS : NoStr W (w.heap.size + 1) := by
    rw [← hW]
    have e2 := ((noStr_log (w.alloc (.cells #[.slice a ln c, .int .i64 S.fuse, .bool S.off] 28)) a1 a2 n1 c1 n2 c2 (n : Int) 34).old (by simp) ((Below.refl _ _).alloc (Nat.le_refl _) (.cells #[.slice none 0 0, .int .i64 0, .bool false] 28))).old (by simp) ((Below.refl _ _).alloc (Nat.le_refl _) (.cells #[.slice none 0 0, .slice none 0 0, .int .i64 0] 34))
    simpa using e2
  have HRES : Res W (w.heap.size + 2) (w.heap.size + 3) := by
    rw [← hW]
    have e1 := (Bx.new ((w.alloc (.cells #[.slice a ln c, .int .i64 S.fuse, .bool S.off] 28)).alloc (.cells #[.slice a1 n1 c1, .slice a2 n2 c2, .int .i64 (n : Int)] 34)) none 0 0 0 false 28).old ((Below.refl _ _).alloc (Nat.le_refl _) (.cells #[.slice none 0 0, .slice none 0 0, .int .i64 0] 34))
    have e2 := noStr_log (((w.alloc (.cells #[.slice a ln c, .int .i64 S.fuse, .bool S.off] 28)).alloc (.cells #[.slice a1 n1 c1, .slice a2 n2 c2, .int .i64 (n : Int)] 34)).alloc (.cells #[.slice none 0 0, .int .i64 0, .bool false] 28)) none none 0 0 0 0 0 34
    refine ⟨by simpa using e1, ?_, by simpa using e2, by omega⟩
    constructor <;> simp [go_sem]
  clear hW
  have HQ := Lib.hid (HD.out.old BB)
  have BB := Lib.hid BB
  have HBB := Lib.hid HB
  have HLL := Lib.hid HL
  have HRS := Lib.hid HRES
  have NS := Lib.hid HNS
  clear HB HL HRES HNS
  obtain ⟨n0, n1', n2', z0, z1, z2, -⟩ := HBB.out
  obtain ⟨l0, l1, l2, m0, m1, m2⟩ := HLL.out
  obtain ⟨⟨p0, p1, p2, s0, s1, s2, -⟩, ⟨t0, t1, t2, v0, v1, v2⟩, -, -⟩ := HRS.out
  go_wp2_with fail
  go_region
  clear n0 n1' n2' z0 z1 z2 l0 l1 l2 m0 m1 m2 p0 p1 p2 s0 s1 s2 t0 t1 t2 v0 v1 v2
  have kf := ((HRS.out).fin (HQ.out) (BB.out) (by omega) (by omega) a1 (n1) c1 a2 (n2) c2 ((n : Int))).1
  go_wp2_with fail
  show bodyPost _ _ _ _ _ (World.drew (putg (put3 W (w.heap.size + 2) a (ln) c (S.fuse) S.off) (w.heap.size + 3) a1 (n1) c1 a2 (n2) c2 ((n : Int))))
  generalize (putg (put3 W (w.heap.size + 2) a (ln) c (S.fuse) S.off) (w.heap.size + 3) a1 (n1) c1 a2 (n2) c2 ((n : Int))) = WF at kf ⊢
  obtain ⟨k0, k1, k2, k3, k4, k5, kq, kb⟩ := kf
  refine bodyPost_ret (v := .tuple #[.agg #[.slice a (ln) c, .int .i64 (S.fuse), .bool S.off], .agg #[.slice a1 (n1) c1, .slice a2 (n2) c2, .int .i64 ((n : Int))], .int .i64 1]) (by simp [results, Tryz.f20, go_sem, k0, k1, k2, k3, k4, k5]) rfl ?_
  exact ⟨_, _, rfl, (kq.old ((Below.refl _ _).drew)), HV.out.old kb.drew, kb.drew⟩
set_option maxRecDepth 100000 in
set_option maxHeartbeats 4000000 in
theorem drop_refno {P : Nat → Prop} {w : World} {q v : Value} {S : Ds} {ts : List (List UInt8)} {os : List Nat} {n : Nat} (h : RefD w q S) (hv : RefL P w v ts os n) (bl : Int) (hb : (n : Int) < bl) :
    Calls Tryz.prog 25 #[q, v, .int .i64 bl] w (BigE P w S ts os n) := by
  have HD := Lib.hid h
  obtain ⟨a, c, rfl, h1, h2, h3⟩ := h
  have HV := Lib.hid hv
  obtain ⟨a1, c1, a2, c2, rfl, hr1, hr2, hr3⟩ := hv
  obtain ⟨ln, hln⟩ : ∃ ln, ln = S.files.length := ⟨_, rfl⟩
  obtain ⟨n1, hn1⟩ : ∃ n1, n1 = ts.length := ⟨_, rfl⟩
  obtain ⟨n2, hn2⟩ : ∃ n2, n2 = os.length := ⟨_, rfl⟩
  rw [← hln] at HD ⊢
  rw [← hn1, ← hn2] at HV ⊢
  clear h1 h2 h3 hln hr1 hr2 hr3 hn1 hn2
  go_enter Tryz.func25, Tryz.ntmps25
  go_upto_region 1 with fail
  generalize hW : World.alloc (World.alloc (World.alloc (World.alloc w _) _) _) _ = W
  have BB : Below w.heap.size w W := by rw [← hW]; exact ((((Below.refl _ _).alloc (Nat.le_refl _) _).alloc (by simp) _).alloc (by simp; omega) _).alloc (by simp; omega) _
  have hsz : W.heap.size = w.heap.size + 4 := by rw [← hW]; simp
  have HB : Bx W w.heap.size a ln c S.fuse S.off := by
    rw [← hW]
    have := (((Bx.new w a ln c S.fuse S.off 28).old ((Below.refl _ _).alloc (Nat.le_refl _) (.cells #[.slice a1 n1 c1, .slice a2 n2 c2, .int .i64 (n : Int)] 34))).old ((Below.refl _ _).alloc (Nat.le_refl _) (.cells #[.slice none 0 0, .int .i64 0, .bool false] 28))).old ((Below.refl _ _).alloc (Nat.le_refl _) (.cells #[.slice none 0 0, .slice none 0 0, .int .i64 0] 34))
    simpa using this
  have HL : Lx W (w.heap.size + 1) a1 n1 c1 a2 n2 c2 (n : Int) := by
    rw [← hW]; constructor <;> simp [go_sem]
  have HNS : NoStr W (w.heap.size + 1) := by
    rw [← hW]
    have e2 := ((noStr_log (w.alloc (.cells #[.slice a ln c, .int .i64 S.fuse, .bool S.off] 28)) a1 a2 n1 c1 n2 c2 (n : Int) 34).old (by simp) ((Below.refl _ _).alloc (Nat.le_refl _) (.cells #[.slice none 0 0, .int .i64 0, .bool false] 28))).old (by simp) ((Below.refl _ _).alloc (Nat.le_refl _) (.cells #[.slice none 0 0, .slice none 0 0, .int .i64 0] 34))
    simpa using e2
  have HRES : Res W (w.heap.size + 2) (w.heap.size + 3) := by
    rw [← hW]
    have e1 := (Bx.new ((w.alloc (.cells #[.slice a ln c, .int .i64 S.fuse, .bool S.off] 28)).alloc (.cells #[.slice a1 n1 c1, .slice a2 n2 c2, .int .i64 (n : Int)] 34)) none 0 0 0 false 28).old ((Below.refl _ _).alloc (Nat.le_refl _) (.cells #[.slice none 0 0, .slice none 0 0, .int .i64 0] 34))
    have e2 := noStr_log (((w.alloc (.cells #[.slice a ln c, .int .i64 S.fuse, .bool S.off] 28)).alloc (.cells #[.slice a1 n1 c1, .slice a2 n2 c2, .int .i64 (n : Int)] 34)).alloc (.cells #[.slice none 0 0, .int .i64 0, .bool false] 28)) none none 0 0 0 0 0 34
    refine ⟨by simpa using e1, ?_, by simpa using e2, by omega⟩
    constructor <;> simp [go_sem]
  clear hW
  have HQ := Lib.hid (HD.out.old BB)
  have BB := Lib.hid BB
  have HBB := Lib.hid HB
  have HLL := Lib.hid HL
  have HRS := Lib.hid HRES
  have NS := Lib.hid HNS
  clear HB HL HRES HNS
  obtain ⟨n0, n1', n2', z0, z1, z2, -⟩ := HBB.out
  obtain ⟨l0, l1, l2, m0, m1, m2⟩ := HLL.out
  obtain ⟨⟨p0, p1, p2, s0, s1, s2, -⟩, ⟨t0, t1, t2, v0, v1, v2⟩, -, -⟩ := HRS.out
  go_wp2_with fail
  go_region
  clear n0 n1' n2' z0 z1 z2 l0 l1 l2 m0 m1 m2 p0 p1 p2 s0 s1 s2 t0 t1 t2 v0 v1 v2
  have kf := ((HRS.out).fin (HQ.out) (BB.out) (by omega) (by omega) a1 (n1) c1 a2 (n2) c2 ((n : Int))).1
  go_wp2_with fail
  show bodyPost _ _ _ _ _ (World.drew (putg (put3 W (w.heap.size + 2) a (ln) c (S.fuse) S.off) (w.heap.size + 3) a1 (n1) c1 a2 (n2) c2 ((n : Int))))
  generalize (putg (put3 W (w.heap.size + 2) a (ln) c (S.fuse) S.off) (w.heap.size + 3) a1 (n1) c1 a2 (n2) c2 ((n : Int))) = WF at kf ⊢
  obtain ⟨k0, k1, k2, k3, k4, k5, kq, kb⟩ := kf
  refine bodyPost_ret (v := .tuple #[.agg #[.slice a (ln) c, .int .i64 (S.fuse), .bool S.off], .agg #[.slice a1 (n1) c1, .slice a2 (n2) c2, .int .i64 ((n : Int))], .int .i64 1]) (by simp [results, Tryz.f25, go_sem, k0, k1, k2, k3, k4, k5]) rfl ?_
  exact ⟨_, _, rfl, (kq.old ((Below.refl _ _).drew)), HV.out.old kb.drew, kb.drew⟩
set_option maxRecDepth 100000 in
set_option maxHeartbeats 4000000 in
theorem open_refno {P : Nat → Prop} {w : World} {q : Value} {S : Ds} (h : RefD w q S) (fr : Int) (hfr : fr < 0 ∨ 1048576 < fr) :
    Calls Tryz.prog 16 #[q, .int .i64 fr] w (BigE P w S [] [] 0) := by
  have HD := Lib.hid h
  obtain ⟨a, c, rfl, h1, h2, h3⟩ := h
  obtain ⟨ln, hln⟩ : ∃ ln, ln = S.files.length := ⟨_, rfl⟩
  rw [← hln] at HD ⊢
  clear h1 h2 h3 hln
  go_enter Tryz.func16, Tryz.ntmps16
  go_upto_region 1 with fail
  generalize hW : World.alloc (World.alloc (World.alloc w _) _) _ = W
  have BB : Below w.heap.size w W := by rw [← hW]; exact (((Below.refl _ _).alloc (Nat.le_refl _) _).alloc (by simp) _).alloc (by simp; omega) _
  have hsz : w.heap.size + 3 ≤ W.heap.size := by rw [← hW]; simp
  have HB : Bx W w.heap.size a ln c S.fuse S.off := by
    rw [← hW]
    have := ((Bx.new w a ln c S.fuse S.off 28).old ((Below.refl _ _).alloc (Nat.le_refl _) (.cells #[.slice none 0 0, .int .i64 0, .bool false] 28))).old ((Below.refl _ _).alloc (Nat.le_refl _) (.cells #[.slice none 0 0, .slice none 0 0, .int .i64 0] 34))
    simpa using this
  have HRES : Res W (w.heap.size + 1) (w.heap.size + 2) := by
    rw [← hW]
    have e1 := (Bx.new (w.alloc (.cells #[.slice a ln c, .int .i64 S.fuse, .bool S.off] 28)) none 0 0 0 false 28).old ((Below.refl _ _).alloc (Nat.le_refl _) (.cells #[.slice none 0 0, .slice none 0 0, .int .i64 0] 34))
    have e2 := noStr_log ((w.alloc (.cells #[.slice a ln c, .int .i64 S.fuse, .bool S.off] 28)).alloc (.cells #[.slice none 0 0, .int .i64 0, .bool false] 28)) none none 0 0 0 0 0 34
    refine ⟨by simpa using e1, ?_, by simpa using e2, by omega⟩
    constructor <;> simp [go_sem]
  clear hW
  have HQ := Lib.hid (HD.out.old BB)
  have BB := Lib.hid BB
  have HBB := Lib.hid HB
  have HRS := Lib.hid HRES
  obtain ⟨n0, n1', n2', z0, z1, z2, -⟩ := HB
  obtain ⟨⟨p0, p1, p2, s0, s1, s2, -⟩, ⟨t0, t1, t2, v0, v1, v2⟩, -, -⟩ := HRES
  rcases hfr with hfr | hfr
  · have hfr2 : ¬ (1048576 : Int) < fr := by omega
    go_wp2_with fail
    clear n0 n1' n2' z0 z1 z2 p0 p1 p2 s0 s1 s2 t0 t1 t2 v0 v1 v2
    have kf := ((HRS.out).fin (HQ.out) (BB.out) (by omega) (by omega) none (0) 0 none (0) 0 (0)).1
    show bodyPost _ _ _ _ _ (putg (put3 W (w.heap.size + 1) a (ln) c (S.fuse) S.off) (w.heap.size + 2) none (0) 0 none (0) 0 (0))
    generalize (putg (put3 W (w.heap.size + 1) a (ln) c (S.fuse) S.off) (w.heap.size + 2) none (0) 0 none (0) 0 (0)) = WF at kf ⊢
    obtain ⟨k0, k1, k2, k3, k4, k5, kq, kb⟩ := kf
    refine bodyPost_ret (v := .tuple #[.agg #[.slice a (ln) c, .int .i64 (S.fuse), .bool S.off], .agg #[.slice none (0) 0, .slice none (0) 0, .int .i64 (0)], .int .i64 1]) (by simp [results, Tryz.f16, go_sem, k0, k1, k2, k3, k4, k5]) rfl ?_
    exact ⟨_, _, rfl, kq, RefL.nil P _, kb⟩
  · have hfr2 : ¬ fr < 0 := by omega
    go_wp2_with fail
    clear n0 n1' n2' z0 z1 z2 p0 p1 p2 s0 s1 s2 t0 t1 t2 v0 v1 v2
    have kf := ((HRS.out).fin (HQ.out) (BB.out) (by omega) (by omega) none (0) 0 none (0) 0 (0)).1
    show bodyPost _ _ _ _ _ (putg (put3 W (w.heap.size + 1) a (ln) c (S.fuse) S.off) (w.heap.size + 2) none (0) 0 none (0) 0 (0))
    generalize (putg (put3 W (w.heap.size + 1) a (ln) c (S.fuse) S.off) (w.heap.size + 2) none (0) 0 none (0) 0 (0)) = WF at kf ⊢
    obtain ⟨k0, k1, k2, k3, k4, k5, kq, kb⟩ := kf
    refine bodyPost_ret (v := .tuple #[.agg #[.slice a (ln) c, .int .i64 (S.fuse), .bool S.off], .agg #[.slice none (0) 0, .slice none (0) 0, .int .i64 (0)], .int .i64 1]) (by simp [results, Tryz.f16, go_sem, k0, k1, k2, k3, k4, k5]) rfl ?_
    exact ⟨_, _, rfl, kq, RefL.nil P _, kb⟩
end Go.Proofs.YtkfmjkcomjmedaaGreat
