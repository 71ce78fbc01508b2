/-
  Layer 5 (fs), contracts of Names, Read, Sure, Fuse, Off, New. Conditions: texts within the form's reach.
-/
import Derived.Test.YthikedhbjphmeaaDq
import Derived.Test.YthikedhbjphmeaaDl
import Derived.Maps.Ext
namespace Go.Proofs.Ythikedhbjphmeaa
open Go.RowKit Go.Lib
set_option linter.unusedVariables false

section
open Go.Sort Go.Maps Go.Shelf
theorem sorts_in (m : Nat) : AnyZ.SortsIn Try.prog sortedA_ren Fence.wide m :=
  ⟨fun blk off cap ss W hH hblk hsz => callsIn_wide.2 (AnyM.slices_Sort_string sortA blk off cap ss W hH hblk hsz),
   fun p cap W => callsIn_wide.2 (AnyM.slices_Sort_string_none sortA p cap W)⟩
theorem keys_c (mb : Option Nat) (W : World) : Calls Try.prog 45 #[.map mb] W fun e w' => e = .returned (.func (.func 59) #[] #[.pointer (some ⟨W.heap.size, 0, none⟩)]) ∧ w' = W.alloc (.cells #[.map mb] 43) :=
  callsIn_wide.1 (AnyZ.keys_in keysA Fence.wide 5 trivial rfl mb W)
theorem sorted_c (b nn : Nat) (D0 : DataW Unit) (w : World) (hown : w.ownsMap Try.prog 9 fR b nn D0) (hmax : Maps.size D0 ≤ maxLen) (hbytes : Maps.size D0 * 16 ≤ 140737488355328) :
    Calls Try.prog 44 #[.func (.func 59) #[] #[.pointer (some ⟨w.heap.size, 0, none⟩)]] (w.alloc (.cells #[.map (some b)] 43)) fun e w' => ∃ (v : Value) (ss : List (List UInt8)), e = .returned v ∧ ss.Perm (strKeys D0) ∧
      w'.ownsRow (w.alloc (.cells #[.map (some b)] 43)).heap.size 9 1 v ss.length ((ss.mergeSort (fun x y => decide (x ≤ y))).map encStr) ∧ (v = .slice none 0 0 ↔ ss = []) ∧ Below (w.alloc (.cells #[.map (some b)] 43)).heap.size (w.alloc (.cells #[.map (some b)] 43)) w' := by
  have hbl := hown.lt
  have hseq : SeqGives Fence.wide 2 Try.prog 59 #[.pointer (some ⟨w.heap.size, 0, none⟩)] encStr (fun ss => ss.Perm (strKeys D0)) (Maps.size D0) (w.alloc (.cells #[.map (some b)] 43)) :=
    AnyZ.keys_gives (ρ := keysA_ren) { keysA with } Fence.wide _ trivial rfl (by omega) w.heap.size b nn D0 _ (by simp) (by simp) (by
      obtain ⟨es, clock, hb, Ft, hs, hD⟩ := hown
      exact ⟨es, clock, (Below.heap_alloc _ _ b hbl).trans hb, Ft, hs, hD⟩)
  exact callsIn_wide.1 (AnyZ.sorted_in sortedA Fence.wide 5 trivial trivial trivial trivial rfl (by omega) (sorts_in _) (enters_of Try.func58 (by kernel_rfl) rfl) 59 #[.pointer (some ⟨w.heap.size, 0, none⟩)] trivial (enters_of Try.func59 (by kernel_rfl) rfl) _ _ hmax hbytes _ hseq)
end

theorem sv_enc (l : List (List UInt8)) : l.map encStr = sv l := rfl
/-- What a disk's names are, as a value. -/
def NamesV (w : World) (base : Nat) (ns : List (List UInt8)) (v : Value) : Prop := w.ownsRow base 9 1 v ns.length (sv ns)
set_option maxRecDepth 100000 in
set_option maxHeartbeats 2000000 in
theorem names_dsk {own : Nat → Prop} {w : World} {d m : Nat} {G : List (List UInt8 × Gf)} {fuse : Int} {off : Bool} (h : Dsk own w d m G fuse off) :
    Calls Try.prog 24 #[.pointer (some ⟨d, 0, none⟩)] w fun e w' => ∃ v, e = .returned v ∧ NamesV w' w.heap.size (G.map (·.1)) v ∧ Below w.heap.size w w' := by
  have hS := sorted_c m _ _ w h.mp (by rw [fD_size, length_mapL]; have := h.len; unfold maxLen; omega) (by rw [fD_size, length_mapL]; have := h.len; omega)
  have hG := given_yes d w h.cells.c0
  obtain ⟨c0, c1, c2, c3, f2, f3, lt⟩ := h.cells
  have hs := h.srt
  have HS := Lib.hid hs
  clear h hs
  have hp : ∀ ss : List (List UInt8), ss.Perm (strKeys (fD (mapL Gf.blk G))) → (ss.mergeSort (fun x y => decide (x ≤ y))) = G.map (·.1) := by
    intro ss hss
    rw [fD_keys, mapL_keys] at hss
    exact sorted_keys HS.out hss
  have HP := Lib.hid hp
  clear hp
  go_enter Try.func24, Try.ntmps24
  go_wp2_with (first
    | (go_at_call 32; refine hG.mono ?_; rintro e w' ⟨rfl, rfl⟩)
    | (go_at_call 45; refine (keys_c _ _).mono ?_; rintro e w' ⟨rfl, rfl⟩)
    | (go_at_call 44; refine hS.mono ?_; rintro e w' ⟨v, ss, rfl, hss, hrow, hnil, hb⟩))
  go_ret
  rw [HP.out ss hss, sv_enc] at hrow
  have hl : ss.length = (G.map (·.1)).length := by rw [← HP.out ss hss, List.length_mergeSort]
  rw [hl] at hrow
  refine ⟨v, rfl, ?_, ((Below.refl _ w).alloc (Nat.le_refl _) _).trans (hb.mono (by simp))⟩
  refine ⟨hrow.1, ?_⟩
  rcases hrow.2 with h | ⟨g, cap, cur, hv, hbg, hrest⟩
  · exact .inl h
  · exact .inr ⟨g, cap, cur, hv, by simp at hbg; omega, hrest⟩
theorem names_any {own : Nat → Prop} {w : World} {d : Nat} {S : Ds} (h : DiskAt own w d S) :
    Calls Try.prog 24 #[.pointer (some ⟨d, 0, none⟩)] w fun e w' => ∃ v, e = .returned v ∧ NamesV w' w.heap.size (S.files.map (·.1)) v ∧ Below w.heap.size w w' := by
  obtain ⟨m, G, h, hF⟩ := h
  rw [← hF, mapL_keys]
  exact names_dsk h

theorem DiskAt.below {own : Nat → Prop} {w w' : World} {d : Nat} {S : Ds} (h : DiskAt own w d S) (hb : Below w.heap.size w w') : DiskAt own w' d S := by
  obtain ⟨m, G, h, hF⟩ := h
  exact ⟨m, G, h.below hb, hF⟩
theorem DiskAt.own {own : Nat → Prop} {w : World} {d : Nat} {S : Ds} (h : DiskAt own w d S) {b : Nat} (hb : own b) : b < w.heap.size := by
  obtain ⟨m, G, h, hF⟩ := h
  exact (h.own b hb).1
theorem DiskAt.weaken {own own' : Nat → Prop} {w : World} {d : Nat} {S : Ds} (h : DiskAt own w d S) (ho : ∀ b, own' b → own b) : DiskAt own' w d S := by
  obtain ⟨m, G, h, hF⟩ := h
  exact ⟨m, G, h.weaken ho, hF⟩
theorem DiskAt.fresh {own : Nat → Prop} {w w' : World} {d : Nat} {S : Ds} (h : DiskAt own w d S) (hb : Below w.heap.size w w') : DiskAt (fun b => own b ∨ (w.heap.size ≤ b ∧ b < w'.heap.size)) w' d S := by
  obtain ⟨m, G, h, hF⟩ := h
  exact ⟨m, G, h.fresh hb, hF⟩
theorem DiskAt.lent {own : Nat → Prop} {w : World} {d : Nat} {S : Ds} (h : DiskAt own w d S) (o : Obj) : DiskAt (fun b => own b ∨ b = w.heap.size) (w.alloc o) d S := by
  obtain ⟨m, G, h, hF⟩ := h
  exact ⟨m, G, h.lent o, hF⟩
/-- The caller writes what is its own. -/
theorem DiskAt.setCell {own : Nat → Prop} {w : World} {d : Nat} {S : Ds} (h : DiskAt own w d S) {a : Addr} (ha : own a.block) (u : Value) : DiskAt own (w.setCell a u) d S := by
  obtain ⟨m, G, h, hF⟩ := h
  obtain ⟨h1, h2, h3, h4⟩ := h.own _ ha
  have hs : ∀ b, b ≠ a.block → (w.setCell a u).heap[b]? = w.heap[b]? := fun b hb => Below.heap_setCell _ _ _ _ hb
  exact ⟨m, G, h.same (hs _ h2.symm) (hs _ h3.symm) (fun p hp => hs _ (h4 p hp).1.symm) (fun p hp r hr => hs _ (fun e => (h4 p hp).2 (e ▸ hr))) (by simp [World.setCell]), hF⟩
theorem DiskAt.drew {own : Nat → Prop} {w : World} {d : Nat} {S : Ds} (h : DiskAt own w d S) : DiskAt own w.drew d S := h.below ((Below.refl _ _).drew)

/-! ### Read, Sure -/
def Ds.lookE (S : Ds) (n : List UInt8) : Int := if askE (namL n) S.off = 0 then fE (getL n S.files) else askE (namL n) S.off
def Ds.bytesOf (S : Ds) (n : List UInt8) : List UInt8 := if S.lookE n = 0 then (match getL n S.files with | some f => f.bytes | none => []) else []
def Ds.sureOf (S : Ds) (n : List UInt8) : Nat := if S.lookE n = 0 then (match getL n S.files with | some f => f.sure | none => 0) else 0
theorem look_cases {S : Ds} {G : List (List UInt8 × Gf)} (hF : mapL Gf.fl G = S.files) (n : List UInt8) :
    (∃ g, getL n G = some g ∧ askE (namL n) S.off = 0 ∧ S.lookE n = 0 ∧ S.bytesOf n = g.fl.bytes ∧ S.sureOf n = g.fl.sure) ∨
    (∃ X : Int, (X = 1 ∨ X = 50 ∨ X = 3) ∧ chgP (askE (namL n) S.off) (getL n G) = .pointer none ∧ chgE (askE (namL n) S.off) (getL n G) = X ∧ S.lookE n = X ∧ S.bytesOf n = [] ∧ S.sureOf n = 0) := by
  have hG : getL n S.files = (getL n G).map Gf.fl := by rw [← hF, getL_mapL]
  have h3 : askE (namL n) S.off = 0 ∨ askE (namL n) S.off = 1 ∨ askE (namL n) S.off = 50 := by unfold askE; split <;> (try split) <;> simp
  by_cases h0 : askE (namL n) S.off = 0
  · cases hg : getL n G with
    | some g =>
      have hl : S.lookE n = 0 := by unfold Ds.lookE; rw [if_pos h0, hG, hg]; rfl
      exact .inl ⟨g, rfl, h0, hl, by unfold Ds.bytesOf; rw [if_pos hl, hG, hg]; rfl, by unfold Ds.sureOf; rw [if_pos hl, hG, hg]; rfl⟩
    | none =>
      have hl : S.lookE n = 3 := by unfold Ds.lookE; rw [if_pos h0, hG, hg]; rfl
      exact .inr ⟨3, by omega, by unfold chgP; rw [if_pos h0]; rfl, by unfold chgE; rw [if_pos h0]; rfl, hl, by unfold Ds.bytesOf; rw [hl]; rfl, by unfold Ds.sureOf; rw [hl]; rfl⟩
  · have hl : S.lookE n = askE (namL n) S.off := by unfold Ds.lookE; rw [if_neg h0]
    exact .inr ⟨askE (namL n) S.off, by omega, by unfold chgP; rw [if_neg h0], by unfold chgE; rw [if_neg h0], hl, by unfold Ds.bytesOf; rw [hl, if_neg h0], by unfold Ds.sureOf; rw [hl, if_neg h0]⟩
set_option maxRecDepth 100000 in
set_option maxHeartbeats 2000000 in
theorem read_any {own : Nat → Prop} {w : World} {d : Nat} {S : Ds} (h : DiskAt own w d S) (name : ByteArray) (hn : name.size ≤ maxLen) :
    Calls Try.prog 38 #[.pointer (some ⟨d, 0, none⟩), .string name] w fun e w' => e = .returned (.tuple #[.string ⟨(S.bytesOf name.data.toList).toArray⟩, .int .i64 (S.lookE name.data.toList)]) ∧ Below w.heap.size w w' := by
  obtain ⟨m, G, h, hF⟩ := h
  have A := look_any h name hn _ rfl
  have hc := look_cases hF name.data.toList
  clear h hF
  rcases hc with ⟨g, hg, h0, hl, hb, hs⟩ | ⟨X, hX3, hP, hE, hl, hb, hs⟩
  · rw [h0, hg] at A
    simp only [chgP, chgE, findP, findE, if_true] at A
    rw [hl, hb]
    have HG := Lib.hid hg
    have A := Lib.hid A
    clear h0 hl hb hs hg
    go_enter Try.func38, Try.ntmps38
    go_wp2_with fail
    refine A.out.mono ?_
    rintro e w1 ⟨rfl, h1, k1⟩
    obtain ⟨a, cap, c0, c1, f0, f1, lt, ho, hob, hsu, hle, hh⟩ := h1.fileCells HG.out
    have run := run_str_own (P := Try.prog) w1 79 9 5 Try.underlying79 Try.underlying5 Try.underlying9 0 5 g.fl.bytes.length _ g.fl.bytes rfl ho
    have K1 := Lib.hid k1
    clear h1 k1 ho hob hh
    go_wp2
    first
      | (go_ret2; exact ⟨rfl, K1.out⟩)
      | (rw [run]; go_wp2; go_ret2; exact ⟨rfl, K1.out⟩)
  · rw [hP, hE] at A
    rw [hl, hb]
    clear hP hE hl hb hs
    rcases hX3 with rfl | rfl | rfl
    all_goals
      go_enter Try.func38, Try.ntmps38
      go_wp2_with fail
      refine A.mono ?_
      rintro e w1 ⟨rfl, h1, k1⟩
      have K1 := Lib.hid k1
      clear h1 k1 A
      go_wp2
      go_ret2
      exact ⟨rfl, K1.out⟩
set_option maxRecDepth 100000 in
set_option maxHeartbeats 2000000 in
theorem sure_any {own : Nat → Prop} {w : World} {d : Nat} {S : Ds} (h : DiskAt own w d S) (name : ByteArray) (hn : name.size ≤ maxLen) :
    Calls Try.prog 40 #[.pointer (some ⟨d, 0, none⟩), .string name] w fun e w' => e = .returned (.tuple #[.int .i64 (S.sureOf name.data.toList : Nat), .int .i64 (S.lookE name.data.toList)]) ∧ Below w.heap.size w w' := by
  obtain ⟨m, G, h, hF⟩ := h
  have A := look_any h name hn _ rfl
  have hc := look_cases hF name.data.toList
  clear h hF
  rcases hc with ⟨g, hg, h0, hl, hb, hs⟩ | ⟨X, hX3, hP, hE, hl, hb, hs⟩
  · rw [h0, hg] at A
    simp only [chgP, chgE, findP, findE, if_true] at A
    rw [hl, hs]
    have HG := Lib.hid hg
    have A := Lib.hid A
    clear h0 hl hb hs hg
    go_enter Try.func40, Try.ntmps40
    go_wp2_with fail
    refine A.out.mono ?_
    rintro e w1 ⟨rfl, h1, k1⟩
    obtain ⟨a, cap, c0, c1, f0, f1, lt, ho, hob, hsu, hle, hh⟩ := h1.fileCells HG.out
    have K1 := Lib.hid k1
    clear h1 k1 ho hob hh
    go_wp2
    go_ret2
    exact ⟨rfl, K1.out⟩
  · rw [hP, hE] at A
    rw [hl, hs]
    clear hP hE hl hb hs
    rcases hX3 with rfl | rfl | rfl
    all_goals
      go_enter Try.func40, Try.ntmps40
      go_wp2_with fail
      refine A.mono ?_
      rintro e w1 ⟨rfl, h1, k1⟩
      have K1 := Lib.hid k1
      clear h1 k1 A
      go_wp2
      go_ret2
      exact ⟨rfl, K1.out⟩
/-! ### Fuse, Off, New -/
theorem off_any {own : Nat → Prop} {w : World} {d : Nat} {S : Ds} (h : DiskAt own w d S) : Calls Try.prog 17 #[.pointer (some ⟨d, 0, none⟩)] w fun e w' => e = .returned (.bool S.off) ∧ w = w' := by
  obtain ⟨m, G, h, hF⟩ := h
  have hG := given_yes d w h.cells.c0
  obtain ⟨c0, c1, c2, c3, f2, f3, lt⟩ := h.cells
  clear h hF
  go_enter Try.func17, Try.ntmps17
  go_wp2_with (go_at_call 32; refine hG.mono ?_; rintro e w' ⟨rfl, rfl⟩)
  go_ret
  exact ⟨rfl, rfl⟩
theorem fuse_any {own : Nat → Prop} {w : World} {d : Nat} {S : Ds} (h : DiskAt own w d S) (n : Int) (hn : -9223372036854775808 ≤ n ∧ n ≤ 9223372036854775807) :
    Calls Try.prog 16 #[.pointer (some ⟨d, 0, none⟩), .int .i64 n] w fun e w' => e = .returned (.int .i64 0) ∧ DiskAt own w' d ⟨S.files, n, S.off⟩ ∧ Keeps own w w' := by
  obtain ⟨m, G, h, hF⟩ := h
  have hG := given_yes d w h.cells.c0
  obtain ⟨c0, c1, c2, c3, f2, f3, lt⟩ := h.cells
  have H := Lib.hid h
  clear h
  go_enter Try.func16, Try.ntmps16
  go_wp2_with (go_at_call 32; refine hG.mono ?_; rintro e w' ⟨rfl, rfl⟩)
  go_ret
  exact ⟨rfl, ⟨m, G, H.out.setFuse n hn, hF⟩, H.out.keepsCell _ _⟩
theorem new_any (w : World) : Calls Try.prog 7 #[] w fun e w' => e = .returned (.pointer (some ⟨w.heap.size + 1, 0, none⟩)) ∧ DiskAt (fun b => b < w.heap.size) w' (w.heap.size + 1) ⟨[], -1, false⟩ ∧ Below w.heap.size w w' := by
  have hmm := @run_makeMap Try.prog
  go_enter Try.func7, Try.ntmps7
  go_wp2
  go_ret
  refine ⟨rfl, ⟨w.heap.size, [], ⟨?_, ?_, List.Pairwise.nil, by simp, by simp, by simp, by simp, by show (-9223372036854775808 : Int) ≤ -1 ∧ (-1 : Int) ≤ 9223372036854775807; omega, fun b hb => ⟨by simp; omega, by omega, by omega, by simp⟩⟩, rfl⟩, ?_⟩
  · have := heap_alloc_new (w.alloc (.map #[] 0)) (.cells #[.pointer (some ⟨w.heap.size + 1, 0, none⟩), .map (some w.heap.size), .int .i64 (-1), .bool false] 45)
    rw [show (w.alloc (.map #[] 0)).heap.size = w.heap.size + 1 by simp] at this
    exact this
  · exact (World.ownsMap_made (H := Unit) w Try.prog 9 fR).alloc _
  · exact ((Below.refl _ w).alloc (Nat.le_refl _) _).alloc (by simp) _
end Go.Proofs.Ythikedhbjphmeaa
