/-
  Layer 12 (manifest): slices.SortStableFunc at tables, by order: the tables in order. Conditions: a slice that the call owns.
-/
import Derived.Test.YthmkalnbdocdcaaYu
import Derived.Test.YthmkalnbdocdcaaYd
namespace Go.Proofs.Ythmkalnbdocdcaa
open Go.RowKit Go.Shelf
open Go.Sort hiding Below
set_option linter.unusedVariables false
set_option linter.unusedSimpArgs false

def ins_ren : Go.Shelf.Ren := ⟨fun | 20 => 74 | n => n, fun | 22 => 22 | 24 => 49 | 25 => 81 | 3 => 3 | 0 => 0 | 4 => 4 | n => n, fun | n => n⟩
theorem insl : SlLaysF0.n20 Try.prog ins_ren := {
  mixed := by kernel_rfl
  f20 := ⟨Try.f74.name, by decide, Try.func74.trans (congrArg some (by kernel_rfl))⟩
  t0 := Try.underlying0
  a0 := Try.isAgg0
  z0 := Try.sizeOf0
  v0 := Try.zeroValue0
  t3 := Try.underlying3
  a3 := Try.isAgg3
  z3 := Try.sizeOf3
  v3 := Try.zeroValue3
  t4 := Try.underlying4
  a4 := Try.isAgg4
  z4 := Try.sizeOf4
  v4 := Try.zeroValue4
  t22 := Try.underlying22
  a22 := Try.isAgg22
  z22 := Try.sizeOf22
  v22 := Try.zeroValue22
  t25 := Try.underlying81
  a25 := Try.isAgg81
  z25 := Try.sizeOf81
  v25 := Try.zeroValue81 }
theorem holdsK_of {w : World} {blk : Nat} {vs : List Tb} {cur : Array Value} (hb : w.heap[blk]? = some (.cells cur 49 (0, 0))) (hc : TbAt w blk 0 vs) : HoldsK tv 4 w blk 0 vs.toArray := by
  intro j hj
  rw [size_flatK] at hj
  refine ⟨?_, by simp [World.frozen?, hb]⟩
  rw [get_flatK tv 4 _ j hj]
  have hi : j / 4 < vs.length := by simp at hj; omega
  obtain ⟨c0, c1, c2, c3⟩ := hc (j / 4) hi
  have he : vs.toArray[j / 4]! = vs[j / 4] := by rw [getElem!_pos _ _ (by simpa using hi)]; simp
  rw [he]
  have h4 : j % 4 = 0 ∨ j % 4 = 1 ∨ j % 4 = 2 ∨ j % 4 = 3 := by omega
  rcases h4 with h | h | h | h <;> rw [h]
  · have : 0 + j = 0 + j / 4 * 4 := by omega
    rw [this, c0]; rfl
  · have : 0 + j = 0 + j / 4 * 4 + 1 := by omega
    rw [this, c1]; rfl
  · have : 0 + j = 0 + j / 4 * 4 + 2 := by omega
    rw [this, c2]; rfl
  · have : 0 + j = 0 + j / 4 * 4 + 3 := by omega
    rw [this, c3]; rfl
theorem tbat_of {w : World} {blk : Nat} {d : Array Tb} (h : HoldsK tv 4 w blk 0 d) : TbAt w blk 0 d.toList := by
  intro i hi
  have hi' : i < d.size := by simpa using hi
  have he : d[i]! = d.toList[i] := by rw [getElem!_pos d i hi']; simp
  have c0 := (h.cell hi' (show 0 < 4 by decide)).1
  have c1 := (h.cell hi' (show 1 < 4 by decide)).1
  have c2 := (h.cell hi' (show 2 < 4 by decide)).1
  have c3 := (h.cell hi' (show 3 < 4 by decide)).1
  rw [he] at c0 c1 c2 c3
  exact ⟨c0, c1, c2, c3⟩
theorem grown_sortK {w : World} {g n : Nat} {os : Array Obj} (d : Array Tb) : w.grownBy (sortWorldK tv 4 w g 0 n d os) (some g) := by
  refine ⟨rfl, rfl, rfl, by simp [sortWorldK, putRowK], fun k hk hne => ?_⟩
  unfold sortWorldK
  rw [heap_grow_old _ _ (by simpa [putRowK] using hk)]
  have : g ≠ k := fun e => hne (by rw [e])
  simp [putRowK, putRow, mapBlock, Sort.ahead, Array.getElem?_modify, this]
/-- The slice in order: other cells are as they were. -/
def Stb (base : Nat) (a : Option Addr) (n cap : Nat) (vs : List Tb) (w : World) (e : Ending) (w' : World) : Prop := e = .returned (.tuple #[]) ∧ ∃ L, L.Perm vs ∧ Wk L ∧ ST w' a n cap L ∧ Below base w w'
set_option maxRecDepth 1000000 in
set_option maxHeartbeats 4000000 in
theorem stable_nil (w : World) : Calls Try.prog 43 #[.slice none 0 0, .func (.func 44) #[] #[]] w fun e w' => e = .returned (.tuple #[]) ∧ w' = w := by
  go_enter Try.func43, Try.ntmps43
  have HS : Hid (∀ w, Calls Try.prog 66 #[.slice none 0 0, .int .i64 0, .func (.func 44) #[] #[]] w fun e w' => e = .returned (.tuple #[]) ∧ w' = w) := Lib.hid fun w => by
    have HI : Hid (∀ w, Calls Try.prog 74 #[.slice none 0 0, .int .i64 0, .int .i64 0, .func (.func 44) #[] #[]] w fun e w' => e = .returned (.tuple #[]) ∧ w' = w) := Lib.hid fun w => by
      go_enter Try.func74, Try.ntmps74
      go_wp2_with fail
      refine wp_loop_rounds 1 ?_
      rw [rounds_succ]
      go_wp2_with fail
      go_end0
      exact ⟨rfl, rfl⟩
    go_enter Try.func66, Try.ntmps66
    go_wp2_with fail
    refine wp_loop_rounds 1 ?_
    rw [rounds_succ]
    go_wp2_with fail
    refine (HI.out _).mono ?_
    rintro e w1 ⟨rfl, rfl⟩
    go_wp2_with fail
    refine wp_loop_rounds 1 ?_
    rw [rounds_succ]
    go_wp2_with fail
    go_end0
    exact ⟨rfl, rfl⟩
  go_wp2_with fail
  refine (HS.out _).mono ?_
  rintro e w1 ⟨rfl, rfl⟩
  go_wp2_with fail
  go_end0
  exact ⟨rfl, rfl⟩
set_option maxRecDepth 1000000 in
set_option maxHeartbeats 4000000 in
theorem sortTab_any (base : Nat) (v : Value) (vs : List Tb) (w : World) (hb : base ≤ w.heap.size) (hvn : vs.length ≤ 100000) (hrow : w.ownsRow base 49 4 v vs.length (tv4 vs)) :
    ∃ a cap, v = .slice a vs.length cap ∧ Calls Try.prog 43 #[.slice a vs.length cap, .func (.func 44) #[] #[]] w (Stb base a vs.length cap vs w) := by
  obtain ⟨a0, cap0, hv0, hst⟩ := own_st hrow rfl
  rcases hrow.2 with ⟨rfl, hz⟩ | ⟨gb, gc, cur, rfl, hbase, hgb, r1, r2, r3, r4⟩
  · have hzs : vs = [] := List.length_eq_zero_iff.1 hz
    subst hzs
    refine ⟨none, 0, rfl, (stable_nil w).mono fun e w' h => ?_⟩
    obtain ⟨h1, rfl⟩ := h
    exact ⟨h1, [], List.Perm.refl _, List.Pairwise.nil, ⟨rfl, .inl rfl, Nat.le_refl _, Nat.zero_le _⟩, Below.refl _ _⟩
  · refine ⟨_, gc, rfl, ?_⟩
    have hgl : gb < w.heap.size := (Array.getElem?_eq_some_iff.1 hgb).1
    have hEA : TbAt w gb 0 vs := by
      intro i hi
      cases hv0
      rcases hst.2.1 with h | ⟨b, o', e1, -, e3⟩
      · rw [h] at hi; simp at hi
      · cases e1; exact e3 i hi
    have hH := holdsK_of hgb hEA
    have hvl : vs.length < 4611686018427387904 := by omega
    have eg : ∀ args w, (callFunc 44 args).run Try.prog w = .ok (.enter 44 args) w := enters_of Try.func44 (by kernel_rfl) rfl
    have ein : ∀ args w, (callFunc 74 args).run Try.prog w = .ok (.enter 74 args) w := enters_of Try.func74 (by kernel_rfl) rfl
    have R : RowK tv 4 w gb 0 vs.toArray := ⟨fun _ => rfl, fun x u hu => by simp [tv] at hu; rcases hu with rfl | rfl | rfl | rfl <;> rfl, hH, hgl⟩
    have hC : CmpLays Try.prog 44 #[] tv 4 ordT gb 0 vs.toArray.size w := fun m os dk _ x y => ordt_gr x y _
    have hcon := stable_any slt 4 Try.isAgg49 Try.sizeOf49 tv 44 #[] gb 0 gc vs.length vs.toArray w R (by simp) hvl ordT eg hC swo_ordT ein
      (fun dk hs W S x y hxy hy => by
        have hsz : dk.size = vs.length := by rw [← hs]; simp
        have hHW := S.holds hgl hH hs.symm
        have hC2 : CmpLays Try.prog 44 #[] tv 4 ordT gb 0 dk.size W := fun m os dk _ x y => ordt_gr x y _
        have h := AnyQ.insertionSortCmpFunc insl 4 Try.isAgg49 Try.sizeOf49 tv R.hk R.h1 ordT 44 #[] gb 0 gc x y dk W eg hC2 hHW (S.lt hgl) hxy (by omega) (by omega)
        rw [hsz] at h
        refine h.mono fun e w' k => ?_
        obtain ⟨k1, m, os, rfl⟩ := k
        exact ⟨k1, S.on hgl m _ os (Go.Sort.insertionSort_holds swo_ordT dk x y hxy (by omega)).1.1⟩)
      vs.toArray rfl w (SWK.start hH)
    have HS := Lib.hid hcon
    have HR := Lib.hid (And.intro hbase (And.intro r1 (And.intro r2 (And.intro hH (And.intro hgl hb)))))
    clear hcon hC R eg ein hvl hvn hH hEA hgl hst hv0 hrow hgb r1 r2 r3 r4 hbase hb
    obtain ⟨zl, hzl⟩ : ∃ zl, zl = vs.length := ⟨_, rfl⟩
    rw [← hzl] at HS HR ⊢
    have HZ := Lib.hid hzl
    clear hzl
    go_enter Try.func43, Try.ntmps43
    go_wp2_with fail
    refine HS.out.mono ?_
    rintro e w2 ⟨rfl, d', hp, hs, nn', os, rfl⟩
    have HQ := Lib.hid (And.intro hp hs)
    clear hp hs
    go_wp2_with fail
    go_end0
    obtain ⟨hbase, r1, r2, hH, hgl, hbw⟩ := HR.out
    obtain ⟨⟨hsz, -, hperm⟩, hsrt⟩ := HQ.out
    have hz := HZ.out
    have hds : d'.size = vs.length := by simpa using hsz
    have hH2 := tbat_of (holdsK_sortWorldK_c tv 4 w gb 0 vs.toArray d' nn' os hH hgl (by rw [hds]; simp))
    have hpm : d'.toList.Perm vs := by
      have h := hperm
      rw [hz] at h
      rw [show (vs.toArray.extract 0 vs.length).toList = vs by simp] at h
      rw [show (d'.extract 0 vs.length).toList = d'.toList by rw [← hds]; simp] at h
      exact h
    have hpw : Wk d'.toList := by
      show List.Pairwise _ _
      rw [List.pairwise_iff_getElem]
      intro i j hi hj hij
      have hi' : i < d'.size := by simpa using hi
      have hj' : j < d'.size := by simpa using hj
      have h := hsrt i j (Nat.zero_le _) hij (by omega)
      rw [ltOf_ordT, getElem!_pos d' i hi', getElem!_pos d' j hj'] at h
      simpa using h
    have hlen : d'.toList.length = zl := by rw [hz]; simpa using hds
    refine ⟨rfl, d'.toList, hpm, hpw, ⟨hlen, .inr ⟨gb, 0, rfl, ?_, hH2⟩, r1, r2⟩, ?_⟩
    · exact Nat.lt_of_lt_of_le hgl (grown_sortK (n := nn') (os := os) d').size
    · exact (Below.refl _ w).grown (grown_sortK d') hbw (fun j hj => by cases hj; exact hbase)
end Go.Proofs.Ythmkalnbdocdcaa
