/-
  Layer 5 (fs): what each doing makes of a disk in plain; contracts of Make, Append, Sync, Rename, Remove. Conditions: texts within the form's reach.
-/
import Derived.Test.YthikedhbjphmeaaDc
namespace Go.Proofs.Ythikedhbjphmeaa
open Go.RowKit Go.Lib
set_option linter.unusedVariables false

/-! ### plain -/
def Ds.begin (S : Ds) (ok : Bool) : Ds := ⟨S.files, begF ok S.fuse S.off, begO ok S.fuse S.off⟩
def fE {α : Type} (o : Option α) : Int := match o with | some _ => 0 | none => 3
def Ds.chgE (S : Ds) (ok : Bool) (n : List UInt8) : Int := if begE ok S.fuse S.off = 0 then fE (getL n S.files) else begE ok S.fuse S.off
def Ds.make (S : Ds) (n : List UInt8) : Ds × Int :=
  if begE (namL n) S.fuse S.off = 0 then
    match getL n S.files with
    | some _ => (S.begin (namL n), 1)
    | none => if 256 ≤ S.files.length then (S.begin (namL n), 2) else (⟨putL n ⟨[], 0⟩ S.files, (S.begin (namL n)).fuse, (S.begin (namL n)).off⟩, 0)
  else (S.begin (namL n), begE (namL n) S.fuse S.off)
def Ds.append (S : Ds) (n s : List UInt8) : Ds × Int :=
  if S.chgE (namL n) n = 0 then
    match getL n S.files with
    | some f => if 4194304 < f.bytes.length + s.length then (S.begin (namL n), 2) else (⟨setL n ⟨f.bytes ++ s, f.sure⟩ S.files, (S.begin (namL n)).fuse, (S.begin (namL n)).off⟩, 0)
    | none => (S.begin (namL n), 3)
  else (S.begin (namL n), S.chgE (namL n) n)
def Ds.sync (S : Ds) (n : List UInt8) : Ds × Int :=
  if S.chgE (namL n) n = 0 then
    match getL n S.files with
    | some f => (⟨setL n ⟨f.bytes, f.bytes.length⟩ S.files, (S.begin (namL n)).fuse, (S.begin (namL n)).off⟩, 0)
    | none => (S.begin (namL n), 3)
  else (S.begin (namL n), S.chgE (namL n) n)
def Ds.rename (S : Ds) (n k : List UInt8) : Ds × Int :=
  if S.chgE (namL n && namL k) n = 0 then
    match getL n S.files with
    | some f => (⟨putL k f (delL n S.files), (S.begin (namL n && namL k)).fuse, (S.begin (namL n && namL k)).off⟩, 0)
    | none => (S.begin (namL n && namL k), 3)
  else (S.begin (namL n && namL k), S.chgE (namL n && namL k) n)
def Ds.remove (S : Ds) (n : List UInt8) : Ds × Int :=
  if S.chgE (namL n) n = 0 then (⟨delL n S.files, (S.begin (namL n)).fuse, (S.begin (namL n)).off⟩, 0)
  else (S.begin (namL n), S.chgE (namL n) n)

theorem infoF : (Try.prog.info? 5).map (fun i => (i.zero, i.size, i.bytes)) = some (some (.int .u8 0), 1, 1) := by kernel_rfl

section
variable {own : Nat → Prop} {w : World} {d m : Nat} {G : List (List UInt8 × Gf)} {fuse : Int} {off : Bool}
/-- A slice of one name, of two, that a caller builds. -/
theorem names1 (w : World) (name : ByteArray) : Rd (w.alloc (.cells #[.string name] 9)) (some ⟨w.heap.size, 0, none⟩) [name.data.toList] := by
  refine .inr ⟨_, _, rfl, by simp, fun i hi => ?_⟩
  obtain rfl : i = 0 := by simp at hi; omega
  simp [go_sem]
theorem names2 (w : World) (name to : ByteArray) : Rd (w.alloc (.cells #[.string name, .string to] 9)) (some ⟨w.heap.size, 0, none⟩) [name.data.toList, to.data.toList] := by
  refine .inr ⟨_, _, rfl, by simp, fun i hi => ?_⟩
  simp only [List.length_cons, List.length_nil] at hi
  match i, hi with
  | 0, _ => simp [go_sem]
  | 1, _ => simp [go_sem]
theorem all1 (n : List UInt8) : [n].all namL = namL n := by simp
theorem all2 (n k : List UInt8) : [n, k].all namL = (namL n && namL k) := by simp
/-- The caller's block is nobody's, so a callee keeps it; what comes back of it. -/
theorem Dsk.lent (h : Dsk own w d m G fuse off) (o : Obj) : Dsk (fun b => own b ∨ b = w.heap.size) (w.alloc o) d m G fuse off :=
  (h.fresh ((Below.refl _ _).alloc (Nat.le_refl _) o)).weaken fun b hb => by
    rcases hb with hb | rfl
    · exact .inl hb
    · exact .inr ⟨Nat.le_refl _, by simp⟩
theorem Dsk.lent_back {w1 : World} (h : Dsk own w d m G fuse off) (o : Obj) (hk : Keeps (fun b => own b ∨ b = w.heap.size) (w.alloc o) w1) : Keeps own w w1 :=
  (Keeps.alloc w o fun b hb => (h.own b hb).1).trans (hk.mono fun b hb => .inl hb)
theorem Dsk.ours (h : Dsk own w d m G fuse off) (own' : Nat → Prop) (ho : ∀ b, own' b → own b) : Dsk own' w d m G fuse off := h.weaken ho
/-- An empty file under a new name. -/
theorem Dsk.makeFile {w' : World} (h : Dsk own w d m G fuse off) {k : List UInt8} {n : Nat} (hl : G.length < 256) (hg : (w.alloc (.cells #[.slice none 0 0, .int .i64 0] 81)).grownBy w' (some m))
    (hm : w'.ownsMap Try.prog 9 fR m n ((fD (mapL Gf.blk G)).put (.string k) (.lit (.int .i64 ((w.heap.size : Nat) : Int))))) : Dsk own w' d m (putL k ⟨⟨[], 0⟩, w.heap.size, none⟩ G) fuse off ∧ Keeps own w w' := by
  have hb : Below w.heap.size w (w.alloc (.cells #[.slice none 0 0, .int .i64 0] 81)) := (Below.refl _ _).alloc (Nat.le_refl _) _
  have h1 := h.below hb
  rw [fD_put] at hm
  have hf : FileAt (w.alloc (.cells #[.slice none 0 0, .int .i64 0] 81)) ⟨⟨[], 0⟩, w.heap.size, none⟩ :=
    ⟨.slice none 0 0, heap_alloc_new w _, World.ownsRow_nil .., rfl, Nat.le_refl _, Nat.zero_le _⟩
  refine ⟨h1.putFile hf hg hm (fun p hp _ => ?_) (fun p hp _ r hr => ?_) (fun b hb => ⟨?_, by simp⟩) ?_, (Keeps.alloc w _ fun b hb => (h.own b hb).1).trans (h1.mapKeeps hg)⟩
  · have := (h.file p hp).lt; show p.2.blk ≠ w.heap.size; omega
  · simp
  · have := (h.own b hb).1; show b ≠ w.heap.size; omega
  · have := length_putL_le k (⟨⟨[], 0⟩, w.heap.size, none⟩ : Gf) G; omega
end

set_option maxRecDepth 100000 in
set_option maxHeartbeats 2000000 in
theorem make_any {own : Nat → Prop} {w : World} {d : Nat} {S : Ds} (h : DiskAt own w d S) (name : ByteArray) (hn : name.size ≤ maxLen) :
    Calls Try.prog 43 #[.pointer (some ⟨d, 0, none⟩), .string name] w fun e w' => e = .returned (.int .i64 (S.make name.data.toList).2) ∧ DiskAt own w' d (S.make name.data.toList).1 ∧ Keeps own w w' := by
  obtain ⟨m, G, h, hF⟩ := h
  have hG : getL name.data.toList S.files = (getL name.data.toList G).map Gf.fl := by rw [← hF, getL_mapL]
  have hL : S.files.length = G.length := by rw [← hF, length_mapL]
  have A := begin_any (h.lent (.cells #[.string name] 9)) (some ⟨w.heap.size, 0, none⟩) 1 [name.data.toList] (names1 w name) (by simp [maxLen]) (by intro t ht; simp at ht; subst ht; rw [Array.length_toList]; exact hn)
  rw [all1, List.length_singleton] at A
  have hkey : keyOf Try.prog 9 (.string name) = some (.string name.data.toList) := WideMaps.keyOf_string_mk Try.underlying9 hn
  have HK := Lib.hid hkey
  have h3 := begE_cases (namL name.data.toList) S.fuse S.off
  have H := Lib.hid h
  have HF := Lib.hid hF
  clear h hF hkey
  unfold Ds.make
  by_cases h0 : begE (namL name.data.toList) S.fuse S.off = 0
  · rw [if_pos h0]
    rw [h0] at A
    clear h0 h3
    have A := Lib.hid A
    cases hg : getL name.data.toList G with
    | some g =>
      rw [hG, hg]
      simp only [Option.map_some]
      have HG := Lib.hid hg
      clear hg hG hL
      go_enter Try.func43, Try.ntmps43
      go_wp2_with fail
      refine A.out.mono ?_
      rintro e w1 ⟨rfl, h1, k1⟩
      have C := find_any h1 name hn
      rw [HG.out] at C
      simp only [findP, findE] at C
      have H1 := Lib.hid h1
      have K1 := Lib.hid k1
      clear h1 k1
      go_wp2_with (go_at_call 56; refine C.mono ?_; rintro e w' ⟨rfl, rfl⟩)
      go_ret
      exact ⟨rfl, ⟨m, G, H1.out.weaken fun b hb => .inl hb, HF.out⟩, H.out.lent_back _ K1.out⟩
    | none =>
      rw [hG, hg, hL]
      have HG := Lib.hid hg
      clear hg hG hL
      by_cases hl : 256 ≤ G.length
      · have hlen : (256 : Int) ≤ (G.length : Int) := by omega
        simp only [Option.map_none, if_pos hl]
        have hl' := Lib.hid hl
        clear hl
        go_enter Try.func43, Try.ntmps43
        go_wp2_with fail
        refine A.out.mono ?_
        rintro e w1 ⟨rfl, h1, k1⟩
        have C := find_any h1 name hn
        rw [HG.out] at C
        simp only [findP, findE] at C
        obtain ⟨c0, c1, c2, c3, f2, f3, lt⟩ := h1.cells
        have HM := Lib.hid h1.mp
        have H1 := Lib.hid h1
        have K1 := Lib.hid k1
        clear h1 k1
        go_wp2_with (first
          | (go_at_call 56; refine C.mono ?_; rintro e w' ⟨rfl, rfl⟩)
          | (at_len; refine wpList_len_own _ rfl _ 43 rfl 9 65 Try.underlying43 fR m _ _ rfl HM.out ?_; rw [fD_size, length_mapL]))
        go_ret
        exact ⟨rfl, ⟨m, G, H1.out.weaken fun b hb => .inl hb, HF.out⟩, H.out.lent_back _ K1.out⟩
      · have hlen : ¬ (256 : Int) ≤ (G.length : Int) := by omega
        simp only [Option.map_none, if_neg hl]
        have hl' := Lib.hid hl
        clear hl
        go_enter Try.func43, Try.ntmps43
        go_wp2_with fail
        refine A.out.mono ?_
        rintro e w1 ⟨rfl, h1, k1⟩
        have C := find_any h1 name hn
        rw [HG.out] at C
        simp only [findP, findE] at C
        obtain ⟨c0, c1, c2, c3, f2, f3, lt⟩ := h1.cells
        have HM := Lib.hid h1.mp
        have H1 := Lib.hid h1
        have K1 := Lib.hid k1
        clear h1 k1
        go_wp2_with (first
          | (go_at_call 56; refine C.mono ?_; rintro e w' ⟨rfl, rfl⟩)
          | (at_len; refine wpList_len_own _ rfl _ 43 rfl 9 65 Try.underlying43 fR m _ _ rfl HM.out ?_; rw [fD_size, length_mapL])
          | (at_mapUpdate; refine wpList_mapUpdate_own _ rfl _ _ _ 43 rfl 9 65 (Maps.string_keyed Try.underlying9) Try.underlying43 fR m _ _ rfl (HM.out.alloc _) (by unfold maxLen; have := H.out.len; omega) _ _ _ rfl rfl HK.out (.lit (.int .i64 ((w1.heap.size : Nat) : Int))) [] rfl ?_; intro w4 o4 g4))
        go_ret
        obtain ⟨h5, k5⟩ := (H1.out.weaken (own' := own) fun b hb => .inl hb).makeFile (by have := hl'.out; omega) g4 o4
        exact ⟨rfl, ⟨m, _, h5, by rw [mapL_putL, HF.out]⟩, (H.out.lent_back _ K1.out).trans k5⟩
  · rw [if_neg h0]
    have hE : begE (namL name.data.toList) S.fuse S.off = 1 ∨ begE (namL name.data.toList) S.fuse S.off = 50 := by omega
    clear h3 h0 hG hL
    rcases hE with hE | hE
    all_goals
      rw [hE] at A ⊢
      clear hE
      go_enter Try.func43, Try.ntmps43
      go_wp2_with fail
      refine A.mono ?_
      rintro e w1 ⟨rfl, h1, k1⟩
      have H1 := Lib.hid h1
      have K1 := Lib.hid k1
      clear h1 k1 A
      go_wp2
      go_ret
      exact ⟨rfl, ⟨m, G, H1.out.weaken fun b hb => .inl hb, HF.out⟩, H.out.lent_back _ K1.out⟩
end Go.Proofs.Ythikedhbjphmeaa
