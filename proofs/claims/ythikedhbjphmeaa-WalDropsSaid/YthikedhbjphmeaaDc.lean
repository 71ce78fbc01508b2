/-
  Layer 5 (fs), contracts of given, ask, begin, find, change, look: what a doing is refused for, and which file a name has. Conditions: texts within the form's reach.
-/
import Derived.Test.YthikedhbjphmeaaDk
import Derived.Maps.OwnOps
import Derived.LaidEqlPtr
namespace Go.Proofs.Ythikedhbjphmeaa
open Go.RowKit
set_option linter.unusedVariables false

theorem cell_of {w : World} {b : Nat} {cs : Array Value} {t : TypeId} {fz : Nat × Nat} (h : w.heap[b]? = some (.cells cs t fz)) (i : Nat) : w.cell? ⟨b, i, none⟩ = cs[i]? := by simp [World.cell?, h]
theorem frozen_of {w : World} {b : Nat} {cs : Array Value} {t : TypeId} (h : w.heap[b]? = some (.cells cs t (0, 0))) (i : Nat) : w.frozen? ⟨b, i, none⟩ = false := by simp [World.frozen?, h]
structure DCells (w : World) (d m : Nat) (fuse : Int) (off : Bool) : Prop where
  c0 : w.cell? ⟨d, 0, none⟩ = some (.pointer (some ⟨d, 0, none⟩))
  c1 : w.cell? ⟨d, 1, none⟩ = some (.map (some m))
  c2 : w.cell? ⟨d, 2, none⟩ = some (.int .i64 fuse)
  c3 : w.cell? ⟨d, 3, none⟩ = some (.bool off)
  f2 : w.frozen? ⟨d, 2, none⟩ = false
  f3 : w.frozen? ⟨d, 3, none⟩ = false
  lt : d < w.heap.size
theorem Dsk.cells {own : Nat → Prop} {w : World} {d m : Nat} {G : List (List UInt8 × Gf)} {fuse : Int} {off : Bool} (h : Dsk own w d m G fuse off) : DCells w d m fuse off :=
  ⟨cell_of h.db 0, cell_of h.db 1, cell_of h.db 2, cell_of h.db 3, frozen_of h.db 2, frozen_of h.db 3, h.d_lt⟩

theorem infoDisk : (Try.prog.info? 45).map (·.size) = some 4 := by kernel_rfl
theorem ptr_same (a : Addr) (w : World) : (binOp .eql 25 (.pointer (some a)) (.pointer (some a))).run Try.prog w = .ok (.bool true) w := by
  obtain ⟨j, hj, _⟩ := Option.map_eq_some_iff.1 infoDisk
  exact run_eql_ptr_same w a Try.underlying25 hj
theorem ptr_nil_left (a : Addr) (w : World) : (binOp .eql 25 (.pointer none) (.pointer (some a))).run Try.prog w = .ok (.bool false) w := by
  have h : ∀ d : Nat, (Op.equalIn (d + 1) 25 (.pointer none) (.pointer (some a))).run Try.prog w = .ok false w := fun d => by
    simp [Op.equalIn, run_underlying Try.underlying25]
  simp only [binOp]
  simp [Op.equal, Op.maxDepth, h 9999]
theorem given_yes (d : Nat) (w : World) (h : w.cell? ⟨d, 0, none⟩ = some (.pointer (some ⟨d, 0, none⟩))) : Calls Try.prog 32 #[.pointer (some ⟨d, 0, none⟩)] w fun e w' => e = .returned (.bool true) ∧ w = w' := by
  have E := ptr_same ⟨d, 0, none⟩
  go_enter Try.func32, Try.ntmps32
  go_wp2
  go_ret
  exact ⟨rfl, rfl⟩
theorem given_nil (w : World) : Calls Try.prog 32 #[.pointer none] w fun e w' => e = .returned (.bool false) ∧ w = w' := by
  go_enter Try.func32, Try.ntmps32
  go_wp2
  go_ret
  exact ⟨rfl, rfl⟩
theorem given_no (d : Nat) (w : World) (h : w.cell? ⟨d, 0, none⟩ = some (.pointer none)) : Calls Try.prog 32 #[.pointer (some ⟨d, 0, none⟩)] w fun e w' => e = .returned (.bool false) ∧ w = w' := by
  have E := ptr_nil_left ⟨d, 0, none⟩
  go_enter Try.func32, Try.ntmps32
  go_wp2
  go_ret
  exact ⟨rfl, rfl⟩
/-- What ask answers. -/
def askE (ok off : Bool) : Int := if ok = true then (if off = true then 50 else 0) else 1
theorem ask_nil (p : Option Addr) (hp : ∀ w : World, ∀ b, w = b → True) (v : Value) (w : World) (h : Calls Try.prog 32 #[.pointer p] w fun e w' => e = .returned (.bool false) ∧ w = w') :
    Calls Try.prog 63 #[.pointer p, v] w fun e w' => e = .returned (.int .i64 1) ∧ w = w' := by
  go_enter Try.func63, Try.ntmps63
  go_wp2_with (go_at_call 32; refine h.mono ?_; rintro e w' ⟨rfl, rfl⟩)
  go_ret
  exact ⟨rfl, rfl⟩
set_option maxHeartbeats 1000000 in
theorem ask_any (d m : Nat) (fuse : Int) (off : Bool) (a : Option Addr) (cap : Nat) (ts : List (List UInt8)) (w : World) (hd : DCells w d m fuse off) (h : Rd w a ts) (hl : ts.length ≤ maxLen) (hs : ∀ t ∈ ts, t.length ≤ maxLen) :
    Calls Try.prog 63 #[.pointer (some ⟨d, 0, none⟩), .slice a ts.length cap] w fun e w' => e = .returned (.int .i64 (askE (ts.all namL) off)) ∧ w = w' := by
  have A := given_yes d w hd.c0
  have B := mayBe_any a cap ts w h hl hs
  have c3 := hd.c3
  clear hd h hl hs
  cases hok : ts.all namL with
  | false =>
    rw [hok] at B
    go_enter Try.func63, Try.ntmps63
    go_wp2_with (first
      | (go_at_call 32; refine A.mono ?_; rintro e w' ⟨rfl, rfl⟩)
      | (go_at_call 71; refine B.mono ?_; rintro e w' ⟨rfl, rfl⟩))
    go_ret
    exact ⟨rfl, rfl⟩
  | true =>
    rw [hok] at B
    cases off with
    | false =>
      go_enter Try.func63, Try.ntmps63
      go_wp2_with (first
        | (go_at_call 32; refine A.mono ?_; rintro e w' ⟨rfl, rfl⟩)
        | (go_at_call 71; refine B.mono ?_; rintro e w' ⟨rfl, rfl⟩))
      go_ret
      exact ⟨rfl, rfl⟩
    | true =>
      go_enter Try.func63, Try.ntmps63
      go_wp2_with (first
        | (go_at_call 32; refine A.mono ?_; rintro e w' ⟨rfl, rfl⟩)
        | (go_at_call 71; refine B.mono ?_; rintro e w' ⟨rfl, rfl⟩))
      go_ret
      exact ⟨rfl, rfl⟩

/-! ### begin -/
def begE (ok : Bool) (fuse : Int) (off : Bool) : Int := if ok = true then (if off = true then 50 else if fuse = 0 then 50 else 0) else 1
def begF (ok : Bool) (fuse : Int) (off : Bool) : Int := if ok = true ∧ off = false ∧ 0 < fuse then fuse - 1 else fuse
def begO (ok : Bool) (fuse : Int) (off : Bool) : Bool := if ok = true ∧ fuse = 0 then true else off
theorem begE_cases (ok : Bool) (fuse : Int) (off : Bool) : begE ok fuse off = 0 ∨ begE ok fuse off = 1 ∨ begE ok fuse off = 50 := by
  unfold begE; split <;> (try split) <;> (try split) <;> simp
section
variable {own : Nat → Prop} {w : World} {d m : Nat} {G : List (List UInt8 × Gf)} {fuse : Int} {off : Bool}
set_option maxHeartbeats 1000000 in
theorem begin_any (h : Dsk own w d m G fuse off) (a : Option Addr) (cap : Nat) (ts : List (List UInt8)) (hr : Rd w a ts) (hl : ts.length ≤ maxLen) (hs : ∀ t ∈ ts, t.length ≤ maxLen) :
    Calls Try.prog 55 #[.pointer (some ⟨d, 0, none⟩), .slice a ts.length cap] w fun e w' => e = .returned (.int .i64 (begE (ts.all namL) fuse off)) ∧ Dsk own w' d m G (begF (ts.all namL) fuse off) (begO (ts.all namL) fuse off) ∧ Keeps own w w' := by
  have A := ask_any d m fuse off a cap ts w h.cells hr hl hs
  obtain ⟨_, _, c2, c3, f2, f3, lt⟩ := h.cells
  have hfz := h.fz
  have H := Lib.hid h
  clear h hr hl hs
  cases hok : ts.all namL with
  | false =>
    rw [hok] at A
    simp only [askE] at A
    go_enter Try.func55, Try.ntmps55
    go_wp2_with (go_at_call 63; refine A.mono ?_; rintro e w' ⟨rfl, rfl⟩)
    go_ret
    exact ⟨rfl, by simpa [begF, begO] using H.out, Keeps.refl _ _⟩
  | true =>
    rw [hok] at A
    cases off with
    | true =>
      simp only [askE] at A
      go_enter Try.func55, Try.ntmps55
      go_wp2_with (go_at_call 63; refine A.mono ?_; rintro e w' ⟨rfl, rfl⟩)
      go_ret
      exact ⟨rfl, by simpa [begF, begO] using H.out, Keeps.refl _ _⟩
    | false =>
      simp only [askE] at A
      by_cases h0 : fuse = 0
      · subst h0
        go_enter Try.func55, Try.ntmps55
        go_wp2_with (go_at_call 63; refine A.mono ?_; rintro e w' ⟨rfl, rfl⟩)
        go_ret
        exact ⟨rfl, by simpa [begF, begO] using H.out.setOff true, H.out.keepsCell _ _⟩
      · have hne : (fuse == 0) = false := by simpa using h0
        by_cases h1 : 0 < fuse
        · go_enter Try.func55, Try.ntmps55
          go_wp2_with (go_at_call 63; refine A.mono ?_; rintro e w' ⟨rfl, rfl⟩)
          go_ret
          have e1 : begF true fuse false = fuse - 1 := by unfold begF; rw [if_pos ⟨rfl, rfl, h1⟩]
          have e2 : begO true fuse false = false := by unfold begO; rw [if_neg (fun e => h0 e.2)]
          rw [e1, e2]
          exact ⟨by simp [begE, h0], H.out.setFuse (fuse - 1) (by omega), H.out.keepsCell _ _⟩
        · go_enter Try.func55, Try.ntmps55
          go_wp2_with (go_at_call 63; refine A.mono ?_; rintro e w' ⟨rfl, rfl⟩)
          go_ret
          have e1 : begF true fuse false = fuse := by unfold begF; rw [if_neg (fun e => absurd e.2.2 (by omega))]
          have e2 : begO true fuse false = false := by unfold begO; rw [if_neg (fun e => h0 e.2)]
          rw [e1, e2]
          exact ⟨by simp [begE, h0], H.out, Keeps.refl _ _⟩

/-! ### find -/
def findP (o : Option Gf) : Value := match o with | some g => .pointer (some ⟨g.blk, 0, none⟩) | none => .pointer none
def findE (o : Option Gf) : Int := match o with | some _ => 0 | none => 3
set_option maxHeartbeats 1000000 in
theorem find_any (h : Dsk own w d m G fuse off) (name : ByteArray) (hn : name.size ≤ maxLen) :
    Calls Try.prog 56 #[.pointer (some ⟨d, 0, none⟩), .string name] w fun e w' => e = .returned (.tuple #[findP (getL name.data.toList G), .int .i64 (findE (getL name.data.toList G))]) ∧ w = w' := by
  obtain ⟨c0, c1, c2, c3, f2, f3, lt⟩ := h.cells
  have HM := Lib.hid h.mp
  have hkey : keyOf Try.prog 9 (.string name) = some (.string name.data.toList) := WideMaps.keyOf_string_mk Try.underlying9 hn
  have HK := Lib.hid hkey
  have hhas := fD_has name.data.toList (mapL Gf.blk G)
  have hat := fD_at name.data.toList (mapL Gf.blk G) .nil
  rw [getL_mapL] at hhas hat
  clear h hn hkey
  cases hg : getL name.data.toList G with
  | none =>
    rw [hg] at hhas hat
    have HA := Lib.hid hat
    have HH := Lib.hid hhas
    clear hg hhas hat
    go_enter Try.func56, Try.ntmps56
    go_wp2_with (at_lookup; refine wpList_lookup_own_ok _ rfl _ _ 43 rfl 9 65 (Maps.string_keyed Try.underlying9) Try.underlying43 fR (Try.zeroValue65 _) .nil [] rfl m _ _ rfl HM.out _ _ rfl HK.out ?_; intro v ps hv; rw [HA.out] at hv; obtain rfl := fR_inv_nil hv; clear hv; rw [HH.out])
    go_ret2
    exact ⟨rfl, rfl⟩
  | some g =>
    rw [hg] at hhas hat
    have HA := Lib.hid hat
    have HH := Lib.hid hhas
    clear hg hhas hat
    go_enter Try.func56, Try.ntmps56
    go_wp2_with (at_lookup; refine wpList_lookup_own_ok _ rfl _ _ 43 rfl 9 65 (Maps.string_keyed Try.underlying9) Try.underlying43 fR (Try.zeroValue65 _) .nil [] rfl m _ _ rfl HM.out _ _ rfl HK.out ?_; intro v ps hv; rw [HA.out] at hv; obtain rfl := fR_inv hv; clear hv; rw [HH.out])
    go_ret2
    exact ⟨rfl, rfl⟩

/-! ### change, look -/
def chgP (E : Int) (o : Option Gf) : Value := if E = 0 then findP o else .pointer none
def chgE (E : Int) (o : Option Gf) : Int := if E = 0 then findE o else E
set_option maxHeartbeats 1000000 in
theorem change_any (h : Dsk own w d m G fuse off) (name : ByteArray) (rest : List (List UInt8)) (b n cap : Nat) (hb : own b) (hn : name.size ≤ maxLen) (hr : Rd w (some ⟨b, 0, none⟩) (name.data.toList :: rest)) (hl : n = rest.length + 1) (hm : n ≤ maxLen) (hs : ∀ t ∈ rest, t.length ≤ maxLen) (E : Int) (hE : begE ((name.data.toList :: rest).all namL) fuse off = E) :
    Calls Try.prog 48 #[.pointer (some ⟨d, 0, none⟩), .slice (some ⟨b, 0, none⟩) n cap] w fun e w' => e = .returned (.tuple #[chgP E (getL name.data.toList G), .int .i64 (chgE E (getL name.data.toList G))]) ∧
      Dsk own w' d m G (begF ((name.data.toList :: rest).all namL) fuse off) (begO ((name.data.toList :: rest).all namL) fuse off) ∧ Keeps own w w' := by
  subst hl
  have hs' : ∀ t ∈ name.data.toList :: rest, t.length ≤ maxLen := by
    intro t ht
    rcases List.mem_cons.1 ht with rfl | ht
    · rw [Array.length_toList]; exact hn
    · exact hs t ht
  have A := begin_any h (some ⟨b, 0, none⟩) cap (name.data.toList :: rest) hr hm hs'
  have hc : w.cell? ⟨b, 0, none⟩ = some (.string name) := by
    rcases hr with hr | ⟨b', o, e, _, hc⟩
    · cases hr
    · cases e
      exact hc 0 (by simp)
  rw [hE] at A
  rw [List.length_cons] at A
  have hc3 := begE_cases ((name.data.toList :: rest).all namL) fuse off
  rw [hE] at hc3
  generalize (name.data.toList :: rest).all namL = ok at A ⊢
  have HC := Lib.hid hc
  unfold maxLen at hm
  clear hE hr hs hs' hc h
  by_cases h0 : E = 0
  · subst h0
    go_enter Try.func48, Try.ntmps48
    go_wp2_with fail
    refine A.mono ?_
    rintro e w1 ⟨rfl, h1, k1⟩
    have C := find_any h1 name hn
    have hc1 : w1.cell? ⟨b, 0, none⟩ = some (.string name) := (k1.cell b 0 hb).trans HC.out
    have H1 := Lib.hid h1
    have K1 := Lib.hid k1
    clear h1 k1
    go_wp2_with (go_at_call 56; refine C.mono ?_; rintro e w' ⟨rfl, rfl⟩)
    go_ret2
    exact ⟨rfl, H1.out, K1.out⟩
  · have hE : E = 1 ∨ E = 50 := by omega
    rcases hE with rfl | rfl
    all_goals
      go_enter Try.func48, Try.ntmps48
      go_wp2_with fail
      refine A.mono ?_
      rintro e w1 ⟨rfl, h1, k1⟩
      have H1 := Lib.hid h1
      have K1 := Lib.hid k1
      clear h1 k1
      go_wp2
      go_ret2
      exact ⟨rfl, H1.out, K1.out⟩
set_option maxHeartbeats 1000000 in
theorem look_any (h : Dsk own w d m G fuse off) (name : ByteArray) (hn : name.size ≤ maxLen) (E : Int) (hE : askE (namL name.data.toList) off = E) :
    Calls Try.prog 52 #[.pointer (some ⟨d, 0, none⟩), .string name] w fun e w' => e = .returned (.tuple #[chgP E (getL name.data.toList G), .int .i64 (chgE E (getL name.data.toList G))]) ∧ Dsk own w' d m G fuse off ∧ Below w.heap.size w w' := by
  have hb : Below w.heap.size w (w.alloc (.cells #[.string name] 9)) := (Below.refl _ _).alloc (Nat.le_refl _) _
  have h1 := h.below hb
  have hr : Rd (w.alloc (.cells #[.string name] 9)) (some ⟨w.heap.size, 0, none⟩) [name.data.toList] := by
    refine .inr ⟨_, _, rfl, by simp, fun i hi => ?_⟩
    obtain rfl : i = 0 := by simp at hi; omega
    simp [go_sem]
  have A := ask_any d m fuse off (some ⟨w.heap.size, 0, none⟩) 1 [name.data.toList] _ h1.cells hr (by simp [maxLen]) (by intro t ht; simp at ht; subst ht; rw [Array.length_toList]; exact hn)
  have C := find_any h1 name hn
  have eall : [name.data.toList].all namL = namL name.data.toList := by simp
  rw [eall, hE] at A
  rw [List.length_singleton] at A
  have hc : E = 0 ∨ E = 1 ∨ E = 50 := by
    rw [← hE]; unfold askE; split <;> (try split) <;> simp
  have H1 := Lib.hid h1
  have HB := Lib.hid hb
  clear h h1 hb hr eall hE
  rcases hc with rfl | rfl | rfl
  · go_enter Try.func52, Try.ntmps52
    go_wp2_with (first
      | (go_at_call 63; refine A.mono ?_; rintro e w' ⟨rfl, rfl⟩)
      | (go_at_call 56; refine C.mono ?_; rintro e w' ⟨rfl, rfl⟩))
    go_ret2
    exact ⟨rfl, H1.out, HB.out⟩
  all_goals
    go_enter Try.func52, Try.ntmps52
    go_wp2_with (go_at_call 63; refine A.mono ?_; rintro e w' ⟨rfl, rfl⟩)
    go_ret2
    exact ⟨rfl, H1.out, HB.out⟩
end
end Go.Proofs.Ythikedhbjphmeaa
