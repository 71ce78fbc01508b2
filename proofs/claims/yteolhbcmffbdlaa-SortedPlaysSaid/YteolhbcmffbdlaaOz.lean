/-
  Layer 7 (sorted): the walk of the law SortedPlays. Conditions: calls within the form's reach.
-/
import Derived.Test.YteolhbcmffbdlaaOu
import Derived.Test.YteolhbcmffbdlaaOg
import Derived.Deep.CutBlock
namespace Go.Proofs.Yteolhbcmffbdlaa
open Go.RowKit TI
set_option linter.unusedVariables false
set_option linter.unusedSimpArgs false

/-- What holds at every place of the script: the map and the document's, beside one another. -/
def PlS (w : World) (m g k : Nat) (wr : World) : Prop := ∃ L : List (Ky × Int), TI.MapAt wr m L ∧ QIn wr (g + 1) g L ∧ L.length ≤ k ∧ (wr.frozen? ⟨g, 0, none⟩ = false ∧ wr.frozen? ⟨g, 1, none⟩ = false ∧ wr.cell? ⟨g, 4, none⟩ = none) ∧ Below w.heap.size w wr
def PlI (w : World) (m g n : Nat) (i : Value) (wr : World) : Prop := ∃ k : Nat, i = .int .i64 k ∧ k ≤ n ∧ k ≤ 200 ∧ PlS w m g k wr
theorem keep4 {a b : World} {g i j g' o o' : Nat} {u v x y : Value} (h : a.cell? ⟨g, i, none⟩ = some u ∧ a.cell? ⟨g, j, none⟩ = some v ∧ a.cell? ⟨g', o, none⟩ = some x ∧ a.cell? ⟨g', o', none⟩ = some y) (hb : Below a.heap.size a b) :
    b.cell? ⟨g, i, none⟩ = some u ∧ b.cell? ⟨g, j, none⟩ = some v ∧ b.cell? ⟨g', o, none⟩ = some x ∧ b.cell? ⟨g', o', none⟩ = some y :=
  ⟨(hb.cell (p := ⟨g, i, none⟩) (cell_lt h.1)).trans h.1, (hb.cell (p := ⟨g, j, none⟩) (cell_lt h.2.1)).trans h.2.1, (hb.cell (p := ⟨g', o, none⟩) (cell_lt h.2.2.1)).trans h.2.2.1, (hb.cell (p := ⟨g', o', none⟩) (cell_lt h.2.2.2)).trans h.2.2.2⟩
theorem keep1 {a b : World} {g i : Nat} {u : Value} (h : a.cell? ⟨g, i, none⟩ = some u) (hb : Below a.heap.size a b) : b.cell? ⟨g, i, none⟩ = some u := (hb.cell (p := ⟨g, i, none⟩) (cell_lt h)).trans h
theorem PlS.keep {w W W' : World} {m g k : Nat} {L : List (Ky × Int)} (M : TI.MapAt W m L) (Q : QIn W (g + 1) g L) (F : W.frozen? ⟨g, 0, none⟩ = false ∧ W.frozen? ⟨g, 1, none⟩ = false ∧ W.cell? ⟨g, 4, none⟩ = none) (hl : L.length ≤ k) (B : Below w.heap.size w W) (hg : g < W.heap.size) (hB : Below W.heap.size W W') : PlS w m g k W' :=
  ⟨L, M.below hB, Q.old hB, hl, ⟨(hB.frozen (p := ⟨g, 0, none⟩) hg).trans F.1, (hB.frozen (p := ⟨g, 1, none⟩) hg).trans F.2.1, (hB.cell (p := ⟨g, 4, none⟩) hg).trans F.2.2⟩, B.trans (hB.mono B.size)⟩
theorem PlS.store {w w3 : World} {m g k ln : Nat} {L : List (Ky × Int)} (hm : m < g) (hwm : w.heap.size ≤ m) (M : TI.MapAt w3 m L) {v0 v1 : Value} (z0 : w3.cell? ⟨g, 0, none⟩ = some v0) (z1 : w3.cell? ⟨g, 1, none⟩ = some v1) (F : w3.frozen? ⟨g, 0, none⟩ = false ∧ w3.frozen? ⟨g, 1, none⟩ = false ∧ w3.cell? ⟨g, 4, none⟩ = none) (hl : L.length ≤ k) (B : Below w.heap.size w w3) {ya yva : Option Addr} {yc yvc : Nat} (hln : ln = L.length) (E : RefB (g + 1) w3 (.agg #[.slice ya ln yc, .slice yva ln yvc]) L) :
    PlS w m g k ((w3.setCell ⟨g, 0, none⟩ (.slice ya ln yc)).setCell ⟨g, 1, none⟩ (.slice yva ln yvc)) := by
  subst hln
  have hg := cell_lt z0
  have hk : TI.Km g w3 ((w3.setCell ⟨g, 0, none⟩ (.slice ya L.length yc)).setCell ⟨g, 1, none⟩ (.slice yva L.length yvc)) := (TI.Km.set _).trans (TI.Km.set _)
  have d0 : ((w3.setCell ⟨g, 0, none⟩ (.slice ya L.length yc)).setCell ⟨g, 1, none⟩ (.slice yva L.length yvc)).cell? ⟨g, 0, none⟩ = some (.slice ya L.length yc) := by
    rw [World.cell?_setCell_other _ _ _ _ (by intro e; simp at e)]
    exact World.cell?_setCell_same' _ _ _ (by rw [z0]; rfl)
  have d1 : ((w3.setCell ⟨g, 0, none⟩ (.slice ya L.length yc)).setCell ⟨g, 1, none⟩ (.slice yva L.length yvc)).cell? ⟨g, 1, none⟩ = some (.slice yva L.length yvc) := by
    refine World.cell?_setCell_same' _ _ _ ?_
    rw [World.cell?_setCell_other _ _ _ _ (by intro e; simp at e), z1]; rfl
  have d4 : ((w3.setCell ⟨g, 0, none⟩ (.slice ya L.length yc)).setCell ⟨g, 1, none⟩ (.slice yva L.length yvc)).cell? ⟨g, 4, none⟩ = none := by
    rw [World.cell?_setCell_other _ _ _ _ (by intro e; simp at e), World.cell?_setCell_other _ _ _ _ (by intro e; simp at e)]
    exact F.2.2
  refine ⟨L, MapAt.km M hk (by omega) F.2.2, ⟨ya, yc, yva, yvc, d0, d1, by simpa [World.setCell] using hg, ?_⟩, hl, ⟨by rw [World.frozen?_setCell, World.frozen?_setCell]; exact F.1, by rw [World.frozen?_setCell, World.frozen?_setCell]; exact F.2.1, d4⟩, (B.setCell (p := ⟨g, 0, none⟩) (by show w.heap.size ≤ g; omega) _).setCell (p := ⟨g, 1, none⟩) (by show w.heap.size ≤ g; omega) _⟩
  exact (E.set (g := g) (i := 0) (by omega) _).set (g := g) (i := 1) (by omega) _
theorem get_all {w : World} {m : Nat} {l : List (Ky × Int)} (h : TI.MapAt w m l) (k : Ky) :
    Calls Try.prog 12 #[.pointer (some ⟨m, 0, none⟩), .string ⟨k.toArray⟩] w fun e w' => e = .returned (.tuple #[.int .i64 ((getA k l).getD 0), .bool (getA k l).isSome]) ∧ Below w.heap.size w w' := by
  cases hg : getA k l with
  | none => exact TI.get_none h hg
  | some v => exact TI.get_some h hg
theorem drop_all {w : World} {m : Nat} {l : List (Ky × Int)} (h : TI.MapAt w m l) (k : Ky) :
    Calls Try.prog 15 #[.pointer (some ⟨m, 0, none⟩), .string ⟨k.toArray⟩] w (TI.PutR w m (delA k l) (getA k l).isSome) := by
  cases hg : getA k l with
  | none => rw [delA_none h.rise hg]; exact TI.drop_none h hg
  | some v => exact TI.drop_some h hg
theorem rdrop_all {base : Nat} {w : World} {q : Value} {l : List (Ky × Int)} (h : RefB base w q l) (hb : base ≤ w.heap.size) (hr : Rise l) (hl : l.length ≤ 999) (k : Ky) :
    Calls Try.prog 14 #[q, .string ⟨k.toArray⟩] w (RefRW base w (delA k l) (getA k l).isSome) := by
  cases hg : getA k l with
  | none => rw [delA_none hr hg]; exact rdropB_none h hr hl k hg
  | some v => exact rdropB_some h hb hr hl k hg
theorem keys_all {w : World} {m : Nat} {l : List (Ky × Int)} (h : TI.MapAt w m l) (k : Ky) (n : Int) (hn : -9223372036854775808 ≤ n ∧ n ≤ 9223372036854775807) :
    Calls Try.prog 17 #[.pointer (some ⟨m, 0, none⟩), .string ⟨k.toArray⟩, .int .i64 n] w (KeysR w (((fromA k l).take n.toNat).map (·.1))) := by
  by_cases h1 : n < 1
  · rw [show n.toNat = 0 by omega, List.take_zero, List.map_nil]
    exact keys_few _ k n h1 hn.1
  · rw [List.map_take]
    exact keys_over k (over_map_any h k) n (by omega) hn.2
theorem first_all {w : World} {m : Nat} {l : List (Ky × Int)} (h : TI.MapAt w m l) :
    Calls Try.prog 19 #[.pointer (some ⟨m, 0, none⟩)] w fun e w' => e = .returned (.tuple #[.string ⟨(firstK l).toArray⟩, .bool (!l.isEmpty)]) ∧ Below w.heap.size w w' := by
  have := over_map_any h []
  rw [fromA_nil] at this
  exact first_over this
set_option maxRecDepth 100000 in
set_option maxHeartbeats 8000000 in
theorem walk_SortedPlays (a : Option Addr) (cap : Nat) (os : List Opc) (w : World) (hr : RdO w a os) (hok : okO os) (hm : os.length ≤ maxLen) (hc : os.length ≤ cap) :
    Calls Try.prog 3 #[.slice a os.length cap] w fun e w' => e = .returned (.bool true) ∧ Below w.heap.size w w' := by
  have HR := Lib.hid hr
  have HK := Lib.hid hok
  obtain ⟨n, hn⟩ : ∃ n, n = os.length := ⟨_, rfl⟩
  rw [← hn] at hc hm ⊢
  have HN := Lib.hid hn
  unfold maxLen at hm
  clear hr hn hok
  go_enter Try.func3, Try.ntmps3
  go_wp2_with fail
  refine (TI.new_any _).mono ?_
  rintro e w1 ⟨rfl, b1, m1⟩
  have B1 := Lib.hid b1
  have M1 := Lib.hid m1
  have hgb : w.heap.size < w1.heap.size := m1.lt
  clear b1 m1
  go_wp2_with fail
  obtain ⟨W2, hW2⟩ : ∃ W2, W2 = w1.alloc (.cells #[.slice none 0 0, .slice none 0 0] 28) := ⟨_, rfl⟩
  rw [← hW2]
  have hB2 : Below w1.heap.size w1 W2 := by rw [hW2]; exact (Below.refl _ _).alloc (Nat.le_refl _) _
  have hst : PlI w w.heap.size w1.heap.size n (.int .i64 (0 : Nat)) W2 := by
    refine ⟨0, rfl, Nat.zero_le _, Nat.zero_le _, [], M1.out.below hB2, ⟨none, 0, none, 0, by rw [hW2]; simp, by rw [hW2]; simp, by rw [hW2]; simp, ⟨none, 0, none, 0, rfl, ⟨.inl rfl, fun _ h => by cases h⟩, ⟨.inl rfl, fun _ h => by cases h⟩, Nat.le_refl _, Nat.le_refl _, Nat.zero_le _, Nat.zero_le _⟩⟩, Nat.le_refl _, ⟨by rw [hW2]; simp [go_sem], by rw [hW2]; simp [go_sem], by rw [hW2]; simp⟩, B1.out.trans (hB2.mono B1.out.size)⟩
  have HST := Lib.hid hst
  clear hst hB2 hW2
  obtain ⟨g, hg⟩ : ∃ g, g = w1.heap.size := ⟨_, rfl⟩
  rw [← hg] at HST ⊢
  have HGM : Hid (w.heap.size < g) := Lib.hid (by rw [hg]; exact hgb)
  clear hg hgb
  go_loopw [5, 6, 7, 8, 9, 10, 11, 12, 13, 14, 15, 16] (fun i _ _ _ _ _ _ _ _ _ _ _ wr => PlI w w.heap.size g n i wr) (fun i _ _ _ _ _ _ _ _ _ _ _ _ => n - (intOf i).toNat)
  case atStart => exact HST.out
  case round =>
    obtain ⟨k, rfl, hkn, hk2, L, mw, qw, hll, fw, bw⟩ := hrel
    have BW := Lib.hid bw
    have MW := Lib.hid mw
    have QW := Lib.hid qw
    have FW := Lib.hid fw
    have HLL := Lib.hid hll
    clear bw mw qw fw hll
    by_cases hlt : k < n ∧ k < 200
    · obtain ⟨hlt, hlt2⟩ := hlt
      have hkl : k < os.length := by rw [← HN.out]; exact hlt
      obtain ⟨b, off, rfl, hb0, hbl, c0, c1, c2⟩ := rdo_at HR.out BW.out hkl
      obtain ⟨x, hx⟩ : ∃ x, x = os[k] := ⟨_, rfl⟩
      rw [← hx] at c0 c1 c2
      have hxo := HK.out x (by rw [hx]; exact List.getElem_mem _)
      obtain ⟨kd, num, key⟩ := x
      simp only at c0 c1 c2 hxo
      have HNUM := Lib.hid hxo.1
      have hksz : (⟨key.toArray⟩ : ByteArray).size = key.length := size_mkl key
      have hkm := hxo.2
      unfold maxLen at hkm
      clear hx hxo
      by_cases hkey : key.length ≤ 512
      · go_upto_block 2 with fail
        generalize hW6 : World.alloc wr (.cells #[.int .i64 kd, .int .i64 num, .string ⟨key.toArray⟩] 30) = W6
        have b6 : Below wr.heap.size wr W6 := by rw [← hW6]; exact (Below.refl _ _).alloc (Nat.le_refl _) _
        have d0 : W6.cell? ⟨wr.heap.size, 0, none⟩ = some (.int .i64 kd) := by rw [← hW6]; simp
        have d1 : W6.cell? ⟨wr.heap.size, 1, none⟩ = some (.int .i64 num) := by rw [← hW6]; simp
        have d2 : W6.cell? ⟨wr.heap.size, 2, none⟩ = some (.string ⟨key.toArray⟩) := by rw [← hW6]; simp
        have hgl : g < wr.heap.size := by obtain ⟨_, _, _, _, _, _, h, _⟩ := QW.out; exact h
        have hg6 : g < W6.heap.size := Nat.lt_of_lt_of_le hgl b6.size
        have M6 := Lib.hid (MW.out.below b6)
        have Q6 := Lib.hid (QW.out.old b6)
        have F6 : Hid (W6.frozen? ⟨g, 0, none⟩ = false ∧ W6.frozen? ⟨g, 1, none⟩ = false ∧ W6.cell? ⟨g, 4, none⟩ = none) := Lib.hid ⟨(b6.frozen (p := ⟨g, 0, none⟩) hgl).trans FW.out.1, (b6.frozen (p := ⟨g, 1, none⟩) hgl).trans FW.out.2.1, (b6.cell (p := ⟨g, 4, none⟩) hgl).trans FW.out.2.2⟩
        have B6 := Lib.hid (BW.out.trans (b6.mono BW.out.size))
        have hh6 : wr.heap.size < W6.heap.size := cell_lt d0
        have HNE : Hid (g ≠ wr.heap.size) := Lib.hid (by omega)
        have HGL := Lib.hid hgl
        clear hW6 b6 c0 c1 c2 hb0 hbl hgl
        obtain ⟨h6, hh⟩ : ∃ h6, h6 = wr.heap.size := ⟨_, rfl⟩
        rw [← hh] at d0 d1 d2 hh6 HNE HGL ⊢
        clear hh QW MW FW BW
        have hl2 : L.length ≤ 200 := by have := HLL.out; omega
        have HL2 := Lib.hid hl2
        have HM2 := HGM.out
        clear hl2 HM2
        go_cut [7, 8, 9, 10, 11, 12, 13, 14] (fun s7 s8 s9 s10 s11 s12 s13 s14 wx => PlS w w.heap.size g (k + 1) wx)
        case first =>
          by_cases hk1 : kd = 1
          · subst hk1
            obtain ⟨qa, qc, qva, qvc, q0, q1, -, q3⟩ := Q6.out
            obtain ⟨bq, hbq⟩ : ∃ bq, bq = (getA key L).isSome := ⟨_, rfl⟩
            have HP : Hid (∀ W : World, Below W6.heap.size W6 W → Calls Try.prog 10 #[.agg #[.slice qa L.length qc, .slice qva L.length qvc], .string ⟨key.toArray⟩, .int .i64 num] W (RefRB W (putA key num L) bq)) := Lib.hid (fun W hW => by
              have h := rput_base (q3.ref.old hW) M6.out.rise (by have := HL2.out; omega) key num
              rw [← hbq] at h
              exact h)
            obtain ⟨ln, hln⟩ : ∃ ln, ln = L.length := ⟨_, rfl⟩
            rw [← hln] at q0 q1 HP
            have HBQ := Lib.hid hbq
            clear q3 hbq hln
            have HSS := Lib.hid (And.intro q0 (And.intro q1 (And.intro d1 d2)))
            go_upto_region 15 with fail
            go_cut [7, 8] (fun s7 s8 wx => ∃ g8, s7 = .pointer (some ⟨g8, 0, none⟩) ∧ s8 = .bool bq ∧ W6.heap.size ≤ g8 ∧ Below W6.heap.size W6 wx ∧ QIn wx (g + 1) g8 (putA key num L))
            case first =>
              go_wp2_with fail
              refine (HP.out _ (Below.refl _ _)).mono ?_
              rintro e w4 ⟨q4, rfl, v4, bb⟩
              have V4 := Lib.hid v4
              have hs4 := bb.size
              obtain ⟨ra, rc, rva, rvc, rfl, -⟩ := v4
              go_wp2_with fail
              go_meet
              refine ⟨_, rfl, rfl, ?_, ?_, ra, rc, rva, rvc, ?_, ?_, ?_, ?_⟩
              · exact hs4
              · repeat (first | assumption | exact Below.refl _ _ | (refine Below.alloc ?_ ?_ _) | (refine Below.setCell ?_ ?_ _) | (refine Below.drew ?_))
                all_goals (first | omega | (simp; done) | (simp; omega))
              · simp [go_sem, *]
              · simp [go_sem, *]
              · first | (simp; done) | (simp [World.setCell]; omega)
              · first
                  | exact (V4.out.old ((Below.refl _ _).alloc (Nat.le_refl _) _)).low (by show g + 1 ≤ W6.heap.size; omega)
            case rest =>
              obtain ⟨g8, rfl, rfl, hg8, hbx, q8⟩ := hcut
              have e1 := (hbx.cell (p := ⟨h6, 1, none⟩) hh6).trans d1
              have e2 := (hbx.cell (p := ⟨h6, 2, none⟩) hh6).trans d2
              have z80 := (hbx.cell (p := ⟨g, 0, none⟩) hg6).trans q0
              have z81 := (hbx.cell (p := ⟨g, 1, none⟩) hg6).trans q1
              have Z0 := Lib.hid z80
              have Z1 := Lib.hid z81
              have F8 : Hid (wc.frozen? ⟨g, 0, none⟩ = false ∧ wc.frozen? ⟨g, 1, none⟩ = false ∧ wc.cell? ⟨g, 4, none⟩ = none) := Lib.hid ⟨(hbx.frozen (p := ⟨g, 0, none⟩) hg6).trans F6.out.1, (hbx.frozen (p := ⟨g, 1, none⟩) hg6).trans F6.out.2.1, (hbx.cell (p := ⟨g, 4, none⟩) hg6).trans F6.out.2.2⟩
              have hg9 : g < wc.heap.size := Nat.lt_of_lt_of_le hg6 hbx.size
              have HG8 : Hid (g8 ≠ w.heap.size ∧ g8 ≠ g) := Lib.hid (by have := HGM.out; omega)
              have B8 := Lib.hid (B6.out.trans (hbx.mono B6.out.size))
              have M8 := Lib.hid (M6.out.below hbx)
              have Q8 := Lib.hid q8
              have hlp : (putA key num L).length ≤ k + 1 := by
                have := putA_len M8.out.rise key num
                have h2 := HLL.out
                split at this <;> omega
              have HLP := Lib.hid hlp
              clear q0 q1 d0 d1 d2 hbx q8 z80 z81 hg8 hlp HP HSS hh6
              go_wp2_with fail
              refine (TI.put_map M8.out key (by omega) num (by have := HL2.out; omega)).mono ?_
              rintro e w3 ⟨rfl, k3, m3⟩
              rw [← HBQ.out]
              have M3 := Lib.hid m3
              have B3 := Lib.hid (B8.out.trans (k3.below (B := w.heap.size) (Nat.le_refl _) B8.out.size))
              have hgm := HGM.out
              have F3 := Lib.hid (frozen_km F8.out hg9 k3 (by omega))
              have f0 := F3.out.1
              have f1 := F3.out.2.1
              have z0 := (World.cell?_of_block (w := wc) (a := ⟨g, 0, none⟩) (k3.block g hg9 (by show g ≠ w.heap.size; omega))).trans Z0.out
              have z1 := (World.cell?_of_block (w := wc) (a := ⟨g, 1, none⟩) (k3.block g hg9 (by show g ≠ w.heap.size; omega))).trans Z1.out
              obtain ⟨ya, yc, yva, yvc, y0, y1, hy8, y3⟩ := Q8.out.km k3 (by omega) HG8.out.1
              have Y3 := Lib.hid y3
              have HN8 := HG8.out.2
              have H0 := Lib.hid z0
              have H1 := Lib.hid z1
              obtain ⟨ln2, hln2⟩ : ∃ ln2, ln2 = (putA key num L).length := ⟨_, rfl⟩
              rw [← hln2] at y0 y1 Y3
              have HL3 := Lib.hid hln2
              clear k3 m3 y3 hln2 e1 e2
              go_wp2_with fail
              go_meet
              exact PlS.store HGM.out (Nat.le_refl _) M3.out H0.out H1.out F3.out HLP.out B3.out HL3.out Y3.out
          · by_cases hk2 : kd = 2
            · subst hk2
              obtain ⟨gv, hgv⟩ : ∃ gv, gv = (getA key L).getD 0 := ⟨_, rfl⟩
              obtain ⟨gb, hgb⟩ : ∃ gb, gb = (getA key L).isSome := ⟨_, rfl⟩
              have HM : Hid (Calls Try.prog 12 #[.pointer (some ⟨w.heap.size, 0, none⟩), .string ⟨key.toArray⟩] W6 fun e w' => e = .returned (.tuple #[.int .i64 gv, .bool gb]) ∧ Below W6.heap.size W6 w') := Lib.hid (by rw [hgv, hgb]; exact get_all M6.out key)
              obtain ⟨qa, qc, qva, qvc, q0, q1, -, q3⟩ := Q6.out
              have HQ : Hid (∀ W : World, Below W6.heap.size W6 W → Calls Try.prog 13 #[.agg #[.slice qa L.length qc, .slice qva L.length qvc], .string ⟨key.toArray⟩] W fun e w' => e = .returned (.tuple #[.int .i64 gv, .bool gb]) ∧ Below W.heap.size W w') := Lib.hid (fun W hW => by rw [hgv, hgb]; exact rget_any (q3.ref.old hW) M6.out.rise (by have := HL2.out; omega) key)
              obtain ⟨ln, hln⟩ : ∃ ln, ln = L.length := ⟨_, rfl⟩
              rw [← hln] at q0 q1 HQ
              clear q3 hln hgv hgb
              go_wp2_with fail
              refine HM.out.mono ?_
              rintro e w4 ⟨rfl, b4⟩
              have e0 := (b4.cell (p := ⟨g, 0, none⟩) hg6).trans q0
              have e1 := (b4.cell (p := ⟨g, 1, none⟩) hg6).trans q1
              have e2 := (b4.cell (p := ⟨h6, 2, none⟩) hh6).trans d2
              have C4 := Lib.hid b4
              clear b4
              go_wp2_with fail
              refine (HQ.out _ C4.out).mono ?_
              rintro e w5 ⟨rfl, b5⟩
              have C5 := Lib.hid (bt C4.out b5)
              clear b5
              go_wp2_with fail
              go_meet
              exact PlS.keep M6.out Q6.out F6.out (by have := HLL.out; omega) B6.out hg6 C5.out
            · by_cases hk3 : kd = 3
              · subst hk3
                obtain ⟨qa, qc, qva, qvc, q0, q1, -, q3⟩ := Q6.out
                obtain ⟨bq, hbq⟩ : ∃ bq, bq = (getA key L).isSome := ⟨_, rfl⟩
                have HP : Hid (∀ W : World, Below W6.heap.size W6 W → Calls Try.prog 14 #[.agg #[.slice qa L.length qc, .slice qva L.length qvc], .string ⟨key.toArray⟩] W (RefRW (g + 1) W (delA key L) bq)) := Lib.hid (fun W hW => by
                  have h := rdrop_all (q3.old hW) (by have := hW.size; omega) M6.out.rise (by have := HL2.out; omega) key
                  rw [← hbq] at h
                  exact h)
                obtain ⟨ln, hln⟩ : ∃ ln, ln = L.length := ⟨_, rfl⟩
                rw [← hln] at q0 q1 HP
                have HBQ := Lib.hid hbq
                clear q3 hbq hln
                have HSS := Lib.hid (And.intro q0 (And.intro q1 (And.intro d1 d2)))
                go_upto_region 25 with fail
                go_cut [13, 14] (fun s7 s8 wx => ∃ g8, s7 = .pointer (some ⟨g8, 0, none⟩) ∧ s8 = .bool bq ∧ W6.heap.size ≤ g8 ∧ Below W6.heap.size W6 wx ∧ QIn wx (g + 1) g8 (delA key L))
                case first =>
                  go_wp2_with fail
                  refine (HP.out _ (Below.refl _ _)).mono ?_
                  rintro e w4 ⟨q4, rfl, v4, bb⟩
                  have V4 := Lib.hid v4
                  have hs4 := bb.size
                  obtain ⟨ra, rc, rva, rvc, rfl, -⟩ := v4
                  go_wp2_with fail
                  go_meet
                  refine ⟨_, rfl, rfl, ?_, ?_, ra, rc, rva, rvc, ?_, ?_, ?_, ?_⟩
                  · exact hs4
                  · repeat (first | assumption | exact Below.refl _ _ | (refine Below.alloc ?_ ?_ _) | (refine Below.setCell ?_ ?_ _) | (refine Below.drew ?_))
                    all_goals (first | omega | (simp; done) | (simp; omega))
                  · simp [go_sem, *]
                  · simp [go_sem, *]
                  · first | (simp; done) | (simp [World.setCell]; omega)
                  · first
                      | exact (V4.out.old ((Below.refl _ _).alloc (Nat.le_refl _) _))
                case rest =>
                  obtain ⟨g8, rfl, rfl, hg8, hbx, q8⟩ := hcut
                  have e1 := (hbx.cell (p := ⟨h6, 1, none⟩) hh6).trans d1
                  have e2 := (hbx.cell (p := ⟨h6, 2, none⟩) hh6).trans d2
                  have z80 := (hbx.cell (p := ⟨g, 0, none⟩) hg6).trans q0
                  have z81 := (hbx.cell (p := ⟨g, 1, none⟩) hg6).trans q1
                  have Z0 := Lib.hid z80
                  have Z1 := Lib.hid z81
                  have F8 : Hid (wc.frozen? ⟨g, 0, none⟩ = false ∧ wc.frozen? ⟨g, 1, none⟩ = false ∧ wc.cell? ⟨g, 4, none⟩ = none) := Lib.hid ⟨(hbx.frozen (p := ⟨g, 0, none⟩) hg6).trans F6.out.1, (hbx.frozen (p := ⟨g, 1, none⟩) hg6).trans F6.out.2.1, (hbx.cell (p := ⟨g, 4, none⟩) hg6).trans F6.out.2.2⟩
                  have hg9 : g < wc.heap.size := Nat.lt_of_lt_of_le hg6 hbx.size
                  have HG8 : Hid (g8 ≠ w.heap.size ∧ g8 ≠ g) := Lib.hid (by have := HGM.out; omega)
                  have B8 := Lib.hid (B6.out.trans (hbx.mono B6.out.size))
                  have M8 := Lib.hid (M6.out.below hbx)
                  have Q8 := Lib.hid q8
                  have hlp : (delA key L).length ≤ k + 1 := by
                    have := TI.del_len (l := L) key
                    have h2 := HLL.out
                    omega
                  have HLP := Lib.hid hlp
                  clear q0 q1 d0 d1 d2 hbx q8 z80 z81 hg8 hlp HP HSS hh6
                  go_wp2_with fail
                  refine (drop_all M8.out key).mono ?_
                  rintro e w3 ⟨rfl, k3, m3⟩
                  rw [← HBQ.out]
                  have M3 := Lib.hid m3
                  have B3 := Lib.hid (B8.out.trans (k3.below (B := w.heap.size) (Nat.le_refl _) B8.out.size))
                  have hgm := HGM.out
                  have F3 := Lib.hid (frozen_km F8.out hg9 k3 (by omega))
                  have f0 := F3.out.1
                  have f1 := F3.out.2.1
                  have z0 := (World.cell?_of_block (w := wc) (a := ⟨g, 0, none⟩) (k3.block g hg9 (by show g ≠ w.heap.size; omega))).trans Z0.out
                  have z1 := (World.cell?_of_block (w := wc) (a := ⟨g, 1, none⟩) (k3.block g hg9 (by show g ≠ w.heap.size; omega))).trans Z1.out
                  obtain ⟨ya, yc, yva, yvc, y0, y1, hy8, y3⟩ := Q8.out.km k3 (by omega) HG8.out.1
                  have Y3 := Lib.hid y3
                  have HN8 := HG8.out.2
                  have H0 := Lib.hid z0
                  have H1 := Lib.hid z1
                  obtain ⟨ln2, hln2⟩ : ∃ ln2, ln2 = (delA key L).length := ⟨_, rfl⟩
                  rw [← hln2] at y0 y1 Y3
                  have HL3 := Lib.hid hln2
                  clear k3 m3 y3 hln2 e1 e2
                  go_wp2_with fail
                  go_meet
                  exact PlS.store HGM.out (Nat.le_refl _) M3.out H0.out H1.out F3.out HLP.out B3.out HL3.out Y3.out
              · skip
                obtain ⟨qa, qc, qva, qvc, q0, q1, -, q3⟩ := Q6.out
                obtain ⟨ts, hts⟩ : ∃ ts, ts = ((fromA key L).take num.toNat).map (·.1) := ⟨_, rfl⟩
                have hn0 := HNUM.out
                have HKY : Hid (∀ W : World, Below W6.heap.size W6 W → Calls Try.prog 17 #[.pointer (some ⟨w.heap.size, 0, none⟩), .string ⟨key.toArray⟩, .int .i64 num] W (KeysR W ts)) := Lib.hid (fun W hW => by rw [hts]; exact keys_all (M6.out.below hW) key num hn0)
                have HFR : Hid (∀ W : World, Below W6.heap.size W6 W → Calls Try.prog 18 #[.agg #[.slice qa L.length qc, .slice qva L.length qvc], .string ⟨key.toArray⟩, .int .i64 num] W fun e w' => ∃ fa fc fv fd, e = .returned (.agg #[.slice fa ts.length fc, .slice fv ts.length fd]) ∧ Rd w' fa ts ∧ Below W.heap.size W w') := Lib.hid (fun W hW => by
                  refine (rfrom_any (q3.ref.old hW) M6.out.rise (by have := HL2.out; omega) key num hn0).mono ?_
                  rintro e w' ⟨q', rfl, ⟨fa, fc, fva, fvc, rfl, f1, f2, f3, f4⟩, bf⟩
                  rw [← hts] at f1
                  exact ⟨fa, fc, fva, fvc, by rw [hts, List.length_map], f1, bf⟩)
                have htl : ts.length ≤ 200 := by
                  rw [hts, List.length_map]
                  refine Nat.le_trans (List.length_take_le' _ _) (Nat.le_trans (List.length_filter_le _ _) ?_)
                  exact HL2.out
                obtain ⟨tl, htl2⟩ : ∃ tl, tl = ts.length := ⟨_, rfl⟩
                unfold KeysR at HKY
                rw [← htl2] at HKY HFR htl
                obtain ⟨ln, hln⟩ : ∃ ln, ln = L.length := ⟨_, rfl⟩
                rw [← hln] at q0 q1 HFR
                have HTL := Lib.hid htl2
                have HSS := Lib.hid (And.intro q0 (And.intro q1 (And.intro d1 d2)))
                clear q3 hln hts htl2 hn0
                have hfd : ∀ (fa fv : Option Addr) (fc fd : Nat) (W : World), (Instr.field 28 (.agg #[.slice fa tl fc, .slice fv tl fd]) 0).run Try.prog W = .ok (.slice fa tl fc) W := fun _ _ _ _ _ => by kernel_rfl
                go_upto_region 12 with fail
                go_region_held3 (fun w' => w'.cell? ⟨g, 0, none⟩ = some (.slice qa ln qc) ∧ w'.cell? ⟨g, 1, none⟩ = some (.slice qva ln qvc) ∧ w'.cell? ⟨h6, 1, none⟩ = some (.int .i64 num) ∧ w'.cell? ⟨h6, 2, none⟩ = some (.string ⟨key.toArray⟩))
                  (first
                    | assumption
                    | (refine keep4 HSS.out ?_
                       first | assumption | exact (Below.refl _ _).drew))
                  (first
                    | (go_at_call 17; refine (HKY.out _ (by first | exact (Below.refl _ _).drew | assumption)).mono ?_; rintro e wK ⟨ka, kcap, rfl, bK, rK, -⟩; have hBK : Below W6.heap.size W6 wK := (by first | exact bt ((Below.refl _ W6).drew) bK | exact bt hBF bK); have RK := Lib.hid rK)
                    | (go_at_call 18; refine (HFR.out _ (by first | exact (Below.refl _ _).drew | assumption)).mono ?_; rintro e wF ⟨fa, fc, fv, fd, rfl, rF, bF⟩; have hBF : Below W6.heap.size W6 wF := (by first | exact bt ((Below.refl _ W6).drew) bF | exact bt hBK bF); have RF := Lib.hid rF)
                    | (go_at_call 16; refine (same_at ka fa tl tl kcap fc ts ts true _ (by first | exact RK.out | exact RK.out.old bF) (by first | exact RF.out | exact RF.out.old bK) HTL.out.symm HTL.out.symm (by omega) (by simp)).mono ?_; rintro e wS ⟨rfl, bS⟩; have hBS : Below W6.heap.size W6 wS := (by first | exact bt hBF bS | exact bt hBK bS)))
                all_goals
                  go_wp2_with fail
                  go_meet
                  exact PlS.keep M6.out Q6.out F6.out (by have := HLL.out; omega) B6.out hg6 hBS
        case rest =>
          clear d0 d1 d2 hh6 hg6
          obtain ⟨L2, m2, q2, hl2, f2, b2⟩ := hcut
          have M2 := Lib.hid m2
          have Q2 := Lib.hid q2
          have F2 := Lib.hid f2
          have HL5 := Lib.hid hl2
          have B2 := Lib.hid b2
          have hg2 : g < wc.heap.size := by obtain ⟨_, _, _, _, _, _, h, _⟩ := q2; exact h
          obtain ⟨qa, qc, qva, qvc, q0, q1, -, q3⟩ := q2
          clear m2 f2 hl2 b2 q1
          cases L2 with
          | nil =>
            go_wp2_with fail
            refine (first_all M2.out).mono ?_
            rintro e w3 ⟨rfl, b3⟩
            have q03 := (b3.cell (p := ⟨g, 0, none⟩) hg2).trans q0
            have hg3 : g < w3.heap.size := Nat.lt_of_lt_of_le hg2 b3.size
            have C3 := Lib.hid b3
            have M3 := Lib.hid (M2.out.below b3)
            clear b3 q3 q0
            simp only [List.isEmpty_nil, List.length_nil, Bool.not_true, firstK] at q03 ⊢
            go_upto_region 30 with fail
            refine wp_region_below (by kernel_rfl) (by kernel_rfl) ?_
            repeat (first
              | go_big_quiet_skip
              | (go_big_quiet_want
                 first
                 | (refine BigFrame.quiet_move _ rfl ?_)
                 | (refine BigFrame.quiet_assign _ rfl ?_)
                 | (unfold Oper.quiet
                    apply Exists.intro
                    refine ⟨fun w' hw' => ?_, ?_⟩
                    · (obtain ⟨hc', hf'⟩ := bcell hw'
                       go_simp
                       first
                       | done
                       | exact rfl
                       | (go_at_call 20; (with_reducible refine (TI.len_any (M3.out.below hw')).mono ?_); rintro e w'' ⟨rfl, bb⟩; exact ⟨rfl, by first | exact bt hw' bb | simpa using bt hw' bb⟩)))
                 go_big_quiet_on
                 simp only [Act.put, Act.eval, List.setIfInBounds_toArray, List.set_cons_zero, List.set_cons_succ, Array.getD_eq_getD_getElem?, List.getElem?_toArray, List.getElem?_cons_zero, List.getElem?_cons_succ, Option.getD_some]))
            refine wpQuiet_nil ?_
            intro w' hw'
            have hB := Lib.hid (bt C3.out hw')
            clear hw'
            go_wp2_with fail
            go_roundw
            case rel => exact ⟨k + 1, by go_num, by omega, by omega, PlS.keep M2.out Q2.out F2.out HL5.out B2.out hg2 hB.out⟩
            case measure => simp [intOf]; omega
          | cons x L3 =>
            obtain ⟨ka, kc, kva, kvc, hq, ⟨hrd, -⟩, -⟩ := q3
            have hq0 : qa = ka := by simp at hq; exact hq.1.1
            subst hq0
            obtain ⟨b0, o0, rfl, hb0, c0⟩ : ∃ b0 o0, qa = some ⟨b0, o0, none⟩ ∧ b0 < wc.heap.size ∧ wc.cell? ⟨b0, o0, none⟩ = some (.string ⟨x.1.toArray⟩) := by
              rcases hrd with h | ⟨b0, o0, rfl, hlt, hc⟩
              · cases h
              · exact ⟨b0, o0, rfl, hlt, by simpa using hc 0 (by simp)⟩
            clear hq hrd
            go_wp2_with fail
            refine (first_all M2.out).mono ?_
            rintro e w3 ⟨rfl, b3⟩
            have q03 := (b3.cell (p := ⟨g, 0, none⟩) hg2).trans q0
            have c03 := (b3.cell (p := ⟨b0, o0, none⟩) hb0).trans c0
            have hb03 : b0 < w3.heap.size := Nat.lt_of_lt_of_le hb0 b3.size
            have hg3 : g < w3.heap.size := Nat.lt_of_lt_of_le hg2 b3.size
            have C3 := Lib.hid b3
            have M3 := Lib.hid (M2.out.below b3)
            have hlx : (x :: L3).length ≤ k + 1 := HL5.out
            obtain ⟨ln2, hln2⟩ : ∃ ln2, ln2 = (x :: L3).length := ⟨_, rfl⟩
            have HLE := Lib.hid (TI.len_any M3.out)
            have hln0 : 0 < ln2 := by rw [hln2]; simp
            rw [← hln2] at q03 hlx
            have HLE2 : Hid (∀ W : World, Below w3.heap.size w3 W → Calls Try.prog 20 #[.pointer (some ⟨w.heap.size, 0, none⟩)] W fun e w' => e = .returned (.int .i64 (ln2 : Nat)) ∧ Below W.heap.size W w') := Lib.hid (fun W hW => by rw [hln2]; exact TI.len_any (M3.out.below hW))
            clear b3 q0 c0 hb0 hln2 HLE
            simp only [List.isEmpty_cons, Bool.not_false, firstK] at ⊢
            go_upto_region 30 with fail
            refine wp_region_below (by kernel_rfl) (by kernel_rfl) ?_
            repeat (first
              | go_big_quiet_skip
              | (go_big_quiet_want
                 first
                 | (refine BigFrame.quiet_move _ rfl ?_)
                 | (refine BigFrame.quiet_assign _ rfl ?_)
                 | (unfold Oper.quiet
                    apply Exists.intro
                    refine ⟨fun w' hw' => ?_, ?_⟩
                    · (obtain ⟨hc', hf'⟩ := bcell hw'
                       go_simp
                       first
                       | done
                       | exact rfl
                       | (go_at_call 20; (with_reducible refine (HLE2.out _ hw').mono ?_); rintro e w'' ⟨rfl, bb⟩; exact ⟨rfl, by first | exact bt hw' bb | simpa using bt hw' bb⟩)))
                 go_big_quiet_on
                 simp only [Act.put, Act.eval, List.setIfInBounds_toArray, List.set_cons_zero, List.set_cons_succ, Array.getD_eq_getD_getElem?, List.getElem?_toArray, List.getElem?_cons_zero, List.getElem?_cons_succ, Option.getD_some]))
            refine wpQuiet_nil ?_
            intro w' hw'
            have hB := Lib.hid (bt C3.out hw')
            clear hw'
            go_wp2_with fail
            go_roundw
            case rel => exact ⟨k + 1, by go_num, by omega, by omega, PlS.keep M2.out Q2.out F2.out HL5.out B2.out hg2 hB.out⟩
            case measure => simp [intOf]; omega
      · go_wp2_with fail
        refine (TI.awake_any _).mono ?_
        rintro e w5 ⟨rfl, b5⟩
        have B5 := Lib.hid (BW.out.trans ((((Below.refl _ wr).alloc (Nat.le_refl _) _).trans (b5.mono (by simp))).mono BW.out.size))
        clear b5
        go_wp2_with fail
        go_ret
        exact ⟨rfl, B5.out⟩
    · by_cases h1 : k < n
      · have h2 : ¬ k < 200 := fun h => hlt ⟨h1, h⟩
        clear hlt
        go_wp2_with fail
        refine (TI.awake_any _).mono ?_
        rintro e w5 ⟨rfl, b5⟩
        have B5 := Lib.hid (BW.out.trans (b5.mono BW.out.size))
        clear b5
        go_wp2_with fail
        go_ret
        exact ⟨rfl, B5.out⟩
      · clear hlt
        go_wp2_with fail
        refine (TI.awake_any _).mono ?_
        rintro e w5 ⟨rfl, b5⟩
        have B5 := Lib.hid (BW.out.trans (b5.mono BW.out.size))
        clear b5
        go_wp2_with fail
        go_ret
        exact ⟨rfl, B5.out⟩
end Go.Proofs.Yteolhbcmffbdlaa
