/-
  Layer 6 (wal): the walk of the law WalFuses. Conditions: texts within the form's reach.
-/
import Derived.Test.YthikedhbjphmeaaLv
import Derived.Test.YthikedhbjphmeaaBt
import Derived.Deep.RegionHeld3
namespace Go.Proofs.Ythikedhbjphmeaa
open Go.RowKit Go.Lib
set_option linter.unusedVariables false
set_option linter.unusedSimpArgs false

theorem open_int2 {H : Type} {enc : TypeId × Value → H} {P : Program} {W : World} {base : Nat} {sp : Nat → Bool} {held : Bool} {t e : TypeId} {r : Reach} {b0 : Nat} {v : Value} {d : DataW H} {ps : List MemPlace}
    (ht : P.underlying t = some (.array 2 e)) (he : P.underlying e = some (.int .i64)) (h1 : P.cellsOf e = 1) (hs : P.cellsOf t = 2)
    (hval : Value.okWide P W r b0 t v) (hd : DataW.Trod enc P W base sp held t v d ps) :
    ∃ x y : Int, v = .agg #[.int .i64 x, .int .i64 y] := by
  simp only [Value.okWide, ht] at hval
  obtain ⟨cs, rfl, h2, _⟩ := hval
  rw [hs] at h2
  obtain ⟨fuel, hf⟩ := hd
  cases fuel with
  | zero => simp [DataW.trod] at hf
  | succ m =>
    rw [DataW.trod_step] at hf
    unfold DataW.trodStep at hf
    simp only [ht, Value.cells] at hf
    rw [if_pos (by rw [hs]; simpa using h2)] at hf
    simp only [Option.map_eq_some_iff] at hf
    obtain ⟨ys, hy, _⟩ := hf
    have hall : ∀ i (hi : i < 2), ∃ z : Int, cs[i]'(by omega) = .int .i64 z := by
      intro i hi
      obtain ⟨y, hy'⟩ := mapM_each2 _ hy i (by simpa using hi)
      obtain ⟨z, ez, _, wz⟩ := DataW.trod_int he hy'
      rw [h1, Nat.mul_one, List.getElem_range] at ez
      refine ⟨z, ?_⟩
      have e2 := congrArg (fun l : List Value => l[0]?) ez
      simp only [List.getElem?_take, List.getElem?_drop, Nat.add_zero] at e2
      rw [if_pos (by omega), Array.getElem?_toList, Array.getElem?_eq_getElem (by omega)] at e2
      simpa using e2
    obtain ⟨x, hx⟩ := hall 0 (by omega)
    obtain ⟨y, hy⟩ := hall 1 (by omega)
    refine ⟨x, y, ?_⟩
    congr 1
    apply Array.ext (by simpa using h2)
    intro i h3 h4
    have : i = 0 ∨ i = 1 := by omega
    rcases this with rfl | rfl
    · simpa using hx
    · simpa using hy
theorem int_range {z : Int} (h : (Lit.int .i64 z).wf = true) : -9223372036854775808 ≤ z ∧ z ≤ 9223372036854775807 := by
  simpa [Lit.wf, IntKind.min, IntKind.max, IntKind.bits, IntKind.signed] using h
/-- A list of numbers that came in, as Crash asks for it. -/
theorem kp_row {own : Nat → Prop} {w : World} {ka : Option Addr} {kl kc : Nat} {zs : List Int} (h : IsRow .i64 w ka kl kc zs) (ho : ∀ b, b < w.heap.size → own b) : ∃ ks : List Int, ks.length = kl ∧ Kp own w ka ks := by
  by_cases h0 : 0 < kl
  · obtain ⟨b, off, rfl, hb, hlz, hcm, hlc, hcell, hwz⟩ := h.at_ h0
    refine ⟨zs.take kl, by rw [List.length_take]; omega, fun n hn => int_range (hwz n (List.mem_of_mem_take hn)), .inr ⟨b, off, rfl, ho b hb, fun i hi => ?_⟩⟩
    rw [List.length_take] at hi
    rw [hcell i (by omega), List.getElem_take, List.getD_eq_getElem?_getD, List.getElem?_eq_getElem (by omega)]
    rfl
  · exact ⟨[], by simp; omega, Kp.nil _ _ _⟩
theorem rd_keeps {own : Nat → Prop} {w w' : World} {a : Option Addr} {ts : List (List UInt8)} (h : Rd w a ts) (k : Below w.heap.size w w') : Rd w' a ts := h.old k
/-- A log's state in the law: what was tried, what is sure. -/
def Fz (own : Nat → Prop) (w : World) (l d : Nat) (ts : List (List UInt8)) (i su tr : Nat) (off : Bool) : Prop :=
  ∃ F fu N n us k j, WalAt own w l d ⟨F, fu, off⟩ (lg N n us) ∧ PG (2 * i) F N n us k ∧ flat (lg N n us) = ts.take j ∧ su ≤ (flat (N.map txt)).length + k ∧ j ≤ tr ∧ tr ≤ ts.length ∧ j ≤ ts.length ∧ (off = false → j = i ∧ k = us.length)
theorem Fz.below {own : Nat → Prop} {w w' : World} {l d : Nat} {ts : List (List UInt8)} {i su tr : Nat} {off : Bool} (h : Fz own w l d ts i su tr off) (hb : Below w.heap.size w w') : Fz own w' l d ts i su tr off := by
  obtain ⟨F, fu, N, n, us, k, j, h1, h2⟩ := h
  exact ⟨F, fu, N, n, us, k, j, h1.below hb, h2⟩
theorem Fz.kb {own : Nat → Prop} {w w' : World} {l d : Nat} {ts : List (List UInt8)} {i su tr : Nat} {off : Bool} (h : Fz own w l d ts i su tr off) (hb : Below w.heap.size w w') : Keeps own w w' := by
  obtain ⟨F, fu, N, n, us, k, j, h1, h2⟩ := h
  exact Keeps.of_below hb fun b hb => h1.own hb
theorem fz_off {own : Nat → Prop} {w : World} {l d : Nat} {ts : List (List UInt8)} {i su tr : Nat} {off : Bool} (h : Fz own w l d ts i su tr off) :
    Calls Try.prog 17 #[.pointer (some ⟨d, 0, none⟩)] w fun e w' => e = .returned (.bool off) ∧ w = w' := by
  obtain ⟨F, fu, N, n, us, k, j, h1, h2⟩ := h
  exact off_any h1.toDisk
section
variable {own : Nat → Prop} {w : World} {l d : Nat} {ts : List (List UInt8)} {i su : Nat}
theorem PG.up {m m' n k : Nat} {F : List (List UInt8 × Fl)} {N : Nf} {us : List (List UInt8)} (h : PG m F N n us k) (hm : m ≤ m') : PG m' F N n us k :=
  ⟨h.files, h.rise, h.full, h.kle, h.short, by have := h.nl; omega, by have := h.nn; omega, by have := h.tl; omega⟩
/-- Behind Add and Flush: both done, or the power off. -/
theorem fz_add {tr0 : Nat} (h : Fz own w l d ts i su tr0 false) (hi : i < ts.length) (h30 : ts.length ≤ 30) (t : List UInt8) (ht : ts[i] = t) (hl : t.length ≤ 100) :
    Calls Try.prog 10 #[.pointer (some ⟨l, 0, none⟩), .string ⟨t.toArray⟩] w fun e w' => Keeps own w w' ∧
      ((e = .returned (.int .i64 0) ∧ ∃ F fu N n us, WalAt own w' l d ⟨F, fu, false⟩ (lg N n (us ++ [t])) ∧ PG (2 * i + 1) F N n (us ++ [t]) us.length ∧ flat (lg N n (us ++ [t])) = ts.take (i + 1) ∧ su ≤ (flat (N.map txt)).length + us.length) ∨
       (e = .returned (.int .i64 50) ∧ Fz own w' l d ts (i + 1) su (i + 1) true)) := by
  obtain ⟨F, fu, N, n, us, k, j, h1, h2, h3, h4, h5, h6, h6', h7⟩ := h
  obtain ⟨rfl, rfl⟩ := h7 rfl
  have hb : (flat (lg N n us)).length = j := by rw [h3, List.length_take]; omega
  have hus : us.length ≤ 60 := by have := h2.tl; omega
  have C := add_any h1 ⟨t.toArray⟩ (by rw [size_mkl t]; omega) (by omega)
  rw [show (⟨t.toArray⟩ : ByteArray).data.toList = t from rfl] at C
  have ht1 : ts.take (j + 1) = ts.take j ++ [t] := by rw [List.take_succ_eq_append_getElem hi, ht]
  rcases pg_add (fu := fu) (off := false) (t := t) h2 (by omega) (by omega) with ⟨_, _, F', e, hp⟩ | ⟨hc, fu', e⟩
  · rw [e] at C
    refine C.mono fun e w' ⟨c1, c2, c3⟩ => ⟨c3, .inl ⟨c1, F', _, N, n, us, by rw [if_pos rfl] at c2; exact c2, hp, ?_, h4⟩⟩
    rw [lg_flat, ← List.append_assoc, ← lg_flat, h3, ht1]
  · rw [e] at C
    refine C.mono fun e w' ⟨c1, c2, c3⟩ => ⟨c3, .inr ⟨c1, F, fu', N, n, us, us.length, j, by rw [if_neg (show ¬ (50 : Int) = 0 by decide)] at c2; exact c2, h2.up (by omega), h3, h4, by omega, by omega, h6', fun c => by cases c⟩⟩
theorem fz_flush {F : List (List UInt8 × Fl)} {fu : Int} {N : Nf} {n : Nat} {us : List (List UInt8)} {t : List UInt8} (h1 : WalAt own w l d ⟨F, fu, false⟩ (lg N n (us ++ [t]))) (h2 : PG (2 * i + 1) F N n (us ++ [t]) us.length) (h3 : flat (lg N n (us ++ [t])) = ts.take (i + 1)) (h4 : su ≤ (flat (N.map txt)).length + us.length) (hi : i < ts.length) :
    Calls Try.prog 11 #[.pointer (some ⟨l, 0, none⟩)] w fun e w' => Keeps own w w' ∧
      ((e = .returned (.int .i64 0) ∧ ∃ F fu N n us, WalAt own w' l d ⟨F, fu, false⟩ (lg N n us) ∧ PG (2 * i + 1) F N n us us.length ∧ flat (lg N n us) = ts.take (i + 1)) ∨
       (e = .returned (.int .i64 50) ∧ Fz own w' l d ts (i + 1) su (i + 1) true)) := by
  have C := flush_any h1
  rcases pg_sync (fu := fu) (off := false) h2 with ⟨_, _, F', e, hp⟩ | ⟨hc, fu', e⟩
  · rw [e] at C
    exact C.mono fun e w' ⟨c1, c2, c3⟩ => ⟨c3, .inl ⟨c1, F', _, N, n, us ++ [t], c2, hp, h3⟩⟩
  · rw [e] at C
    exact C.mono fun e w' ⟨c1, c2, c3⟩ => ⟨c3, .inr ⟨c1, F, fu', N, n, us ++ [t], us.length, i + 1, c2, h2.up (by omega), h3, h4, Nat.le_refl _, by omega, by omega, fun c => by cases c⟩⟩
theorem fz_done {F : List (List UInt8 × Fl)} {fu : Int} {N : Nf} {n : Nat} {us : List (List UInt8)} (h1 : WalAt own w l d ⟨F, fu, false⟩ (lg N n us)) (h2 : PG (2 * i + 1) F N n us us.length) (h3 : flat (lg N n us) = ts.take (i + 1)) (hi : i < ts.length) : Fz own w l d ts (i + 1) (i + 1) (i + 1) false := by
  refine ⟨F, fu, N, n, us, us.length, i + 1, h1, h2.up (by omega), h3, ?_, Nat.le_refl _, by omega, by omega, fun _ => ⟨rfl, rfl⟩⟩
  have := congrArg List.length h3
  rw [lg_flat, List.length_append, List.length_take] at this
  omega
theorem fz_roll {F : List (List UInt8 × Fl)} {fu : Int} {N : Nf} {n : Nat} {us : List (List UInt8)} (h1 : WalAt own w l d ⟨F, fu, false⟩ (lg N n us)) (h2 : PG (2 * i + 1) F N n us us.length) (h3 : flat (lg N n us) = ts.take (i + 1)) (hi : i < ts.length) (h30 : ts.length ≤ 30) :
    Calls Try.prog 12 #[.pointer (some ⟨l, 0, none⟩)] w fun e w' => Keeps own w w' ∧ (∃ x y : Int, e = .returned (.tuple #[.int .i64 x, .int .i64 y])) ∧ ∃ off, Fz own w' l d ts (i + 1) (i + 1) (i + 1) off := by
  have hlen : (flat (N.map txt)).length + us.length = i + 1 := by
    have := congrArg List.length h3
    rw [lg_flat, List.length_append, List.length_take] at this
    omega
  have C := roll_any h1 (by have := h2.nl; rw [List.length_map]; omega)
  rcases pg_roll (fu := fu) (off := false) h2 (by omega) with ⟨_, _, F', fu', e, hp, _⟩ | ⟨_, F', fu', k', e, hp, hk⟩
  · rw [e] at C
    refine C.mono fun e w' ⟨c1, c2, c3⟩ => ⟨c3, ⟨_, _, c1⟩, false, F', fu', _, _, [], 0, i + 1, ?_, hp.up (by omega), ?_, ?_, Nat.le_refl _, by omega, by omega, fun _ => ⟨rfl, rfl⟩⟩
    · rw [if_pos rfl] at c2
      rw [lg_next h2.short]
      exact c2
    · rw [lg_next h2.short, flat_append, flat_one, List.append_nil, h3]
    · have e2 : flat ((N ++ [(n, fl us us.length)]).map txt) = ts.take (i + 1) := by
        have := lg_next (N := N) (n := n) h2.short
        have h5 := congrArg flat this
        rw [lg_flat, List.append_nil, flat_append, flat_one, List.append_nil, h3] at h5
        exact h5
      rw [e2, List.length_take]
      omega
  · rw [e] at C
    refine C.mono fun e w' ⟨c1, c2, c3⟩ => ⟨c3, ⟨_, _, c1⟩, true, F', fu', N, n, us, k', i + 1, ?_, hp.up (by omega), h3, ?_, Nat.le_refl _, by omega, by omega, fun c => by cases c⟩
    · rw [if_neg (show ¬ (50 : Int) = 0 by decide)] at c2
      exact c2
    · omega
theorem fz_crash {su tr : Nat} {off : Bool} (h : Fz own w l d ts i su tr off) (a : Option Addr) (cap : Nat) (ks : List Int) (hk : Kp own w a ks) (hkl : ks.length ≤ maxLen) :
    Calls Try.prog 13 #[.pointer (some ⟨d, 0, none⟩), .slice a ks.length cap] w fun e w' => e = .returned (.int .i64 0) ∧ ∃ N' q, DiskAt own w' d (calm (lf N')) ∧ Full (2 * i + 1) N' ∧ flat (N'.map txt) = ts.take q ∧ su ≤ q ∧ q ≤ tr ∧ q ≤ ts.length ∧ Keeps own w w' := by
  obtain ⟨F, fu, N, n, us, k, j, h1, h2, h3, h4, h5, h6, h6', h7⟩ := h
  obtain ⟨g, r, e, hg, hf, h8, h9⟩ := pg_crash (fu := fu) (off := off) h2 ks
  have C := crash_any h1.toDisk a cap ks hk hkl
  rw [e] at C
  have hb : (flat (N.map txt)).length + us.length = j := by
    have := congrArg List.length h3
    rw [lg_flat, List.length_append, List.length_take] at this
    omega
  refine C.mono fun e w' ⟨c1, c2, c3⟩ => ⟨c1, _, (flat (N.map txt)).length + r, c2, pg_full h2 hg, ?_, by omega, by omega, by omega, c3⟩
  rw [List.map_append, flat_append, List.map_singleton]
  show _ ++ flat [(n, (fa g.bytes).1)] = _
  rw [flat_one, hf]
  have e2 : ts.take ((flat (N.map txt)).length + r) = (ts.take j).take ((flat (N.map txt)).length + r) := by rw [List.take_take, Nat.min_eq_left (by omega)]
  rw [e2, ← h3, lg_flat, List.take_append, List.take_of_length_le (show (flat (N.map txt)).length ≤ _ by omega), show (flat (N.map txt)).length + r - (flat (N.map txt)).length = r by omega]
end

theorem kp_up {own own' : Nat → Prop} {w : World} {a : Option Addr} {ks : List Int} (h : Kp own w a ks) (ho : ∀ b, own b → own' b) : Kp own' w a ks := ⟨h.1, h.2.imp id fun ⟨b, off, h1, h2, h3⟩ => ⟨b, off, h1, ho b h2, h3⟩⟩
set_option maxRecDepth 100000 in
set_option maxHeartbeats 400000 in
theorem fuses_e1 (a : Option Addr) (cap : Nat) (ts : List (List UInt8)) (x0 x1 : Int) (ka : Option Addr) (kl kc : Nat) (w : World) (hl : ts.length ≤ maxLen) (hkm : kl ≤ maxLen) (h : 30 < (ts.length : Int) ∨ ((ts.length : Int) ≤ 30 ∧ 10 < (kl : Int))) : Calls Try.prog 4 #[.slice a ts.length cap, .agg #[.int .i64 x0, .int .i64 x1], .slice ka kl kc] w fun e w' => e = .returned (.bool true) ∧ Below w.heap.size w w' := by
  unfold maxLen at hl hkm
  rcases h with h | ⟨h, h2⟩
  all_goals
    go_enter Try.func4, Try.ntmps4
    go_wp2_with fail
    have ha := al1 w (.cells #[.int .i64 x0, .int .i64 x1] 23)
    generalize (w.alloc (.cells #[.int .i64 x0, .int .i64 x1] 23)) = w0 at ha ⊢
    have HA := Lib.hid ha
    clear ha
    refine (new_any _).mono ?_
    rintro e w1 ⟨rfl, hd, hb⟩
    have HB := Lib.hid (bt HA.out hb)
    have C := wp_new hd 0 (by omega)
    rw [show ((0 : Nat) : Int) = 0 from rfl] at C
    have HC := Lib.hid C
    clear hd hb C
    go_wp2_with fail
    refine HC.out.mono ?_
    rintro e w2 ⟨l, rfl, hw, hk⟩
    have HB2 := Lib.hid (HB.out.trans ((hk.below (B := w.heap.size) fun b hb => Nat.lt_of_lt_of_le hb HA.out.size)))
    clear hw hk HC
    go_wp2_with (go_at_call 9; refine (awake_any _).mono ?_; rintro e w3 ⟨rfl, bb⟩)
    go_ret
    exact ⟨rfl, HB2.out.trans (bb.mono HB2.out.size)⟩
set_option maxRecDepth 100000 in
set_option maxHeartbeats 800000 in
theorem fuses_main (a : Option Addr) (cap : Nat) (ts : List (List UInt8)) (x0 x1 : Int) (ka : Option Addr) (kl kc : Nat) (zs : List Int) (w : World) (hr : Rd w a ts) (hl : ts.length ≤ maxLen) (hcap : ts.length ≤ cap) (hk : IsRow .i64 w ka kl kc zs) (h : (ts.length : Int) ≤ 30) (h2 : (kl : Int) ≤ 10) : Calls Try.prog 4 #[.slice a ts.length cap, .agg #[.int .i64 x0, .int .i64 x1], .slice ka kl kc] w fun e w' => e = .returned (.bool true) ∧ Below w.heap.size w w' := by
  clear hl
  obtain ⟨ks, hkl, hkp⟩ := kp_row (own := fun b => b < w.heap.size) hk fun b hb => hb
  obtain ⟨w0, hw0⟩ : ∃ w0, w0 = w.alloc (.cells #[.int .i64 x0, .int .i64 x1] 23) := ⟨_, rfl⟩
  have HSZ := Lib.hid (show w0.heap.size = w.heap.size + 1 by rw [hw0]; simp)
  have HB00 := Lib.hid (show Below w.heap.size w w0 by rw [hw0]; exact al1 _ _)
  have k0 : w0.cell? ⟨w.heap.size, 0, none⟩ = some (.int .i64 x0) := by rw [hw0, World.cell?_alloc_mark]; rfl
  have k1 : w0.cell? ⟨w.heap.size, 1, none⟩ = some (.int .i64 x1) := by rw [hw0, World.cell?_alloc_mark]; rfl
  have HR := Lib.hid (hr.old HB00.out)
  have HKP := Lib.hid hkp
  have HKL := Lib.hid hkl
  have HK0 := Lib.hid k0
  have HK1 := Lib.hid k1
  obtain ⟨f0, hf0, hf8⟩ := low8 x0
  have HW0 := Lib.hid hw0
  clear hr hk hkp hkl hw0 k0 k1
  obtain ⟨own, hown⟩ : ∃ own : Nat → Prop, own = fun b => b < w0.heap.size := ⟨_, rfl⟩
  have HO : Hid (∀ b, b < w0.heap.size → own b) := Lib.hid fun b hb => by rw [hown]; exact hb
  have HON := Lib.hid hown
  clear hown
  go_enter Try.func4, Try.ntmps4
  go_wp2_with fail
  rw [← HW0.out]
  refine (new_any _).mono ?_
  rintro e w1 ⟨rfl, hd, hb⟩
  rw [← HON.out] at hd
  have HB1 := Lib.hid hb
  have C := wp_new hd 0 (by omega)
  rw [show ((0 : Nat) : Int) = 0 from rfl] at C
  have HC := Lib.hid C
  clear hd hb C
  go_wp2_with fail
  refine HC.out.mono ?_
  rintro e w2 ⟨l, rfl, hw, hk⟩
  have HB2 := Lib.hid (HB1.out.trans (hk.below HO.out))
  have hww2 : w.heap.size < w2.heap.size := by have := HB2.out.size; have := HSZ.out; omega
  have hk0 := (HB2.out.cell (p := ⟨w.heap.size, 0, none⟩) (by have := HSZ.out; show w.heap.size < _; omega)).trans HK0.out
  obtain ⟨F, hF1, hF2⟩ := hw
  obtain ⟨own', hd2, ho2, hre⟩ := hF1.disk
  have C := fuse_any hd2 (f0 : Int) (by omega)
  have HC2 := Lib.hid C
  have HRE := Lib.hid hre
  have HO2 := Lib.hid ho2
  have HF2 := Lib.hid hF2
  clear hk hd2 hre ho2 hF1 hF2 C HC HB1
  go_wp2_with fail
  refine HC2.out.mono ?_
  rintro e w3 ⟨rfl, hd3, hk3⟩
  have hz3 : Fz own w3 l (w0.heap.size + 1) ts 0 0 0 false := ⟨F, (f0 : Int), [], 0, [], 0, 0, HRE.out _ _ hd3 hk3, HF2.out, rfl, Nat.zero_le _, Nat.le_refl _, Nat.zero_le _, Nat.zero_le _, fun _ => ⟨rfl, rfl⟩⟩
  have HZ3 := Lib.hid hz3
  have HB3 := Lib.hid (HB2.out.trans ((hk3.mono HO2.out).below HO.out))
  have HL := Lib.hid h
  have HL2 := Lib.hid h2
  clear hd3 hk3 hz3 HRE HF2 HO2 HC2 HB2 h h2 hk0 hf0 hf8 hww2
  go_wp2
  go_loopw [10, 11, 12] (fun s t i wr => ∃ (q su tr : Nat) (off : Bool), s = .int .i64 su ∧ t = .int .i64 tr ∧ i = .int .i64 q ∧ Hid (q ≤ ts.length) ∧ Hid (Fz own wr l (w0.heap.size + 1) ts q su tr off) ∧ Hid (Below w0.heap.size w0 wr)) (fun _ _ i _ => ts.length - (intOf i).toNat)
  case atStart => exact ⟨0, 0, 0, false, rfl, rfl, rfl, Lib.hid (Nat.zero_le _), HZ3, HB3⟩
  case round =>
    obtain ⟨q, su, tr, off, rfl, rfl, rfl, hq, HZ, HB⟩ := hrel
    clear HZ3 HB3
    have HQ : Hid (q ≤ 30) := Lib.hid (by have := hq.out; have := HL.out; omega)
    by_cases hlt : q < ts.length
    · have hlti : (q : Int) < (ts.length : Int) := by omega
      cases off with
      | true =>
        go_wp2_with fail
        refine (fz_off HZ.out).mono ?_
        rintro e w' ⟨rfl, rfl⟩
        have hkp : Kp own wr ka ks := kp_up (HKP.out.keeps (Keeps.of_below (HB00.out.trans (HB.out.mono (by rw [HSZ.out]; omega))) fun b hb => hb)) fun b hb => HO.out b (by have := HSZ.out; omega)
        have C := fz_crash HZ.out ka kc ks hkp (by have := HL2.out; have := HKL.out; unfold maxLen; omega)
        rw [HKL.out] at C
        have HC := Lib.hid C
        clear C hkp
        go_wp2_with fail
        refine HC.out.mono ?_
        rintro e w7 ⟨rfl, N', r, hd7, hf7, ht7, h8, h9, h10, hk7⟩
        have HB7 := Lib.hid (HB.out.trans (hk7.below HO.out))
        have C := wp_open hd7 hf7 (by have := HQ.out; omega) 0 (by omega)
        rw [show ((0 : Nat) : Int) = 0 from rfl] at C
        have HC7 := Lib.hid C
        have HT7 := Lib.hid ht7
        clear C hd7 hf7 ht7 hk7 HC HZ HB
        go_wp2_with fail
        refine HC7.out.mono ?_
        rintro e w8 ⟨l2, M, x, hM, hx, rfl, hw8, hk8⟩
        have hM' : M = N' := by rw [hM]; exact List.filter_eq_self.2 fun p _ => by simp
        have HB8 := Lib.hid (HB7.out.trans (hk8.below HO.out))
        have hTl : (ts.take r).length = r := by rw [List.length_take]; omega
        have hAl : ∀ w', Below w8.heap.size w8 w' → Calls Try.prog 14 #[.pointer (some ⟨l2, 0, none⟩)] w' fun e w'' => ∃ a cap, e = .returned (.slice a r cap) ∧ Rd w'' a (ts.take r) ∧ Below w'.heap.size w' w'' := fun w' hb => by
          have := wp_all (hw8.below hb) (by have := HQ.out; omega) (ts.take r) (by rw [lg_flat, List.append_nil, hM', HT7.out])
          rw [hTl] at this
          exact this
        have hRd : ∀ w', Below w8.heap.size w8 w' → Rd w' a (ts.take r) := fun w' hb => ((HR.out.old (HB8.out)).old hb).take r
        have HAl := Lib.hid hAl
        have HRd := Lib.hid hRd
        have HTl := Lib.hid hTl
        clear hM hx hw8 hk8 hM' hAl hRd hTl HC7 HT7 HB7
        go_wp2_with fail
        refine (HAl.out _ (Below.refl _ _)).mono ?_
        rintro e w9 ⟨a1, c1, rfl, hr1, hb9⟩
        have HB9 := Lib.hid (HB8.out.trans (hb9.mono HB8.out.size))
        have HAl9 := Lib.hid fun w' (hb : Below w9.heap.size w9 w') => HAl.out w' (bt hb9 hb)
        have HRd9 := Lib.hid fun w' (hb : Below w9.heap.size w9 w') => HRd.out w' (bt hb9 hb)
        clear hb9 hr1 HAl HRd HB8
        have g1 : (su : Int) ≤ (r : Int) := by omega
        have g2 : (r : Int) ≤ (tr : Int) := by omega
        have g3 : (r : Int) ≤ (ts.length : Int) := by omega
        have g4 : (r : Int) ≤ (cap : Int) := by omega
        have g5 : r < 9223372036854775808 := by have := HL.out; omega
        go_wp2_with fail
        go_region_held3 (fun w' => Below w9.heap.size w9 w')
          (first | exact (Below.refl _ _).drew | assumption | exact bt (by assumption) (by assumption))
          (first
            | (go_at_call 14; (with_reducible refine (HAl9.out _ ?_).mono ?_); (assumption); rintro e w' ⟨a', c', rfl, rr, bb⟩)
            | (go_at_call 15; refine (same_at _ _ r r _ _ (ts.take r) (ts.take r) true _ ?_ ?_ HTl.out HTl.out g5 (by simp)).mono ?_; (first | assumption | exact Rd.old (by assumption) (by assumption)); (exact HRd9.out _ (by assumption)); rintro e w' ⟨rfl, bb⟩)
            | (go_at_call 9; refine (awake_any _).mono ?_; rintro e w' ⟨rfl, bb⟩))
        all_goals
          go_wp2
          go_ret
          exact ⟨rfl, HB00.out.trans ((HB9.out.trans ((by assumption : Below w9.heap.size w9 _).mono HB9.out.size)).mono (by rw [HSZ.out]; omega))⟩
      | false =>
        have hq30 : (q : Int) < 30 := by have := HL.out; omega
        have hrd := HR.out.old HB.out
        obtain ⟨b, ofs, rfl, hb, hcell⟩ : ∃ b ofs, a = some ⟨b, ofs, none⟩ ∧ b < wr.heap.size ∧ wr.cell? ⟨b, ofs + q, none⟩ = some (.string ⟨ts[q].toArray⟩) := by
          rcases hrd with rfl | ⟨b, ofs, h1, h2, h3⟩
          · simp at hlt
          · exact ⟨b, ofs, h1, h2, h3 q hlt⟩
        clear hrd
        have hwr : w.heap.size < wr.heap.size := by have := HB.out.size; have := HSZ.out; omega
        obtain ⟨t, ht⟩ : ∃ t, ts[q] = t := ⟨_, rfl⟩
        rw [ht] at hcell
        by_cases h100 : 100 < (t.length : Int)
        · clear ht
          go_wp2_with (first
            | (go_at_call 17; refine (fz_off HZ.out).mono ?_; rintro e w' ⟨rfl, rfl⟩)
            | (go_at_call 9; refine (awake_any _).mono ?_; rintro e w' ⟨rfl, bb⟩))
          go_ret
          exact ⟨rfl, HB00.out.trans ((HB.out.trans (bb.mono HB.out.size)).mono (by rw [HSZ.out]; omega))⟩
        · have h100' : (t.length : Int) ≤ 100 := by omega
          have C := fz_add HZ.out hlt (by have := HL.out; omega) t ht (by omega)
          have HC := Lib.hid C
          have HLT := Lib.hid hlt
          clear C ht h100
          go_wp2_with fail
          refine (fz_off HZ.out).mono ?_
          rintro e w' ⟨rfl, rfl⟩
          go_wp2_with fail
          refine HC.out.mono ?_
          rintro e w4 ⟨hk4, hr4⟩
          have HB4 := Lib.hid (HB.out.trans (hk4.below HO.out))
          clear hk4 HC HZ HB
          rcases hr4 with ⟨rfl, F1, fu1, N1, n1, us1, h41, h42, h43, h44⟩ | ⟨rfl, hz4⟩
          · have C := fz_flush h41 h42 h43 h44 hlt
            have HC := Lib.hid C
            clear C h41 h42 h43 h44
            go_wp2_with fail
            refine HC.out.mono ?_
            rintro e w5 ⟨hk5, hr5⟩
            have HB5 := Lib.hid (HB4.out.trans (hk5.below HO.out))
            clear hk5 HC HB4
            rcases hr5 with ⟨rfl, F2, fu2, N2, n2, us2, h51, h52, h53⟩ | ⟨rfl, hz5⟩
            · have H5 := Lib.hid (And.intro h51 (And.intro h52 h53))
              have hk1 := (HB5.out.cell (p := ⟨w.heap.size, 1, none⟩) (by have := HSZ.out; show w.heap.size < _; omega)).trans HK1.out
              have hw5 : w.heap.size < w5.heap.size := by have := HB5.out.size; have := HSZ.out; omega
              clear h51 h52 h53
              cases hbit : (bits BinOp.and IntKind.i64 (x1 / 2 ^ q) 1 == 1) with
              | false =>
                have HZ5 := Lib.hid (fz_done H5.out.1 H5.out.2.1 H5.out.2.2 HLT.out)
                go_wp2
                go_roundw
                case rel => exact ⟨q + 1, q + 1, q + 1, false, by go_num, by go_num, by go_num, Lib.hid (by omega), HZ5, HB5⟩
                case measure => simp [intOf]; omega
              | true =>
                have C := fz_roll H5.out.1 H5.out.2.1 H5.out.2.2 HLT.out (by have := HL.out; omega)
                have HC := Lib.hid C
                clear C
                go_wp2_with fail
                refine HC.out.mono ?_
                rintro e w6 ⟨hk6, ⟨x, y, rfl⟩, off6, hz6⟩
                have HB6 := Lib.hid (HB5.out.trans (hk6.below HO.out))
                have HZ6 := Lib.hid hz6
                clear hk6 hz6 HC HB5
                go_wp2
                go_roundw
                case rel => exact ⟨q + 1, q + 1, q + 1, off6, by go_num, by go_num, by go_num, Lib.hid (by omega), HZ6, HB6⟩
                case measure => simp [intOf]; omega
            · have HZ5 := Lib.hid hz5
              clear hz5
              go_wp2
              go_roundw
              case rel => exact ⟨q + 1, su, q + 1, true, by go_num, by go_num, by go_num, Lib.hid (by omega), HZ5, HB5⟩
              case measure => simp [intOf]; omega
          · have HZ4 := Lib.hid hz4
            clear hz4
            go_wp2
            go_roundw
            case rel => exact ⟨q + 1, su, q + 1, true, by go_num, by go_num, by go_num, Lib.hid (by omega), HZ4, HB4⟩
            case measure => simp [intOf]; omega
    · have hlti : ¬ (q : Int) < (ts.length : Int) := by omega
      have hkp : Kp own wr ka ks := kp_up (HKP.out.keeps (Keeps.of_below (HB00.out.trans (HB.out.mono (by rw [HSZ.out]; omega))) fun b hb => hb)) fun b hb => HO.out b (by have := HSZ.out; omega)
      have C := fz_crash HZ.out ka kc ks hkp (by have := HL2.out; have := HKL.out; unfold maxLen; omega)
      rw [HKL.out] at C
      have HC := Lib.hid C
      clear C hkp
      go_wp2_with fail
      refine HC.out.mono ?_
      rintro e w7 ⟨rfl, N', r, hd7, hf7, ht7, h8, h9, h10, hk7⟩
      have HB7 := Lib.hid (HB.out.trans (hk7.below HO.out))
      have C := wp_open hd7 hf7 (by have := HQ.out; omega) 0 (by omega)
      rw [show ((0 : Nat) : Int) = 0 from rfl] at C
      have HC7 := Lib.hid C
      have HT7 := Lib.hid ht7
      clear C hd7 hf7 ht7 hk7 HC HZ HB
      go_wp2_with fail
      refine HC7.out.mono ?_
      rintro e w8 ⟨l2, M, x, hM, hx, rfl, hw8, hk8⟩
      have hM' : M = N' := by rw [hM]; exact List.filter_eq_self.2 fun p _ => by simp
      have HB8 := Lib.hid (HB7.out.trans (hk8.below HO.out))
      have hTl : (ts.take r).length = r := by rw [List.length_take]; omega
      have hAl : ∀ w', Below w8.heap.size w8 w' → Calls Try.prog 14 #[.pointer (some ⟨l2, 0, none⟩)] w' fun e w'' => ∃ a cap, e = .returned (.slice a r cap) ∧ Rd w'' a (ts.take r) ∧ Below w'.heap.size w' w'' := fun w' hb => by
        have := wp_all (hw8.below hb) (by have := HQ.out; omega) (ts.take r) (by rw [lg_flat, List.append_nil, hM', HT7.out])
        rw [hTl] at this
        exact this
      have hRd : ∀ w', Below w8.heap.size w8 w' → Rd w' a (ts.take r) := fun w' hb => ((HR.out.old (HB8.out)).old hb).take r
      have HAl := Lib.hid hAl
      have HRd := Lib.hid hRd
      have HTl := Lib.hid hTl
      clear hM hx hw8 hk8 hM' hAl hRd hTl HC7 HT7 HB7
      go_wp2_with fail
      refine (HAl.out _ (Below.refl _ _)).mono ?_
      rintro e w9 ⟨a1, c1, rfl, hr1, hb9⟩
      have HB9 := Lib.hid (HB8.out.trans (hb9.mono HB8.out.size))
      have HAl9 := Lib.hid fun w' (hb : Below w9.heap.size w9 w') => HAl.out w' (bt hb9 hb)
      have HRd9 := Lib.hid fun w' (hb : Below w9.heap.size w9 w') => HRd.out w' (bt hb9 hb)
      clear hb9 hr1 HAl HRd HB8
      have g1 : (su : Int) ≤ (r : Int) := by omega
      have g2 : (r : Int) ≤ (tr : Int) := by omega
      have g3 : (r : Int) ≤ (ts.length : Int) := by omega
      have g4 : (r : Int) ≤ (cap : Int) := by omega
      have g5 : r < 9223372036854775808 := by have := HL.out; omega
      go_wp2_with fail
      go_region_held3 (fun w' => Below w9.heap.size w9 w')
        (first | exact (Below.refl _ _).drew | assumption | exact bt (by assumption) (by assumption))
        (first
          | (go_at_call 14; (with_reducible refine (HAl9.out _ ?_).mono ?_); (assumption); rintro e w' ⟨a', c', rfl, rr, bb⟩)
          | (go_at_call 15; refine (same_at _ _ r r _ _ (ts.take r) (ts.take r) true _ ?_ ?_ HTl.out HTl.out g5 (by simp)).mono ?_; (first | assumption | exact Rd.old (by assumption) (by assumption)); (exact HRd9.out _ (by assumption)); rintro e w' ⟨rfl, bb⟩)
          | (go_at_call 9; refine (awake_any _).mono ?_; rintro e w' ⟨rfl, bb⟩))
      all_goals
        go_wp2
        go_ret
        exact ⟨rfl, HB00.out.trans ((HB9.out.trans ((by assumption : Below w9.heap.size w9 _).mono HB9.out.size)).mono (by rw [HSZ.out]; omega))⟩
theorem walk_WalFuses (a : Option Addr) (cap : Nat) (ts : List (List UInt8)) (x0 x1 : Int) (ka : Option Addr) (kl kc : Nat) (zs : List Int) (w : World) (hr : Rd w a ts) (hl : ts.length ≤ maxLen) (hcap : ts.length ≤ cap) (hk : IsRow .i64 w ka kl kc zs) : Calls Try.prog 4 #[.slice a ts.length cap, .agg #[.int .i64 x0, .int .i64 x1], .slice ka kl kc] w fun e w' => e = .returned (.bool true) ∧ Below w.heap.size w w' := by
  have hkm : kl ≤ maxLen := by
    by_cases h0 : 0 < kl
    · obtain ⟨b, off, rfl, hb, hlz, hcm, hlc, hcell, hwz⟩ := hk.at_ h0
      omega
    · unfold maxLen; omega
  by_cases h : 30 < (ts.length : Int)
  · exact fuses_e1 a cap ts x0 x1 ka kl kc w hl hkm (.inl h)
  by_cases h2 : 10 < (kl : Int)
  · exact fuses_e1 a cap ts x0 x1 ka kl kc w hl hkm (.inr ⟨by omega, h2⟩)
  exact fuses_main a cap ts x0 x1 ka kl kc zs w hr hl hcap hk (by omega) (by omega)
end Go.Proofs.Ythikedhbjphmeaa
