/-
  Layer 12 (manifest): the contracts of both Replays. Conditions: at most 20 texts.
-/
import Derived.Test.YtkpemlgolpihiaaZu
import Derived.Test.YtkpemlgolpihiaaRD
namespace Go.Proofs.Ytkpemlgolpihiaa
set_option maxRecDepth 100000
open Go.RowKit
set_option linter.unusedVariables false
set_option linter.unusedSimpArgs false

theorem SQ.other {w : World} {x y : Nat} {A B : Value} {lg nx lg2 nx2 : Int} (h : SQ w x A lg nx) (hq : SQ w y B lg2 nx2) (hne : x ≠ y) (u0 u1 u2 : Value) : SQ (((w.setCell ⟨y, 0, none⟩ u0).setCell ⟨y, 1, none⟩ u1).setCell ⟨y, 2, none⟩ u2) x A lg nx := by
  obtain ⟨⟨⟨c0, c1, c2, c3⟩, f0, f1, f2⟩, hn⟩ := h
  have hne' : ¬ y = x := fun e => hne e.symm
  refine ⟨⟨⟨by simp [go_sem, hne, hne', c0], by simp [go_sem, hne, hne', c1], by simp [go_sem, hne, hne', c2], by simpa using c3⟩, by simpa using f0, by simpa using f1, by simpa using f2⟩, fun i hi => ?_⟩
  simp [go_sem, hne, hne', hn i hi]
theorem rd_at {w : World} {a : Option Addr} {ts : List (List UInt8)} (h : Rd w a ts) : ∃ b off, (0 < ts.length → a = some ⟨b, off, none⟩) ∧ (0 < ts.length → b < w.heap.size) ∧ ∀ i (h : i < ts.length), w.cell? ⟨b, off + i, none⟩ = some (.string ⟨ts[i].toArray⟩) := by
  rcases h with rfl | ⟨b, off, rfl, hb, hc⟩
  · exact ⟨0, 0, fun h => by simp at h, fun h => by simp at h, fun i hi => by simp at hi⟩
  · exact ⟨b, off, fun _ => rfl, fun _ => hb, hc⟩
/-- A state behind the edit of a text; none: it does not fit. -/
def repF (s : St) (t : List UInt8) : Option St := if tkN ⟨t.toArray⟩ = 0 ∧ apN s (tkD ⟨t.toArray⟩) = 0 then some (apS s (tkD ⟨t.toArray⟩)) else none
def repO : St → List (List UInt8) → Option St
  | s, [] => some s
  | s, t :: ts => (repF s t).bind fun s' => repO s' ts
theorem repO_app : ∀ (l l' : List (List UInt8)) (s : St), repO s (l ++ l') = (repO s l).bind fun s' => repO s' l'
  | [], l', s => rfl
  | t :: l, l', s => by
    show (repF s t).bind (fun s' => repO s' (l ++ l')) = ((repF s t).bind fun s' => repO s' l).bind fun s' => repO s' l'
    cases repF s t with
    | none => rfl
    | some s' => exact repO_app l l' s'
/-- What Replay answers. -/
def RPE (ts : List (List UInt8)) (w : World) (e : Ending) (w' : World) : Prop := ∃ V, e = .returned (.tuple #[V, .int .i64 (if (repO ([], 0, 0) ts).isSome = true then 0 else 120)]) ∧ SV w' V ((repO ([], 0, 0) ts).getD ([], 0, 0)) ∧ Below w.heap.size w w'
theorem rep_no {ts : List (List UInt8)} {z s : St} {k : Nat} (hk : k < ts.length) (h : repO z (ts.take k) = some s) (hn : repF s ts[k] = none) : repO z ts = none := by
  have e : ts = ts.take k ++ ts[k] :: ts.drop (k + 1) := by rw [← List.drop_eq_getElem_cons hk, List.take_append_drop]
  rw [e, repO_app, h]
  show (repF s ts[k]).bind _ = none
  rw [hn]
  rfl
theorem rep_go {ts : List (List UInt8)} {z s s' : St} {k : Nat} (hk : k < ts.length) (h : repO z (ts.take k) = some s) (hn : repF s ts[k] = some s') : repO z (ts.take (k + 1)) = some s' := by
  rw [List.take_succ_eq_append_getElem hk, repO_app, h]
  show (repF s ts[k]).bind _ = some s'
  rw [hn]
  rfl
theorem rep_take {s : St} {t : List UInt8} (h : tkN ⟨t.toArray⟩ = 120) : repF s t = none := by
  unfold repF; rw [if_neg]; intro q; rw [h] at q; cases q.1
theorem rep_app {s : St} {t : List UInt8} (h : ¬ apN s (tkD ⟨t.toArray⟩) = 0) : repF s t = none := by
  unfold repF; rw [if_neg]; exact fun q => h q.2
theorem rep_yes {s : St} {t : List UInt8} (h : tkN ⟨t.toArray⟩ = 0) (h2 : apN s (tkD ⟨t.toArray⟩) = 0) : repF s t = some (apS s (tkD ⟨t.toArray⟩)) := by
  unfold repF; rw [if_pos ⟨h, h2⟩]
set_option maxRecDepth 1000000 in
set_option maxHeartbeats 16000000 in
theorem replay_any (a : Option Addr) (n cap : Nat) (ts : List (List UInt8)) (w : World) (hrd : Rd w a ts) (hl : ts.length = n) (hn : n ≤ 20) (hs : ∀ t ∈ ts, t.length ≤ 16777216) :
    Calls Try.prog 24 #[.slice a n cap] w (RPE ts w) := by
  obtain ⟨b, off, ha, hb, hc⟩ := rd_at hrd
  rw [hl] at ha hb
  have HC := Lib.hid hc
  have HL := Lib.hid hl
  have HSZ := Lib.hid hs
  have hs0 := (SQ.new w 38 (.slice none 0 0) 0 0).keep (box_bel (w.alloc (.cells #[.slice none 0 0, .int .i64 0, .int .i64 0] 38)) (.cells #[.slice none 0 0, .int .i64 0, .int .i64 0] 38)) (by simp [go_sem])
  have ht0 := LS.zero (w.alloc (.cells #[.slice none 0 0, .int .i64 0, .int .i64 0] 38)) 38
  have b2 := (box_bel w (.cells #[.slice none 0 0, .int .i64 0, .int .i64 0] 38)).trans ((box_bel (w.alloc (.cells #[.slice none 0 0, .int .i64 0, .int .i64 0] 38)) (.cells #[.slice none 0 0, .int .i64 0, .int .i64 0] 38)).mono (box_bel w _).size)
  have k1 : (w.alloc (.cells #[.slice none 0 0, .int .i64 0, .int .i64 0] 38)).heap.size = w.heap.size + 1 := by simp [go_sem]
  rw [k1] at ht0
  clear k1 hrd hl hc hs
  go_enter Try.func24, Try.ntmps24
  go_upto_region 2 with fail
  obtain ⟨xr, hxr⟩ : ∃ xr, xr = w.heap.size := ⟨_, rfl⟩
  rw [← hxr] at hs0 ht0 ⊢
  obtain ⟨xs, hxs⟩ : ∃ xs, xs = xr + 1 := ⟨_, rfl⟩
  rw [← hxs] at ht0 ⊢
  have hx1 : w.heap.size ≤ xr := by omega
  have hx2 : w.heap.size ≤ xs := by omega
  have hxne : xr ≠ xs := by omega
  clear hxr hxs
  generalize (w.alloc (.cells #[.slice none 0 0, .int .i64 0, .int .i64 0] 38)).alloc (.cells #[.slice none 0 0, .int .i64 0, .int .i64 0] 38) = w0 at *
  have HS0 := Lib.hid hs0
  have HT0 := Lib.hid ht0
  have HB0 := Lib.hid b2
  have HXS := Lib.hid (And.intro hx1 (And.intro hx2 hxne))
  have HZERO : Hid (∀ wf, Below w.heap.size w wf → repO ([], 0, 0) ts = none → RPE ts w (.returned (.tuple #[.agg #[.slice none 0 0, .int .i64 0, .int .i64 0], .int .i64 120])) (((wf.setCell ⟨xr, 0, none⟩ (.slice none 0 0)).setCell ⟨xr, 1, none⟩ (.int .i64 0)).setCell ⟨xr, 2, none⟩ (.int .i64 0))) := Lib.hid fun wf hb hN =>
    ⟨_, by rw [hN]; rfl, by rw [hN]; exact SV.zero _, below3 hb HXS.out.1 _ _ _⟩
  clear hs0 ht0 b2 hxne
  go_wp2_with fail
  go_loopw [6, 7, 8, 11] (fun _ _ _ i wr => ∃ (k : Nat) (s : St) (sa : Option Addr) (sc : Nat), i = .int .i64 k ∧ k ≤ n ∧ Hid (LS wr xs k s sa sc) ∧ Hid (SQ wr xr (.slice none 0 0) 0 0) ∧ Hid (repO ([], 0, 0) (ts.take k) = some s) ∧ Hid (Below w.heap.size w wr)) (fun _ _ _ i _ => n - (intOf i).toNat)
  case atStart => exact ⟨0, ([], 0, 0), none, 0, by first | rfl | go_num, by omega, HT0, HS0, Lib.hid rfl, HB0⟩
  case round =>
    obtain ⟨k, s, sa, sc, rfl, hk, HS, HR, HO, HW⟩ := hrel
    by_cases hlt : k < n
    · have hki : (k : Int) < (n : Int) := by omega
      obtain rfl := ha (by omega)
      have hbw := hb (by omega)
      have hkl : k < ts.length := by rw [HL.out]; exact hlt
      have c0 := (HW.out.cell (p := ⟨b, off + k, none⟩) hbw).trans (HC.out k hkl)
      have hbr := Nat.lt_of_lt_of_le hbw HW.out.size
      obtain ⟨tx, htx⟩ : ∃ tx : ByteArray, tx = ⟨ts[k].toArray⟩ := ⟨_, rfl⟩
      rw [← htx] at c0
      have hsz : tx.size ≤ 16777216 := by rw [htx]; exact HSZ.out _ (List.getElem_mem hkl)
      have HTX := Lib.hid htx
      have HTK := Lib.hid (take12_any tx hsz wr)
      obtain ⟨M, hM⟩ : ∃ M, M = tkN tx := ⟨_, rfl⟩
      obtain ⟨E, hE⟩ : ∃ E, E = tkD tx := ⟨_, rfl⟩
      have HTE : Hid (∀ x wb, TKE tx wr x wb → ∃ V, x = .returned (.tuple #[V, .int .i64 M]) ∧ EV wb V E ∧ Below wr.heap.size wr wb) := Lib.hid (by rw [hM, hE]; exact fun _ _ h => h)
      have HME := Lib.hid (And.intro hM hE)
      have hM01 : M = 0 ∨ M = 120 := by
        rw [hM]; unfold tkN; split
        · exact .inl rfl
        · exact .inr rfl
      clear htx hM hE hsz
      go_upto_region 6 with (go_at_call 13; refine HTK.out.mono ?_; rintro e' w5 he; obtain ⟨V5, rfl, hv5, hb5⟩ := HTE.out _ _ he; clear he; have HB5 := Lib.hid hb5; have HV5 := Lib.hid hv5; obtain ⟨aa5, an5, ac5, da5, dn5, dc5, rfl, -, -, -⟩ := hv5; clear hb5)
      clear HTK HTE c0 hbr
      obtain ⟨lg, hlg⟩ : ∃ lg, lg = E.2.2.1 := ⟨_, rfl⟩
      obtain ⟨nx, hnx⟩ : ∃ nx, nx = E.2.2.2 := ⟨_, rfl⟩
      rw [← hlg, ← hnx] at HV5 ⊢
      clear hlg hnx
      have bz := EdBox.new w5 25 (.slice aa5 an5 ac5) (.slice da5 dn5 dc5) lg nx
      have b0 := box_bel w5 (.cells #[.slice aa5 an5 ac5, .slice da5 dn5 dc5, .int .i64 lg, .int .i64 nx] 25)
      obtain ⟨xd, hxd⟩ : ∃ x, x = w5.heap.size := ⟨_, rfl⟩
      rw [← hxd] at bz ⊢
      clear hxd
      generalize w5.alloc (.cells #[.slice aa5 an5 ac5, .slice da5 dn5 dc5, .int .i64 lg, .int .i64 nx] 25) = w6 at *
      have HR6 := Lib.hid (HB5.out.trans (b0.mono HB5.out.size))
      have HW6 := Lib.hid (HW.out.trans (HR6.out.mono HW.out.size))
      have HV6 := Lib.hid (HV5.out.old b0)
      have HS6 := Lib.hid (HS.out.keep HR6.out (Nat.le_refl _))
      have HQ6 := Lib.hid (HR.out.keep HR6.out HR.out.lt)
      have HZ6 := Lib.hid bz
      clear bz b0 HV5
      obtain ⟨⟨⟨z0, z1, z2, z3⟩, f0, f1, f2⟩, -⟩ := HQ6.out
      obtain ⟨⟨⟨q0, q1, q2, q3⟩, e0, e1, e2⟩, -⟩ := HS6.out.1
      obtain ⟨y0, y1, y2, y3, y4⟩ := HZ6.out
      rcases hM01 with rfl | rfl
      case inr =>
        have HNO := Lib.hid (rep_no hkl HO.out (rep_take (by rw [← HTX.out]; exact HME.out.1.symm)))
        go_wp2_with fail
        try simp only [Exit.inBlock, Exit.then]
        refine bodyPost_ret (v := .tuple #[.agg #[.slice none 0 0, .int .i64 0, .int .i64 0], .int .i64 120]) (by simp [results, Try.results24, go_sem, z0, z1, z2, z3]) rfl ?_
        exact HZERO.out _ HW6.out HNO.out
      have HF := Lib.hid (apply12_any _ _ s E w6 HS6.out.sv HV6.out HS6.out.2.2.1 (by have := HS6.out.2.2.2.2.1; omega))
      obtain ⟨NN, hNN⟩ : ∃ NN, NN = apN s E := ⟨_, rfl⟩
      obtain ⟨S', hS'⟩ : ∃ S', S' = apS s E := ⟨_, rfl⟩
      have HFE : Hid (∀ x wb, APe s E w6 x wb → ∃ a' c', x = .returned (.tuple #[.agg #[.slice a' S'.1.length c', .int .i64 S'.2.1, .int .i64 S'.2.2], .int .i64 NN]) ∧ ST wb a' S'.1.length c' S'.1 ∧ okT S'.1 ∧ Below w6.heap.size w6 wb) := Lib.hid (by
        rintro x wb ⟨V, rfl, ⟨a', m', c', rfl, hst, hok⟩, hbb⟩
        rw [hNN, hS']
        obtain rfl := hst.1
        exact ⟨a', c', rfl, hst, hok, hbb⟩)
      obtain ⟨sl, hsl⟩ : ∃ sl, sl = s.1.length := ⟨_, rfl⟩
      obtain ⟨sg, hsg⟩ : ∃ sg, sg = s.2.1 := ⟨_, rfl⟩
      obtain ⟨sx, hsx⟩ : ∃ sx, sx = s.2.2 := ⟨_, rfl⟩
      rw [← hsl, ← hsg, ← hsx] at HF
      rw [← hsl] at q0
      rw [← hsg] at q1
      rw [← hsx] at q2
      obtain ⟨L', hL'⟩ : ∃ L', L' = S'.1.length := ⟨_, rfl⟩
      obtain ⟨G', hG'⟩ : ∃ G', G' = S'.2.1 := ⟨_, rfl⟩
      obtain ⟨X', hX'⟩ : ∃ X', X' = S'.2.2 := ⟨_, rfl⟩
      rw [← hL', ← hG', ← hX'] at HFE
      have HEQ := Lib.hid (And.intro hL' (And.intro hG' (And.intro hX' (And.intro hNN hS'))))
      clear hsl hsg hsx hL' hG' hX' hNN hS'
      go_upto_region 8 with (go_at_call 18; refine HF.out.mono ?_; rintro e' w7 he; obtain ⟨a', c', rfl, hst', hok', hbb⟩ := HFE.out _ _ he; clear he; have HST := Lib.hid hst'; have HOK := Lib.hid hok'; have HB7 := Lib.hid hbb; have HS7 := Lib.hid (HS6.out.keep hbb (Nat.le_refl _)); have HQ7 := Lib.hid (HQ6.out.keep hbb HQ6.out.lt); clear hst' hok' hbb z0 z1 z2 z3 f0 f1 f2 q0 q1 q2 q3 e0 e1 e2; obtain ⟨⟨⟨z0, z1, z2, z3⟩, f0, f1, f2⟩, -⟩ := HQ7.out; obtain ⟨⟨⟨q0, q1, q2, q3⟩, e0, e1, e2⟩, -⟩ := HS7.out.1)
      have HW7 := Lib.hid (HW6.out.trans (HB7.out.mono HW6.out.size))
      have HW8 := Lib.hid (below3 HW7.out HXS.out.2.1 (.slice a' L' c') (.int .i64 G') (.int .i64 X'))
      have HQ8 := Lib.hid (HQ7.out.other HS7.out.1 HXS.out.2.2 (.slice a' L' c') (.int .i64 G') (.int .i64 X'))
      have HN8 : Hid (NN = 0 → LS (((w7.setCell ⟨xs, 0, none⟩ (.slice a' L' c')).setCell ⟨xs, 1, none⟩ (.int .i64 G')).setCell ⟨xs, 2, none⟩ (.int .i64 X')) xs (k + 1) S' a' c') := Lib.hid fun h0 => HS7.out.step' HEQ.out.2.2.2.2 HEQ.out.1 HEQ.out.2.1 HEQ.out.2.2.1 (HEQ.out.2.2.2.1.symm.trans h0) HST.out HOK.out
      clear z0 z1 z2 z3 f0 f1 f2 q0 q1 q2 q3 e0 e1 e2 y0 y1 y2 y3 y4 HF HFE
      generalize ((w7.setCell ⟨xs, 0, none⟩ (.slice a' L' c')).setCell ⟨xs, 1, none⟩ (.int .i64 G')).setCell ⟨xs, 2, none⟩ (.int .i64 X') = w8 at *
      by_cases h0 : NN = 0
      case neg =>
        have HNO := Lib.hid (rep_no hkl HO.out (rep_app (by rw [← HTX.out, ← HME.out.2, ← HEQ.out.2.2.2.1]; exact h0)))
        obtain ⟨⟨⟨z0, z1, z2, z3⟩, f0, f1, f2⟩, -⟩ := HQ8.out
        go_wp2_with fail
        try simp only [Exit.inBlock, Exit.then]
        refine bodyPost_ret (v := .tuple #[.agg #[.slice none 0 0, .int .i64 0, .int .i64 0], .int .i64 120]) (by simp [results, Try.results24, go_sem, z0, z1, z2, z3]) rfl ?_
        exact HZERO.out _ HW8.out HNO.out
      subst h0
      have HLS := Lib.hid (HN8.out rfl)
      have HGO := Lib.hid (rep_go hkl HO.out (rep_yes (by rw [← HTX.out]; exact HME.out.1.symm) (by rw [← HTX.out, ← HME.out.2]; exact HEQ.out.2.2.2.1.symm)))
      rw [← HTX.out, ← HME.out.2, ← HEQ.out.2.2.2.2] at HGO
      clear HN8
      go_wp2_with fail
      go_roundw
      case rel => exact ⟨k + 1, S', a', c', by go_num, by omega, HLS, HQ8, HGO, HW8⟩
      case measure => simp [intOf]; omega
    · obtain rfl : n = k := by omega
      have hres : repO ([], 0, 0) ts = some s := by have := HO.out; rwa [show ts.take n = ts from by rw [← HL.out, List.take_length]] at this
      have HRES := Lib.hid hres
      obtain ⟨⟨⟨z0, z1, z2, z3⟩, f0, f1, f2⟩, -⟩ := HR.out
      obtain ⟨⟨⟨q0, q1, q2, q3⟩, -⟩, -⟩ := HS.out.1
      clear hres
      go_wp2_with fail
      try simp only [Exit.inBlock, Exit.then]
      refine bodyPost_ret (v := .tuple #[.agg #[.slice sa s.1.length sc, .int .i64 s.2.1, .int .i64 s.2.2], .int .i64 0]) (by simp [results, Try.results24, go_sem, z0, z1, z2, z3]) rfl ?_
      refine ⟨_, by rw [HRES.out]; rfl, ?_, below3 HW.out HXS.out.1 _ _ _⟩
      rw [HRES.out]
      exact ⟨sa, s.1.length, sc, rfl, HS.out.2.1.put3 HR.out _ _ _, HS.out.2.2.2.1⟩
set_option maxRecDepth 1000000 in
set_option maxHeartbeats 16000000 in
theorem rreplay_any (a : Option Addr) (n cap : Nat) (ts : List (List UInt8)) (w : World) (hrd : Rd w a ts) (hl : ts.length = n) (hn : n ≤ 20) (hs : ∀ t ∈ ts, t.length ≤ 16777216) :
    Calls Try.prog 25 #[.slice a n cap] w (RPE ts w) := by
  obtain ⟨b, off, ha, hb, hc⟩ := rd_at hrd
  rw [hl] at ha hb
  have HC := Lib.hid hc
  have HL := Lib.hid hl
  have HSZ := Lib.hid hs
  have hs0 := (SQ.new w 38 (.slice none 0 0) 0 0).keep (box_bel (w.alloc (.cells #[.slice none 0 0, .int .i64 0, .int .i64 0] 38)) (.cells #[.slice none 0 0, .int .i64 0, .int .i64 0] 38)) (by simp [go_sem])
  have ht0 := LS.zero (w.alloc (.cells #[.slice none 0 0, .int .i64 0, .int .i64 0] 38)) 38
  have b2 := (box_bel w (.cells #[.slice none 0 0, .int .i64 0, .int .i64 0] 38)).trans ((box_bel (w.alloc (.cells #[.slice none 0 0, .int .i64 0, .int .i64 0] 38)) (.cells #[.slice none 0 0, .int .i64 0, .int .i64 0] 38)).mono (box_bel w _).size)
  have k1 : (w.alloc (.cells #[.slice none 0 0, .int .i64 0, .int .i64 0] 38)).heap.size = w.heap.size + 1 := by simp [go_sem]
  rw [k1] at ht0
  clear k1 hrd hl hc hs
  go_enter Try.func25, Try.ntmps25
  go_upto_region 2 with fail
  obtain ⟨xr, hxr⟩ : ∃ xr, xr = w.heap.size := ⟨_, rfl⟩
  rw [← hxr] at hs0 ht0 ⊢
  obtain ⟨xs, hxs⟩ : ∃ xs, xs = xr + 1 := ⟨_, rfl⟩
  rw [← hxs] at ht0 ⊢
  have hx1 : w.heap.size ≤ xr := by omega
  have hx2 : w.heap.size ≤ xs := by omega
  have hxne : xr ≠ xs := by omega
  clear hxr hxs
  generalize (w.alloc (.cells #[.slice none 0 0, .int .i64 0, .int .i64 0] 38)).alloc (.cells #[.slice none 0 0, .int .i64 0, .int .i64 0] 38) = w0 at *
  have HS0 := Lib.hid hs0
  have HT0 := Lib.hid ht0
  have HB0 := Lib.hid b2
  have HXS := Lib.hid (And.intro hx1 (And.intro hx2 hxne))
  have HZERO : Hid (∀ wf, Below w.heap.size w wf → repO ([], 0, 0) ts = none → RPE ts w (.returned (.tuple #[.agg #[.slice none 0 0, .int .i64 0, .int .i64 0], .int .i64 120])) (((wf.setCell ⟨xr, 0, none⟩ (.slice none 0 0)).setCell ⟨xr, 1, none⟩ (.int .i64 0)).setCell ⟨xr, 2, none⟩ (.int .i64 0))) := Lib.hid fun wf hb hN =>
    ⟨_, by rw [hN]; rfl, by rw [hN]; exact SV.zero _, below3 hb HXS.out.1 _ _ _⟩
  clear hs0 ht0 b2 hxne
  go_wp2_with fail
  go_loopw [5, 6, 7, 8, 9] (fun i _ _ _ _ wr => ∃ (k : Nat) (s : St) (sa : Option Addr) (sc : Nat), i = .int .i64 k ∧ k ≤ n ∧ Hid (LS wr xs k s sa sc) ∧ Hid (SQ wr xr (.slice none 0 0) 0 0) ∧ Hid (repO ([], 0, 0) (ts.take k) = some s) ∧ Hid (Below w.heap.size w wr)) (fun i _ _ _ _ _ => n - (intOf i).toNat)
  case atStart => exact ⟨0, ([], 0, 0), none, 0, by first | rfl | go_num, by omega, HT0, HS0, Lib.hid rfl, HB0⟩
  case round =>
    obtain ⟨k, s, sa, sc, rfl, hk, HS, HR, HO, HW⟩ := hrel
    by_cases hlt : k < n
    · have hki : (k : Int) < (n : Int) := by omega
      obtain rfl := ha (by omega)
      have hbw := hb (by omega)
      have hkl : k < ts.length := by rw [HL.out]; exact hlt
      have c0 := (HW.out.cell (p := ⟨b, off + k, none⟩) hbw).trans (HC.out k hkl)
      have hbr := Nat.lt_of_lt_of_le hbw HW.out.size
      obtain ⟨tx, htx⟩ : ∃ tx : ByteArray, tx = ⟨ts[k].toArray⟩ := ⟨_, rfl⟩
      rw [← htx] at c0
      have hsz : tx.size ≤ 16777216 := by rw [htx]; exact HSZ.out _ (List.getElem_mem hkl)
      have HTX := Lib.hid htx
      have HTK := Lib.hid (rtake12_any tx hsz wr)
      obtain ⟨M, hM⟩ : ∃ M, M = tkN tx := ⟨_, rfl⟩
      obtain ⟨E, hE⟩ : ∃ E, E = tkD tx := ⟨_, rfl⟩
      have HTE : Hid (∀ x wb, TKE tx wr x wb → ∃ V, x = .returned (.tuple #[V, .int .i64 M]) ∧ EV wb V E ∧ Below wr.heap.size wr wb) := Lib.hid (by rw [hM, hE]; exact fun _ _ h => h)
      have HME := Lib.hid (And.intro hM hE)
      have hM01 : M = 0 ∨ M = 120 := by
        rw [hM]; unfold tkN; split
        · exact .inl rfl
        · exact .inr rfl
      clear htx hM hE hsz
      go_upto_region 6 with (go_at_call 14; refine HTK.out.mono ?_; rintro e' w5 he; obtain ⟨V5, rfl, hv5, hb5⟩ := HTE.out _ _ he; clear he; have HB5 := Lib.hid hb5; have HV5 := Lib.hid hv5; obtain ⟨aa5, an5, ac5, da5, dn5, dc5, rfl, -, -, -⟩ := hv5; clear hb5)
      clear HTK HTE c0 hbr
      obtain ⟨lg, hlg⟩ : ∃ lg, lg = E.2.2.1 := ⟨_, rfl⟩
      obtain ⟨nx, hnx⟩ : ∃ nx, nx = E.2.2.2 := ⟨_, rfl⟩
      rw [← hlg, ← hnx] at HV5 ⊢
      clear hlg hnx
      have bz := EdBox.new w5 25 (.slice aa5 an5 ac5) (.slice da5 dn5 dc5) lg nx
      have b0 := box_bel w5 (.cells #[.slice aa5 an5 ac5, .slice da5 dn5 dc5, .int .i64 lg, .int .i64 nx] 25)
      obtain ⟨xd, hxd⟩ : ∃ x, x = w5.heap.size := ⟨_, rfl⟩
      rw [← hxd] at bz ⊢
      clear hxd
      generalize w5.alloc (.cells #[.slice aa5 an5 ac5, .slice da5 dn5 dc5, .int .i64 lg, .int .i64 nx] 25) = w6 at *
      have HR6 := Lib.hid (HB5.out.trans (b0.mono HB5.out.size))
      have HW6 := Lib.hid (HW.out.trans (HR6.out.mono HW.out.size))
      have HV6 := Lib.hid (HV5.out.old b0)
      have HS6 := Lib.hid (HS.out.keep HR6.out (Nat.le_refl _))
      have HQ6 := Lib.hid (HR.out.keep HR6.out HR.out.lt)
      have HZ6 := Lib.hid bz
      clear bz b0 HV5
      obtain ⟨⟨⟨z0, z1, z2, z3⟩, f0, f1, f2⟩, -⟩ := HQ6.out
      obtain ⟨⟨⟨q0, q1, q2, q3⟩, e0, e1, e2⟩, -⟩ := HS6.out.1
      obtain ⟨y0, y1, y2, y3, y4⟩ := HZ6.out
      rcases hM01 with rfl | rfl
      case inr =>
        have HNO := Lib.hid (rep_no hkl HO.out (rep_take (by rw [← HTX.out]; exact HME.out.1.symm)))
        go_wp2_with fail
        try simp only [Exit.inBlock, Exit.then]
        refine bodyPost_ret (v := .tuple #[.agg #[.slice none 0 0, .int .i64 0, .int .i64 0], .int .i64 120]) (by simp [results, Try.results25, go_sem, z0, z1, z2, z3]) rfl ?_
        exact HZERO.out _ HW6.out HNO.out
      have HF := Lib.hid (rapply12_any _ _ s E w6 HS6.out.sv HV6.out HS6.out.2.2.1 (by have := HS6.out.2.2.2.2.1; omega))
      obtain ⟨NN, hNN⟩ : ∃ NN, NN = apN s E := ⟨_, rfl⟩
      obtain ⟨S', hS'⟩ : ∃ S', S' = apS s E := ⟨_, rfl⟩
      have HFE : Hid (∀ x wb, APe s E w6 x wb → ∃ a' c', x = .returned (.tuple #[.agg #[.slice a' S'.1.length c', .int .i64 S'.2.1, .int .i64 S'.2.2], .int .i64 NN]) ∧ ST wb a' S'.1.length c' S'.1 ∧ okT S'.1 ∧ Below w6.heap.size w6 wb) := Lib.hid (by
        rintro x wb ⟨V, rfl, ⟨a', m', c', rfl, hst, hok⟩, hbb⟩
        rw [hNN, hS']
        obtain rfl := hst.1
        exact ⟨a', c', rfl, hst, hok, hbb⟩)
      obtain ⟨sl, hsl⟩ : ∃ sl, sl = s.1.length := ⟨_, rfl⟩
      obtain ⟨sg, hsg⟩ : ∃ sg, sg = s.2.1 := ⟨_, rfl⟩
      obtain ⟨sx, hsx⟩ : ∃ sx, sx = s.2.2 := ⟨_, rfl⟩
      rw [← hsl, ← hsg, ← hsx] at HF
      rw [← hsl] at q0
      rw [← hsg] at q1
      rw [← hsx] at q2
      obtain ⟨L', hL'⟩ : ∃ L', L' = S'.1.length := ⟨_, rfl⟩
      obtain ⟨G', hG'⟩ : ∃ G', G' = S'.2.1 := ⟨_, rfl⟩
      obtain ⟨X', hX'⟩ : ∃ X', X' = S'.2.2 := ⟨_, rfl⟩
      rw [← hL', ← hG', ← hX'] at HFE
      have HEQ := Lib.hid (And.intro hL' (And.intro hG' (And.intro hX' (And.intro hNN hS'))))
      clear hsl hsg hsx hL' hG' hX' hNN hS'
      go_upto_region 9 with (go_at_call 19; refine HF.out.mono ?_; rintro e' w7 he; obtain ⟨a', c', rfl, hst', hok', hbb⟩ := HFE.out _ _ he; clear he; have HST := Lib.hid hst'; have HOK := Lib.hid hok'; have HB7 := Lib.hid hbb; have HS7 := Lib.hid (HS6.out.keep hbb (Nat.le_refl _)); have HQ7 := Lib.hid (HQ6.out.keep hbb HQ6.out.lt); clear hst' hok' hbb z0 z1 z2 z3 f0 f1 f2 q0 q1 q2 q3 e0 e1 e2; obtain ⟨⟨⟨z0, z1, z2, z3⟩, f0, f1, f2⟩, -⟩ := HQ7.out; obtain ⟨⟨⟨q0, q1, q2, q3⟩, e0, e1, e2⟩, -⟩ := HS7.out.1)
      have bz := SQ.new w7 38 (.slice a' L' c') G' X'
      have b0 := box_bel w7 (.cells #[.slice a' L' c', .int .i64 G', .int .i64 X'] 38)
      obtain ⟨xn, hxn⟩ : ∃ x, x = w7.heap.size := ⟨_, rfl⟩
      rw [← hxn] at bz ⊢
      clear hxn z0 z1 z2 z3 f0 f1 f2 q0 q1 q2 q3 e0 e1 e2 y0 y1 y2 y3 y4 HF HFE
      generalize w7.alloc (.cells #[.slice a' L' c', .int .i64 G', .int .i64 X'] 38) = w8 at *
      have HW7 := Lib.hid (HW6.out.trans (HB7.out.mono HW6.out.size))
      have HW8 := Lib.hid (HW7.out.trans (b0.mono HW7.out.size))
      have HS8 := Lib.hid (HS7.out.keep b0 (Nat.le_refl _))
      have HQ8 := Lib.hid (HQ7.out.keep b0 HQ7.out.lt)
      have HT8 := Lib.hid (HST.out.old b0)
      obtain ⟨⟨⟨y0, y1, y2, y3⟩, -⟩, -⟩ := bz
      obtain ⟨⟨⟨z0, z1, z2, z3⟩, f0, f1, f2⟩, -⟩ := HQ8.out
      obtain ⟨⟨⟨q0, q1, q2, q3⟩, e0, e1, e2⟩, -⟩ := HS8.out.1
      by_cases h0 : NN = 0
      case neg =>
        have HNO := Lib.hid (rep_no hkl HO.out (rep_app (by rw [← HTX.out, ← HME.out.2, ← HEQ.out.2.2.2.1]; exact h0)))
        go_wp2_with fail
        try simp only [Exit.inBlock, Exit.then]
        refine bodyPost_ret (v := .tuple #[.agg #[.slice none 0 0, .int .i64 0, .int .i64 0], .int .i64 120]) (by simp [results, Try.results25, go_sem, z0, z1, z2, z3]) rfl ?_
        exact HZERO.out _ HW8.out HNO.out
      subst h0
      have HLS := Lib.hid (HS8.out.step' HEQ.out.2.2.2.2 HEQ.out.1 HEQ.out.2.1 HEQ.out.2.2.1 HEQ.out.2.2.2.1.symm HT8.out HOK.out)
      have HW9 := Lib.hid (below3 HW8.out HXS.out.2.1 (.slice a' L' c') (.int .i64 G') (.int .i64 X'))
      have HQ9 := Lib.hid (HQ8.out.other HS8.out.1 HXS.out.2.2 (.slice a' L' c') (.int .i64 G') (.int .i64 X'))
      have HGO := Lib.hid (rep_go hkl HO.out (rep_yes (by rw [← HTX.out]; exact HME.out.1.symm) (by rw [← HTX.out, ← HME.out.2]; exact HEQ.out.2.2.2.1.symm)))
      rw [← HTX.out, ← HME.out.2, ← HEQ.out.2.2.2.2] at HGO
      go_wp2_with fail
      go_roundw
      case rel => exact ⟨k + 1, S', a', c', by go_num, by omega, HLS, HQ9, HGO, HW9⟩
      case measure => simp [intOf]; omega
    · obtain rfl : n = k := by omega
      have hres : repO ([], 0, 0) ts = some s := by have := HO.out; rwa [show ts.take n = ts from by rw [← HL.out, List.take_length]] at this
      have HRES := Lib.hid hres
      obtain ⟨⟨⟨z0, z1, z2, z3⟩, f0, f1, f2⟩, -⟩ := HR.out
      obtain ⟨⟨⟨q0, q1, q2, q3⟩, -⟩, -⟩ := HS.out.1
      clear hres
      go_wp2_with fail
      try simp only [Exit.inBlock, Exit.then]
      refine bodyPost_ret (v := .tuple #[.agg #[.slice sa s.1.length sc, .int .i64 s.2.1, .int .i64 s.2.2], .int .i64 0]) (by simp [results, Try.results25, go_sem, z0, z1, z2, z3]) rfl ?_
      refine ⟨_, by rw [HRES.out]; rfl, ?_, below3 HW.out HXS.out.1 _ _ _⟩
      rw [HRES.out]
      exact ⟨sa, s.1.length, sc, rfl, HS.out.2.1.put3 HR.out _ _ _, HS.out.2.2.2.1⟩
end Go.Proofs.Ytkpemlgolpihiaa
