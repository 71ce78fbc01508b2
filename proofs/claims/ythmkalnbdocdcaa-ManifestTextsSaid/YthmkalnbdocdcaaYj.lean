/-
  Layer 12 (manifest): contracts of the closures that read a table, and a number that goes, each appended to the edit's box. Conditions: at most 2^24 bytes are left.
-/
import Derived.Test.YthmkalnbdocdcaaYi
namespace Go.Proofs.Ythmkalnbdocdcaa
set_option maxRecDepth 100000
open Go.RowKit
set_option linter.unusedVariables false
set_option linter.unusedSimpArgs false

theorem Try.infoInt : (Try.prog.info? 3).map (fun i => (i.zero, i.size, i.bytes)) = some (some (.int .i64 0), 1, 8) := by kernel_rfl
theorem cell_one1 (w : World) (A : Value) (t : TypeId) : ∀ j u, [A][j]? = some u → (w.alloc (.cells #[A] t)).cell? ((⟨w.heap.size, 0, none⟩ : Addr).add j) = some u := by
  intro j u hj
  have e' : ∀ j, (⟨w.heap.size, 0, none⟩ : Addr).add j = ⟨w.heap.size, 0 + j, none⟩ := by intro j; unfold Addr.add; split <;> simp_all
  rw [e']
  match j, hj with
  | 0, hj => simp at hj; subst hj; simp
theorem row_apart {w : World} {b1 b2 e1 e2 s1 s2 n1 n2 : Nat} {v1 v2 : Value} {x1 x2 : List Value} (h1 : w.ownsRow b1 e1 s1 v1 n1 x1) (h2 : w.ownsRow b2 e2 s2 v2 n2 x2) (hne : e1 ≠ e2) : v2.ownBlock = none ∨ v2.ownBlock ≠ v1.ownBlock := by
  rcases h2.2 with ⟨rfl, _⟩ | ⟨g, cap, cur, rfl, _, hgb, _⟩
  · exact .inl rfl
  · refine .inr fun e => ?_
    rcases h1.2 with ⟨rfl, _⟩ | ⟨g1, cap1, cur1, rfl, _, hgb1, _⟩
    · simp [Value.ownBlock] at e
    · obtain rfl : g = g1 := by simpa [Value.ownBlock] using e
      rw [hgb] at hgb1
      simp at hgb1
      exact hne hgb1.2.symm
theorem rdT_step (o : Option (List UInt8)) : (((((((o.bind rdN).map (·.2)).bind rdN).map (·.2)).bind rdS).map (·.2)).bind rdS).map (·.2) = (o.bind rdT).map (·.2) := by
  cases o with
  | none => rfl
  | some l =>
    simp only [Option.bind_some, rdT]
    cases h1 : rdN l with
    | none => rfl
    | some p =>
      simp only [Option.map_some, Option.bind_some]
      cases h2 : rdN p.2 with
      | none => rfl
      | some q =>
        simp only [Option.map_some, Option.bind_some]
        cases h3 : rdS q.2 with
        | none => rfl
        | some r =>
          simp only [Option.map_some, Option.bind_some]
          cases h4 : rdS r.2 with
          | none => rfl
          | some s => rfl
theorem rdT_vals {o : Option (List UInt8)} {n1 n2 : Nat} {t3 t4 : List UInt8} (h1 : ∀ p, o.bind rdN = some p → n1 = p.1) (h2 : ∀ p, ((o.bind rdN).map (·.2)).bind rdN = some p → n2 = p.1)
    (h3 : ∀ p, ((((o.bind rdN).map (·.2)).bind rdN).map (·.2)).bind rdS = some p → t3 = p.1) (h4 : ∀ p, ((((((o.bind rdN).map (·.2)).bind rdN).map (·.2)).bind rdS).map (·.2)).bind rdS = some p → t4 = p.1) :
    ∀ p, o.bind rdT = some p → (((n1 : Nat) : Int), ((n2 : Nat) : Int), (⟨t3.toArray⟩ : ByteArray), (⟨t4.toArray⟩ : ByteArray)) = p.1 := by
  intro p hp
  cases o with
  | none => cases hp
  | some l =>
    simp only [Option.bind_some, rdT] at hp h1 h2 h3 h4
    cases e1 : rdN l with
    | none => rw [e1] at hp; cases hp
    | some a =>
      rw [e1] at hp h2 h3 h4
      simp only [Option.map_some, Option.bind_some] at hp h2 h3 h4
      cases e2 : rdN a.2 with
      | none => rw [e2] at hp; cases hp
      | some b =>
        rw [e2] at hp h3 h4
        simp only [Option.map_some, Option.bind_some] at hp h3 h4
        cases e3 : rdS b.2 with
        | none => rw [e3] at hp; cases hp
        | some c =>
          rw [e3] at hp h4
          simp only [Option.map_some, Option.bind_some] at hp h4
          cases e4 : rdS c.2 with
          | none => rw [e4] at hp; cases hp
          | some d =>
            rw [e4] at hp
            cases hp
            rw [h1 _ e1, h2 _ e2, h3 _ e3, h4 _ e4]
theorem RW.drew {B0 B S R F1 F2 E E0 : Nat} {wb w : World} {o : Option (List UInt8)} {A D : Value} {ts : List Tb} {zs : List Int} {lg nx : Int} (h : RW B0 B S R F1 F2 E E0 wb o A D ts zs lg nx w) : RW B0 B S R F1 F2 E E0 wb o A D ts zs lg nx w.drew := by
  obtain ⟨h1, h2, h3, h4, h5, h6, h7, h8, h9, h10⟩ := h
  exact ⟨h1, h2, h3, h4, h5, h6, h7, h8.drew, h9, h10⟩
theorem KeepX.ofB {B : Nat} {w w' : World} (h : Below B w w') : KeepX (fun y => B ≤ y) w w' := ⟨fun y _ hx => h.block y (by omega), h.size⟩
theorem RS.keep {S R : Nat} {w w' : World} {o : Option (List UInt8)} {X : Nat → Prop} (h : RS S R w o) (hk : KeepX X w w') (h1 : ¬ X S) (h2 : ¬ X R) : RS S R w' o := by
  obtain ⟨s, r, hn, hs, ho⟩ := h
  exact ⟨s, r, hn.keep hk h1 h2, hs, ho⟩
theorem RW.app {B0 B S R F1 F2 E E0 : Nat} {wb w w3 : World} {o : Option (List UInt8)} {A A' D : Value} {ts ts' : List Tb} {zs : List Int} {lg nx : Int} (hy : LY B0 B S R F1 F2 E E0) (h : RW B0 B S R F1 F2 E E0 wb o A D ts zs lg nx w) (hb : Below B w w3)
    (h5' : w3.ownsRow B 49 4 A' ts'.length (tv4 ts')) (h6' : w3.ownsRow B 3 1 D zs.length (iv zs)) (hok : okT ts') : RW B0 B S R F1 F2 E E0 wb o A' D ts' zs lg nx (w3.setCell ⟨E, 0, none⟩ A') := by
  obtain ⟨y0, y1, y2, y3, y4⟩ := hy
  obtain ⟨h1, h2, h3, h4, h5, h6, h7, h8, h9, h10⟩ := h
  have k1 := KeepX.ofB hb
  have k2 : KeepX (fun y => y = E) w3 (w3.setCell ⟨E, 0, none⟩ A') := (KeepX.refl (fun y => y = E) w3).set (p := ⟨E, 0, none⟩) rfl A'
  have n5 : ∀ g, B ≤ g → g < w3.heap.size → (w3.setCell ⟨E, 0, none⟩ A').heap[g]? = w3.heap[g]? := fun g hg hl => k2.1 g hl (by omega)
  have s1 : ¬ B ≤ S := by omega
  have s2 : ¬ B ≤ R := by omega
  have s3 : ¬ B ≤ F1 := by omega
  have s4 : ¬ B ≤ F2 := by omega
  have s5 : ¬ B ≤ E := by omega
  have s6 : ¬ B ≤ E0 := by omega
  exact ⟨(h1.keep k1 s1 s2).keep k2 (by omega) (by omega), (h2.keep k1 s3 s4).keep k2 (by omega) (by omega), (h3.keep k1 s5).set0 A', (h4.keep k1 s6).keep k2 (by omega), own_keep h5' n5, own_keep h6' n5, hok, h8.trans ((hb.mono h10).setCell (p := ⟨E, 0, none⟩) (by show B0 ≤ E; omega) _), by simpa using Nat.le_trans h9 hb.size, h10⟩
theorem RW.app1 {B0 B S R F1 F2 E E0 : Nat} {wb w w3 : World} {o : Option (List UInt8)} {A D' D : Value} {ts : List Tb} {zs zs' : List Int} {lg nx : Int} (hy : LY B0 B S R F1 F2 E E0) (h : RW B0 B S R F1 F2 E E0 wb o A D ts zs lg nx w) (hb : Below B w w3)
    (h5' : w3.ownsRow B 49 4 A ts.length (tv4 ts)) (h6' : w3.ownsRow B 3 1 D' zs'.length (iv zs')) : RW B0 B S R F1 F2 E E0 wb o A D' ts zs' lg nx (w3.setCell ⟨E, 1, none⟩ D') := by
  obtain ⟨y0, y1, y2, y3, y4⟩ := hy
  obtain ⟨h1, h2, h3, h4, h5, h6, h7, h8, h9, h10⟩ := h
  have k1 := KeepX.ofB hb
  have k2 : KeepX (fun y => y = E) w3 (w3.setCell ⟨E, 1, none⟩ D') := (KeepX.refl (fun y => y = E) w3).set (p := ⟨E, 1, none⟩) rfl D'
  have n5 : ∀ g, B ≤ g → g < w3.heap.size → (w3.setCell ⟨E, 1, none⟩ D').heap[g]? = w3.heap[g]? := fun g hg hl => k2.1 g hl (by omega)
  have s1 : ¬ B ≤ S := by omega
  have s2 : ¬ B ≤ R := by omega
  have s3 : ¬ B ≤ F1 := by omega
  have s4 : ¬ B ≤ F2 := by omega
  have s5 : ¬ B ≤ E := by omega
  have s6 : ¬ B ≤ E0 := by omega
  exact ⟨(h1.keep k1 s1 s2).keep k2 (by omega) (by omega), (h2.keep k1 s3 s4).keep k2 (by omega) (by omega), (h3.keep k1 s5).set1 D', (h4.keep k1 s6).keep k2 (by omega), own_keep h5' n5, own_keep h6' n5, h7, h8.trans ((hb.mono h10).setCell (p := ⟨E, 1, none⟩) (by show B0 ≤ E; omega) _), by simpa using Nat.le_trans h9 hb.size, h10⟩
theorem iv_snoc (zs : List Int) (z : Int) : iv zs ++ [.int .i64 z] = iv (zs ++ [z]) := by simp [iv]
set_option maxHeartbeats 8000000 in
theorem tab_w {B0 B S R F1 F2 E E0 : Nat} {wb w : World} {o : Option (List UInt8)} {A D : Value} {ts : List Tb} {zs : List Int} {lg nx : Int} (hy : LY B0 B S R F1 F2 E E0) (h : RW B0 B S R F1 F2 E E0 wb o A D ts zs lg nx w) (hts : ts.length ≤ 200) :
    Calls Try.prog 60 #[.pointer (some ⟨E, 0, none⟩), .pointer (some ⟨F1, 0, none⟩), .pointer (some ⟨F2, 0, none⟩)] w fun e w' => e = .returned (.tuple #[]) ∧ ∃ A' t, RW B0 B S R F1 F2 E E0 wb ((o.bind rdT).map (·.2)) A' D (ts ++ [t]) zs lg nx w' ∧ (∀ p, o.bind rdT = some p → t = p.1) := by
  obtain ⟨i0, hi0, hz0, hz1, hz2⟩ := info_parts Try.infoTab
  obtain ⟨aa, ac, rfl⟩ := own_form h.2.2.2.2.1 (by decide)
  obtain ⟨n, hn⟩ : ∃ n, n = ts.length := ⟨_, rfl⟩
  rw [← hn] at h hts
  have HN := Lib.hid hn
  have HY := Lib.hid hy
  have HT := Lib.hid (rdT_step o)
  have H0 := Lib.hid h.drew
  have hEl : E < w.heap.size := h.2.2.1.1.2.2.2.2
  obtain ⟨⟨e0, e1, e2, e3, -⟩, -⟩ := h.2.2.1
  obtain ⟨f1, f2, f3, f4⟩ := h.2.1
  clear hy h hn
  go_enter Try.func60, Try.ntmps60
  go_wp2_with fail
  refine mixed_region (D := (fun w' => w'.cell? ⟨E, 0, none⟩ = some (.slice aa n ac) ∧ w'.cell? ⟨F1, 0, none⟩ = some (.func (.func 55) #[] #[.pointer (some ⟨S, 0, none⟩), .pointer (some ⟨R, 0, none⟩)]) ∧ w'.cell? ⟨F2, 0, none⟩ = some (.func (.func 57) #[] #[.pointer (some ⟨S, 0, none⟩), .pointer (some ⟨R, 0, none⟩)]))) [0, 1, 2, 4, 6, 8] [3, 5, 7, 9, 10, 11, 12, 13, 14] 14 (by kernel_rfl) (by kernel_rfl) (by decide) (⟨e0, f1, f2⟩) ?_
  simp only [List.filterMap_cons, List.filterMap_nil, List.getElem?_cons_zero, List.getElem?_cons_succ]
  repeat (
    (first
     | (refine calm_move _ rfl ?_)
     | (apply calm_cons
        · (intro w' hw'
           first | (obtain ⟨hwa', hwb', hwc'⟩ := hw') | (obtain ⟨hwa', hwb'⟩ := hw') | skip
           go_simp
           first
           | done
           | exact rfl)))
    simp only [Act.put, Act.eval, List.setIfInBounds_toArray, List.set_cons_zero, List.set_cons_succ, Array.getD_eq_getD_getElem?, List.getElem?_toArray, List.getElem?_cons_zero, List.getElem?_cons_succ, Option.getD_some])
  refine calm_nil ?_
  clear e0 e1 e2 e3 f1 f2 f3 f4
  refine loud_cons fun K hK => ?_
  go_wp2_with fail
  refine (num_w HY.out H0.out).mono ?_
  rintro e w1 ⟨n1, rfl, hn1, r1, p1⟩
  have HR1 := Lib.hid r1
  have HP1 := Lib.hid p1
  clear r1 p1 H0
  go_wp2
  refine hK _ _ (fun _ => ⟨HR1.out.2.2.1.1.1, HR1.out.2.1.1, HR1.out.2.1.2.1⟩) ?_
  clear hK K
  refine loud_cons fun K hK => ?_
  go_wp2_with fail
  refine (num_w HY.out HR1.out).mono ?_
  rintro e w2 ⟨n2, rfl, hn2, r2, p2⟩
  have HR2 := Lib.hid r2
  have HP2 := Lib.hid p2
  clear r2 p2 HR1
  go_wp2
  refine hK _ _ (fun _ => ⟨HR2.out.2.2.1.1.1, HR2.out.2.1.1, HR2.out.2.1.2.1⟩) ?_
  clear hK K
  refine loud_cons fun K hK => ?_
  go_wp2_with fail
  refine (txt_w HY.out HR2.out).mono ?_
  rintro e w3 ⟨t3, rfl, ht3, r3, p3⟩
  have HR3 := Lib.hid r3
  have HP3 := Lib.hid p3
  clear r3 p3 HR2
  go_wp2
  refine hK _ _ (fun _ => ⟨HR3.out.2.2.1.1.1, HR3.out.2.1.1, HR3.out.2.1.2.1⟩) ?_
  clear hK K
  refine loud_cons fun K hK => ?_
  go_wp2_with fail
  refine (txt_w HY.out HR3.out).mono ?_
  rintro e w4 ⟨t4, rfl, ht4, r4, p4⟩
  rw [HT.out] at r4
  have HR4 := Lib.hid r4
  have HP4 := Lib.hid p4
  clear r4 p4 HR3
  go_wp2
  refine hK _ _ (fun _ => ⟨HR4.out.2.2.1.1.1, HR4.out.2.1.1, HR4.out.2.1.2.1⟩) ?_
  clear hK K
  refine loud_cons fun K hK => ?_
  go_wp2
  refine hK _ _ (fun _ => ⟨HR4.out.2.2.1.1.1, HR4.out.2.1.1, HR4.out.2.1.2.1⟩) ?_
  clear hK K
  obtain ⟨s3, hs3⟩ : ∃ s3 : ByteArray, s3 = ⟨t3.toArray⟩ := ⟨_, rfl⟩
  obtain ⟨s4, hs4⟩ : ∃ s4 : ByteArray, s4 = ⟨t4.toArray⟩ := ⟨_, rfl⟩
  have HV := Lib.hid (rdT_vals HP1.out HP2.out HP3.out HP4.out)
  rw [← hs3, ← hs4] at HV ⊢
  have hok3 : okS s3 := by unfold okS; rw [hs3, mk_size]; omega
  have hok4 : okS s4 := by unfold okS; rw [hs4, mk_size]; omega
  have HOK := Lib.hid (And.intro hok3 hok4)
  clear HP1 HP2 HP3 HP4 hs3 hs4 hok3 hok4 ht3 ht4 hn1 hn2
  have hal : Below w4.heap.size w4 (w4.alloc (.cells #[.int .i64 (n1 : Int), .int .i64 (n2 : Int), .string s3, .string s4] 49)) := box_bel _ _
  have HAL := Lib.hid hal
  have hE4 : E < w4.heap.size := HR4.out.2.2.1.1.2.2.2.2
  refine loud_cons fun K hK => ?_
  go_wp2_with fail
  refine hK _ _ (fun _ => ⟨(hal.cell (p := ⟨E, 0, none⟩) hE4).trans HR4.out.2.2.1.1.1, (hal.cell (p := ⟨F1, 0, none⟩) HR4.out.2.1.2.2.1).trans HR4.out.2.1.1, (hal.cell (p := ⟨F2, 0, none⟩) HR4.out.2.1.2.2.2).trans HR4.out.2.1.2.1⟩) ?_
  clear hK K
  have hrow : w4.ownsRow B 49 4 (.slice aa n ac) n (tv4 ts) := by have := HR4.out.2.2.2.2.1; rwa [← HN.out] at this
  have HROW := Lib.hid hrow
  have hB4 : B ≤ w4.heap.size := HR4.out.2.2.2.2.2.2.2.2.1
  refine loud_cons fun K hK => ?_
  go_wp2_with (at_builtin; refine wpList_append_own _ rfl _ _ 22 rfl B 49 i0 (.agg #[.int .i64 0, .int .i64 0, .string ⟨#[]⟩, .string ⟨#[]⟩]) 4 48 Try.underlying22 hi0 hz0 hz1 hz2 rfl (by decide) _ _ _ rfl (HROW.out.alloc _) ⟨w4.heap.size, 0, none⟩ 1 1 (tv (n1, n2, s3, s4)) rfl rfl ?c1 ?c2 ?c3 ?c4 ?c5 ?_)
  case c1 => exact cell_new4 _ _ _ _ _ _
  case c2 => intro u hu; simp [tv] at hu; rcases hu with rfl | rfl | rfl | rfl <;> rfl
  case c3 => unfold maxLen; omega
  case c4 => omega
  case c5 => simp [go_sem]; omega
  intro v' w5 hown5 hgrow _
  obtain ⟨a5, c5, rfl⟩ := own_form hown5 (by decide)
  have hb5 : Below B w4 w5 := (((Below.refl B w4).alloc hB4 _).grown hgrow (by simp [go_sem]; omega) (fun k hk => (HROW.out.lt k hk).1))
  have h6 : w5.ownsRow B 3 1 D zs.length (iv zs) := (HR4.out.2.2.2.2.2.1.alloc _).kept hgrow (row_apart HROW.out HR4.out.2.2.2.2.2.1 (by decide))
  rw [tv4_snoc] at hown5
  have hlen : n + 1 = (ts ++ [((n1 : Int), (n2 : Int), s3, s4)]).length := by rw [List.length_append, ← HN.out]; rfl
  have h5 : w5.ownsRow B 49 4 (.slice a5 (n + 1) c5) (ts ++ [((n1 : Int), (n2 : Int), s3, s4)]).length (tv4 (ts ++ [((n1 : Int), (n2 : Int), s3, s4)])) := by rw [← hlen]; exact hown5
  have HFIN := Lib.hid (RW.app HY.out HR4.out hb5 h5 h6 (fun t ht => by
    rcases List.mem_append.1 ht with ht | ht
    · exact HR4.out.2.2.2.2.2.2.1 t ht
    · rw [List.mem_singleton.1 ht]; exact HOK.out))
  have hk5 := KeepX.ofB hb5
  have hyo := HY.out
  have hx1 : ¬ B ≤ E := by have := hyo.2.1; omega
  have hx2 : ¬ B ≤ F1 := by have := hyo.2.1; omega
  have hx3 : ¬ B ≤ F2 := by have := hyo.2.1; omega
  have hEW := HR4.out.2.2.1.keep hk5 hx1
  have hFS := HR4.out.2.1.keep hk5 hx2 hx3
  refine hK _ _ (fun _ => ⟨hEW.1.1, hFS.1, hFS.2.1⟩) ?_
  clear hK K
  refine loud_cons fun K hK => ?_
  go_wp2_with fail
  refine hK _ _ (fun _ => ⟨hEW.1.1, hFS.1, hFS.2.1⟩) ?_
  clear hK K hown5 hgrow hb5 h6 h5 hk5 hyo hx1 hx2 hx3 hlen
  obtain ⟨⟨z0, z1, z2, z3, z4⟩, y0, y1, y2, y3⟩ := hEW
  clear hFS
  refine loud_cons fun K hK => ?_
  go_wp2_with fail
  refine hK _ _ (fun h => absurd rfl h) ?_
  clear hK K
  refine loud_nil ?_
  go_wp2
  go_end0
  exact ⟨rfl, _, _, HFIN.out, HV.out⟩
def rdZ1 (l : List UInt8) : Option (Int × List UInt8) := (rdN l).map fun p => (((p.1 : Nat) : Int), p.2)
theorem rdZ1_step (o : Option (List UInt8)) : (o.bind rdN).map (·.2) = (o.bind rdZ1).map (·.2) := by
  cases o with
  | none => rfl
  | some l =>
    simp only [Option.bind_some, rdZ1]
    cases rdN l <;> rfl
theorem rdZ1_vals {o : Option (List UInt8)} {n : Nat} (h : ∀ p, o.bind rdN = some p → n = p.1) : ∀ p, o.bind rdZ1 = some p → ((n : Nat) : Int) = p.1 := by
  intro p hp
  cases o with
  | none => cases hp
  | some l =>
    simp only [Option.bind_some, rdZ1] at hp h
    cases e : rdN l with
    | none => rw [e] at hp; cases hp
    | some q => rw [e] at hp; cases hp; rw [h _ e]
set_option maxHeartbeats 8000000 in
theorem int_w {B0 B S R F1 F2 E E0 : Nat} {wb w : World} {o : Option (List UInt8)} {A D : Value} {ts : List Tb} {zs : List Int} {lg nx : Int} (hy : LY B0 B S R F1 F2 E E0) (h : RW B0 B S R F1 F2 E E0 wb o A D ts zs lg nx w) (hts : zs.length ≤ 200) :
    Calls Try.prog 61 #[.pointer (some ⟨E, 0, none⟩), .pointer (some ⟨F1, 0, none⟩)] w fun e w' => e = .returned (.tuple #[]) ∧ ∃ D' z, RW B0 B S R F1 F2 E E0 wb ((o.bind rdZ1).map (·.2)) A D' ts (zs ++ [z]) lg nx w' ∧ (∀ p, o.bind rdZ1 = some p → z = p.1) := by
  obtain ⟨i0, hi0, hz0, hz1, hz2⟩ := info_parts Try.infoInt
  obtain ⟨aa, ac, rfl⟩ := own_form h.2.2.2.2.2.1 (by decide)
  obtain ⟨n, hn⟩ : ∃ n, n = zs.length := ⟨_, rfl⟩
  rw [← hn] at h hts
  have HN := Lib.hid hn
  have HY := Lib.hid hy
  have HT := Lib.hid (rdZ1_step o)
  have H0 := Lib.hid h.drew
  have hEl : E < w.heap.size := h.2.2.1.1.2.2.2.2
  obtain ⟨⟨e0, e1, e2, e3, -⟩, -⟩ := h.2.2.1
  obtain ⟨f1, f2, f3, f4⟩ := h.2.1
  clear hy h hn
  go_enter Try.func61, Try.ntmps61
  go_wp2_with fail
  refine mixed_region (D := (fun w' => w'.cell? ⟨E, 1, none⟩ = some (.slice aa n ac) ∧ w'.cell? ⟨F1, 0, none⟩ = some (.func (.func 55) #[] #[.pointer (some ⟨S, 0, none⟩), .pointer (some ⟨R, 0, none⟩)]))) [0, 1, 2] [3, 4, 5, 6, 7] 7 (by kernel_rfl) (by kernel_rfl) (by decide) (⟨e1, f1⟩) ?_
  simp only [List.filterMap_cons, List.filterMap_nil, List.getElem?_cons_zero, List.getElem?_cons_succ]
  repeat (
    (first
     | (refine calm_move _ rfl ?_)
     | (apply calm_cons
        · (intro w' hw'
           first | (obtain ⟨hwa', hwb', hwc'⟩ := hw') | (obtain ⟨hwa', hwb'⟩ := hw') | skip
           go_simp
           first
           | done
           | exact rfl)))
    simp only [Act.put, Act.eval, List.setIfInBounds_toArray, List.set_cons_zero, List.set_cons_succ, Array.getD_eq_getD_getElem?, List.getElem?_toArray, List.getElem?_cons_zero, List.getElem?_cons_succ, Option.getD_some])
  refine calm_nil ?_
  clear e0 e1 e2 e3 f1 f2 f3 f4
  refine loud_cons fun K hK => ?_
  go_wp2_with fail
  refine (num_w HY.out H0.out).mono ?_
  rintro e w4 ⟨n1, rfl, hn1, r1, p1⟩
  rw [HT.out] at r1
  have HR4 := Lib.hid r1
  have HV := Lib.hid (rdZ1_vals p1)
  clear r1 p1 H0
  go_wp2
  refine hK _ _ (fun _ => ⟨HR4.out.2.2.1.1.2.1, HR4.out.2.1.1⟩) ?_
  clear hK K
  have hal : Below w4.heap.size w4 (w4.alloc (.cells #[.int .i64 (n1 : Int)] 3)) := box_bel _ _
  have hE4 : E < w4.heap.size := HR4.out.2.2.1.1.2.2.2.2
  refine loud_cons fun K hK => ?_
  go_wp2_with fail
  refine hK _ _ (fun _ => ⟨(hal.cell (p := ⟨E, 1, none⟩) hE4).trans HR4.out.2.2.1.1.2.1, (hal.cell (p := ⟨F1, 0, none⟩) HR4.out.2.1.2.2.1).trans HR4.out.2.1.1⟩) ?_
  clear hK K
  have hrow : w4.ownsRow B 3 1 (.slice aa n ac) n (iv zs) := by have := HR4.out.2.2.2.2.2.1; rwa [← HN.out] at this
  have HROW := Lib.hid hrow
  have hB4 : B ≤ w4.heap.size := HR4.out.2.2.2.2.2.2.2.2.1
  refine loud_cons fun K hK => ?_
  go_wp2_with (at_builtin; refine wpList_append_own _ rfl _ _ 23 rfl B 3 i0 (.int .i64 0) 1 8 Try.underlying23 hi0 hz0 hz1 hz2 rfl (by decide) _ _ _ rfl (HROW.out.alloc _) ⟨w4.heap.size, 0, none⟩ 1 1 [.int .i64 (n1 : Int)] rfl rfl ?d1 ?d2 ?d3 ?d4 ?d5 ?_)
  case d1 => exact cell_one1 _ _ _
  case d2 => intro u hu; simp at hu; rw [hu]; rfl
  case d3 => unfold maxLen; omega
  case d4 => omega
  case d5 => simp [go_sem]; omega
  intro v' w5 hown5 hgrow _
  obtain ⟨a5, c5, rfl⟩ := own_form hown5 (by decide)
  have hb5 : Below B w4 w5 := (((Below.refl B w4).alloc hB4 _).grown hgrow (by simp [go_sem]; omega) (fun k hk => (HROW.out.lt k hk).1))
  have h6 : w5.ownsRow B 49 4 A ts.length (tv4 ts) := (HR4.out.2.2.2.2.1.alloc _).kept hgrow (row_apart HROW.out HR4.out.2.2.2.2.1 (by decide))
  rw [iv_snoc] at hown5
  have hlen : n + 1 = (zs ++ [(n1 : Int)]).length := by rw [List.length_append, ← HN.out]; rfl
  have h5 : w5.ownsRow B 3 1 (.slice a5 (n + 1) c5) (zs ++ [(n1 : Int)]).length (iv (zs ++ [(n1 : Int)])) := by rw [← hlen]; exact hown5
  have HFIN := Lib.hid (RW.app1 HY.out HR4.out hb5 h6 h5)
  have hk5 := KeepX.ofB hb5
  have hyo := HY.out
  have hx1 : ¬ B ≤ E := by have := hyo.2.1; omega
  have hx2 : ¬ B ≤ F1 := by have := hyo.2.1; omega
  have hx3 : ¬ B ≤ F2 := by have := hyo.2.1; omega
  have hEW := HR4.out.2.2.1.keep hk5 hx1
  have hFS := HR4.out.2.1.keep hk5 hx2 hx3
  refine hK _ _ (fun _ => ⟨hEW.1.2.1, hFS.1⟩) ?_
  clear hK K
  refine loud_cons fun K hK => ?_
  go_wp2_with fail
  refine hK _ _ (fun _ => ⟨hEW.1.2.1, hFS.1⟩) ?_
  clear hK K hown5 hgrow hb5 h6 h5 hk5 hyo hx1 hx2 hx3 hlen
  obtain ⟨⟨z0, z1, z2, z3, z4⟩, y0, y1, y2, y3⟩ := hEW
  clear hFS
  refine loud_cons fun K hK => ?_
  go_wp2_with fail
  refine hK _ _ (fun h => absurd rfl h) ?_
  clear hK K
  refine loud_nil ?_
  go_wp2
  go_end0
  exact ⟨rfl, _, _, HFIN.out, HV.out⟩
end Go.Proofs.Ythmkalnbdocdcaa
