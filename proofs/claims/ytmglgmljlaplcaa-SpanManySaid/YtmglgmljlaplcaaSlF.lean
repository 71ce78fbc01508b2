/-
  Layer 4 (span): the walk of the law SpanMany. Conditions: the slice and the text within the form's reach.
-/
import Derived.Test.YtmglgmljlaplcaaSr
import Derived.Test.YtmglgmljlaplcaaSlB
import Derived.Test.YtmglgmljlaplcaaSlA
import Derived.Test.YtmglgmljlaplcaaSv
import Derived.Deep.DeepCutAuto
import Derived.Deep.RegionHeld3
namespace Go.Proofs.Ytmglgmljlaplcaa
open Go.RowKit

theorem keep_m {a b : World} {g i j g' o : Nat} {u v x : Value} (h : a.cell? ⟨g, i, none⟩ = some u ∧ a.cell? ⟨g, j, none⟩ = some v ∧ a.cell? ⟨g', o, none⟩ = some x) (hb : Below a.heap.size a b) :
    b.cell? ⟨g, i, none⟩ = some u ∧ b.cell? ⟨g, j, none⟩ = some v ∧ b.cell? ⟨g', o, none⟩ = some x :=
  ⟨(hb.cell (p := ⟨g, i, none⟩) (cell_lt h.1)).trans h.1, (hb.cell (p := ⟨g, j, none⟩) (cell_lt h.2.1)).trans h.2.1, (hb.cell (p := ⟨g', o, none⟩) (cell_lt h.2.2)).trans h.2.2⟩
theorem b_none {w w' : World} (h : Below w.drew.heap.size w.drew w') : Below w.heap.size w w' ∧ w.heap.size ≤ w'.heap.size := ⟨((Below.refl _ w).drew).trans h, h.size⟩
theorem b_one {w w' : World} {x y : ByteArray} {t : TypeId} (h : Below (w.alloc (.cells #[.string x, .string y] t)).drew.heap.size (w.alloc (.cells #[.string x, .string y] t)).drew w') : Below w.heap.size w w' ∧ w.heap.size < w'.heap.size ∧
    w'.cell? ⟨w.heap.size, 0, none⟩ = some (.string x) ∧ w'.cell? ⟨w.heap.size, 1, none⟩ = some (.string y) := by
  have hs := h.size
  simp at hs
  exact ⟨(((Below.refl _ w).alloc (Nat.le_refl _) _).drew).trans (h.mono (by simp)), by omega, (h.cell (p := ⟨w.heap.size, 0, none⟩) (by simp)).trans (by simp [go_sem]), (h.cell (p := ⟨w.heap.size, 1, none⟩) (by simp)).trans (by simp [go_sem])⟩
theorem b_two {w w' : World} {x y x' y' : ByteArray} {t t' : TypeId} (h : Below ((w.alloc (.cells #[.string x, .string y] t)).alloc (.cells #[.string x', .string y'] t')).drew.heap.size ((w.alloc (.cells #[.string x, .string y] t)).alloc (.cells #[.string x', .string y'] t')).drew w') : Below w.heap.size w w' ∧ w.heap.size < w'.heap.size ∧ w.heap.size + 1 < w'.heap.size ∧
    w'.cell? ⟨w.heap.size, 0, none⟩ = some (.string x) ∧ w'.cell? ⟨w.heap.size, 1, none⟩ = some (.string y) ∧ w'.cell? ⟨w.heap.size + 1, 0, none⟩ = some (.string x') ∧ w'.cell? ⟨w.heap.size + 1, 1, none⟩ = some (.string y') := by
  have hs := h.size
  simp at hs
  exact ⟨((((Below.refl _ w).alloc (Nat.le_refl _) _).alloc (by simp) _).drew).trans (h.mono (by simp; omega)), by omega, by omega, (h.cell (p := ⟨w.heap.size, 0, none⟩) (by simp; omega)).trans (by simp [go_sem]), (h.cell (p := ⟨w.heap.size, 1, none⟩) (by simp; omega)).trans (by simp [go_sem]),
    (h.cell (p := ⟨w.heap.size + 1, 0, none⟩) (by simp)).trans (by simp [go_sem]), (h.cell (p := ⟨w.heap.size + 1, 1, none⟩) (by simp)).trans (by simp [go_sem])⟩
set_option maxRecDepth 100000 in
set_option maxHeartbeats 4000000 in
theorem many_walk (a : Option Addr) (N cap : Nat) (ts : List (List UInt8)) (other : ByteArray) (h3 : okS other) (w : World) (hN : N ≤ 20) (hl : ts.length = N) (hr : Rd w a ts) (hs : ∀ t ∈ ts, t.length ≤ maxLen) :
    Calls Try.prog 9 #[.slice a N cap, .string other] w fun e w' => e = .returned (.bool true) ∧ Below w.heap.size w w' := by
  obtain ⟨i0, hi0, hz0, hz1, hz2⟩ := info_parts Try.infoSpan
  have HL := Lib.hid hl
  have HR := Lib.hid hr
  have HS := Lib.hid hs
  have HO := Lib.hid h3
  clear hl hr hs h3
  go_enter Try.func9, Try.ntmps9
  go_wp2
  go_loopw [5, 6] (fun v i wr => ∃ (k g n c : Nat) (L : List Rng), i = .int .i64 k ∧ k ≤ N ∧ v = .slice (some ⟨g, 0, none⟩) n c ∧ n ≤ k + 1 ∧ 0 < n ∧ n ≤ c ∧ Hid (L.length = n ∧ Good L) ∧ Hid (RvAt wr g L) ∧ w.heap.size ≤ g ∧ g < wr.heap.size ∧ Below w.heap.size w wr) (fun _ i _ => N - (intOf i).toNat)
  case atStart =>
    exact ⟨0, w.heap.size, 1, 1, [(⟨#[]⟩, ⟨#[]⟩)], rfl, by omega, rfl, by omega, by omega, by omega, Lib.hid ⟨rfl, Good.one⟩, Lib.hid ⟨by simp, fun j u hj => by have := cell_new2 w _ _ 23 j u hj; rw [add_plain, Nat.zero_add] at this; exact this⟩, by omega, by simp, (Below.refl _ _).alloc (Nat.le_refl _) _⟩
  case round =>
    obtain ⟨k, g, n, c, L, rfl, hk, rfl, hn1, hn0, hnc, HG, HV, hg1, hg2, hbel⟩ := hrel
    by_cases hlt : k < N
    · have hkl : k < ts.length := by rw [HL.out]; exact hlt
      have hne : ts ≠ [] := by intro e; rw [e] at hkl; simp at hkl
      obtain ⟨b, off, rfl, hb, hc⟩ := HR.out.resolve_left hne
      have HK := Lib.hid (hc k hkl)
      have hki : (k : Int) < (N : Int) := by omega
      have hKo := HS.out _ (List.getElem_mem hkl)
      obtain ⟨key, hkey⟩ : ∃ key : ByteArray, key = ⟨ts[k].toArray⟩ := ⟨_, rfl⟩
      have HKo := Lib.hid (show okS key by rw [hkey]; unfold okS; rw [size_mkl]; exact hKo)
      rw [← hkey] at HK
      clear hkey hKo hc hne
      go_wp2
      go_loopw [5, 7] (fun v j wq => ∃ p : Nat, v = .slice (some ⟨g, 0, none⟩) n c ∧ j = .int .i64 p ∧ p ≤ n ∧ Hid (RvAt wq g L) ∧ g < wq.heap.size ∧ Below w.heap.size w wq) (fun _ j _ => n - (intOf j).toNat)
      case atStart => exact ⟨0, rfl, rfl, by omega, HV, hg2, hbel⟩
      case round =>
        clear hbel hg2 HV
        obtain ⟨p, rfl, rfl, hp, HV, hg2, hbel⟩ := hrel
        by_cases hpn : p < n
        · have hpl : p < L.length := by rw [HG.out.1]; exact hpn
          have hpi : (p : Int) < (n : Int) := by omega
          obtain ⟨x0, x1⟩ := HV.out.at_ hpl
          have hmem := HG.out.2.2 _ (List.getElem_mem hpl)
          have hkc := (hbel.cell (p := ⟨b, off + k, none⟩) hb).trans HK.out
          obtain ⟨lo, hlo⟩ : ∃ x, x = L[p].1 := ⟨_, rfl⟩
          obtain ⟨hi, hhi⟩ : ∃ x, x = L[p].2 := ⟨_, rfl⟩
          rw [← hlo] at x0
          rw [← hhi] at x1
          rw [← hlo, ← hhi] at hmem
          have hbs : b < wr.heap.size := Nat.lt_of_lt_of_le hb hbel.size
          have HSS := Lib.hid (And.intro x0 (And.intro x1 hkc))
          have hn1 : ¬ g = wr.heap.size := by omega
          have hn2 : ¬ b = wr.heap.size := by omega
          have hn3 : ¬ wr.heap.size = g := by omega
          have hn4 : ¬ wr.heap.size = b := by omega
          have hn5 : ¬ g = wr.heap.size + 1 := by omega
          have hn6 : ¬ b = wr.heap.size + 1 := by omega
          have hn7 : ¬ wr.heap.size + 1 = g := by omega
          have hn8 : ¬ wr.heap.size + 1 = b := by omega
          have o1 : okS lo := okS_key (mayB_iff.1 hmem).1
          have o2 : okS hi := okS_key (mayB_iff.1 hmem).2.1
          obtain ⟨P1, Q1, R1, T1, e1, hcut, hres⟩ : ∃ (P1 Q1 R1 T1 : ByteArray) (e1 : Int), (∀ w : World, Calls Try.prog 17 #[.agg #[.string lo, .string hi], .string key] w fun x w' => x = .returned (.tuple #[.agg #[.string P1, .string Q1], .agg #[.string R1, .string T1], .int .i64 e1]) ∧ Below w.heap.size w w') ∧
              ((cutB lo hi key = true ∧ P1 = lo ∧ Q1 = key ∧ R1 = key ∧ T1 = hi ∧ e1 = 0) ∨ e1 = 1) := by
            cases hcb : cutB lo hi key with
            | true => exact ⟨_, _, _, _, _, cut_yes lo hi key hcb o1 o2 HKo.out, .inl ⟨rfl, rfl, rfl, rfl, rfl, rfl⟩⟩
            | false => exact ⟨_, _, _, _, _, cut_no lo hi key hcb o1 o2 HKo.out, .inr rfl⟩
          have HF := Lib.hid hcut
          have HRes := Lib.hid hres
          have HLH := Lib.hid (And.intro hlo hhi)
          clear hcut hres o1 o2 hmem hlo hhi
          go_upto_region 10 with fail
          go_cut [8, 9, 10] (fun s8 s9 s10 wx => s10 = .int .i64 e1 ∧ ∃ g8 g9, s8 = .pointer (some ⟨g8, 0, none⟩) ∧ s9 = .pointer (some ⟨g9, 0, none⟩) ∧ Below wr.heap.size wr wx ∧ Box wx g8 P1 Q1 ∧ Box wx g9 R1 T1)
          case first =>
            go_region_held3 (fun w' => w'.cell? ⟨g, p * 2, none⟩ = some (.string lo) ∧ w'.cell? ⟨g, p * 2 + 1, none⟩ = some (.string hi) ∧ w'.cell? ⟨b, off + k, none⟩ = some (.string key))
              (first
                | assumption
                | (refine keep_m HSS.out ?_
                   repeat (first | assumption | exact Below.refl _ _ | (refine Below.alloc ?_ ?_ _) | (refine Below.setCell ?_ ?_ _) | (refine Below.drew ?_))
                   all_goals (first | omega | (simp; done) | (simp; omega))))
              (first
                | (go_at_call 17; refine (HF.out _).mono ?_; rintro e w' ⟨rfl, bb⟩; obtain ⟨hc', hf'⟩ := bcell bb; have hq := b_two bb; obtain ⟨hB', hq1, hq2, z0, z1, z2, z3⟩ := hq)
                | (go_at_call 17; refine (HF.out _).mono ?_; rintro e w' ⟨rfl, bb⟩; obtain ⟨hc', hf'⟩ := bcell bb; have hq := b_one bb; obtain ⟨hB', hq1, z0, z1⟩ := hq)
                | (go_at_call 17; refine (HF.out _).mono ?_; rintro e w' ⟨rfl, bb⟩; obtain ⟨hc', hf'⟩ := bcell bb; have hq := b_none bb; obtain ⟨hB', hq1⟩ := hq))
            all_goals
              go_wp2_with fail
              go_meet
              refine ⟨rfl, _, _, rfl, rfl, ?_, ⟨?_, ?_, ?_⟩, ⟨?_, ?_, ?_⟩⟩
              · repeat (first | assumption | exact Below.refl _ _ | (refine Below.alloc ?_ ?_ _) | (refine Below.setCell ?_ ?_ _) | (refine Below.drew ?_))
                all_goals (first | omega | (simp; done) | (simp; omega))
              · simp [go_sem, *]
              · simp [go_sem, *]
              · (first | omega | (simp; done) | (simp; omega))
              · simp [go_sem, *]
              · simp [go_sem, *]
              · (first | omega | (simp; done) | (simp; omega))
          case rest =>
            obtain ⟨rfl, g8, g9, rfl, rfl, hbx, B8, B9⟩ := hcut
            have hgc : g < wc.heap.size := Nat.lt_of_lt_of_le hg2 hbx.size
            have HVc := Lib.hid (HV.out.old hbx hg2)
            have HBc := Lib.hid (hbel.trans (hbx.mono hbel.size))
            have hws := HBc.out.size
            clear hbx HSS HF HV hbel x0 x1 hkc hn1 hn2 hn3 hn4 hn5 hn6 hn7 hn8 hbs
            rcases HRes.out with ⟨hcb, rfl, rfl, rfl, rfl, rfl⟩ | rfl
            · have HGood := Lib.hid (HG.out.2.cut hpl HLH.out.1 HLH.out.2 hcb)
              have HLen := Lib.hid (cut_length L hpl (P1, R1) (R1, T1))
              have hLn := HG.out.1
              have hp20 : p < 21 := by omega
              have HT : Hid ((rv (L.take p)).length = p * 2) := Lib.hid (by rw [rv_length, List.length_take, Nat.min_eq_left (by omega)])
              have HD : Hid ((rv (L.drop (p + 1))).length = (n - (p + 1)) * 2) := Lib.hid (by rw [rv_length, List.length_drop, hLn])
              have HN := Lib.hid hLn
              have f8 := B8.2.2
              have f9 := B9.2.2
              have H8 := Lib.hid B8
              have H9 := Lib.hid B9
              clear hcb hLn HRes HLH B8 B9
              go_wp2_with (at_builtin; refine wpList_append_own _ rfl (.tmp 47) (.tmp 50) 37 rfl wc.heap.size 23 i0 (.agg #[.string ⟨#[]⟩, .string ⟨#[]⟩]) 2 32 Try.underlying37 hi0 hz0 hz1 hz2 rfl (by decide) (.slice none 0 0) 0 [] rfl (World.ownsRow_nil _ _ _ _) ⟨g, 0, none⟩ p c (rv (L.take p)) rfl HT.out (HVc.out.take p) (rv_one _) (by unfold maxLen; omega) (by omega) (Nat.le_refl _) ?_)
              intro v1 w1 own1 gr1 _
              have bl1 : Below wc.heap.size wc w1 := (Below.refl _ _).grown gr1 (Nat.le_refl _) (fun k hk => by simp [Value.ownBlock] at hk)
              have O1 := Lib.hid own1
              have L1 := Lib.hid bl1
              have B8 := H8.out.below bl1
              obtain ⟨y0, y1, y2⟩ := B8
              have s1 := bl1.size
              clear own1 gr1 bl1
              go_wp2_with (at_builtin; refine wpList_append_own _ rfl (.tmp 52) (.tmp 54) 37 rfl wc.heap.size 23 i0 (.agg #[.string ⟨#[]⟩, .string ⟨#[]⟩]) 2 32 Try.underlying37 hi0 hz0 hz1 hz2 rfl (by decide) v1 p _ rfl (O1.out.alloc _) ⟨w1.heap.size, 0, none⟩ 1 1 [.string P1, .string R1] rfl rfl (cell_new2 _ _ _ _) (two_one _ _) (by unfold maxLen; omega) (by omega) (by simp; omega) ?_)
              intro v2 w2 own2 gr2 _
              have bl2 : Below wc.heap.size wc w2 := (L1.out.alloc s1 _).grown gr2 (by simp; omega) (fun k hk => (O1.out.lt k hk).1)
              have O2 := Lib.hid own2
              have L2 := Lib.hid bl2
              have B9 := H9.out.below bl2
              obtain ⟨z0, z1, z2⟩ := B9
              have s2 := bl2.size
              clear own2 gr2 bl2 y0 y1 y2 O1 L1
              go_wp2_with (at_builtin; refine wpList_append_own _ rfl (.tmp 56) (.tmp 58) 37 rfl wc.heap.size 23 i0 (.agg #[.string ⟨#[]⟩, .string ⟨#[]⟩]) 2 32 Try.underlying37 hi0 hz0 hz1 hz2 rfl (by decide) v2 (p + 1) _ rfl (O2.out.alloc _) ⟨w2.heap.size, 0, none⟩ 1 1 [.string R1, .string T1] rfl rfl (cell_new2 _ _ _ _) (two_one _ _) (by unfold maxLen; omega) (by omega) (by simp; omega) ?_)
              intro v3 w3 own3 gr3 _
              have bl3 : Below wc.heap.size wc w3 := (L2.out.alloc s2 _).grown gr3 (by simp; omega) (fun k hk => (O2.out.lt k hk).1)
              have O3 := Lib.hid own3
              have L3 := Lib.hid bl3
              have HV3 := Lib.hid (HVc.out.old bl3 hgc)
              have s3 := bl3.size
              clear own3 gr3 bl3 z0 z1 z2 O2 L2
              by_cases hcp : c = p + 1
              · obtain rfl : n = p + 1 := by omega
                subst hcp
                have hd0 : rv (L.drop (p + 1)) = [] := by rw [List.drop_eq_nil_of_le (by rw [HN.out]; omega)]; rfl
                have HD0 := Lib.hid hd0
                clear hd0
                go_wp2_with (at_builtin; refine wpList_append_own _ rfl (.tmp 60) (.tmp 64) 37 rfl wc.heap.size 23 i0 (.agg #[.string ⟨#[]⟩, .string ⟨#[]⟩]) 2 32 Try.underlying37 hi0 hz0 hz1 hz2 rfl (by decide) v3 (p + 1 + 1) _ rfl O3.out ⟨g, 0, none⟩ 0 _ [] rfl rfl (by intro j u hj; simp at hj) (by simp) (by unfold maxLen; omega) (by omega) (by omega) ?_)
                intro v4 w4 own4 gr4 _
                have bl4 : Below wc.heap.size wc w4 := L3.out.grown gr4 s3 (fun k hk => (O3.out.lt k hk).1)
                have own5 : w4.ownsRow wc.heap.size 23 2 v4 (p + 1 + 1) (rv (L.take p ++ [(P1, R1)] ++ [(R1, T1)] ++ L.drop (p + 1))) := by
                  rw [rv_mid, HD0.out]
                  simpa using own4
                obtain ⟨g', c', rfl, hnc', _, hbg, hrv⟩ := own_rv own5 (by omega)
                have HR4 := Lib.hid hrv
                have hgl := hrv.1
                have HB4 := Lib.hid (HBc.out.trans (bl4.mono HBc.out.size))
                have hL' := HLen.out
                rw [HN.out] at hL'
                have HG4 := Lib.hid (And.intro hL' HGood.out)
                clear own4 own5 gr4 bl4 hrv O3 L3 HV3 H8 H9 HT HD hL'
                go_wp2
                go_roundw
                case rel => exact ⟨k + 1, g', p + 1 + 1, c', _, by go_num, by omega, rfl, by omega, by omega, hnc', HG4, HR4, by omega, hgl, HB4.out⟩
                case measure => simp [intOf]; omega
              · have hcp' : p + 1 < c := by omega
                have HE := Lib.hid (HV3.out.drop (k := p + 1) (by rw [HN.out]; omega))
                go_wp2_with (at_builtin; refine wpList_append_own _ rfl (.tmp 60) (.tmp 64) 37 rfl wc.heap.size 23 i0 (.agg #[.string ⟨#[]⟩, .string ⟨#[]⟩]) 2 32 Try.underlying37 hi0 hz0 hz1 hz2 rfl (by decide) v3 (p + 1 + 1) _ rfl O3.out ⟨g, (p + 1) * 2, none⟩ (n - (p + 1)) _ (rv (L.drop (p + 1))) rfl HD.out HE.out (rv_one _) (by unfold maxLen; omega) (by omega) (by omega) ?_)
                intro v4 w4 own4 gr4 _
                have bl4 : Below wc.heap.size wc w4 := L3.out.grown gr4 s3 (fun k hk => (O3.out.lt k hk).1)
                have ec : p + 1 + 1 + (n - (p + 1)) = n + 1 := by omega
                rw [ec] at own4
                have own5 : w4.ownsRow wc.heap.size 23 2 v4 (n + 1) (rv (L.take p ++ [(P1, R1)] ++ [(R1, T1)] ++ L.drop (p + 1))) := by
                  rw [rv_mid]
                  simpa using own4
                obtain ⟨g', c', rfl, hnc', _, hbg, hrv⟩ := own_rv own5 (by omega)
                have HR4 := Lib.hid hrv
                have hgl := hrv.1
                have HB4 := Lib.hid (HBc.out.trans (bl4.mono HBc.out.size))
                have hL' := HLen.out
                rw [HN.out] at hL'
                have HG4 := Lib.hid (And.intro hL' HGood.out)
                clear own4 own5 gr4 bl4 hrv O3 L3 HV3 H8 H9 HT HD hL' ec
                go_wp2
                go_roundw
                case rel => exact ⟨k + 1, g', n + 1, c', _, by go_num, by omega, rfl, by omega, by omega, hnc', HG4, HR4, by omega, hgl, HB4.out⟩
                case measure => simp [intOf]; omega
            · go_wp2
              go_roundw
              case rel => exact ⟨p + 1, rfl, by go_num, by omega, HVc, hgc, HBc.out⟩
              case measure => simp [intOf]; omega
        · obtain rfl : p = n := by omega
          go_wp2
          go_roundw
          case rel => exact ⟨k + 1, g, p, c, L, by go_num, by omega, rfl, by omega, hn0, hnc, HG, HV, hg1, hg2, hbel⟩
          case measure => simp [intOf]; omega
    · obtain rfl : k = N := by omega
      obtain ⟨kb, hkb⟩ : ∃ c, keyB other = c := ⟨_, rfl⟩
      have HK := Lib.hid fun w => key_eq other kb hkb HO.out w
      have HKB := Lib.hid hkb
      have hn21 : n ≤ 21 := by omega
      clear hkb
      go_wp2
      go_loopw [12, 13] (fun m i wq => ∃ p q : Nat, i = .int .i64 p ∧ p ≤ n ∧ m = .int .i64 q ∧ q ≤ p ∧ Hid (q = cnt (L.take p) other) ∧ Hid (RvAt wq g L) ∧ g < wq.heap.size ∧ Below w.heap.size w wq) (fun _ i _ => n - (intOf i).toNat)
      case atStart => exact ⟨0, 0, rfl, by omega, rfl, by omega, Lib.hid rfl, HV, hg2, hbel⟩
      case round =>
        clear hbel hg2 HV
        obtain ⟨p, q, rfl, hp, rfl, hq, HQ, HV, hg2, hbel⟩ := hrel
        by_cases hpn : p < n
        · have hpl : p < L.length := by rw [HG.out.1]; exact hpn
          have hpi : (p : Int) < (n : Int) := by omega
          obtain ⟨x0, x1⟩ := HV.out.at_ hpl
          have hmem := HG.out.2.2 _ (List.getElem_mem hpl)
          have hcs := cnt_snoc (L.take p) L[p] other
          rw [← List.take_succ_eq_append_getElem hpl, ← HQ.out] at hcs
          obtain ⟨lo, hlo⟩ : ∃ x, x = L[p].1 := ⟨_, rfl⟩
          obtain ⟨hi, hhi⟩ : ∃ x, x = L[p].2 := ⟨_, rfl⟩
          rw [← hlo] at x0
          rw [← hhi] at x1
          rw [← hlo, ← hhi] at hmem hcs
          have o1 : okS lo := okS_key (mayB_iff.1 hmem).1
          have o2 : okS hi := okS_key (mayB_iff.1 hmem).2.1
          have HC := Lib.hid fun w => chk_any lo hi _ hmem o1 o2 w
          obtain ⟨ha, hha⟩ : ∃ x, hasB lo hi other = x := ⟨_, rfl⟩
          have HA := Lib.hid fun w => has_any lo hi other _ hha o1 o2 HO.out w
          rw [hha] at hcs
          have HCS := Lib.hid hcs
          have HX := Lib.hid (And.intro x0 x1)
          clear hmem hlo hhi o1 o2 hcs hha
          go_wp2_with fail
          refine (HC.out _).mono ?_
          rintro e w3 ⟨rfl, b3⟩
          rw [show chkN true = 0 from rfl]
          have HV3 := Lib.hid (HV.out.old b3 hg2)
          have HB3 := Lib.hid (hbel.trans (b3.mono hbel.size))
          have hg3 : g < w3.heap.size := Nat.lt_of_lt_of_le hg2 b3.size
          have y0 := (b3.cell (p := ⟨g, p * 2, none⟩) hg2).trans HX.out.1
          have y1 := (b3.cell (p := ⟨g, p * 2 + 1, none⟩) hg2).trans HX.out.2
          clear b3 x0 x1 HX
          cases ha with
          | true =>
            have HQ2 := Lib.hid (show q + 1 = cnt (L.take (p + 1)) other by rw [HCS.out]; rfl)
            clear HCS
            go_wp2_with fail
            refine (HA.out _).mono ?_
            rintro e w4 ⟨rfl, b4⟩
            go_wp2
            go_roundw
            case rel => exact ⟨p + 1, q + 1, by go_num, by omega, by go_num, by omega, HQ2, Lib.hid (HV3.out.old b4 hg3), Nat.lt_of_lt_of_le hg3 b4.size, HB3.out.trans (b4.mono HB3.out.size)⟩
            case measure => simp [intOf]; omega
          | false =>
            have HQ2 := Lib.hid (show q = cnt (L.take (p + 1)) other by rw [HCS.out]; rfl)
            clear HCS
            go_wp2_with fail
            refine (HA.out _).mono ?_
            rintro e w4 ⟨rfl, b4⟩
            go_wp2
            go_roundw
            case rel => exact ⟨p + 1, q, by go_num, by omega, rfl, by omega, HQ2, Lib.hid (HV3.out.old b4 hg3), Nat.lt_of_lt_of_le hg3 b4.size, HB3.out.trans (b4.mono HB3.out.size)⟩
            case measure => simp [intOf]; omega
        · obtain rfl : p = n := by omega
          have hq2 : q = cnt L other := by
            have := HQ.out
            rw [← HG.out.1, List.take_length] at this
            exact this
          have hcov := covers_any (some ⟨g, 0, none⟩) c L wr HV.out.rd HG.out.2.ok (by rw [HG.out.1]; omega)
          rw [HG.out.1, HG.out.2.1] at hcov
          have HCov := Lib.hid hcov
          clear hcov
          cases kb with
          | true =>
            obtain rfl : q = 1 := by rw [hq2]; exact covers_one HG.out.2.1 HKB.out
            clear hq2
            go_wp2_with fail
            refine HCov.out.mono ?_
            rintro e w3 ⟨rfl, b3⟩
            go_wp2_with fail
            refine (HK.out _).mono ?_
            rintro e w4 ⟨rfl, rfl⟩
            go_wp2_with fail
            refine (awake_any _).mono ?_
            rintro e w5 ⟨rfl, b5⟩
            go_wp2
            go_ret
            exact ⟨rfl, hbel.trans ((b3.mono hbel.size).trans (b5.mono (Nat.le_trans hbel.size b3.size)))⟩
          | false =>
            obtain rfl : q = 0 := by rw [hq2]; exact cnt_no HKB.out L
            clear hq2
            go_wp2_with fail
            refine HCov.out.mono ?_
            rintro e w3 ⟨rfl, b3⟩
            go_wp2_with fail
            refine (HK.out _).mono ?_
            rintro e w4 ⟨rfl, rfl⟩
            go_wp2_with fail
            refine (awake_any _).mono ?_
            rintro e w5 ⟨rfl, b5⟩
            go_wp2
            go_ret
            exact ⟨rfl, hbel.trans ((b3.mono hbel.size).trans (b5.mono (Nat.le_trans hbel.size b3.size)))⟩
set_option maxHeartbeats 1000000 in
theorem many_long (a : Option Addr) (n cap : Nat) (other : ByteArray) (w : World) (h : 20 < n) (hn : n < 9223372036854775808) :
    Calls Try.prog 9 #[.slice a n cap, .string other] w fun e w' => e = .returned (.bool true) ∧ Below w.heap.size w w' := by
  have h' : (20 : Int) < (n : Int) := by omega
  go_enter Try.func9, Try.ntmps9
  go_wp2_with fail
  refine (awake_any _).mono ?_
  rintro e w1 ⟨rfl, b1⟩
  go_wp2
  go_ret
  exact ⟨rfl, b1⟩
theorem walk_SpanMany (a : Option Addr) (cap : Nat) (ts : List (List UInt8)) (other : ByteArray) (h3 : okS other) (w : World) (hr : Rd w a ts) (hl : ts.length ≤ maxLen) (_ : ts.length ≤ cap) (hs : ∀ t ∈ ts, t.length ≤ maxLen) :
    Calls Try.prog 9 #[.slice a ts.length cap, .string other] w fun e w' => e = .returned (.bool true) ∧ Below w.heap.size w w' := by
  unfold maxLen at hl
  by_cases h : 20 < ts.length
  · exact many_long a _ cap other w h (by omega)
  · exact many_walk a _ cap ts other h3 w (by omega) rfl hr hs
end Go.Proofs.Ytmglgmljlaplcaa
