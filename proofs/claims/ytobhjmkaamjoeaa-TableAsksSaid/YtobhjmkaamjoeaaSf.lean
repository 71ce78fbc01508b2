/-
  Layer 4 (span): the contracts of the document's own Clip, and of Same at equal lists. Conditions: at most 100000 entries, texts within the form's reach.
-/
import Derived.Test.YtobhjmkaamjoeaaSe
namespace Go.Proofs.Ytobhjmkaamjoeaa
set_option maxRecDepth 100000
open Go.RowKit

set_option maxHeartbeats 1000000 in
theorem rclip_none (a : Option Addr) (cap : Nat) (lo hi : ByteArray) (w : World) :
    Calls Try.prog 39 #[.slice a 0 cap, .agg #[.string lo, .string hi]] w (CL lo hi [] w) := by
  go_enter Try.func39, Try.ntmps39
  go_wp2
  refine wp_loop_rounds 1 ?_
  rw [rounds_succ]
  go_wp2
  go_ret
  exact ⟨none, 0, rfl, .inl rfl, (Below.refl _ _).alloc (Nat.le_refl _) _⟩
set_option maxHeartbeats 2000000 in
theorem rclip_some (b off n cap : Nat) (es : List Ent) (lo hi : ByteArray) (h1 : okS lo) (h2 : okS hi) (w : World) (hn : n ≤ 100000) (hl : es.length = n) (hb : b < w.heap.size) (hok : okE es)
    (hc : ∀ i (h : i < es.length), w.cell? ⟨b, off + i * 4, none⟩ = some (.string es[i].1) ∧ w.cell? ⟨b, off + i * 4 + 1, none⟩ = some (.string es[i].2.1) ∧
      w.cell? ⟨b, off + i * 4 + 2, none⟩ = some (.bool es[i].2.2.1) ∧ w.cell? ⟨b, off + i * 4 + 3, none⟩ = some (.int .i64 es[i].2.2.2)) :
    Calls Try.prog 39 #[.slice (some ⟨b, off, none⟩) n cap, .agg #[.string lo, .string hi]] w (CL lo hi es w) := by
  obtain ⟨i0, hi0, hz0, hz1, hz2⟩ := info_parts Try.infoEnt
  have HC := Lib.hid hc
  have HL := Lib.hid hl
  have HO := Lib.hid hok
  have HS := Lib.hid (And.intro h1 h2)
  clear hc hl hok h1 h2
  go_enter Try.func39, Try.ntmps39
  go_wp2
  go_loopw [5, 6] (fun v i wr => ∃ (k m : Nat), i = .int .i64 k ∧ k ≤ n ∧ m ≤ k ∧ Hid (m = (clipL lo hi (es.take k)).length ∧ wr.ownsRow (w.heap.size + 1) 32 4 v m (ev4 (clipL lo hi (es.take k)))) ∧ Below (w.heap.size + 1) (w.alloc (.cells #[.string lo, .string hi] 24)) wr) (fun _ i _ => n - (intOf i).toNat)
  case atStart => exact ⟨0, 0, rfl, by omega, by omega, Lib.hid ⟨rfl, World.ownsRow_nil _ _ _ _⟩, Below.refl _ _⟩
  case round =>
    obtain ⟨k, m, rfl, hk, hm, HM, hbel⟩ := hrel
    have hbs : w.heap.size + 1 ≤ wr.heap.size := by have := hbel.size; simpa using this
    have x0 : wr.cell? ⟨w.heap.size, 0, none⟩ = some (.string lo) := (hbel.cell (p := ⟨w.heap.size, 0, none⟩) (by simp)).trans (by simp [go_sem])
    have x1 : wr.cell? ⟨w.heap.size, 1, none⟩ = some (.string hi) := (hbel.cell (p := ⟨w.heap.size, 1, none⟩) (by simp)).trans (by simp [go_sem])
    have xl : w.heap.size < wr.heap.size := by omega
    have bl : b < wr.heap.size := by omega
    by_cases hlt : k < n
    · have hkl : k < es.length := by rw [HL.out]; exact hlt
      have hki : (k : Int) < (n : Int) := by omega
      have hx := HC.out k hkl
      have hcell : ∀ j, wr.cell? ⟨b, j, none⟩ = w.cell? ⟨b, j, none⟩ := fun j => (hbel.cell (p := ⟨b, j, none⟩) (by simp; omega)).trans (World.cell?_alloc_lt w _ ⟨b, j, none⟩ hb)
      rw [← hcell, ← hcell, ← hcell, ← hcell] at hx
      obtain ⟨g0, g1, g2, g3⟩ := hx
      have o1 := HO.out _ (List.getElem_mem hkl)
      have hs := clip_snoc lo hi (es.take k) es[k]
      rw [← List.take_succ_eq_append_getElem hkl] at hs
      obtain ⟨E, hE⟩ : ∃ E, E = es[k] := ⟨_, rfl⟩
      rw [← hE] at g0 g1 g2 g3 o1 hs
      obtain ⟨ek, evl, eg, eq⟩ := E
      clear hcell hE
      cases ha : hasB lo hi ek with
      | false =>
        have HN := Lib.hid (show clipL lo hi (es.take (k + 1)) = clipL lo hi (es.take k) by rw [hs, ha]; rfl)
        have HF := Lib.hid fun w => rhas_any lo hi ek _ ha HS.out.1 HS.out.2 o1 w
        clear hs ha o1
        go_wp2_with fail
        refine wp_region_below (by kernel_rfl) (by kernel_rfl) ?_
        repeat (first
          | go_big_quiet_skip
          | (go_big_quiet_want
             first
             | (refine BigFrame.quiet_move _ rfl ?_)
             | (refine BigFrame.quiet_assign _ rfl ?_)
             | (unfold Oper.quiet
                apply Exists.intro
                refine ⟨fun w' hw' => ?_, ?_⟩
                · (obtain ⟨hc', hf'⟩ := bcell hw'
                   go_simp
                   first
                   | done
                   | exact rfl
                   | (go_at_call 58; refine (HF.out _).mono ?_; rintro e w'' ⟨rfl, bb⟩; exact ⟨rfl, bt hw' bb⟩)))
             go_big_quiet_on
             simp only [Act.put, Act.eval, List.setIfInBounds_toArray, List.set_cons_zero, List.set_cons_succ, Array.getD_eq_getD_getElem?, List.getElem?_toArray, List.getElem?_cons_zero, List.getElem?_cons_succ, Option.getD_some]))
        refine wpQuiet_nil ?_
        intro w' hw'
        have hbel1 := hbel.trans (hw'.mono hbs)
        have HR := Lib.hid (And.intro (show m = (clipL lo hi (es.take (k + 1))).length by rw [HN.out]; exact HM.out.1) (show w'.ownsRow (w.heap.size + 1) 32 4 u5 m (ev4 (clipL lo hi (es.take (k + 1)))) by rw [HN.out]; exact below_own HM.out.2 hw'))
        go_wp2
        go_roundw
        case rel => exact ⟨k + 1, m, by go_num, by omega, by omega, HR, hbel1⟩
        case measure => simp [intOf]; omega
      | true =>
        have HN := Lib.hid (show clipL lo hi (es.take (k + 1)) = clipL lo hi (es.take k) ++ [(ek, evl, eg, eq)] by rw [hs, ha]; rfl)
        have HF := Lib.hid fun w => rhas_any lo hi ek _ ha HS.out.1 HS.out.2 o1 w
        clear hs ha o1
        go_wp2_with fail
        refine wp_region_below (by kernel_rfl) (by kernel_rfl) ?_
        repeat (first
          | go_big_quiet_skip
          | (go_big_quiet_want
             first
             | (refine BigFrame.quiet_move _ rfl ?_)
             | (refine BigFrame.quiet_assign _ rfl ?_)
             | (unfold Oper.quiet
                apply Exists.intro
                refine ⟨fun w' hw' => ?_, ?_⟩
                · (obtain ⟨hc', hf'⟩ := bcell hw'
                   go_simp
                   first
                   | done
                   | exact rfl
                   | (go_at_call 58; refine (HF.out _).mono ?_; rintro e w'' ⟨rfl, bb⟩; exact ⟨rfl, bt hw' bb⟩)))
             go_big_quiet_on
             simp only [Act.put, Act.eval, List.setIfInBounds_toArray, List.set_cons_zero, List.set_cons_succ, Array.getD_eq_getD_getElem?, List.getElem?_toArray, List.getElem?_cons_zero, List.getElem?_cons_succ, Option.getD_some]))
        refine wpQuiet_nil ?_
        intro w' hw'
        have hbel1 := hbel.trans (hw'.mono hbs)
        obtain ⟨hc', hf'⟩ := bcell hw'
        rw [← hc' _ _ bl] at g0 g1 g2 g3
        have hown1 := below_own HM.out.2 hw'
        have hb1s : w.heap.size + 1 ≤ w'.heap.size := by have := hbel1.size; simpa using this
        have HB1 := Lib.hid hbel1
        have HO1 := Lib.hid hown1
        have bl' : b < w'.heap.size := Nat.lt_of_lt_of_le bl hw'.size
        clear hbel1 hw' hown1 hc' hf' x0 x1
        go_wp2_with (at_builtin; refine wpList_append_own _ rfl _ _ 22 rfl (w.heap.size + 1) 32 i0 (.agg #[.string ⟨#[]⟩, .string ⟨#[]⟩, .bool false, .int .i64 0]) 4 48 Try.underlying22 hi0 hz0 hz1 hz2 rfl (by decide) _ _ _ rfl (HO1.out.alloc _) ⟨w'.heap.size, 0, none⟩ 1 1 (ev (ek, evl, eg, eq)) rfl rfl ?c1 ?c2 ?c3 ?c4 ?c5 ?_)
        case c1 => exact cell_new4 _ _ _ _ _ _
        case c2 => intro u hu; simp [ev] at hu; rcases hu with rfl | rfl | rfl | rfl <;> rfl
        case c3 => unfold maxLen; omega
        case c4 => omega
        case c5 => simp; omega
        · intro v' w2 hown2 hgrow _
          have hbel2 := ((HB1.out.alloc hb1s (.cells #[.string ek, .string evl, .bool eg, .int .i64 eq] 32)).grown hgrow (by simp; omega) (fun k hk => (HO1.out.lt k hk).1))
          rw [ev4_snoc, ← HN.out] at hown2
          have HR := Lib.hid (And.intro (show m + 1 = (clipL lo hi (es.take (k + 1))).length by rw [HN.out, List.length_append, ← HM.out.1]; rfl) hown2)
          clear hown2 hgrow HB1 HO1 HN
          go_wp2
          go_roundw
          case rel => exact ⟨k + 1, m + 1, by go_num, by omega, by omega, HR, hbel2⟩
          case measure => simp [intOf]; omega
    · obtain rfl : k = n := by omega
      obtain ⟨a', cap', rfl⟩ := own_form HM.out.2 (by decide)
      have HE := HM.out
      rw [← HL.out, List.take_length] at HE
      have HE2 := Lib.hid HE
      clear HE HM
      go_wp2
      go_ret
      refine ⟨a', cap', by rw [← HE2.out.1]; rfl, own_rde HE2.out.2 HE2.out.1.symm, ?_⟩
      exact ((Below.refl _ _).alloc (Nat.le_refl _) (.cells #[.string lo, .string hi] 24)).trans (hbel.mono (by omega))
theorem rclip_any (a : Option Addr) (n cap : Nat) (es : List Ent) (lo hi : ByteArray) (h1 : okS lo) (h2 : okS hi) (w : World) (hn : n ≤ 100000) (hl : es.length = n) (h : RdE w a es) (hok : okE es) :
    Calls Try.prog 39 #[.slice a n cap, .agg #[.string lo, .string hi]] w (CL lo hi es w) := by
  rcases h with rfl | ⟨b, off, rfl, hb, hc⟩
  · subst hl; exact rclip_none a cap lo hi w
  · exact rclip_some b off n cap es lo hi h1 h2 w hn hl hb hok hc

/-! ### Same, at equal lists -/
set_option maxHeartbeats 1000000 in
theorem samee_none (a b : Option Addr) (ca cb : Nat) (w : World) :
    Calls Try.prog 21 #[.slice a 0 ca, .slice b 0 cb] w fun e w' => e = .returned (.bool true) ∧ Below w.heap.size w w' := by
  go_enter Try.func21, Try.ntmps21
  go_wp2
  refine wp_loop_rounds 1 ?_
  rw [rounds_succ]
  go_wp2
  go_ret
  exact ⟨rfl, Below.refl _ _⟩
set_option maxHeartbeats 1000000 in
theorem samee_some (b1 o1 b2 o2 n ca cb : Nat) (es : List Ent) (w : World) (hn : n < 9223372036854775808) (hl : es.length = n)
    (hc1 : ∀ i (h : i < es.length), w.cell? ⟨b1, o1 + i * 4, none⟩ = some (.string es[i].1) ∧ w.cell? ⟨b1, o1 + i * 4 + 1, none⟩ = some (.string es[i].2.1) ∧ w.cell? ⟨b1, o1 + i * 4 + 2, none⟩ = some (.bool es[i].2.2.1) ∧ w.cell? ⟨b1, o1 + i * 4 + 3, none⟩ = some (.int .i64 es[i].2.2.2))
    (hc2 : ∀ i (h : i < es.length), w.cell? ⟨b2, o2 + i * 4, none⟩ = some (.string es[i].1) ∧ w.cell? ⟨b2, o2 + i * 4 + 1, none⟩ = some (.string es[i].2.1) ∧ w.cell? ⟨b2, o2 + i * 4 + 2, none⟩ = some (.bool es[i].2.2.1) ∧ w.cell? ⟨b2, o2 + i * 4 + 3, none⟩ = some (.int .i64 es[i].2.2.2)) :
    Calls Try.prog 21 #[.slice (some ⟨b1, o1, none⟩) n ca, .slice (some ⟨b2, o2, none⟩) n cb] w fun e w' => e = .returned (.bool true) ∧ Below w.heap.size w w' := by
  have HC1 := Lib.hid hc1
  have HC2 := Lib.hid hc2
  have HL := Lib.hid hl
  clear hc1 hc2 hl
  go_enter Try.func21, Try.ntmps21
  go_wp2
  go_loopw [5] (fun i wr => ∃ (k d : Nat), k ≤ n ∧ i = .int .i64 k ∧ wr = w.drewN d) (fun i _ => n - (intOf i).toNat)
  case atStart => exact ⟨0, 0, by omega, rfl, rfl⟩
  case round =>
    obtain ⟨k, d, hk, rfl, rfl⟩ := hrel
    by_cases hlt : k < n
    · have hkl : k < es.length := by rw [HL.out]; exact hlt
      have hki : (k : Int) < (n : Int) := by omega
      obtain ⟨g0, g1, g2, g3⟩ := HC1.out k hkl
      obtain ⟨h0, h1, h2, h3⟩ := HC2.out k hkl
      obtain ⟨E, hE⟩ : ∃ E, E = es[k] := ⟨_, rfl⟩
      rw [← hE] at g0 g1 g2 g3 h0 h1 h2 h3
      obtain ⟨ek, evl, eg, eq⟩ := E
      clear hE
      go_wp2
      go_quiet (fail)
      go_wp2
      go_roundw
      case rel => exact ⟨k + 1, _, by omega, by go_num, rfl⟩
      case measure => simp [intOf]; omega
    · obtain rfl : k = n := by omega
      go_wp2
      go_ret
      exact ⟨rfl, below_drewN (Below.refl _ _) _⟩
theorem samee_any (a b : Option Addr) (n ca cb : Nat) (es : List Ent) (w : World) (ha : RdE w a es) (hb : RdE w b es) (hn : n < 9223372036854775808) (hl : es.length = n) :
    Calls Try.prog 21 #[.slice a n ca, .slice b n cb] w fun e w' => e = .returned (.bool true) ∧ Below w.heap.size w w' := by
  by_cases h0 : es = []
  · subst h0
    subst hl
    exact samee_none a b ca cb w
  · obtain ⟨b1, o1, rfl, _, hc1⟩ := ha.resolve_left h0
    obtain ⟨b2, o2, rfl, _, hc2⟩ := hb.resolve_left h0
    exact samee_some b1 o1 b2 o2 n ca cb es w hn hl hc1 hc2
end Go.Proofs.Ytobhjmkaamjoeaa
