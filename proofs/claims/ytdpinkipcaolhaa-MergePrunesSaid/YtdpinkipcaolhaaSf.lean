/-
  Layer 4 (span): the contracts of the document's own Clip, and of Same at equal lists. Conditions: at most 100000 entries, texts within the form's reach.
-/
import Derived.Test.YtdpinkipcaolhaaSe
namespace Go.Proofs.Ytdpinkipcaolhaa
set_option maxRecDepth 100000
open Go.RowKit

/-! ### Same, at equal lists -/
set_option maxHeartbeats 1000000 in
theorem samee_none (a b : Option Addr) (ca cb : Nat) (w : World) :
    Calls Try.prog 15 #[.slice a 0 ca, .slice b 0 cb] w fun e w' => e = .returned (.bool true) ∧ Below w.heap.size w w' := by
  go_enter Try.func15, Try.ntmps15
  go_wp2
  refine wp_loop_rounds 1 ?_
  rw [rounds_succ]
  go_wp2
  go_ret
  exact ⟨rfl, Below.refl _ _⟩
set_option maxHeartbeats 1000000 in
theorem samee_some (b1 o1 b2 o2 n ca cb : Nat) (es : List Ent) (w : World) (hn : n < 9223372036854775808) (hl : es.length = n)
    (hc1 : ∀ i (h : i < es.length), w.cell? ⟨b1, o1 + i * 4, none⟩ = some (.string es[i].1) ∧ w.cell? ⟨b1, o1 + i * 4 + 1, none⟩ = some (.string es[i].2.1) ∧ w.cell? ⟨b1, o1 + i * 4 + 2, none⟩ = some (.bool es[i].2.2.1) ∧ w.cell? ⟨b1, o1 + i * 4 + 3, none⟩ = some (.int .i64 es[i].2.2.2))
    (hc2 : ∀ i (h : i < es.length), w.cell? ⟨b2, o2 + i * 4, none⟩ = some (.string es[i].1) ∧ w.cell? ⟨b2, o2 + i * 4 + 1, none⟩ = some (.string es[i].2.1) ∧ w.cell? ⟨b2, o2 + i * 4 + 2, none⟩ = some (.bool es[i].2.2.1) ∧ w.cell? ⟨b2, o2 + i * 4 + 3, none⟩ = some (.int .i64 es[i].2.2.2)) :
    Calls Try.prog 15 #[.slice (some ⟨b1, o1, none⟩) n ca, .slice (some ⟨b2, o2, none⟩) n cb] w fun e w' => e = .returned (.bool true) ∧ Below w.heap.size w w' := by
  have HC1 := Lib.hid hc1
  have HC2 := Lib.hid hc2
  have HL := Lib.hid hl
  clear hc1 hc2 hl
  go_enter Try.func15, Try.ntmps15
  go_wp2
  go_loopw [5] (fun i wr => ∃ (k d : Nat), k ≤ n ∧ i = .int .i64 k ∧ wr = w.drewN d) (fun i _ => n - (intOf i).toNat)
  case atStart => exact ⟨0, 0, by omega, rfl, rfl⟩
  case round =>
    obtain ⟨k, d, hk, rfl, rfl⟩ := hrel
    by_cases hlt : k < n
    · have hkl : k < es.length := by rw [HL.out]; exact hlt
      have hki : (k : Int) < (n : Int) := by omega
      obtain ⟨g0, g1, g2, g3⟩ := HC1.out k hkl
      obtain ⟨h0, h1, h2, h3⟩ := HC2.out k hkl
      obtain ⟨E, hE⟩ : ∃ E, E = es[k] := ⟨_, rfl⟩
      rw [← hE] at g0 g1 g2 g3 h0 h1 h2 h3
      obtain ⟨ek, evl, eg, eq⟩ := E
      clear hE
      go_wp2
      go_quiet (fail)
      go_wp2
      go_roundw
      case rel => exact ⟨k + 1, _, by omega, by go_num, rfl⟩
      case measure => simp [intOf]; omega
    · obtain rfl : k = n := by omega
      go_wp2
      go_ret
      exact ⟨rfl, below_drewN (Below.refl _ _) _⟩
theorem samee_any (a b : Option Addr) (n ca cb : Nat) (es : List Ent) (w : World) (ha : RdE w a es) (hb : RdE w b es) (hn : n < 9223372036854775808) (hl : es.length = n) :
    Calls Try.prog 15 #[.slice a n ca, .slice b n cb] w fun e w' => e = .returned (.bool true) ∧ Below w.heap.size w w' := by
  by_cases h0 : es = []
  · subst h0
    subst hl
    exact samee_none a b ca cb w
  · obtain ⟨b1, o1, rfl, _, hc1⟩ := ha.resolve_left h0
    obtain ⟨b2, o2, rfl, _, hc2⟩ := hb.resolve_left h0
    exact samee_some b1 o1 b2 o2 n ca cb es w hn hl hc1 hc2
end Go.Proofs.Ytdpinkipcaolhaa
