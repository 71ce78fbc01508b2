/-
  Layer 16 (post): a way by what its number and its text do. Conditions: as each says.
-/
import Derived.Test.YtdnhmkfgcpdbkaaTb
import Derived.Test.YtdnhmkfgcpdbkaaQm
import Derived.Lib.Hide
import Derived.Handy
import Derived.Deep.Cut
namespace Go.Proofs.Ytdnhmkfgcpdbkaa
open Go.RowKit
set_option linter.unusedVariables false
set_option linter.unusedSimpArgs false

/-- What a way does, plainly: with a number (least, most, it), with a text; ok: none of it was more than the way can. -/
structure Way (σ : Type) where
  num : σ → Int → Int → Int → σ × Int
  txt : σ → ByteArray → σ × ByteArray
  ok : σ → Prop
  mono : ∀ s lo hi x, ok (num s lo hi x).1 → ok s
  monot : ∀ s t, ok (txt s t).1 → ok s
/-- The way W lies in block b, its dynamic type is D: its state is told by At; G: nothing is ever stored. -/
structure WayAt {σ : Type} (W : Way σ) (D b B : Nat) (G : Prop) (At : World → σ → Prop) : Prop where
  gnum : G → ∀ s lo hi x, (W.num s lo hi x).2 = x
  gtxt : G → ∀ s t, (W.txt s t).2 = t
  rng : ∀ s lo hi x, (W.num s lo hi x).2 = x ∨ (lo ≤ (W.num s lo hi x).2 ∧ (W.num s lo hi x).2 ≤ hi)
  old : ∀ w w' s, At w s → Below w.heap.size w w' → At w' s
  set : ∀ w s p (o : Nat) v, At w s → Loc G b B w p → At (w.setCell ⟨p, o, none⟩ v) s
  nah : ∀ k w, (nilAhead (k + 1) D (.pointer (some ⟨b, 0, none⟩)) "sorrel/post.number").run Try.prog w = .ok (some false) w
  lt : ∀ w s, At w s → b < w.heap.size ∧ B ≤ w.heap.size
  num : ∃ f r, (∀ k w, (method (k + 1) D (.pointer (some ⟨b, 0, none⟩)) "sorrel/post.number").run Try.prog w = .ok (f, r) w) ∧ (∀ args w, (callFunc f args).run Try.prog w = .ok (.enter f args) w) ∧
    ∀ w s p o lo hi x, At w s → Loc G b B w p → w.cell? ⟨p, o, none⟩ = some (.int .i64 x) → W.ok (W.num s lo hi x).1 → Calls Try.prog f #[r, .pointer (some ⟨p, o, none⟩), .int .i64 lo, .int .i64 hi] w fun e w' => e = .returned (.tuple #[]) ∧ At w' (W.num s lo hi x).1 ∧ KB b B (w.setCell ⟨p, o, none⟩ (.int .i64 (W.num s lo hi x).2)) w'
  txt : ∃ f r, (∀ k w, (method (k + 1) D (.pointer (some ⟨b, 0, none⟩)) "sorrel/post.text").run Try.prog w = .ok (f, r) w) ∧ (∀ args w, (callFunc f args).run Try.prog w = .ok (.enter f args) w) ∧
    ∀ w s p o t, At w s → Loc G b B w p → w.cell? ⟨p, o, none⟩ = some (.string t) → W.ok (W.txt s t).1 → Calls Try.prog f #[r, .pointer (some ⟨p, o, none⟩)] w fun e w' => e = .returned (.tuple #[]) ∧ At w' (W.txt s t).1 ∧ KB b B (w.setCell ⟨p, o, none⟩ (.string (W.txt s t).2)) w'
section
variable {σ : Type} {W : Way σ} {D b B : Nat} {G : Prop} {At : World → σ → Prop}
def flagW (W : Way σ) (s : σ) (x : Bool) : σ × Bool := ((W.num s 0 1 (if x = true then 1 else 0)).1, decide ((W.num s 0 1 (if x = true then 1 else 0)).2 = 1))
theorem Loc.le {G : Prop} {b B x : Nat} {w : World} (h : Loc G b B w x) (hg : ¬ G) : B ≤ x := by
  obtain ⟨_, _, h | h⟩ := h
  · exact absurd h.2 hg
  · exact h.1
set_option maxRecDepth 100000 in
theorem tflag_any (H : WayAt W D b B G At) (w : World) (s : σ) (p o : Nat) (x : Bool) (h : At w s) (hp : Loc G b B w p) (hx : w.cell? ⟨p, o, none⟩ = some (.bool x)) (hok : W.ok (flagW W s x).1) :
    Calls Try.prog 31 #[.iface D (.pointer (some ⟨b, 0, none⟩)), .pointer (some ⟨p, o, none⟩)] w fun e w' => e = .returned (.tuple #[]) ∧ At w' (flagW W s x).1 ∧ KB b B (w.setCell ⟨p, o, none⟩ (.bool (flagW W s x).2)) w' := by
  obtain ⟨f, r, hm0, hcf, hn⟩ := H.num
  have hm : ∀ w, (method 274 D (.pointer (some ⟨b, 0, none⟩)) "sorrel/post.number").run Try.prog w = .ok (f, r) w := hm0 273
  clear hm0
  have HH := Lib.hid H
  obtain ⟨hbl, hBl⟩ := H.lt w s h
  have hpl := hp.2.1
  have HP := Lib.hid hp
  obtain ⟨z, hz⟩ : ∃ z : Int, z = if x = true then 1 else 0 := ⟨_, rfl⟩
  obtain ⟨s', z', ht⟩ : ∃ s' z', W.num s 0 1 z = (s', z') := ⟨_, _, rfl⟩
  have hfl : flagW W s x = (s', decide (z' = 1)) := by unfold flagW; rw [← hz, ht]
  rw [hfl] at hok ⊢
  have HG : Hid (G → decide (z' = 1) = x) := Lib.hid fun hG => by
    have := H.gnum hG s 0 1 z
    rw [ht] at this
    rw [show z' = z from this, hz]
    cases x <;> simp
  have hN1 : ∀ z0 : Value, Below w.heap.size w (w.alloc (.cells #[z0] 3)) := fun z0 => (Below.refl _ w).alloc (Nat.le_refl _) _
  have HC : Hid (Calls Try.prog f #[r, .pointer (some ⟨w.heap.size, 0, none⟩), .int .i64 0, .int .i64 1] (w.alloc (.cells #[.int .i64 z] 3)) fun e w' => e = .returned (.tuple #[]) ∧ At w' s' ∧ w'.cell? ⟨w.heap.size, 0, none⟩ = some (.int .i64 z') ∧ KB b B w w') := Lib.hid (by
    have hloc : Loc G b B (w.alloc (.cells #[.int .i64 z] 3)) w.heap.size := Loc.new hbl hBl _ _ (by decide)
    refine (hn _ s w.heap.size 0 0 1 z (H.old _ _ _ h (hN1 _)) hloc (by simp) (by rw [ht]; exact hok)).mono ?_
    rintro e w' ⟨h1, h2, h3⟩
    rw [ht] at h2 h3
    refine ⟨h1, h2, ?_, KB.trans (KB.of ((hN1 _).setCell (p := ⟨w.heap.size, 0, none⟩) (Nat.le_refl _) _) hBl) h3⟩
    rw [(hloc.set ⟨w.heap.size, 0, none⟩ (.int .i64 z')).cell h3 0]
    exact World.cell?_setCell_same' _ _ _ (by simp))
  have HPL : Hid (∀ w', KB b B w w' → w'.cell? ⟨p, o, none⟩ = some (.bool x) ∧ Loc G b B w' p) := Lib.hid fun w' hk => ⟨(hp.cell hk o).trans hx, hp.keep hk⟩
  have HS : Hid (w.setCell ⟨p, o, none⟩ (.bool x) = w) := Lib.hid (set_same hx)
  clear hn hN1 hfl ht h hok H hp
  obtain ⟨q, hq⟩ : ∃ q, q = decide (z' = 1) := ⟨_, rfl⟩
  have hzb : (z' == 1) = q := by rw [hq]; rfl
  rw [← hq] at HG ⊢
  clear hq
  cases x
  all_goals
    simp only [if_true, if_false, Bool.false_eq_true] at hz
    subst hz
    go_enter Try.func31, Try.ntmps31
    go_upto_region 3 with fail
    go_wp2_with fail
    refine HC.out.mono ?_
    rintro e w2 ⟨rfl, hat, hz, hk⟩
    obtain ⟨hc2, hl2⟩ := HPL.out w2 hk
    have hpl2 := hl2.2.1
    have hs2 := hk.size
    have HA := Lib.hid hat
    have HK := Lib.hid hk
    have HL2 := Lib.hid hl2
    clear hat hk HC HPL hl2
    cases q
  · go_wp2_with fail
    go_end0
    exact ⟨rfl, HA.out, by rw [HS.out]; exact HK.out⟩
  · have hfz := HL2.out.frozen (HP.out.le fun hg => by have := HG.out hg; cases this) o
    go_wp2_with fail
    go_end0
    exact ⟨rfl, HH.out.set _ _ _ _ _ HA.out HL2.out, HK.out.set _ _ HP.out.1⟩
  · have hfz := HL2.out.frozen (HP.out.le fun hg => by have := HG.out hg; cases this) o
    go_wp2_with fail
    go_end0
    exact ⟨rfl, HH.out.set _ _ _ _ _ HA.out HL2.out, HK.out.set _ _ HP.out.1⟩
  · go_wp2_with fail
    go_end0
    exact ⟨rfl, HA.out, by rw [HS.out]; exact HK.out⟩
end
end Go.Proofs.Ytdnhmkfgcpdbkaa
