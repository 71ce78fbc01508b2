/-
  Layer 12 (manifest): what Apply answers (plain), and a slice of tables behind a store elsewhere.
-/
import Derived.Test.YthmkalnbdocdcaaZb
namespace Go.Proofs.Ythmkalnbdocdcaa
set_option maxRecDepth 100000
open Go.RowKit
set_option linter.unusedVariables false
set_option linter.unusedSimpArgs false

/-- What Apply answers. -/
def apN (s : St) (e : Ed) : Int := if mayEd e = true then (if (appT s.1 s.2.1 s.2.2 e).isSome = true then 0 else 120) else 1
def apS (s : St) (e : Ed) : St := if mayEd e = true then (match appT s.1 s.2.1 s.2.2 e with | some L => (L, e.2.2.1, e.2.2.2) | none => ([], 0, 0)) else ([], 0, 0)
def APe (s : St) (e : Ed) (w : World) (x : Ending) (w' : World) : Prop := ∃ V, x = .returned (.tuple #[V, .int .i64 (apN s e)]) ∧ SV w' V (apS s e) ∧ Below w.heap.size w w'
theorem ap_may {s : St} {e : Ed} (h : ¬ mayEd e = true) : apN s e = 1 ∧ apS s e = ([], 0, 0) := by unfold apN apS; rw [if_neg h, if_neg h]; exact ⟨rfl, rfl⟩
theorem ap_no {s : St} {e : Ed} (h : mayEd e = true) (hn : appT s.1 s.2.1 s.2.2 e = none) : apN s e = 120 ∧ apS s e = ([], 0, 0) := by unfold apN apS; rw [if_pos h, if_pos h, hn]; exact ⟨rfl, rfl⟩
theorem ap_yes {s : St} {e : Ed} {L : List Tb} (h : mayEd e = true) (hn : appT s.1 s.2.1 s.2.2 e = some L) : apN s e = 0 ∧ apS s e = (L, e.2.2.1, e.2.2.2) := by unfold apN apS; rw [if_pos h, if_pos h, hn]; exact ⟨rfl, rfl⟩
theorem app_log {s : St} {e : Ed} (h : e.2.2.1 < s.2.1) : appT s.1 s.2.1 s.2.2 e = none := by
  unfold appT; rw [if_neg]; intro q; simp only [Bool.and_eq_true, decide_eq_true_eq] at q; omega
theorem app_next {s : St} {e : Ed} (h : e.2.2.2 < s.2.2) : appT s.1 s.2.1 s.2.2 e = none := by
  unfold appT; rw [if_neg]; intro q; simp only [Bool.and_eq_true, decide_eq_true_eq] at q; omega
theorem app_fit {s : St} {e : Ed} (h : fitT s.1 e = false) : appT s.1 s.2.1 s.2.2 e = none := by
  unfold appT; rw [if_neg]; intro q; simp [h] at q
theorem app_apt {s : St} {e : Ed} (h : ¬ Apt (nextT s.1 e)) : appT s.1 s.2.1 s.2.2 e = none := by
  unfold appT; rw [if_neg]; intro q; simp only [Bool.and_eq_true, decide_eq_true_eq] at q; exact h q.2
theorem app_all {s : St} {e : Ed} (h1 : ¬ e.2.2.1 < s.2.1) (h2 : ¬ e.2.2.2 < s.2.2) (h3 : fitT s.1 e = true) (h4 : Apt (nextT s.1 e)) : appT s.1 s.2.1 s.2.2 e = some (nextT s.1 e) := by
  unfold appT
  rw [if_pos]
  simp only [Bool.and_eq_true, decide_eq_true_eq]
  exact ⟨⟨⟨by omega, by omega⟩, h3⟩, h4⟩
theorem RdT.set {w : World} {a : Option Addr} {ts : List Tb} (h : RdT w a ts) {R i : Nat} {u : Value} (hR : ∀ y, a = some y → y.block ≠ R) : RdT (w.setCell ⟨R, i, none⟩ u) a ts := by
  rcases h with rfl | ⟨b, off, rfl, hb, hc⟩
  · exact .inl rfl
  · have hne : b ≠ R := hR _ rfl
    refine .inr ⟨b, off, rfl, by simpa [go_sem] using hb, fun k hk => ?_⟩
    obtain ⟨p0, p1, p2, p3⟩ := hc k hk
    have hne' : ¬ R = b := fun e => hne e.symm
    exact ⟨by simp [go_sem, hne, hne', p0], by simp [go_sem, hne, hne', p1], by simp [go_sem, hne, hne', p2], by simp [go_sem, hne, hne', p3]⟩
theorem ST.set {w : World} {a : Option Addr} {n cap : Nat} {ts : List Tb} (h : ST w a n cap ts) {R i : Nat} {u : Value} (hR : ∀ y, a = some y → y.block ≠ R) : ST (w.setCell ⟨R, i, none⟩ u) a n cap ts := ⟨h.1, h.2.1.set hR, h.2.2⟩
theorem own_far {w : World} {base n cap m : Nat} {t : TypeId} {a : Option Addr} {xs : List Value} (h : w.ownsRow base t 4 (.slice a n cap) m xs) : ∀ y, a = some y → base ≤ y.block := by
  intro y hy
  rcases h.2 with ⟨h1, -⟩ | ⟨g, c, cur, h1, hb, -⟩
  · injection h1 with e1; rw [hy] at e1; cases e1
  · injection h1 with e1; rw [hy] at e1; cases e1; exact hb
end Go.Proofs.Ythmkalnbdocdcaa
