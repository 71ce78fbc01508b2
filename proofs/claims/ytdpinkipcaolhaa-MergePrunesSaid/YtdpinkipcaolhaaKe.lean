/-
  Layer 9 (block), contracts of the code's each (with the closures that it is handed and that it makes) and Take. Conditions: at most 2^24 bytes.
-/
import Derived.Test.YtdpinkipcaolhaaKn
namespace Go.Proofs.Ytdpinkipcaolhaa
set_option maxRecDepth 100000
open Go.RowKit
set_option linter.unusedVariables false
set_option linter.unusedSimpArgs false

/-! ### plain -/
theorem oneB_flag {s last t : List UInt8} {n a b q c x y z d u : Nat} {v : List UInt8} (h1 : tk s 0 0 = (n, a, x)) (h2 : ttR (s.drop a) = (t, b, y)) (h3 : tk (s.drop (a + b)) 0 0 = (q, c, z)) (h4 : ttR (s.drop (a + b + c)) = (v, d, u)) :
    oneB s last = if (decide (x = 0) && decide (y = 0) && decide (z = 0) && (decide (q % 2 = 1) || decide (u = 0)) && decide (comN last (last.take n ++ t) = n)) = true then
      some ((⟨(last.take n ++ t).toArray⟩, (if q % 2 = 1 then ⟨#[]⟩ else ⟨v.toArray⟩), decide (q % 2 = 1), ((q / 2 : Nat) : Int)), a + b + c + if q % 2 = 1 then 0 else d) else none := by
  rw [oneB_eq h1 h2 h3 h4]
  have hl := (comN_le last (last.take n ++ t)).1
  by_cases hc : x = 0 ∧ n ≤ last.length ∧ y = 0 ∧ z = 0 ∧ comN last (last.take n ++ t) = n ∧ (q % 2 = 1 ∨ u = 0)
  · have hB : (decide (x = 0) && decide (y = 0) && decide (z = 0) && (decide (q % 2 = 1) || decide (u = 0)) && decide (comN last (last.take n ++ t) = n)) = true := by
      simp only [Bool.and_eq_true, decide_eq_true_eq, Bool.or_eq_true]
      exact ⟨⟨⟨⟨hc.1, hc.2.2.1⟩, hc.2.2.2.1⟩, hc.2.2.2.2.2⟩, hc.2.2.2.2.1⟩
    rw [if_pos hc, hB]
    by_cases hq : q % 2 = 1
    · simp [hq]
    · simp [hq]
  · have hB : (decide (x = 0) && decide (y = 0) && decide (z = 0) && (decide (q % 2 = 1) || decide (u = 0)) && decide (comN last (last.take n ++ t) = n)) = false := by
      cases hb : (decide (x = 0) && decide (y = 0) && decide (z = 0) && (decide (q % 2 = 1) || decide (u = 0)) && decide (comN last (last.take n ++ t) = n)) with
      | false => rfl
      | true =>
        simp only [Bool.and_eq_true, decide_eq_true_eq, Bool.or_eq_true] at hb
        obtain ⟨⟨⟨⟨k1, k2⟩, k3⟩, k4⟩, k5⟩ := hb
        exact absurd ⟨k1, by omega, k2, k3, k5, k4⟩ hc
    rw [if_neg hc, hB]
    rfl
def restB (n : Nat) (X : List UInt8) (p : Ent) : Option (List Ent) := match manyB n X p.1.data.toList with
  | some (fs, []) => if chainE p fs = true then some fs else none
  | _ => none
theorem restB_zero (X : List UInt8) (p : Ent) : restB 0 X p = if X = [] then some [] else none := by
  unfold restB manyB
  cases X <;> simp [chainE]
theorem restB_no {n : Nat} {X : List UInt8} {p : Ent} (h : oneB X p.1.data.toList = none) : restB (n + 1) X p = none := by
  unfold restB
  rw [manyB_no h]
theorem restB_bad {n : Nat} {X : List UInt8} {p e : Ent} {k : Nat} (h : oneB X p.1.data.toList = some (e, k)) (hf : (mayE e && lessE p e) = false) : restB (n + 1) X p = none := by
  unfold restB
  rw [manyB_ok h]
  cases hm : manyB n (X.drop k) e.1.data.toList with
  | none => rfl
  | some r =>
    obtain ⟨fs, r⟩ := r
    cases r with
    | nil => simp [chainE, hf]
    | cons _ _ => rfl
theorem restB_ok {n : Nat} {X : List UInt8} {p e : Ent} {k : Nat} (h : oneB X p.1.data.toList = some (e, k)) (hf : (mayE e && lessE p e) = true) : restB (n + 1) X p = (restB n (X.drop k) e).map (e :: ·) := by
  unfold restB
  rw [manyB_ok h]
  cases hm : manyB n (X.drop k) e.1.data.toList with
  | none => rfl
  | some r =>
    obtain ⟨fs, r⟩ := r
    cases r with
    | nil =>
      simp only [Option.map_some, chainE, hf, Bool.true_and]
      cases chainE e fs <;> rfl
    | cons _ _ => rfl
theorem partB_rest {t : List UInt8} {n a : Nat} (h : tk t 0 0 = (n, a, 0)) (hn : n ≤ 4096) : partB t = restB n (t.drop a) zE := by
  unfold partB restB
  rw [h]
  simp only [hn, and_self, if_true]
  rfl
theorem map_app (ts : List Ent) (e : Ent) (o : Option (List Ent)) : (o.map (e :: ·)).map (ts ++ ·) = o.map ((ts ++ [e]) ++ ·) := by
  cases o <;> simp

/-! ### the closure that keeps an entry -/
theorem Try.infoEnt9 : (Try.prog.info? 37).map (fun i => (i.zero, i.size, i.bytes)) = some (some (.agg #[.string ⟨#[]⟩, .string ⟨#[]⟩, .bool false, .int .i64 0]), 4, 48) := by kernel_rfl
/-- The entries so far, in a variable's block. -/
def TS (base T0 : Nat) (w : World) (ts : List Ent) (v : Value) : Prop :=
  w.cell? ⟨T0, 0, none⟩ = some v ∧ w.frozen? ⟨T0, 0, none⟩ = false ∧ T0 < base ∧ base ≤ w.heap.size ∧ w.ownsRow base 37 4 v ts.length (ev4 ts)
def TX (T0 : Nat) (v : Value) (y : Nat) : Prop := y = T0 ∨ v.ownBlock = some y
theorem own_keep {w w' : World} {base size n : Nat} {t : TypeId} {v : Value} {xs : List Value} {X : Nat → Prop} (h : w.ownsRow base t size v n xs) (hk : KeepX X w w') (hx : ∀ g, v.ownBlock = some g → ¬ X g) : w'.ownsRow base t size v n xs := by
  rcases h.2 with h2 | ⟨g, cap, cur, hv, hbg, hh, h3⟩
  · exact ⟨h.1, .inl h2⟩
  · exact ⟨h.1, .inr ⟨g, cap, cur, hv, hbg, (hk.1 g (heap_lt hh) (hx g (by rw [hv]; rfl))).trans hh, h3⟩⟩
theorem TS.keep {base T0 : Nat} {w w' : World} {ts : List Ent} {v : Value} {X : Nat → Prop} (h : TS base T0 w ts v) (hk : KeepX X w w') (hT : ¬ X T0) (hx : ∀ g, base ≤ g → ¬ X g) : TS base T0 w' ts v := by
  obtain ⟨h1, h2, h3, h4, h5⟩ := h
  have hc := hk.cell (y := T0) (by omega) hT 0
  exact ⟨hc.1.trans h1, hc.2.trans h2, h3, Nat.le_trans h4 hk.2, own_keep h5 hk fun g hg => hx g (h5.lt g hg).1⟩
theorem TS.old {base T0 : Nat} {w w' : World} {ts : List Ent} {v : Value} (h : TS base T0 w ts v) (hb : Below w.heap.size w w') : TS base T0 w' ts v := h.keep (X := fun _ => False) (KeepX.of hb) id (fun _ _ => id)
end Go.Proofs.Ytdpinkipcaolhaa
