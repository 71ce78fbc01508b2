/-
  Texts of mine as one, in the order in which they build: Qn, Mk, Ms, My, Mv, Mq. Conditions: as each says.
-/
import Derived.Test.YtdpinkipcaolhaaQm
import Derived.RangeFuncCalls
import Derived.RangeFuncWrites
import Derived.OrdersIn
import Derived.Deep.QuietTactic
import Derived.BigQuiet
import Derived.Below
import Derived.RangeFuncNested
import Derived.RangeFuncBound
import Derived.RangeFuncLeaves
import Derived.Shelf.Abstract
import Derived.Shelf.RegionOpen
import Derived.WalkKit
import Derived.OwnWalkIn
import Derived.TacticsInMore
import Derived.LoopNIn
import Derived.LoopIn
import Derived.Deep.CutBlock
import Derived.Sort.QuietIn
import Derived.Test.YtdpinkipcaolhaaQJ
import Derived.Maps.AppendAt
import Derived.Laws.EntriesVeiled
import Derived.Test.YtdpinkipcaolhaaRows
import Derived.Shelf.SlicesQ.IndexFunc
import Derived.Shelf.SlSortCmp.NoneTotal
import Derived.Shelf.SortM.Plain
import Derived.Shelf.SortM.SortNone
import Derived.Shelf.SlicesG.SearchI
namespace Go.Proofs.Ytdpinkipcaolhaa
open Go.RowKit

section
variable {P : Program} {ops : Array Oper} {md : Region.Mode} {D : World → Prop} {Q : Exit → Act → World → Prop} {z : Nat}
def noDefer (o : Oper) : Bool := match o.op with | .defer _ => false | _ => true
theorem noDefer_spec {o : Oper} (h : noDefer o = true) : ∀ c, o.op ≠ .defer c := by
  intro c e
  unfold noDefer at h
  rw [e] at h
  cases h
theorem wpIn_of_wp11 {l n : Nat} {o : Oper} {a : Act} {w : World} {K : Act → World → Prop} (hd : ∀ c, o.op ≠ .defer c) (h : o.wp P a w K NoEx) : o.wpIn (Fence.wide.inRound l) n P a w K Q := by
  unfold Oper.wp at h
  unfold Oper.wpIn
  rw [Oper.semAt_eq _ _ _ hd]
  refine ⟨fun _ _ => trivial, ?_⟩
  generalize (execOp a.eval o).run P w = r at *
  cases r with
  | ok x w' =>
    cases x with
    | enter f args =>
      simp only [Oper.upon] at h
      simp only [Oper.uponIn]
      refine ⟨fun h => absurd (show (none : Option Nat).isSome = true from h) (by decide), ((callsIn_wide.2 h).inRound l).mono fun e w'' he => ?_⟩
      cases e with
      | returned v => exact he
      | panicked c => exact he.elim
      | outgrown => obtain ⟨_, _, hf⟩ := he; exact hf.elim
    | row r args =>
      simp only [Oper.upon] at h
      simp only [Oper.uponIn]
      exact ⟨fun h => absurd (show (none : Option Nat).isSome = true from h) (by decide), fun c cs _ => let ⟨v, w', r, s⟩ := h c cs; ⟨v, w', r, (stepsIn_wide (P := P)).2 s⟩⟩
    | value v => simp only [Oper.upon, Oper.uponIn] at h ⊢; exact h
    | skip => simp only [Oper.upon, Oper.uponIn] at h ⊢; exact h
    | defer d => simp only [Oper.upon, Oper.uponIn] at h ⊢; exact h
    | _ => simp only [Oper.upon] at h
  | halt x w' => cases x <;> simp only [Oper.upon] at h <;> exact h.elim
theorem opM_wpIn {l n : Nat} (hnd : ∀ o ∈ ops, noDefer o = true) {i : Nat} {a : Act} {w : World} {K : Act → World → Prop} (h : opM P ops i K a w) : wpOpIn (Fence.wide.inRound l) n P ops Q i K a w := by
  unfold opM at h
  unfold wpOpIn
  split
  · rename_i e; simp only [e] at h; exact h
  · rename_i o e
    simp only [e] at h
    split
    · rename_i c; simp only [c, if_true] at h; exact wpIn_of_wp11 (noDefer_spec (hnd o (Array.mem_of_getElem? e))) h
    · rename_i c; simp only [c] at h; exact ⟨fun _ _ => trivial, h⟩
theorem anyM_anyIn {l n : Nat} (hnd : ∀ o ∈ ops, noDefer o = true) : ∀ (f : Nat) (t : Array Bool) (a : Act) (w : World), AnyM P md ops D Q z f t a w → wpAnyIn (Fence.wide.inRound l) n P md ops Q f t a w
  | 0, _, _, _, h => h
  | f + 1, _, _, _, h => ⟨h.1, fun i hi => opM_wpIn hnd (opM_mono (fun a' w' h' => anyM_anyIn hnd f _ a' w' h'.2) (h.2 i hi))⟩
/-- hd: the calm operations' numbers, in an order that may be; tl: the loud ones'. -/
theorem mixed_round {id l0 n : Nat} {a : Act} {w : World} {l : List Oper} (hd tl : List Nat) (z : Nat) (hm : P.follows .mixedOrders = true) (hB : mixB .any l.toArray z hd tl = true) (hi : ((hd ++ tl).all fun i => decide (i < l.length)) = true) (hnd : l.all noDefer = true) (hD : D w.drew)
    (h : wpCalm P l.toArray D (fun a' => wpLoud P l.toArray D Q (tl.filterMap (l[·]?)) a' w.drew) (hd.filterMap (l[·]?)) a) : (Code.region id l.toArray true).wpIn (Fence.wide.inRound l0) n P Q a w := by
  simp only [mixB, Bool.and_eq_true, decide_eq_true_eq] at hB
  obtain ⟨⟨⟨⟨⟨h1, h2⟩, h3⟩, h4⟩, h5⟩, h6⟩ := hB
  rw [List.all_eq_true] at hi
  have hlt : ∀ i ∈ hd ++ tl, i < l.length := fun i hh => by simpa using hi i hh
  obtain ⟨e1, e2⟩ := get_map l hd fun i hh => hlt i (by simp [hh])
  obtain ⟨e3, e4⟩ := get_map l tl fun i hh => hlt i (by simp [hh])
  have hz : ∀ j (h : j < tl.length), j + 1 = tl.length → tl[j] = z := fun j hj e => by
    rw [List.getLast?_eq_getElem?, List.getElem?_eq_getElem (by omega)] at h4
    have : tl.length - 1 = j := by omega
    simp only [this] at h4
    exact Option.some.inj h4
  have hnd' : ∀ o ∈ l.toArray, noDefer o = true := fun o ho => List.all_eq_true.1 hnd o (by simpa using ho)
  refine wpIn_region_any hm ?_
  have H := headL (md := .any) h1 (fun o ho => by
    have := Array.all_eq_true_iff_forall_mem.1 h2 o ho
    simpa using this) tl _ e3 e4 hz hD hd _ (Array.replicate l.toArray.size false) a e1 e2 h6 h
  rw [h3] at H
  exact anyM_anyIn hnd' _ _ _ _ H
variable {C : World → Prop}
theorem wpOpIn_of_qOp {l n : Nat} (hnd : ∀ o ∈ ops, noDefer o = true) {i : Nat} {a : Act} {K : Act → Prop} {K' : Act → World → Prop} {w : World} (hC : C w) (h : ∀ a w', C w' → K a → K' a w') (hh : qOp P ops C i K a) : wpOpIn (Fence.wide.inRound l) n P ops Q i K' a w := by
  unfold qOp at hh
  unfold wpOpIn
  split
  · rename_i ho; simp only [ho] at hh; exact h _ _ hC hh
  · rename_i o ho
    simp only [ho] at hh
    split
    · rename_i hw; simp only [hw, if_true] at hh; exact wpIn_of_wp11 (noDefer_spec (hnd o (Array.mem_of_getElem? ho))) (Oper.wp_of_quiet hC h hh)
    · rename_i hw; simp only [hw] at hh; exact ⟨fun _ _ => trivial, h _ _ hC hh⟩
theorem wpAnyIn_of_quiet {l n : Nat} (hnd : ∀ o ∈ ops, noDefer o = true) {Q0 : Act → Prop} (hQ : ∀ a w, C w → Q0 a → Q .normal a w) : ∀ (fuel : Nat) (listed : Array Bool) (a : Act) (w : World), C w → wpAnyQ P md ops C Q0 fuel listed a → wpAnyIn (Fence.wide.inRound l) n P md ops Q fuel listed a w
  | 0, _, _, _, hw, h => ⟨h.1, hQ _ _ hw h.2⟩
  | fuel + 1, _, _, _, hw, h => ⟨fun h0 => hQ _ _ hw (h.1 h0), fun i hi => wpOpIn_of_qOp hnd hw (fun a' w' hw' => wpAnyIn_of_quiet hnd hQ fuel _ a' w' hw') (h.2 i hi)⟩
theorem round_quiet {id l0 n : Nat} {a : Act} {w : World} {l : List Oper} (hm : P.follows .mixedOrders = true) (hB : Region.lexB .any l.toArray = true) (hnd : l.all noDefer = true) (hC : C { w with drawn := w.drawn + 1 })
    (h : wpQuiet P l.toArray C (fun a' => ∀ w', C w' → Q .normal a' w') l a) : (Code.region id l.toArray true).wpIn (Fence.wide.inRound l0) n P Q a w := by
  simp only [Region.lexB, Bool.and_eq_true] at hB
  have hnd' : ∀ o ∈ l.toArray, noDefer o = true := fun o ho => List.all_eq_true.1 hnd o (by simpa using ho)
  refine wpIn_region_any hm (wpAnyIn_of_quiet hnd' (Q0 := fun a' => ∀ w', C w' → Q .normal a' w') (fun _ w' hw' h => h w' hw') _ _ _ _ hC ?_)
  have := wpAnyQ_lex (C := C) (md := .any) hB.1 l.toArray.toList 0 (Array.replicate l.toArray.size false) a (by simp) (by simpa using hB.2) (by simpa using h)
  simpa using this
theorem round_quiet_lit {id l0 n : Nat} {a : Act} {w : World} {l : List Oper} (hm : P.follows .mixedOrders = true) (hB : Region.lexB .any l.toArray = true) (hnd : l.all noDefer = true)
    (h : wpQuiet P l.toArray (fun w' => ∃ n, w' = w.drewN n) (fun a' => ∀ w', (∃ n, w' = w.drewN n) → Q .normal a' w') l a) : (Code.region id l.toArray true).wpIn (Fence.wide.inRound l0) n P Q a w :=
  round_quiet (C := fun w' => ∃ n, w' = w.drewN n) hm hB hnd ⟨1, rfl⟩ h
theorem round_below {id l0 n : Nat} {a : Act} {w : World} {l : List Oper} (hm : P.follows .mixedOrders = true) (hB : Region.lexB .any l.toArray = true) (hnd : l.all noDefer = true)
    (h : wpQuiet P l.toArray (fun w' => Below w.heap.size w w') (fun a' => ∀ w', Below w.heap.size w w' → Q .normal a' w') l a) : (Code.region id l.toArray true).wpIn (Fence.wide.inRound l0) n P Q a w :=
  round_quiet (C := fun w' => Below w.heap.size w w') hm hB hnd ⟨rfl, rfl, rfl, Nat.le_refl _, fun _ _ => rfl⟩ h
end
end Go.Proofs.Ytdpinkipcaolhaa
namespace Go.Proofs.Ytdpinkipcaolhaa
open Go.RowKit Go.Shelf
set_option linter.unusedVariables false
set_option linter.unusedSimpArgs false
attribute [local go_sem] Oper.semAt_some

theorem grown_of_below11 {w w' : World} (h : Below w.heap.size w w') : w.grownBy w' none := ⟨h.os, h.tape, h.output, h.size, fun k hk _ => h.block k hk⟩
theorem abides_below11 {β : Type} {B : Nat} {J : β → World → Prop} (h : AbidesFrom B J) {s : β} {w w' : World} (hj : J s w) (hb : Below w.heap.size w w') : J s w' := h s w w' none hj (grown_of_below11 hb) (fun r e => by cases e)
/-- How many entries a list begins with that have the key of its first one. -/
def runN : List Ent → Nat
  | [] => 0
  | e :: r => 1 + (r.takeWhile fun x => x.1.toList == e.1.toList).length
theorem runN_le (l : List Ent) : runN l ≤ l.length := by
  cases l with
  | nil => exact Nat.le_refl _
  | cons e r =>
    have := (List.takeWhile_prefix (fun x : Ent => x.1.toList == e.1.toList) (l := r)).length_le
    simp only [runN, List.length_cons]
    omega
theorem runN_pos {l : List Ent} (h : 0 < l.length) : 0 < runN l := by
  cases l with
  | nil => cases h
  | cons e r => simp only [runN]; omega
theorem takeWhile_take {α : Type} (p : α → Bool) : ∀ (l : List α) (k : Nat), k ≤ l.length → (∀ j (h : j < l.length), j < k → p l[j] = true) → k ≤ (l.takeWhile p).length
  | [], k, hk, _ => by simpa using hk
  | x :: l, 0, _, _ => Nat.zero_le _
  | x :: l, k + 1, hk, h => by
    have hx := h 0 (by simp) (by omega)
    simp only [List.getElem_cons_zero] at hx
    rw [List.takeWhile_cons_of_pos hx, List.length_cons]
    have := takeWhile_take p l k (by simpa using hk) (fun j hj hjk => by have := h (j + 1) (by simpa using hj) (by omega); simpa using this)
    omega
theorem takeWhile_stop {α : Type} (p : α → Bool) : ∀ (l : List α) (k : Nat) (hk : k < l.length), p l[k] = false → (l.takeWhile p).length ≤ k
  | [], k, hk, _ => by cases hk
  | x :: l, 0, _, h => by
    simp only [List.getElem_cons_zero] at h
    rw [List.takeWhile_cons_of_neg (by rw [h]; simp)]
    exact Nat.le_refl _
  | x :: l, k + 1, hk, h => by
    have ih := takeWhile_stop p l k (by simpa using hk) (by simpa using h)
    cases hx : p x with
    | false => rw [List.takeWhile_cons_of_neg (by rw [hx]; simp)]; exact Nat.zero_le _
    | true => rw [List.takeWhile_cons_of_pos hx, List.length_cons]; omega
theorem runN_at {l : List Ent} {n : Nat} (h0 : 0 < n) (hn : n ≤ l.length) (hs : ∀ j (h : j < l.length), j < n → l[j].1 = (l[0]'(by omega)).1) (hx : ∀ h : n < l.length, ¬ l[n].1 = (l[0]'(by omega)).1) : runN l = n := by
  cases l with
  | nil => simp at hn; omega
  | cons e r =>
    obtain ⟨m, rfl⟩ : ∃ m, n = m + 1 := ⟨n - 1, by omega⟩
    have a1 := takeWhile_take (fun x : Ent => x.1.toList == e.1.toList) r m (by simpa using hn) (fun j hj hjm => likeK_iff.2 (by have := hs (j + 1) (by simpa using hj) (by omega); simpa using this))
    have a2 : (r.takeWhile fun x => x.1.toList == e.1.toList).length ≤ m := by
      by_cases hl : m < r.length
      · exact takeWhile_stop _ r m hl (str_ne (by have := hx (by simpa using hl); simpa using this))
      · have := (List.takeWhile_prefix (fun x : Ent => x.1.toList == e.1.toList) (l := r)).length_le
        omega
    simp only [runN]
    omega
/-- The entries of each key, each with its place. -/
def groupsE (i : Nat) (l : List Ent) : List (Nat × List Ent) :=
  if h : 0 < l.length then (i, l.take (runN l)) :: groupsE (i + runN l) (l.drop (runN l)) else []
termination_by l.length
decreasing_by
  have := runN_pos h
  rw [List.length_drop]
  omega
theorem groups_nil (i : Nat) : groupsE i [] = [] := by rw [groupsE]; simp
theorem groups_cons {i : Nat} {l : List Ent} (h : 0 < l.length) : groupsE i l = (i, l.take (runN l)) :: groupsE (i + runN l) (l.drop (runN l)) := by rw [groupsE]; simp [h]
/-- What keys tells of a list in block b. -/
def encG (b off cap : Nat) (x : Nat × List Ent) : Array Value := #[.slice (some ⟨b, off + x.1 * 4, none⟩) x.2.length (cap - x.1)]
def KeyR (J Jx : List (Nat × List Ent) → World → Prop) (all : List (Nat × List Ent)) (e : Ending) (W' : World) : Prop := (∃ v, e = .returned v) ∧ ((∃ xs, xs = all ∧ J xs W') ∨ (∃ pre, pre <+: all ∧ Jx pre W'))
set_option maxRecDepth 100000 in
set_option maxHeartbeats 4000000 in
theorem keys_in (n l B b off N cap : Nat) (a : Option Addr) (es : List Ent) (W0 : World) (hN : N ≤ 9223372036854775807) (hl : es.length = N) (hcap : N ≤ cap) (hcm : cap ≤ maxLen) (ha : 0 < N → a = some ⟨b, off, none⟩) (hb : 0 < N → b < W0.heap.size) (hc : EAt W0 b off es) (hrd : RdE W0 a es) (hok : okV es)
    (J Jx : List (Nat × List Ent) → World → Prop) (hJ : ∀ pre (w w' : World), J pre w → Below w.heap.size w w' → J pre w')
    (all : List (Nat × List Ent)) (hall : all = if okB es = true then groupsE 0 es else [])
    (hY : ∀ pre x W1, J pre W1 → pre ++ [x] <+: all → YieldAt Fence.wide (n - 1) Try.prog l (encG b off cap x) W1 fun e W' =>
      (e = .returned (.bool true) ∧ J (pre ++ [x]) W' ∧ Below W0.heap.size W1 W') ∨ (e = .returned (.bool false) ∧ Jx (pre ++ [x]) W'))
    (W : World) (hW : Below W0.heap.size W0 W) (h1 : W.cell? ⟨B, 0, none⟩ = some (.slice a N cap)) (h0 : J [] W) :
    CallsIn Fence.wide n Try.prog 47 #[.func (.yield l) #[] #[], .pointer (some ⟨B, 0, none⟩)] W (KeyR J Jx all) := by
  obtain ⟨q, hq⟩ : ∃ q, okB es = q := ⟨_, rfl⟩
  have CC := Lib.hid (fun W1 (h : Below W0.heap.size W0 W1) => chk9_any a N cap es W1 hN hl (hrd.old h) hok q hq)
  have hB := cell_lt h1
  dsimp only at hB
  have HC := Lib.hid hc
  have HL := Lib.hid hl
  have HQ := Lib.hid hq
  have HA := Lib.hid hall
  have HJ := Lib.hid hJ
  have H0 := Lib.hid h0
  have HW := Lib.hid hW
  have HY := Lib.hid hY
  clear hc hl hq hall hJ h0 hW hY hrd hok
  cases q with
  | false =>
    unfold chkV at CC
    refine callsIn_of_wp Try.func47 rfl trivial ?_ rfl
    simp only [Try.ntmps47, List.size_toArray, List.length_cons, List.length_nil, Nat.reduceAdd, Nat.reduceSub, Array.replicate_succ, Array.replicate_zero, List.push_toArray, List.append_toArray, List.nil_append, List.cons_append]
    gi_wp2_with ((first | (refine ⟨trivial, (fun h => absurd h (by decide)), ?_⟩) | (refine ⟨trivial, ?_⟩)); gi_at_call 42; refine (callsIn_wide.2 (CC.out _ HW.out)).mono ?_; rintro e W1 ⟨rfl, b1⟩; have h1' := (b1.cell (p := ⟨B, 0, none⟩) hB).trans h1; have hB' := Nat.lt_of_lt_of_le hB b1.size)
    refine bodyPost_ret (results_none rfl _ _ _) rfl ?_
    exact ⟨⟨_, rfl⟩, .inl ⟨[], by rw [HA.out, HQ.out]; simp, HJ.out _ _ _ H0.out b1⟩⟩
  | true =>
    unfold chkV at CC
    have hA : all = groupsE 0 es := by rw [HA.out, HQ.out]; simp
    subst hA
    refine callsIn_of_wp Try.func47 rfl trivial ?_ rfl
    simp only [Try.ntmps47, List.size_toArray, List.length_cons, List.length_nil, Nat.reduceAdd, Nat.reduceSub, Array.replicate_succ, Array.replicate_zero, List.push_toArray, List.append_toArray, List.nil_append, List.cons_append]
    gi_wp2_with ((first | (refine ⟨trivial, (fun h => absurd h (by decide)), ?_⟩) | (refine ⟨trivial, ?_⟩)); gi_at_call 42; refine (callsIn_wide.2 (CC.out _ HW.out)).mono ?_; rintro e W1 ⟨rfl, b1⟩; have h1' := (b1.cell (p := ⟨B, 0, none⟩) hB).trans h1; have hB' := Nat.lt_of_lt_of_le hB b1.size)
    have HW1 := Lib.hid (HW.out.trans (b1.mono HW.out.size))
    have HJ1 := Lib.hid (HJ.out _ _ _ H0.out b1)
    clear b1 h1 H0 h1'
    gi_loopw [3, 4] (fun v u wr => ∃ (i : Nat) (ra : Option Addr) (pre : List (Nat × List Ent)), v = .slice ra (N - i) (cap - i) ∧ i ≤ N ∧ (i < N → ra = some ⟨b, off + i * 4, none⟩) ∧ Hid (groupsE 0 es = pre ++ groupsE i (es.drop i)) ∧ Hid (J pre wr) ∧ Hid (Below W0.heap.size W0 wr)) (fun v _ _ => match v with | .slice _ m _ => m | _ => 0)
    case atStart => exact ⟨0, a, [], rfl, Nat.zero_le _, fun h => by rw [ha h]; simp, Lib.hid rfl, HJ1, HW1⟩
    case round =>
      obtain ⟨i, ra, pre, rfl, hi, hra, HG, HJr, HWr⟩ := hrel
      by_cases hlt : i < N
      · obtain rfl := hra hlt
        have hbw := hb (by omega)
        have hmi : N - i ≤ 9223372036854775807 := by omega
        have hil : i < es.length := by rw [HL.out]; exact hlt
        have HRL : Hid ((es.drop i).length = N - i) := Lib.hid (by rw [List.length_drop, HL.out])
        obtain ⟨M, hM⟩ : ∃ M, M = N - i := ⟨_, rfl⟩
        obtain ⟨C, hC⟩ : ∃ C, C = cap - i := ⟨_, rfl⟩
        have hMC : M ≤ C := by omega
        have hM0 : 0 < M := by omega
        have hCm : C ≤ maxLen := by omega
        obtain ⟨o, ho⟩ : ∃ o, o = off + i * 4 := ⟨_, rfl⟩
        rw [← hM] at HRL hmi
        rw [← hM, ← hC, ← ho]
        have HAT : Hid (EAt wr b o (es.drop i)) := Lib.hid (by rw [ho]; exact (HC.out.drop i).old hbw HWr.out)
        have hbr : b < wr.heap.size := Nat.lt_of_lt_of_le hbw HWr.out.size
        have HO := Lib.hid ho
        have HM := Lib.hid (And.intro hM hC)
        clear hra hM hC ho
        obtain ⟨r, hr⟩ : ∃ r, r = es.drop i := ⟨_, rfl⟩
        rw [← hr] at HAT HRL
        have HR := Lib.hid hr
        have hr0 : 0 < r.length := by rw [HRL.out]; exact hM0
        obtain ⟨z0, -, -, -⟩ := HAT.out 0 hr0
        obtain ⟨ky, hky⟩ : ∃ ky, ky = r[0].1 := ⟨_, rfl⟩
        rw [← hky, Nat.zero_mul, Nat.add_zero] at z0
        have HK := Lib.hid (show ∀ h : 0 < r.length, ky = r[0].1 from fun _ => hky)
        have HR0 := Lib.hid hr0
        clear hr hky hr0
        have hMi : (M : Int) ≤ 9223372036854775807 := by omega
        gi_wp2
        gi_loopw [4] (fun v w2 => ∃ (k d : Nat), v = .int .i64 k ∧ 0 < k ∧ k ≤ M ∧ Hid (∀ j (h : j < r.length), j < k → r[j].1 = ky) ∧ w2 = wr.drewN d) (fun v _ => M - (intOf v).toNat)
        case atStart => exact ⟨1, 0, rfl, by omega, by omega, Lib.hid (fun j h hj => by have hj0 : j = 0 := (by omega); subst hj0; exact (HK.out _).symm), rfl⟩
        case round =>
          obtain ⟨k, d, rfl, hk0, hk, HS, rfl⟩ := hrel
          by_cases hlk : k < M
          · have hkl : k < r.length := by rw [HRL.out]; exact hlk
            obtain ⟨c0, -, -, -⟩ := HAT.out k hkl
            have hki : (k : Int) < (M : Int) := by omega
            have hsn : r[k].1 = ky → ∀ j (h : j < r.length), j < k + 1 → r[j].1 = ky := fun hf j h hj => by
              by_cases e : j = k
              · subst e; exact hf
              · exact HS.out j h (by omega)
            obtain ⟨kk, hkk⟩ : ∃ kk, kk = r[k].1 := ⟨_, rfl⟩
            rw [← hkk] at c0 hsn
            have HKK := Lib.hid (show ∀ h : k < r.length, kk = r[k].1 from fun _ => hkk)
            clear hkk hkl
            by_cases heq : kk = ky
            · subst heq
              have HSN := Lib.hid (hsn rfl)
              have hbe : (kk.toList == kk.toList) = true := by simp
              clear hsn
              gi_wp2
              gi_quiet (fail)
              gi_wp2
              go_roundw
              case rel => exact ⟨k + 1, _, by go_num, by omega, by omega, HSN, rfl⟩
              case measure => simp [intOf]; omega
            · have hbe : (kk.toList == ky.toList) = false := str_ne heq
              have HNE := Lib.hid heq
              clear hsn heq
              gi_wp2
              gi_quiet (fail)
              generalize hW2 : (wr.drewN d).drewN nq = W2
              have b2 : Below wr.heap.size wr W2 := by rw [← hW2]; exact below_drewN (below_drewN (Below.refl _ _) _) _
              have HRN : Hid (runN r = k) := Lib.hid (runN_at hk0 (by rw [HRL.out]; exact hk) (fun j h hj => (HS.out j h hj).trans (HK.out _)) (fun h => by rw [← HKK.out h, ← HK.out]; exact HNE.out))
              obtain ⟨g, hg⟩ : ∃ g, g = r.take k := ⟨_, rfl⟩
              obtain ⟨nx, hnx⟩ : ∃ nx, nx = i + k := ⟨_, rfl⟩
              have HX : Hid (groupsE i r = (i, g) :: groupsE nx (es.drop nx)) := Lib.hid (by
                rw [groups_cons HR0.out, HRN.out, hg, hnx]
                congr 2
                rw [HR.out, List.drop_drop])
              have HNX := Lib.hid hnx
              have hj0 := HJ.out _ _ _ HJr.out b2
              obtain ⟨fn, tmps, assign, body, hy, hR⟩ := HY.out pre (i, g) _ hj0 ⟨groupsE nx (es.drop nx), by rw [HG.out, ← HR.out, HX.out]; simp⟩
              have htk : g.length = k := by rw [hg, List.length_take, HRL.out]; omega
              dsimp only [encG] at hy
              rw [htk, ← HO.out, ← HM.out.2] at hy
              clear htk hj0 hW2 HS hg hnx
              by_cases hcap : C = k
              · obtain rfl : M = k := by omega
                subst hcap
                gi_wp2
                refine ⟨fun h => absurd h (by decide), hR.mono ?_⟩
                rintro e W3 (⟨rfl, hJ3, hk3⟩ | ⟨rfl, hJx3⟩)
                · have HJ3 := Lib.hid hJ3
                  have HW3 := Lib.hid ((HWr.out.trans (b2.mono HWr.out.size)).trans hk3)
                  clear hJ3 hk3 hR
                  gi_wp2
                  go_roundw
                  case rel => exact ⟨nx, _, pre ++ [(i, g)], by have := HM.out; have := HNX.out; congr 1 <;> omega, by have := HNX.out; have := HM.out; omega, fun h => by have := HM.out; have := HNX.out; omega, Lib.hid (by rw [HG.out, ← HR.out, HX.out]; simp), HJ3, HW3⟩
                  case measure => have := HM.out; have := HNX.out; simp; omega
                · gi_wp2
                  refine bodyPost_ret (results_none rfl _ _ _) rfl ?_
                  exact ⟨⟨_, rfl⟩, .inr ⟨pre ++ [(i, g)], ⟨groupsE nx (es.drop nx), by rw [HG.out, ← HR.out, HX.out]; simp⟩, hJx3⟩⟩
              · have hcap2 : ¬ k = C := fun h => hcap h.symm
                gi_wp2
                refine ⟨fun h => absurd h (by decide), hR.mono ?_⟩
                rintro e W3 (⟨rfl, hJ3, hk3⟩ | ⟨rfl, hJx3⟩)
                · have HJ3 := Lib.hid hJ3
                  have HW3 := Lib.hid ((HWr.out.trans (b2.mono HWr.out.size)).trans hk3)
                  clear hJ3 hk3 hR
                  gi_wp2
                  go_roundw
                  case rel => exact ⟨nx, _, pre ++ [(i, g)], by have := HM.out; have := HNX.out; congr 1 <;> omega, by have := HNX.out; have := HM.out; omega, fun h => by rw [HO.out, HNX.out, Nat.add_mul, Nat.add_assoc], Lib.hid (by rw [HG.out, ← HR.out, HX.out]; simp), HJ3, HW3⟩
                  case measure => have := HM.out; have := HNX.out; simp; omega
                · gi_wp2
                  refine bodyPost_ret (results_none rfl _ _ _) rfl ?_
                  exact ⟨⟨_, rfl⟩, .inr ⟨pre ++ [(i, g)], ⟨groupsE nx (es.drop nx), by rw [HG.out, ← HR.out, HX.out]; simp⟩, hJx3⟩⟩
          · obtain rfl : k = M := by omega
            gi_wp2
            gi_quiet (fail)
            generalize hW2 : (wr.drewN d).drewN nq = W2
            have b2 : Below wr.heap.size wr W2 := by rw [← hW2]; exact below_drewN (below_drewN (Below.refl _ _) _) _
            have HRN : Hid (runN r = k) := Lib.hid (runN_at hk0 (by rw [HRL.out]; exact hk) (fun j h hj => (HS.out j h hj).trans (HK.out _)) (fun h => absurd h (by rw [HRL.out]; exact Nat.lt_irrefl _)))
            obtain ⟨g, hg⟩ : ∃ g, g = r.take k := ⟨_, rfl⟩
            obtain ⟨nx, hnx⟩ : ∃ nx, nx = i + k := ⟨_, rfl⟩
            have HX : Hid (groupsE i r = (i, g) :: groupsE nx (es.drop nx)) := Lib.hid (by
              rw [groups_cons HR0.out, HRN.out, hg, hnx]
              congr 2
              rw [HR.out, List.drop_drop])
            have HNX := Lib.hid hnx
            have hj0 := HJ.out _ _ _ HJr.out b2
            obtain ⟨fn, tmps, assign, body, hy, hR⟩ := HY.out pre (i, g) _ hj0 ⟨groupsE nx (es.drop nx), by rw [HG.out, ← HR.out, HX.out]; simp⟩
            have htk : g.length = k := by rw [hg, List.length_take, HRL.out]; omega
            dsimp only [encG] at hy
            rw [htk, ← HO.out, ← HM.out.2] at hy
            clear htk hj0 hW2 HS hg hnx
            by_cases hcap : C = k
            · skip
              subst hcap
              gi_wp2
              refine ⟨fun h => absurd h (by decide), hR.mono ?_⟩
              rintro e W3 (⟨rfl, hJ3, hk3⟩ | ⟨rfl, hJx3⟩)
              · have HJ3 := Lib.hid hJ3
                have HW3 := Lib.hid ((HWr.out.trans (b2.mono HWr.out.size)).trans hk3)
                clear hJ3 hk3 hR
                gi_wp2
                go_roundw
                case rel => exact ⟨nx, _, pre ++ [(i, g)], by have := HM.out; have := HNX.out; congr 1 <;> omega, by have := HNX.out; have := HM.out; omega, fun h => by have := HM.out; have := HNX.out; omega, Lib.hid (by rw [HG.out, ← HR.out, HX.out]; simp), HJ3, HW3⟩
                case measure => have := HM.out; have := HNX.out; simp; omega
              · gi_wp2
                refine bodyPost_ret (results_none rfl _ _ _) rfl ?_
                exact ⟨⟨_, rfl⟩, .inr ⟨pre ++ [(i, g)], ⟨groupsE nx (es.drop nx), by rw [HG.out, ← HR.out, HX.out]; simp⟩, hJx3⟩⟩
            · have hcap2 : ¬ k = C := fun h => hcap h.symm
              gi_wp2
              refine ⟨fun h => absurd h (by decide), hR.mono ?_⟩
              rintro e W3 (⟨rfl, hJ3, hk3⟩ | ⟨rfl, hJx3⟩)
              · have HJ3 := Lib.hid hJ3
                have HW3 := Lib.hid ((HWr.out.trans (b2.mono HWr.out.size)).trans hk3)
                clear hJ3 hk3 hR
                gi_wp2
                go_roundw
                case rel => exact ⟨nx, _, pre ++ [(i, g)], by have := HM.out; have := HNX.out; congr 1 <;> omega, by have := HNX.out; have := HM.out; omega, fun h => by rw [HO.out, HNX.out, Nat.add_mul, Nat.add_assoc], Lib.hid (by rw [HG.out, ← HR.out, HX.out]; simp), HJ3, HW3⟩
                case measure => have := HM.out; have := HNX.out; simp; omega
              · gi_wp2
                refine bodyPost_ret (results_none rfl _ _ _) rfl ?_
                exact ⟨⟨_, rfl⟩, .inr ⟨pre ++ [(i, g)], ⟨groupsE nx (es.drop nx), by rw [HG.out, ← HR.out, HX.out]; simp⟩, hJx3⟩⟩
      · obtain rfl : i = N := by omega
        have HE : Hid (groupsE 0 es = pre) := Lib.hid (by
          have := HG.out
          rw [show es.drop i = [] from List.drop_eq_nil_of_le (by rw [HL.out]; omega), groups_nil, List.append_nil] at this
          exact this)
        rw [Nat.sub_self]
        clear HG
        gi_wp2
        refine bodyPost_ret (results_none rfl _ _ _) rfl ?_
        exact ⟨⟨_, rfl⟩, .inl ⟨_, HE.out.symm, HJr.out⟩⟩
/-- One key's entries of a list, with their place. -/
def GrpP (es : List Ent) (x : Nat × List Ent) : Prop := x.1 + x.2.length ≤ es.length ∧ x.2 = (es.drop x.1).take x.2.length ∧ 0 < x.2.length ∧ ∀ e ∈ x.2, ∀ h : 0 < x.2.length, e.1 = x.2[0].1
abbrev GrpOf (es : List Ent) := { x : Nat × List Ent // GrpP es x }
theorem takeWhile_all {α : Type} (p : α → Bool) : ∀ (l : List α), ∀ x ∈ l.takeWhile p, p x = true
  | [], x, h => by simp at h
  | y :: l, x, h => by
    cases hy : p y with
    | false => rw [List.takeWhile_cons_of_neg (by rw [hy]; simp)] at h; simp at h
    | true =>
      rw [List.takeWhile_cons_of_pos hy] at h
      rcases List.mem_cons.1 h with rfl | h
      · exact hy
      · exact takeWhile_all p l x h
theorem run_same (l : List Ent) : ∀ e ∈ l.take (runN l), ∀ h : 0 < l.length, e.1 = l[0].1 := by
  intro e he h
  cases l with
  | nil => cases h
  | cons y r =>
    have hp := (List.takeWhile_prefix (fun x : Ent => x.1.toList == y.1.toList) (l := r))
    have ht : (y :: r).take (runN (y :: r)) = y :: r.takeWhile (fun x => x.1.toList == y.1.toList) := by
      simp only [runN]
      rw [Nat.add_comm, List.take_succ_cons, ← List.prefix_iff_eq_take.1 hp]
    rw [ht] at he
    rcases List.mem_cons.1 he with rfl | he
    · rfl
    · have := takeWhile_all (fun x : Ent => x.1.toList == y.1.toList) r e he
      exact likeK_iff.1 this
theorem groups_grp (es : List Ent) : ∀ (m i : Nat), (es.drop i).length ≤ m → ∀ x ∈ groupsE i (es.drop i), GrpP es x
  | m, i, hm, x, hx => by
    by_cases h : 0 < (es.drop i).length
    · rw [groups_cons h] at hx
      have hr := runN_pos h
      have hle := runN_le (es.drop i)
      have hll := List.length_drop (i := i) (l := es)
      have hlt : ((es.drop i).take (runN (es.drop i))).length = runN (es.drop i) := by rw [List.length_take]; omega
      rcases List.mem_cons.1 hx with rfl | hx
      · refine ⟨?_, ?_, ?_, ?_⟩
        · simp only; rw [hlt]; omega
        · simp only; rw [hlt]
        · simp only; rw [hlt]; exact hr
        · simp only
          intro e he h0
          rw [List.getElem_take]
          exact run_same _ e he h
      · rw [List.drop_drop] at hx
        cases m with
        | zero => omega
        | succ m => exact groups_grp es m (i + runN (es.drop i)) (by rw [List.length_drop] at *; omega) x hx
    · rw [show es.drop i = [] from List.eq_nil_of_length_eq_zero (by omega), groups_nil] at hx
      simp at hx
/-- What keys goes over. -/
def allG (es : List Ent) : List (Nat × List Ent) := if okB es = true then groupsE 0 es else []
theorem allG_grp {es : List Ent} {x : Nat × List Ent} (h : x ∈ allG es) : GrpP es x := by
  unfold allG at h
  split at h
  · exact groups_grp es es.length 0 (by simp) x (by simpa using h)
  · simp at h
theorem keys_any (v : Value) (hv : ∃ a n c, v = .slice a n c) (w : World) :
    Calls Try.prog 33 #[v] w fun e w' => e = .returned (.func (.func 47) #[] #[.pointer (some ⟨w.heap.size, 0, none⟩)]) ∧ w' = w.alloc (.cells #[v] 22) := by
  obtain ⟨a, n, c, rfl⟩ := hv
  go_enter Try.func33, Try.ntmps33
  go_wp2
  go_ret
  exact ⟨rfl, rfl⟩
/-- keys' value, as an iterator. -/
theorem keys_stops (n B b off N cap : Nat) (a : Option Addr) (es : List Ent) (W0 w : World) (hN : N ≤ 9223372036854775807) (hl : es.length = N) (hcap : N ≤ cap) (hcm : cap ≤ maxLen) (ha : 0 < N → a = some ⟨b, off, none⟩) (hb : 0 < N → b < W0.heap.size) (hc : EAt W0 b off es) (hrd : RdE W0 a es) (hok : okV es)
    (hw : Below W0.heap.size W0 w) (h1 : w.cell? ⟨B, 0, none⟩ = some (.slice a N cap)) :
    SeqStopsK Fence.wide n Try.prog 47 #[.pointer (some ⟨B, 0, none⟩)] (fun x : GrpOf es => encG b off cap x.1) (Below W0.heap.size) (fun ys => ys.map (·.1) = allG es) (fun pre => pre.map (·.1) <+: allG es) (allG es).length w := by
  intro l J Jx W hW hJ hJx hY h0
  have lt1 := cell_lt h1
  refine (keys_in n l B b off N cap a es W0 hN hl hcap hcm ha hb hc hrd hok (fun pre W => ∃ p : List (GrpOf es), p.map (·.1) = pre ∧ J p W) (fun pre W => ∃ p : List (GrpOf es), p.map (·.1) = pre ∧ Jx p W)
    (fun pre w w' ⟨p, e, hj⟩ hb => ⟨p, e, abides_below11 hJ hj hb⟩) (allG es) rfl ?_ W (hw.trans (hW.mono hw.size)) ((hW.cell (p := ⟨B, 0, none⟩) lt1).trans h1) ⟨[], rfl, h0⟩).mono ?_
  · rintro pre x W1 ⟨p, rfl, hj⟩ hpre
    have hx : x ∈ allG es := by
      obtain ⟨t, ht⟩ := hpre
      rw [← ht]; simp
    have hlen : p.length < (allG es).length := by
      have := hpre.length_le
      simp at this
      omega
    refine (hY p ⟨x, allG_grp hx⟩ W1 hj hlen).mono ?_
    rintro e W' (⟨rfl, hj', hk⟩ | ⟨rfl, hj'⟩)
    · exact .inl ⟨rfl, ⟨p ++ [⟨x, allG_grp hx⟩], by simp, hj'⟩, hk⟩
    · exact .inr ⟨rfl, ⟨p ++ [⟨x, allG_grp hx⟩], by simp, hj'⟩⟩
  · rintro e W' ⟨he, h | h⟩
    · obtain ⟨xs, rfl, p, hp, hj⟩ := h
      exact ⟨he, .inl ⟨p, hp, hj⟩⟩
    · obtain ⟨pre, hpre, p, rfl, hj⟩ := h
      exact ⟨he, .inr ⟨p, hpre, hj⟩⟩
end Go.Proofs.Ytdpinkipcaolhaa
namespace Go.Proofs.Ytdpinkipcaolhaa
open Go.RowKit Go.Shelf
set_option linter.unusedVariables false
set_option linter.unusedSimpArgs false
attribute [local go_sem] Oper.semAt_some

theorem keepsO_below {W W' : World} (h : Below W.heap.size W W') : KeepsOthers W W' := KeepsOthers.of_grownBy (grown_of_below11 h) (fun j o e => by cases e)
theorem boxed_below {W W' : World} {B : Nat} {t : TypeId} {v : Value} (hv : Boxed W B t v) (h : Below W.heap.size W W') : Boxed W' B t v := hv.kept (grown_of_below11 h) (by simp)
/-- The entry by which a key was changed last, behind a number. -/
def sinG (at_ : Int) (g : List Ent) : List Ent := match g with | [] => [] | e :: _ => if at_ < e.2.2.2 then [e] else []
def sinA (at_ : Int) (xs : List (Nat × List Ent)) : List Ent := xs.flatMap fun x => sinG at_ x.2
theorem sinA_snoc (at_ : Int) (xs : List (Nat × List Ent)) (x : Nat × List Ent) : sinA at_ (xs ++ [x]) = sinA at_ xs ++ sinG at_ x.2 := by simp [sinA]
theorem sinA_le (at_ : Int) (xs : List (Nat × List Ent)) : (sinA at_ xs).length ≤ xs.length := by
  induction xs with
  | nil => exact Nat.le_refl _
  | cons x xs ih =>
    have h : sinA at_ (x :: xs) = sinG at_ x.2 ++ sinA at_ xs := rfl
    rw [h, List.length_append, List.length_cons]
    have : (sinG at_ x.2).length ≤ 1 := by
      unfold sinG
      split
      · exact Nat.zero_le _
      · split <;> simp
    omega
theorem groups_len (l : List Ent) : ∀ (m i : Nat), l.length ≤ m → (groupsE i l).length ≤ l.length := by
  intro m
  induction m generalizing l with
  | zero => intro i h; rw [List.eq_nil_of_length_eq_zero (Nat.le_zero.1 h), groups_nil]; exact Nat.le_refl _
  | succ m ih =>
    intro i h
    by_cases h0 : 0 < l.length
    · rw [groups_cons h0, List.length_cons]
      have hr := runN_pos h0
      have hle := runN_le l
      have := ih (l.drop (runN l)) (i + runN l) (by rw [List.length_drop]; omega)
      rw [List.length_drop] at this
      omega
    · rw [List.eq_nil_of_length_eq_zero (by omega : l.length = 0), groups_nil]; exact Nat.le_refl _
theorem allG_len (es : List Ent) : (allG es).length ≤ 4096 := by
  unfold allG
  split
  · rename_i h
    exact Nat.le_trans (groups_len es es.length 0 (Nat.le_refl _)) (okB_iff.1 h).1
  · exact Nat.zero_le _
theorem grp_at {W : World} {b off : Nat} {es : List Ent} (hc : EAt W b off es) (x : GrpOf es) : EAt W b (off + x.1.1 * 4) x.1.2 := by
  obtain ⟨⟨i, g⟩, h1, h2, h3, h4⟩ := x
  simp only at h1 h2 ⊢
  rw [h2]
  exact (hc.drop i).take _
set_option maxRecDepth 100000 in
set_option maxHeartbeats 4000000 in
theorem sin11_some (a : Option Addr) (n cap : Nat) (es : List Ent) (at_ : Int) (b off : Nat) (w : World) (hn : n ≤ 9223372036854775807) (hl : es.length = n) (hcap : n ≤ cap) (hcm : cap ≤ maxLen) (ha : 0 < n → a = some ⟨b, off, none⟩) (hb : 0 < n → b < w.heap.size) (hc : EAt w b off es) (hrd : RdE w a es) (hok : okV es) :
    Calls Try.prog 21 #[.slice a n cap, .int .i64 at_] w (P1 (sinA at_ (allG es)) w) := by
  obtain ⟨i0, hi0, hz0, hz1, hz2⟩ := info_parts Try.infoEnt
  have HC := Lib.hid hc
  have HL := Lib.hid hl
  have HB := Lib.hid hb
  have HA := Lib.hid ha
  have HRD := Lib.hid hrd
  have HOK := Lib.hid hok
  have HN := Lib.hid (And.intro hn (And.intro hcap hcm))
  clear hc hl hb ha hrd hok hn hcap hcm
  refine (callsIn_wide (n := 9)).1 ?_
  refine callsIn_of_wp_marks Try.func21 rfl trivial ?_ rfl
  simp only [Try.ntmps21, List.size_toArray, List.length_cons, List.length_nil, Nat.reduceAdd, Nat.reduceSub, Array.replicate_succ, Array.replicate_zero, List.push_toArray, List.append_toArray, List.nil_append, List.cons_append]
  gi_wp2_with ((refine ⟨trivial, ?_⟩); gi_at_call 33; refine (callsIn_wide.2 (keys_any _ ⟨_, _, _, rfl⟩ _)).mono ?_; rintro e w' ⟨rfl, rfl⟩)
  have b0 : Boxed (((w.alloc (.cells #[.int .i64 at_] 3)).alloc (.cells #[.slice none 0 0] 22)).alloc (.cells #[.slice a n cap] 22)) w.heap.size 3 (.int .i64 at_) := ((Boxed.new w _ _).alloc _).alloc _
  have b1 : Boxed (((w.alloc (.cells #[.int .i64 at_] 3)).alloc (.cells #[.slice none 0 0] 22)).alloc (.cells #[.slice a n cap] 22)) (w.heap.size + 1) 22 (.slice none 0 0) := by
    have h := Boxed.new (w.alloc (.cells #[.int .i64 at_] 3)) 22 (.slice none 0 0)
    rw [World.size_alloc] at h
    exact h.alloc _
  have b2 : Boxed (((w.alloc (.cells #[.int .i64 at_] 3)).alloc (.cells #[.slice none 0 0] 22)).alloc (.cells #[.slice a n cap] 22)) (w.heap.size + 2) 22 (.slice a n cap) := by
    have h := Boxed.new ((w.alloc (.cells #[.int .i64 at_] 3)).alloc (.cells #[.slice none 0 0] 22)) 22 (.slice a n cap)
    rw [World.size_alloc, World.size_alloc] at h
    exact h
  have hB : Below w.heap.size w (((w.alloc (.cells #[.int .i64 at_] 3)).alloc (.cells #[.slice none 0 0] 22)).alloc (.cells #[.slice a n cap] 22)) := (((Below.refl _ w).alloc (Nat.le_refl _) _).alloc (by simp) _).alloc (by simp; omega) _
  generalize (((w.alloc (.cells #[.int .i64 at_] 3)).alloc (.cells #[.slice none 0 0] 22)).alloc (.cells #[.slice a n cap] 22)) = W4 at *
  have hsz : w.heap.size + 2 < W4.heap.size := b2.lt
  have hst := keys_stops 8 (w.heap.size + 1 + 1) b off n cap a es w W4 HN.out.1 HL.out HN.out.2.1 HN.out.2.2 HA.out HB.out HC.out HRD.out HOK.out hB b2.cell
  refine wpIn_rangeFunc_ownG rfl (by decide) (gf := 47) (lb := #[.pointer (some ⟨w.heap.size + 1 + 1, 0, none⟩)]) rfl trivial (enters_of Try.func47 (by kernel_rfl) rfl)
    hst belowK_t (belowK_b (by omega)) (Below.refl _ _) (fun _ => rfl)
    (fun pre W => (∃ v, Boxed W (w.heap.size + 1) 22 v ∧ W.ownsRow w.heap.size 37 4 v (sinA at_ (pre.map (·.1))).length (ev4 (sinA at_ (pre.map (·.1)))) ∧ True) ∧ (Boxed W w.heap.size 3 (.int .i64 at_) ∧ Below w.heap.size w W))
    (fun c pre W => False)
    (OwnFrom.and (Own.from (holdsRow_own w.heap.size (w.heap.size + 1) 22 37 4 (fun pre : List (GrpOf es) => (sinA at_ (pre.map (·.1))).length) (fun pre => ev4 (sinA at_ (pre.map (·.1)))) (fun pre v => True)) _) (OwnFrom.and (Own.from (boxed_own w.heap.size 3 (fun _ : List (GrpOf es) => .int .i64 at_)) _) (ownFrom_below (Nat.le_refl _) (by omega))))
    (fun c => ownFrom_pure _ _)
    ⟨⟨_, b1, World.ownsRow_nil _ _ _ _, trivial⟩, b0, hB⟩
    ?a1 ?assign ?body ?done ?stop
  case assign =>
    intro l x W K hK
    unfold encG
    gi_wp2
    exact hK
  case body =>
    rintro l' pre x W ⟨⟨v, hv, hrow, -⟩, hv0, hBW⟩ hpl
    have hc1 := hv.cell
    have hc0 := hv0.cell
    have HX := Lib.hid (grp_at HC.out x)
    have hsn := sinA_snoc at_ (pre.map (·.1)) x.1
    have hmp : (pre ++ [x]).map (·.1) = pre.map (·.1) ++ [x.1] := by simp
    rw [← hmp] at hsn
    have hpn := sinA_le at_ (pre.map (·.1))
    have hal := allG_len es
    have hbw : b < w.heap.size := HB.out (by have h := x.2; have := HL.out; have h1 := h.1; have h2 := h.2.2.1; omega)
    rw [List.length_map] at hpn
    obtain ⟨m, hm⟩ : ∃ m, m = (sinA at_ (pre.map (·.1))).length := ⟨_, rfl⟩
    have hm4 : m ≤ 4096 := by omega
    have HM := Lib.hid hm
    rw [← hm] at hrow
    obtain ⟨i, hi⟩ : ∃ i, i = x.1.1 := ⟨_, rfl⟩
    obtain ⟨g, hg⟩ : ∃ g, g = x.1.2 := ⟨_, rfl⟩
    obtain ⟨c, hcc⟩ : ∃ c, c = cap - i := ⟨_, rfl⟩
    have hg0 : 0 < g.length := by rw [hg]; exact x.2.2.2.1
    have hgm : g.length ≤ maxLen := by have := x.2.1; rw [← hg] at this; have := HN.out.2.2; have := HN.out.2.1; have := HL.out; omega
    rw [← hi, ← hg] at HX
    rw [← hg] at hsn
    rw [← hi, ← hg, ← hcc]
    obtain ⟨e, r, hge⟩ : ∃ e r, g = e :: r := by cases g with | nil => simp at hg0 | cons e r => exact ⟨e, r, rfl⟩
    obtain ⟨z0, z1, z2, z3⟩ := HX.out.old hbw hBW 0 hg0
    have hz0 : g[0] = e := by subst hge; rfl
    rw [hz0] at z0 z1 z2 z3
    obtain ⟨ek, evl, eg, eq⟩ := e
    simp only [Nat.zero_mul, Nat.add_zero] at z0 z1 z2 z3
    obtain ⟨o, ho⟩ : ∃ o, o = off + i * 4 := ⟨_, rfl⟩
    rw [← ho] at z0 z1 z2 z3 ⊢
    obtain ⟨gl, hgl⟩ : ∃ gl, gl = g.length := ⟨_, rfl⟩
    rw [← hgl] at hg0 hgm ⊢
    have hsg : sinG at_ g = if at_ < eq then [(ek, evl, eg, eq)] else [] := by rw [hge]; rfl
    rw [hsg] at hsn
    have HSN := Lib.hid hsn
    have hbW : b < W.heap.size := Nat.lt_of_lt_of_le hbw hBW.size
    have hsW : w.heap.size ≤ W.heap.size := hBW.size
    clear hsn hmp hm hi hg hcc hge ho hgl hsg HX hst hpl hpn hz0
    by_cases hlt : at_ < eq
    · have HN2 := Lib.hid (show sinA at_ ((pre ++ [x]).map (·.1)) = sinA at_ (pre.map (·.1)) ++ [(ek, evl, eg, eq)] by rw [HSN.out]; simp [hlt])
      gi_wp2
      refine round_quiet_lit (by kernel_rfl) (by kernel_rfl) (by rfl) ?_
      repeat (quiet_step (fail))
      refine wpQuiet_nil ?_
      intro _ hw'
      obtain ⟨nq, hw''⟩ := hw'
      subst hw''
      gi_wp2
      have bd : Below W.heap.size W (W.drewN nq) := below_drewN (Below.refl _ _) _
      have HZ := Lib.hid (And.intro hc1 (And.intro z0 (And.intro z1 (And.intro z2 z3))))
      have HV := Lib.hid hv
      have HV0 := Lib.hid hv0
      have HRW := Lib.hid hrow
      have hBs : w.heap.size + 1 < W.heap.size := hv.lt
      clear hv hv0 hrow
      refine mixed_round (D := (fun w' => w'.cell? ⟨w.heap.size + 1, 0, none⟩ = some v ∧ w'.cell? ⟨b, o, none⟩ = some (.string ek) ∧ w'.cell? ⟨b, o + 1, none⟩ = some (.string evl) ∧ w'.cell? ⟨b, o + 2, none⟩ = some (.bool eg) ∧ w'.cell? ⟨b, o + 3, none⟩ = some (.int .i64 eq))) [0, 1, 2, 3] [4, 5, 6] 6 (by kernel_rfl) (by kernel_rfl) (by decide) (by rfl) (⟨hc1, z0, z1, z2, z3⟩) ?_
      simp only [List.filterMap_cons, List.filterMap_nil, List.getElem?_cons_zero, List.getElem?_cons_succ]
      repeat (
        (first
         | (refine calm_move _ rfl ?_)
         | (apply calm_cons
            · (intro w' hw'
               obtain ⟨hwa', hwb', hwc', hwd', hwe'⟩ := hw'
               go_simp
               first
               | done
               | exact rfl)))
        simp only [Act.put, Act.eval, List.setIfInBounds_toArray, List.set_cons_zero, List.set_cons_succ, Array.getD_eq_getD_getElem?, List.getElem?_toArray, List.getElem?_cons_zero, List.getElem?_cons_succ, Option.getD_some])
      refine calm_nil ?_
      have bd2 : Below W.heap.size W (W.drewN nq).drew := bd.drew
      generalize (W.drewN nq).drew = W2 at *
      have hW2 : W.heap.size ≤ W2.heap.size := bd2.size
      have HV2 := Lib.hid (boxed_below HV.out bd2)
      have HV02 := Lib.hid (boxed_below HV0.out bd2)
      have HRW2 := Lib.hid (below_own HRW.out bd2)
      have HZ2 : Hid (W2.cell? ⟨w.heap.size + 1, 0, none⟩ = some v ∧ W2.cell? ⟨b, o, none⟩ = some (.string ek) ∧ W2.cell? ⟨b, o + 1, none⟩ = some (.string evl) ∧ W2.cell? ⟨b, o + 2, none⟩ = some (.bool eg) ∧ W2.cell? ⟨b, o + 3, none⟩ = some (.int .i64 eq)) := Lib.hid ⟨HV2.out.cell, (bd2.cell (p := ⟨b, o, none⟩) hbW).trans HZ.out.2.1, (bd2.cell (p := ⟨b, o + 1, none⟩) hbW).trans HZ.out.2.2.1, (bd2.cell (p := ⟨b, o + 2, none⟩) hbW).trans HZ.out.2.2.2.1, (bd2.cell (p := ⟨b, o + 3, none⟩) hbW).trans HZ.out.2.2.2.2⟩
      have hb2 : b < W2.heap.size := by omega
      refine loud_cons fun K hK => ?_
      go_wp2_with fail
      have hal : Below W2.heap.size W2 (W2.alloc (.cells #[.string ek, .string evl, .bool eg, .int .i64 eq] 37)) := (Below.refl _ _).alloc (Nat.le_refl _) _
      refine hK _ _ (fun _ => ⟨(HV2.out.alloc _).cell, (hal.cell (p := ⟨b, o, none⟩) hb2).trans HZ2.out.2.1, (hal.cell (p := ⟨b, o + 1, none⟩) hb2).trans HZ2.out.2.2.1, (hal.cell (p := ⟨b, o + 2, none⟩) hb2).trans HZ2.out.2.2.2.1, (hal.cell (p := ⟨b, o + 3, none⟩) hb2).trans HZ2.out.2.2.2.2⟩) ?_
      clear hK K
      refine loud_cons fun K hK => ?_
      refine wpList_append_own _ rfl (.tmp 16) (.tmp 20) 22 rfl w.heap.size 37 i0 (.agg #[.string ⟨#[]⟩, .string ⟨#[]⟩, .bool false, .int .i64 0]) 4 48 Try.underlying22 hi0 hz0 hz1 hz2 rfl (by decide) _ _ _ rfl (HRW2.out.alloc _) ⟨W2.heap.size, 0, none⟩ 1 1 (ev (ek, evl, eg, eq)) rfl rfl ?c1 ?c2 ?c3 ?c4 ?c5 ?_
      case c1 => exact cell_new4 _ _ _ _ _ _
      case c2 => intro u hu; simp [ev] at hu; rcases hu with rfl | rfl | rfl | rfl <;> rfl
      case c3 => unfold maxLen; omega
      case c4 => omega
      case c5 => simp; omega
      intro v' w3 hown3 hgrow _
      have hsW2 : w.heap.size ≤ W2.heap.size := by omega
      have hdw := (hal.mono hsW2).grown hgrow (by simp; omega) (fun k hk => (HRW2.out.lt k hk).1)
      obtain ⟨hv1, hv2, hr2, hk2, hb3⟩ := HV2.out.appended (by decide) HRW2.out hsW2 (by omega) hown3 hgrow
      have h02 := (HV02.out.alloc (.cells #[.string ek, .string evl, .bool eg, .int .i64 eq] 37)).kept hgrow (HV02.out.not_row (by decide) HRW2.out)
      have HFIN := Lib.hid (And.intro ((keepsO_below bd2).trans hk2) (And.intro (((bd2.mono hsW).trans hb3)) (And.intro hv2 (And.intro hr2 (h02.other (show w.heap.size ≠ w.heap.size + 1 by omega) v')))))
      refine hK _ _ (fun _ => ⟨hv1.cell, (hdw.cell (p := ⟨b, o, none⟩) hbw).trans HZ2.out.2.1, (hdw.cell (p := ⟨b, o + 1, none⟩) hbw).trans HZ2.out.2.2.1, (hdw.cell (p := ⟨b, o + 2, none⟩) hbw).trans HZ2.out.2.2.2.1, (hdw.cell (p := ⟨b, o + 3, none⟩) hbw).trans HZ2.out.2.2.2.2⟩) ?_
      have hc1' := hv1.cell
      have hf1' := hv1.frozen
      obtain ⟨ga, gc, rfl⟩ := own_form hown3 (by decide)
      clear hK K hv1 hv2 hr2 hk2 hb3 h02 hdw hown3 hgrow
      refine loud_cons fun K hK => ?_
      go_wp2_with fail
      refine hK _ _ (fun h => absurd rfl h) ?_
      clear hK K
      refine loud_nil ?_
      gi_wp2
      obtain ⟨q1, q2, q3, q4, q5⟩ := HFIN.out
      refine ⟨q1.from _, q2, ⟨_, q3, ?_, trivial⟩, q5, hBW.trans q2⟩
      rw [HN2.out, List.length_append, ← HM.out, ← ev4_snoc]
      exact q4
    · have HN2 := Lib.hid (show sinA at_ ((pre ++ [x]).map (·.1)) = sinA at_ (pre.map (·.1)) by rw [HSN.out]; simp [hlt])
      gi_wp2
      refine round_quiet_lit (by kernel_rfl) (by kernel_rfl) (by rfl) ?_
      repeat (quiet_step (fail))
      refine wpQuiet_nil ?_
      intro _ hw'
      obtain ⟨nq, hw''⟩ := hw'
      subst hw''
      gi_wp2
      have bd : Below W.heap.size W (W.drewN nq) := below_drewN (Below.refl _ _) _
      refine ⟨(keepsO_below bd).from _, bd.mono hsW, ⟨v, boxed_below hv bd, ?_, trivial⟩, boxed_below hv0 bd, hBW.trans (bd.mono hsW)⟩
      rw [HN2.out, ← HM.out]
      exact below_own hrow bd
  case done =>
    rintro D ys W hD hys ⟨⟨v, hv, hrow, -⟩, hv0, hBW⟩ hK
    have hc := hv.cell
    rw [show ys.map (·.1) = allG es from hys] at hrow
    obtain ⟨ra, rc, rfl⟩ := own_form hrow (by decide)
    have hr2 := Lib.hid (ownsRow_putObj hrow (.deferred none) hK rfl)
    have HBW := Lib.hid (hBW.trans (belowK_b (w := w) (Nat.le_refl _) W D _ (.deferred none) (by omega) hK rfl rfl))
    have hKK := hK
    clear hys hst hrow hBW
    gi_wp2
    refine ⟨by simp, .inl ⟨_, _, rfl, run_takeDeferred hKK, ?_⟩⟩
    refine ⟨_, results_tmp rfl _ _ _, ?_⟩
    obtain ⟨a', c', e1, e2⟩ := own_se hr2.out rfl
    cases e1
    exact ⟨_, _, _, rfl, e2, HBW.out⟩
  case stop =>
    rintro D c pre W hD hs h hK
    exact h.elim
theorem sin11_any (a : Option Addr) (n cap : Nat) (es : List Ent) (at_ : Int) (w : World) (hn : n ≤ 9223372036854775807) (hs : SE w a n cap es) (hok : okV es) :
    Calls Try.prog 21 #[.slice a n cap, .int .i64 at_] w (P1 (sinA at_ (allG es)) w) := by
  obtain ⟨hl, hrd, hcap, hcm⟩ := hs
  obtain ⟨b, off, ha, hb, hc⟩ := hrd.at_
  rw [hl] at ha hb
  exact sin11_some a n cap es at_ b off w hn hl hcap hcm ha hb hc hrd hok
end Go.Proofs.Ytdpinkipcaolhaa
namespace Go.Proofs.Ytdpinkipcaolhaa
open Go.Shelf
def ixf_ren : Go.Shelf.Ren := ⟨fun | 6 => 34 | n => n, fun | 22 => 22 | 23 => 37 | 25 => 53 | 3 => 3 | 0 => 0 | 4 => 4 | n => n, fun | n => n⟩
theorem ixf : Go.Proofs.SlLaysH0.n6 Try.prog ixf_ren := {
  mixed := by kernel_rfl
  f6 := ⟨Try.f34.name, by decide, Try.func34.trans (congrArg some (by kernel_rfl))⟩
  t0 := Try.underlying0
  a0 := Try.isAgg0
  z0 := Try.sizeOf0
  v0 := Try.zeroValue0
  t3 := Try.underlying3
  a3 := Try.isAgg3
  z3 := Try.sizeOf3
  v3 := Try.zeroValue3
  t4 := Try.underlying4
  a4 := Try.isAgg4
  z4 := Try.sizeOf4
  v4 := Try.zeroValue4
  t22 := Try.underlying22
  a22 := Try.isAgg22
  z22 := Try.sizeOf22
  v22 := Try.zeroValue22
  t25 := Try.underlying53
  a25 := Try.isAgg53
  z25 := Try.sizeOf53
  v25 := Try.zeroValue53 }
def srt_ren : Go.Shelf.Ren := ⟨fun | 5 => 49 | 8 => 62 | 7 => 61 | 19 => 75 | 20 => 76 | 10 => 67 | 11 => 68 | 12 => 69 | 13 => 70 | 14 => 71 | 15 => 72 | 16 => 51 | 17 => 73 | 18 => 74 | 30 => 86 | 31 => 87 | 32 => 88 | 33 => 89 | 34 => 90 | 35 => 63 | 40 => 94 | n => n, fun | 23 => 44 | 25 => 3 | 3 => 3 | 32 => 78 | 22 => 44 | 0 => 0 | 44 => 97 | 46 => 99 | 4 => 4 | 36 => 91 | 35 => 90 | 41 => 63 | 5 => 5 | 9 => 9 | 53 => 105 | 57 => 109 | 63 => 113 | 64 => 114 | n => n, fun | n => n⟩
theorem srt : Go.Proofs.SlLaysM.n5 Try.prog srt_ren := {
  mixed := by kernel_rfl
  f5 := ⟨Try.f49.name, by decide, Try.func49.trans (congrArg some (by kernel_rfl))⟩
  f7 := ⟨Try.f61.name, by decide, Try.func61.trans (congrArg some (by kernel_rfl))⟩
  f8 := Try.func62.trans (congrArg some (by kernel_rfl))
  f10 := ⟨Try.f67.name, by decide, Try.func67.trans (congrArg some (by kernel_rfl))⟩
  f11 := ⟨Try.f68.name, by decide, Try.func68.trans (congrArg some (by kernel_rfl))⟩
  f12 := ⟨Try.f69.name, by decide, Try.func69.trans (congrArg some (by kernel_rfl))⟩
  f13 := ⟨Try.f70.name, by decide, Try.func70.trans (congrArg some (by kernel_rfl))⟩
  f14 := ⟨Try.f71.name, by decide, Try.func71.trans (congrArg some (by kernel_rfl))⟩
  f15 := ⟨Try.f72.name, by decide, Try.func72.trans (congrArg some (by kernel_rfl))⟩
  f16 := ⟨Try.f51.name, by decide, Try.func51.trans (congrArg some (by kernel_rfl))⟩
  f17 := ⟨Try.f73.name, by decide, Try.func73.trans (congrArg some (by kernel_rfl))⟩
  f18 := ⟨Try.f74.name, by decide, Try.func74.trans (congrArg some (by kernel_rfl))⟩
  f19 := Try.func75.trans (congrArg some (by kernel_rfl))
  f20 := Try.func76.trans (congrArg some (by kernel_rfl))
  f30 := ⟨Try.f86.name, by decide, Try.func86.trans (congrArg some (by kernel_rfl))⟩
  f31 := Try.func87.trans (congrArg some (by kernel_rfl))
  f32 := Try.func88.trans (congrArg some (by kernel_rfl))
  f33 := ⟨Try.f89.name, by decide, Try.func89.trans (congrArg some (by kernel_rfl))⟩
  f34 := ⟨Try.f90.name, by decide, Try.func90.trans (congrArg some (by kernel_rfl))⟩
  f35 := ⟨Try.f63.name, by decide, Try.func63.trans (congrArg some (by kernel_rfl))⟩
  f40 := ⟨Try.f94.name, by decide, Try.func94.trans (congrArg some (by kernel_rfl))⟩
  t0 := Try.underlying0
  a0 := Try.isAgg0
  z0 := Try.sizeOf0
  v0 := Try.zeroValue0
  t3 := Try.underlying3
  a3 := Try.isAgg3
  z3 := Try.sizeOf3
  v3 := Try.zeroValue3
  t4 := Try.underlying4
  a4 := Try.isAgg4
  z4 := Try.sizeOf4
  v4 := Try.zeroValue4
  t5 := Try.underlying5
  a5 := Try.isAgg5
  z5 := Try.sizeOf5
  v5 := Try.zeroValue5
  t9 := Try.underlying9
  a9 := Try.isAgg9
  z9 := Try.sizeOf9
  v9 := Try.zeroValue9
  t22 := Try.underlying44
  a22 := Try.isAgg44
  z22 := Try.sizeOf44
  v22 := Try.zeroValue44
  t23 := Try.underlying44
  a23 := Try.isAgg44
  z23 := Try.sizeOf44
  v23 := Try.zeroValue44
  t25 := Try.underlying3
  a25 := Try.isAgg3
  z25 := Try.sizeOf3
  v25 := Try.zeroValue3
  t32 := Try.underlying78
  a32 := Try.isAgg78
  z32 := Try.sizeOf78
  v32 := Try.zeroValue78
  t35 := Try.underlying90
  a35 := Try.isAgg90
  z35 := Try.sizeOf90
  v35 := Try.zeroValue90
  t36 := Try.underlying91
  a36 := Try.isAgg91
  z36 := Try.sizeOf91
  v36 := Try.zeroValue91
  t41 := Try.underlying63
  a41 := Try.isAgg63
  z41 := Try.sizeOf63
  v41 := Try.zeroValue63
  t44 := Try.underlying97
  a44 := Try.isAgg97
  z44 := Try.sizeOf97
  v44 := Try.zeroValue97
  t46 := Try.underlying99
  a46 := Try.isAgg99
  z46 := Try.sizeOf99
  v46 := Try.zeroValue99
  t53 := Try.underlying105
  a53 := Try.isAgg105
  z53 := Try.sizeOf105
  v53 := Try.zeroValue105
  t57 := Try.underlying109
  a57 := Try.isAgg109
  z57 := Try.sizeOf109
  v57 := Try.zeroValue109
  t63 := Try.underlying113
  a63 := Try.isAgg113
  z63 := Try.sizeOf113
  v63 := Try.zeroValue113
  t64 := Try.underlying114
  a64 := Try.isAgg114
  z64 := Try.sizeOf114
  v64 := Try.zeroValue114 }
def sfn_ren : Go.Shelf.Ren := ⟨fun | 6 => 57 | 15 => 62 | 14 => 66 | 28 => 75 | 29 => 76 | 20 => 78 | 21 => 79 | 22 => 80 | 23 => 81 | 24 => 82 | 25 => 83 | 26 => 84 | 27 => 85 | 46 => 91 | 47 => 87 | 48 => 88 | 49 => 92 | 50 => 93 | 57 => 95 | n => n, fun | 22 => 22 | 24 => 37 | 25 => 75 | 3 => 3 | 39 => 78 | 0 => 0 | 53 => 97 | 55 => 99 | 4 => 4 | 46 => 91 | 45 => 90 | 50 => 63 | 5 => 5 | 9 => 9 | 66 => 105 | 70 => 109 | 76 => 113 | 77 => 114 | n => n, fun | n => n⟩
theorem sfn : Go.Proofs.SlLaysF0.n6 Try.prog sfn_ren := {
  mixed := by kernel_rfl
  f6 := ⟨Try.f57.name, by decide, Try.func57.trans (congrArg some (by kernel_rfl))⟩
  f14 := ⟨Try.f66.name, by decide, Try.func66.trans (congrArg some (by kernel_rfl))⟩
  f15 := Try.func62.trans (congrArg some (by kernel_rfl))
  f20 := ⟨Try.f78.name, by decide, Try.func78.trans (congrArg some (by kernel_rfl))⟩
  f21 := ⟨Try.f79.name, by decide, Try.func79.trans (congrArg some (by kernel_rfl))⟩
  f22 := ⟨Try.f80.name, by decide, Try.func80.trans (congrArg some (by kernel_rfl))⟩
  f23 := ⟨Try.f81.name, by decide, Try.func81.trans (congrArg some (by kernel_rfl))⟩
  f24 := ⟨Try.f82.name, by decide, Try.func82.trans (congrArg some (by kernel_rfl))⟩
  f25 := ⟨Try.f83.name, by decide, Try.func83.trans (congrArg some (by kernel_rfl))⟩
  f26 := ⟨Try.f84.name, by decide, Try.func84.trans (congrArg some (by kernel_rfl))⟩
  f27 := ⟨Try.f85.name, by decide, Try.func85.trans (congrArg some (by kernel_rfl))⟩
  f28 := Try.func75.trans (congrArg some (by kernel_rfl))
  f29 := Try.func76.trans (congrArg some (by kernel_rfl))
  f46 := ⟨Try.f91.name, by decide, Try.func91.trans (congrArg some (by kernel_rfl))⟩
  f47 := Try.func87.trans (congrArg some (by kernel_rfl))
  f48 := Try.func88.trans (congrArg some (by kernel_rfl))
  f49 := ⟨Try.f92.name, by decide, Try.func92.trans (congrArg some (by kernel_rfl))⟩
  f50 := ⟨Try.f93.name, by decide, Try.func93.trans (congrArg some (by kernel_rfl))⟩
  f57 := ⟨Try.f95.name, by decide, Try.func95.trans (congrArg some (by kernel_rfl))⟩
  t0 := Try.underlying0
  a0 := Try.isAgg0
  z0 := Try.sizeOf0
  v0 := Try.zeroValue0
  t3 := Try.underlying3
  a3 := Try.isAgg3
  z3 := Try.sizeOf3
  v3 := Try.zeroValue3
  t4 := Try.underlying4
  a4 := Try.isAgg4
  z4 := Try.sizeOf4
  v4 := Try.zeroValue4
  t5 := Try.underlying5
  a5 := Try.isAgg5
  z5 := Try.sizeOf5
  v5 := Try.zeroValue5
  t9 := Try.underlying9
  a9 := Try.isAgg9
  z9 := Try.sizeOf9
  v9 := Try.zeroValue9
  t22 := Try.underlying22
  a22 := Try.isAgg22
  z22 := Try.sizeOf22
  v22 := Try.zeroValue22
  t25 := Try.underlying75
  a25 := Try.isAgg75
  z25 := Try.sizeOf75
  v25 := Try.zeroValue75
  t39 := Try.underlying78
  a39 := Try.isAgg78
  z39 := Try.sizeOf78
  v39 := Try.zeroValue78
  t45 := Try.underlying90
  a45 := Try.isAgg90
  z45 := Try.sizeOf90
  v45 := Try.zeroValue90
  t46 := Try.underlying91
  a46 := Try.isAgg91
  z46 := Try.sizeOf91
  v46 := Try.zeroValue91
  t50 := Try.underlying63
  a50 := Try.isAgg63
  z50 := Try.sizeOf63
  v50 := Try.zeroValue63
  t53 := Try.underlying97
  a53 := Try.isAgg97
  z53 := Try.sizeOf97
  v53 := Try.zeroValue97
  t55 := Try.underlying99
  a55 := Try.isAgg99
  z55 := Try.sizeOf99
  v55 := Try.zeroValue99
  t66 := Try.underlying105
  a66 := Try.isAgg105
  z66 := Try.sizeOf105
  v66 := Try.zeroValue105
  t70 := Try.underlying109
  a70 := Try.isAgg109
  z70 := Try.sizeOf109
  v70 := Try.zeroValue109
  t76 := Try.underlying113
  a76 := Try.isAgg113
  z76 := Try.sizeOf113
  v76 := Try.zeroValue113
  t77 := Try.underlying114
  a77 := Try.isAgg114
  z77 := Try.sizeOf114
  v77 := Try.zeroValue114 }
def bsr_ren : Go.Shelf.Ren := ⟨fun | 49 => 39 | 59 => 51 | 60 => 52 | 68 => 63 | n => n, fun | 22 => 44 | 23 => 3 | 3 => 3 | 4 => 4 | 51 => 78 | 0 => 0 | n => n, fun | n => n⟩
theorem bsr : Go.Proofs.SlLaysN.n49 Try.prog bsr_ren := {
  mixed := by kernel_rfl
  f49 := ⟨Try.f39.name, by decide, Try.func39.trans (congrArg some (by kernel_rfl))⟩
  f59 := ⟨Try.f51.name, by decide, Try.func51.trans (congrArg some (by kernel_rfl))⟩
  f60 := ⟨Try.f52.name, by decide, Try.func52.trans (congrArg some (by kernel_rfl))⟩
  f68 := ⟨Try.f63.name, by decide, Try.func63.trans (congrArg some (by kernel_rfl))⟩
  t0 := Try.underlying0
  a0 := Try.isAgg0
  z0 := Try.sizeOf0
  v0 := Try.zeroValue0
  t3 := Try.underlying3
  a3 := Try.isAgg3
  z3 := Try.sizeOf3
  v3 := Try.zeroValue3
  t4 := Try.underlying4
  a4 := Try.isAgg4
  z4 := Try.sizeOf4
  v4 := Try.zeroValue4
  t22 := Try.underlying44
  a22 := Try.isAgg44
  z22 := Try.sizeOf44
  v22 := Try.zeroValue44
  t23 := Try.underlying3
  a23 := Try.isAgg3
  z23 := Try.sizeOf3
  v23 := Try.zeroValue3
  t51 := Try.underlying78
  a51 := Try.isAgg78
  z51 := Try.sizeOf78
  v51 := Try.zeroValue78 }
end Go.Proofs.Ytdpinkipcaolhaa
namespace Go.Proofs.Ytdpinkipcaolhaa
open Go.RowKit Go.Shelf
set_option linter.unusedVariables false
set_option linter.unusedSimpArgs false
attribute [local go_sem] Oper.semAt_some

theorem idx_ways (p : Ent → Bool) : ∀ (g : List Ent) (i : Nat), (Lib.idxByFrom (fun _ y => p y) default g i = -1 ∧ ∀ e ∈ g, p e = false) ∨ (∃ j, ∃ h : j < g.length, Lib.idxByFrom (fun _ y => p y) default g i = ((i + j : Nat) : Int) ∧ p g[j] = true ∧ ∀ m (h : m < g.length), m < j → p g[m] = false)
  | [], i => .inl ⟨rfl, fun e h => by simp at h⟩
  | e :: r, i => by
    cases he : p e with
    | true => exact .inr ⟨0, by simp, by simp [Lib.idxByFrom, he], by simpa using he, fun m _ hm => by omega⟩
    | false =>
      have hx : Lib.idxByFrom (fun _ y => p y) default (e :: r) i = Lib.idxByFrom (fun _ y => p y) default r (i + 1) := by simp [Lib.idxByFrom, he]
      rw [hx]
      rcases idx_ways p r (i + 1) with ⟨h1, h2⟩ | ⟨j, hj, h1, h2, h3⟩
      · exact .inl ⟨h1, fun x hx => by rcases List.mem_cons.1 hx with rfl | hx; exact he; exact h2 x hx⟩
      · refine .inr ⟨j + 1, by simpa using hj, by rw [h1]; congr 1; omega, by simpa using h2, fun m hm hmj => ?_⟩
        cases m with
        | zero => simpa using he
        | succ m => have := h3 m (by simpa using hm) (by omega); simpa using this
def seenP (at_ : Int) (e : Ent) : Bool := decide (e.2.2.2 ≤ at_)
/-- The pair of a key that is there as of a number. -/
def visG (at_ : Int) (g : List Ent) : List Par := match g.find? (seenP at_) with | some e => if e.2.2.1 = true then [] else [parE e] | none => []
def visA (at_ : Int) (xs : List (Nat × List Ent)) : List Par := xs.flatMap fun x => visG at_ x.2
theorem visA_snoc (at_ : Int) (xs : List (Nat × List Ent)) (x : Nat × List Ent) : visA at_ (xs ++ [x]) = visA at_ xs ++ visG at_ x.2 := by simp [visA]
theorem visA_le (at_ : Int) (xs : List (Nat × List Ent)) : (visA at_ xs).length ≤ xs.length := by
  induction xs with
  | nil => exact Nat.le_refl _
  | cons x xs ih =>
    have h : visA at_ (x :: xs) = visG at_ x.2 ++ visA at_ xs := rfl
    rw [h, List.length_append, List.length_cons]
    have : (visG at_ x.2).length ≤ 1 := by
      unfold visG
      split
      · split <;> simp
      · exact Nat.zero_le _
    omega
theorem visG_hit {at_ : Int} {g : List Ent} {j : Nat} (hj : j < g.length) (h1 : seenP at_ g[j] = true) (h2 : ∀ m (h : m < g.length), m < j → seenP at_ g[m] = false) : visG at_ g = if g[j].2.2.1 = true then [] else [parE g[j]] := by
  have : g.find? (seenP at_) = some g[j] := by
    rw [find_skip g _ j h2, List.drop_eq_getElem_cons hj, List.find?_cons_of_pos h1]
  unfold visG
  rw [this]
theorem visG_miss {at_ : Int} {g : List Ent} (h : ∀ e ∈ g, seenP at_ e = false) : visG at_ g = [] := by
  have : g.find? (seenP at_) = none := List.find?_eq_none.2 (fun x hx => by rw [h x hx]; simp)
  unfold visG
  rw [this]
theorem seen_pred (at_ : Int) (B : Nat) (w : World) (hB : B < w.heap.size) (hc : w.cell? ⟨B, 0, none⟩ = some (.int .i64 at_)) :
    PredBelow Try.prog 32 #[.pointer (some ⟨B, 0, none⟩)] (fun x => .agg (ev x).toArray) (seenP at_) w := fun W x hb => by
  have hc2 : W.cell? ⟨B, 0, none⟩ = some (.int .i64 at_) := (hb.cell (p := ⟨B, 0, none⟩) hB).trans hc
  have hBW : B < W.heap.size := Nat.lt_of_lt_of_le hB hb.size
  have hne : B ≠ W.heap.size := by omega
  obtain ⟨k, v, g, q⟩ := x
  show Calls Try.prog 32 #[.agg #[.string k, .string v, .bool g, .int .i64 q], .pointer (some ⟨B, 0, none⟩)] W _
  unfold seenP
  go_enter Try.func32, Try.ntmps32
  go_wp2
  all_goals (go_ret; exact ⟨by simp_all, hb.alloc hb.size _⟩)
theorem ixf_any (at_ : Int) (B b o n c : Nat) (g : List Ent) (W : World) (hB : B < W.heap.size) (hc : W.cell? ⟨B, 0, none⟩ = some (.int .i64 at_)) (hn : g.length = n) (hn2 : n ≤ 9223372036854775807) (hb : b < W.heap.size) (hg : EAt W b o g) :
    Calls Try.prog 34 #[.slice (some ⟨b, o, none⟩) n c, .func (.func 32) #[] #[.pointer (some ⟨B, 0, none⟩)]] W fun e w' => e = .returned (.int .i64 (Lib.idxByFrom (fun _ y => seenP at_ y) default g 0)) ∧ Below W.heap.size W w' := by
  have hcon := AnyQ.slices_IndexFunc ixf 4 Try.isAgg37 Try.sizeOf37 ev (fun _ => rfl) (seenP at_) 32 #[.pointer (some ⟨B, 0, none⟩)] (enters_of Try.func32 (by kernel_rfl) rfl) b o n c g W (seen_pred at_ B W hB hc) (by omega) hn2 hb (fun j hj i v hi => by
    obtain ⟨g0, g1, g2, g3⟩ := hg j hj
    rw [getElem!_pos g j hj] at hi
    match i, hi with
    | 0, hi => simp [ev] at hi; rw [← hi]; exact g0
    | 1, hi => simp [ev] at hi; rw [← hi]; exact g1
    | 2, hi => simp [ev] at hi; rw [← hi]; exact g2
    | 3, hi => simp [ev] at hi; rw [← hi]; exact g3
    | i + 4, hi => simp [ev] at hi)
  rw [show g.take n = g by rw [← hn, List.take_length]] at hcon
  exact hcon
set_option maxRecDepth 100000 in
set_option maxHeartbeats 8000000 in
theorem vis11_some (a : Option Addr) (n cap : Nat) (es : List Ent) (at_ : Int) (b off : Nat) (w : World) (hn : n ≤ 9223372036854775807) (hl : es.length = n) (hcap : n ≤ cap) (hcm : cap ≤ maxLen) (ha : 0 < n → a = some ⟨b, off, none⟩) (hb : 0 < n → b < w.heap.size) (hc : EAt w b off es) (hrd : RdE w a es) (hok : okV es) :
    Calls Try.prog 19 #[.slice a n cap, .int .i64 at_] w (PR (visA at_ (allG es)) w) := by
  obtain ⟨i0, hi0, hz0, hz1, hz2⟩ := info_parts Try.infoPair
  have HC := Lib.hid hc
  have HL := Lib.hid hl
  have HB := Lib.hid hb
  have HA := Lib.hid ha
  have HRD := Lib.hid hrd
  have HOK := Lib.hid hok
  have HN := Lib.hid (And.intro hn (And.intro hcap hcm))
  clear hc hl hb ha hrd hok hn hcap hcm
  refine (callsIn_wide (n := 9)).1 ?_
  refine callsIn_of_wp_marks Try.func19 rfl trivial ?_ rfl
  simp only [Try.ntmps19, List.size_toArray, List.length_cons, List.length_nil, Nat.reduceAdd, Nat.reduceSub, Array.replicate_succ, Array.replicate_zero, List.push_toArray, List.append_toArray, List.nil_append, List.cons_append]
  gi_wp2_with ((refine ⟨trivial, ?_⟩); gi_at_call 33; refine (callsIn_wide.2 (keys_any _ ⟨_, _, _, rfl⟩ _)).mono ?_; rintro e w' ⟨rfl, rfl⟩)
  have b0 : Boxed ((((w.alloc (.cells #[.int .i64 at_] 3)).alloc (.cells #[.func (.func 32) #[] #[.pointer (some ⟨w.heap.size, 0, none⟩)]] 53)).alloc (.cells #[.slice none 0 0] 40)).alloc (.cells #[.slice a n cap] 22)) (w.heap.size) 3 (.int .i64 at_) := by
    have h := Boxed.new w 3 (.int .i64 at_)
    exact ((h.alloc _).alloc _).alloc _
  have b1 : Boxed ((((w.alloc (.cells #[.int .i64 at_] 3)).alloc (.cells #[.func (.func 32) #[] #[.pointer (some ⟨w.heap.size, 0, none⟩)]] 53)).alloc (.cells #[.slice none 0 0] 40)).alloc (.cells #[.slice a n cap] 22)) (w.heap.size + 1) 53 (.func (.func 32) #[] #[.pointer (some ⟨w.heap.size, 0, none⟩)]) := by
    have h := Boxed.new (w.alloc (.cells #[.int .i64 at_] 3)) 53 (.func (.func 32) #[] #[.pointer (some ⟨w.heap.size, 0, none⟩)])
    rw [World.size_alloc] at h
    exact (h.alloc _).alloc _
  have b2 : Boxed ((((w.alloc (.cells #[.int .i64 at_] 3)).alloc (.cells #[.func (.func 32) #[] #[.pointer (some ⟨w.heap.size, 0, none⟩)]] 53)).alloc (.cells #[.slice none 0 0] 40)).alloc (.cells #[.slice a n cap] 22)) (w.heap.size + 2) 40 (.slice none 0 0) := by
    have h := Boxed.new ((w.alloc (.cells #[.int .i64 at_] 3)).alloc (.cells #[.func (.func 32) #[] #[.pointer (some ⟨w.heap.size, 0, none⟩)]] 53)) 40 (.slice none 0 0)
    rw [World.size_alloc, World.size_alloc] at h
    exact h.alloc _
  have b3 : Boxed ((((w.alloc (.cells #[.int .i64 at_] 3)).alloc (.cells #[.func (.func 32) #[] #[.pointer (some ⟨w.heap.size, 0, none⟩)]] 53)).alloc (.cells #[.slice none 0 0] 40)).alloc (.cells #[.slice a n cap] 22)) (w.heap.size + 3) 22 (.slice a n cap) := by
    have h := Boxed.new (((w.alloc (.cells #[.int .i64 at_] 3)).alloc (.cells #[.func (.func 32) #[] #[.pointer (some ⟨w.heap.size, 0, none⟩)]] 53)).alloc (.cells #[.slice none 0 0] 40)) 22 (.slice a n cap)
    rw [World.size_alloc, World.size_alloc, World.size_alloc] at h
    exact h
  have hB : Below w.heap.size w ((((w.alloc (.cells #[.int .i64 at_] 3)).alloc (.cells #[.func (.func 32) #[] #[.pointer (some ⟨w.heap.size, 0, none⟩)]] 53)).alloc (.cells #[.slice none 0 0] 40)).alloc (.cells #[.slice a n cap] 22)) := ((((Below.refl _ w).alloc (Nat.le_refl _) _).alloc (by simp) _).alloc (by simp; omega) _).alloc (by simp; omega) _
  generalize ((((w.alloc (.cells #[.int .i64 at_] 3)).alloc (.cells #[.func (.func 32) #[] #[.pointer (some ⟨w.heap.size, 0, none⟩)]] 53)).alloc (.cells #[.slice none 0 0] 40)).alloc (.cells #[.slice a n cap] 22)) = W4 at *
  have hsz : w.heap.size + 3 < W4.heap.size := b3.lt
  have hst := keys_stops 8 (w.heap.size + 1 + 1 + 1) b off n cap a es w W4 HN.out.1 HL.out HN.out.2.1 HN.out.2.2 HA.out HB.out HC.out HRD.out HOK.out hB b3.cell
  refine wpIn_rangeFunc_ownG rfl (by decide) (gf := 47) (lb := #[.pointer (some ⟨w.heap.size + 1 + 1 + 1, 0, none⟩)]) rfl trivial (enters_of Try.func47 (by kernel_rfl) rfl)
    hst belowK_t (belowK_b (by omega)) (Below.refl _ _) (fun _ => rfl)
    (fun pre W => (∃ v, Boxed W (w.heap.size + 1 + 1) 40 v ∧ W.ownsRow w.heap.size 49 2 v (visA at_ (pre.map (·.1))).length (pv2 (visA at_ (pre.map (·.1)))) ∧ True) ∧ (Boxed W w.heap.size 3 (.int .i64 at_) ∧ (Boxed W (w.heap.size + 1) 53 (.func (.func 32) #[] #[.pointer (some ⟨w.heap.size, 0, none⟩)]) ∧ Below w.heap.size w W)))
    (fun c pre W => False)
    (OwnFrom.and (Own.from (holdsRow_own w.heap.size (w.heap.size + 1 + 1) 40 49 2 (fun pre : List (GrpOf es) => (visA at_ (pre.map (·.1))).length) (fun pre => pv2 (visA at_ (pre.map (·.1)))) (fun pre v => True)) _) (OwnFrom.and (Own.from (boxed_own w.heap.size 3 (fun _ : List (GrpOf es) => .int .i64 at_)) _) (OwnFrom.and (Own.from (boxed_own (w.heap.size + 1) 53 (fun _ : List (GrpOf es) => .func (.func 32) #[] #[.pointer (some ⟨w.heap.size, 0, none⟩)])) _) (ownFrom_below (Nat.le_refl _) (by omega)))))
    (fun c => ownFrom_pure _ _)
    ⟨⟨_, b2, World.ownsRow_nil _ _ _ _, trivial⟩, b0, b1, hB⟩
    ?a1 ?assign ?body ?done ?stop
  case assign =>
    intro l x W K hK
    unfold encG
    gi_wp2
    exact hK
  case body =>
    rintro l' pre x W ⟨⟨v, hv, hrow, -⟩, hv0, hvf, hBW⟩ hpl
    have hc1 := hv.cell
    have hc0 := hv0.cell
    have hcf := hvf.cell
    have HX := Lib.hid (grp_at HC.out x)
    have hsn := visA_snoc at_ (pre.map (·.1)) x.1
    have hmp : (pre ++ [x]).map (·.1) = pre.map (·.1) ++ [x.1] := by simp
    rw [← hmp] at hsn
    have hpn := visA_le at_ (pre.map (·.1))
    have hal := allG_len es
    have hbw : b < w.heap.size := HB.out (by have h := x.2; have := HL.out; have h1 := h.1; have h2 := h.2.2.1; omega)
    rw [List.length_map] at hpn
    obtain ⟨m, hm⟩ : ∃ m, m = (visA at_ (pre.map (·.1))).length := ⟨_, rfl⟩
    have hm4 : m ≤ 4096 := by omega
    have HM := Lib.hid hm
    rw [← hm] at hrow
    obtain ⟨i, hi⟩ : ∃ i, i = x.1.1 := ⟨_, rfl⟩
    obtain ⟨g, hg⟩ : ∃ g, g = x.1.2 := ⟨_, rfl⟩
    obtain ⟨c, hcc⟩ : ∃ c, c = cap - i := ⟨_, rfl⟩
    have hgm : g.length ≤ 9223372036854775807 := by have := x.2.1; rw [← hg] at this; have := HN.out.1; have := HL.out; omega
    rw [← hi, ← hg] at HX
    rw [← hg] at hsn
    rw [← hi, ← hg, ← hcc]
    obtain ⟨o, ho⟩ : ∃ o, o = off + i * 4 := ⟨_, rfl⟩
    rw [← ho] at HX ⊢
    obtain ⟨gl, hgl⟩ : ∃ gl, gl = g.length := ⟨_, rfl⟩
    have HGL := Lib.hid hgl
    rw [← hgl] at hgm ⊢
    have HEA := Lib.hid (HX.out.old hbw hBW)
    have HSN := Lib.hid hsn
    have hbW : b < W.heap.size := Nat.lt_of_lt_of_le hbw hBW.size
    have hsW : w.heap.size ≤ W.heap.size := hBW.size
    obtain ⟨r, hr⟩ : ∃ r, Lib.idxByFrom (fun _ y => seenP at_ y) default g 0 = r := ⟨_, rfl⟩
    have CI := Lib.hid (ixf_any at_ w.heap.size b o gl c g W hv0.lt hc0 hgl.symm hgm hbW HEA.out)
    rw [hr] at CI
    have HWY := Lib.hid (idx_ways (seenP at_) g 0)
    rw [hr] at HWY
    clear hsn hmp hm hi hg hcc ho hgl HX hst hpl hpn hr
    rcases HWY.out with ⟨rfl, hmiss⟩ | ⟨j, hj, hrj, hp, hno⟩
    · have HN2 := Lib.hid (show visA at_ ((pre ++ [x]).map (·.1)) = visA at_ (pre.map (·.1)) by rw [HSN.out, visG_miss hmiss, List.append_nil])
      clear hmiss HSN
      gi_wp2_with ((refine ⟨trivial, ?_⟩); gi_at_call 34; refine (((callsIn_wide.2 CI.out).inRound l')).mono ?_; rintro e W1 ⟨rfl, bd⟩)
      refine ⟨(keepsO_below bd).from _, bd.mono hsW, ⟨v, boxed_below hv bd, ?_, trivial⟩, boxed_below hv0 bd, boxed_below hvf bd, hBW.trans (bd.mono hsW)⟩
      rw [HN2.out, ← HM.out]
      exact below_own hrow bd
    · rw [Nat.zero_add] at hrj
      subst hrj
      obtain ⟨z0, z1, z2, z3⟩ := HEA.out j hj
      have hsv := visG_hit hj hp hno
      obtain ⟨E, hE⟩ : ∃ E, E = g[j] := ⟨_, rfl⟩
      rw [← hE] at z0 z1 z2 z3 hsv
      obtain ⟨ek, evl, eg, eq⟩ := E
      have hjg : (j : Int) < (gl : Int) := by have := HGL.out; omega
      have hj0 : (0 : Int) ≤ (j : Int) := by omega
      have HSV := Lib.hid hsv
      have HZ := Lib.hid (And.intro z0 (And.intro z1 z2))
      clear hE hp hno hsv z3 hj z0 z1 z2
      cases eg with
      | true =>
        have HN2 := Lib.hid (show visA at_ ((pre ++ [x]).map (·.1)) = visA at_ (pre.map (·.1)) by rw [HSN.out, HSV.out]; simp)
        gi_wp2_with ((refine ⟨trivial, ?_⟩); gi_at_call 34; refine (((callsIn_wide.2 CI.out).inRound l')).mono ?_; rintro e W1 ⟨rfl, bd⟩; have q0 := (bd.cell (p := ⟨b, o + j * 4, none⟩) hbW).trans HZ.out.1; have q1 := (bd.cell (p := ⟨b, o + j * 4 + 1, none⟩) hbW).trans HZ.out.2.1; have q2 := (bd.cell (p := ⟨b, o + j * 4 + 2, none⟩) hbW).trans HZ.out.2.2)
        refine ⟨(keepsO_below bd).from _, bd.mono hsW, ⟨v, boxed_below hv bd, ?_, trivial⟩, boxed_below hv0 bd, boxed_below hvf bd, hBW.trans (bd.mono hsW)⟩
        rw [HN2.out, ← HM.out]
        exact below_own hrow bd
      | false =>
        have HN2 := Lib.hid (show visA at_ ((pre ++ [x]).map (·.1)) = visA at_ (pre.map (·.1)) ++ [(ek, evl)] by rw [HSN.out, HSV.out]; simp [parE])
        gi_wp2_with ((refine ⟨trivial, ?_⟩); gi_at_call 34; refine (((callsIn_wide.2 CI.out).inRound l')).mono ?_; rintro e W1 ⟨rfl, bd⟩; have q0 := (bd.cell (p := ⟨b, o + j * 4, none⟩) hbW).trans HZ.out.1; have q1 := (bd.cell (p := ⟨b, o + j * 4 + 1, none⟩) hbW).trans HZ.out.2.1; have q2 := (bd.cell (p := ⟨b, o + j * 4 + 2, none⟩) hbW).trans HZ.out.2.2)
        have HZ1 : Hid (W1.cell? ⟨b, o + j * 4, none⟩ = some (.string ek) ∧ W1.cell? ⟨b, o + j * 4 + 1, none⟩ = some (.string evl)) := Lib.hid ⟨q0, q1⟩
        have HV1 := Lib.hid (boxed_below hv bd)
        have HV01 := Lib.hid (boxed_below hv0 bd)
        have HVF1 := Lib.hid (boxed_below hvf bd)
        have HRW1 := Lib.hid (below_own hrow bd)
        have hc1 := HV1.out.cell
        have hsW1 : w.heap.size ≤ W1.heap.size := Nat.le_trans hsW bd.size
        have HBD := Lib.hid bd
        clear hv hv0 hvf hrow q2
        refine mixed_round (D := (fun w' => w'.cell? ⟨w.heap.size + 1 + 1, 0, none⟩ = some v ∧ w'.cell? ⟨b, o + j * 4, none⟩ = some (.string ek) ∧ w'.cell? ⟨b, o + j * 4 + 1, none⟩ = some (.string evl))) [0, 1, 2, 3, 4, 5, 6, 7, 8, 9, 10, 11] [12, 13, 14] 14 (by kernel_rfl) (by kernel_rfl) (by decide) (by rfl) (⟨hc1, q0, q1⟩) ?_
        simp only [List.filterMap_cons, List.filterMap_nil, List.getElem?_cons_zero, List.getElem?_cons_succ]
        repeat (
          (first
           | (refine calm_move _ rfl ?_)
           | (apply calm_cons
              · (intro w' hw'
                 first | (obtain ⟨hwa', hwb', hwc'⟩ := hw') | (obtain ⟨hwa', hwb'⟩ := hw') | skip
                 go_simp
                 first
                 | done
                 | exact rfl)))
          simp only [Act.put, Act.eval, List.setIfInBounds_toArray, List.set_cons_zero, List.set_cons_succ, Array.getD_eq_getD_getElem?, List.getElem?_toArray, List.getElem?_cons_zero, List.getElem?_cons_succ, Option.getD_some])
        refine calm_nil ?_
        have bd2 : Below W1.heap.size W1 W1.drew := (Below.refl _ _).drew
        generalize W1.drew = W2 at *
        have hW2 : W1.heap.size ≤ W2.heap.size := bd2.size
        have HV2 := Lib.hid (boxed_below HV1.out bd2)
        have HV02 := Lib.hid (boxed_below HV01.out bd2)
        have HVF2 := Lib.hid (boxed_below HVF1.out bd2)
        have HRW2 := Lib.hid (below_own HRW1.out bd2)
        have hbW1 : b < W1.heap.size := Nat.lt_of_lt_of_le hbW bd.size
        have hb2 : b < W2.heap.size := by omega
        have HZ2 : Hid (W2.cell? ⟨b, o + j * 4, none⟩ = some (.string ek) ∧ W2.cell? ⟨b, o + j * 4 + 1, none⟩ = some (.string evl)) := Lib.hid ⟨(bd2.cell (p := ⟨b, o + j * 4, none⟩) hbW1).trans q0, (bd2.cell (p := ⟨b, o + j * 4 + 1, none⟩) hbW1).trans q1⟩
        have hsW2 : w.heap.size ≤ W2.heap.size := by omega
        refine loud_cons fun K hK => ?_
        go_wp2_with fail
        have hal : Below W2.heap.size W2 (W2.alloc (.cells #[.string ek, .string evl] 49)) := (Below.refl _ _).alloc (Nat.le_refl _) _
        refine hK _ _ (fun _ => ⟨(HV2.out.alloc _).cell, (hal.cell (p := ⟨b, o + j * 4, none⟩) hb2).trans HZ2.out.1, (hal.cell (p := ⟨b, o + j * 4 + 1, none⟩) hb2).trans HZ2.out.2⟩) ?_
        clear hK K
        refine loud_cons fun K hK => ?_
        refine wpList_append_own _ rfl (.tmp 26) (.tmp 38) 40 rfl w.heap.size 49 i0 (.agg #[.string ⟨#[]⟩, .string ⟨#[]⟩]) 2 32 Try.underlying40 hi0 hz0 hz1 hz2 rfl (by decide) _ _ _ rfl (HRW2.out.alloc _) ⟨W2.heap.size, 0, none⟩ 1 1 (pv (ek, evl)) rfl rfl ?c1 ?c2 ?c3 ?c4 ?c5 ?_
        case c1 => exact cell_new2 _ _ _ _
        case c2 => intro u hu; simp [pv] at hu; rcases hu with rfl | rfl <;> rfl
        case c3 => unfold maxLen; omega
        case c4 => omega
        case c5 => simp; omega
        intro v' w3 hown3 hgrow _
        have hdw := (hal.mono hsW2).grown hgrow (by simp; omega) (fun k hk => (HRW2.out.lt k hk).1)
        obtain ⟨hv1, hv2, hr2, hk2, hb3⟩ := HV2.out.appended (by decide) HRW2.out hsW2 (by omega) hown3 hgrow
        have h02 := (HV02.out.alloc (.cells #[.string ek, .string evl] 49)).kept hgrow (HV02.out.not_row (by decide) HRW2.out)
        have hf2 := (HVF2.out.alloc (.cells #[.string ek, .string evl] 49)).kept hgrow (HVF2.out.not_row (by decide) HRW2.out)
        have bdd : Below W.heap.size W W2 := HBD.out.trans (bd2.mono HBD.out.size)
        have HFIN := Lib.hid (And.intro ((keepsO_below bdd).trans hk2) (And.intro ((bdd.mono hsW).trans hb3) (And.intro hv2 (And.intro hr2 (And.intro (h02.other (show w.heap.size ≠ w.heap.size + 1 + 1 by omega) v') (hf2.other (show w.heap.size + 1 ≠ w.heap.size + 1 + 1 by omega) v'))))))
        refine hK _ _ (fun _ => ⟨hv1.cell, (hdw.cell (p := ⟨b, o + j * 4, none⟩) hbw).trans HZ2.out.1, (hdw.cell (p := ⟨b, o + j * 4 + 1, none⟩) hbw).trans HZ2.out.2⟩) ?_
        have hc1' := hv1.cell
        have hf1' := hv1.frozen
        obtain ⟨ga, gc, rfl⟩ := own_form hown3 (by decide)
        clear hK K hv1 hv2 hr2 hk2 hb3 h02 hf2 hdw hown3 hgrow
        refine loud_cons fun K hK => ?_
        go_wp2_with fail
        refine hK _ _ (fun h => absurd rfl h) ?_
        clear hK K
        refine loud_nil ?_
        gi_wp2
        obtain ⟨p1, p2, p3, p4, p5, p6⟩ := HFIN.out
        refine ⟨p1.from _, p2, ⟨_, p3, ?_, trivial⟩, p5, p6, hBW.trans p2⟩
        rw [HN2.out, List.length_append, ← HM.out, ← pv2_snoc]
        exact p4
  case done =>
    rintro D ys W hD hys ⟨⟨v, hv, hrow, -⟩, hv0, hvf, hBW⟩ hK
    have hc := hv.cell
    rw [show ys.map (·.1) = allG es from hys] at hrow
    obtain ⟨ra, rc, rfl⟩ := own_form hrow (by decide)
    have hr2 := Lib.hid (ownsRow_putObj hrow (.deferred none) hK rfl)
    have HBW := Lib.hid (hBW.trans (belowK_b (w := w) (Nat.le_refl _) W D _ (.deferred none) (by omega) hK rfl rfl))
    have hKK := hK
    clear hys hst hrow hBW
    gi_wp2
    refine ⟨by simp, .inl ⟨_, _, rfl, run_takeDeferred hKK, ?_⟩⟩
    refine ⟨_, results_tmp rfl _ _ _, ?_⟩
    obtain ⟨a', c', e1, e2⟩ := own_sp hr2.out rfl
    cases e1
    exact ⟨_, _, _, rfl, e2, HBW.out⟩
  case stop =>
    rintro D c pre W hD hs h hK
    exact h.elim
theorem vis11_any (a : Option Addr) (n cap : Nat) (es : List Ent) (at_ : Int) (w : World) (hn : n ≤ 9223372036854775807) (hs : SE w a n cap es) (hok : okV es) :
    Calls Try.prog 19 #[.slice a n cap, .int .i64 at_] w (PR (visA at_ (allG es)) w) := by
  obtain ⟨hl, hrd, hcap, hcm⟩ := hs
  obtain ⟨b, off, ha, hb, hc⟩ := hrd.at_
  rw [hl] at ha hb
  exact vis11_some a n cap es at_ b off w hn hl hcap hcm ha hb hc hrd hok
end Go.Proofs.Ytdpinkipcaolhaa
namespace Go.Proofs.Ytdpinkipcaolhaa
open Go.RowKit
set_option linter.unusedVariables false
set_option linter.unusedSimpArgs false

/-- Entries of which none has a key of another. -/
def Apart2 (A B : List Ent) : Prop := ∀ a ∈ A, ∀ b ∈ B, ¬ a.1 = b.1
theorem topM_left {A B : List Ent} {at_ : Int} {e : Ent} (h : ∀ b ∈ B, ¬ b.1 = e.1) : topM (A ++ B) at_ e = topM A at_ e := by
  rw [Bool.eq_iff_iff, topM_iff, topM_iff]
  refine and_congr Iff.rfl ⟨fun q x hx => q x (by simp [hx]), fun q x hx hk => ?_⟩
  rcases List.mem_append.1 hx with hx | hx
  · exact q x hx hk
  · exact absurd hk (h x hx)
theorem topM_right {A B : List Ent} {at_ : Int} {e : Ent} (h : ∀ a ∈ A, ¬ a.1 = e.1) : topM (A ++ B) at_ e = topM B at_ e := by
  rw [Bool.eq_iff_iff, topM_iff, topM_iff]
  refine and_congr Iff.rfl ⟨fun q x hx => q x (by simp [hx]), fun q x hx hk => ?_⟩
  rcases List.mem_append.1 hx with hx | hx
  · exact absurd hk (h x hx)
  · exact q x hx hk
theorem maxM_left {A B : List Ent} {e : Ent} (h : ∀ b ∈ B, ¬ b.1 = e.1) : maxM (A ++ B) e = maxM A e := by
  rw [Bool.eq_iff_iff, maxM_iff, maxM_iff]
  refine ⟨fun q x hx => q x (by simp [hx]), fun q x hx hk => ?_⟩
  rcases List.mem_append.1 hx with hx | hx
  · exact q x hx hk
  · exact absurd hk (h x hx)
theorem maxM_right {A B : List Ent} {e : Ent} (h : ∀ a ∈ A, ¬ a.1 = e.1) : maxM (A ++ B) e = maxM B e := by
  rw [Bool.eq_iff_iff, maxM_iff, maxM_iff]
  refine ⟨fun q x hx => q x (by simp [hx]), fun q x hx hk => ?_⟩
  rcases List.mem_append.1 hx with hx | hx
  · exact absurd hk (h x hx)
  · exact q x hx hk
theorem visM_app {A B : List Ent} (h : Apart2 A B) (at_ : Int) : visM (A ++ B) at_ = visM A at_ ++ visM B at_ := by
  unfold visM
  rw [List.filter_append, List.map_append]
  congr 2
  · refine List.filter_congr fun e he => ?_
    rw [topM_left (fun b hb q => h e he b hb q.symm)]
  · refine List.filter_congr fun e he => ?_
    rw [topM_right (fun a ha q => h a ha e he q)]
theorem sinM_app {A B : List Ent} (h : Apart2 A B) (at_ : Int) : sinM (A ++ B) at_ = sinM A at_ ++ sinM B at_ := by
  unfold sinM
  rw [List.filter_append]
  congr 1
  · refine List.filter_congr fun e he => ?_
    rw [maxM_left (fun b hb q => h e he b hb q.symm)]
  · refine List.filter_congr fun e he => ?_
    rw [maxM_right (fun a ha q => h a ha e he q)]
/-- The first key's entries, and the others. -/
theorem run_split {e : Ent} {r : List Ent} : (e :: r).take (runN (e :: r)) = e :: r.takeWhile (fun x => x.1.toList == e.1.toList) ∧ (e :: r).drop (runN (e :: r)) = r.dropWhile (fun x => x.1.toList == e.1.toList) := by
  have h := (List.takeWhile_append_dropWhile (p := fun x : Ent => x.1.toList == e.1.toList) (l := r))
  obtain ⟨t, ht⟩ : ∃ t, t = r.takeWhile (fun x => x.1.toList == e.1.toList) := ⟨_, rfl⟩
  obtain ⟨d, hd⟩ : ∃ d, d = r.dropWhile (fun x => x.1.toList == e.1.toList) := ⟨_, rfl⟩
  have hn : runN (e :: r) = t.length + 1 := by rw [ht]; simp only [runN]; omega
  rw [hn, ← ht, ← hd, List.take_succ_cons, List.drop_succ_cons]
  rw [← ht, ← hd] at h
  rw [← h]
  exact ⟨by rw [List.take_left], by rw [List.drop_left]⟩
theorem run_key {e : Ent} {r : List Ent} : ∀ x ∈ (e :: r).take (runN (e :: r)), x.1 = e.1 := by
  rw [run_split.1]
  intro x hx
  rcases List.mem_cons.1 hx with rfl | hx
  · rfl
  · exact likeK_iff.1 (takeWhile_all _ r x hx)
theorem drop_key {e : Ent} : ∀ {r : List Ent}, PW (e :: r) → ∀ x ∈ r.dropWhile (fun x => x.1.toList == e.1.toList), ¬ x.1 = e.1
  | [], _, x, hx => by simp at hx
  | y :: r, h, x, hx => by
    by_cases hy : (y.1.toList == e.1.toList) = true
    · rw [List.dropWhile_cons_of_pos (p := fun x : Ent => x.1.toList == e.1.toList) hy] at hx
      refine drop_key (e := e) (r := r) ?_ x hx
      obtain ⟨h1, h2⟩ := List.pairwise_cons.1 h
      exact List.pairwise_cons.2 ⟨fun z hz => h1 z (by simp [hz]), (List.pairwise_cons.1 h2).2⟩
    · rw [List.dropWhile_cons_of_neg (p := fun x : Ent => x.1.toList == e.1.toList) hy] at hx
      intro hk
      rcases List.mem_cons.1 hx with rfl | hx
      · exact hy (likeK_iff.2 hk)
      · obtain ⟨h1, h2⟩ := List.pairwise_cons.1 h
        exact hy (likeK_iff.2 (less_mid (h1 y (by simp)) ((List.pairwise_cons.1 h2).1 x hx) hk.symm).symm)
theorem run_apart {l : List Ent} (h : PW l) : Apart2 (l.take (runN l)) (l.drop (runN l)) := by
  cases l with
  | nil => intro a ha; simp at ha
  | cons e r =>
    intro a ha b hb hk
    rw [run_split.2] at hb
    exact drop_key h b hb (hk.symm.trans (run_key a ha))
/-- A key's entries fall in number. -/
def Fall : List Ent → Prop := fun g => g.Pairwise fun a b => a.1 = b.1 ∧ b.2.2.2 < a.2.2.2
theorem run_fall {l : List Ent} (h : PW l) : Fall (l.take (runN l)) := by
  cases l with
  | nil => simp [Fall]
  | cons e r =>
    have h1 : PW ((e :: r).take (runN (e :: r))) := h.sublist (List.take_sublist _ _)
    have hk := run_key (e := e) (r := r)
    refine List.pairwise_iff_getElem.2 fun i j hi hj hij => ?_
    have e1 : _ = e.1 := hk _ (List.getElem_mem hi)
    have e2 : _ = e.1 := hk _ (List.getElem_mem hj)
    exact ⟨e1.trans e2.symm, (less_seq (e1.trans e2.symm)).1 (pw_at h1 hi hj hij)⟩
theorem topM_find (at_ : Int) : ∀ (g : List Ent), Fall g → g.filter (topM g at_) = (g.find? (seenP at_)).toList
  | [], _ => rfl
  | e :: r, h => by
    obtain ⟨h1, h2⟩ := List.pairwise_cons.1 h
    by_cases hs : e.2.2.2 ≤ at_
    · have he : topM (e :: r) at_ e = true := topM_iff.2 ⟨hs, fun x hx _ hlt => by
        rcases List.mem_cons.1 hx with rfl | hx
        · omega
        · have := (h1 x hx).2; omega⟩
      have hr : r.filter (topM (e :: r) at_) = [] := List.filter_eq_nil_iff.2 fun x hx ht => by
        have := (topM_iff.1 ht).2 e (by simp) (h1 x hx).1 (h1 x hx).2
        omega
      rw [List.filter_cons_of_pos he, hr, List.find?_cons_of_pos (by simpa [seenP] using hs)]
      rfl
    · have he : ¬ topM (e :: r) at_ e = true := fun ht => hs (topM_iff.1 ht).1
      rw [List.filter_cons_of_neg he, List.find?_cons_of_neg (by simpa [seenP] using hs), ← topM_find at_ r h2]
      refine List.filter_congr fun x hx => ?_
      rw [Bool.eq_iff_iff, topM_iff, topM_iff]
      refine and_congr Iff.rfl ⟨fun q y hy => q y (by simp [hy]), fun q y hy hk hlt => ?_⟩
      rcases List.mem_cons.1 hy with rfl | hy
      · omega
      · exact q y hy hk hlt
theorem vis_grp {at_ : Int} {g : List Ent} (h : Fall g) : visG at_ g = visM g at_ := by
  have hf : (g.filter fun e => topM g at_ e && !e.2.2.1) = (g.filter (topM g at_)).filter (fun e => !e.2.2.1) := by
    rw [List.filter_filter]
    exact List.filter_congr fun e _ => Bool.and_comm _ _
  unfold visM visG
  rw [hf, topM_find at_ g h]
  cases hq : g.find? (seenP at_) with
  | none => rfl
  | some e =>
    cases he : e.2.2.1 with
    | true => simp [he]
    | false => simp [he]
theorem sin_grp {at_ : Int} {g : List Ent} (h : Fall g) : sinG at_ g = sinM g at_ := by
  cases g with
  | nil => rfl
  | cons e r =>
    obtain ⟨h1, h2⟩ := List.pairwise_cons.1 h
    have he : maxM (e :: r) e = true := maxM_iff.2 fun x hx _ => by
      rcases List.mem_cons.1 hx with rfl | hx
      · omega
      · have := (h1 x hx).2; omega
    have hr : (r.filter fun e' => maxM (e :: r) e' && decide (at_ < e'.2.2.2)) = [] := List.filter_eq_nil_iff.2 fun x hx ht => by
      rw [Bool.and_eq_true] at ht
      have := maxM_iff.1 ht.1 e (by simp) (h1 x hx).1
      have := (h1 x hx).2
      omega
    unfold sinM
    show (if at_ < e.2.2.2 then [e] else []) = _
    by_cases hs : at_ < e.2.2.2
    · rw [List.filter_cons_of_pos (by simp [he, hs]), hr, if_pos hs]
    · rw [List.filter_cons_of_neg (by simp [he, hs]), hr, if_neg hs]
theorem vis_groups (at_ : Int) : ∀ (n i : Nat) (l : List Ent), l.length ≤ n → PW l → visA at_ (groupsE i l) = visM l at_
  | 0, i, l, hn, _ => by
    obtain rfl : l = [] := List.eq_nil_of_length_eq_zero (by omega)
    rw [groups_nil]; rfl
  | n + 1, i, l, hn, h => by
    by_cases h0 : 0 < l.length
    · have hp := runN_pos h0
      rw [groups_cons h0]
      show visG at_ (l.take (runN l)) ++ visA at_ (groupsE (i + runN l) (l.drop (runN l))) = _
      rw [vis_groups at_ n _ _ (by rw [List.length_drop]; omega) (h.sublist (List.drop_sublist _ _)), vis_grp (run_fall h), ← visM_app (run_apart h), List.take_append_drop]
    · obtain rfl : l = [] := List.eq_nil_of_length_eq_zero (by omega)
      rw [groups_nil]; rfl
theorem sin_groups (at_ : Int) : ∀ (n i : Nat) (l : List Ent), l.length ≤ n → PW l → sinA at_ (groupsE i l) = sinM l at_
  | 0, i, l, hn, _ => by
    obtain rfl : l = [] := List.eq_nil_of_length_eq_zero (by omega)
    rw [groups_nil]; rfl
  | n + 1, i, l, hn, h => by
    by_cases h0 : 0 < l.length
    · have hp := runN_pos h0
      rw [groups_cons h0]
      show sinG at_ (l.take (runN l)) ++ sinA at_ (groupsE (i + runN l) (l.drop (runN l))) = _
      rw [sin_groups at_ n _ _ (by rw [List.length_drop]; omega) (h.sublist (List.drop_sublist _ _)), sin_grp (run_fall h), ← sinM_app (run_apart h), List.take_append_drop]
    · obtain rfl : l = [] := List.eq_nil_of_length_eq_zero (by omega)
      rw [groups_nil]; rfl
/-- What the code gathers key by key is what the document asks of all. -/
theorem visA_eq (es : List Ent) (at_ : Int) : visA at_ (allG es) = (if okB es = true then visM es at_ else []) := by
  unfold allG
  split
  · rename_i h; exact vis_groups at_ _ 0 es (Nat.le_refl _) (okB_pw h)
  · rfl
theorem sinA_eq (es : List Ent) (at_ : Int) : sinA at_ (allG es) = (if okB es = true then sinM es at_ else []) := by
  unfold allG
  split
  · rename_i h; exact sin_groups at_ _ 0 es (Nat.le_refl _) (okB_pw h)
  · rfl
end Go.Proofs.Ytdpinkipcaolhaa
