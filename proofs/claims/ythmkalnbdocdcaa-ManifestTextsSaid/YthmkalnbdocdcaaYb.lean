/-
  Layer 12 (manifest), plain: tables and their order, edits, states, what a state is behind an edit. Conditions: as each says.
-/
import Derived.Test.YthmkalnbdocdcaaSm
namespace Go.Proofs.Ythmkalnbdocdcaa
set_option linter.unusedVariables false
set_option linter.unusedSimpArgs false

/-- A table: number, level, least and greatest key. -/
abbrev Tb := Int × Int × ByteArray × ByteArray
/-- An edit: tables that come, numbers that go, the first log that counts, the next number. -/
abbrev Ed := List Tb × List Int × Int × Int
def numB (n least : Int) : Bool := decide (least ≤ n) && decide (n ≤ 1073741824)
def mayT (t : Tb) : Bool := numB t.1 1 && (decide (0 ≤ t.2.1) && decide (t.2.1 ≤ 2)) && keyB t.2.2.1 && keyB t.2.2.2 && !ltB t.2.2.2 t.2.2.1
def mayEd (e : Ed) : Bool := decide (e.1.length ≤ 128) && decide (e.2.1.length ≤ 128) && e.1.all mayT && e.2.1.all (fun x => numB x 1) && numB e.2.2.1 0 && numB e.2.2.2 0
theorem numB_iff {n least : Int} : numB n least = true ↔ least ≤ n ∧ n ≤ 1073741824 := by unfold numB; simp
theorem mayT_iff {t : Tb} : mayT t = true ↔ (1 ≤ t.1 ∧ t.1 ≤ 1073741824) ∧ (0 ≤ t.2.1 ∧ t.2.1 ≤ 2) ∧ keyB t.2.2.1 = true ∧ keyB t.2.2.2 = true ∧ ltB t.2.2.2 t.2.2.1 = false := by
  unfold mayT; simp [numB_iff, and_assoc]
theorem mayEd_iff {e : Ed} : mayEd e = true ↔ e.1.length ≤ 128 ∧ e.2.1.length ≤ 128 ∧ (∀ t ∈ e.1, mayT t = true) ∧ (∀ x ∈ e.2.1, 1 ≤ x ∧ x ≤ 1073741824) ∧ (0 ≤ e.2.2.1 ∧ e.2.2.1 ≤ 1073741824) ∧ (0 ≤ e.2.2.2 ∧ e.2.2.2 ≤ 1073741824) := by
  unfold mayEd; simp [numB_iff, and_assoc]
/-- Does a table stand ahead of another one? -/
def lessT (a b : Tb) : Bool := if a.2.1 = b.2.1 then (if a.2.1 = 0 then decide (b.1 < a.1) else ltB a.2.2.1 b.2.2.1) else decide (a.2.1 < b.2.1)
theorem lessT_lv {a b : Tb} (h : ¬ a.2.1 = b.2.1) : lessT a b = decide (a.2.1 < b.2.1) := by unfold lessT; rw [if_neg h]
theorem lessT_zero {a b : Tb} (h : a.2.1 = b.2.1) (h0 : a.2.1 = 0) : lessT a b = decide (b.1 < a.1) := by unfold lessT; rw [if_pos h, if_pos h0]
theorem lessT_lo {a b : Tb} (h : a.2.1 = b.2.1) (h0 : ¬ a.2.1 = 0) : lessT a b = ltB a.2.2.1 b.2.2.1 := by unfold lessT; rw [if_pos h, if_neg h0]
theorem lessT_irr (a : Tb) : lessT a a = false := by
  by_cases h : a.2.1 = 0
  · rw [lessT_zero rfl h]; simp
  · rw [lessT_lo rfl h]; exact ltB_irr _
theorem lessT_trans {a b c : Tb} (h1 : lessT a b = true) (h2 : lessT b c = true) : lessT a c = true := by
  by_cases e1 : a.2.1 = b.2.1
  · by_cases e2 : b.2.1 = c.2.1
    · by_cases h0 : a.2.1 = 0
      · rw [lessT_zero e1 h0] at h1
        rw [lessT_zero e2 (by omega)] at h2
        rw [lessT_zero (e1.trans e2) h0]
        simp at *; omega
      · rw [lessT_lo e1 h0] at h1
        rw [lessT_lo e2 (by omega)] at h2
        rw [lessT_lo (e1.trans e2) h0]
        exact ltB_trans h1 h2
    · rw [lessT_lv e2] at h2
      rw [lessT_lv (by omega)]
      simp at *; omega
  · rw [lessT_lv e1] at h1
    by_cases e2 : b.2.1 = c.2.1
    · rw [lessT_lv (by omega)]; simp at *; omega
    · rw [lessT_lv e2] at h2
      simp at h1 h2
      rw [lessT_lv (by omega)]; simp; omega
theorem lessT_ntrans {a b c : Tb} (h1 : lessT a b = false) (h2 : lessT b c = false) : lessT a c = false := by
  by_cases e1 : a.2.1 = b.2.1
  · by_cases e2 : b.2.1 = c.2.1
    · by_cases h0 : a.2.1 = 0
      · rw [lessT_zero e1 h0] at h1
        rw [lessT_zero e2 (by omega)] at h2
        rw [lessT_zero (e1.trans e2) h0]
        simp at *; omega
      · rw [lessT_lo e1 h0] at h1
        rw [lessT_lo e2 (by omega)] at h2
        rw [lessT_lo (e1.trans e2) h0]
        exact le_le h2 h1
    · rw [lessT_lv e2] at h2
      rw [lessT_lv (by omega)]
      simp at *; omega
  · rw [lessT_lv e1] at h1
    by_cases e2 : b.2.1 = c.2.1
    · rw [lessT_lv (by omega)]; simp at *; omega
    · rw [lessT_lv e2] at h2
      simp at h1 h2
      rw [lessT_lv (by omega)]; simp; omega
theorem lessT_asymm {a b : Tb} (h : lessT a b = true) : lessT b a = false := by
  cases e : lessT b a with
  | false => rfl
  | true => have := lessT_trans h e; rw [lessT_irr] at this; cases this
/-- Have two tables of one level above 0 a key in common? -/
def touchT (a b : Tb) : Bool := decide (0 < a.2.1) && decide (a.2.1 = b.2.1) && !ltB a.2.2.2 b.2.2.1 && !ltB b.2.2.2 a.2.2.1
theorem touchT_iff {a b : Tb} : touchT a b = true ↔ 0 < a.2.1 ∧ a.2.1 = b.2.1 ∧ ltB a.2.2.2 b.2.2.1 = false ∧ ltB b.2.2.2 a.2.2.1 = false := by unfold touchT; simp [and_assoc]
theorem touchT_symm {a b : Tb} (h : touchT a b = false) : touchT b a = false := by
  cases e : touchT b a with
  | false => rfl
  | true =>
    obtain ⟨h1, h2, h3, h4⟩ := touchT_iff.1 e
    rw [touchT_iff.2 ⟨by omega, h2.symm, h4, h3⟩] at h
    cases h
/-- No two have a key in common. -/
def Apt (l : List Tb) : Prop := l.Pairwise fun a b => touchT a b = false
instance (l : List Tb) : Decidable (Apt l) := by unfold Apt; infer_instance
/-- In order, with equals maybe. -/
def Wk (l : List Tb) : Prop := l.Pairwise fun a b => lessT b a = false
/-- In strict order. -/
def Sr (l : List Tb) : Prop := l.Pairwise fun a b => lessT a b = true
theorem Apt.perm {l l' : List Tb} (hp : l.Perm l') : Apt l ↔ Apt l' := hp.pairwise_iff touchT_symm
/-- Does each one stand apart from the one ahead of it? -/
def nearT : List Tb → Bool
  | a :: b :: r => !(decide (0 < b.2.1) && decide (b.2.1 = a.2.1) && !ltB a.2.2.2 b.2.2.1) && nearT (b :: r)
  | _ => true
theorem nearT_cons {a b : Tb} {r : List Tb} : nearT (a :: b :: r) = true ↔ (0 < b.2.1 → b.2.1 = a.2.1 → ltB a.2.2.2 b.2.2.1 = true) ∧ nearT (b :: r) = true := by
  rw [nearT, Bool.and_eq_true]
  refine and_congr ⟨fun h h1 h2 => ?_, fun h => ?_⟩ Iff.rfl
  · have h0 : (0 : Int) < a.2.1 := by omega
    simp [h1, h2, h0] at h
    exact h
  · by_cases h1 : 0 < b.2.1
    · by_cases h2 : b.2.1 = a.2.1
      · simp [h h1 h2]
      · simp [h2]
    · simp [h1]
theorem hi_lo {t : Tb} (h : mayT t = true) : ltB t.2.2.2 t.2.2.1 = false := (mayT_iff.1 h).2.2.2.2
/-- Standing apart, far and near. -/
def Far (l : List Tb) : Prop := l.Pairwise fun a b => 0 < b.2.1 → b.2.1 = a.2.1 → ltB a.2.2.2 b.2.2.1 = true
theorem wk_lv {a b : Tb} (h : lessT b a = false) : a.2.1 ≤ b.2.1 := by
  by_cases e : b.2.1 = a.2.1
  · omega
  · rw [lessT_lv e] at h; simp at h; omega
theorem near_far : ∀ {l : List Tb}, Wk l → (∀ t ∈ l, mayT t = true) → nearT l = true → Far l
  | [], _, _, _ => List.Pairwise.nil
  | [a], _, _, _ => List.pairwise_singleton _ _
  | a :: b :: r, hw, hm, hn => by
    obtain ⟨h1, h2⟩ := nearT_cons.1 hn
    obtain ⟨w1, w2⟩ := List.pairwise_cons.1 hw
    have ih := near_far w2 (fun t ht => hm t (by simp at ht ⊢; exact .inr ht)) h2
    refine List.pairwise_cons.2 ⟨fun c hc p1 p2 => ?_, ih⟩
    rcases List.mem_cons.1 hc with rfl | hc
    · exact h1 p1 p2
    · obtain ⟨v1, v2⟩ := List.pairwise_cons.1 w2
      have l1 := wk_lv (w1 b (by simp))
      have l2 := wk_lv (v1 c hc)
      have q1 := h1 (by omega) (by omega)
      have q2 := (List.pairwise_cons.1 ih).1 c hc p1 (by omega)
      have q3 := hi_lo (hm b (by simp))
      exact ltB_trans (ltB_le q1 q3) q2
theorem far_near : ∀ {l : List Tb}, Far l → nearT l = true
  | [], _ => rfl
  | [a], _ => rfl
  | a :: b :: r, h => nearT_cons.2 ⟨fun p1 p2 => (List.pairwise_cons.1 h).1 b (by simp) p1 p2, far_near (List.pairwise_cons.1 h).2⟩
theorem far_apt {l : List Tb} (h : Far l) : Apt l := h.imp fun {a b} k => by
  cases e : touchT a b with
  | false => rfl
  | true =>
    obtain ⟨h1, h2, h3, h4⟩ := touchT_iff.1 e
    rw [k (by omega) h2.symm] at h3
    cases h3
theorem apt_far {l : List Tb} (hw : Wk l) (hm : ∀ t ∈ l, mayT t = true) (h : Apt l) : Far l := by
  refine (List.Pairwise.and hw h).imp_of_mem fun {a b} ha hb k p1 p2 => ?_
  obtain ⟨k1, k2⟩ := k
  cases e : ltB a.2.2.2 b.2.2.1 with
  | true => rfl
  | false =>
    exfalso
    cases e2 : ltB b.2.2.2 a.2.2.1 with
    | true =>
      have q1 : ltB b.2.2.1 a.2.2.1 = true := le_ltB (hi_lo (hm b hb)) e2
      rw [lessT_lo p2 (by omega), q1] at k1
      cases k1
    | false => rw [touchT_iff.2 ⟨by omega, p2.symm, e, e2⟩] at k2; cases k2
/-- What is in order, apart, each with a number of its own, is in strict order. -/
theorem wk_sr {l : List Tb} (hw : Wk l) (hm : ∀ t ∈ l, mayT t = true) (ha : Apt l) (hn : (l.map (·.1)).Nodup) : Sr l := by
  have hn' : l.Pairwise fun a b => a.1 ≠ b.1 := List.pairwise_map.1 hn
  refine ((List.Pairwise.and hw ha).and hn').imp_of_mem fun {a b} hma hmb k => ?_
  obtain ⟨⟨k1, k2⟩, k3⟩ := k
  cases e : lessT a b with
  | true => rfl
  | false =>
    exfalso
    have lv : a.2.1 = b.2.1 := by have := wk_lv k1; have := wk_lv e; omega
    by_cases h0 : a.2.1 = 0
    · rw [lessT_zero lv h0] at e
      rw [lessT_zero lv.symm (by omega)] at k1
      simp at e k1; omega
    · rw [lessT_lo lv h0] at e
      rw [lessT_lo lv.symm (by omega)] at k1
      have hlo := ltB_total e k1
      have m1 := (mayT_iff.1 (hm a hma)).2.1
      have q1 := hi_lo (hm a hma)
      have q2 := hi_lo (hm b hmb)
      rw [touchT_iff.2 ⟨by omega, lv, by rw [← hlo]; exact q1, by rw [hlo]; exact q2⟩] at k2
      cases k2
theorem sr_wk {l : List Tb} (h : Sr l) : Wk l := h.imp fun k => lessT_asymm k
theorem sr_eq {l l' : List Tb} (h : Sr l) (h' : Sr l') (hp : l.Perm l') : l = l' :=
  List.Perm.eq_of_pairwise (le := fun a b => lessT a b = true) (fun a b _ _ k1 k2 => by rw [lessT_asymm k1] at k2; cases k2) h h' hp
/-- Two ways to put the same tables in order. -/
theorem wk_eq {l l' : List Tb} (hw : Wk l) (hw' : Wk l') (hp : l.Perm l') (hm : ∀ t ∈ l, mayT t = true) (hn : (l.map (·.1)).Nodup) (ha : Apt l) : l = l' := by
  have hm' : ∀ t ∈ l', mayT t = true := fun t ht => hm t (hp.mem_iff.2 ht)
  have hn' : (l'.map (·.1)).Nodup := (hp.map _).nodup_iff.1 hn
  exact sr_eq (wk_sr hw hm ha hn) (wk_sr hw' hm' ((Apt.perm hp).1 ha) hn') hp
/-- Tables with one more, in order. -/
def putT (l : List Tb) (t : Tb) : List Tb := l.takeWhile (fun x => lessT x t) ++ t :: l.dropWhile (fun x => lessT x t)
theorem putT_perm (l : List Tb) (t : Tb) : (putT l t).Perm (t :: l) := by
  unfold putT
  refine List.perm_middle.trans (List.Perm.cons _ ?_)
  rw [List.takeWhile_append_dropWhile]
theorem drop_wk : ∀ {l : List Tb} {t : Tb}, Wk l → ∀ x ∈ l.dropWhile (fun x => lessT x t), lessT x t = false
  | [], _, _, x, hx => by simp at hx
  | a :: l, t, h, x, hx => by
    obtain ⟨h1, h2⟩ := List.pairwise_cons.1 h
    cases e : lessT a t with
    | true => rw [List.dropWhile_cons, e] at hx; exact drop_wk h2 x (by simpa using hx)
    | false =>
      rw [List.dropWhile_cons, e] at hx
      simp at hx
      rcases hx with rfl | hx
      · exact e
      · exact lessT_ntrans (h1 x hx) e
theorem take_all : ∀ {l : List Tb} {t x : Tb}, x ∈ l.takeWhile (fun x => lessT x t) → lessT x t = true
  | [], _, _, h => by simp at h
  | a :: l, t, x, h => by
    rw [List.takeWhile_cons] at h
    cases e : lessT a t with
    | true =>
      rw [e] at h
      simp at h
      rcases h with rfl | h
      · exact e
      · exact take_all h
    | false => rw [e] at h; simp at h
theorem putT_wk {l : List Tb} {t : Tb} (h : Wk l) : Wk (putT l t) := by
  unfold putT
  have hs := h
  rw [← List.takeWhile_append_dropWhile (p := fun x => lessT x t) (l := l)] at hs
  obtain ⟨s1, s2, s3⟩ := List.pairwise_append.1 hs
  refine List.pairwise_append.2 ⟨s1, List.pairwise_cons.2 ⟨fun x hx => drop_wk h x hx, s2⟩, fun a ha b hb => ?_⟩
  rcases List.mem_cons.1 hb with rfl | hb
  · exact lessT_asymm (take_all ha)
  · exact s3 a ha b hb
theorem putsT_perm : ∀ (ts l : List Tb), (ts.foldl putT l).Perm (l ++ ts)
  | [], l => by simp
  | t :: ts, l => by
    rw [List.foldl_cons]
    refine (putsT_perm ts _).trans ?_
    refine ((putT_perm l t).append_right ts).trans ?_
    exact (List.perm_middle (a := t) (l₁ := l) (l₂ := ts)).symm
theorem putsT_wk : ∀ (ts l : List Tb), Wk l → Wk (ts.foldl putT l)
  | [], l, h => h
  | t :: ts, l, h => putsT_wk ts _ (putT_wk h)
/-- Tables less those whose numbers go. -/
def keptT (s : List Tb) (drop : List Int) : List Tb := s.filter fun t => !drop.contains t.1
/-- Does an edit fit tables? -/
def fitT (s : List Tb) (e : Ed) : Bool :=
  (e.2.1.all fun x => s.any fun t => t.1 == x) && decide e.2.1.Nodup && (e.1.all fun t => (s.all fun u => !(u.1 == t.1)) && decide (t.1 < e.2.2.2)) && decide (e.1.map (·.1)).Nodup
theorem fitT_iff {s : List Tb} {e : Ed} : fitT s e = true ↔ (∀ x ∈ e.2.1, ∃ t ∈ s, t.1 = x) ∧ e.2.1.Nodup ∧ (∀ t ∈ e.1, (∀ u ∈ s, ¬ u.1 = t.1) ∧ t.1 < e.2.2.2) ∧ (e.1.map (·.1)).Nodup := by
  unfold fitT
  simp [and_assoc]
def nextT (s : List Tb) (e : Ed) : List Tb := e.1.foldl putT (keptT s e.2.1)
/-- What an edit makes of tables; none: it does not fit. -/
def appT (s : List Tb) (log next : Int) (e : Ed) : Option (List Tb) :=
  if decide (log ≤ e.2.2.1) && decide (next ≤ e.2.2.2) && fitT s e && decide (Apt (nextT s e)) then some (nextT s e) else none
/-- What is kept of a state. -/
structure OkT (s : List Tb) (next : Int) : Prop where
  sr : Sr s
  may : ∀ t ∈ s, mayT t = true
  ids : (s.map (·.1)).Nodup
  apt : Apt s
  lt : ∀ t ∈ s, t.1 < next
theorem OkT.nil (n : Int) : OkT [] n := ⟨List.Pairwise.nil, fun t h => by simp at h, by simp, List.Pairwise.nil, fun t h => by simp at h⟩
theorem kept_sub (s : List Tb) (d : List Int) : (keptT s d).Sublist s := List.filter_sublist
theorem all_ids {s : List Tb} {next : Int} (h : OkT s next) {e : Ed} (hf : fitT s e = true) : ((keptT s e.2.1 ++ e.1).map (·.1)).Nodup := by
  obtain ⟨f1, f2, f3, f4⟩ := fitT_iff.1 hf
  rw [List.map_append]
  refine List.nodup_append.2 ⟨((kept_sub s e.2.1).map _).nodup h.ids, f4, fun a ha b hb => ?_⟩
  obtain ⟨t, ht, rfl⟩ := List.mem_map.1 ha
  obtain ⟨u, hu, rfl⟩ := List.mem_map.1 hb
  exact (f3 u hu).1 t ((kept_sub s e.2.1).subset ht)
theorem all_may {s : List Tb} {next : Int} (h : OkT s next) {e : Ed} (he : mayEd e = true) : ∀ t ∈ keptT s e.2.1 ++ e.1, mayT t = true := fun t ht => by
  rcases List.mem_append.1 ht with ht | ht
  · exact h.may t ((kept_sub s e.2.1).subset ht)
  · exact (mayEd_iff.1 he).2.2.1 t ht
theorem next_perm (s : List Tb) (e : Ed) : (nextT s e).Perm (keptT s e.2.1 ++ e.1) := putsT_perm _ _
theorem next_wk {s : List Tb} {next : Int} (h : OkT s next) (e : Ed) : Wk (nextT s e) := putsT_wk _ _ ((sr_wk h.sr).sublist (kept_sub s e.2.1))
/-- The code's way: all tables, put in order at once, held against their neighbours. -/
theorem near_next {s : List Tb} {next : Int} (h : OkT s next) {e : Ed} (he : mayEd e = true) (hf : fitT s e = true) {L : List Tb} (hp : L.Perm (keptT s e.2.1 ++ e.1)) (hw : Wk L) :
    (nearT L = true ↔ Apt (nextT s e)) ∧ (nearT L = true → L = nextT s e) := by
  have hm : ∀ t ∈ L, mayT t = true := fun t ht => all_may h he t (hp.mem_iff.1 ht)
  have hpn : L.Perm (nextT s e) := hp.trans (next_perm s e).symm
  have hn : (L.map (·.1)).Nodup := (hp.map _).nodup_iff.2 (all_ids h hf)
  have key : nearT L = true ↔ Apt L := ⟨fun k => far_apt (near_far hw hm k), fun k => far_near (apt_far hw hm k)⟩
  exact ⟨key.trans (Apt.perm hpn), fun k => wk_eq hw (next_wk h e) hpn hm hn (key.1 k)⟩
theorem next_ok {s : List Tb} {log next : Int} (h : OkT s next) {e : Ed} (he : mayEd e = true) {L : List Tb} (ha : appT s log next e = some L) :
    OkT L e.2.2.2 ∧ log ≤ e.2.2.1 ∧ next ≤ e.2.2.2 ∧ L = nextT s e ∧ fitT s e = true ∧ L.length ≤ s.length + 128 := by
  unfold appT at ha
  split at ha
  · rename_i hc
    simp only [Bool.and_eq_true, decide_eq_true_eq] at hc
    obtain ⟨⟨⟨c1, c2⟩, c3⟩, c4⟩ := hc
    cases ha
    have hm : ∀ t ∈ nextT s e, mayT t = true := fun t ht => all_may h he t ((next_perm s e).mem_iff.1 ht)
    have hn : ((nextT s e).map (·.1)).Nodup := ((next_perm s e).map _).nodup_iff.2 (all_ids h c3)
    refine ⟨⟨wk_sr (next_wk h e) hm c4 hn, hm, hn, c4, fun t ht => ?_⟩, c1, c2, rfl, c3, ?_⟩
    · rcases List.mem_append.1 ((next_perm s e).mem_iff.1 ht) with ht | ht
      · have := h.lt t ((kept_sub s e.2.1).subset ht); omega
      · exact ((fitT_iff.1 c3).2.2.1 t ht).2
    · rw [(next_perm s e).length_eq, List.length_append]
      have := (kept_sub s e.2.1).length_le
      have := (mayEd_iff.1 he).1
      omega
  · cases ha
end Go.Proofs.Ythmkalnbdocdcaa
