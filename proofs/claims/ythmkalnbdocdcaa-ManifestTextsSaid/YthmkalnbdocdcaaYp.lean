/-
  Layer 12 (manifest): the walk of the document's Take. Conditions: at most 2^24 bytes.
-/
import Derived.Test.YthmkalnbdocdcaaYo
import Derived.Deep.DeepCutAuto
import Derived.Deep.CutRange
namespace Go.Proofs.Ythmkalnbdocdcaa
set_option maxRecDepth 100000
open Go.RowKit
set_option linter.unusedVariables false
set_option linter.unusedSimpArgs false

/-- A box of four cells that may be written. -/
def B4 (w : World) (x : Nat) (a b c d : Value) : Prop := (w.cell? ⟨x, 0, none⟩ = some a ∧ w.cell? ⟨x, 1, none⟩ = some b ∧ w.cell? ⟨x, 2, none⟩ = some c ∧ w.cell? ⟨x, 3, none⟩ = some d) ∧ EdFree w x ∧ x < w.heap.size
theorem B4.new (w : World) (T : TypeId) (a b c d : Value) : B4 (w.alloc (.cells #[a, b, c, d] T)) w.heap.size a b c d := ⟨⟨by simp, by simp, by simp, by simp⟩, ⟨by simp, by simp, by simp, by simp⟩, by simp⟩
theorem B4.keep {w w' : World} {x : Nat} {a b c d : Value} {X : Nat → Prop} (h : B4 w x a b c d) (hk : KeepX X w w') (hx : ¬ X x) : B4 w' x a b c d := by
  obtain ⟨⟨h1, h2, h3, h4⟩, ⟨f1, f2, f3, f4⟩, h5⟩ := h
  exact ⟨⟨(hk.cell h5 hx 0).1.trans h1, (hk.cell h5 hx 1).1.trans h2, (hk.cell h5 hx 2).1.trans h3, (hk.cell h5 hx 3).1.trans h4⟩, ⟨(hk.cell h5 hx 0).2.trans f1, (hk.cell h5 hx 1).2.trans f2, (hk.cell h5 hx 2).2.trans f3, (hk.cell h5 hx 3).2.trans f4⟩, Nat.lt_of_lt_of_le h5 hk.2⟩
theorem B4.set1 {w : World} {x : Nat} {a b c d : Value} (h : B4 w x a b c d) (v : Value) : B4 (w.setCell ⟨x, 1, none⟩ v) x a v c d := by
  obtain ⟨⟨h1, h2, h3, h4⟩, ⟨f1, f2, f3, f4⟩, h5⟩ := h
  refine ⟨⟨?_, World.cell?_setCell_same' _ _ _ (by rw [h2]; rfl), ?_, ?_⟩, ⟨?_, ?_, ?_, ?_⟩, by simpa using h5⟩
  all_goals first | (rw [World.cell?_setCell_other _ _ _ _ (by intro e; simp at e)]; assumption) | (rw [World.frozen?_setCell]; assumption)
theorem B4.set2 {w : World} {x : Nat} {a b c d : Value} (h : B4 w x a b c d) (v : Value) : B4 (w.setCell ⟨x, 2, none⟩ v) x a b v d := by
  obtain ⟨⟨h1, h2, h3, h4⟩, ⟨f1, f2, f3, f4⟩, h5⟩ := h
  refine ⟨⟨?_, ?_, World.cell?_setCell_same' _ _ _ (by rw [h3]; rfl), ?_⟩, ⟨?_, ?_, ?_, ?_⟩, by simpa using h5⟩
  all_goals first | (rw [World.cell?_setCell_other _ _ _ _ (by intro e; simp at e)]; assumption) | (rw [World.frozen?_setCell]; assumption)
theorem B4.set3 {w : World} {x : Nat} {a b c d : Value} (h : B4 w x a b c d) (v : Value) : B4 (w.setCell ⟨x, 3, none⟩ v) x a b c v := by
  obtain ⟨⟨h1, h2, h3, h4⟩, ⟨f1, f2, f3, f4⟩, h5⟩ := h
  refine ⟨⟨?_, ?_, ?_, World.cell?_setCell_same' _ _ _ (by rw [h4]; rfl)⟩, ⟨?_, ?_, ?_, ?_⟩, by simpa using h5⟩
  all_goals first | (rw [World.cell?_setCell_other _ _ _ _ (by intro e; simp at e)]; assumption) | (rw [World.frozen?_setCell]; assumption)
theorem keep_new {X : Nat → Prop} {w w' : World} {x i : Nat} (h : KeepX X w w') (hx : w.heap.size ≤ x) (v : Value) : KeepX X w (w'.setCell ⟨x, i, none⟩ v) :=
  ⟨fun y hy hn => by rw [Below.heap_setCell _ _ _ _ (by show y ≠ x; omega)]; exact h.1 y hy hn, by simpa using h.2⟩
theorem RP.keep {P : Nat} {w w' : World} {o : Option (List UInt8)} {X : Nat → Prop} (h : RP P w o) (hk : KeepX X w w') (hx : ¬ X P) : RP P w' o := by
  obtain ⟨s, r, hn, hs, ho⟩ := h
  exact ⟨s, r, hn.keep hk hx, hs, ho⟩
theorem RQ.drew {B0 B P E E0 : Nat} {wb w : World} {o : Option (List UInt8)} {A D : Value} {ts : List Tb} {zs : List Int} {lg nx : Int} (h : RQ B0 B P E E0 wb o A D ts zs lg nx w) : RQ B0 B P E E0 wb o A D ts zs lg nx w.drew := by
  obtain ⟨h1, h3, h4, h5, h6, h7, h8, h9, h10⟩ := h
  exact ⟨h1, h3, h4, h5, h6, h7, h8.drew, h9, h10⟩
theorem RQ.app {B0 B P E E0 : Nat} {wb w w3 : World} {o : Option (List UInt8)} {A A' D : Value} {ts ts' : List Tb} {zs : List Int} {lg nx : Int} (hy : LQ B0 B P E E0) (h : RQ B0 B P E E0 wb o A D ts zs lg nx w) (hb : Below B w w3)
    (h5' : w3.ownsRow B 49 4 A' ts'.length (tv4 ts')) (h6' : w3.ownsRow B 3 1 D zs.length (iv zs)) (hok : okT ts') : RQ B0 B P E E0 wb o A' D ts' zs lg nx (w3.setCell ⟨E, 0, none⟩ A') := by
  obtain ⟨y0, y1, y2⟩ := hy
  obtain ⟨h1, h3, h4, h5, h6, h7, h8, h9, h10⟩ := h
  have k1 := KeepX.ofB hb
  have k2 : KeepX (fun y => y = E) w3 (w3.setCell ⟨E, 0, none⟩ A') := (KeepX.refl (fun y => y = E) w3).set (p := ⟨E, 0, none⟩) rfl A'
  have n5 : ∀ g, B ≤ g → g < w3.heap.size → (w3.setCell ⟨E, 0, none⟩ A').heap[g]? = w3.heap[g]? := fun g hg hl => k2.1 g hl (by omega)
  have s1 : ¬ B ≤ P := by omega
  have s5 : ¬ B ≤ E := by omega
  have s6 : ¬ B ≤ E0 := by omega
  exact ⟨(h1.keep k1 s1).keep k2 (by omega), (h3.keep k1 s5).set0 A', (h4.keep k1 s6).keep k2 (by omega), own_keep h5' n5, own_keep h6' n5, hok, h8.trans ((hb.mono h10).setCell (p := ⟨E, 0, none⟩) (by show B0 ≤ E; omega) _), by simpa using Nat.le_trans h9 hb.size, h10⟩
theorem RQ.app1 {B0 B P E E0 : Nat} {wb w w3 : World} {o : Option (List UInt8)} {A D' D : Value} {ts : List Tb} {zs zs' : List Int} {lg nx : Int} (hy : LQ B0 B P E E0) (h : RQ B0 B P E E0 wb o A D ts zs lg nx w) (hb : Below B w w3)
    (h5' : w3.ownsRow B 49 4 A ts.length (tv4 ts)) (h6' : w3.ownsRow B 3 1 D' zs'.length (iv zs')) : RQ B0 B P E E0 wb o A D' ts zs' lg nx (w3.setCell ⟨E, 1, none⟩ D') := by
  obtain ⟨y0, y1, y2⟩ := hy
  obtain ⟨h1, h3, h4, h5, h6, h7, h8, h9, h10⟩ := h
  have k1 := KeepX.ofB hb
  have k2 : KeepX (fun y => y = E) w3 (w3.setCell ⟨E, 1, none⟩ D') := (KeepX.refl (fun y => y = E) w3).set (p := ⟨E, 1, none⟩) rfl D'
  have n5 : ∀ g, B ≤ g → g < w3.heap.size → (w3.setCell ⟨E, 1, none⟩ D').heap[g]? = w3.heap[g]? := fun g hg hl => k2.1 g hl (by omega)
  have s1 : ¬ B ≤ P := by omega
  have s5 : ¬ B ≤ E := by omega
  have s6 : ¬ B ≤ E0 := by omega
  exact ⟨(h1.keep k1 s1).keep k2 (by omega), (h3.keep k1 s5).set1 D', (h4.keep k1 s6).keep k2 (by omega), own_keep h5' n5, own_keep h6' n5, h7, h8.trans ((hb.mono h10).setCell (p := ⟨E, 1, none⟩) (by show B0 ≤ E; omega) _), by simpa using Nat.le_trans h9 hb.size, h10⟩
theorem RQ.setL {B0 B P E E0 : Nat} {wb w : World} {o : Option (List UInt8)} {A D : Value} {ts : List Tb} {zs : List Int} {lg nx : Int} (hy : LQ B0 B P E E0) (h : RQ B0 B P E E0 wb o A D ts zs lg nx w) (z : Int) :
    RQ B0 B P E E0 wb o A D ts zs z nx (w.setCell ⟨E, 2, none⟩ (.int .i64 z)) := by
  obtain ⟨y0, y1, y2⟩ := hy
  obtain ⟨h1, h3, h4, h5, h6, h7, h8, h9, h10⟩ := h
  have k2 : KeepX (fun y => y = E) w (w.setCell ⟨E, 2, none⟩ (.int .i64 z)) := (KeepX.refl (fun y => y = E) w).set (p := ⟨E, 2, none⟩) rfl _
  have n5 : ∀ g, B ≤ g → g < w.heap.size → (w.setCell ⟨E, 2, none⟩ (.int .i64 z)).heap[g]? = w.heap[g]? := fun g hg hl => k2.1 g hl (by omega)
  exact ⟨h1.keep k2 (by omega), h3.set2 z, h4.keep k2 (by omega), own_keep h5 n5, own_keep h6 n5, h7, h8.setCell (p := ⟨E, 2, none⟩) (by show B0 ≤ E; omega) _, by simpa using h9, h10⟩
theorem RQ.setN {B0 B P E E0 : Nat} {wb w : World} {o : Option (List UInt8)} {A D : Value} {ts : List Tb} {zs : List Int} {lg nx : Int} (hy : LQ B0 B P E E0) (h : RQ B0 B P E E0 wb o A D ts zs lg nx w) (z : Int) :
    RQ B0 B P E E0 wb o A D ts zs lg z (w.setCell ⟨E, 3, none⟩ (.int .i64 z)) := by
  obtain ⟨y0, y1, y2⟩ := hy
  obtain ⟨h1, h3, h4, h5, h6, h7, h8, h9, h10⟩ := h
  have k2 : KeepX (fun y => y = E) w (w.setCell ⟨E, 3, none⟩ (.int .i64 z)) := (KeepX.refl (fun y => y = E) w).set (p := ⟨E, 3, none⟩) rfl _
  have n5 : ∀ g, B ≤ g → g < w.heap.size → (w.setCell ⟨E, 3, none⟩ (.int .i64 z)).heap[g]? = w.heap[g]? := fun g hg hl => k2.1 g hl (by omega)
  exact ⟨h1.keep k2 (by omega), h3.set3 z, h4.keep k2 (by omega), own_keep h5 n5, own_keep h6 n5, h7, h8.setCell (p := ⟨E, 3, none⟩) (by show B0 ≤ E; omega) _, by simpa using h9, h10⟩
theorem endx_t {T : Option (List Tb × List UInt8)} {n k : Nat} {oi : Option (List UInt8)} {xs : List Tb} {r : Bool} (hk : k ≤ n) (hl : xs.length = k ∧ k ≤ 129) (ht : n ≤ 128 → TillT T n k oi xs) (h1 : ∀ l, oi = some l → r = true) (h2 : oi = none → r = false) (hc : (decide (k < n) && decide (k < 129) && r) = false) : EndX T n oi xs := by
  refine ⟨fun hn => ?_, fun hn => ?_⟩
  · cases oi with
    | none =>
      rw [(ht hn).1 rfl]
      exact ⟨rfl, fun p hp => by cases hp⟩
    | some l =>
      have hr := h1 l rfl
      rw [hr] at hc
      simp at hc
      have hkn : k = n := by omega
      have h := (ht hn).2 l rfl
      rw [show n - k = 0 by omega, rdTs_zero] at h
      simp only [Option.map_some, List.append_nil] at h
      rw [h]
      exact ⟨rfl, fun p hp => by cases hp; rfl⟩
  · cases oi with
    | none => exact .inl rfl
    | some l =>
      have hr := h1 l rfl
      rw [hr] at hc
      simp at hc
      exact .inr (by omega)
theorem endx_z {T : Option (List Int × List UInt8)} {n k : Nat} {oi : Option (List UInt8)} {xs : List Int} {r : Bool} (hk : k ≤ n) (hl : xs.length = k ∧ k ≤ 129) (ht : n ≤ 128 → TillZ T n k oi xs) (h1 : ∀ l, oi = some l → r = true) (h2 : oi = none → r = false) (hc : (decide (k < n) && decide (k < 129) && r) = false) : EndX T n oi xs := by
  refine ⟨fun hn => ?_, fun hn => ?_⟩
  · cases oi with
    | none =>
      rw [(ht hn).1 rfl]
      exact ⟨rfl, fun p hp => by cases hp⟩
    | some l =>
      have hr := h1 l rfl
      rw [hr] at hc
      simp at hc
      have hkn : k = n := by omega
      have h := (ht hn).2 l rfl
      rw [show n - k = 0 by omega, rdZs_zero] at h
      simp only [Option.map_some, List.append_nil] at h
      rw [h]
      exact ⟨rfl, fun p hp => by cases hp; rfl⟩
  · cases oi with
    | none => exact .inl rfl
    | some l =>
      have hr := h1 l rfl
      rw [hr] at hc
      simp at hc
      exact .inr (by omega)
theorem till_t0 {T : Option (List Tb × List UInt8)} {n : Nat} {o1 : Option (List UInt8)} (h : T = o1.bind (rdTs n)) : TillT T n 0 o1 [] := by
  rw [h]
  refine ⟨fun e => by rw [e]; rfl, fun li e => ?_⟩
  rw [e, Option.bind_some, Nat.sub_zero]
  cases rdTs n li <;> simp
theorem till_z0 {T : Option (List Int × List UInt8)} {n : Nat} {o1 : Option (List UInt8)} (h : T = o1.bind (rdZs n)) : TillZ T n 0 o1 [] := by
  rw [h]
  refine ⟨fun e => by rw [e]; rfl, fun li e => ?_⟩
  rw [e, Option.bind_some, Nat.sub_zero]
  cases rdZs n li <;> simp
set_option maxRecDepth 1000000 in
set_option maxHeartbeats 32000000 in
theorem rtake12_any (s : ByteArray) (hs : s.size ≤ 16777216) (w : World) : Calls Try.prog 14 #[.string s] w (TKE s w) := by
  obtain ⟨i0, hi0, hz0, hz1, hz2⟩ := info_parts Try.infoTab
  obtain ⟨j0, hj0, jz0, jz1, jz2⟩ := info_parts Try.infoInt
  have H0 : Hid (RQ w.heap.size (w.heap.size + 1 + 1 + 1) (w.heap.size + 1) (w.heap.size + 1 + 1) w.heap.size w (some s.data.toList) (.slice none 0 0) (.slice none 0 0) [] [] 0 0
      (((w.alloc (.cells #[.slice none 0 0, .slice none 0 0, .int .i64 0, .int .i64 0] 25)).alloc (.cells #[.string s, .bool true] 73)).alloc (.cells #[.slice none 0 0, .slice none 0 0, .int .i64 0, .int .i64 0] 25))) := Lib.hid (by
    generalize hW1 : w.alloc (.cells #[.slice none 0 0, .slice none 0 0, .int .i64 0, .int .i64 0] 25) = W1
    have z1 : W1.heap.size = w.heap.size + 1 := by rw [← hW1]; simp
    have g1 : EdW W1 w.heap.size (.slice none 0 0) (.slice none 0 0) 0 0 := by rw [← hW1]; exact EdW.new _ _ _ _ _ _
    have t1 : Below w.heap.size w W1 := by rw [← hW1]; exact box_bel _ _
    clear hW1
    generalize hW2 : W1.alloc (.cells #[.string s, .bool true] 73) = W2
    have z2 : W2.heap.size = w.heap.size + 1 + 1 := by rw [← hW2, ← z1]; simp
    have k2 := box_bel W1 (.cells #[.string s, .bool true] 73)
    have q2 : NP W1.heap.size (W1.alloc (.cells #[.string s, .bool true] 73)) s true := ⟨⟨by simp, by simp⟩, ⟨by simp, by simp⟩, by simp⟩
    rw [hW2] at q2 k2
    have g2 := g1.keep (X := fun _ => False) (KeepX.of k2) id
    rw [z1] at q2 k2
    have t2 := t1.trans (k2.mono (by omega))
    clear hW2 k2 t1 g1
    generalize hW3 : W2.alloc (.cells #[.slice none 0 0, .slice none 0 0, .int .i64 0, .int .i64 0] 25) = W3
    have z3 : W3.heap.size = w.heap.size + 1 + 1 + 1 := by rw [← hW3, ← z2]; simp
    have k3 := box_bel W2 (.cells #[.slice none 0 0, .slice none 0 0, .int .i64 0, .int .i64 0] 25)
    have h3 := EdW.new W2 25 (.slice none 0 0) (.slice none 0 0) 0 0
    rw [hW3] at k3 h3
    have g3 := g2.keep (X := fun _ => False) (KeepX.of k3) id
    have q3 := q2.keep (X := fun _ => False) (KeepX.of k3) id
    rw [z2] at k3 h3
    have t3 := t2.trans (k3.mono (by omega))
    exact ⟨⟨s, true, q3, hs, fun l hl => ⟨rfl, by simpa using hl⟩, fun hl => by cases hl⟩, h3, g3, World.ownsRow_nil _ _ _ _, World.ownsRow_nil _ _ _ _, fun t ht => by simp at ht, t3, by omega, by omega⟩)
  have hy : LQ w.heap.size (w.heap.size + 1 + 1 + 1) (w.heap.size + 1) (w.heap.size + 1 + 1) w.heap.size := by unfold LQ; omega
  go_enter Try.func14, Try.ntmps14
  go_wp2_with fail
  generalize (((w.alloc (.cells #[.slice none 0 0, .slice none 0 0, .int .i64 0, .int .i64 0] 25)).alloc (.cells #[.string s, .bool true] 73)).alloc (.cells #[.slice none 0 0, .slice none 0 0, .int .i64 0, .int .i64 0] 25)) = w0 at *
  obtain ⟨B0, hB0⟩ : ∃ B0, B0 = w.heap.size := ⟨_, rfl⟩
  rw [← hB0] at H0 hy ⊢
  obtain ⟨P, hP⟩ : ∃ P, P = B0 + 1 := ⟨_, rfl⟩
  rw [← hP] at H0 hy ⊢
  obtain ⟨E, hE⟩ : ∃ E, E = P + 1 := ⟨_, rfl⟩
  rw [← hE] at H0 hy ⊢
  obtain ⟨B, hB⟩ : ∃ B, B = E + 1 := ⟨_, rfl⟩
  rw [← hB] at H0 hy
  have HY := Lib.hid hy
  have HB0 := Lib.hid hB0
  clear hy hB0 hP hE hB
  refine (num_q HY.out H0.out).mono ?_
  rintro e w1 ⟨n, rfl, hn, r1, p1, -, -⟩
  have HR1 := Lib.hid r1
  have HPA := Lib.hid p1
  clear r1 p1 H0
  obtain ⟨T, hT⟩ : ∃ T, T = (((some s.data.toList).bind rdN).map (·.2)).bind (rdTs n) := ⟨_, rfl⟩
  have HT := Lib.hid hT
  clear hT
  go_wp2_with fail
  go_loopw [7, 8] (fun i _ wr => ∃ (k : Nat) (oi : Option (List UInt8)) (A : Value) (ts : List Tb), i = .int .i64 k ∧ k ≤ n ∧ Hid (ts.length = k ∧ k ≤ 129) ∧ Hid (RQ B0 B P E B0 w oi A (.slice none 0 0) ts [] 0 0 wr) ∧ Hid (n ≤ 128 → TillT T n k oi ts)) (fun i _ _ => n - (intOf i).toNat)
  case atStart => exact ⟨0, _, _, [], rfl, by omega, Lib.hid ⟨rfl, by omega⟩, HR1, Lib.hid fun _ => till_t0 HT.out⟩
  case round =>
    clear HR1
    obtain ⟨k, oi, A, ts, rfl, hk, HL, HR, HI⟩ := hrel
    obtain ⟨s1, r1, hns, hsz, ho1, ho2⟩ := HR.out.1
    have HO := Lib.hid (And.intro ho1 ho2)
    obtain ⟨⟨c1, c2⟩, ⟨d1, d2⟩, hPl⟩ := hns
    obtain ⟨cc, hcc⟩ : ∃ cc, cc = (decide (k < n) && decide (k < 129) && r1) := ⟨_, rfl⟩
    have HCC := Lib.hid hcc
    clear ho1 ho2
    go_upto_region 5 with fail
    go_cut [29] from 17 to 29 (fun s9 wx => s9 = .bool cc ∧ wx = wr)
    case first =>
      by_cases q1 : k < n
      · have q1z : (k : Int) < (n : Int) := by omega
        by_cases q2 : k < 129
        · have q2z : (k : Int) < 129 := by omega
          obtain rfl : cc = r1 := by rw [hcc]; simp [q1, q2]
          clear hcc
          go_wp2_with fail
          go_meet
          case rel => exact ⟨rfl, rfl⟩
        · have q2z : ¬ (k : Int) < 129 := by omega
          obtain rfl : cc = false := by rw [hcc]; simp [q2]
          clear hcc
          go_wp2_with fail
          go_meet
          case rel => exact ⟨rfl, rfl⟩
      · have q1z : ¬ (k : Int) < (n : Int) := by omega
        obtain rfl : cc = false := by rw [hcc]; simp [q1]
        clear hcc
        go_wp2_with fail
        go_meet
        case rel => exact ⟨rfl, rfl⟩
    case rest =>
    obtain ⟨rfl, rfl⟩ := hcut
    clear hcc
    cases cc with
    | true =>
      have hcc := HCC.out
      simp only [Bool.true_eq, Bool.and_eq_true, decide_eq_true_eq] at hcc
      obtain ⟨⟨q1, q2⟩, q3⟩ := hcc
      obtain ⟨li, hli⟩ : ∃ li, oi = some li := by
        cases oi with
        | none => have := HO.out.2 rfl; rw [q3] at this; cases this
        | some l => exact ⟨l, rfl⟩
      subst hli
      clear c1 c2 d1 d2 hPl HCC HO q3
      rename World => wo
      go_wp2_with fail
      refine (num_q HY.out HR.out).mono ?_
      rintro e w2 ⟨n1, rfl, hn1, r2, p1, -, -⟩
      have HR2 := Lib.hid r2
      have HP1 := Lib.hid p1
      have hB2 : B ≤ w2.heap.size := r2.2.2.2.2.2.2.2.1
      have hPB : P < B ∧ E < B := ⟨HY.out.2.1.1, HY.out.2.1.2.1⟩
      have HAL := Lib.hid (box_bel w2 (.cells #[.int .i64 (n1 : Int), .int .i64 0, .string ⟨#[]⟩, .string ⟨#[]⟩] 49))
      have HT0 := Lib.hid (B4.new w2 49 (.int .i64 (n1 : Int)) (.int .i64 0) (.string ⟨#[]⟩) (.string ⟨#[]⟩))
      have HKP : Hid (∀ wi o', KeepX (fun y => y = P) w2 wi → Below B0 w2 wi → RP P wi o' → RQ B0 B P E B0 w o' A (.slice none 0 0) ts [] 0 0 wi) := Lib.hid fun wi o' a b c => RQ.keep HY.out HR2.out a b c
      have hB0B : B0 ≤ B := r2.2.2.2.2.2.2.2.2
      clear r2 p1 HR
      go_wp2_with fail
      obtain ⟨x, hx⟩ : ∃ x, x = w2.heap.size := ⟨_, rfl⟩
      rw [← hx] at HT0 ⊢
      obtain ⟨wa, hwa⟩ : ∃ wa, wa = w2.alloc (.cells #[.int .i64 (n1 : Int), .int .i64 0, .string ⟨#[]⟩, .string ⟨#[]⟩] 49) := ⟨_, rfl⟩
      rw [← hwa] at HT0 HAL ⊢
      have HXX : Hid (w2.heap.size ≤ x) := Lib.hid (by omega)
      have hxP : ¬ x = P := by omega
      have hxE : ¬ x = E := by omega
      have hPx : ¬ P = x := by omega
      have hEx : ¬ E = x := by omega
      have HKa : Hid (KeepX (fun y => y = P) w2 wa ∧ Below B0 w2 wa) := Lib.hid ⟨KeepX.of HAL.out, HAL.out.mono (by omega)⟩
      have HRa := Lib.hid (HKP.out wa _ HKa.out.1 HKa.out.2 (HR2.out.1.keep (X := fun _ => False) (KeepX.of HAL.out) id))
      clear hwa hx HAL
      refine (num_q HY.out HRa.out).mono ?_
      rintro e w3 ⟨n2, rfl, hn2, r3, p2, k3, b3⟩
      have HT3 := Lib.hid (HT0.out.keep k3 hxP)
      have HP2 := Lib.hid p2
      have HK3 : Hid (KeepX (fun y => y = P) w2 (w3.setCell ⟨x, 1, none⟩ (.int .i64 (n2 : Int))) ∧ Below B0 w2 (w3.setCell ⟨x, 1, none⟩ (.int .i64 (n2 : Int)))) := Lib.hid ⟨keep_new (HKa.out.1.trans k3) HXX.out _, (HKa.out.2.trans b3).setCell (p := ⟨x, 1, none⟩) (by show B0 ≤ x; have := HXX.out; omega) _⟩
      have HT3' := Lib.hid (HT3.out.set1 (.int .i64 (n2 : Int)))
      have HR3 := Lib.hid (HKP.out _ _ HK3.out.1 HK3.out.2 (r3.1.keep ((KeepX.refl (fun y => y = x) w3).set (p := ⟨x, 1, none⟩) rfl (.int .i64 (n2 : Int))) hPx))
      obtain ⟨⟨t0, t1, t2, t3⟩, ⟨f0, f1, f2, f3⟩, hx3⟩ := HT3.out
      clear r3 p2 k3 b3 HT0 HKa HRa HT3
      go_wp2_with fail
      clear t0 t1 t2 t3 f0 f1 f2 f3 hx3
      generalize w3.setCell ⟨x, 1, none⟩ (.int .i64 (n2 : Int)) = w3' at *
      refine (txt_q HY.out HR3.out).mono ?_
      rintro e w4 ⟨t3, rfl, ht3, r4, p3, k4, b4⟩
      have HT4 := Lib.hid (HT3'.out.keep k4 hxP)
      have HP3 := Lib.hid p3
      have HK4 : Hid (KeepX (fun y => y = P) w2 (w4.setCell ⟨x, 2, none⟩ (.string ⟨t3.toArray⟩)) ∧ Below B0 w2 (w4.setCell ⟨x, 2, none⟩ (.string ⟨t3.toArray⟩))) := Lib.hid ⟨keep_new (HK3.out.1.trans k4) HXX.out _, (HK3.out.2.trans b4).setCell (p := ⟨x, 2, none⟩) (by show B0 ≤ x; have := HXX.out; omega) _⟩
      have HT4' := Lib.hid (HT4.out.set2 (.string ⟨t3.toArray⟩))
      have HR4 := Lib.hid (HKP.out _ _ HK4.out.1 HK4.out.2 (r4.1.keep ((KeepX.refl (fun y => y = x) w4).set (p := ⟨x, 2, none⟩) rfl (.string ⟨t3.toArray⟩)) hPx))
      obtain ⟨⟨v0, v1, v2, v3⟩, ⟨f0, f1, f2, f3⟩, hx4⟩ := HT4.out
      clear r4 p3 k4 b4 HR3 HT3' HT4 HK3
      go_wp2_with fail
      clear v0 v1 v2 v3 f0 f1 f2 f3 hx4
      generalize w4.setCell ⟨x, 2, none⟩ (.string ⟨t3.toArray⟩) = w4' at *
      refine (txt_q HY.out HR4.out).mono ?_
      rintro e w5 ⟨t4, rfl, ht4, r5, p4, k5, b5⟩
      rw [rdT_step] at r5
      have HT5 := Lib.hid (HT4'.out.keep k5 hxP)
      have HK5 : Hid (KeepX (fun y => y = P) w2 (w5.setCell ⟨x, 3, none⟩ (.string ⟨t4.toArray⟩)) ∧ Below B0 w2 (w5.setCell ⟨x, 3, none⟩ (.string ⟨t4.toArray⟩))) := Lib.hid ⟨keep_new (HK4.out.1.trans k5) HXX.out _, (HK4.out.2.trans b5).setCell (p := ⟨x, 3, none⟩) (by show B0 ≤ x; have := HXX.out; omega) _⟩
      have HT5' := Lib.hid (HT5.out.set3 (.string ⟨t4.toArray⟩))
      have HR5 := Lib.hid (HKP.out _ _ HK5.out.1 HK5.out.2 (r5.1.keep ((KeepX.refl (fun y => y = x) w5).set (p := ⟨x, 3, none⟩) rfl (.string ⟨t4.toArray⟩)) hPx))
      have HV := Lib.hid (rdT_vals HP1.out HP2.out HP3.out p4)
      obtain ⟨⟨v0, v1, v2, v3⟩, ⟨f0, f1, f2, f3⟩, hx5⟩ := HT5.out
      clear r5 p4 k5 b5 HR4 HT4' HT5 HK4 HP1 HP2 HP3
      obtain ⟨aa, ac, rfl⟩ := own_form HR5.out.2.2.2.1 (by decide)
      obtain ⟨tn, htn⟩ : ∃ tn, tn = ts.length := ⟨_, rfl⟩
      have HTN := Lib.hid htn
      rw [← htn] at HR5 HKP HR2 HL
      clear htn HR2 HKP
      obtain ⟨⟨y0, y1, y2, y3, y4⟩, -⟩ := HR5.out.2.1
      obtain ⟨⟨u0, u1, u2, u3⟩, -, hxl⟩ := HT5'.out
      have hrow : (w5.setCell ⟨x, 3, none⟩ (.string ⟨t4.toArray⟩)).ownsRow B 49 4 (.slice aa tn ac) tn (tv4 ts) := by have := HR5.out.2.2.2.1; rwa [← HTN.out] at this
      have HROW := Lib.hid hrow
      have hB5 : B ≤ (w5.setCell ⟨x, 3, none⟩ (.string ⟨t4.toArray⟩)).heap.size := HR5.out.2.2.2.2.2.2.2.1
      obtain ⟨s3, hs3⟩ : ∃ s3 : ByteArray, s3 = ⟨t3.toArray⟩ := ⟨_, rfl⟩
      obtain ⟨s4, hs4⟩ : ∃ s4 : ByteArray, s4 = ⟨t4.toArray⟩ := ⟨_, rfl⟩
      have hok3 : okS s3 := by unfold okS; rw [hs3, mk_size]; omega
      have hok4 : okS s4 := by unfold okS; rw [hs4, mk_size]; omega
      have HOK := Lib.hid (And.intro hok3 hok4)
      rw [← hs3, ← hs4] at HV
      rw [← hs3] at u2
      rw [← hs4] at u3 HROW hrow hB5 y0 y1 y2 y3 y4 u0 u1 u2 HR5
      rw [← hs4]
      rw [← hs4] at hxl
      clear hok3 hok4 hs3 hs4 hrow ht3 ht4 HT5' HK5 hn1 hn2
      have htl : tn ≤ 129 := by have := HL.out; omega
      have H5F : Hid (∀ wq, wq = w5.setCell ⟨x, 3, none⟩ (.string s4) → RQ B0 B P E B0 w (((some li).bind rdT).map (·.2)) (.slice aa tn ac) (.slice none 0 0) ts [] 0 0 wq ∧ wq.ownsRow B 49 4 (.slice aa tn ac) tn (tv4 ts)) := Lib.hid fun wq e => by rw [e]; exact ⟨HR5.out, HROW.out⟩
      clear HR5 HROW
      go_upto_region 11 with fail
      clear v0 v1 v2 v3 f0 f1 f2 f3 hx5
      obtain ⟨wq, hwq⟩ : ∃ wq, wq = w5.setCell ⟨x, 3, none⟩ (.string s4) := ⟨_, rfl⟩
      rw [← hwq] at y0 y1 y2 y3 y4 u0 u1 u2 u3 hB5 ⊢
      rw [← hwq] at hxl
      obtain ⟨hR5, hrow⟩ := H5F.out wq hwq
      have HR5 := Lib.hid hR5
      have HROW := Lib.hid hrow
      clear hR5 hrow H5F hwq
      go_wp2_with (at_builtin; generalize hG : wpList _ _ _ _ _ _ = G)
      rw [← hG]
      clear hG
      refine wpList_append_own _ rfl (.tmp 45) (.tmp 47) 22 rfl B 49 i0 (.agg #[.int .i64 0, .int .i64 0, .string ⟨#[]⟩, .string ⟨#[]⟩]) 4 48 Try.underlying22 hi0 hz0 hz1 hz2 rfl (by decide) _ _ _ rfl (HROW.out.alloc _) ⟨wq.heap.size, 0, none⟩ 1 1 (tv (n1, n2, s3, s4)) rfl rfl ?c1 ?c2 ?c3 ?c4 ?c5 ?_
      case c1 => exact cell_new4 _ _ _ _ _ _
      case c2 => intro u hu; simp [tv] at hu; rcases hu with rfl | rfl | rfl | rfl <;> rfl
      case c3 => unfold maxLen; omega
      case c4 => omega
      case c5 => simp [go_sem]; omega
      intro v' w6 hown6 hgrow _
      obtain ⟨a6, c6, rfl⟩ := own_form hown6 (by decide)
      have hb6 : Below B wq w6 := (((Below.refl B wq).alloc hB5 _).grown hgrow (by simp [go_sem]; omega) (fun k hk => (HROW.out.lt k hk).1))
      have h6 : w6.ownsRow B 3 1 (.slice none 0 0) ([] : List Int).length (iv []) := (HR5.out.2.2.2.2.1.alloc _).kept hgrow (row_apart HROW.out HR5.out.2.2.2.2.1 (by decide))
      rw [tv4_snoc] at hown6
      have hlen : tn + 1 = (ts ++ [((n1 : Int), (n2 : Int), s3, s4)]).length := by rw [List.length_append, ← HTN.out]; rfl
      have h5 : w6.ownsRow B 49 4 (.slice a6 (tn + 1) c6) (ts ++ [((n1 : Int), (n2 : Int), s3, s4)]).length (tv4 (ts ++ [((n1 : Int), (n2 : Int), s3, s4)])) := by rw [← hlen]; exact hown6
      have HFIN := Lib.hid (RQ.app HY.out HR5.out hb6 h5 h6 (fun t ht => by
        rcases List.mem_append.1 ht with ht | ht
        · exact HR5.out.2.2.2.2.2.1 t ht
        · rw [List.mem_singleton.1 ht]; exact HOK.out))
      obtain ⟨⟨z0, z1, z2, z3, z4⟩, m0, m1, m2, m3⟩ := HR5.out.2.1.keep (KeepX.ofB hb6) (by omega)
      clear hown6 hgrow hb6 h6 h5 y0 y1 y2 y3 y4 u0 u1 u2 u3 hxl hlen
      go_wp2_with fail
      go_roundw
      case rel => exact ⟨k + 1, _, _, _, by go_num, by omega, Lib.hid ⟨by rw [List.length_append, ← HTN.out, HL.out.1]; rfl, by omega⟩, HFIN, Lib.hid fun h => TillT.step (HI.out h) q1 HV.out⟩
      case measure => simp [intOf]; omega
    | false =>
      have HX := Lib.hid (endx_t hk HL.out HI.out (fun l hl => (HO.out.1 l hl).1) HO.out.2 HCC.out.symm)
      have hts : ts.length ≤ 129 := by have := HL.out; omega
      clear c1 c2 d1 d2 hPl HCC HO HI HL
      go_wp2_with fail
      refine (num_q HY.out HR.out).mono ?_
      rintro e w2 ⟨m, rfl, hm, r2, p2, -, -⟩
      have HR2 := Lib.hid r2
      have HPM := Lib.hid p2
      obtain ⟨Z, hZ⟩ : ∃ Z, Z = ((oi.bind rdN).map (·.2)).bind (rdZs m) := ⟨_, rfl⟩
      have HZ := Lib.hid hZ
      clear r2 p2 HR hZ
      go_wp2_with fail
      go_loopw [10] (fun i wr => ∃ (k : Nat) (oj : Option (List UInt8)) (D : Value) (zs : List Int), i = .int .i64 k ∧ k ≤ m ∧ Hid (zs.length = k ∧ k ≤ 129) ∧ Hid (RQ B0 B P E B0 w oj A D ts zs 0 0 wr) ∧ Hid (m ≤ 128 → TillZ Z m k oj zs)) (fun i _ => m - (intOf i).toNat)
      case atStart => exact ⟨0, _, _, [], rfl, by omega, Lib.hid ⟨rfl, by omega⟩, HR2, Lib.hid fun _ => till_z0 HZ.out⟩
      case round =>
        clear HR2
        obtain ⟨j, oj, D, zs, rfl, hj, HL, HR, HI⟩ := hrel
        obtain ⟨s2, r2, hns, hsz, ho1, ho2⟩ := HR.out.1
        have HO := Lib.hid (And.intro ho1 ho2)
        obtain ⟨⟨c1, c2⟩, ⟨d1, d2⟩, hPl⟩ := hns
        obtain ⟨cc, hcc⟩ : ∃ cc, cc = (decide (j < m) && decide (j < 129) && r2) := ⟨_, rfl⟩
        have HCC := Lib.hid hcc
        clear ho1 ho2
        go_upto_region 14 with fail
        go_cut [64] from 52 to 64 (fun s9 wx => s9 = .bool cc ∧ wx = wr)
        case first =>
          by_cases q1 : j < m
          · have q1z : (j : Int) < (m : Int) := by omega
            by_cases q2 : j < 129
            · have q2z : (j : Int) < 129 := by omega
              obtain rfl : cc = r2 := by rw [hcc]; simp [q1, q2]
              clear hcc
              go_wp2_with fail
              go_meet
              case rel => exact ⟨rfl, rfl⟩
            · have q2z : ¬ (j : Int) < 129 := by omega
              obtain rfl : cc = false := by rw [hcc]; simp [q2]
              clear hcc
              go_wp2_with fail
              go_meet
              case rel => exact ⟨rfl, rfl⟩
          · have q1z : ¬ (j : Int) < (m : Int) := by omega
            obtain rfl : cc = false := by rw [hcc]; simp [q1]
            clear hcc
            go_wp2_with fail
            go_meet
            case rel => exact ⟨rfl, rfl⟩
        case rest =>
        obtain ⟨rfl, rfl⟩ := hcut
        clear hcc
        cases cc with
        | true =>
          have hcc := HCC.out
          simp only [Bool.true_eq, Bool.and_eq_true, decide_eq_true_eq] at hcc
          obtain ⟨⟨q1, q2⟩, q3⟩ := hcc
          obtain ⟨li, hli⟩ : ∃ li, oj = some li := by
            cases oj with
            | none => have := HO.out.2 rfl; rw [q3] at this; cases this
            | some l => exact ⟨l, rfl⟩
          subst hli
          clear c1 c2 d1 d2 hPl HCC HO q3
          rename World => wo
          obtain ⟨da, dc, rfl⟩ := own_form HR.out.2.2.2.2.1 (by decide)
          obtain ⟨zn, hzn⟩ : ∃ zn, zn = zs.length := ⟨_, rfl⟩
          have HZN := Lib.hid hzn
          rw [← hzn] at HR HL
          have HSTP := Lib.hid (rdZ1_step (some li))
          have H0 := Lib.hid HR.out.drew
          obtain ⟨⟨e0, e1, e2, e3, -⟩, -⟩ := HR.out.2.1
          have hPB : P < B ∧ E < B := ⟨HY.out.2.1.1, HY.out.2.1.2.1⟩
          have hzl : zn ≤ 129 := by have := HL.out; omega
          clear hzn HR
          go_wp2_with fail
          refine mixed_region (D := (fun w' => w'.cell? ⟨E, 1, none⟩ = some (.slice da zn dc))) [0, 1, 2] [3, 4, 5, 6, 7] 7 (by kernel_rfl) (by kernel_rfl) (by decide) (e1) ?_
          simp only [List.filterMap_cons, List.filterMap_nil, List.getElem?_cons_zero, List.getElem?_cons_succ]
          repeat (
            (first
             | (refine calm_move _ rfl ?_)
             | (apply calm_cons
                · (intro w' hw'
                   first | (obtain ⟨hwa', hwb', hwc'⟩ := hw') | (obtain ⟨hwa', hwb'⟩ := hw') | skip
                   go_simp
                   first
                   | done
                   | exact rfl)))
            simp only [Act.put, Act.eval, List.setIfInBounds_toArray, List.set_cons_zero, List.set_cons_succ, Array.getD_eq_getD_getElem?, List.getElem?_toArray, List.getElem?_cons_zero, List.getElem?_cons_succ, Option.getD_some])
          refine calm_nil ?_
          clear e0 e1 e2 e3
          refine loud_cons fun K hK => ?_
          go_wp2_with fail
          refine (num_q HY.out H0.out).mono ?_
          rintro e w4 ⟨n1, rfl, hn1, r1', p1, -, -⟩
          rw [HSTP.out] at r1'
          have HR4 := Lib.hid r1'
          have HV := Lib.hid (rdZ1_vals p1)
          clear r1' p1 H0
          go_wp2
          refine hK _ _ (fun _ => HR4.out.2.1.1.2.1) ?_
          clear hK K
          have hal : Below w4.heap.size w4 (w4.alloc (.cells #[.int .i64 (n1 : Int)] 3)) := box_bel _ _
          have hE4 : E < w4.heap.size := HR4.out.2.1.1.2.2.2.2
          refine loud_cons fun K hK => ?_
          go_wp2_with fail
          refine hK _ _ (fun _ => (hal.cell (p := ⟨E, 1, none⟩) hE4).trans HR4.out.2.1.1.2.1) ?_
          clear hK K
          have hrow : w4.ownsRow B 3 1 (.slice da zn dc) zn (iv zs) := by have := HR4.out.2.2.2.2.1; rwa [← HZN.out] at this
          have HROW := Lib.hid hrow
          have hB4 : B ≤ w4.heap.size := HR4.out.2.2.2.2.2.2.2.1
          refine loud_cons fun K hK => ?_
          go_wp2_with (at_builtin; refine wpList_append_own _ rfl _ _ 23 rfl B 3 j0 (.int .i64 0) 1 8 Try.underlying23 hj0 jz0 jz1 jz2 rfl (by decide) _ _ _ rfl (HROW.out.alloc _) ⟨w4.heap.size, 0, none⟩ 1 1 [.int .i64 (n1 : Int)] rfl rfl ?d1 ?d2 ?d3 ?d4 ?d5 ?_)
          case d1 => exact cell_one1 _ _ _
          case d2 => intro u hu; simp at hu; rw [hu]; rfl
          case d3 => unfold maxLen; omega
          case d4 => omega
          case d5 => simp [go_sem]; omega
          intro v' w5 hown5 hgrow _
          obtain ⟨a5, c5, rfl⟩ := own_form hown5 (by decide)
          have hb5 : Below B w4 w5 := (((Below.refl B w4).alloc hB4 _).grown hgrow (by simp [go_sem]; omega) (fun k hk => (HROW.out.lt k hk).1))
          have h6 : w5.ownsRow B 49 4 A ts.length (tv4 ts) := (HR4.out.2.2.2.1.alloc _).kept hgrow (row_apart HROW.out HR4.out.2.2.2.1 (by decide))
          rw [iv_snoc] at hown5
          have hlen : zn + 1 = (zs ++ [(n1 : Int)]).length := by rw [List.length_append, ← HZN.out]; rfl
          have h5 : w5.ownsRow B 3 1 (.slice a5 (zn + 1) c5) (zs ++ [(n1 : Int)]).length (iv (zs ++ [(n1 : Int)])) := by rw [← hlen]; exact hown5
          have HFIN := Lib.hid (RQ.app1 HY.out HR4.out hb5 h6 h5)
          have hk5 := KeepX.ofB hb5
          have hEW := HR4.out.2.1.keep hk5 (by omega)
          refine hK _ _ (fun _ => hEW.1.2.1) ?_
          clear hK K
          refine loud_cons fun K hK => ?_
          go_wp2_with fail
          refine hK _ _ (fun _ => hEW.1.2.1) ?_
          clear hK K hown5 hgrow hb5 h6 h5 hk5 hlen
          obtain ⟨⟨z0, z1, z2, z3, z4⟩, y0, y1, y2, y3⟩ := hEW
          refine loud_cons fun K hK => ?_
          go_wp2_with fail
          refine hK _ _ (fun h => absurd rfl h) ?_
          clear hK K
          refine loud_nil ?_
          go_wp2_with fail
          go_roundw
          case rel => exact ⟨j + 1, _, _, _, by go_num, by omega, Lib.hid ⟨by rw [List.length_append, ← HZN.out, HL.out.1]; rfl, by omega⟩, HFIN, Lib.hid fun h => TillZ.step (HI.out h) q1 HV.out⟩
          case measure => simp [intOf]; omega
        | false =>
          have HX2 := Lib.hid (endx_z hj HL.out HI.out (fun l hl => (HO.out.1 l hl).1) HO.out.2 HCC.out.symm)
          clear c1 c2 d1 d2 hPl HCC HO HI HL
          go_wp2_with fail
          refine (num_q HY.out HR.out).mono ?_
          rintro e w5 ⟨n1, rfl, hn1, r5, p5, -, -⟩
          have HR5 := Lib.hid (r5.setL HY.out (n1 : Int))
          obtain ⟨⟨y0, y1, y2, y3, y4⟩, x0, x1, x2, x3⟩ := r5.2.1
          have HPL := Lib.hid p5
          clear r5 p5 HR
          go_upto_region 18 with fail
          clear y0 y1 y2 y3 y4 x0 x1 x2 x3
          generalize w5.setCell ⟨E, 2, none⟩ (.int .i64 (n1 : Int)) = w5' at *
          go_wp2_with fail
          refine (num_q HY.out HR5.out).mono ?_
          rintro e w6 ⟨n2, rfl, hn2, r6, p6, -, -⟩
          have HR6 := Lib.hid (r6.setN HY.out (n2 : Int))
          obtain ⟨⟨y0, y1, y2, y3, y4⟩, x0, x1, x2, x3⟩ := r6.2.1
          obtain ⟨o6, ho6⟩ : ∃ o6, o6 = ((((oj.bind rdN).map (·.2)).bind rdN).map (·.2)) := ⟨_, rfl⟩
          have hfi := rfin HPA.out HT.out HX.out HPM.out HZ.out HX2.out HPL.out p6 ho6
          rw [← ho6] at HR6
          have HF := Lib.hid hfi
          clear r6 p6 HR5 hfi ho6 HPL HX2 HX HPM HZ HT HPA
          go_upto_region 19 with fail
          clear y0 y1 y2 y3 y4 x0 x1 x2 x3
          generalize w6.setCell ⟨E, 3, none⟩ (.int .i64 (n2 : Int)) = wz at *
          obtain ⟨aa, ac, rfl, hst⟩ := own_st HR6.out.2.2.2.1 rfl
          obtain ⟨da, dc, rfl, hsz2⟩ := own_sz HR6.out.2.2.2.2.1 rfl
          obtain ⟨s', r', ⟨⟨c1, c2⟩, ⟨d1, d2⟩, hPl⟩, hsz', ho1, ho2⟩ := HR6.out.1
          obtain ⟨⟨y0, y1, y2, y3, y4⟩, -⟩ := HR6.out.2.1
          obtain ⟨⟨z0, z1, z2, z3, z4⟩, x0, x1, x2, x3⟩ := HR6.out.2.2.1
          have HEV : Hid (∀ wf, KeepX (fun y => y < B) wz wf → EV wf (.agg #[.slice aa ts.length ac, .slice da zs.length dc, .int .i64 (n1 : Int), .int .i64 (n2 : Int)]) (ts, zs, (n1 : Int), (n2 : Int))) := Lib.hid (fun wf hk => by
            have nb : ∀ g, B ≤ g → g < wz.heap.size → wf.heap[g]? = wz.heap[g]? := fun g hg hl => hk.1 g hl (by omega)
            obtain ⟨a', c', e1, st⟩ := own_st (own_keep HR6.out.2.2.2.1 nb) rfl
            obtain ⟨a2', c2', e2, sz⟩ := own_sz (own_keep HR6.out.2.2.2.2.1 nb) rfl
            cases e1
            cases e2
            exact ⟨_, _, _, _, _, _, rfl, st, sz, HR6.out.2.2.2.2.2.1⟩)
          have HBW := Lib.hid HR6.out.2.2.2.2.2.2.1
          have HOO := Lib.hid (And.intro ho1 ho2)
          obtain ⟨tn, htn⟩ : ∃ tn, tn = ts.length := ⟨_, rfl⟩
          obtain ⟨zn, hzn⟩ : ∃ zn, zn = zs.length := ⟨_, rfl⟩
          have HTN := Lib.hid (And.intro htn hzn)
          rw [← htn] at y0 HEV
          rw [← hzn] at y1 HEV
          have hB0B : B0 < B := HY.out.2.1.2.2
          clear ho1 ho2 hst hsz2 HR6 htn hzn
          have HNONE : Hid (¬ (o6 = some [] ∧ ts.length = n ∧ zs.length = m ∧ mayEd (ts, zs, (n1 : Int), (n2 : Int)) = true) → takE s.data.toList = none) := Lib.hid fun h => by
            cases e : takE s.data.toList with
            | none => rfl
            | some d => exact absurd (HF.out.2 (by rw [e]; rfl)) h
          have HFIN : Hid (∀ wq (u0 u1 u2 u3 : Value), Below wz.heap.size wz wq → KeepX (fun y => y < B) wz ((((wq.setCell ⟨B0, 0, none⟩ u0).setCell ⟨B0, 1, none⟩ u1).setCell ⟨B0, 2, none⟩ u2).setCell ⟨B0, 3, none⟩ u3) ∧ Below B0 w ((((wq.setCell ⟨B0, 0, none⟩ u0).setCell ⟨B0, 1, none⟩ u1).setCell ⟨B0, 2, none⟩ u2).setCell ⟨B0, 3, none⟩ u3)) := Lib.hid (fun wq u0 u1 u2 u3 hb =>
            ⟨((((KeepX.of (X := fun y => y < B) hb).set (p := ⟨B0, 0, none⟩) hB0B u0).set (p := ⟨B0, 1, none⟩) hB0B u1).set (p := ⟨B0, 2, none⟩) hB0B u2).set (p := ⟨B0, 3, none⟩) hB0B u3,
             ((((HBW.out.trans (hb.mono (by omega))).setCell (p := ⟨B0, 0, none⟩) (Nat.le_refl _) u0).setCell (p := ⟨B0, 1, none⟩) (Nat.le_refl _) u1).setCell (p := ⟨B0, 2, none⟩) (Nat.le_refl _) u2).setCell (p := ⟨B0, 3, none⟩) (Nat.le_refl _) u3⟩)
          have HREF := Lib.hid (Below.refl wz.heap.size wz)
          have CM := Lib.hid (rmay12_any (.agg #[.slice aa tn ac, .slice da zn dc, .int .i64 (n1 : Int), .int .i64 (n2 : Int)]) (ts, zs, (n1 : Int), (n2 : Int)) wz (HEV.out wz (KeepX.refl _ _)))
          have HG : Hid (EdW wz B0 (.slice none 0 0) (.slice none 0 0) 0 0 ∧ True) := Lib.hid ⟨⟨⟨z0, z1, z2, z3, z4⟩, x0, x1, x2, x3⟩, trivial⟩
          cases r' with
          | false =>
            have hno : takE s.data.toList = none := HNONE.out (fun q => by have := (HOO.out.1 [] q.1).1; cases this)
            have HNO := Lib.hid (tk_no hno)
            clear hno
            go_wp2
            have hf := HFIN.out wz (.slice none 0 0) (.slice none 0 0) (.int .i64 0) (.int .i64 0) HREF.out
            refine bodyPost_ret (v := .tuple #[.agg #[.slice none 0 0, .slice none 0 0, .int .i64 0, .int .i64 0], .int .i64 120]) (by simp [results, Try.results14, go_sem, z0, z1, z2, z3, z4]) rfl ?_
            exact ⟨.agg #[.slice none 0 0, .slice none 0 0, .int .i64 0, .int .i64 0], by rw [HNO.out.2], by rw [HNO.out.1]; exact EV.zero _, by have := hf.2; rw [HB0.out] at this ⊢; exact this⟩
          | true =>
            obtain ⟨l6, hl6⟩ : ∃ l6, o6 = some l6 := by
              cases o6 with
              | none => have := HOO.out.2 rfl; cases this
              | some l => exact ⟨l, rfl⟩
            have hsl := (HOO.out.1 l6 hl6).2
            by_cases h0 : l6 = []
            case neg =>
              have HL6 : Hid (¬ o6 = some []) := Lib.hid (by rw [hl6]; intro e; cases e; exact h0 rfl)
              have hne : ¬ s' = ⟨#[]⟩ := fun e => h0 (by rw [← hsl, e])
              have hsn := str_ne hne
              have hsi : s'.toList.isEmpty = false := by
                cases e : s'.toList.isEmpty with
                | false => rfl
                | true => exact absurd (emB_iff.1 e) hne
              clear hsl h0 hl6 hne
              have hno : takE s.data.toList = none := HNONE.out (fun q => HL6.out q.1)
              have HNO := Lib.hid (tk_no hno)
              clear hno
              go_wp2
              have hf := HFIN.out wz (.slice none 0 0) (.slice none 0 0) (.int .i64 0) (.int .i64 0) HREF.out
              refine bodyPost_ret (v := .tuple #[.agg #[.slice none 0 0, .slice none 0 0, .int .i64 0, .int .i64 0], .int .i64 120]) (by simp [results, Try.results14, go_sem, z0, z1, z2, z3, z4]) rfl ?_
              exact ⟨.agg #[.slice none 0 0, .slice none 0 0, .int .i64 0, .int .i64 0], by rw [HNO.out.2], by rw [HNO.out.1]; exact EV.zero _, by have := hf.2; rw [HB0.out] at this ⊢; exact this⟩
            case pos =>
              have hs0 : s' = ⟨#[]⟩ := by
                apply ByteArray.ext
                apply Array.toList_inj.1
                first | (rw [hsl, h0]; done) | (rw [hsl, h0]; rfl)
              subst hs0
              have HL6 : Hid (o6 = some []) := Lib.hid (by rw [hl6, h0])
              clear hsl h0 hl6
              by_cases hn1' : tn = n
              case neg =>
                have hnz : ¬ (tn : Int) = (n : Int) := by omega
                have HNN : Hid (¬ ts.length = n) := Lib.hid (by rw [← HTN.out.1]; exact hn1')
                clear hn1'
                have hno : takE s.data.toList = none := HNONE.out (fun q => HNN.out q.2.1)
                have HNO := Lib.hid (tk_no hno)
                clear hno
                go_wp2
                have hf := HFIN.out wz (.slice none 0 0) (.slice none 0 0) (.int .i64 0) (.int .i64 0) HREF.out
                refine bodyPost_ret (v := .tuple #[.agg #[.slice none 0 0, .slice none 0 0, .int .i64 0, .int .i64 0], .int .i64 120]) (by simp [results, Try.results14, go_sem, z0, z1, z2, z3, z4]) rfl ?_
                exact ⟨.agg #[.slice none 0 0, .slice none 0 0, .int .i64 0, .int .i64 0], by rw [HNO.out.2], by rw [HNO.out.1]; exact EV.zero _, by have := hf.2; rw [HB0.out] at this ⊢; exact this⟩
              case pos =>
                have HNN : Hid (ts.length = n) := Lib.hid (by rw [← HTN.out.1]; exact hn1')
                have hnz : (tn : Int) = (n : Int) := by omega
                clear hn1'
                by_cases hm1' : zn = m
                case neg =>
                  have hmz : ¬ (zn : Int) = (m : Int) := by omega
                  have HMM : Hid (¬ zs.length = m) := Lib.hid (by rw [← HTN.out.2]; exact hm1')
                  clear hm1'
                  have hno : takE s.data.toList = none := HNONE.out (fun q => HMM.out q.2.2.1)
                  have HNO := Lib.hid (tk_no hno)
                  clear hno
                  go_wp2
                  have hf := HFIN.out wz (.slice none 0 0) (.slice none 0 0) (.int .i64 0) (.int .i64 0) HREF.out
                  refine bodyPost_ret (v := .tuple #[.agg #[.slice none 0 0, .slice none 0 0, .int .i64 0, .int .i64 0], .int .i64 120]) (by simp [results, Try.results14, go_sem, z0, z1, z2, z3, z4]) rfl ?_
                  exact ⟨.agg #[.slice none 0 0, .slice none 0 0, .int .i64 0, .int .i64 0], by rw [HNO.out.2], by rw [HNO.out.1]; exact EV.zero _, by have := hf.2; rw [HB0.out] at this ⊢; exact this⟩
                case pos =>
                  have HMM : Hid (zs.length = m) := Lib.hid (by rw [← HTN.out.2]; exact hm1')
                  have hmz : (zn : Int) = (m : Int) := by omega
                  clear hm1'
                  obtain ⟨me, hme⟩ : ∃ me, mayEd (ts, zs, (n1 : Int), (n2 : Int)) = me := ⟨_, rfl⟩
                  have HME := Lib.hid hme
                  rw [hme] at CM
                  clear hme
                  go_wp2_with fail
                  refine CM.out.mono ?_
                  rintro e w7 ⟨rfl, b7⟩
                  have HB7 := Lib.hid b7
                  have bx : EdBox wz E (.slice aa tn ac) (.slice da zn dc) (n1 : Int) (n2 : Int) := ⟨y0, y1, y2, y3, y4⟩
                  obtain ⟨v0, v1, v2, v3, v4⟩ := bx.below b7
                  clear bx y0 y1 y2 y3 y4 z0 z1 z2 z3 z4 x0 x1 x2 x3 c1 c2 d1 d2 hPl
                  obtain ⟨⟨z0, z1, z2, z3, z4⟩, x0, x1, x2, x3⟩ := HG.out.1.keep (X := fun _ => False) (KeepX.of b7) id
                  clear b7
                  cases me with
                  | false =>
                    have hno : takE s.data.toList = none := HNONE.out (fun q => by have := q.2.2.2; rw [HME.out] at this; cases this)
                    have HNO := Lib.hid (tk_no hno)
                    clear hno
                    go_wp2
                    have hf := HFIN.out w7 (.slice none 0 0) (.slice none 0 0) (.int .i64 0) (.int .i64 0) HB7.out
                    refine bodyPost_ret (v := .tuple #[.agg #[.slice none 0 0, .slice none 0 0, .int .i64 0, .int .i64 0], .int .i64 120]) (by simp [results, Try.results14, go_sem, z0, z1, z2, z3, z4]) rfl ?_
                    exact ⟨.agg #[.slice none 0 0, .slice none 0 0, .int .i64 0, .int .i64 0], by rw [HNO.out.2], by rw [HNO.out.1]; exact EV.zero _, by have := hf.2; rw [HB0.out] at this ⊢; exact this⟩
                  | true =>
                    have HNO := Lib.hid (tk_yes (HF.out.1 HL6.out HNN.out HMM.out HME.out))
                    go_wp2
                    have hf := HFIN.out w7 (.slice aa tn ac) (.slice da zn dc) (.int .i64 (n1 : Int)) (.int .i64 (n2 : Int)) HB7.out
                    refine bodyPost_ret (v := .tuple #[.agg #[.slice aa tn ac, .slice da zn dc, .int .i64 (n1 : Int), .int .i64 (n2 : Int)], .int .i64 0]) (by simp [results, Try.results14, go_sem, z0, z1, z2, z3, z4]) rfl ?_
                    exact ⟨.agg #[.slice aa tn ac, .slice da zn dc, .int .i64 (n1 : Int), .int .i64 (n2 : Int)], by rw [HNO.out.2], by rw [HNO.out.1]; exact HEV.out _ hf.1, by have := hf.2; rw [HB0.out] at this ⊢; exact this⟩
end Go.Proofs.Ythmkalnbdocdcaa
