/-
  Layer 12 (manifest): slices.symMergeCmpFunc by induction; slices.stableCmpFunc, over any program that bears their bodies, at elements of k cells. Conditions: cmp's contract; fewer than 2^62 elements.
-/
import Derived.Test.YthmkalnbdocdcaaYt
namespace Go.Proofs.Ythmkalnbdocdcaa
open Go.RowKit Go.Shelf Go.Lib
open Go.Sort hiding Below
set_option linter.unusedVariables false
set_option linter.unusedSimpArgs false
section
variable {α : Type} [Inhabited α] {lt : α → α → Bool}
theorem runs_grow {bs a e n q : Nat} {d d' : Array α} (h : Runs lt bs 0 a n d) (ha : a = q * bs) (hp : PermIn a e d d') (hs : SortedIn lt a (min (a + bs) n) d') : Runs lt bs 0 (a + bs) n d' := by
  intro q' _ h2
  by_cases hq : q' < q
  · have h3 : (q' + 1) * bs ≤ q * bs := Nat.mul_le_mul_right bs hq
    rw [Nat.succ_mul] at h3
    have h4 : q' * bs < a ∨ bs = 0 := by omega
    rcases h4 with h4 | h4
    · exact srt_same (h q' (Nat.zero_le _) h4) fun k k1 k2 => prm_out hp (by omega)
    · subst h4; exact srt_none (by omega) _
  · have h3 : q' = q := by
      by_cases hlt : q < q'
      · have h5 : (q + 1) * bs ≤ q' * bs := Nat.mul_le_mul_right bs hlt
        rw [Nat.succ_mul] at h5; omega
      · omega
    subst h3
    rw [← ha]; exact hs
theorem runs_all {bs hi n : Nat} {d : Array α} (h : Runs lt bs 0 hi n d) (hn : n ≤ hi) : Runs lt bs 0 n n d := fun q h1 h2 => h q h1 (by omega)
theorem runs_two {bs a n q : Nat} {d : Array α} (h : Runs lt bs a n n d) (ha : a = q * (2 * bs)) (h0 : a < n) : SortedIn lt a (min (a + bs) n) d := by
  have e : 2 * q * bs = a := by rw [ha, Nat.mul_comm 2 q, Nat.mul_assoc]
  have := h (2 * q) (by omega) (by omega)
  rwa [e] at this
theorem runs_two' {bs a n q : Nat} {d : Array α} (h : Runs lt bs a n n d) (ha : a = q * (2 * bs)) (h0 : a + bs < n) : SortedIn lt (a + bs) (min (a + bs + bs) n) d := by
  have e : (2 * q + 1) * bs = a + bs := by rw [Nat.succ_mul, ha, Nat.mul_comm 2 q, Nat.mul_assoc]
  have := h (2 * q + 1) (by omega) (by omega)
  rwa [e] at this
theorem runs_keep {bs a b n : Nat} {d d' : Array α} (h : Runs lt bs a n n d) (hab : a ≤ b) (hp : PermIn a b d d') : Runs lt bs b n n d' := fun q h1 h2 => srt_same (h q (by omega) h2) fun k k1 k2 => prm_out hp (by omega)
end
section
variable {P : Program} {α : Type} [Inhabited α]
theorem sym_any (L : SLt P) (k : Nat) (aE : ∀ w, (isAgg 49).run P w = .ok true w) (zE : ∀ w, (Go.sizeOf 49).run P w = .ok k w) (enc : α → List Value) (g : Nat) (cb : Array Value) (blk off cap n : Nat) (d0 : Array α) (w0 : World) (R : RowK enc k w0 blk off d0) (hn : d0.size = n) (hsz : n < 4611686018427387904)
    (cf : α → α → Int) (eg : ∀ args w, (callFunc g args).run P w = .ok (.enter g args) w) (hcmp : CmpLays P g cb enc k cf blk off d0.size w0)
    (hS : SWO (ltOf cf)) : ∀ (N0 : Nat) (d : Array α) (hs : d0.size = d.size) (w : World) (S : SWK enc k w0 blk off d w) (a m b : Nat), a < m → m < b → b ≤ n → b - a ≤ N0 → SortedIn (ltOf cf) a m d → SortedIn (ltOf cf) m b d →
      Calls P 75 #[.slice (some ⟨blk, off, none⟩) n cap, .int .i64 a, .int .i64 m, .int .i64 b, .func (.func g) #[] cb] w fun e w' => e = .returned (.tuple #[]) ∧ ∃ d', PermIn a b d d' ∧ SortedIn (ltOf cf) a b d' ∧ SWK enc k w0 blk off d' w'
  | 0, d, hs, w, S, a, m, b, h1, h2, h3, h4, _, _ => by omega
  | N0 + 1, d, hs, w, S, a, m, b, h1, h2, h3, h4, s1, s2 => by
    by_cases ha : m = a + 1
    · exact symOne_any L k aE zE enc g cb blk off cap n d0 w0 R hn hsz cf eg hcmp hS d hs w S a m b ha h2 h3 s2
    · by_cases hb : b = m + 1
      · exact symTwo_any L k aE zE enc g cb blk off cap n d0 w0 R hn hsz cf eg hcmp hS d hs w S a m b (by omega) hb h3 s1
      · exact symGen_any L k aE zE enc g cb blk off cap n d0 w0 R hn hsz cf eg hcmp hS (N0 + 1) (fun d hs w S a m b q1 q2 q3 q4 q5 q6 => sym_any L k aE zE enc g cb blk off cap n d0 w0 R hn hsz cf eg hcmp hS N0 d hs w S a m b q1 q2 q3 (by omega) q5 q6) d hs w S a m b (by omega) (by omega) h3 h4 s1 s2
set_option maxHeartbeats 16000000 in
set_option maxRecDepth 1000000 in
theorem stable_any (L : SLt P) (k : Nat) (aE : ∀ w, (isAgg 49).run P w = .ok true w) (zE : ∀ w, (Go.sizeOf 49).run P w = .ok k w) (enc : α → List Value) (g : Nat) (cb : Array Value) (blk off cap n : Nat) (d0 : Array α) (w0 : World) (R : RowK enc k w0 blk off d0) (hn : d0.size = n) (hsz : n < 4611686018427387904)
    (cf : α → α → Int) (eg : ∀ args w, (callFunc g args).run P w = .ok (.enter g args) w) (hcmp : CmpLays P g cb enc k cf blk off d0.size w0)
    (hS : SWO (ltOf cf))
    (ein : ∀ args w, (callFunc 74 args).run P w = .ok (.enter 74 args) w)
    (HI0 : ∀ (dk : Array α) (hs : d0.size = dk.size) (w : World) (S : SWK enc k w0 blk off dk w) (a b : Nat), a ≤ b → b ≤ n → Calls P 74 #[.slice (some ⟨blk, off, none⟩) n cap, .int .i64 a, .int .i64 b, .func (.func g) #[] cb] w fun e w' => e = .returned (.tuple #[]) ∧ SWK enc k w0 blk off (Sort.insertionSort (ltOf cf) dk a b) w')
    (d : Array α) (hs : d0.size = d.size) (w : World) (S : SWK enc k w0 blk off d w) :
    Calls P 66 #[.slice (some ⟨blk, off, none⟩) n cap, .int .i64 n, .func (.func g) #[] cb] w fun e w' => e = .returned (.tuple #[]) ∧ ∃ d', PermIn 0 n d d' ∧ SortedIn (ltOf cf) 0 n d' ∧ SWK enc k w0 blk off d' w' := by
  have HSM : Hid (∀ (d : Array α) (hs : d0.size = d.size) (w : World) (S : SWK enc k w0 blk off d w) (a m b : Nat), a < m → m < b → b ≤ n → SortedIn (ltOf cf) a m d → SortedIn (ltOf cf) m b d →
      Calls P 75 #[.slice (some ⟨blk, off, none⟩) n cap, .int .i64 a, .int .i64 m, .int .i64 b, .func (.func g) #[] cb] w fun e w' => e = .returned (.tuple #[]) ∧ ∃ d', PermIn a b d d' ∧ SortedIn (ltOf cf) a b d' ∧ SWK enc k w0 blk off d' w') := fun d hs w S a m b h1 h2 h3 s1 s2 => sym_any L k aE zE enc g cb blk off cap n d0 w0 R hn hsz cf eg hcmp hS (b - a) d hs w S a m b h1 h2 h3 (Nat.le_refl _) s1 s2
  have mixed := L.mixed; have t0 := L.t0; have a0 := L.a0; have z0 := L.z0; have v0 := L.v0; have t3 := L.t3; have a3 := L.a3; have z3 := L.z3; have v3 := L.v3; have t4 := L.t4; have a4 := L.a4; have z4 := L.z4; have v4 := L.v4; have t22 := L.t22; have a22 := L.a22; have z22 := L.z22; have v22 := L.v22; have t81 := L.t81; have a81 := L.a81; have z81 := L.z81; have v81 := L.v81; have t102 := L.t102; have a102 := L.a102; have z102 := L.z102; have v102 := L.v102
  have FG := L.fst
  have esm : ∀ args w, (callFunc 75 args).run P w = .ok (.enter 75 args) w := enters_of L.fsm (by kernel_rfl) rfl
  have HI : Hid (∀ (dk : Array α) (hs : d0.size = dk.size) (w : World) (S : SWK enc k w0 blk off dk w) (a b : Nat), a ≤ b → b ≤ n → Calls P 74 #[.slice (some ⟨blk, off, none⟩) n cap, .int .i64 a, .int .i64 b, .func (.func g) #[] cb] w fun e w' => e = .returned (.tuple #[]) ∧ ∃ d', PermIn a b dk d' ∧ SortedIn (ltOf cf) a b d' ∧ SWK enc k w0 blk off d' w') := fun dk hs w S a b h1 h2 => (HI0 dk hs w S a b h1 h2).mono fun e w' h => by
    obtain ⟨e1, e2⟩ := h
    obtain ⟨p1, p2⟩ := insertionSort_holds hS dk a b h1 (by omega)
    exact ⟨e1, _, p1, p2, e2⟩
  have S0 : Aside (SWK enc k w0 blk off d w) := S
  have HNS : Hid (n = d.size) := by show n = _; omega
  clear HI0 S hcmp
  go_enter FG, Try.ntmps66
  go_wp2
  go_loopw [7, 8] (fun s t wr => ∃ (a b q : Nat) (dk : Array α), s = .int .i64 a ∧ t = .int .i64 b ∧ b = a + 20 ∧ a ≤ n ∧ d0.size = dk.size ∧ Hid (a = q * 20) ∧ Aside (SWK enc k w0 blk off dk wr) ∧ Hid (PermIn 0 n d dk) ∧ Hid (Runs (ltOf cf) 20 0 a n dk)) (fun s _ _ => n - (intOf s).toNat)
  case atStart => exact ⟨0, 20, 0, d, rfl, rfl, rfl, by omega, hs, rfl, S0, permIn_refl _ _ _, fun q h1 h2 => by omega⟩
  case round =>
    clear S0
    obtain ⟨a, b, q, dk, rfl, rfl, hab, han, hds, HQ, S1, HP, HR⟩ := hrel
    have HAB := Lib.hid hab
    by_cases hlt : b ≤ n
    · have hltz : (b : Int) ≤ (n : Int) := by omega
      have hbz : (b : Int) + 20 ≤ 9223372036854775807 := by omega
      have C := Lib.hid (HI.out dk hds wr S1.out a b (by omega) hlt)
      clear hab
      go_wp2_with (go_at_fn 74; refine C.out.mono ?_; rintro e2 w2 ⟨rfl, d2, c1, c2, c3⟩)
      go_roundw
      case rel =>
        have hab := HAB.out
        exact ⟨b, b + 20, q + 1, d2, rfl, by first | go_num | (congr 1; omega), rfl, hlt, by rw [hds]; exact c1.1.symm, by show b = _; have := HQ.out; omega, c3, permIn_trans _ _ _ _ _ HP.out (permIn_mono _ _ _ _ _ _ (by omega) hlt (by omega) c1), by
          show Runs _ _ _ _ _ _
          rw [hab]
          exact runs_grow HR.out HQ.out c1 (by rw [Nat.min_eq_left (by omega), ← hab]; exact c2)⟩
      case measure => have := HAB.out; simp [intOf]; omega
    · have hltz : ¬ (b : Int) ≤ (n : Int) := by omega
      have C := Lib.hid (HI.out dk hds wr S1.out a n han (Nat.le_refl _))
      clear hab
      go_wp2_with (go_at_fn 74; refine C.out.mono ?_; rintro e2 w2 ⟨rfl, d2, c1, c2, c3⟩)
      have hab := HAB.out
      have hd2 : d0.size = d2.size := by rw [hds]; exact c1.1.symm
      have HP2 : Hid (PermIn 0 n d d2) := permIn_trans _ _ _ _ _ HP.out (permIn_mono _ _ _ _ _ _ (by omega) (Nat.le_refl _) (by omega) c1)
      have HR2 : Hid (Runs (ltOf cf) 20 0 n n d2) := runs_all (runs_grow HR.out HQ.out c1 (by rw [Nat.min_eq_right (by omega)]; exact c2)) (by omega)
      have S2 : Aside (SWK enc k w0 blk off d2 w2) := c3
      clear c1 c2 c3 C S1 HP HR HQ HAB hab hltz hlt han hds HI
      go_loopw [6] (fun s wr => ∃ (bs : Nat) (dk : Array α), s = .int .i64 bs ∧ 0 < bs ∧ bs ≤ 2 * n + 20 ∧ d0.size = dk.size ∧ Aside (SWK enc k w0 blk off dk wr) ∧ Hid (PermIn 0 n d dk) ∧ Hid (Runs (ltOf cf) bs 0 n n dk)) (fun s _ => n - (intOf s).toNat)
      case atStart => exact ⟨20, d2, rfl, by omega, by omega, hd2, S2, HP2, HR2⟩
      case round =>
        clear S2 HP2 HR2 hd2
        obtain ⟨bs, dk, rfl, hb0, hbn, hds, S1, HP, HR⟩ := hrel
        by_cases hbl : bs < n
        · have hblz : (bs : Int) < (n : Int) := by omega
          go_wp2_with fail
          go_loopw [7, 8] (fun s t wr => ∃ (a b q : Nat) (dk : Array α), s = .int .i64 a ∧ t = .int .i64 b ∧ b = a + 2 * bs ∧ a ≤ n ∧ d0.size = dk.size ∧ Hid (a = q * (2 * bs)) ∧ Aside (SWK enc k w0 blk off dk wr) ∧ Hid (PermIn 0 n d dk) ∧ Hid (Runs (ltOf cf) (2 * bs) 0 a n dk) ∧ Hid (Runs (ltOf cf) bs a n n dk)) (fun s _ _ => n - (intOf s).toNat)
          case atStart => exact ⟨0, 2 * bs, 0, dk, rfl, by first | go_num | (congr 1; omega), by omega, by omega, hds, by show 0 = _; omega, S1, HP, fun q h1 h2 => by omega, HR⟩
          case round =>
            clear S1 HP HR hds
            obtain ⟨a, b, q, dk, rfl, rfl, hab, han, hds, HQ, S1, HP, HR, HR1⟩ := hrel
            have HAB := Lib.hid hab
            by_cases hlt : b ≤ n
            · have hltz : (b : Int) ≤ (n : Int) := by omega
              obtain ⟨m, hm⟩ : ∃ m, m = a + bs := ⟨_, rfl⟩
              have hmz : (a : Int) + (bs : Int) = (m : Int) := by omega
              have s1 : SortedIn (ltOf cf) a m dk := by
                have h := runs_two HR1.out HQ.out (by omega)
                rw [Nat.min_eq_left (by omega), ← hm] at h; exact h
              have s2 : SortedIn (ltOf cf) m b dk := by
                have h := runs_two' HR1.out HQ.out (by omega)
                rw [Nat.min_eq_left (by omega), ← hm] at h; rw [show b = m + bs by omega]; exact h
              have C := Lib.hid (HSM.out dk hds wr S1.out a m b (by omega) (by omega) hlt s1 s2)
              have hbz : (b : Int) + 2 * (bs : Int) ≤ 9223372036854775807 := by omega
              clear hab hm s1 s2
              go_wp2_with (go_at_fn 75; refine C.out.mono ?_; rintro e2 w2 ⟨rfl, d2, c1, c2, c3⟩)
              go_roundw
              case rel =>
                have hab := HAB.out
                exact ⟨b, b + 2 * bs, q + 1, d2, rfl, by first | go_num | (congr 1; omega), rfl, hlt, by rw [hds]; exact c1.1.symm, by show b = _; have := HQ.out; rw [Nat.succ_mul]; omega, c3, permIn_trans _ _ _ _ _ HP.out (permIn_mono _ _ _ _ _ _ (by omega) hlt (by have := HNS.out; omega) c1), by
                  show Runs _ _ _ _ _ _
                  rw [hab]
                  exact runs_grow HR.out HQ.out c1 (by rw [Nat.min_eq_left (by omega), ← hab]; exact c2), runs_keep HR1.out (by omega) c1⟩
              case measure => have := HAB.out; simp [intOf]; omega
            · have hltz : ¬ (b : Int) ≤ (n : Int) := by omega
              obtain ⟨m, hm⟩ : ∃ m, m = a + bs := ⟨_, rfl⟩
              have hmz : (a : Int) + (bs : Int) = (m : Int) := by omega
              have HM := Lib.hid hm
              by_cases hmn : m < n
              · have hmnz : (m : Int) < (n : Int) := by omega
                have s1 : SortedIn (ltOf cf) a m dk := by
                  have h := runs_two HR1.out HQ.out (by omega)
                  rw [Nat.min_eq_left (by omega), ← hm] at h; exact h
                have s2 : SortedIn (ltOf cf) m n dk := by
                  have h := runs_two' HR1.out HQ.out (by omega)
                  rw [Nat.min_eq_right (by omega), ← hm] at h; exact h
                have C := Lib.hid (HSM.out dk hds wr S1.out a m n (by omega) (by omega) (Nat.le_refl _) s1 s2)
                clear hab hm s1 s2
                go_wp2_with (go_at_fn 75; refine C.out.mono ?_; rintro e2 w2 ⟨rfl, d2, c1, c2, c3⟩)
                go_roundw
                case rel =>
                  have hab := HAB.out
                  exact ⟨2 * bs, d2, by first | go_num | (congr 1; omega), by omega, by omega, by rw [hds]; exact c1.1.symm, c3, permIn_trans _ _ _ _ _ HP.out (permIn_mono _ _ _ _ _ _ (by omega) (Nat.le_refl _) (by have := HNS.out; omega) c1),
                    runs_all (runs_grow HR.out HQ.out c1 (by rw [Nat.min_eq_right (by omega)]; exact c2)) (by omega)⟩
                case measure => simp [intOf]; omega
              · have hmnz : ¬ (m : Int) < (n : Int) := by omega
                clear hab hm
                go_wp2_with fail
                go_roundw
                case rel =>
                  have hab := HAB.out
                  have hm := HM.out
                  refine ⟨2 * bs, dk, by first | go_num | (congr 1; omega), by omega, by omega, hds, S1, HP, runs_all (hi := a + 2 * bs) (runs_grow (e := n) HR.out HQ.out (permIn_refl _ _ _) ?_) (by omega)⟩
                  rw [Nat.min_eq_right (by omega)]
                  by_cases han' : a < n
                  · have h := runs_two HR1.out HQ.out han'
                    rw [Nat.min_eq_right (by omega)] at h; exact h
                  · exact srt_none (by omega) _
                case measure => simp [intOf]; omega
        · have hblz : ¬ (bs : Int) < (n : Int) := by omega
          go_wp2
          go_end0
          refine ⟨rfl, dk, HP.out, ?_, S1.out⟩
          by_cases h0 : 0 < n
          · have h := HR.out 0 (by omega) (by omega)
            rw [Nat.zero_mul, Nat.zero_add, Nat.min_eq_right (by omega)] at h; exact h
          · exact srt_none (by omega) _
end
end Go.Proofs.Ythmkalnbdocdcaa
