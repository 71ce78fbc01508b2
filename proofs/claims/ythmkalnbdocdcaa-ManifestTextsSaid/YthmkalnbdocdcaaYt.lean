/-
  Layer 12 (manifest): contracts of slices.symMergeCmpFunc and slices.stableCmpFunc, over any program that bears their bodies, at elements of k cells. Conditions: cmp's contract; fewer than 2^62 elements.
-/
import Derived.Test.YthmkalnbdocdcaaYs
import Derived.Deep.DeepCutAuto
import Derived.Deep.CutRange
import Derived.Deep.CutBlock
namespace Go.Proofs.Ythmkalnbdocdcaa
open Go.RowKit Go.Shelf Go.Lib
open Go.Sort hiding Below
set_option linter.unusedVariables false
set_option linter.unusedSimpArgs false
section
variable {P : Program} {α : Type} [Inhabited α]
set_option maxHeartbeats 16000000 in
set_option maxRecDepth 1000000 in
theorem symGen_any (L : SLt P) (k : Nat) (aE : ∀ w, (isAgg 49).run P w = .ok true w) (zE : ∀ w, (Go.sizeOf 49).run P w = .ok k w) (enc : α → List Value) (g : Nat) (cb : Array Value) (blk off cap n : Nat) (d0 : Array α) (w0 : World) (R : RowK enc k w0 blk off d0) (hn : d0.size = n) (hsz : n < 4611686018427387904)
    (cf : α → α → Int) (eg : ∀ args w, (callFunc g args).run P w = .ok (.enter g args) w) (hcmp : CmpLays P g cb enc k cf blk off d0.size w0)
    (hS : SWO (ltOf cf)) (N0 : Nat)
    (IH : ∀ (d : Array α) (hs : d0.size = d.size) (w : World) (S : SWK enc k w0 blk off d w) (a m b : Nat), a < m → m < b → b ≤ n → b - a < N0 → SortedIn (ltOf cf) a m d → SortedIn (ltOf cf) m b d →
      Calls P 75 #[.slice (some ⟨blk, off, none⟩) n cap, .int .i64 a, .int .i64 m, .int .i64 b, .func (.func g) #[] cb] w fun e w' => e = .returned (.tuple #[]) ∧ ∃ d', PermIn a b d d' ∧ SortedIn (ltOf cf) a b d' ∧ SWK enc k w0 blk off d' w')
    (d : Array α) (hs : d0.size = d.size) (w : World) (S : SWK enc k w0 blk off d w) (a m b : Nat) (ham : a + 1 < m) (hmb : m + 1 < b) (hb : b ≤ n) (hN0 : b - a ≤ N0) (h1 : SortedIn (ltOf cf) a m d) (h2 : SortedIn (ltOf cf) m b d) :
    Calls P 75 #[.slice (some ⟨blk, off, none⟩) n cap, .int .i64 a, .int .i64 m, .int .i64 b, .func (.func g) #[] cb] w fun e w' => e = .returned (.tuple #[]) ∧ ∃ d', PermIn a b d d' ∧ SortedIn (ltOf cf) a b d' ∧ SWK enc k w0 blk off d' w' := by
  have HRO : Hid (∀ (dk : Array α) (hs : d0.size = dk.size) (w : World) (S : SWK enc k w0 blk off dk w) (a m b : Nat) (ham : a < m) (hmb : m < b) (hb : b ≤ n), Calls P 81 #[.slice (some ⟨blk, off, none⟩) n cap, .int .i64 a, .int .i64 m, .int .i64 b, .func (.func g) #[] cb] w fun e w' => e = .returned (.tuple #[]) ∧ ∃ d', Rot a m b dk d' ∧ PermIn a b dk d' ∧ SWK enc k w0 blk off d' w') := fun dk hs w S a m b ham hmb hb => rotate_any L k aE zE enc g cb blk off cap n d0 w0 R hn hsz dk hs w S a m b ham hmb hb
  have mixed := L.mixed; have t0 := L.t0; have a0 := L.a0; have z0 := L.z0; have v0 := L.v0; have t3 := L.t3; have a3 := L.a3; have z3 := L.z3; have v3 := L.v3; have t4 := L.t4; have a4 := L.a4; have z4 := L.z4; have v4 := L.v4; have t22 := L.t22; have a22 := L.a22; have z22 := L.z22; have v22 := L.v22; have t81 := L.t81; have a81 := L.a81; have z81 := L.z81; have v81 := L.v81; have t102 := L.t102; have a102 := L.a102; have z102 := L.z102; have v102 := L.v102
  have FG := L.fsm
  have ero : ∀ args w, (callFunc 81 args).run P w = .ok (.enter 81 args) w := enters_of L.fro (by kernel_rfl) rfl
  have esm : ∀ args w, (callFunc 75 args).run P w = .ok (.enter 75 args) w := enters_of L.fsm (by kernel_rfl) rfl
  have HC : Aside (CmpLays P g cb enc k cf blk off d0.size w0) := hcmp
  have S0 : Aside (SWK enc k w0 blk off d w) := S
  have H1 : Hid (SortedIn (ltOf cf) a m d) := h1
  have H2 : Hid (SortedIn (ltOf cf) m b d) := h2
  have HI := Lib.hid IH
  have hm0 : ((m : Int) - (a : Int) == 1) = false := by rw [beq_eq_false_iff_ne]; omega
  have hm1 : ((b : Int) - (m : Int) == 1) = false := by rw [beq_eq_false_iff_ne]; omega
  obtain ⟨mid, hmid⟩ : ∃ mid : Nat, mid = (a + b) / 2 := ⟨_, rfl⟩
  obtain ⟨N, hN⟩ : ∃ N : Nat, N = mid + m := ⟨_, rfl⟩
  obtain ⟨p, hp⟩ : ∃ p : Nat, p = N - 1 := ⟨_, rfl⟩
  have hmidz : ((a : Int) + (b : Int)) / 2 = (mid : Int) := by omega
  have hNz : (mid : Int) + (m : Int) = (N : Int) := by omega
  have hpz : (N : Int) - 1 = (p : Int) := by omega
  obtain ⟨s0, hs0⟩ : ∃ s0 : Nat, s0 = if mid < m then N - b else a := ⟨_, rfl⟩
  obtain ⟨r0, hr0⟩ : ∃ r0 : Nat, r0 = if mid < m then mid else m := ⟨_, rfl⟩
  have HE : Hid (mid = (a + b) / 2 ∧ N = mid + m ∧ p = N - 1) := Lib.hid ⟨hmid, hN, hp⟩
  have H0 : Hid ((mid < m ∧ s0 = mid + m - b ∧ r0 = mid) ∨ (m ≤ mid ∧ s0 = a ∧ r0 = m)) := Lib.hid (by
    by_cases h : mid < m
    · rw [if_pos h] at hs0 hr0; exact .inl ⟨h, by omega, hr0⟩
    · rw [if_neg h] at hs0 hr0; exact .inr ⟨by omega, hs0, hr0⟩)
  have hm1b : 0 ≤ (mid : Int) := by omega
  have hm2b : (mid : Int) ≤ 4611686018427387904 := by omega
  clear hcmp S h1 h2 IH hs0 hr0 hmid hN hp
  go_enter FG, Try.ntmps75
  go_upto_if 140 with fail
  go_cut [20, 21] from 138 to 146 (fun s t wx => s = .int .i64 s0 ∧ t = .int .i64 r0 ∧ wx = w)
  case first =>
    rcases H0.out with ⟨h, e1, e2⟩ | ⟨h, e1, e2⟩
    · have hz : (mid : Int) < (m : Int) := by omega
      have e1z : (N : Int) - (b : Int) = (s0 : Int) := by have := HE.out; omega
      subst e2
      clear e1
      go_wp2_with fail
      go_meet
      case rel => exact ⟨rfl, rfl, rfl⟩
    · have hz : ¬ (mid : Int) < (m : Int) := by omega
      subst e1 e2
      go_wp2_with fail
      go_meet
      case rel => exact ⟨rfl, rfl, rfl⟩
  case rest =>
    obtain ⟨rfl, rfl, rfl⟩ := hcut
    have hs0r : s0 ≤ r0 := by have := HE.out; rcases H0.out with ⟨h, e1, e2⟩ | ⟨h, e1, e2⟩ <;> omega
    have hr0m : r0 ≤ m := by have := HE.out; rcases H0.out with ⟨h, e1, e2⟩ | ⟨h, e1, e2⟩ <;> omega
    have hr0d : r0 ≤ mid := by have := HE.out; rcases H0.out with ⟨h, e1, e2⟩ | ⟨h, e1, e2⟩ <;> omega
    have has0 : a ≤ s0 := by have := HE.out; rcases H0.out with ⟨h, e1, e2⟩ | ⟨h, e1, e2⟩ <;> omega
    have hNb : N ≤ b + s0 := by have := HE.out; rcases H0.out with ⟨h, e1, e2⟩ | ⟨h, e1, e2⟩ <;> omega
    go_wp2
    go_loopw [20, 21] (fun s t wr => ∃ (i j : Nat), s = .int .i64 i ∧ t = .int .i64 j ∧ s0 ≤ i ∧ i ≤ j ∧ j ≤ r0 ∧ Aside (SWK enc k w0 blk off d wr) ∧ Hid (s0 < i → ltOf cf d[mid + m - 1 - (i - 1)]! d[i - 1]! = false) ∧ Hid (j < r0 → ltOf cf d[mid + m - 1 - j]! d[j]! = true)) (fun s t _ => (intOf t).toNat - (intOf s).toNat)
    case atStart => exact ⟨s0, r0, rfl, rfl, by omega, by omega, by omega, S0, fun h => by omega, fun h => by omega⟩
    case round =>
      clear S0
      obtain ⟨i, j, rfl, rfl, hmi, hij, hjb, S1, HL, HR⟩ := hrel
      by_cases hlt : (i : Int) < (j : Int)
      · obtain ⟨c, hcc⟩ : ∃ c : Nat, c = (i + j) / 2 := ⟨_, rfl⟩
        have hc1 : i ≤ c := by omega
        have hc2 : c < j := by omega
        have hcz : ((i : Int) + (j : Int)) / 2 = (c : Int) := by omega
        obtain ⟨q, hq⟩ : ∃ q : Nat, q = p - c := ⟨_, rfl⟩
        have hqe : q = mid + m - 1 - c := by have := HE.out; omega
        have hpc : c ≤ p := by have := HE.out; omega
        have hqn : q < n := by have := HE.out; omega
        have hqz : (p : Int) - (c : Int) = (q : Int) := by omega
        have hwq : IntKind.i64.wrap ((p : Int) - (c : Int)) = (q : Int) := by rw [hqz, IntKind.wrap_i64]; omega
        generalize hdk : d = dk at *
        have HDK : Hid (d = dk) := hdk
        have HQE := Lib.hid hqe
        clear hdk hcc hq hqe hqz
        cases hlv : ltOf cf dk[q]! dk[c]! with
        | true =>
          have HV : Hid (ltOf cf dk[q]! dk[c]! = true) := hlv
          have ea : ((↑q : Int)).toNat = q := by omega
          have pa : (0 : Int) ≤ (↑q : Int) := by omega
          have ba : (↑q : Int) < (n : Int) := by omega
          have ec : ((↑c : Int)).toNat = c := by omega
          have pc : (0 : Int) ≤ (↑c : Int) := by omega
          have bc : (↑c : Int) < (n : Int) := by omega
          obtain ⟨x, hx⟩ : ∃ x, x = dk[q]! := ⟨_, rfl⟩
          obtain ⟨y, hy⟩ : ∃ y, y = dk[c]! := ⟨_, rfl⟩
          have la := S1.out.ld R (by omega) P (q) (by omega)
          have lc := S1.out.ld R (by omega) P (c) (by omega)
          rw [← hx] at la
          rw [← hy] at lc
          have hc := S1.out.cmp HC.out (by omega) x y
          have hv : cf x y < 0 := by rw [hx, hy]; exact of_decide_eq_true hlv
          have hd : decide (cf x y < 0) = true := decide_eq_true hv
          clear hx hy
          go_wp2_with fail
          go_quiet_grown (first | (go_at_fn g; refine Calls.grown_of (hc _ _)))
          have S2 : Aside (SWK enc k w0 blk off dk (grow (wr.drewN nq) osq)) := S1.out.grown nq osq
          clear la lc hc S1
          generalize grow (wr.drewN nq) osq = w2 at S2 ⊢
          clear nq osq
          go_wp2
          go_roundw
          case rel => exact ⟨i, c, rfl, rfl, by omega, by omega, by omega, S2, HL, fun h => by rw [← HQE.out]; exact HV.out⟩
          case measure => simp [intOf]; omega
        | false =>
          have HV : Hid (ltOf cf dk[q]! dk[c]! = false) := hlv
          have ea : ((↑q : Int)).toNat = q := by omega
          have pa : (0 : Int) ≤ (↑q : Int) := by omega
          have ba : (↑q : Int) < (n : Int) := by omega
          have ec : ((↑c : Int)).toNat = c := by omega
          have pc : (0 : Int) ≤ (↑c : Int) := by omega
          have bc : (↑c : Int) < (n : Int) := by omega
          obtain ⟨x, hx⟩ : ∃ x, x = dk[q]! := ⟨_, rfl⟩
          obtain ⟨y, hy⟩ : ∃ y, y = dk[c]! := ⟨_, rfl⟩
          have la := S1.out.ld R (by omega) P (q) (by omega)
          have lc := S1.out.ld R (by omega) P (c) (by omega)
          rw [← hx] at la
          rw [← hy] at lc
          have hc := S1.out.cmp HC.out (by omega) x y
          have hv : ¬ cf x y < 0 := by rw [hx, hy]; exact of_decide_eq_false hlv
          have hd : decide (cf x y < 0) = false := decide_eq_false hv
          clear hx hy
          go_wp2_with fail
          go_quiet_grown (first | (go_at_fn g; refine Calls.grown_of (hc _ _)))
          have S2 : Aside (SWK enc k w0 blk off dk (grow (wr.drewN nq) osq)) := S1.out.grown nq osq
          clear la lc hc S1
          generalize grow (wr.drewN nq) osq = w2 at S2 ⊢
          clear nq osq
          go_wp2
          go_roundw
          case rel => exact ⟨c + 1, j, by go_num, rfl, by omega, by omega, by omega, S2, fun h => by rw [Nat.add_sub_cancel, ← HQE.out]; exact HV.out, HR⟩
          case measure => simp [intOf]; omega
      · obtain rfl : i = j := by omega
        have hcut0 := cut_of (s := i) hS (by omega) (by omega) HE.out.1 H1.out H2.out H0.out hmi hjb HL.out HR.out
        obtain ⟨e, hee⟩ : ∃ e : Nat, e = mid + m - i := ⟨_, rfl⟩
        have hez : (N : Int) - (i : Int) = (e : Int) := by have := HE.out; have := hcut0.hm; omega
        have q1 := hcut0.lo
        have q2 := hcut0.hi
        have q3 := hcut0.hm
        have q4 := hcut0.e1
        have q5 := hcut0.e2
        rw [← hee] at q4 q5
        have hmidb : a < mid ∧ mid < b := by have := HE.out; omega
        have HCT := Lib.hid hcut0
        have HEE := Lib.hid hee
        clear hcut0 hee HL HR
        go_upto_region 39 with fail
        go_cut [185] from 178 to 185 (fun s wx => (∃ c : Bool, s = .bool c ∧ Hid (c = true ↔ i < m ∧ m < e)) ∧ wx = wr)
        case first =>
          by_cases p1 : i < m
          · have p1z : (i : Int) < (m : Int) := by omega
            by_cases p2 : m < e
            · have p2z : (m : Int) < (e : Int) := by omega
              go_wp2_with fail
              go_meet
              case rel => exact ⟨⟨_, rfl, Lib.hid (by simp [p1, p2])⟩, rfl⟩
            · have p2z : ¬ (m : Int) < (e : Int) := by omega
              go_wp2_with fail
              go_meet
              case rel => exact ⟨⟨_, rfl, Lib.hid (by simp [p2])⟩, rfl⟩
          · have p1z : ¬ (i : Int) < (m : Int) := by omega
            go_wp2_with fail
            go_meet
            case rel => exact ⟨⟨_, rfl, Lib.hid (by simp [p1])⟩, rfl⟩
        case rest =>
        obtain ⟨⟨c, rfl, HCC⟩, rfl⟩ := hcut
        go_upto_if 185 with fail
        go_cut [] from 178 to 191 (fun wx => ∃ d1, d0.size = d1.size ∧ Aside (SWK enc k w0 blk off d1 wx) ∧ Hid (Rot i m e d d1 ∧ PermIn a b d d1))
        case first =>
          cases c with
          | true =>
            have hcc := HCC.out.1 rfl
            have C := Lib.hid (HRO.out d hs wc S1.out i m e hcc.1 hcc.2 (by omega))
            go_wp2_with (go_at_fn 81; refine C.out.mono ?_; rintro e2 w2 ⟨rfl, d1, c1, c2, c3⟩)
            have C1 : Hid (Rot i m e d d1 ∧ PermIn a b d d1) := Lib.hid ⟨c1, permIn_mono _ _ _ _ _ _ (by omega) (by omega) (by omega) c2⟩
            have C3 : Aside (SWK enc k w0 blk off d1 w2) := c3
            have hd1 : d0.size = d1.size := by rw [hs]; exact c2.1.symm
            clear c1 c2 c3
            go_meet
            case rel => exact ⟨d1, hd1, C3, C1⟩
          | false =>
            have hcc : ¬ (i < m ∧ m < e) := fun h => by have := HCC.out.2 h; cases this
            go_wp2_with fail
            go_meet
            case rel => exact ⟨d, hs, S1, rot_none q3 q4 (by omega), permIn_refl _ _ _⟩
        case rest =>
        clear HCC

        obtain ⟨d1, hd1, S2, HR1⟩ := hcut
        have hx := cut_rot (mid := mid) hS H1.out H2.out (by omega) HCT.out (by rw [← HEE.out]; exact HR1.out.1)
        rw [← HEE.out] at hx
        have HX := Lib.hid hx
        clear hx S1
        go_upto_region 41 with fail
        go_cut [199] from 192 to 199 (fun s wx => (∃ c : Bool, s = .bool c ∧ Hid (c = true ↔ a < i ∧ i < mid)) ∧ wx = wc)
        case first =>
          by_cases p1 : a < i
          · have p1z : (a : Int) < (i : Int) := by omega
            by_cases p2 : i < mid
            · have p2z : (i : Int) < (mid : Int) := by omega
              go_wp2_with fail
              go_meet
              case rel => exact ⟨⟨_, rfl, Lib.hid (by simp [p1, p2])⟩, rfl⟩
            · have p2z : ¬ (i : Int) < (mid : Int) := by omega
              go_wp2_with fail
              go_meet
              case rel => exact ⟨⟨_, rfl, Lib.hid (by simp [p2])⟩, rfl⟩
          · have p1z : ¬ (a : Int) < (i : Int) := by omega
            go_wp2_with fail
            go_meet
            case rel => exact ⟨⟨_, rfl, Lib.hid (by simp [p1])⟩, rfl⟩
        case rest =>
        obtain ⟨⟨c, rfl, HCC⟩, rfl⟩ := hcut
        go_upto_if 199 with fail
        go_cut [] from 192 to 205 (fun wx => ∃ d2, d0.size = d2.size ∧ Aside (SWK enc k w0 blk off d2 wx) ∧ Hid (PermIn a mid d1 d2 ∧ SortedIn (ltOf cf) a mid d2))
        case first =>
          cases c with
          | true =>
            have hcc := HCC.out.1 rfl
            have C := Lib.hid (HI.out d1 hd1 wc S2.out a i mid hcc.1 hcc.2 (by omega) (by omega) HX.out.1 HX.out.2.1)
            go_wp2_with (go_at_fn 75; refine C.out.mono ?_; rintro e2 w2 ⟨rfl, d2, c1, c2, c3⟩)
            have C1 : Hid (PermIn a mid d1 d2 ∧ SortedIn (ltOf cf) a mid d2) := Lib.hid ⟨c1, c2⟩
            have C3 : Aside (SWK enc k w0 blk off d2 w2) := c3
            have hd2 : d0.size = d2.size := by rw [hd1]; exact c1.1.symm
            clear c1 c2 c3
            go_meet
            case rel => exact ⟨d2, hd2, C3, C1⟩
          | false =>
            have hcc : ¬ (a < i ∧ i < mid) := fun h => by have := HCC.out.2 h; cases this
            go_wp2_with fail
            go_meet
            case rel =>
              refine ⟨d1, hd1, S2, permIn_refl _ _ _, ?_⟩
              by_cases hai : a < i
              · have : i = mid := by omega
                rw [← this]; exact HX.out.1
              · have : i = a := by omega
                rw [← this]; exact HX.out.2.1
        case rest =>
        clear HCC

        obtain ⟨d2, hd2, S3, HR2⟩ := hcut
        have hx3 : SortedIn (ltOf cf) mid e d2 ∧ SortedIn (ltOf cf) e b d2 := ⟨srt_same HX.out.2.2.1 fun k k1 k2 => prm_out HR2.out.1 (by omega), srt_same HX.out.2.2.2.1 fun k k1 k2 => prm_out HR2.out.1 (by omega)⟩
        have HX3 := Lib.hid hx3
        clear hx3 S2
        go_upto_region 43 with fail
        go_cut [213] from 206 to 213 (fun s wx => (∃ c : Bool, s = .bool c ∧ Hid (c = true ↔ mid < e ∧ e < b)) ∧ wx = wc)
        case first =>
          by_cases p1 : mid < e
          · have p1z : (mid : Int) < (e : Int) := by omega
            by_cases p2 : e < b
            · have p2z : (e : Int) < (b : Int) := by omega
              go_wp2_with fail
              go_meet
              case rel => exact ⟨⟨_, rfl, Lib.hid (by simp [p1, p2])⟩, rfl⟩
            · have p2z : ¬ (e : Int) < (b : Int) := by omega
              go_wp2_with fail
              go_meet
              case rel => exact ⟨⟨_, rfl, Lib.hid (by simp [p2])⟩, rfl⟩
          · have p1z : ¬ (mid : Int) < (e : Int) := by omega
            go_wp2_with fail
            go_meet
            case rel => exact ⟨⟨_, rfl, Lib.hid (by simp [p1])⟩, rfl⟩
        case rest =>
          obtain ⟨⟨c, rfl, HCC⟩, rfl⟩ := hcut
          have fin : ∀ (d3 : Array α) (wf : World), PermIn mid b d2 d3 → SortedIn (ltOf cf) mid b d3 → SWK enc k w0 blk off d3 wf → ∃ d', PermIn a b d d' ∧ SortedIn (ltOf cf) a b d' ∧ SWK enc k w0 blk off d' wf := fun d3 wf g1 g2 g3 => by
            obtain ⟨f1, f2⟩ := cut_end (by omega) (by omega) (by omega) HX.out.2.2.2.2 HR2.out.1 HR2.out.2 g1 g2
            exact ⟨d3, permIn_trans _ _ _ _ _ HR1.out.2 f1, f2, g3⟩
          have FIN := Lib.hid fin
          clear fin
          cases c with
          | true =>
            have hcc := HCC.out.1 rfl
            have C := Lib.hid (HI.out d2 hd2 wc S3.out mid e b hcc.1 hcc.2 (by omega) (by omega) HX3.out.1 HX3.out.2)
            go_wp2_with (go_at_fn 75; refine C.out.mono ?_; rintro e2 w2 ⟨rfl, d3, c1, c2, c3⟩)
            go_end0
            exact ⟨rfl, FIN.out d3 w2 c1 c2 c3⟩
          | false =>
            have hcc : ¬ (mid < e ∧ e < b) := fun h => by have := HCC.out.2 h; cases this
            go_wp2
            go_end0
            refine ⟨rfl, FIN.out d2 _ (permIn_refl _ _ _) ?_ S3.out⟩
            by_cases hai : mid < e
            · have he : e = b := by omega
              rw [← he]; exact HX3.out.1
            · have he : e = mid := by omega
              rw [← he]; exact HX3.out.2
end
end Go.Proofs.Ythmkalnbdocdcaa
