/-
  Layer 12 (manifest): contracts of slices.stableCmpFunc and of what it calls (swapRangeCmpFunc, rotateCmpFunc, symMergeCmpFunc), over any program that bears their bodies, at elements of k cells. Conditions: cmp's contract; fewer than 2^62 elements.
-/
import Derived.Test.YthmkalnbdocdcaaYa
import Derived.Test.YthmkalnbdocdcaaYh
namespace Go.Proofs.Ythmkalnbdocdcaa
open Go.RowKit Go.Shelf Go.Lib
open Go.Sort hiding Below
set_option linter.unusedVariables false
set_option linter.unusedSimpArgs false

/-- What the walks ask of a program. -/
structure SLt (P : Program) : Prop where
  mixed : P.follows .mixedOrders = true
  fsr : P.funcs[82]? = some Try.f82
  fro : P.funcs[81]? = some Try.f81
  fsm : P.funcs[75]? = some Try.f75
  fst : P.funcs[66]? = some Try.f66
  t0 : P.underlying 0 = some (TypeDesc.tuple #[])
  a0 : ∀ w, (isAgg 0).run P w = .ok false w
  z0 : ∀ w, (Go.sizeOf 0).run P w = .ok 1 w
  v0 : ∀ w, (zeroValue 0).run P w = .ok (Value.tuple #[]) w
  t3 : P.underlying 3 = some (TypeDesc.int IntKind.i64)
  a3 : ∀ w, (isAgg 3).run P w = .ok false w
  z3 : ∀ w, (Go.sizeOf 3).run P w = .ok 1 w
  v3 : ∀ w, (zeroValue 3).run P w = .ok (Value.int IntKind.i64 0) w
  t4 : P.underlying 4 = some (TypeDesc.bool)
  a4 : ∀ w, (isAgg 4).run P w = .ok false w
  z4 : ∀ w, (Go.sizeOf 4).run P w = .ok 1 w
  v4 : ∀ w, (zeroValue 4).run P w = .ok (Value.bool false) w
  t22 : P.underlying 22 = some (TypeDesc.slice 49)
  a22 : ∀ w, (isAgg 22).run P w = .ok false w
  z22 : ∀ w, (Go.sizeOf 22).run P w = .ok 1 w
  v22 : ∀ w, (zeroValue 22).run P w = .ok (Value.slice none 0 0) w
  t81 : P.underlying 81 = some (TypeDesc.func #[49, 49] #[3] false)
  a81 : ∀ w, (isAgg 81).run P w = .ok false w
  z81 : ∀ w, (Go.sizeOf 81).run P w = .ok 1 w
  v81 : ∀ w, (zeroValue 81).run P w = .ok (Value.nilFunc) w
  t102 : P.underlying 102 = some (TypeDesc.int IntKind.u64)
  a102 : ∀ w, (isAgg 102).run P w = .ok false w
  z102 : ∀ w, (Go.sizeOf 102).run P w = .ok 1 w
  v102 : ∀ w, (zeroValue 102).run P w = .ok (Value.int IntKind.u64 0) w
theorem slt : SLt Try.prog where
  mixed := by kernel_rfl
  fsr := Try.func82
  fro := Try.func81
  fsm := Try.func75
  fst := Try.func66
  t0 := Try.underlying0
  a0 := Try.isAgg0
  z0 := Try.sizeOf0
  v0 := Try.zeroValue0
  t3 := Try.underlying3
  a3 := Try.isAgg3
  z3 := Try.sizeOf3
  v3 := Try.zeroValue3
  t4 := Try.underlying4
  a4 := Try.isAgg4
  z4 := Try.sizeOf4
  v4 := Try.zeroValue4
  t22 := Try.underlying22
  a22 := Try.isAgg22
  z22 := Try.sizeOf22
  v22 := Try.zeroValue22
  t81 := Try.underlying81
  a81 := Try.isAgg81
  z81 := Try.sizeOf81
  v81 := Try.zeroValue81
  t102 := Try.underlying102
  a102 := Try.isAgg102
  z102 := Try.sizeOf102
  v102 := Try.zeroValue102
section
variable {P : Program} {α : Type} [Inhabited α]
set_option maxHeartbeats 4000000 in
set_option maxRecDepth 1000000 in
theorem swapR_any (L : SLt P) (k : Nat) (aE : ∀ w, (isAgg 49).run P w = .ok true w) (zE : ∀ w, (Go.sizeOf 49).run P w = .ok k w) (enc : α → List Value) (g : Nat) (cb : Array Value) (blk off cap n : Nat) (d0 : Array α) (w0 : World) (R : RowK enc k w0 blk off d0) (hn : d0.size = n) (hsz : n < 4611686018427387904)
    (d : Array α) (hs : d0.size = d.size) (w : World) (S : SWK enc k w0 blk off d w) (a b m : Nat) (hab : a + m ≤ b) (hb : b + m ≤ n) :
    Calls P 82 #[.slice (some ⟨blk, off, none⟩) n cap, .int .i64 a, .int .i64 b, .int .i64 m, .func (.func g) #[] cb] w fun e w' => e = .returned (.tuple #[]) ∧ SWK enc k w0 blk off (swpR d a b m) w' := by
  have mixed := L.mixed; have t0 := L.t0; have a0 := L.a0; have z0 := L.z0; have v0 := L.v0; have t3 := L.t3; have a3 := L.a3; have z3 := L.z3; have v3 := L.v3; have t4 := L.t4; have a4 := L.a4; have z4 := L.z4; have v4 := L.v4; have t22 := L.t22; have a22 := L.a22; have z22 := L.z22; have v22 := L.v22; have t81 := L.t81; have a81 := L.a81; have z81 := L.z81; have v81 := L.v81; have t102 := L.t102; have a102 := L.a102; have z102 := L.z102; have v102 := L.v102
  have FG := L.fsr
  have S0 : Aside (SWK enc k w0 blk off (swpR d a b 0) w) := S
  clear S
  go_enter FG, Try.ntmps82
  go_wp2
  go_loopw [10] (fun s wr => ∃ i : Nat, s = .int .i64 i ∧ i ≤ m ∧ Aside (SWK enc k w0 blk off (swpR d a b i) wr)) (fun s _ => m - (intOf s).toNat)
  case atStart => exact ⟨0, by go_num, by omega, S0⟩
  case round =>
    clear S0
    obtain ⟨i, rfl, him, S1⟩ := hrel
    by_cases hlt : (i : Int) < (m : Int)
    · have hds := swpR_size d a b i
      have hnx : swpR d a b (i + 1) = swp (swpR d a b i) (a + i) (b + i) := rfl
      generalize swpR d a b i = dk at S1 hds hnx
      obtain ⟨q1, hq1⟩ : ∃ q, q = a + i := ⟨_, rfl⟩
      obtain ⟨q2, hq2⟩ : ∃ q, q = b + i := ⟨_, rfl⟩
      rw [← hq1, ← hq2] at hnx
      have w1 : IntKind.i64.wrap ((a : Int) + (i : Int)) = (q1 : Int) := by rw [IntKind.wrap_i64]; omega
      have w2 : IntKind.i64.wrap ((b : Int) + (i : Int)) = (q2 : Int) := by rw [IntKind.wrap_i64]; omega
      have HNX := Lib.hid hnx
      clear hnx
      have ea : ((↑q1 : Int)).toNat = q1 := by omega
      have pa : (0 : Int) ≤ (↑q1 : Int) := by omega
      have ba : (↑q1 : Int) < (n : Int) := by omega
      have ra : IntKind.i64.wrap (↑q1 : Int) = (↑q1 : Int) := by rw [IntKind.wrap_i64]; omega
      have ec : ((↑q2 : Int)).toNat = q2 := by omega
      have pc : (0 : Int) ≤ (↑q2 : Int) := by omega
      have bc : (↑q2 : Int) < (n : Int) := by omega
      have rc : IntKind.i64.wrap (↑q2 : Int) = (↑q2 : Int) := by rw [IntKind.wrap_i64]; omega
      have S2 : Aside (SWK enc k w0 blk off (swp dk (q1) (q2)) ((wr.drew.setCells blk (off + (q1) * k) (enc dk[q2]!)).setCells blk (off + (q2) * k) (enc dk[q1]!))) := S1.out.swapped R (q1) (q2) (by omega) (by omega)
      have la := S1.out.ld1 R (by omega) P (q1) (by omega)
      have lc := S1.out.ld1 R (by omega) P (q2) (by omega)
      have sa := S1.out.st1 R (by omega) P (q1) (by omega) dk[q2]!
      have sc := S1.out.st2 R (by omega) P (q1) (q2) (by omega) (by omega) dk[q2]! dk[q1]!
      have na : (enc dk[q1]!).length = k := R.hk _
      have nc : (enc dk[q2]!).length = k := R.hk _
      generalize enc dk[q1]! = cI at S2 la sc na
      generalize enc dk[q2]! = cJ at S2 lc sa sc nc
      clear S1 hq1 hq2
      go_wp2_with fail
      go_big_region_o
      clear la lc sa sc
      generalize (wr.drew.setCells blk (off + (q1) * k) cJ).setCells blk (off + (q2) * k) cI = w2 at S2 ⊢
      go_wp2
      go_roundw
      case rel => exact ⟨i + 1, by go_num, by omega, by rw [HNX.out]; exact S2⟩
      case measure => simp [intOf]; omega
    · obtain rfl : i = m := by omega
      go_wp2
      go_end0
      exact ⟨rfl, S1.out⟩
set_option maxHeartbeats 4000000 in
set_option maxRecDepth 1000000 in
theorem rotate_any (L : SLt P) (k : Nat) (aE : ∀ w, (isAgg 49).run P w = .ok true w) (zE : ∀ w, (Go.sizeOf 49).run P w = .ok k w) (enc : α → List Value) (g : Nat) (cb : Array Value) (blk off cap n : Nat) (d0 : Array α) (w0 : World) (R : RowK enc k w0 blk off d0) (hn : d0.size = n) (hsz : n < 4611686018427387904)
    (d : Array α) (hs : d0.size = d.size) (w : World) (S : SWK enc k w0 blk off d w) (a m b : Nat) (ham : a < m) (hmb : m < b) (hb : b ≤ n) :
    Calls P 81 #[.slice (some ⟨blk, off, none⟩) n cap, .int .i64 a, .int .i64 m, .int .i64 b, .func (.func g) #[] cb] w fun e w' => e = .returned (.tuple #[]) ∧ ∃ d', Rot a m b d d' ∧ PermIn a b d d' ∧ SWK enc k w0 blk off d' w' := by
  have HS : Hid (∀ (dk : Array α) (hs : d0.size = dk.size) (w : World) (S : SWK enc k w0 blk off dk w) (a b m : Nat) (hab : a + m ≤ b) (hb : b + m ≤ n), Calls P 82 #[.slice (some ⟨blk, off, none⟩) n cap, .int .i64 a, .int .i64 b, .int .i64 m, .func (.func g) #[] cb] w fun e w' => e = .returned (.tuple #[]) ∧ SWK enc k w0 blk off (swpR dk a b m) w') := fun dk hs w S a b m hab hb => swapR_any L k aE zE enc g cb blk off cap n d0 w0 R hn hsz dk hs w S a b m hab hb
  have mixed := L.mixed; have t0 := L.t0; have a0 := L.a0; have z0 := L.z0; have v0 := L.v0; have t3 := L.t3; have a3 := L.a3; have z3 := L.z3; have v3 := L.v3; have t4 := L.t4; have a4 := L.a4; have z4 := L.z4; have v4 := L.v4; have t22 := L.t22; have a22 := L.a22; have z22 := L.z22; have v22 := L.v22; have t81 := L.t81; have a81 := L.a81; have z81 := L.z81; have v81 := L.v81; have t102 := L.t102; have a102 := L.a102; have z102 := L.z102; have v102 := L.v102
  have FG := L.fro
  have esr : ∀ args w, (callFunc 82 args).run P w = .ok (.enter 82 args) w := enters_of L.fsr (by kernel_rfl) rfl
  have S0 : Aside (SWK enc k w0 blk off d w) := S
  clear S
  go_enter FG, Try.ntmps81
  go_wp2
  go_loopw [10, 11] (fun s t wr => ∃ (i j : Nat) (dk : Array α), s = .int .i64 i ∧ t = .int .i64 j ∧ 0 < i ∧ 0 < j ∧ i ≤ m - a ∧ j ≤ b - m ∧ d0.size = dk.size ∧ Aside (SWK enc k w0 blk off dk wr) ∧ Hid (PermIn a b d dk) ∧ Hid (∀ d2, Rot (m - i) m (m + j) dk d2 → Rot a m b d d2)) (fun s t _ => (intOf s).toNat + (intOf t).toNat)
  case atStart => exact ⟨m - a, b - m, d, by first | go_num | (congr 1; omega), by first | go_num | (congr 1; omega), by omega, by omega, by omega, by omega, hs, S0, permIn_refl _ _ _, fun d2 h => by rwa [show m - (m - a) = a by omega, show m + (b - m) = b by omega] at h⟩
  case round =>
    clear S0
    obtain ⟨i, j, dk, rfl, rfl, hi0, hj0, hia, hjb, hds, S1, HP, HR⟩ := hrel
    obtain ⟨q, hq⟩ : ∃ q, q = m - i := ⟨_, rfl⟩
    have eq1 : (m : Int) - (i : Int) = (q : Int) := by omega
    have HQ := Lib.hid hq
    by_cases hij : i = j
    · subst hij
      have C := HS.out dk hds wr S1.out q m i (by omega) (by omega)
      have HC := Lib.hid C
      clear C hq
      go_wp2_with (go_at_fn 82; refine HC.out.mono ?_; rintro e w2 ⟨rfl, S2⟩)
      go_end0
      obtain rfl := HQ.out
      refine ⟨rfl, _, HR.out _ (rot_end (by omega) (by omega)), permIn_trans _ _ _ _ _ HP.out (swpR_perm (by omega) (by omega) (by omega) (by omega)), S2⟩
    · have hij' : ((i : Int) == (j : Int)) = false := by rw [beq_eq_false_iff_ne]; omega
      by_cases hji : j < i
      · have hjz : (j : Int) < (i : Int) := by omega
        have C := HS.out dk hds wr S1.out q m j (by omega) (by omega)
        have HC := Lib.hid C
        clear C hq
        go_wp2_with (go_at_fn 82; refine HC.out.mono ?_; rintro e w2 ⟨rfl, S2⟩)
        go_roundw
        case rel =>
          obtain rfl := HQ.out
          exact ⟨i - j, j, _, by first | go_num | (congr 1; omega), rfl, by omega, hj0, by omega, hjb, by rw [swpR_size]; exact hds, S2, permIn_trans _ _ _ _ _ HP.out (swpR_perm (by omega) (by omega) (by omega) (by omega)), fun d2 h => HR.out d2 (rot_left (by omega) hji (by omega) h)⟩
        case measure => simp [intOf]; omega
      · have hjz : ¬ (j : Int) < (i : Int) := by omega
        have C := HS.out dk hds wr S1.out q (m + j - i) i (by omega) (by omega)
        rw [show (((m + j - i : Nat)) : Int) = (m : Int) + (j : Int) - (i : Int) by omega] at C
        have HC := Lib.hid C
        clear C hq
        go_wp2_with (go_at_fn 82; refine HC.out.mono ?_; rintro e w2 ⟨rfl, S2⟩)
        go_roundw
        case rel =>
          obtain rfl := HQ.out
          exact ⟨i, j - i, _, rfl, by first | go_num | (congr 1; omega), hi0, by omega, hia, by omega, by rw [swpR_size]; exact hds, S2, permIn_trans _ _ _ _ _ HP.out (swpR_perm (by omega) (by omega) (by omega) (by omega)), fun d2 h => HR.out d2 (rot_right (by omega) (by omega) (by omega) h)⟩
        case measure => simp [intOf]; omega
/-- One element on its way up. -/
def UpS (d : Array α) (a b z : Nat) (dk : Array α) : Prop := (∀ x, a ≤ x → x < z → dk[x]! = d[x + 1]!) ∧ dk[z]! = d[a]! ∧ (∀ x, (x < a ∨ z < x) → dk[x]! = d[x]!) ∧ PermIn a b d dk
theorem UpS.step {d dk : Array α} {a b z : Nat} (h : UpS d a b z dk) (hz : a ≤ z) (hb : z + 1 < b) (hs : b ≤ d.size) : UpS d a b (z + 1) (swp dk z (z + 1)) := by
  obtain ⟨h1, h2, h3, h4⟩ := h
  have hds := h4.1
  refine ⟨fun x hx hxz => ?_, ?_, fun x hx => ?_, permIn_trans _ _ _ _ _ h4 (swp_permIn _ _ _ _ _ hz (by omega) (by omega) hb (by omega))⟩
  · by_cases e : x = z
    · subst e; rw [swp_left _ _ _ (by omega) (by omega), h3 _ (by omega)]
    · rw [swp_other _ _ _ _ e (by omega), h1 x hx (by omega)]
  · rw [swp_right _ _ _ (by omega), h2]
  · rw [swp_other _ _ _ _ (by omega) (by omega), h3 x (by omega)]
/-- One element on its way down. -/
def DnS (d : Array α) (a m z : Nat) (dk : Array α) : Prop := (∀ x, z < x → x ≤ m → dk[x]! = d[x - 1]!) ∧ dk[z]! = d[m]! ∧ (∀ x, (x < z ∨ m < x) → dk[x]! = d[x]!) ∧ PermIn a (m + 1) d dk
theorem DnS.step {d dk : Array α} {a m z : Nat} (h : DnS d a m (z + 1) dk) (hz : a ≤ z) (hb : z < m) (hs : m < d.size) : DnS d a m z (swp dk (z + 1) z) := by
  obtain ⟨h1, h2, h3, h4⟩ := h
  have hds := h4.1
  refine ⟨fun x hx hxz => ?_, ?_, fun x hx => ?_, permIn_trans _ _ _ _ _ h4 (swp_permIn _ _ _ _ _ (by omega) (by omega) hz (by omega) (by omega))⟩
  · by_cases e : x = z + 1
    · subst e; rw [swp_left _ _ _ (by omega) (by omega), h3 _ (by omega)]; congr 1
    · rw [swp_other _ _ _ _ e (by omega), h1 x (by omega) hxz]
  · rw [swp_right _ _ _ (by omega), h2]
  · rw [swp_other _ _ _ _ (by omega) (by omega), h3 x (by omega)]
set_option maxHeartbeats 8000000 in
set_option maxRecDepth 1000000 in
theorem symOne_any (L : SLt P) (k : Nat) (aE : ∀ w, (isAgg 49).run P w = .ok true w) (zE : ∀ w, (Go.sizeOf 49).run P w = .ok k w) (enc : α → List Value) (g : Nat) (cb : Array Value) (blk off cap n : Nat) (d0 : Array α) (w0 : World) (R : RowK enc k w0 blk off d0) (hn : d0.size = n) (hsz : n < 4611686018427387904)
    (cf : α → α → Int) (eg : ∀ args w, (callFunc g args).run P w = .ok (.enter g args) w) (hcmp : CmpLays P g cb enc k cf blk off d0.size w0)
    (hS : SWO (ltOf cf)) (d : Array α) (hs : d0.size = d.size) (w : World) (S : SWK enc k w0 blk off d w) (a m b : Nat) (ham : m = a + 1) (hmb : m < b) (hb : b ≤ n) (h2 : SortedIn (ltOf cf) m b d) :
    Calls P 75 #[.slice (some ⟨blk, off, none⟩) n cap, .int .i64 a, .int .i64 m, .int .i64 b, .func (.func g) #[] cb] w fun e w' => e = .returned (.tuple #[]) ∧ ∃ d', PermIn a b d d' ∧ SortedIn (ltOf cf) a b d' ∧ SWK enc k w0 blk off d' w' := by
  have mixed := L.mixed; have t0 := L.t0; have a0 := L.a0; have z0 := L.z0; have v0 := L.v0; have t3 := L.t3; have a3 := L.a3; have z3 := L.z3; have v3 := L.v3; have t4 := L.t4; have a4 := L.a4; have z4 := L.z4; have v4 := L.v4; have t22 := L.t22; have a22 := L.a22; have z22 := L.z22; have v22 := L.v22; have t81 := L.t81; have a81 := L.a81; have z81 := L.z81; have v81 := L.v81; have t102 := L.t102; have a102 := L.a102; have z102 := L.z102; have v102 := L.v102
  have FG := L.fsm
  have HC : Aside (CmpLays P g cb enc k cf blk off d0.size w0) := hcmp
  have S0 : Aside (SWK enc k w0 blk off d w) := S
  have H2 : Hid (SortedIn (ltOf cf) m b d) := h2
  have HM : Hid (m = a + 1) := ham
  have hm1 : (m : Int) - (a : Int) = 1 := by omega
  clear hcmp S h2 ham
  go_enter FG, Try.ntmps75
  go_wp2
  go_loopw [10, 11] (fun s t wr => ∃ (i j : Nat), s = .int .i64 i ∧ t = .int .i64 j ∧ m ≤ i ∧ i ≤ j ∧ j ≤ b ∧ Aside (SWK enc k w0 blk off d wr) ∧ Hid (∀ h, m ≤ h → h < i → ltOf cf d[h]! d[a]! = true) ∧ Hid (∀ h, j ≤ h → h < b → ltOf cf d[h]! d[a]! = false)) (fun s t _ => (intOf t).toNat - (intOf s).toNat)
  case atStart => exact ⟨m, b, by first | rfl | go_num, by first | rfl | go_num, by omega, by omega, by omega, S0, fun h h1 h2 => by omega, fun h h1 h2 => by omega⟩
  case round =>
    clear S0
    obtain ⟨i, j, rfl, rfl, hmi, hij, hjb, S1, HL, HR⟩ := hrel
    have hma : a < m := by have := HM.out; omega
    by_cases hlt : (i : Int) < (j : Int)
    · obtain ⟨c, hcc⟩ : ∃ c : Nat, c = (i + j) / 2 := ⟨_, rfl⟩
      have hc1 : i ≤ c := by omega
      have hc2 : c < j := by omega
      have hcz : ((i : Int) + (j : Int)) / 2 = (c : Int) := by omega
      generalize hdk : d = dk at *
      have HDK : Hid (d = dk) := hdk
      clear hdk hcc
      cases hlv : ltOf cf dk[c]! dk[a]! with
      | true =>
        have HV : Hid (ltOf cf dk[c]! dk[a]! = true) := hlv
        have ea : ((↑c : Int)).toNat = c := by omega
        have pa : (0 : Int) ≤ (↑c : Int) := by omega
        have ba : (↑c : Int) < (n : Int) := by omega
        have ec : ((↑a : Int)).toNat = a := by omega
        have pc : (0 : Int) ≤ (↑a : Int) := by omega
        have bc : (↑a : Int) < (n : Int) := by omega
        obtain ⟨x, hx⟩ : ∃ x, x = dk[c]! := ⟨_, rfl⟩
        obtain ⟨y, hy⟩ : ∃ y, y = dk[a]! := ⟨_, rfl⟩
        have la := S1.out.ld R (by omega) P (c) (by omega)
        have lc := S1.out.ld R (by omega) P (a) (by omega)
        rw [← hx] at la
        rw [← hy] at lc
        have hc := S1.out.cmp HC.out (by omega) x y
        have hv : cf x y < 0 := by rw [hx, hy]; exact of_decide_eq_true hlv
        have hd : decide (cf x y < 0) = true := decide_eq_true hv
        clear hx hy
        go_wp2_with fail
        go_quiet_grown (first | (go_at_fn g; refine Calls.grown_of (hc _ _)))
        have S2 : Aside (SWK enc k w0 blk off dk (grow (wr.drewN nq) osq)) := S1.out.grown nq osq
        clear la lc hc S1
        generalize grow (wr.drewN nq) osq = w2 at S2 ⊢
        clear nq osq
        go_wp2
        go_roundw
        case rel => exact ⟨c + 1, j, by go_num, rfl, by omega, by omega, by omega, S2, fun h h1 h2 => swo_lt hS (srt_le hS H2.out h1 (by omega) (by omega)) HV.out, HR⟩
        case measure => simp [intOf]; omega
      | false =>
        have HV : Hid (ltOf cf dk[c]! dk[a]! = false) := hlv
        have ea : ((↑c : Int)).toNat = c := by omega
        have pa : (0 : Int) ≤ (↑c : Int) := by omega
        have ba : (↑c : Int) < (n : Int) := by omega
        have ec : ((↑a : Int)).toNat = a := by omega
        have pc : (0 : Int) ≤ (↑a : Int) := by omega
        have bc : (↑a : Int) < (n : Int) := by omega
        obtain ⟨x, hx⟩ : ∃ x, x = dk[c]! := ⟨_, rfl⟩
        obtain ⟨y, hy⟩ : ∃ y, y = dk[a]! := ⟨_, rfl⟩
        have la := S1.out.ld R (by omega) P (c) (by omega)
        have lc := S1.out.ld R (by omega) P (a) (by omega)
        rw [← hx] at la
        rw [← hy] at lc
        have hc := S1.out.cmp HC.out (by omega) x y
        have hv : ¬ cf x y < 0 := by rw [hx, hy]; exact of_decide_eq_false hlv
        have hd : decide (cf x y < 0) = false := decide_eq_false hv
        clear hx hy
        go_wp2_with fail
        go_quiet_grown (first | (go_at_fn g; refine Calls.grown_of (hc _ _)))
        have S2 : Aside (SWK enc k w0 blk off dk (grow (wr.drewN nq) osq)) := S1.out.grown nq osq
        clear la lc hc S1
        generalize grow (wr.drewN nq) osq = w2 at S2 ⊢
        clear nq osq
        go_wp2
        go_roundw
        case rel => exact ⟨i, c, rfl, rfl, by omega, by omega, by omega, S2, HL, fun h h1 h2 => hS.ntrans _ _ _ (srt_le hS H2.out (by omega) h1 h2) HV.out⟩
        case measure => simp [intOf]; omega
    · obtain rfl : i = j := by omega
      obtain ⟨z, hz⟩ : ∃ z, i = z + 1 := ⟨i - 1, by omega⟩
      subst hz
      have haz : a ≤ z := by omega
      go_wp2
      have S0 : Aside (SWK enc k w0 blk off d wr) := S1
      go_loopw [13] (fun s wr => ∃ (y : Nat) (dk : Array α), s = .int .i64 y ∧ a ≤ y ∧ y ≤ z ∧ d0.size = dk.size ∧ Aside (SWK enc k w0 blk off dk wr) ∧ Hid (UpS d a b y dk)) (fun s _ => z - (intOf s).toNat)
      case atStart => exact ⟨a, d, rfl, by omega, haz, hs, S0, fun x h1 h2 => by omega, rfl, fun x _ => rfl, permIn_refl _ _ _⟩
      case round =>
        clear S0 S1
        obtain ⟨y, dk, rfl, hay, hyz, hds, S1, HU⟩ := hrel
        by_cases hyl : (y : Int) < (z : Int)
        · go_wp2_with fail
          have ea : ((↑y : Int)).toNat = y := by omega
          have pa : (0 : Int) ≤ (↑y : Int) := by omega
          have ba : (↑y : Int) < (n : Int) := by omega
          have ra : IntKind.i64.wrap (↑y : Int) = (↑y : Int) := by rw [IntKind.wrap_i64]; omega
          have ec : ((↑y + 1 : Int)).toNat = y + 1 := by omega
          have pc : (0 : Int) ≤ (↑y + 1 : Int) := by omega
          have bc : (↑y + 1 : Int) < (n : Int) := by omega
          have rc : IntKind.i64.wrap (↑y + 1 : Int) = (↑y + 1 : Int) := by rw [IntKind.wrap_i64]; omega
          have S2 : Aside (SWK enc k w0 blk off (swp dk (y) (y + 1)) ((wr.drew.setCells blk (off + (y) * k) (enc dk[y + 1]!)).setCells blk (off + (y + 1) * k) (enc dk[y]!))) := S1.out.swapped R (y) (y + 1) (by omega) (by omega)
          have la := S1.out.ld1 R (by omega) P (y) (by omega)
          have lc := S1.out.ld1 R (by omega) P (y + 1) (by omega)
          have sa := S1.out.st1 R (by omega) P (y) (by omega) dk[y + 1]!
          have sc := S1.out.st2 R (by omega) P (y) (y + 1) (by omega) (by omega) dk[y + 1]! dk[y]!
          have na : (enc dk[y]!).length = k := R.hk _
          have nc : (enc dk[y + 1]!).length = k := R.hk _
          generalize enc dk[y]! = cI at S2 la sc na
          generalize enc dk[y + 1]! = cJ at S2 lc sa sc nc
          clear S1 
          go_wp2_with fail
          go_big_region_o
          clear la lc sa sc
          generalize (wr.drew.setCells blk (off + (y) * k) cJ).setCells blk (off + (y + 1) * k) cI = w2 at S2 ⊢
          go_wp2
          go_roundw
          case rel => exact ⟨y + 1, _, by go_num, by omega, by omega, by rw [size_swp]; exact hds, S2, UpS.step HU.out hay (by omega) (by omega)⟩
          case measure => simp [intOf]; omega
        · obtain rfl : y = z := by omega
          go_wp2
          refine bodyPost_ret (results_none rfl _ _ _) rfl ?_
          obtain ⟨u1, u2, u3, u4⟩ := HU.out
          refine ⟨rfl, dk, u4, up_end hS (i := y + 1) (by omega) hjb (by have := H2.out; rw [HM.out] at this; exact this) (fun _ => HL.out y (by have := HM.out; omega) (by omega)) (fun _ => HR.out _ (by omega) (by omega)) (fun x h1 h2 => u1 x h1 (by omega)) u2 (fun x h => u3 x (by omega)), S1.out⟩
set_option maxHeartbeats 8000000 in
set_option maxRecDepth 1000000 in
theorem symTwo_any (L : SLt P) (k : Nat) (aE : ∀ w, (isAgg 49).run P w = .ok true w) (zE : ∀ w, (Go.sizeOf 49).run P w = .ok k w) (enc : α → List Value) (g : Nat) (cb : Array Value) (blk off cap n : Nat) (d0 : Array α) (w0 : World) (R : RowK enc k w0 blk off d0) (hn : d0.size = n) (hsz : n < 4611686018427387904)
    (cf : α → α → Int) (eg : ∀ args w, (callFunc g args).run P w = .ok (.enter g args) w) (hcmp : CmpLays P g cb enc k cf blk off d0.size w0)
    (hS : SWO (ltOf cf)) (d : Array α) (hs : d0.size = d.size) (w : World) (S : SWK enc k w0 blk off d w) (a m b : Nat) (ham : a + 1 < m) (hmb : b = m + 1) (hb : b ≤ n) (h1 : SortedIn (ltOf cf) a m d) :
    Calls P 75 #[.slice (some ⟨blk, off, none⟩) n cap, .int .i64 a, .int .i64 m, .int .i64 b, .func (.func g) #[] cb] w fun e w' => e = .returned (.tuple #[]) ∧ ∃ d', PermIn a b d d' ∧ SortedIn (ltOf cf) a b d' ∧ SWK enc k w0 blk off d' w' := by
  have mixed := L.mixed; have t0 := L.t0; have a0 := L.a0; have z0 := L.z0; have v0 := L.v0; have t3 := L.t3; have a3 := L.a3; have z3 := L.z3; have v3 := L.v3; have t4 := L.t4; have a4 := L.a4; have z4 := L.z4; have v4 := L.v4; have t22 := L.t22; have a22 := L.a22; have z22 := L.z22; have v22 := L.v22; have t81 := L.t81; have a81 := L.a81; have z81 := L.z81; have v81 := L.v81; have t102 := L.t102; have a102 := L.a102; have z102 := L.z102; have v102 := L.v102
  have FG := L.fsm
  have HC : Aside (CmpLays P g cb enc k cf blk off d0.size w0) := hcmp
  have S0 : Aside (SWK enc k w0 blk off d w) := S
  have H1 : Hid (SortedIn (ltOf cf) a m d) := h1
  have HM : Hid (b = m + 1) := hmb
  have hm0 : ((m : Int) - (a : Int) == 1) = false := by rw [beq_eq_false_iff_ne]; omega
  have hm1 : (b : Int) - (m : Int) = 1 := by omega
  clear hcmp S h1 hmb
  go_enter FG, Try.ntmps75
  go_wp2
  go_loopw [14, 15] (fun s t wr => ∃ (i j : Nat), s = .int .i64 i ∧ t = .int .i64 j ∧ a ≤ i ∧ i ≤ j ∧ j ≤ m ∧ Aside (SWK enc k w0 blk off d wr) ∧ Hid (∀ h, a ≤ h → h < i → ltOf cf d[m]! d[h]! = false) ∧ Hid (∀ h, j ≤ h → h < m → ltOf cf d[m]! d[h]! = true)) (fun s t _ => (intOf t).toNat - (intOf s).toNat)
  case atStart => exact ⟨a, m, by first | rfl | go_num, by first | rfl | go_num, by omega, by omega, by omega, S0, fun h h1 h2 => by omega, fun h h1 h2 => by omega⟩
  case round =>
    clear S0
    obtain ⟨i, j, rfl, rfl, hmi, hij, hjb, S1, HL, HR⟩ := hrel
    have hmbb : m < b := by have := HM.out; omega
    by_cases hlt : (i : Int) < (j : Int)
    · obtain ⟨c, hcc⟩ : ∃ c : Nat, c = (i + j) / 2 := ⟨_, rfl⟩
      have hc1 : i ≤ c := by omega
      have hc2 : c < j := by omega
      have hcz : ((i : Int) + (j : Int)) / 2 = (c : Int) := by omega
      generalize hdk : d = dk at *
      have HDK : Hid (d = dk) := hdk
      clear hdk hcc
      cases hlv : ltOf cf dk[m]! dk[c]! with
      | true =>
        have HV : Hid (ltOf cf dk[m]! dk[c]! = true) := hlv
        have ea : ((↑m : Int)).toNat = m := by omega
        have pa : (0 : Int) ≤ (↑m : Int) := by omega
        have ba : (↑m : Int) < (n : Int) := by omega
        have ec : ((↑c : Int)).toNat = c := by omega
        have pc : (0 : Int) ≤ (↑c : Int) := by omega
        have bc : (↑c : Int) < (n : Int) := by omega
        obtain ⟨x, hx⟩ : ∃ x, x = dk[m]! := ⟨_, rfl⟩
        obtain ⟨y, hy⟩ : ∃ y, y = dk[c]! := ⟨_, rfl⟩
        have la := S1.out.ld R (by omega) P (m) (by omega)
        have lc := S1.out.ld R (by omega) P (c) (by omega)
        rw [← hx] at la
        rw [← hy] at lc
        have hc := S1.out.cmp HC.out (by omega) x y
        have hv : cf x y < 0 := by rw [hx, hy]; exact of_decide_eq_true hlv
        have hd : decide (cf x y < 0) = true := decide_eq_true hv
        clear hx hy
        go_wp2_with fail
        go_quiet_grown (first | (go_at_fn g; refine Calls.grown_of (hc _ _)))
        have S2 : Aside (SWK enc k w0 blk off dk (grow (wr.drewN nq) osq)) := S1.out.grown nq osq
        clear la lc hc S1
        generalize grow (wr.drewN nq) osq = w2 at S2 ⊢
        clear nq osq
        go_wp2
        go_roundw
        case rel => exact ⟨i, c, rfl, rfl, by omega, by omega, by omega, S2, HL, fun h h1 h2 => swo_lt2 hS HV.out (srt_le hS H1.out (by omega) h1 h2)⟩
        case measure => simp [intOf]; omega
      | false =>
        have HV : Hid (ltOf cf dk[m]! dk[c]! = false) := hlv
        have ea : ((↑m : Int)).toNat = m := by omega
        have pa : (0 : Int) ≤ (↑m : Int) := by omega
        have ba : (↑m : Int) < (n : Int) := by omega
        have ec : ((↑c : Int)).toNat = c := by omega
        have pc : (0 : Int) ≤ (↑c : Int) := by omega
        have bc : (↑c : Int) < (n : Int) := by omega
        obtain ⟨x, hx⟩ : ∃ x, x = dk[m]! := ⟨_, rfl⟩
        obtain ⟨y, hy⟩ : ∃ y, y = dk[c]! := ⟨_, rfl⟩
        have la := S1.out.ld R (by omega) P (m) (by omega)
        have lc := S1.out.ld R (by omega) P (c) (by omega)
        rw [← hx] at la
        rw [← hy] at lc
        have hc := S1.out.cmp HC.out (by omega) x y
        have hv : ¬ cf x y < 0 := by rw [hx, hy]; exact of_decide_eq_false hlv
        have hd : decide (cf x y < 0) = false := decide_eq_false hv
        clear hx hy
        go_wp2_with fail
        go_quiet_grown (first | (go_at_fn g; refine Calls.grown_of (hc _ _)))
        have S2 : Aside (SWK enc k w0 blk off dk (grow (wr.drewN nq) osq)) := S1.out.grown nq osq
        clear la lc hc S1
        generalize grow (wr.drewN nq) osq = w2 at S2 ⊢
        clear nq osq
        go_wp2
        go_roundw
        case rel => exact ⟨c + 1, j, by go_num, rfl, by omega, by omega, by omega, S2, fun h h1 h2 => swo_le hS (srt_le hS H1.out h1 (by omega) (by omega)) HV.out, HR⟩
        case measure => simp [intOf]; omega
    · obtain rfl : i = j := by omega
      go_wp2
      have S0 : Aside (SWK enc k w0 blk off d wr) := S1
      go_loopw [17] (fun s wr => ∃ (y : Nat) (dk : Array α), s = .int .i64 y ∧ i ≤ y ∧ y ≤ m ∧ d0.size = dk.size ∧ Aside (SWK enc k w0 blk off dk wr) ∧ Hid (DnS d a m y dk)) (fun s _ => (intOf s).toNat)
      case atStart => exact ⟨m, d, rfl, by omega, by omega, hs, S0, fun x h1 h2 => by omega, rfl, fun x _ => rfl, permIn_refl _ _ _⟩
      case round =>
        clear S0 S1
        obtain ⟨y, dk, rfl, hay, hyz, hds, S1, HU⟩ := hrel
        by_cases hyl : (i : Int) < (y : Int)
        · obtain ⟨z, hz⟩ : ∃ z, y = z + 1 := ⟨y - 1, by omega⟩
          subst hz
          have hyl' : (i : Int) < (z : Int) + 1 := by omega
          clear hyl
          go_wp2_with fail
          have ea : ((↑z + 1 : Int)).toNat = z + 1 := by omega
          have pa : (0 : Int) ≤ (↑z + 1 : Int) := by omega
          have ba : (↑z + 1 : Int) < (n : Int) := by omega
          have ra : IntKind.i64.wrap (↑z + 1 : Int) = (↑z + 1 : Int) := by rw [IntKind.wrap_i64]; omega
          have ec : ((↑z : Int)).toNat = z := by omega
          have pc : (0 : Int) ≤ (↑z : Int) := by omega
          have bc : (↑z : Int) < (n : Int) := by omega
          have rc : IntKind.i64.wrap (↑z : Int) = (↑z : Int) := by rw [IntKind.wrap_i64]; omega
          have S2 : Aside (SWK enc k w0 blk off (swp dk (z + 1) (z)) ((wr.drew.setCells blk (off + (z + 1) * k) (enc dk[z]!)).setCells blk (off + (z) * k) (enc dk[z + 1]!))) := S1.out.swapped R (z + 1) (z) (by omega) (by omega)
          have la := S1.out.ld1 R (by omega) P (z + 1) (by omega)
          have lc := S1.out.ld1 R (by omega) P (z) (by omega)
          have sa := S1.out.st1 R (by omega) P (z + 1) (by omega) dk[z]!
          have sc := S1.out.st2 R (by omega) P (z + 1) (z) (by omega) (by omega) dk[z]! dk[z + 1]!
          have na : (enc dk[z + 1]!).length = k := R.hk _
          have nc : (enc dk[z]!).length = k := R.hk _
          generalize enc dk[z + 1]! = cI at S2 la sc na
          generalize enc dk[z]! = cJ at S2 lc sa sc nc
          clear S1 
          go_wp2_with fail
          go_big_region_o
          clear la lc sa sc
          generalize (wr.drew.setCells blk (off + (z + 1) * k) cJ).setCells blk (off + (z) * k) cI = w2 at S2 ⊢
          go_wp2
          go_roundw
          case rel => exact ⟨z, _, by first | rfl | go_num | (congr 1; omega), by omega, by omega, by rw [size_swp]; exact hds, S2, DnS.step HU.out (by omega) (by omega) (by have := HM.out; omega)⟩
          case measure => simp [intOf]; try omega
        · obtain rfl : y = i := by omega
          go_wp2
          refine bodyPost_ret (results_none rfl _ _ _) rfl ?_
          obtain ⟨u1, u2, u3, u4⟩ := HU.out
          have he := HM.out
          subst he
          refine ⟨rfl, dk, u4, down_end hS hmi hyz H1.out (fun h => HL.out _ (by omega) (by omega)) (fun h => HR.out _ (by omega) h) u1 u2 (fun x h => u3 x (by omega)), S1.out⟩
end
end Go.Proofs.Ythmkalnbdocdcaa
