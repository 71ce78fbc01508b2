/-
  Texts of mine as one, in the order in which they build: Tv, Tw. Conditions: as each says.
-/
import Derived.WalkKit
import Derived.Laws.BitsAllLaws
import Derived.Test.YtdnhmkfgcpdbkaaRows
import Derived.Test.YtdnhmkfgcpdbkaaVm
import Derived.Test.YtdnhmkfgcpdbkaaWl
import Derived.WalkLawsBesides
import Derived.WalkSpells
import Derived.LoopN
import Derived.Lib.Hide
import Derived.Outline
import Derived.Deep.QuietTactic
import Derived.BigQuiet
import Derived.Deep.RegionHeld3
import Derived.Lib.Strings
import Derived.Test.YtdnhmkfgcpdbkaaTn
namespace Go.Proofs.Ytdnhmkfgcpdbkaa.CR
open Go.RowKit

theorem xor_z {a b : Nat} (h : a ^^^ b = 0) : a = b := by
  have e := congrArg (· ^^^ b) h
  simpa [Nat.xor_assoc] using e
theorem xor_lc (a b c : Nat) : a ^^^ (b ^^^ c) = b ^^^ (a ^^^ c) := by rw [← Nat.xor_assoc, Nat.xor_comm a, Nat.xor_assoc]
theorem xor_dup (a b : Nat) : a ^^^ (a ^^^ b) = b := by rw [← Nat.xor_assoc, Nat.xor_self, Nat.zero_xor]
theorem xor_rc (a b c : Nat) : a ^^^ b ^^^ c = a ^^^ c ^^^ b := by rw [Nat.xor_assoc, Nat.xor_comm b, Nat.xor_assoc]
/-! ### one bit, eight bits, bytes -/
def st (c : Nat) : Nat := if c % 2 = 1 then c / 2 ^^^ 2197175160 else c / 2
def stn : Nat → Nat → Nat
  | 0, c => c
  | k + 1, c => st (stn k c)
def crcR (c : Nat) (l : List UInt8) : Nat := l.foldl (fun c b => stn 8 (c ^^^ b.toNat)) c
theorem crcR_cons (b : UInt8) (t : List UInt8) (c : Nat) : crcR c (b :: t) = crcR (stn 8 (c ^^^ b.toNat)) t := by simp only [crcR, List.foldl_cons]
theorem crcR_nil (c : Nat) : crcR c [] = c := by simp only [crcR, List.foldl_nil]
/-- The sum behind others, of a number of 32 bits. -/
def crcV (c : Nat) (l : List UInt8) : Nat := crcR (c ^^^ 4294967295) l ^^^ 4294967295

theorem u8lt (b : UInt8) : b.toNat < 4294967296 := by have := b.toNat_lt; omega
theorem xor_lt32 {a b : Nat} (ha : a < 4294967296) (hb : b < 4294967296) : a ^^^ b < 4294967296 := Nat.xor_lt_two_pow (n := 32) ha hb
theorem st_lt {c : Nat} (h : c < 4294967296) : st c < 4294967296 := by
  unfold st
  split
  · exact xor_lt32 (by omega) (by omega)
  · omega
theorem stn_lt : ∀ (k : Nat) {c : Nat}, c < 4294967296 → stn k c < 4294967296
  | 0, _, h => h
  | k + 1, _, h => st_lt (stn_lt k h)
theorem crcR_lt : ∀ (l : List UInt8) {c : Nat}, c < 4294967296 → crcR c l < 4294967296
  | [], _, h => by rw [crcR_nil]; exact h
  | b :: t, _, h => by rw [crcR_cons]; exact crcR_lt t (stn_lt 8 (xor_lt32 h (u8lt b)))
theorem crcV_lt (l : List UInt8) {c : Nat} (h : c < 4294967296) : crcV c l < 4294967296 := xor_lt32 (crcR_lt l (xor_lt32 h (by omega))) (by omega)
theorem crcR_append : ∀ (l m : List UInt8) (c : Nat), crcR c (l ++ m) = crcR (crcR c l) m
  | [], _, _ => by rw [crcR_nil, List.nil_append]
  | b :: t, m, c => by rw [List.cons_append, crcR_cons, crcR_cons, crcR_append t m]
theorem crcR_snoc (l : List UInt8) (b : UInt8) (c : Nat) : crcR c (l ++ [b]) = stn 8 (crcR c l ^^^ b.toNat) := by rw [crcR_append, crcR_cons, crcR_nil]
theorem xor_back (a : Nat) : a ^^^ 4294967295 ^^^ 4294967295 = a := by rw [Nat.xor_assoc, Nat.xor_self, Nat.xor_zero]
theorem crcV_append (l m : List UInt8) (c : Nat) : crcV c (l ++ m) = crcV (crcV c l) m := by
  unfold crcV
  rw [xor_back, crcR_append]
theorem crcV_nil (c : Nat) : crcV c [] = c := by rw [crcV, crcR_nil, xor_back]

/-! ### linear -/
theorem xor_mod2 (a b : Nat) : (a ^^^ b) % 2 = (a % 2 + b % 2) % 2 := by
  have h := Nat.xor_mod_two_eq_one (a := a) (b := b)
  omega
theorem st_xor (a b : Nat) : st (a ^^^ b) = st a ^^^ st b := by
  unfold st
  have h := xor_mod2 a b
  have ha : a % 2 = 0 ∨ a % 2 = 1 := by omega
  have hb : b % 2 = 0 ∨ b % 2 = 1 := by omega
  rw [Nat.xor_div_two]
  rcases ha with ha | ha <;> rcases hb with hb | hb <;> rw [ha, hb] at h <;> simp only [h, ha, hb]
  · rfl
  · simp [Nat.xor_assoc]
  · simp [xor_rc]
  · simp
    rw [Nat.xor_assoc, Nat.xor_comm 2197175160, Nat.xor_assoc, Nat.xor_self, Nat.xor_zero]
theorem stn_xor : ∀ (k a b : Nat), stn k (a ^^^ b) = stn k a ^^^ stn k b
  | 0, _, _ => rfl
  | k + 1, a, b => by
    show st (stn k (a ^^^ b)) = st (stn k a) ^^^ st (stn k b)
    rw [stn_xor k, st_xor]
theorem stn_add : ∀ (j k c : Nat), stn (j + k) c = stn k (stn j c)
  | j, 0, _ => rfl
  | j, k + 1, c => by
    show st (stn (j + k) c) = st (stn k (stn j c))
    rw [stn_add j k]
theorem st_twice (n : Nat) : st (2 * n) = n := by
  unfold st
  rw [if_neg (by omega)]
  omega
theorem stn_pow : ∀ (k n : Nat), stn k (2 ^ k * n) = n
  | 0, n => by simp [stn]
  | k + 1, n => by
    show st (stn k _) = n
    have e : 2 ^ (k + 1) * n = 2 ^ k * (2 * n) := by rw [Nat.pow_succ, Nat.mul_assoc]
    rw [e, stn_pow k, st_twice]
theorem st_zero {c : Nat} (h : c < 4294967296) (h0 : st c = 0) : c = 0 := by
  unfold st at h0
  split at h0
  · have := xor_z h0
    omega
  · omega
theorem stn_zero : ∀ (k : Nat) {c : Nat}, c < 4294967296 → stn k c = 0 → c = 0
  | 0, _, _, h0 => h0
  | k + 1, _, h, h0 => stn_zero k h (st_zero (stn_lt k h) h0)
theorem stn_inj (k : Nat) {a b : Nat} (ha : a < 4294967296) (hb : b < 4294967296) (h : stn k a = stn k b) : a = b := by
  have h1 : stn k (a ^^^ b) = 0 := by rw [stn_xor, h, Nat.xor_self]
  exact xor_z (stn_zero k (xor_lt32 ha hb) h1)
theorem xor_left {a b c : Nat} (h : a ^^^ c = b ^^^ c) : a = b := by
  have e := congrArg (· ^^^ c) h
  simpa [Nat.xor_assoc] using e
theorem xor_right {a b c : Nat} (h : c ^^^ a = c ^^^ b) : a = b := by
  rw [Nat.xor_comm c, Nat.xor_comm c] at h
  exact xor_left h
/-- The same bytes behind two states give two states. -/
theorem crcR_inj : ∀ (l : List UInt8) {a b : Nat}, a < 4294967296 → b < 4294967296 → crcR a l = crcR b l → a = b
  | [], _, _, _, _, h => by rw [crcR_nil, crcR_nil] at h; exact h
  | x :: t, _, _, ha, hb, h => by
    rw [crcR_cons, crcR_cons] at h
    exact xor_left (stn_inj 8 (xor_lt32 ha (u8lt x)) (xor_lt32 hb (u8lt x)) (crcR_inj t (stn_lt 8 (xor_lt32 ha (u8lt x))) (stn_lt 8 (xor_lt32 hb (u8lt x))) h))

/-! ### bytes as one number -/
def leV : List UInt8 → Nat
  | [] => 0
  | b :: t => b.toNat + 256 * leV t
theorem leV_cons (b : UInt8) (t : List UInt8) : leV (b :: t) = b.toNat + 256 * leV t := rfl
theorem low_join (a n : Nat) (h : a < 256) : a + 256 * n = a ^^^ 256 * n := by
  have h1 : (256 * n) &&& a = 0 := by
    have e := Nat.and_two_pow_sub_one_eq_mod a 8
    rw [show a % 2 ^ 8 = a by omega] at e
    rw [← e, Nat.and_comm a, ← Nat.and_assoc, Nat.and_two_pow_sub_one_eq_mod]
    simp
  have h2 := nat_join 8 (256 * n) a (by omega) (by omega)
  have h3 : (256 * n) ^^^ a = (256 * n) ||| a := by
    apply Nat.eq_of_testBit_eq
    intro i
    have h4 := congrArg (Nat.testBit · i) h1
    simp only [Nat.testBit_and, Nat.zero_testBit] at h4
    simp only [Nat.testBit_xor, Nat.testBit_or]
    cases h5 : (256 * n).testBit i <;> cases h6 : a.testBit i <;> simp_all
  rw [Nat.xor_comm a, h3, h2]
  omega
theorem crcR_le : ∀ (l : List UInt8) (c : Nat), crcR c l = stn (8 * l.length) (c ^^^ leV l)
  | [], c => by simp [crcR_nil, leV, stn]
  | b :: t, c => by
    have e : stn 8 (c ^^^ (b.toNat + 256 * leV t)) = stn 8 (c ^^^ b.toNat) ^^^ leV t := by
      rw [low_join b.toNat (leV t) b.toNat_lt, ← Nat.xor_assoc, stn_xor 8 (c ^^^ b.toNat), show 256 * leV t = 2 ^ 8 * leV t by rw [show (2 : Nat) ^ 8 = 256 by decide], stn_pow 8]
    rw [crcR_cons, crcR_le t, List.length_cons, show 8 * (t.length + 1) = 8 + 8 * t.length by omega, stn_add, leV_cons, e]
theorem leV_inj : ∀ {l m : List UInt8}, l.length = m.length → leV l = leV m → l = m
  | [], [], _, _ => rfl
  | [], _ :: _, h, _ => by simp at h
  | _ :: _, [], h, _ => by simp at h
  | a :: l, b :: m, h, hv => by
    have ha := a.toNat_lt
    have hb := b.toNat_lt
    simp only [leV] at hv
    have h1 : a = b := UInt8.toNat_inj.1 (by omega)
    have h2 : leV l = leV m := by omega
    rw [h1, leV_inj (by simpa using h) h2]
theorem leV_lt : ∀ (l : List UInt8), leV l < 256 ^ l.length
  | [] => by simp [leV]
  | b :: t => by
    have h := leV_lt t
    have hb := b.toNat_lt
    simp only [leV, List.length_cons, Nat.pow_succ]
    omega
theorem leV_lt4 {l : List UInt8} (h : l.length ≤ 4) : leV l < 4294967296 := by
  have h1 := leV_lt l
  have h2 : 256 ^ l.length ≤ 256 ^ 4 := Nat.pow_le_pow_right (by omega) h
  omega
/-- Up to four bytes are told. -/
theorem crcR_four {c : Nat} {l m : List UInt8} (hc : c < 4294967296) (h : l.length = m.length) (h4 : l.length ≤ 4) (e : crcR c l = crcR c m) : l = m := by
  rw [crcR_le, crcR_le, h] at e
  have e1 := stn_inj _ (xor_lt32 hc (leV_lt4 h4)) (xor_lt32 hc (leV_lt4 (by omega))) e
  exact leV_inj h (xor_right e1)
theorem crcV_four {c : Nat} {l m : List UInt8} (hc : c < 4294967296) (h : l.length = m.length) (h4 : l.length ≤ 4) (e : crcV c l = crcV c m) : l = m :=
  crcR_four (xor_lt32 hc (by omega)) h h4 (xor_left e)
theorem crcV_tells {c : Nat} {a x y z : List UInt8} (hc : c < 4294967296) (h : x.length = y.length) (h4 : x.length ≤ 4) (e : crcV c (a ++ x ++ z) = crcV c (a ++ y ++ z)) : x = y := by
  have e1 := xor_left e
  have hm := xor_lt32 hc (b := 4294967295) (by omega)
  rw [crcR_append, crcR_append, crcR_append (a ++ y), crcR_append a y] at e1
  have ha := crcR_lt a hm
  exact crcR_four ha h h4 (crcR_inj z (crcR_lt x ha) (crcR_lt y ha) e1)

/-! ### texts turned into one another -/
def zx (l m : List UInt8) : List UInt8 := List.zipWith (· ^^^ ·) l m
theorem zx_cons (a b : UInt8) (l m : List UInt8) : zx (a :: l) (b :: m) = (a ^^^ b) :: zx l m := by simp only [zx, List.zipWith_cons_cons]
theorem crcR_zx : ∀ {l m : List UInt8}, l.length = m.length → ∀ c d : Nat, crcR (c ^^^ d) (zx l m) = crcR c l ^^^ crcR d m
  | [], [], _, c, d => by simp only [zx, List.zipWith_nil_left, crcR_nil]
  | [], _ :: _, h, _, _ => by simp at h
  | _ :: _, [], h, _, _ => by simp at h
  | a :: l, b :: m, h, c, d => by
    rw [zx_cons, crcR_cons, crcR_cons, crcR_cons, ← crcR_zx (by simpa using h), ← stn_xor, UInt8.toNat_xor]
    congr 2
    rw [← Nat.xor_assoc, Nat.xor_assoc c d, Nat.xor_comm d, ← Nat.xor_assoc c, Nat.xor_assoc (c ^^^ a.toNat)]
theorem zx_length {l m : List UInt8} (h : l.length = m.length) : (zx l m).length = l.length := by simp [zx, h]
theorem crcV_three {a b c : List UInt8} (h1 : a.length = b.length) (h2 : a.length = c.length) : crcV 0 a ^^^ crcV 0 b ^^^ crcV 0 c = crcV 0 (zx (zx a b) c) := by
  unfold crcV
  simp only [Nat.zero_xor]
  have e1 := crcR_zx (l := zx a b) (m := c) (by rw [zx_length h1]; exact h2) (4294967295 ^^^ 4294967295) 4294967295
  have e2 := crcR_zx h1 4294967295 4294967295
  rw [e2] at e1
  rw [show (4294967295 : Nat) ^^^ 4294967295 ^^^ 4294967295 = 4294967295 from rfl] at e1
  rw [e1]
  generalize crcR 4294967295 a = A
  generalize crcR 4294967295 b = B
  generalize crcR 4294967295 c = C
  simp only [Nat.xor_assoc]
  rw [xor_lc 4294967295 B, xor_dup, xor_lc B]
end Go.Proofs.Ytdnhmkfgcpdbkaa.CR
namespace Go.Proofs.Ytdnhmkfgcpdbkaa.CR
open Go.RowKit

theorem i64_xor_nat (a b : Nat) (ha : a < 9223372036854775808) (hb : b < 9223372036854775808) : bits .xor .i64 (a : Int) (b : Int) = ((a ^^^ b : Nat) : Int) := by
  have hx : a ^^^ b < 2 ^ 63 := Nat.xor_lt_two_pow (by omega) (by omega)
  show IntKind.i64.wrap ((BitVec.ofInt 64 (a : Int) ^^^ BitVec.ofInt 64 (b : Int)).toNat : Int) = _
  rw [BitVec.toNat_xor, ofInt_u64 a (by omega), ofInt_u64 b (by omega), IntKind.wrap_i64]
  omega
theorem not32 (c : Nat) (h : c < 4294967296) : bits .xor .u32 IntKind.u32.max (c : Int) = ((c ^^^ 4294967295 : Nat) : Int) := by
  rw [Nat.xor_comm]
  exact u32_xor_nat 4294967295 c (by omega) h
theorem step32 (c : Nat) (h : c < 4294967296) : bits .xor .u32 ((c : Int) / 2) (bits .and .u32 2197175160 (-bits .and .u32 (c : Int) 1 % 4294967296)) = (st c : Nat) := by
  have h1 := u32_and_nat c 1 h (by omega)
  rw [nat_mask1] at h1
  rw [show ((1 : Int)) = ((1 : Nat) : Int) from rfl, h1, show (c : Int) / 2 = ((c / 2 : Nat) : Int) by omega]
  unfold st
  have hc : c % 2 = 0 ∨ c % 2 = 1 := by omega
  rcases hc with hc | hc
  · rw [hc, if_neg (by omega), show (-((0 : Nat) : Int)) % 4294967296 = ((0 : Nat) : Int) by omega]
    have h2 := u32_and_nat 2197175160 0 (by omega) (by omega)
    rw [Nat.and_zero] at h2
    rw [show (2197175160 : Int) = ((2197175160 : Nat) : Int) from rfl, h2, u32_xor_nat (c / 2) 0 (by omega) (by omega), Nat.xor_zero]
  · rw [hc, if_pos rfl, show (-((1 : Nat) : Int)) % 4294967296 = ((4294967295 : Nat) : Int) by omega]
    have h2 := u32_and_nat 2197175160 4294967295 (by omega) (by omega)
    rw [show (2197175160 : Nat) &&& 4294967295 = 2197175160 by decide] at h2
    rw [show (2197175160 : Int) = ((2197175160 : Nat) : Int) from rfl, h2, u32_xor_nat (c / 2) 2197175160 (by omega) (by omega)]
theorem end32 (R : Nat) (h : R < 4294967296) : wrap64 (bits .xor .u32 IntKind.u32.max (R : Int)) = (R ^^^ 4294967295 : Nat) := by
  have h1 := xor_lt32 h (b := 4294967295) (by omega)
  rw [not32 R h]
  exact wrap64_nat _ (by omega)
theorem take_snoc (s : ByteArray) (k : Nat) (h : k < s.size) : s.data.toList.take (k + 1) = s.data.toList.take k ++ [s[k]] := by
  rw [List.take_succ_eq_append_getElem (by simpa using h)]; rfl

set_option maxHeartbeats 1000000 in
theorem more_code (sum : Int) (s : ByteArray) (w : World) (hs : s.size ≤ 9223372036854775807) :
    Calls Try.prog 67 #[.int .i64 sum, .string s] w fun e w' => e = .returned (.int .i64 (crcV (sum % 4294967296).toNat s.data.toList : Nat)) ∧ w = w' := by
  obtain ⟨C, hC⟩ : ∃ C : Nat, sum % 4294967296 = (C : Int) := ⟨(sum % 4294967296).toNat, by omega⟩
  have hC1 : C < 4294967296 := by omega
  have h0 := not32 C hC1
  have hM := xor_lt32 hC1 (b := 4294967295) (by omega)
  have H0 := Lib.hid h0
  have HC := Lib.hid hC
  clear h0 hC
  go_enter Try.func67, Try.ntmps67
  go_wp2
  rw [HC.out, H0.out]
  go_loop [5, 12] (fun c i => ∃ k : Nat, k ≤ s.size ∧ i = .int .i64 k ∧ c = .int .u32 (crcR (C ^^^ 4294967295) (s.data.toList.take k) : Nat)) (fun _ i => s.size - (intOf i).toNat)
  case atStart => exact ⟨0, by omega, rfl, by simp [crcR_nil]⟩
  case round =>
    obtain ⟨k, hk, rfl, rfl⟩ := hrel
    by_cases hlt : k < s.size
    · have hb := s[k].toNat_lt
      obtain ⟨R, hR⟩ : ∃ R, R = crcR (C ^^^ 4294967295) (s.data.toList.take k) := ⟨_, rfl⟩
      have hR1 : R < 4294967296 := by rw [hR]; exact crcR_lt _ hM
      have hx := u32_xor_nat R s[k].toNat hR1 (by omega)
      have hX1 := xor_lt32 hR1 (u8lt s[k])
      have HR := Lib.hid hR
      have HX := Lib.hid hx
      clear hR hx
      rw [← HR.out]
      go_wp2
      rw [HX.out]
      generalize hD : R ^^^ s[k].toNat = D at hX1
      have HD := Lib.hid hD
      clear hD
      go_loop [5, 21] (fun c i => ∃ j : Nat, j ≤ 8 ∧ i = .int .i64 j ∧ c = .int .u32 (stn j D : Nat)) (fun _ i => 8 - (intOf i).toNat)
      case atStart => exact ⟨0, by omega, rfl, rfl⟩
      case round =>
        obtain ⟨j, hj, rfl, rfl⟩ := hrel
        by_cases hlt8 : j < 8
        · have hS := stn_lt j hX1
          go_wp2
          go_round
          case rel =>
            exact ⟨j + 1, by omega, by go_num, congrArg (Value.int .u32) (step32 _ hS)⟩
          case measure => simp [intOf]; omega
        · obtain rfl : j = 8 := by omega
          go_wp2
          go_round
          case rel =>
            refine ⟨k + 1, by omega, by go_num, ?_⟩
            rw [take_snoc s k hlt, crcR_snoc, ← HR.out, HD.out]
          case measure => simp [intOf]; omega
    · obtain rfl : k = s.size := by omega
      go_wp2
      go_ret
      refine ⟨congrArg Ending.returned (congrArg (Value.int .i64) ?_), rfl⟩
      rw [show (sum % 4294967296).toNat = C by rw [HC.out]; exact Int.toNat_natCast C, end32 _ (crcR_lt _ hM), List.take_of_length_le (by simp)]
      rfl

/-- The lowest bits of any number of 64 bits. -/
theorem i64_low (k : Nat) (hk : k < 63) (m : Int) (n : Int) (hm : m = 2 ^ k - 1) : bits .and .i64 n m = n % 2 ^ k := by
  have hp : (2 : Nat) ^ k ≤ 2 ^ 62 := Nat.pow_le_pow_right (by omega) (by omega)
  have hp1 : 1 ≤ (2 : Nat) ^ k := Nat.one_le_two_pow
  have hm' : m = ((2 ^ k - 1 : Nat) : Int) := by
    rw [hm]
    have : ((2 ^ k : Nat) : Int) = (2 : Int) ^ k := by simp
    omega
  have e : ((2 : Int) ^ k) = ((2 ^ k : Nat) : Int) := by simp
  show IntKind.i64.wrap ((BitVec.ofInt 64 n &&& BitVec.ofInt 64 m).toNat : Int) = _
  rw [BitVec.toNat_and, hm', ofInt_u64 (2 ^ k - 1) (by omega), Nat.and_two_pow_sub_one_eq_mod, BitVec.toNat_ofInt, IntKind.wrap_i64, e]
  have hd : ((2 : Nat) ^ k) ∣ 18446744073709551616 := by
    have := Nat.pow_dvd_pow 2 (show k ≤ 64 by omega)
    simpa using this
  have h0 : 0 ≤ n % 18446744073709551616 := by omega
  have h1 : (((n % 18446744073709551616).toNat % 2 ^ k : Nat) : Int) = n % ((2 ^ k : Nat) : Int) := by
    rw [Int.natCast_emod, Int.toNat_of_nonneg h0]
    exact Int.emod_emod_of_dvd n (Int.natCast_dvd_natCast.2 hd)
  have h2 : (n % 18446744073709551616).toNat % 2 ^ k < 2 ^ k := Nat.mod_lt _ hp1
  rw [show ((2 ^ 64 : Nat) : Int) = 18446744073709551616 from rfl, h1]
  omega
theorem and32 (sum : Int) (C : Nat) (h : sum % 4294967296 = (C : Int)) : bits .and .i64 sum 4294967295 = (C : Int) := by
  rw [← h]
  exact i64_low 32 (by omega) 4294967295 sum (by decide)
theorem xor64 (c : Nat) (h : c < 4294967296) : bits .xor .i64 (c : Int) 4294967295 = ((c ^^^ 4294967295 : Nat) : Int) := i64_xor_nat c 4294967295 (by omega) (by omega)
theorem bit1 (c : Nat) (h : c < 4294967296) : bits .and .i64 (c : Int) 1 = (c % 2 : Nat) := by
  have h1 := i64_and_nat c 1 (by omega) (by omega)
  rw [nat_mask1] at h1
  exact h1

set_option maxHeartbeats 1000000 in
theorem more_ref (sum : Int) (s : ByteArray) (w : World) (hs : s.size ≤ 9223372036854775807) :
    Calls Try.prog 64 #[.int .i64 sum, .string s] w fun e w' => e = .returned (.int .i64 (crcV (sum % 4294967296).toNat s.data.toList : Nat)) ∧ w = w' := by
  obtain ⟨C, hC⟩ : ∃ C : Nat, sum % 4294967296 = (C : Int) := ⟨(sum % 4294967296).toNat, by omega⟩
  have hC1 : C < 4294967296 := by omega
  have h0 := xor64 C hC1
  have h1 := and32 sum C hC
  have hM := xor_lt32 hC1 (b := 4294967295) (by omega)
  have H0 := Lib.hid h0
  have H1 := Lib.hid h1
  have HC := Lib.hid hC
  clear h0 hC h1
  go_enter Try.func64, Try.ntmps64
  go_wp2
  rw [H1.out, H0.out]
  go_loop [5, 6] (fun c i => ∃ k : Nat, k ≤ s.size ∧ i = .int .i64 k ∧ c = .int .i64 (crcR (C ^^^ 4294967295) (s.data.toList.take k) : Nat)) (fun _ i => s.size - (intOf i).toNat)
  case atStart => exact ⟨0, by omega, rfl, by simp [crcR_nil]⟩
  case round =>
    obtain ⟨k, hk, rfl, rfl⟩ := hrel
    by_cases hlt : k < s.size
    · have hb := s[k].toNat_lt
      obtain ⟨R, hR⟩ : ∃ R, R = crcR (C ^^^ 4294967295) (s.data.toList.take k) := ⟨_, rfl⟩
      have hR1 : R < 4294967296 := by rw [hR]; exact crcR_lt _ hM
      have hx := i64_xor_nat R s[k].toNat (by omega) (by omega)
      have hX1 := xor_lt32 hR1 (u8lt s[k])
      have HR := Lib.hid hR
      have HX := Lib.hid hx
      clear hR hx
      rw [← HR.out]
      go_wp2
      rw [HX.out]
      generalize hD : R ^^^ s[k].toNat = D at hX1
      have HD := Lib.hid hD
      clear hD
      go_loop [5, 7] (fun c i => ∃ j : Nat, j ≤ 8 ∧ i = .int .i64 j ∧ c = .int .i64 (stn j D : Nat)) (fun _ i => 8 - (intOf i).toNat)
      case atStart => exact ⟨0, by omega, rfl, rfl⟩
      case round =>
        obtain ⟨j, hj, rfl, rfl⟩ := hrel
        by_cases hlt8 : j < 8
        · have hS := stn_lt j hX1
          have hb1 := bit1 _ hS
          have hxx := i64_xor_nat (stn j D / 2) 2197175160 (by omega) (by omega)
          have hS' : stn (j + 1) D = st (stn j D) := rfl
          by_cases hodd : stn j D % 2 = 1
          · have hbt : (bits .and .i64 ((stn j D : Nat) : Int) 1 == 1) = true := by rw [hb1, hodd]; rfl
            rw [st, if_pos hodd] at hS'
            have HXX := Lib.hid hxx
            have HS' := Lib.hid hS'
            clear hb1 hxx hS' hodd
            go_wp2
            go_round
            case rel =>
              exact ⟨j + 1, by omega, by go_num, congrArg (Value.int .i64) (by rw [HS'.out]; exact HXX.out)⟩
            case measure => simp [intOf]; omega
          · have hbt : (bits .and .i64 ((stn j D : Nat) : Int) 1 == 1) = false := by rw [hb1, show stn j D % 2 = 0 by omega]; rfl
            rw [st, if_neg hodd] at hS'
            have HS' := Lib.hid hS'
            clear hb1 hxx hS' hodd
            go_wp2
            go_round
            case rel =>
              exact ⟨j + 1, by omega, by go_num, congrArg (Value.int .i64) (by rw [HS'.out]; omega)⟩
            case measure => simp [intOf]; omega
        · obtain rfl : j = 8 := by omega
          go_wp2
          go_round
          case rel =>
            refine ⟨k + 1, by omega, by go_num, ?_⟩
            rw [take_snoc s k hlt, crcR_snoc, ← HR.out, HD.out]
          case measure => simp [intOf]; omega
    · obtain rfl : k = s.size := by omega
      go_wp2
      go_ret
      refine ⟨congrArg Ending.returned (congrArg (Value.int .i64) ?_), rfl⟩
      rw [show (sum % 4294967296).toNat = C by rw [HC.out]; exact Int.toNat_natCast C, List.take_of_length_le (by simp), xor64 _ (crcR_lt _ hM)]
      rfl

/-! ### Sum -/
theorem sum_code (s : ByteArray) (w : World) (hs : s.size ≤ 9223372036854775807) :
    Calls Try.prog 60 #[.string s] w fun e w' => e = .returned (.int .i64 (crcV 0 s.data.toList : Nat)) ∧ w = w' := by
  go_enter Try.func60, Try.ntmps60
  go_wp2_with fail
  refine (more_code 0 s _ hs).mono ?_
  rintro e w' ⟨rfl, rfl⟩
  go_wp2
  go_ret
  exact ⟨rfl, rfl⟩
theorem sum_ref (s : ByteArray) (w : World) (hs : s.size ≤ 9223372036854775807) :
    Calls Try.prog 48 #[.string s] w fun e w' => e = .returned (.int .i64 (crcV 0 s.data.toList : Nat)) ∧ w = w' := by
  go_enter Try.func48, Try.ntmps48
  go_wp2_with fail
  refine (more_ref 0 s _ hs).mono ?_
  rintro e w' ⟨rfl, rfl⟩
  go_wp2
  go_ret
  exact ⟨rfl, rfl⟩
end Go.Proofs.Ytdnhmkfgcpdbkaa.CR
namespace Go.Proofs.Ytdnhmkfgcpdbkaa.CR
open Go.RowKit

theorem cells4 (a b c d : Int) (n : Nat) (ha : a = n % 256) (hb : b = n / 256 % 256) (hc : c = n / 65536 % 256) (hd : d = n / 16777216 % 256) :
    #[Value.int .u8 a, .int .u8 b, .int .u8 c, .int .u8 d].toList = bv (fixL n) := by
  subst ha hb hc hd
  simp [bv, fixL]
theorem own4 (w : World) (t : TypeId) (a b c d : Int) (n : Nat) (ha : a = n % 256) (hb : b = n / 256 % 256) (hc : c = n / 65536 % 256) (hd : d = n / 16777216 % 256) :
    (w.alloc (.cells #[Value.int .u8 a, .int .u8 b, .int .u8 c, .int .u8 d] t)).ownsRow w.heap.size t 1 (.slice (some ⟨w.heap.size, 0, none⟩) 4 4) 4 (bv (fixL n)) := by
  have h := World.ownsRow_lit (base := w.heap.size) (e := t) (size := 1) w #[Value.int .u8 a, .int .u8 b, .int .u8 c, .int .u8 d] 4 (Nat.le_refl _) (by decide) rfl
  rw [cells4 a b c d n ha hb hc hd] at h
  exact h
/-- The four bytes of a text's sum. -/
def tailL (s : List UInt8) : List UInt8 := fixL (crcV 0 s)
theorem tailL_length (s : List UInt8) : (tailL s).length = 4 := rfl

set_option maxRecDepth 100000 in
set_option maxHeartbeats 1000000 in
theorem tail_code (s : ByteArray) (w : World) (hs : s.size ≤ 9223372036854775807) :
    Calls Try.prog 41 #[.string s] w fun e w' => e = .returned (.string ⟨(tailL s.data.toList).toArray⟩) ∧ Below w.heap.size w w' := by
  have hmk : ∀ w : World, (Instr.makeSlice 46 (.int .i64 4) (.int .i64 4)).run Try.prog w = .ok (.slice (some ⟨w.heap.size, 0, none⟩) 4 4) (w.alloc (.cells #[.int .u8 0, .int .u8 0, .int .u8 0, .int .u8 0] 5)) := fun _ => by kernel_rfl
  obtain ⟨n, hn⟩ : ∃ n, n = crcV 0 s.data.toList := ⟨_, rfl⟩
  have hn1 : n < 4294967296 := by rw [hn]; exact crcV_lt _ (by omega)
  have hn' : (n : Int) ≤ 4294967295 := by omega
  have ht : tailL s.data.toList = fixL n := by rw [tailL, hn]
  rw [ht]
  have HN := Lib.hid hn
  clear hn ht
  go_enter Try.func41, Try.ntmps41
  go_wp2_with fail
  refine (sum_code s _ hs).mono ?_
  rintro e w' ⟨rfl, rfl⟩
  rw [← HN.out]
  go_wp2
  refine wp_loop_rounds 5 ?_
  iterate 5 (rw [rounds_succ]; go_wp2)
  rw [run_str_own _ 46 9 5 Try.underlying46 Try.underlying5 Try.underlying9 w.heap.size 5 4 _ (fixL n) rfl (own4 w _ _ _ _ _ n (by omega) (by omega) (by omega) (by omega))]
  go_wp2
  go_ret
  exact ⟨rfl, (Below.refl _ _).alloc (Nat.le_refl _) _⟩
set_option maxRecDepth 100000 in
set_option maxHeartbeats 1000000 in
theorem tail_ref (n : Nat) (w : World) (hn : n < 4294967296) :
    Calls Try.prog 47 #[.int .i64 (n : Int)] w fun e w' => e = .returned (.string ⟨(fixL n).toArray⟩) ∧ Below w.heap.size w w' := by
  have hn' : (n : Int) ≤ 4294967295 := by omega
  have m255 : ∀ x : Int, 0 ≤ x → x ≤ 4294967295 → bits .and .i64 x 255 = x % 256 := fun x _ _ => i64_low 8 (by omega) 255 x (by decide)
  have HM := Lib.hid m255
  clear m255
  go_enter Try.func47, Try.ntmps47
  go_wp2
  have g0 := HM.out n (by omega) (by omega)
  have g1 := HM.out (n / 256) (by omega) (by omega)
  have g2 := HM.out (n / 65536) (by omega) (by omega)
  have g3 := HM.out (n / 16777216) (by omega) (by omega)
  rw [run_str_own _ 46 9 5 Try.underlying46 Try.underlying5 Try.underlying9 w.heap.size 5 4 _ (fixL n) rfl (own4 w _ _ _ _ _ n (by rw [g0]; omega) (by rw [g1]; omega) (by rw [g2]; omega) (by rw [g3]; omega))]
  clear g0 g1 g2 g3
  go_wp2
  go_ret
  exact ⟨rfl, (Below.refl _ _).alloc (Nat.le_refl _) _⟩

/-! ### Seal -/
theorem seal_cat (s : ByteArray) (hs : s.size ≤ 140737488351232) (P : Program) (w : World) (l : List UInt8) (hl : l.length = 4) :
    (Op.stringOp .add s ⟨l.toArray⟩).run P w = .ok (.string (s ++ ⟨l.toArray⟩)) w := by
  refine run_string_add_sum w _ _ ?_
  rw [size_mkl l, hl]
  omega
theorem seal_code (s : ByteArray) (w : World) (hs : s.size ≤ 140737488351232) :
    Calls Try.prog 18 #[.string s] w fun e w' => e = .returned (.string (s ++ ⟨(tailL s.data.toList).toArray⟩)) ∧ Below w.heap.size w w' := by
  have hcat := seal_cat s hs Try.prog
  go_enter Try.func18, Try.ntmps18
  go_wp2_with fail
  refine (tail_code s _ (by omega)).mono ?_
  rintro e w' ⟨rfl, b⟩
  have HC := hcat w' _ (tailL_length s.data.toList)
  go_wp2
  go_ret
  exact ⟨rfl, b⟩
theorem seal_ref (s : ByteArray) (w : World) (hs : s.size ≤ 140737488351232) :
    Calls Try.prog 21 #[.string s] w fun e w' => e = .returned (.string (s ++ ⟨(tailL s.data.toList).toArray⟩)) ∧ Below w.heap.size w w' := by
  have hcat := seal_cat s hs Try.prog
  go_enter Try.func21, Try.ntmps21
  go_wp2_with fail
  refine (sum_ref s _ (by omega)).mono ?_
  rintro e w' ⟨rfl, rfl⟩
  go_wp2_with fail
  refine (tail_ref _ _ (crcV_lt _ (by omega))).mono ?_
  rintro e w' ⟨rfl, b⟩
  have HC := hcat w' _ (tailL_length s.data.toList)
  rw [tailL] at HC
  go_wp2
  go_ret
  exact ⟨rfl, b⟩

/-! ### Check -/
/-- Whether a text ends with its sum, over lists. -/
def chk (l : List UInt8) : Bool := decide (4 ≤ l.length) && (l.drop (l.length - 4) == tailL (l.take (l.length - 4)))
theorem chk_short (s : ByteArray) (h : s.size < 4) : chk s.data.toList = false := by
  have h1 : s.data.toList.length = s.size := by simp
  rw [chk, h1]
  simp
  omega
theorem chk_at (s : ByteArray) (m : Nat) (h : s.size = m + 4) : chk s.data.toList = ((s.extract m s.size).toList == tailL (s.data.toList.take m)) := by
  have h1 : s.data.toList.length = s.size := by simp
  rw [chk, h1, show s.size - 4 = m by omega, decide_eq_true (by omega : 4 ≤ s.size), Bool.true_and, Lib.extract_toList, List.take_of_length_le (i := s.size - m) (by simp)]
set_option maxHeartbeats 1000000 in
theorem check_code_short (s : ByteArray) (w : World) (h : s.size < 4) :
    Calls Try.prog 22 #[.string s] w fun e w' => e = .returned (.bool false) ∧ Below w.heap.size w w' := by
  go_enter Try.func22, Try.ntmps22
  go_wp2
  have hz1 : (s.size : Int) - 4 < 0 := by omega
  generalize (s.size : Int) - 4 = z at hz1
  have hd : decide ((0 : Int) ≤ z) = false := by simpa using hz1
  go_quiet (fail)
  go_wp2
  go_ret
  exact ⟨rfl, below_drewN (Below.refl _ _) _⟩
set_option maxHeartbeats 1000000 in
theorem check_code_long (s : ByteArray) (w : World) (hs : s.size ≤ 140737488351232) (m : Nat) (h : s.size = m + 4) :
    Calls Try.prog 22 #[.string s] w fun e w' => e = .returned (.bool (chk s.data.toList)) ∧ Below w.heap.size w w' := by
  have h4 : (4 : Int) ≤ (s.size : Int) := by omega
  have h5 : (m : Int) ≤ (s.size : Int) := by omega
  have h6 : (0 : Int) ≤ (m : Int) := by omega
  have hz : (s.size : Int) - 4 = (m : Int) := by omega
  have H := Lib.hid h
  have HZ := Lib.hid hz
  clear h hz
  go_enter Try.func22, Try.ntmps22
  go_wp2
  rw [HZ.out]
  go_region_held3 (fun w' => Below w.heap.size w w') (first | exact (Below.refl _ _).drew | exact bt (by assumption) (by assumption)) (first | (go_at_call 41; refine (tail_code _ _ ?_).mono ?_; (simp; omega); rintro e w' ⟨rfl, hb⟩))
  go_wp2
  go_ret
  exact ⟨congrArg Ending.returned (congrArg Value.bool (chk_at s m H.out).symm), by assumption⟩
theorem check_code (s : ByteArray) (w : World) (hs : s.size ≤ 140737488351232) :
    Calls Try.prog 22 #[.string s] w fun e w' => e = .returned (.bool (chk s.data.toList)) ∧ Below w.heap.size w w' := by
  by_cases h : s.size < 4
  · rw [chk_short s h]; exact check_code_short s w h
  · exact check_code_long s w hs (s.size - 4) (by omega)
set_option maxHeartbeats 1000000 in
theorem check_ref_short (s : ByteArray) (w : World) (h : s.size < 4) :
    Calls Try.prog 28 #[.string s] w fun e w' => e = .returned (.bool false) ∧ Below w.heap.size w w' := by
  have hd : decide ((4 : Int) ≤ (s.size : Int)) = false := by simpa using (by omega : (s.size : Int) < 4)
  go_enter Try.func28, Try.ntmps28
  go_wp2
  go_quiet (fail)
  go_wp2
  go_ret
  exact ⟨rfl, below_drewN (Below.refl _ _) _⟩
set_option maxHeartbeats 1000000 in
theorem check_ref_long (s : ByteArray) (w : World) (hs : s.size ≤ 140737488351232) (m : Nat) (h : s.size = m + 4) :
    Calls Try.prog 28 #[.string s] w fun e w' => e = .returned (.bool (chk s.data.toList)) ∧ Below w.heap.size w w' := by
  have h4 : (4 : Int) ≤ (s.size : Int) := by omega
  have h5 : (m : Int) ≤ (s.size : Int) := by omega
  have h6 : (0 : Int) ≤ (m : Int) := by omega
  have hz : IntKind.i64.wrap ((s.size : Int) - 4) = (m : Int) := by rw [IntKind.wrap_i64]; omega
  have H := Lib.hid h
  clear h
  go_enter Try.func28, Try.ntmps28
  go_wp2_with fail
  go_region_held3 (fun w' => Below w.heap.size w w') (first | exact (Below.refl _ _).drew | assumption | exact bt (by assumption) (by assumption))
    (first | (go_at_call 48; refine (sum_ref _ _ ?_).mono ?_; (simp; omega); rintro e w' ⟨rfl, rfl⟩) | (go_at_call 47; refine (tail_ref _ _ (crcV_lt _ (by omega))).mono ?_; rintro e w' ⟨rfl, hb⟩))
  go_wp2
  go_ret
  exact ⟨congrArg Ending.returned (congrArg Value.bool (chk_at s m H.out).symm), by assumption⟩
theorem check_ref (s : ByteArray) (w : World) (hs : s.size ≤ 140737488351232) :
    Calls Try.prog 28 #[.string s] w fun e w' => e = .returned (.bool (chk s.data.toList)) ∧ Below w.heap.size w w' := by
  by_cases h : s.size < 4
  · rw [chk_short s h]; exact check_ref_short s w h
  · exact check_ref_long s w hs (s.size - 4) (by omega)
end Go.Proofs.Ytdnhmkfgcpdbkaa.CR
namespace Go.Proofs.Ytdnhmkfgcpdbkaa.CR
open Go.RowKit

theorem chk_seal (l : List UInt8) : chk (l ++ tailL l) = true := by
  have h : (l ++ tailL l).length = l.length + 4 := by rw [List.length_append, tailL_length]
  rw [chk, h, show l.length + 4 - 4 = l.length by omega, List.drop_left, List.take_left]
  simp
theorem tailL_inj {l m : List UInt8} (h : tailL l = tailL m) : crcV 0 l = crcV 0 m := by
  have h1 := fixV_fixL (crcV 0 l) (crcV_lt l (by omega)) []
  have h2 := fixV_fixL (crcV 0 m) (crcV_lt m (by omega)) []
  rw [List.append_nil] at h1 h2
  rw [← h1, ← h2]
  exact congrArg fixV h
/-- A sealed text of which up to four bytes in a row, from k on, are turned. -/
theorem chk_turn (s Y : List UInt8) (k j : Nat) (hk : k + j ≤ s.length) (hj : j ≤ Y.length) (hY : Y.length = 4) :
    chk (turnL (s ++ tailL s) k Y j) = !((Y.take j).any (· != 0)) := by
  have h1 : turnL (s ++ tailL s) k Y j = turnL s k Y j ++ tailL s := by
    unfold turnL
    rw [List.take_append_of_le_length (by omega), List.drop_append_of_le_length (by omega), List.take_append_of_le_length (by simp; omega), List.drop_append_of_le_length (by omega), List.append_assoc]
    simp
  have hl := turnL_length s k Y j hk hj
  have hx : ((s.drop k).take j).length = (Y.take j).length := by
    simp only [List.length_take, List.length_drop]
    omega
  have h2 : (turnL s k Y j ++ tailL s).length = s.length + 4 := by rw [List.length_append, hl, tailL_length]
  rw [h1, chk, h2, show s.length + 4 - 4 = s.length by omega, ← hl, List.drop_left, List.take_left, hl]
  rw [decide_eq_true (by omega : 4 ≤ s.length + 4), Bool.true_and]
  have hs : s = s.take k ++ (s.drop k).take j ++ s.drop (k + j) := by
    rw [List.append_assoc, ← List.drop_drop, List.take_append_drop, List.take_append_drop]
  have hz := zxl_same hx
  cases hany : (Y.take j).any (· != 0) with
  | false =>
    have e := hz.2 hany
    have : turnL s k Y j = s := by
      rw [turnL, e]
      exact hs.symm
    rw [this]
    simp
  | true =>
    have hne : ¬ zxl ((s.drop k).take j) (Y.take j) = (s.drop k).take j := fun e => by
      have := hz.1 e
      rw [hany] at this
      cases this
    show (tailL s == tailL (turnL s k Y j)) = false
    rw [beq_eq_false_iff_ne]
    intro e
    have e1 := tailL_inj e
    rw [turnL] at e1
    have e2 : crcV 0 (s.take k ++ (s.drop k).take j ++ s.drop (k + j)) = crcV 0 (s.take k ++ zxl ((s.drop k).take j) (Y.take j) ++ s.drop (k + j)) := by
      rw [← hs]
      exact e1
    exact hne (crcV_tells (by omega) (by simp only [zxl, List.length_zipWith]; omega) (by simp only [List.length_take]; omega) e2).symm

/-- Whether one of the first j is no zero. -/
def tn (Y : List UInt8) (j : Nat) : Bool := (Y.take j).any (· != 0)
theorem tn_snoc (Y : List UInt8) (j : Nat) (h : j < Y.length) : tn Y (j + 1) = (tn Y j || Y[j] != 0) := any_snoc Y j h
theorem place_of (x : Int) (n : Nat) (h : 0 < n) : ∃ q : Nat, q < n ∧ (bits .and .i64 x 65535).tmod (n : Int) = (q : Int) := by
  have h1 := i64_low 16 (by omega) 65535 x (by decide)
  have h2 : 0 ≤ x % 2 ^ 16 := by omega
  have h3 := Int.emod_nonneg (x % 2 ^ 16) (b := (n : Int)) (by omega)
  have h4 := Int.emod_lt_of_pos (x % 2 ^ 16) (b := (n : Int)) (by omega)
  refine ⟨(x % 2 ^ 16 % (n : Int)).toNat, by omega, ?_⟩
  rw [h1, Int.tmod_eq_emod_of_nonneg h2]
  omega
theorem and3 (x : Int) : ∃ q : Nat, q < 4 ∧ bits .and .i64 x 3 = (q : Int) := by
  have h1 := i64_low 2 (by omega) 3 x (by decide)
  refine ⟨(x % 4).toNat, by omega, ?_⟩
  rw [h1]
  omega
theorem bv_rep (n : Nat) : bv (List.replicate n 0) = List.replicate n (Value.int .u8 0) := by simp [bv]
end Go.Proofs.Ytdnhmkfgcpdbkaa.CR
