/-
  Layer 1 (varint), contracts of Text and TakeText, of the code and of the document's answer; of the law's own numbers and texts. Conditions: texts within the reach.
-/
import Derived.Test.YtdnhmkfgcpdbkaaVt
import Derived.Test.YtdnhmkfgcpdbkaaVp
import Derived.Test.YtdnhmkfgcpdbkaaClone
import Derived.Lib.Strings
namespace Go.Proofs.Ytdnhmkfgcpdbkaa
open Go.RowKit

/-- A text's bytes with its length ahead. -/
def txL (l : List UInt8) : List UInt8 := vL l.length ++ l
/-- The text that bytes begin with, how many bytes both have, the error. -/
def ttR (l : List UInt8) : List UInt8 × Nat × Nat :=
  if (tk l 0 0).2.2 = 0 then
    (if 262144 < (tk l 0 0).1 then ([], 0, 11)
     else if l.length < (tk l 0 0).2.1 + (tk l 0 0).1 then ([], 0, 10)
     else ((l.drop (tk l 0 0).2.1).take (tk l 0 0).1, (tk l 0 0).2.1 + (tk l 0 0).1, 0))
  else ([], 0, (tk l 0 0).2.2)
theorem size_list (s : ByteArray) : s.data.toList.length = s.size := by rw [Array.length_toList]; rfl
theorem txt_mk (s : ByteArray) : (⟨(vL s.size).toArray⟩ ++ s : ByteArray) = ⟨(txL s.data.toList).toArray⟩ := by
  apply ByteArray.ext
  simp [txL]

theorem text_no (s : ByteArray) (w : World) (h : 262144 < s.size) (hs : s.size ≤ 9223372036854775807) :
    Calls Try.prog 89 #[.string s] w fun e w' => e = .returned (.tuple #[.string ⟨#[]⟩, .int .i64 1]) ∧ w = w' := by
  have h' : (262144 : Int) < (s.size : Int) := by omega
  go_enter Try.func89, Try.ntmps89
  go_wp2
  go_ret2
  exact ⟨rfl, rfl⟩
theorem text_ref_no (s : ByteArray) (w : World) (h : 262144 < s.size) (hs : s.size ≤ 9223372036854775807) :
    Calls Try.prog 68 #[.string s] w fun e w' => e = .returned (.tuple #[.string ⟨#[]⟩, .int .i64 1]) ∧ w = w' := by
  have h' : (262144 : Int) < (s.size : Int) := by omega
  go_enter Try.func68, Try.ntmps68
  go_wp2
  go_ret2
  exact ⟨rfl, rfl⟩
theorem text_cat (s : ByteArray) (h : s.size ≤ 262144) (P : Program) (w : World) : (Op.stringOp .add ⟨(vL s.size).toArray⟩ s).run P w = .ok (.string ⟨(txL s.data.toList).toArray⟩) w := by
  rw [run_string_add_sum, txt_mk]
  have := vL_len9 (n := s.size) (by omega)
  show (vL s.size).toArray.size + s.size ≤ _
  rw [List.size_toArray]
  omega
theorem text_code (s : ByteArray) (w : World) (h : s.size ≤ 262144) :
    Calls Try.prog 89 #[.string s] w fun e w' => e = .returned (.tuple #[.string ⟨(txL s.data.toList).toArray⟩, .int .i64 0]) ∧ Below w.heap.size w w' := by
  have h' : (s.size : Int) ≤ 262144 := by omega
  have hcat := text_cat s h Try.prog
  go_enter Try.func89, Try.ntmps89
  go_wp2_with fail
  refine (put_code s.size _ (by omega)).mono ?_
  rintro e w1 ⟨rfl, hb⟩
  go_wp2
  go_ret2
  exact ⟨rfl, hb⟩
theorem text_ref (s : ByteArray) (w : World) (h : s.size ≤ 262144) :
    Calls Try.prog 68 #[.string s] w fun e w' => e = .returned (.tuple #[.string ⟨(txL s.data.toList).toArray⟩, .int .i64 0]) ∧ Below w.heap.size w w' := by
  have h' : (s.size : Int) ≤ 262144 := by omega
  have hcat := text_cat s h Try.prog
  go_enter Try.func68, Try.ntmps68
  go_wp2_with fail
  refine (put_ref s.size _ (by omega)).mono ?_
  rintro e w1 ⟨rfl, hb⟩
  go_wp2
  go_ret2
  exact ⟨rfl, hb⟩

theorem tk_cases (l : List UInt8) : ((tk l 0 0).2.2 = 10 ∨ (tk l 0 0).2.2 = 11) ∨ ∃ n k, tk l 0 0 = (n, k, 0) ∧ 0 < k ∧ k ≤ l.length ∧ n ≤ 4611686018427387904 := by
  rcases tk_code l 0 0 with h | h
  · right
    have e : tk l 0 0 = ((tk l 0 0).1, (tk l 0 0).2.1, 0) := Prod.ext rfl (Prod.ext rfl h)
    obtain ⟨n, h1, h2, _, h4, h5, _⟩ := tk_back l 0 0 _ _ e
    exact ⟨_, _, e, h1, by omega, h5⟩
  · exact .inl h
theorem ttR_err {l : List UInt8} {c : Nat} (h : (tk l 0 0).2.2 = c) (hc : c ≠ 0) : ttR l = ([], 0, c) := by
  unfold ttR
  rw [h, if_neg hc]
theorem ttR_big {l : List UInt8} {n k : Nat} (h : tk l 0 0 = (n, k, 0)) (hn : 262144 < n) : ttR l = ([], 0, 11) := by
  unfold ttR
  rw [h, if_pos rfl, if_pos hn]
theorem ttR_short {l : List UInt8} {n k : Nat} (h : tk l 0 0 = (n, k, 0)) (hn : n ≤ 262144) (hl : l.length < k + n) : ttR l = ([], 0, 10) := by
  unfold ttR
  rw [h, if_pos rfl, if_neg (by simpa using hn), if_pos hl]
theorem ttR_ok {l : List UInt8} {n k : Nat} (h : tk l 0 0 = (n, k, 0)) (hn : n ≤ 262144) (hl : k + n ≤ l.length) : ttR l = ((l.drop k).take n, k + n, 0) := by
  unfold ttR
  rw [h, if_pos rfl, if_neg (by simpa using hn), if_neg (by simpa using hl)]

theorem ext_size (s : ByteArray) (k n : Nat) (h : k + n ≤ s.size) : (s.extract k (k + n)).size = n := by
  rw [ByteArray.size_extract]
  omega
theorem ext_mk (s : ByteArray) (k n : Nat) : s.extract k (k + n) = ⟨((s.data.toList.drop k).take n).toArray⟩ := by
  rw [Lib.extract_eq, show k + n - k = n by omega]
/-- What TakeText leaves. -/
def TT (l : List UInt8) (w : World) (e : Ending) (w' : World) : Prop :=
  e = .returned (.tuple #[.string ⟨(ttR l).1.toArray⟩, .int .i64 ((ttR l).2.1 : Nat), .int .i64 ((ttR l).2.2 : Nat)]) ∧ Below w.heap.size w w'
theorem TT_mk {l : List UInt8} {w w' : World} {a : ByteArray} {b c : Int} (x : List UInt8) (y z : Nat) (h : ttR l = (x, y, z)) (ha : a = ⟨x.toArray⟩) (hb : b = (y : Int)) (hc : c = (z : Int)) (hw : Below w.heap.size w w') :
    TT l w (.returned (.tuple #[.string a, .int .i64 b, .int .i64 c])) w' := by
  subst ha hb hc
  unfold TT
  rw [h]
  exact ⟨rfl, hw⟩

set_option maxRecDepth 100000 in
set_option maxHeartbeats 1000000 in
theorem taketext_code (s : ByteArray) (w : World) (hs : s.size ≤ 140737488351232) :
    Calls Try.prog 102 #[.string s] w (TT s.data.toList w) := by
  have hsl := size_list s
  rcases tk_cases s.data.toList with h | ⟨n, k, h, hk0, hk, hn⟩
  · have hc := take_code s w (by omega)
    rcases h with h | h
    all_goals
      have h12 := tk_err s.data.toList 0 0 (by omega)
      rw [h, h12.1, h12.2] at hc
      have hT := Lib.hid (ttR_err h (by decide))
      clear h h12 hsl
      go_enter Try.func102, Try.ntmps102
      go_wp2_with fail
      refine hc.mono ?_
      rintro e w1 ⟨rfl, rfl⟩
      clear hc
      go_wp2
      go_ret3
      exact TT_mk _ _ _ hT.out rfl rfl rfl (Below.refl _ _)
  · have hc := take_code s w (by omega)
    rw [h] at hc
    rw [hsl] at hk
    by_cases h1 : 262144 < n
    · have hT := Lib.hid (ttR_big h h1)
      have h1' : (262144 : Int) < (n : Int) := by omega
      clear h hsl
      go_enter Try.func102, Try.ntmps102
      go_wp2_with fail
      refine hc.mono ?_
      rintro e w1 ⟨rfl, rfl⟩
      clear hc
      go_wp2
      go_ret3
      exact TT_mk _ _ _ hT.out rfl rfl rfl (Below.refl _ _)
    · by_cases h2 : s.size < k + n
      · have hT := Lib.hid (ttR_short h (by omega) (by omega))
        clear h hsl
        go_enter Try.func102, Try.ntmps102
        go_wp2_with fail
        refine hc.mono ?_
        rintro e w1 ⟨rfl, rfl⟩
        clear hc
        go_wp2
        go_ret3
        exact TT_mk _ _ _ hT.out rfl rfl rfl (Below.refl _ _)
      · have hT := Lib.hid (ttR_ok h (by omega) (by omega))
        have hkn : k + n ≤ s.size := by omega
        clear h hsl
        go_enter Try.func102, Try.ntmps102
        go_wp2_with fail
        refine hc.mono ?_
        rintro e w1 ⟨rfl, rfl⟩
        clear hc
        go_wp2_with fail
        refine (clone_any _ _ (by rw [ext_size s k n hkn]; omega)).mono ?_
        rintro e w1 ⟨rfl, hb⟩
        go_wp2
        go_ret3
        exact TT_mk _ _ _ hT.out (ext_mk s k n) (by omega) rfl hb

set_option maxRecDepth 100000 in
set_option maxHeartbeats 1000000 in
theorem taketext_ref (s : ByteArray) (w : World) (hs : s.size ≤ 140737488351232) :
    Calls Try.prog 69 #[.string s] w (TT s.data.toList w) := by
  have hsl := size_list s
  rcases tk_cases s.data.toList with h | ⟨n, k, h, hk0, hk, hn⟩
  · have hc := take_ref s w (by omega)
    rcases h with h | h
    all_goals
      have h12 := tk_err s.data.toList 0 0 (by omega)
      rw [h, h12.1, h12.2] at hc
      have hT := Lib.hid (ttR_err h (by decide))
      clear h h12 hsl
      go_enter Try.func69, Try.ntmps69
      go_wp2_with fail
      refine hc.mono ?_
      rintro e w1 ⟨rfl, rfl⟩
      clear hc
      go_wp2
      go_ret3
      exact TT_mk _ _ _ hT.out rfl rfl rfl (Below.refl _ _)
  · have hc := take_ref s w (by omega)
    rw [h] at hc
    rw [hsl] at hk
    by_cases h1 : 262144 < n
    · have hT := Lib.hid (ttR_big h h1)
      have h1' : (262144 : Int) < (n : Int) := by omega
      clear h hsl
      go_enter Try.func69, Try.ntmps69
      go_wp2_with fail
      refine hc.mono ?_
      rintro e w1 ⟨rfl, rfl⟩
      clear hc
      go_wp2
      go_ret3
      exact TT_mk _ _ _ hT.out rfl rfl rfl (Below.refl _ _)
    · by_cases h2 : s.size < k + n
      · have hT := Lib.hid (ttR_short h (by omega) (by omega))
        clear h hsl
        go_enter Try.func69, Try.ntmps69
        go_wp2_with fail
        refine hc.mono ?_
        rintro e w1 ⟨rfl, rfl⟩
        clear hc
        go_wp2
        go_ret3
        exact TT_mk _ _ _ hT.out rfl rfl rfl (Below.refl _ _)
      · have hT := Lib.hid (ttR_ok h (by omega) (by omega))
        have hkn : k + n ≤ s.size := by omega
        clear h hsl
        go_enter Try.func69, Try.ntmps69
        go_wp2_with fail
        refine hc.mono ?_
        rintro e w1 ⟨rfl, rfl⟩
        clear hc
        go_wp2
        go_ret3
        exact TT_mk _ _ _ hT.out (ext_mk s k n) (by omega) rfl (Below.refl _ _)
end Go.Proofs.Ytdnhmkfgcpdbkaa
