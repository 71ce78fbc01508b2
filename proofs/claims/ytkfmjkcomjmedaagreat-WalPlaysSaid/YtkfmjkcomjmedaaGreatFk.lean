/-
  Layer 3 (frame), contracts of Put and Take, of the code and of the document's answer. Conditions: texts within the reach.
-/
import Derived.Test.YtkfmjkcomjmedaaGreatFm
namespace Go.Proofs.YtkfmjkcomjmedaaGreat
open Go.RowKit

theorem fr_mk (s : ByteArray) : (⟨(txL s.data.toList).toArray⟩ ++ ⟨(tailL (txL s.data.toList)).toArray⟩ : ByteArray) = ⟨(frL s.data.toList).toArray⟩ := by
  apply ByteArray.ext
  simp [frL]
theorem fput_no (s : ByteArray) (w : World) (h : 262144 < s.size) (hs : s.size ≤ 140737488351232) :
    Calls Tryz.prog 44 #[.string s] w fun e w' => e = .returned (.tuple #[.string ⟨#[]⟩, .int .i64 1]) ∧ w = w' := by
  go_enter Tryz.func44, Tryz.ntmps44
  go_wp2_with fail
  refine (text_no s _ h (by omega)).mono ?_
  rintro e w1 ⟨rfl, rfl⟩
  go_wp2
  go_ret2
  exact ⟨rfl, rfl⟩
theorem fput_ref_no (s : ByteArray) (w : World) (h : 262144 < s.size) (hs : s.size ≤ 140737488351232) :
    Calls Tryz.prog 51 #[.string s] w fun e w' => e = .returned (.tuple #[.string ⟨#[]⟩, .int .i64 1]) ∧ w = w' := by
  go_enter Tryz.func51, Tryz.ntmps51
  go_wp2_with fail
  refine (text_ref_no s _ h (by omega)).mono ?_
  rintro e w1 ⟨rfl, rfl⟩
  go_wp2
  go_ret2
  exact ⟨rfl, rfl⟩
theorem fput_code (s : ByteArray) (w : World) (h : s.size ≤ 262144) :
    Calls Tryz.prog 44 #[.string s] w fun e w' => e = .returned (.tuple #[.string ⟨(frL s.data.toList).toArray⟩, .int .i64 0]) ∧ Below w.heap.size w w' := by
  have hx := txL_size s.data.toList (by rw [size_list]; exact h)
  have hm := seal_code ⟨(txL s.data.toList).toArray⟩
  rw [fr_mk] at hm
  have HM := Lib.hid hm
  clear hm
  go_enter Tryz.func44, Tryz.ntmps44
  go_wp2_with fail
  refine (text_code s _ h).mono ?_
  rintro e w1 ⟨rfl, b1⟩
  go_wp2_with fail
  refine (HM.out _ (by rw [mk_size]; omega)).mono ?_
  rintro e w2 ⟨rfl, b2⟩
  go_wp2
  go_ret2
  exact ⟨rfl, bt b1 b2⟩
theorem fput_ref (s : ByteArray) (w : World) (h : s.size ≤ 262144) :
    Calls Tryz.prog 51 #[.string s] w fun e w' => e = .returned (.tuple #[.string ⟨(frL s.data.toList).toArray⟩, .int .i64 0]) ∧ Below w.heap.size w w' := by
  have hx := txL_size s.data.toList (by rw [size_list]; exact h)
  have hm := seal_ref ⟨(txL s.data.toList).toArray⟩
  rw [fr_mk] at hm
  have HM := Lib.hid hm
  clear hm
  go_enter Tryz.func51, Tryz.ntmps51
  go_wp2_with fail
  refine (text_ref s _ h).mono ?_
  rintro e w1 ⟨rfl, b1⟩
  go_wp2_with fail
  refine (HM.out _ (by rw [mk_size]; omega)).mono ?_
  rintro e w2 ⟨rfl, b2⟩
  go_wp2
  go_ret2
  exact ⟨rfl, bt b1 b2⟩

/-! ### Take -/
/-- What Take leaves. -/
def FT (l : List UInt8) (w : World) (e : Ending) (w' : World) : Prop :=
  e = .returned (.tuple #[.string ⟨(ftR l).1.toArray⟩, .int .i64 ((ftR l).2.1 : Nat), .int .i64 ((ftR l).2.2 : Nat)]) ∧ Below w.heap.size w w'
theorem FT_mk {l : List UInt8} {w w' : World} {a : ByteArray} {b c : Int} (x : List UInt8) (y z : Nat) (h : ftR l = (x, y, z)) (ha : a = ⟨x.toArray⟩) (hb : b = (y : Int)) (hc : c = (z : Int)) (hw : Below w.heap.size w w') :
    FT l w (.returned (.tuple #[.string a, .int .i64 b, .int .i64 c])) w' := by
  subst ha hb hc
  unfold FT
  rw [h]
  exact ⟨rfl, hw⟩
theorem chk_pre (s : ByteArray) (n : Nat) : (s.extract 0 n).data.toList = s.data.toList.take n := by
  rw [Lib.extract_data]
  simp
theorem pre_size (s : ByteArray) (n : Nat) (h : n ≤ s.size) : (s.extract 0 n).size = n := by
  rw [ByteArray.size_extract]
  omega

set_option maxRecDepth 100000 in
set_option maxHeartbeats 1000000 in
theorem ftake_code (s : ByteArray) (w : World) (hs : s.size ≤ 140737488351232) :
    Calls Tryz.prog 98 #[.string s] w (FT s.data.toList w) := by
  have hsl := size_list s
  have hc := taketext_code s w hs
  rcases ttR_cases s.data.toList with ⟨h0, h1, h2⟩ | ⟨x, n, h, hn1, hn⟩
  · have hT := Lib.hid (ftR_err h0)
    unfold TT at hc
    rw [h1, h2] at hc
    obtain ⟨c, hcc⟩ : ∃ c, c = (ttR s.data.toList).2.2 := ⟨_, rfl⟩
    rw [← hcc] at hc h0
    have h0' : ¬ (c : Int) = 0 := by omega
    clear h1 h2 hcc hsl h0
    go_enter Tryz.func98, Tryz.ntmps98
    go_wp2_with fail
    refine hc.mono ?_
    rintro e w1 ⟨rfl, b1⟩
    clear hc
    go_wp2
    go_ret3
    exact FT_mk _ _ _ hT.out rfl rfl rfl b1
  · unfold TT at hc
    rw [h] at hc
    rw [hsl] at hn
    by_cases h4 : s.size < n + 4
    · have hT := Lib.hid (ftR_short h (by omega))
      clear h hsl
      go_enter Tryz.func98, Tryz.ntmps98
      go_wp2_with fail
      refine hc.mono ?_
      rintro e w1 ⟨rfl, b1⟩
      clear hc
      go_wp2
      go_ret3
      exact FT_mk _ _ _ hT.out rfl rfl rfl b1
    · have hk := check_code (s.extract 0 (n + 4))
      rw [chk_pre] at hk
      have hpre := pre_size s (n + 4) (by omega)
      cases hchk : chk (s.data.toList.take (n + 4)) with
      | false =>
        have hT := Lib.hid (ftR_bad h hchk)
        rw [hchk] at hk
        have HK := Lib.hid hk
        clear h hsl hk hchk
        go_enter Tryz.func98, Tryz.ntmps98
        go_wp2_with fail
        refine hc.mono ?_
        rintro e w1 ⟨rfl, b1⟩
        clear hc
        go_wp2_with fail
        refine (HK.out _ (by rw [hpre]; omega)).mono ?_
        rintro e w2 ⟨rfl, b2⟩
        go_wp2
        go_ret3
        exact FT_mk _ _ _ hT.out rfl rfl rfl (bt b1 b2)
      | true =>
        have hT := Lib.hid (ftR_ok h (by omega) hchk)
        rw [hchk] at hk
        have HK := Lib.hid hk
        clear h hsl hk hchk
        go_enter Tryz.func98, Tryz.ntmps98
        go_wp2_with fail
        refine hc.mono ?_
        rintro e w1 ⟨rfl, b1⟩
        clear hc
        go_wp2_with fail
        refine (HK.out _ (by rw [hpre]; omega)).mono ?_
        rintro e w2 ⟨rfl, b2⟩
        go_wp2
        go_ret3
        exact FT_mk _ _ _ hT.out rfl (by omega) rfl (bt b1 b2)

set_option maxRecDepth 100000 in
set_option maxHeartbeats 1000000 in
theorem ftake_ref (s : ByteArray) (w : World) (hs : s.size ≤ 140737488351232) :
    Calls Tryz.prog 68 #[.string s] w (FT s.data.toList w) := by
  have hsl := size_list s
  have hc := taketext_ref s w hs
  rcases ttR_cases s.data.toList with ⟨h0, h1, h2⟩ | ⟨x, n, h, hn1, hn⟩
  · have hT := Lib.hid (ftR_err h0)
    unfold TT at hc
    rw [h1, h2] at hc
    obtain ⟨c, hcc⟩ : ∃ c, c = (ttR s.data.toList).2.2 := ⟨_, rfl⟩
    rw [← hcc] at hc h0
    have h0' : ¬ (c : Int) = 0 := by omega
    clear h1 h2 hcc hsl h0
    go_enter Tryz.func68, Tryz.ntmps68
    go_wp2_with fail
    refine hc.mono ?_
    rintro e w1 ⟨rfl, b1⟩
    clear hc
    go_wp2
    go_ret3
    exact FT_mk _ _ _ hT.out rfl rfl rfl b1
  · unfold TT at hc
    rw [h] at hc
    rw [hsl] at hn
    by_cases h4 : s.size < n + 4
    · have hT := Lib.hid (ftR_short h (by omega))
      clear h hsl
      go_enter Tryz.func68, Tryz.ntmps68
      go_wp2_with fail
      refine hc.mono ?_
      rintro e w1 ⟨rfl, b1⟩
      clear hc
      go_wp2
      go_ret3
      exact FT_mk _ _ _ hT.out rfl rfl rfl b1
    · have hk := check_ref (s.extract 0 (n + 4))
      rw [chk_pre] at hk
      have hpre := pre_size s (n + 4) (by omega)
      cases hchk : chk (s.data.toList.take (n + 4)) with
      | false =>
        have hT := Lib.hid (ftR_bad h hchk)
        rw [hchk] at hk
        have HK := Lib.hid hk
        clear h hsl hk hchk
        go_enter Tryz.func68, Tryz.ntmps68
        go_wp2_with fail
        refine hc.mono ?_
        rintro e w1 ⟨rfl, b1⟩
        clear hc
        go_wp2_with fail
        refine (HK.out _ (by rw [hpre]; omega)).mono ?_
        rintro e w2 ⟨rfl, b2⟩
        go_wp2
        go_ret3
        exact FT_mk _ _ _ hT.out rfl rfl rfl (bt b1 b2)
      | true =>
        have hT := Lib.hid (ftR_ok h (by omega) hchk)
        rw [hchk] at hk
        have HK := Lib.hid hk
        clear h hsl hk hchk
        go_enter Tryz.func68, Tryz.ntmps68
        go_wp2_with fail
        refine hc.mono ?_
        rintro e w1 ⟨rfl, b1⟩
        clear hc
        go_wp2_with fail
        refine (HK.out _ (by rw [hpre]; omega)).mono ?_
        rintro e w2 ⟨rfl, b2⟩
        go_wp2
        go_ret3
        exact FT_mk _ _ _ hT.out rfl (by omega) rfl (bt b1 b2)
end Go.Proofs.YtkfmjkcomjmedaaGreat
