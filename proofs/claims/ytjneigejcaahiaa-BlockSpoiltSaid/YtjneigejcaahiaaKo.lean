/-
  Layer 9 (block), the contract of the document's own one. Conditions: at most 2^24 bytes.
-/
import Derived.Test.YtjneigejcaahiaaKg
import Derived.Test.YtjneigejcaahiaaKr
namespace Go.Proofs.Ytjneigejcaahiaa
open Go.RowKit
set_option linter.unusedVariables false
set_option linter.unusedSimpArgs false

/-- What one answers. -/
def OnC (s last k v : ByteArray) (g : Bool) (q : Int) (n : Nat) (ok : Bool) : Prop :=
  ∀ w, Calls Try.prog 42 #[.string s, .string last] w fun e w' => e = .returned (.tuple #[.agg #[.string k, .string v, .bool g, .int .i64 q], .int .i64 (n : Nat), .bool ok]) ∧ Below w.heap.size w w'
theorem add_bytes (last : ByteArray) (n : Nat) (t key : List UInt8) (hn : n ≤ last.size) (hl : last.size ≤ 16777216) (ht : t.length ≤ 16777216) (hk : key = last.data.toList.take n ++ t) (P : Program) (w : World) :
    (Op.stringOp .add (last.extract 0 n) ⟨t.toArray⟩).run P w = .ok (.string ⟨key.toArray⟩) w := by
  rw [run_string_add_sum]
  · refine congrArg (fun x => Result.ok (Value.string x) w) ?_
    apply ByteArray.ext
    apply Array.toList_inj.1
    rw [hk]
    simp
  · rw [size_mkl t]
    show (last.extract 0 n).size + _ ≤ _
    rw [ByteArray.size_extract]
    omega
set_option maxRecDepth 100000 in
set_option maxHeartbeats 8000000 in
theorem one_any (s last : ByteArray) (hs : s.size ≤ 16777216) (hl : last.size ≤ 16777216) : ∃ (k v : ByteArray) (g : Bool) (q : Int) (n : Nat) (ok : Bool), OnC s last k v g q n ok ∧
    oneB s.data.toList last.data.toList = (if ok = true then some ((k, v, g, q), n) else none) ∧ n ≤ s.size ∧ k.size ≤ last.size + n ∧ v.size ≤ 20000000 := by
  obtain ⟨n, a, x, h1⟩ : ∃ n a x, tk s.data.toList 0 0 = (n, a, x) := ⟨_, _, _, rfl⟩
  obtain ⟨t, b, y, h2⟩ : ∃ t b y, ttR (s.data.toList.drop a) = (t, b, y) := ⟨_, _, _, rfl⟩
  obtain ⟨q, c, z, h3⟩ : ∃ q c z, tk (s.data.toList.drop (a + b)) 0 0 = (q, c, z) := ⟨_, _, _, rfl⟩
  obtain ⟨v, d, u, h4⟩ : ∃ v d u, ttR (s.data.toList.drop (a + b + c)) = (v, d, u) := ⟨_, _, _, rfl⟩
  have hone := oneB_eq (last := last.data.toList) h1 h2 h3 h4
  rw [size_list] at hone
  have l1 := tk_le h1
  have l2 := ttR_le h2
  have l3 := tk_le h3
  have l4 := ttR_le h4
  rw [List.length_drop] at l2 l3 l4
  rw [size_list] at l1 l2 l3 l4
  obtain ⟨p, hp⟩ : ∃ p, p = a + b := ⟨_, rfl⟩
  obtain ⟨p2, hp2⟩ : ∃ p2, p2 = a + b + c := ⟨_, rfl⟩
  obtain ⟨p3, hp3⟩ : ∃ p3, p3 = p2 + d := ⟨_, rfl⟩
  obtain ⟨key, hkey⟩ : ∃ key, key = last.data.toList.take n ++ t := ⟨_, rfl⟩
  have hks : key.length ≤ 33554432 := by rw [hkey, List.length_append, List.length_take, size_list]; omega
  have hkp : (⟨key.toArray⟩ : ByteArray).size ≤ last.size + p := by rw [size_mkl, hkey, List.length_append, List.length_take, size_list]; omega
  rw [← hkey, ← hp2, ← hp3] at hone
  obtain ⟨cm, hcm⟩ : ∃ cm, comN last.data.toList key = cm := ⟨_, rfl⟩
  rw [hcm] at hone
  have HT1 : Hid (∀ w, Calls Try.prog 41 #[.string s] w fun e w' => e = .returned (.tuple #[.int .i64 (n : Nat), .int .i64 (a : Nat), .int .i64 (x : Nat)]) ∧ w = w') := Lib.hid fun w => by
    have h := take_ref s w (by omega)
    rw [h1] at h
    exact h
  have HT2 : Hid (∀ w, Calls Try.prog 60 #[.string (s.extract a s.size)] w fun e w' => e = .returned (.tuple #[.string ⟨t.toArray⟩, .int .i64 (b : Nat), .int .i64 (y : Nat)]) ∧ Below w.heap.size w w') := Lib.hid fun w => by
    have h := taketext_ref (s.extract a s.size) w (by rw [(ext_drop s a (by omega)).2]; omega)
    unfold TT at h
    rw [(ext_drop s a (by omega)).1, h2] at h
    exact h
  have HT3 : Hid (∀ w, Calls Try.prog 41 #[.string (s.extract p s.size)] w fun e w' => e = .returned (.tuple #[.int .i64 (q : Nat), .int .i64 (c : Nat), .int .i64 (z : Nat)]) ∧ w = w') := Lib.hid fun w => by
    have h := take_ref (s.extract p s.size) w (by rw [(ext_drop s p (by omega)).2]; omega)
    rw [(ext_drop s p (by omega)).1, hp, h3] at h
    rw [hp]
    exact h
  have HT4 : Hid (∀ w, Calls Try.prog 60 #[.string (s.extract p2 s.size)] w fun e w' => e = .returned (.tuple #[.string ⟨v.toArray⟩, .int .i64 (d : Nat), .int .i64 (u : Nat)]) ∧ Below w.heap.size w w') := Lib.hid fun w => by
    have h := taketext_ref (s.extract p2 s.size) w (by rw [(ext_drop s p2 (by omega)).2]; omega)
    unfold TT at h
    rw [(ext_drop s p2 (by omega)).1, hp2, h4] at h
    rw [hp2]
    exact h
  have HC : Hid (∀ w, Calls Try.prog 31 #[.string last, .string ⟨key.toArray⟩] w fun e w' => e = .returned (.int .i64 (cm : Nat)) ∧ Below w.heap.size w w') := Lib.hid fun w => by
    have h := com_ref last ⟨key.toArray⟩ w (by omega) (by rw [size_mkl]; omega)
    rw [← hcm]
    exact h
  have hA : n ≤ last.size → ∀ w, (Op.stringOp .add (last.extract 0 n) ⟨t.toArray⟩).run Try.prog w = .ok (.string ⟨key.toArray⟩) w := fun hn w => add_bytes last n t key hn hl (by omega) hkey Try.prog w
  have HADD := Lib.hid hA
  have hai : (a : Int) ≤ (s.size : Int) := by omega
  have a0 : (0 : Int) ≤ (a : Int) := by omega
  have hpi : (p : Int) ≤ (s.size : Int) := by omega
  have p0 : (0 : Int) ≤ (p : Int) := by omega
  have hp2i : (p2 : Int) ≤ (s.size : Int) := by omega
  have p20 : (0 : Int) ≤ (p2 : Int) := by omega
  have hab : (a : Int) + (b : Int) = (p : Int) := by omega
  have hab2 : (p : Int) + (c : Int) = (p2 : Int) := by omega
  have hab3 : (p2 : Int) + (d : Int) = (p3 : Int) := by omega
  have hp3s : p3 ≤ s.size := by omega
  have hvs : v.length ≤ 16777216 := by omega
  have HL := Lib.hid (And.intro hks (And.intro hvs (And.intro l1.2 l3.2)))
  clear h1 h2 h3 h4 l1 l2 l3 l4 hp hp2 hp3 hkey hcm hA hks hvs
  have HO := Lib.hid hone
  clear hone
  by_cases hx : x = 0
  · subst hx
    by_cases hn : n ≤ last.size
    · have hni : (n : Int) ≤ (last.size : Int) := by omega
      have hn0 : (0 : Int) ≤ (n : Int) := by omega
      by_cases hy : y = 0
      · subst hy
        by_cases hz : z = 0
        · subst hz
          by_cases hc : cm = n
          · have hci : ((cm : Int) == (n : Int)) = true := by simp; omega
            have hqc : ((q / 2 : Nat) : Int) = (q : Int) / 2 := by omega
            have hq62 : q ≤ 4611686018427387904 := HL.out.2.2.2
            by_cases hg : q % 2 = 1
            · have hgb : ((q : Int) % 2 == 1) = true := by simp; omega
              refine ⟨⟨key.toArray⟩, ⟨#[]⟩, true, ((q : Int) / 2), p2, true, ?_, ?_, by omega, by omega, by decide⟩
              · intro w
                have HZ0 : Hid (EBox (w.alloc (.cells #[.string ⟨#[]⟩, .string ⟨#[]⟩, .bool false, .int .i64 0] 36)) w.heap.size ⟨#[]⟩ ⟨#[]⟩ false 0 ∧ EFree (w.alloc (.cells #[.string ⟨#[]⟩, .string ⟨#[]⟩, .bool false, .int .i64 0] 36)) w.heap.size ∧ Below w.heap.size w (w.alloc (.cells #[.string ⟨#[]⟩, .string ⟨#[]⟩, .bool false, .int .i64 0] 36))) := Lib.hid ⟨EBox.new w _ _ _ _ _, EFree.new w _ _ _ _ _, (Below.refl _ _).alloc (Nat.le_refl _) _⟩
                go_enter Try.func42, Try.ntmps42
                go_wp2_with fail
                refine (HT1.out _).mono ?_
                rintro e w1 ⟨rfl, rfl⟩
                obtain ⟨⟨z0, z1, z2, z3, z4⟩, ⟨y0, y1, y2, y3⟩, zb⟩ := HZ0.out
                have ZB := Lib.hid zb
                clear zb
                go_wp2_with fail
                refine (HT2.out _).mono ?_
                rintro e w2 ⟨rfl, bb⟩
                have HZ2 := Lib.hid (And.intro (HZ0.out.1.below bb) (And.intro (HZ0.out.2.1.below HZ0.out.1.2.2.2.2 bb) (HZ0.out.2.2.trans (bb.mono HZ0.out.2.2.size))))
                clear bb z0 z1 z2 z3 z4 y0 y1 y2 y3 ZB
                obtain ⟨⟨z0, z1, z2, z3, z4⟩, ⟨y0, y1, y2, y3⟩, zb⟩ := HZ2.out
                have ZB := Lib.hid zb
                clear zb
                go_wp2_with fail
                refine (HT3.out _).mono ?_
                rintro e w3 ⟨rfl, rfl⟩
                clear z0 z1 z2 z3 z4 y0 y1 y2 y3 ZB
                obtain ⟨⟨z0, z1, z2, z3, z4⟩, ⟨y0, y1, y2, y3⟩, zb⟩ := HZ2.out
                have ZB := Lib.hid zb
                clear zb
                have hadd := HADD.out hn
                go_wp2_with fail
                refine (HC.out _).mono ?_
                rintro e w4 ⟨rfl, bb⟩
                have HZ4 := Lib.hid (And.intro (HZ2.out.1.below bb) (And.intro (HZ2.out.2.1.below HZ2.out.1.2.2.2.2 bb) (HZ2.out.2.2.trans (bb.mono HZ2.out.2.2.size))))
                clear bb z0 z1 z2 z3 z4 y0 y1 y2 y3 ZB
                have hne : ¬ w.heap.size = w4.heap.size := by have := HZ4.out.1.2.2.2.2; omega
                obtain ⟨⟨z0, z1, z2, z3, z4⟩, ⟨y0, y1, y2, y3⟩, zb⟩ := HZ4.out
                have ZB := Lib.hid zb
                clear zb
                go_wp2
                exact bodyPost_ret (v := .tuple #[.agg #[.string ⟨key.toArray⟩, .string ⟨#[]⟩, .bool true, .int .i64 ((q : Int) / 2)], .int .i64 (p2 : Nat), .bool true]) (by simp [results, Try.results42, go_sem, z0, z1, z2, z3, z4]) rfl ⟨rfl, (have h := below_put ZB.out (Nat.le_refl _) _ _ _ _; h.alloc h.size _)⟩
              · rw [HO.out, if_pos ⟨rfl, hn, rfl, rfl, hc, .inl hg⟩, if_pos hg, if_pos rfl, hqc]
            · have hgb : ((q : Int) % 2 == 1) = false := by simp; omega
              have hvz : (⟨v.toArray⟩ : ByteArray).size ≤ 20000000 := by rw [size_mkl]; have := HL.out.2.1; omega
              refine ⟨⟨key.toArray⟩, ⟨v.toArray⟩, false, ((q : Int) / 2), p3, decide (u = 0), ?_, ?_, hp3s, by omega, hvz⟩
              · intro w
                have HZ0 : Hid (EBox (w.alloc (.cells #[.string ⟨#[]⟩, .string ⟨#[]⟩, .bool false, .int .i64 0] 36)) w.heap.size ⟨#[]⟩ ⟨#[]⟩ false 0 ∧ EFree (w.alloc (.cells #[.string ⟨#[]⟩, .string ⟨#[]⟩, .bool false, .int .i64 0] 36)) w.heap.size ∧ Below w.heap.size w (w.alloc (.cells #[.string ⟨#[]⟩, .string ⟨#[]⟩, .bool false, .int .i64 0] 36))) := Lib.hid ⟨EBox.new w _ _ _ _ _, EFree.new w _ _ _ _ _, (Below.refl _ _).alloc (Nat.le_refl _) _⟩
                go_enter Try.func42, Try.ntmps42
                go_wp2_with fail
                refine (HT1.out _).mono ?_
                rintro e w1 ⟨rfl, rfl⟩
                obtain ⟨⟨z0, z1, z2, z3, z4⟩, ⟨y0, y1, y2, y3⟩, zb⟩ := HZ0.out
                have ZB := Lib.hid zb
                clear zb
                go_wp2_with fail
                refine (HT2.out _).mono ?_
                rintro e w2 ⟨rfl, bb⟩
                have HZ2 := Lib.hid (And.intro (HZ0.out.1.below bb) (And.intro (HZ0.out.2.1.below HZ0.out.1.2.2.2.2 bb) (HZ0.out.2.2.trans (bb.mono HZ0.out.2.2.size))))
                clear bb z0 z1 z2 z3 z4 y0 y1 y2 y3 ZB
                obtain ⟨⟨z0, z1, z2, z3, z4⟩, ⟨y0, y1, y2, y3⟩, zb⟩ := HZ2.out
                have ZB := Lib.hid zb
                clear zb
                go_wp2_with fail
                refine (HT3.out _).mono ?_
                rintro e w3 ⟨rfl, rfl⟩
                clear z0 z1 z2 z3 z4 y0 y1 y2 y3 ZB
                obtain ⟨⟨z0, z1, z2, z3, z4⟩, ⟨y0, y1, y2, y3⟩, zb⟩ := HZ2.out
                have ZB := Lib.hid zb
                clear zb
                have hadd := HADD.out hn
                go_wp2_with fail
                refine (HC.out _).mono ?_
                rintro e w4 ⟨rfl, bb⟩
                have HZ4 := Lib.hid (And.intro (HZ2.out.1.below bb) (And.intro (HZ2.out.2.1.below HZ2.out.1.2.2.2.2 bb) (HZ2.out.2.2.trans (bb.mono HZ2.out.2.2.size))))
                clear bb z0 z1 z2 z3 z4 y0 y1 y2 y3 ZB
                have hne : ¬ w.heap.size = w4.heap.size := by have := HZ4.out.1.2.2.2.2; omega
                obtain ⟨⟨z0, z1, z2, z3, z4⟩, ⟨y0, y1, y2, y3⟩, zb⟩ := HZ4.out
                have ZB := Lib.hid zb
                clear zb
                go_wp2_with fail
                refine (HT4.out _).mono ?_
                rintro e w5 ⟨rfl, b5⟩
                have bb := below_al b5
                have HZ5 := Lib.hid (And.intro (HZ4.out.1.below bb) (And.intro (HZ4.out.2.1.below HZ4.out.1.2.2.2.2 bb) (HZ4.out.2.2.trans (bb.mono HZ4.out.2.2.size))))
                have HE5 := Lib.hid ((EBlk.new w4 ⟨key.toArray⟩ ⟨#[]⟩ false ((q : Int) / 2)).keep' b5)
                have hw5 := bb.size
                clear bb b5 z0 z1 z2 z3 z4 y0 y1 y2 y3 ZB
                obtain ⟨x0, x1, x2, x3, x4⟩ := HE5.out.box
                have xf := Lib.frozen_of_heap HE5.out 1
                have hne2 : ¬ w4.heap.size = w.heap.size := by omega
                have hw4w : w.heap.size ≤ w4.heap.size := HZ4.out.2.2.size
                have hub : ((u : Int) == 0) = decide (u = 0) := by by_cases h : u = 0 <;> simp [h]
                obtain ⟨⟨z0, z1, z2, z3, z4⟩, ⟨y0, y1, y2, y3⟩, zb⟩ := HZ5.out
                have ZB := Lib.hid zb
                clear zb
                go_wp2
                exact bodyPost_ret (v := .tuple #[.agg #[.string ⟨key.toArray⟩, .string ⟨v.toArray⟩, .bool false, .int .i64 ((q : Int) / 2)], .int .i64 (p3 : Nat), .bool (decide (u = 0))]) (by simp [results, Try.results42, go_sem, z0, z1, z2, z3, z4]) rfl ⟨rfl, below_put (ZB.out.setCell (p := ⟨w4.heap.size, 1, none⟩) hw4w _) (Nat.le_refl _) _ _ _ _⟩
              · rw [HO.out]
                by_cases hu : u = 0
                · rw [if_pos ⟨rfl, hn, rfl, rfl, hc, .inr hu⟩, if_neg hg, if_pos (decide_eq_true hu), hqc]
                · rw [if_neg, decide_eq_false hu]
                  · rfl
                  · rintro ⟨_, _, _, _, _, k | k⟩
                    · exact hg k
                    · exact hu k
          · have hci : ((cm : Int) == (n : Int)) = false := by simp; omega
            refine ⟨⟨#[]⟩, ⟨#[]⟩, false, 0, 0, false, ?_, ?_, Nat.zero_le _, Nat.zero_le _, by decide⟩
            · intro w
              have HZ0 : Hid (EBox (w.alloc (.cells #[.string ⟨#[]⟩, .string ⟨#[]⟩, .bool false, .int .i64 0] 36)) w.heap.size ⟨#[]⟩ ⟨#[]⟩ false 0 ∧ EFree (w.alloc (.cells #[.string ⟨#[]⟩, .string ⟨#[]⟩, .bool false, .int .i64 0] 36)) w.heap.size ∧ Below w.heap.size w (w.alloc (.cells #[.string ⟨#[]⟩, .string ⟨#[]⟩, .bool false, .int .i64 0] 36))) := Lib.hid ⟨EBox.new w _ _ _ _ _, EFree.new w _ _ _ _ _, (Below.refl _ _).alloc (Nat.le_refl _) _⟩
              go_enter Try.func42, Try.ntmps42
              go_wp2_with fail
              refine (HT1.out _).mono ?_
              rintro e w1 ⟨rfl, rfl⟩
              obtain ⟨⟨z0, z1, z2, z3, z4⟩, ⟨y0, y1, y2, y3⟩, zb⟩ := HZ0.out
              have ZB := Lib.hid zb
              clear zb
              go_wp2_with fail
              refine (HT2.out _).mono ?_
              rintro e w2 ⟨rfl, bb⟩
              have HZ2 := Lib.hid (And.intro (HZ0.out.1.below bb) (And.intro (HZ0.out.2.1.below HZ0.out.1.2.2.2.2 bb) (HZ0.out.2.2.trans (bb.mono HZ0.out.2.2.size))))
              clear bb z0 z1 z2 z3 z4 y0 y1 y2 y3 ZB
              obtain ⟨⟨z0, z1, z2, z3, z4⟩, ⟨y0, y1, y2, y3⟩, zb⟩ := HZ2.out
              have ZB := Lib.hid zb
              clear zb
              go_wp2_with fail
              refine (HT3.out _).mono ?_
              rintro e w3 ⟨rfl, rfl⟩
              clear z0 z1 z2 z3 z4 y0 y1 y2 y3 ZB
              obtain ⟨⟨z0, z1, z2, z3, z4⟩, ⟨y0, y1, y2, y3⟩, zb⟩ := HZ2.out
              have ZB := Lib.hid zb
              clear zb
              have hadd := HADD.out hn
              go_wp2_with fail
              refine (HC.out _).mono ?_
              rintro e w4 ⟨rfl, bb⟩
              have HZ4 := Lib.hid (And.intro (HZ2.out.1.below bb) (And.intro (HZ2.out.2.1.below HZ2.out.1.2.2.2.2 bb) (HZ2.out.2.2.trans (bb.mono HZ2.out.2.2.size))))
              clear bb z0 z1 z2 z3 z4 y0 y1 y2 y3 ZB
              obtain ⟨⟨z0, z1, z2, z3, z4⟩, ⟨y0, y1, y2, y3⟩, zb⟩ := HZ4.out
              have ZB := Lib.hid zb
              clear zb
              go_wp2
              exact bodyPost_ret (v := .tuple #[.agg #[.string ⟨#[]⟩, .string ⟨#[]⟩, .bool false, .int .i64 0], .int .i64 0, .bool false]) (by simp [results, Try.results42, go_sem, z0, z1, z2, z3, z4]) rfl ⟨rfl, by first | exact below_put ZB.out (Nat.le_refl _) _ _ _ _ | exact ZB.out⟩
            · rw [HO.out, if_neg]
              · rfl
              · rintro ⟨k1, k2, k3, k4, k5, k6⟩
                exact hc k5
        · have hzi : ((z : Int) == 0) = false := by simpa using hz
          refine ⟨⟨#[]⟩, ⟨#[]⟩, false, 0, 0, false, ?_, ?_, Nat.zero_le _, Nat.zero_le _, by decide⟩
          · intro w
            have HZ0 : Hid (EBox (w.alloc (.cells #[.string ⟨#[]⟩, .string ⟨#[]⟩, .bool false, .int .i64 0] 36)) w.heap.size ⟨#[]⟩ ⟨#[]⟩ false 0 ∧ EFree (w.alloc (.cells #[.string ⟨#[]⟩, .string ⟨#[]⟩, .bool false, .int .i64 0] 36)) w.heap.size ∧ Below w.heap.size w (w.alloc (.cells #[.string ⟨#[]⟩, .string ⟨#[]⟩, .bool false, .int .i64 0] 36))) := Lib.hid ⟨EBox.new w _ _ _ _ _, EFree.new w _ _ _ _ _, (Below.refl _ _).alloc (Nat.le_refl _) _⟩
            go_enter Try.func42, Try.ntmps42
            go_wp2_with fail
            refine (HT1.out _).mono ?_
            rintro e w1 ⟨rfl, rfl⟩
            obtain ⟨⟨z0, z1, z2, z3, z4⟩, ⟨y0, y1, y2, y3⟩, zb⟩ := HZ0.out
            have ZB := Lib.hid zb
            clear zb
            go_wp2_with fail
            refine (HT2.out _).mono ?_
            rintro e w2 ⟨rfl, bb⟩
            have HZ2 := Lib.hid (And.intro (HZ0.out.1.below bb) (And.intro (HZ0.out.2.1.below HZ0.out.1.2.2.2.2 bb) (HZ0.out.2.2.trans (bb.mono HZ0.out.2.2.size))))
            clear bb z0 z1 z2 z3 z4 y0 y1 y2 y3 ZB
            obtain ⟨⟨z0, z1, z2, z3, z4⟩, ⟨y0, y1, y2, y3⟩, zb⟩ := HZ2.out
            have ZB := Lib.hid zb
            clear zb
            go_wp2_with fail
            refine (HT3.out _).mono ?_
            rintro e w3 ⟨rfl, rfl⟩
            clear z0 z1 z2 z3 z4 y0 y1 y2 y3 ZB
            obtain ⟨⟨z0, z1, z2, z3, z4⟩, ⟨y0, y1, y2, y3⟩, zb⟩ := HZ2.out
            have ZB := Lib.hid zb
            clear zb
            go_wp2
            exact bodyPost_ret (v := .tuple #[.agg #[.string ⟨#[]⟩, .string ⟨#[]⟩, .bool false, .int .i64 0], .int .i64 0, .bool false]) (by simp [results, Try.results42, go_sem, z0, z1, z2, z3, z4]) rfl ⟨rfl, by first | exact below_put ZB.out (Nat.le_refl _) _ _ _ _ | exact ZB.out⟩
          · rw [HO.out, if_neg]
            · rfl
            · rintro ⟨k1, k2, k3, k4, k5, k6⟩
              exact hz k4
      · have hyi : ((y : Int) == 0) = false := by simpa using hy
        refine ⟨⟨#[]⟩, ⟨#[]⟩, false, 0, 0, false, ?_, ?_, Nat.zero_le _, Nat.zero_le _, by decide⟩
        · intro w
          have HZ0 : Hid (EBox (w.alloc (.cells #[.string ⟨#[]⟩, .string ⟨#[]⟩, .bool false, .int .i64 0] 36)) w.heap.size ⟨#[]⟩ ⟨#[]⟩ false 0 ∧ EFree (w.alloc (.cells #[.string ⟨#[]⟩, .string ⟨#[]⟩, .bool false, .int .i64 0] 36)) w.heap.size ∧ Below w.heap.size w (w.alloc (.cells #[.string ⟨#[]⟩, .string ⟨#[]⟩, .bool false, .int .i64 0] 36))) := Lib.hid ⟨EBox.new w _ _ _ _ _, EFree.new w _ _ _ _ _, (Below.refl _ _).alloc (Nat.le_refl _) _⟩
          go_enter Try.func42, Try.ntmps42
          go_wp2_with fail
          refine (HT1.out _).mono ?_
          rintro e w1 ⟨rfl, rfl⟩
          obtain ⟨⟨z0, z1, z2, z3, z4⟩, ⟨y0, y1, y2, y3⟩, zb⟩ := HZ0.out
          have ZB := Lib.hid zb
          clear zb
          go_wp2_with fail
          refine (HT2.out _).mono ?_
          rintro e w2 ⟨rfl, bb⟩
          have HZ2 := Lib.hid (And.intro (HZ0.out.1.below bb) (And.intro (HZ0.out.2.1.below HZ0.out.1.2.2.2.2 bb) (HZ0.out.2.2.trans (bb.mono HZ0.out.2.2.size))))
          clear bb z0 z1 z2 z3 z4 y0 y1 y2 y3 ZB
          obtain ⟨⟨z0, z1, z2, z3, z4⟩, ⟨y0, y1, y2, y3⟩, zb⟩ := HZ2.out
          have ZB := Lib.hid zb
          clear zb
          go_wp2
          exact bodyPost_ret (v := .tuple #[.agg #[.string ⟨#[]⟩, .string ⟨#[]⟩, .bool false, .int .i64 0], .int .i64 0, .bool false]) (by simp [results, Try.results42, go_sem, z0, z1, z2, z3, z4]) rfl ⟨rfl, by first | exact below_put ZB.out (Nat.le_refl _) _ _ _ _ | exact ZB.out⟩
        · rw [HO.out, if_neg]
          · rfl
          · rintro ⟨k1, k2, k3, k4, k5, k6⟩
            exact hy k3
    · have hni : (last.size : Int) < (n : Int) := by omega
      refine ⟨⟨#[]⟩, ⟨#[]⟩, false, 0, 0, false, ?_, ?_, Nat.zero_le _, Nat.zero_le _, by decide⟩
      · intro w
        have HZ0 : Hid (EBox (w.alloc (.cells #[.string ⟨#[]⟩, .string ⟨#[]⟩, .bool false, .int .i64 0] 36)) w.heap.size ⟨#[]⟩ ⟨#[]⟩ false 0 ∧ EFree (w.alloc (.cells #[.string ⟨#[]⟩, .string ⟨#[]⟩, .bool false, .int .i64 0] 36)) w.heap.size ∧ Below w.heap.size w (w.alloc (.cells #[.string ⟨#[]⟩, .string ⟨#[]⟩, .bool false, .int .i64 0] 36))) := Lib.hid ⟨EBox.new w _ _ _ _ _, EFree.new w _ _ _ _ _, (Below.refl _ _).alloc (Nat.le_refl _) _⟩
        go_enter Try.func42, Try.ntmps42
        go_wp2_with fail
        refine (HT1.out _).mono ?_
        rintro e w1 ⟨rfl, rfl⟩
        obtain ⟨⟨z0, z1, z2, z3, z4⟩, ⟨y0, y1, y2, y3⟩, zb⟩ := HZ0.out
        have ZB := Lib.hid zb
        clear zb
        go_wp2
        exact bodyPost_ret (v := .tuple #[.agg #[.string ⟨#[]⟩, .string ⟨#[]⟩, .bool false, .int .i64 0], .int .i64 0, .bool false]) (by simp [results, Try.results42, go_sem, z0, z1, z2, z3, z4]) rfl ⟨rfl, by first | exact below_put ZB.out (Nat.le_refl _) _ _ _ _ | exact ZB.out⟩
      · rw [HO.out, if_neg]
        · rfl
        · rintro ⟨k1, k2, k3, k4, k5, k6⟩
          exact hn k2
  · have hxi : ((x : Int) == 0) = false := by simpa using hx
    refine ⟨⟨#[]⟩, ⟨#[]⟩, false, 0, 0, false, ?_, ?_, Nat.zero_le _, Nat.zero_le _, by decide⟩
    · intro w
      have HZ0 : Hid (EBox (w.alloc (.cells #[.string ⟨#[]⟩, .string ⟨#[]⟩, .bool false, .int .i64 0] 36)) w.heap.size ⟨#[]⟩ ⟨#[]⟩ false 0 ∧ EFree (w.alloc (.cells #[.string ⟨#[]⟩, .string ⟨#[]⟩, .bool false, .int .i64 0] 36)) w.heap.size ∧ Below w.heap.size w (w.alloc (.cells #[.string ⟨#[]⟩, .string ⟨#[]⟩, .bool false, .int .i64 0] 36))) := Lib.hid ⟨EBox.new w _ _ _ _ _, EFree.new w _ _ _ _ _, (Below.refl _ _).alloc (Nat.le_refl _) _⟩
      go_enter Try.func42, Try.ntmps42
      go_wp2_with fail
      refine (HT1.out _).mono ?_
      rintro e w1 ⟨rfl, rfl⟩
      obtain ⟨⟨z0, z1, z2, z3, z4⟩, ⟨y0, y1, y2, y3⟩, zb⟩ := HZ0.out
      have ZB := Lib.hid zb
      clear zb
      go_wp2
      exact bodyPost_ret (v := .tuple #[.agg #[.string ⟨#[]⟩, .string ⟨#[]⟩, .bool false, .int .i64 0], .int .i64 0, .bool false]) (by simp [results, Try.results42, go_sem, z0, z1, z2, z3, z4]) rfl ⟨rfl, by first | exact below_put ZB.out (Nat.le_refl _) _ _ _ _ | exact ZB.out⟩
    · rw [HO.out, if_neg]
      · rfl
      · rintro ⟨k1, k2, k3, k4, k5, k6⟩
        exact hx k1
end Go.Proofs.Ytjneigejcaahiaa
