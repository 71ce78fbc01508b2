/-
  Texts of mine as one, in the order in which they build: Ko, Kh, Ki, Kj, Kk, Ku. Conditions: as each says.
-/
import Derived.Test.YtobhjmkaamjoeaaGreatKg
import Derived.Test.YtobhjmkaamjoeaaGreatKr
import Derived.Test.YtobhjmkaamjoeaaGreatAp
namespace Go.Proofs.YtobhjmkaamjoeaaGreat
set_option maxRecDepth 100000
open Go.RowKit
set_option linter.unusedVariables false
set_option linter.unusedSimpArgs false

/-- What one answers. -/
def OnC (s last k v : ByteArray) (g : Bool) (q : Int) (n : Nat) (ok : Bool) : Prop :=
  ∀ w, Calls Tryz.prog 74 #[.string s, .string last] w fun e w' => e = .returned (.tuple #[.agg #[.string k, .string v, .bool g, .int .i64 q], .int .i64 (n : Nat), .bool ok]) ∧ Below w.heap.size w w'
theorem add_bytes (last : ByteArray) (n : Nat) (t key : List UInt8) (hn : n ≤ last.size) (hl : last.size ≤ 16777216) (ht : t.length ≤ 16777216) (hk : key = last.data.toList.take n ++ t) (P : Program) (w : World) :
    (Op.stringOp .add (last.extract 0 n) ⟨t.toArray⟩).run P w = .ok (.string ⟨key.toArray⟩) w := by
  rw [run_string_add_sum]
  · refine congrArg (fun x => Result.ok (Value.string x) w) ?_
    apply ByteArray.ext
    apply Array.toList_inj.1
    rw [hk]
    simp
  · rw [size_mkl t]
    show (last.extract 0 n).size + _ ≤ _
    rw [ByteArray.size_extract]
    omega
set_option maxRecDepth 100000 in
set_option maxHeartbeats 8000000 in
theorem one_any (s last : ByteArray) (hs : s.size ≤ 16777216) (hl : last.size ≤ 16777216) : ∃ (k v : ByteArray) (g : Bool) (q : Int) (n : Nat) (ok : Bool), OnC s last k v g q n ok ∧
    oneB s.data.toList last.data.toList = (if ok = true then some ((k, v, g, q), n) else none) ∧ n ≤ s.size ∧ k.size ≤ last.size + n ∧ v.size ≤ 20000000 := by
  obtain ⟨n, a, x, h1⟩ : ∃ n a x, tk s.data.toList 0 0 = (n, a, x) := ⟨_, _, _, rfl⟩
  obtain ⟨t, b, y, h2⟩ : ∃ t b y, ttR (s.data.toList.drop a) = (t, b, y) := ⟨_, _, _, rfl⟩
  obtain ⟨q, c, z, h3⟩ : ∃ q c z, tk (s.data.toList.drop (a + b)) 0 0 = (q, c, z) := ⟨_, _, _, rfl⟩
  obtain ⟨v, d, u, h4⟩ : ∃ v d u, ttR (s.data.toList.drop (a + b + c)) = (v, d, u) := ⟨_, _, _, rfl⟩
  have hone := oneB_eq (last := last.data.toList) h1 h2 h3 h4
  rw [size_list] at hone
  have l1 := tk_le h1
  have l2 := ttR_le h2
  have l3 := tk_le h3
  have l4 := ttR_le h4
  rw [List.length_drop] at l2 l3 l4
  rw [size_list] at l1 l2 l3 l4
  obtain ⟨p, hp⟩ : ∃ p, p = a + b := ⟨_, rfl⟩
  obtain ⟨p2, hp2⟩ : ∃ p2, p2 = a + b + c := ⟨_, rfl⟩
  obtain ⟨p3, hp3⟩ : ∃ p3, p3 = p2 + d := ⟨_, rfl⟩
  obtain ⟨key, hkey⟩ : ∃ key, key = last.data.toList.take n ++ t := ⟨_, rfl⟩
  have hks : key.length ≤ 33554432 := by rw [hkey, List.length_append, List.length_take, size_list]; omega
  have hkp : (⟨key.toArray⟩ : ByteArray).size ≤ last.size + p := by rw [size_mkl, hkey, List.length_append, List.length_take, size_list]; omega
  rw [← hkey, ← hp2, ← hp3] at hone
  obtain ⟨cm, hcm⟩ : ∃ cm, comN last.data.toList key = cm := ⟨_, rfl⟩
  rw [hcm] at hone
  have HT1 : Hid (∀ w, Calls Tryz.prog 71 #[.string s] w fun e w' => e = .returned (.tuple #[.int .i64 (n : Nat), .int .i64 (a : Nat), .int .i64 (x : Nat)]) ∧ w = w') := Lib.hid fun w => by
    have h := take_ref s w (by omega)
    rw [h1] at h
    exact h
  have HT2 : Hid (∀ w, Calls Tryz.prog 72 #[.string (s.extract a s.size)] w fun e w' => e = .returned (.tuple #[.string ⟨t.toArray⟩, .int .i64 (b : Nat), .int .i64 (y : Nat)]) ∧ Below w.heap.size w w') := Lib.hid fun w => by
    have h := taketext_ref (s.extract a s.size) w (by rw [(ext_drop s a (by omega)).2]; omega)
    unfold TT at h
    rw [(ext_drop s a (by omega)).1, h2] at h
    exact h
  have HT3 : Hid (∀ w, Calls Tryz.prog 71 #[.string (s.extract p s.size)] w fun e w' => e = .returned (.tuple #[.int .i64 (q : Nat), .int .i64 (c : Nat), .int .i64 (z : Nat)]) ∧ w = w') := Lib.hid fun w => by
    have h := take_ref (s.extract p s.size) w (by rw [(ext_drop s p (by omega)).2]; omega)
    rw [(ext_drop s p (by omega)).1, hp, h3] at h
    rw [hp]
    exact h
  have HT4 : Hid (∀ w, Calls Tryz.prog 72 #[.string (s.extract p2 s.size)] w fun e w' => e = .returned (.tuple #[.string ⟨v.toArray⟩, .int .i64 (d : Nat), .int .i64 (u : Nat)]) ∧ Below w.heap.size w w') := Lib.hid fun w => by
    have h := taketext_ref (s.extract p2 s.size) w (by rw [(ext_drop s p2 (by omega)).2]; omega)
    unfold TT at h
    rw [(ext_drop s p2 (by omega)).1, hp2, h4] at h
    rw [hp2]
    exact h
  have HC : Hid (∀ w, Calls Tryz.prog 58 #[.string last, .string ⟨key.toArray⟩] w fun e w' => e = .returned (.int .i64 (cm : Nat)) ∧ Below w.heap.size w w') := Lib.hid fun w => by
    have h := com_ref last ⟨key.toArray⟩ w (by omega) (by rw [size_mkl]; omega)
    rw [← hcm]
    exact h
  have hA : n ≤ last.size → ∀ w, (Op.stringOp .add (last.extract 0 n) ⟨t.toArray⟩).run Tryz.prog w = .ok (.string ⟨key.toArray⟩) w := fun hn w => add_bytes last n t key hn hl (by omega) hkey Tryz.prog w
  have HADD := Lib.hid hA
  have hai : (a : Int) ≤ (s.size : Int) := by omega
  have a0 : (0 : Int) ≤ (a : Int) := by omega
  have hpi : (p : Int) ≤ (s.size : Int) := by omega
  have p0 : (0 : Int) ≤ (p : Int) := by omega
  have hp2i : (p2 : Int) ≤ (s.size : Int) := by omega
  have p20 : (0 : Int) ≤ (p2 : Int) := by omega
  have hab : (a : Int) + (b : Int) = (p : Int) := by omega
  have hab2 : (p : Int) + (c : Int) = (p2 : Int) := by omega
  have hab3 : (p2 : Int) + (d : Int) = (p3 : Int) := by omega
  have hp3s : p3 ≤ s.size := by omega
  have hvs : v.length ≤ 16777216 := by omega
  have HL := Lib.hid (And.intro hks (And.intro hvs (And.intro l1.2 l3.2)))
  clear h1 h2 h3 h4 l1 l2 l3 l4 hp hp2 hp3 hkey hcm hA hks hvs
  have HO := Lib.hid hone
  clear hone
  by_cases hx : x = 0
  · subst hx
    by_cases hn : n ≤ last.size
    · have hni : (n : Int) ≤ (last.size : Int) := by omega
      have hn0 : (0 : Int) ≤ (n : Int) := by omega
      by_cases hy : y = 0
      · subst hy
        by_cases hz : z = 0
        · subst hz
          by_cases hc : cm = n
          · have hci : ((cm : Int) == (n : Int)) = true := by simp; omega
            have hqc : ((q / 2 : Nat) : Int) = (q : Int) / 2 := by omega
            have hq62 : q ≤ 4611686018427387904 := HL.out.2.2.2
            by_cases hg : q % 2 = 1
            · have hgb : ((q : Int) % 2 == 1) = true := by simp; omega
              refine ⟨⟨key.toArray⟩, ⟨#[]⟩, true, ((q : Int) / 2), p2, true, ?_, ?_, by omega, by omega, by decide⟩
              · intro w
                have HZ0 : Hid (EBox (w.alloc (.cells #[.string ⟨#[]⟩, .string ⟨#[]⟩, .bool false, .int .i64 0] 41)) w.heap.size ⟨#[]⟩ ⟨#[]⟩ false 0 ∧ EFree (w.alloc (.cells #[.string ⟨#[]⟩, .string ⟨#[]⟩, .bool false, .int .i64 0] 41)) w.heap.size ∧ Below w.heap.size w (w.alloc (.cells #[.string ⟨#[]⟩, .string ⟨#[]⟩, .bool false, .int .i64 0] 41))) := Lib.hid ⟨EBox.new w _ _ _ _ _, EFree.new w _ _ _ _ _, (Below.refl _ _).alloc (Nat.le_refl _) _⟩
                go_enter Tryz.func74, Tryz.ntmps74
                go_wp2_with fail
                refine (HT1.out _).mono ?_
                rintro e w1 ⟨rfl, rfl⟩
                obtain ⟨⟨z0, z1, z2, z3, z4⟩, ⟨y0, y1, y2, y3⟩, zb⟩ := HZ0.out
                have ZB := Lib.hid zb
                clear zb
                go_wp2_with fail
                refine (HT2.out _).mono ?_
                rintro e w2 ⟨rfl, bb⟩
                have HZ2 := Lib.hid (And.intro (HZ0.out.1.below bb) (And.intro (HZ0.out.2.1.below HZ0.out.1.2.2.2.2 bb) (HZ0.out.2.2.trans (bb.mono HZ0.out.2.2.size))))
                clear bb z0 z1 z2 z3 z4 y0 y1 y2 y3 ZB
                obtain ⟨⟨z0, z1, z2, z3, z4⟩, ⟨y0, y1, y2, y3⟩, zb⟩ := HZ2.out
                have ZB := Lib.hid zb
                clear zb
                go_wp2_with fail
                refine (HT3.out _).mono ?_
                rintro e w3 ⟨rfl, rfl⟩
                clear z0 z1 z2 z3 z4 y0 y1 y2 y3 ZB
                obtain ⟨⟨z0, z1, z2, z3, z4⟩, ⟨y0, y1, y2, y3⟩, zb⟩ := HZ2.out
                have ZB := Lib.hid zb
                clear zb
                have hadd := HADD.out hn
                go_wp2_with fail
                refine (HC.out _).mono ?_
                rintro e w4 ⟨rfl, bb⟩
                have HZ4 := Lib.hid (And.intro (HZ2.out.1.below bb) (And.intro (HZ2.out.2.1.below HZ2.out.1.2.2.2.2 bb) (HZ2.out.2.2.trans (bb.mono HZ2.out.2.2.size))))
                clear bb z0 z1 z2 z3 z4 y0 y1 y2 y3 ZB
                have hne : ¬ w.heap.size = w4.heap.size := by have := HZ4.out.1.2.2.2.2; omega
                obtain ⟨⟨z0, z1, z2, z3, z4⟩, ⟨y0, y1, y2, y3⟩, zb⟩ := HZ4.out
                have ZB := Lib.hid zb
                clear zb
                go_wp2
                exact bodyPost_ret (v := .tuple #[.agg #[.string ⟨key.toArray⟩, .string ⟨#[]⟩, .bool true, .int .i64 ((q : Int) / 2)], .int .i64 (p2 : Nat), .bool true]) (by simp [results, Tryz.results74, go_sem, z0, z1, z2, z3, z4]) rfl ⟨rfl, (have h := below_put ZB.out (Nat.le_refl _) _ _ _ _; h.alloc h.size _)⟩
              · rw [HO.out, if_pos ⟨rfl, hn, rfl, rfl, hc, .inl hg⟩, if_pos hg, if_pos rfl, hqc]
            · have hgb : ((q : Int) % 2 == 1) = false := by simp; omega
              have hvz : (⟨v.toArray⟩ : ByteArray).size ≤ 20000000 := by rw [size_mkl]; have := HL.out.2.1; omega
              refine ⟨⟨key.toArray⟩, ⟨v.toArray⟩, false, ((q : Int) / 2), p3, decide (u = 0), ?_, ?_, hp3s, by omega, hvz⟩
              · intro w
                have HZ0 : Hid (EBox (w.alloc (.cells #[.string ⟨#[]⟩, .string ⟨#[]⟩, .bool false, .int .i64 0] 41)) w.heap.size ⟨#[]⟩ ⟨#[]⟩ false 0 ∧ EFree (w.alloc (.cells #[.string ⟨#[]⟩, .string ⟨#[]⟩, .bool false, .int .i64 0] 41)) w.heap.size ∧ Below w.heap.size w (w.alloc (.cells #[.string ⟨#[]⟩, .string ⟨#[]⟩, .bool false, .int .i64 0] 41))) := Lib.hid ⟨EBox.new w _ _ _ _ _, EFree.new w _ _ _ _ _, (Below.refl _ _).alloc (Nat.le_refl _) _⟩
                go_enter Tryz.func74, Tryz.ntmps74
                go_wp2_with fail
                refine (HT1.out _).mono ?_
                rintro e w1 ⟨rfl, rfl⟩
                obtain ⟨⟨z0, z1, z2, z3, z4⟩, ⟨y0, y1, y2, y3⟩, zb⟩ := HZ0.out
                have ZB := Lib.hid zb
                clear zb
                go_wp2_with fail
                refine (HT2.out _).mono ?_
                rintro e w2 ⟨rfl, bb⟩
                have HZ2 := Lib.hid (And.intro (HZ0.out.1.below bb) (And.intro (HZ0.out.2.1.below HZ0.out.1.2.2.2.2 bb) (HZ0.out.2.2.trans (bb.mono HZ0.out.2.2.size))))
                clear bb z0 z1 z2 z3 z4 y0 y1 y2 y3 ZB
                obtain ⟨⟨z0, z1, z2, z3, z4⟩, ⟨y0, y1, y2, y3⟩, zb⟩ := HZ2.out
                have ZB := Lib.hid zb
                clear zb
                go_wp2_with fail
                refine (HT3.out _).mono ?_
                rintro e w3 ⟨rfl, rfl⟩
                clear z0 z1 z2 z3 z4 y0 y1 y2 y3 ZB
                obtain ⟨⟨z0, z1, z2, z3, z4⟩, ⟨y0, y1, y2, y3⟩, zb⟩ := HZ2.out
                have ZB := Lib.hid zb
                clear zb
                have hadd := HADD.out hn
                go_wp2_with fail
                refine (HC.out _).mono ?_
                rintro e w4 ⟨rfl, bb⟩
                have HZ4 := Lib.hid (And.intro (HZ2.out.1.below bb) (And.intro (HZ2.out.2.1.below HZ2.out.1.2.2.2.2 bb) (HZ2.out.2.2.trans (bb.mono HZ2.out.2.2.size))))
                clear bb z0 z1 z2 z3 z4 y0 y1 y2 y3 ZB
                have hne : ¬ w.heap.size = w4.heap.size := by have := HZ4.out.1.2.2.2.2; omega
                obtain ⟨⟨z0, z1, z2, z3, z4⟩, ⟨y0, y1, y2, y3⟩, zb⟩ := HZ4.out
                have ZB := Lib.hid zb
                clear zb
                go_wp2_with fail
                refine (HT4.out _).mono ?_
                rintro e w5 ⟨rfl, b5⟩
                have bb := below_al b5
                have HZ5 := Lib.hid (And.intro (HZ4.out.1.below bb) (And.intro (HZ4.out.2.1.below HZ4.out.1.2.2.2.2 bb) (HZ4.out.2.2.trans (bb.mono HZ4.out.2.2.size))))
                have HE5 := Lib.hid ((EBlk.new w4 ⟨key.toArray⟩ ⟨#[]⟩ false ((q : Int) / 2)).keep' b5)
                have hw5 := bb.size
                clear bb b5 z0 z1 z2 z3 z4 y0 y1 y2 y3 ZB
                obtain ⟨x0, x1, x2, x3, x4⟩ := HE5.out.box
                have xf := Lib.frozen_of_heap HE5.out 1
                have hne2 : ¬ w4.heap.size = w.heap.size := by omega
                have hw4w : w.heap.size ≤ w4.heap.size := HZ4.out.2.2.size
                have hub : ((u : Int) == 0) = decide (u = 0) := by by_cases h : u = 0 <;> simp [h]
                obtain ⟨⟨z0, z1, z2, z3, z4⟩, ⟨y0, y1, y2, y3⟩, zb⟩ := HZ5.out
                have ZB := Lib.hid zb
                clear zb
                go_wp2
                exact bodyPost_ret (v := .tuple #[.agg #[.string ⟨key.toArray⟩, .string ⟨v.toArray⟩, .bool false, .int .i64 ((q : Int) / 2)], .int .i64 (p3 : Nat), .bool (decide (u = 0))]) (by simp [results, Tryz.results74, go_sem, z0, z1, z2, z3, z4]) rfl ⟨rfl, below_put (ZB.out.setCell (p := ⟨w4.heap.size, 1, none⟩) hw4w _) (Nat.le_refl _) _ _ _ _⟩
              · rw [HO.out]
                by_cases hu : u = 0
                · rw [if_pos ⟨rfl, hn, rfl, rfl, hc, .inr hu⟩, if_neg hg, if_pos (decide_eq_true hu), hqc]
                · rw [if_neg, decide_eq_false hu]
                  · rfl
                  · rintro ⟨_, _, _, _, _, k | k⟩
                    · exact hg k
                    · exact hu k
          · have hci : ((cm : Int) == (n : Int)) = false := by simp; omega
            refine ⟨⟨#[]⟩, ⟨#[]⟩, false, 0, 0, false, ?_, ?_, Nat.zero_le _, Nat.zero_le _, by decide⟩
            · intro w
              have HZ0 : Hid (EBox (w.alloc (.cells #[.string ⟨#[]⟩, .string ⟨#[]⟩, .bool false, .int .i64 0] 41)) w.heap.size ⟨#[]⟩ ⟨#[]⟩ false 0 ∧ EFree (w.alloc (.cells #[.string ⟨#[]⟩, .string ⟨#[]⟩, .bool false, .int .i64 0] 41)) w.heap.size ∧ Below w.heap.size w (w.alloc (.cells #[.string ⟨#[]⟩, .string ⟨#[]⟩, .bool false, .int .i64 0] 41))) := Lib.hid ⟨EBox.new w _ _ _ _ _, EFree.new w _ _ _ _ _, (Below.refl _ _).alloc (Nat.le_refl _) _⟩
              go_enter Tryz.func74, Tryz.ntmps74
              go_wp2_with fail
              refine (HT1.out _).mono ?_
              rintro e w1 ⟨rfl, rfl⟩
              obtain ⟨⟨z0, z1, z2, z3, z4⟩, ⟨y0, y1, y2, y3⟩, zb⟩ := HZ0.out
              have ZB := Lib.hid zb
              clear zb
              go_wp2_with fail
              refine (HT2.out _).mono ?_
              rintro e w2 ⟨rfl, bb⟩
              have HZ2 := Lib.hid (And.intro (HZ0.out.1.below bb) (And.intro (HZ0.out.2.1.below HZ0.out.1.2.2.2.2 bb) (HZ0.out.2.2.trans (bb.mono HZ0.out.2.2.size))))
              clear bb z0 z1 z2 z3 z4 y0 y1 y2 y3 ZB
              obtain ⟨⟨z0, z1, z2, z3, z4⟩, ⟨y0, y1, y2, y3⟩, zb⟩ := HZ2.out
              have ZB := Lib.hid zb
              clear zb
              go_wp2_with fail
              refine (HT3.out _).mono ?_
              rintro e w3 ⟨rfl, rfl⟩
              clear z0 z1 z2 z3 z4 y0 y1 y2 y3 ZB
              obtain ⟨⟨z0, z1, z2, z3, z4⟩, ⟨y0, y1, y2, y3⟩, zb⟩ := HZ2.out
              have ZB := Lib.hid zb
              clear zb
              have hadd := HADD.out hn
              go_wp2_with fail
              refine (HC.out _).mono ?_
              rintro e w4 ⟨rfl, bb⟩
              have HZ4 := Lib.hid (And.intro (HZ2.out.1.below bb) (And.intro (HZ2.out.2.1.below HZ2.out.1.2.2.2.2 bb) (HZ2.out.2.2.trans (bb.mono HZ2.out.2.2.size))))
              clear bb z0 z1 z2 z3 z4 y0 y1 y2 y3 ZB
              obtain ⟨⟨z0, z1, z2, z3, z4⟩, ⟨y0, y1, y2, y3⟩, zb⟩ := HZ4.out
              have ZB := Lib.hid zb
              clear zb
              go_wp2
              exact bodyPost_ret (v := .tuple #[.agg #[.string ⟨#[]⟩, .string ⟨#[]⟩, .bool false, .int .i64 0], .int .i64 0, .bool false]) (by simp [results, Tryz.results74, go_sem, z0, z1, z2, z3, z4]) rfl ⟨rfl, by first | exact below_put ZB.out (Nat.le_refl _) _ _ _ _ | exact ZB.out⟩
            · rw [HO.out, if_neg]
              · rfl
              · rintro ⟨k1, k2, k3, k4, k5, k6⟩
                exact hc k5
        · have hzi : ((z : Int) == 0) = false := by simpa using hz
          refine ⟨⟨#[]⟩, ⟨#[]⟩, false, 0, 0, false, ?_, ?_, Nat.zero_le _, Nat.zero_le _, by decide⟩
          · intro w
            have HZ0 : Hid (EBox (w.alloc (.cells #[.string ⟨#[]⟩, .string ⟨#[]⟩, .bool false, .int .i64 0] 41)) w.heap.size ⟨#[]⟩ ⟨#[]⟩ false 0 ∧ EFree (w.alloc (.cells #[.string ⟨#[]⟩, .string ⟨#[]⟩, .bool false, .int .i64 0] 41)) w.heap.size ∧ Below w.heap.size w (w.alloc (.cells #[.string ⟨#[]⟩, .string ⟨#[]⟩, .bool false, .int .i64 0] 41))) := Lib.hid ⟨EBox.new w _ _ _ _ _, EFree.new w _ _ _ _ _, (Below.refl _ _).alloc (Nat.le_refl _) _⟩
            go_enter Tryz.func74, Tryz.ntmps74
            go_wp2_with fail
            refine (HT1.out _).mono ?_
            rintro e w1 ⟨rfl, rfl⟩
            obtain ⟨⟨z0, z1, z2, z3, z4⟩, ⟨y0, y1, y2, y3⟩, zb⟩ := HZ0.out
            have ZB := Lib.hid zb
            clear zb
            go_wp2_with fail
            refine (HT2.out _).mono ?_
            rintro e w2 ⟨rfl, bb⟩
            have HZ2 := Lib.hid (And.intro (HZ0.out.1.below bb) (And.intro (HZ0.out.2.1.below HZ0.out.1.2.2.2.2 bb) (HZ0.out.2.2.trans (bb.mono HZ0.out.2.2.size))))
            clear bb z0 z1 z2 z3 z4 y0 y1 y2 y3 ZB
            obtain ⟨⟨z0, z1, z2, z3, z4⟩, ⟨y0, y1, y2, y3⟩, zb⟩ := HZ2.out
            have ZB := Lib.hid zb
            clear zb
            go_wp2_with fail
            refine (HT3.out _).mono ?_
            rintro e w3 ⟨rfl, rfl⟩
            clear z0 z1 z2 z3 z4 y0 y1 y2 y3 ZB
            obtain ⟨⟨z0, z1, z2, z3, z4⟩, ⟨y0, y1, y2, y3⟩, zb⟩ := HZ2.out
            have ZB := Lib.hid zb
            clear zb
            go_wp2
            exact bodyPost_ret (v := .tuple #[.agg #[.string ⟨#[]⟩, .string ⟨#[]⟩, .bool false, .int .i64 0], .int .i64 0, .bool false]) (by simp [results, Tryz.results74, go_sem, z0, z1, z2, z3, z4]) rfl ⟨rfl, by first | exact below_put ZB.out (Nat.le_refl _) _ _ _ _ | exact ZB.out⟩
          · rw [HO.out, if_neg]
            · rfl
            · rintro ⟨k1, k2, k3, k4, k5, k6⟩
              exact hz k4
      · have hyi : ((y : Int) == 0) = false := by simpa using hy
        refine ⟨⟨#[]⟩, ⟨#[]⟩, false, 0, 0, false, ?_, ?_, Nat.zero_le _, Nat.zero_le _, by decide⟩
        · intro w
          have HZ0 : Hid (EBox (w.alloc (.cells #[.string ⟨#[]⟩, .string ⟨#[]⟩, .bool false, .int .i64 0] 41)) w.heap.size ⟨#[]⟩ ⟨#[]⟩ false 0 ∧ EFree (w.alloc (.cells #[.string ⟨#[]⟩, .string ⟨#[]⟩, .bool false, .int .i64 0] 41)) w.heap.size ∧ Below w.heap.size w (w.alloc (.cells #[.string ⟨#[]⟩, .string ⟨#[]⟩, .bool false, .int .i64 0] 41))) := Lib.hid ⟨EBox.new w _ _ _ _ _, EFree.new w _ _ _ _ _, (Below.refl _ _).alloc (Nat.le_refl _) _⟩
          go_enter Tryz.func74, Tryz.ntmps74
          go_wp2_with fail
          refine (HT1.out _).mono ?_
          rintro e w1 ⟨rfl, rfl⟩
          obtain ⟨⟨z0, z1, z2, z3, z4⟩, ⟨y0, y1, y2, y3⟩, zb⟩ := HZ0.out
          have ZB := Lib.hid zb
          clear zb
          go_wp2_with fail
          refine (HT2.out _).mono ?_
          rintro e w2 ⟨rfl, bb⟩
          have HZ2 := Lib.hid (And.intro (HZ0.out.1.below bb) (And.intro (HZ0.out.2.1.below HZ0.out.1.2.2.2.2 bb) (HZ0.out.2.2.trans (bb.mono HZ0.out.2.2.size))))
          clear bb z0 z1 z2 z3 z4 y0 y1 y2 y3 ZB
          obtain ⟨⟨z0, z1, z2, z3, z4⟩, ⟨y0, y1, y2, y3⟩, zb⟩ := HZ2.out
          have ZB := Lib.hid zb
          clear zb
          go_wp2
          exact bodyPost_ret (v := .tuple #[.agg #[.string ⟨#[]⟩, .string ⟨#[]⟩, .bool false, .int .i64 0], .int .i64 0, .bool false]) (by simp [results, Tryz.results74, go_sem, z0, z1, z2, z3, z4]) rfl ⟨rfl, by first | exact below_put ZB.out (Nat.le_refl _) _ _ _ _ | exact ZB.out⟩
        · rw [HO.out, if_neg]
          · rfl
          · rintro ⟨k1, k2, k3, k4, k5, k6⟩
            exact hy k3
    · have hni : (last.size : Int) < (n : Int) := by omega
      refine ⟨⟨#[]⟩, ⟨#[]⟩, false, 0, 0, false, ?_, ?_, Nat.zero_le _, Nat.zero_le _, by decide⟩
      · intro w
        have HZ0 : Hid (EBox (w.alloc (.cells #[.string ⟨#[]⟩, .string ⟨#[]⟩, .bool false, .int .i64 0] 41)) w.heap.size ⟨#[]⟩ ⟨#[]⟩ false 0 ∧ EFree (w.alloc (.cells #[.string ⟨#[]⟩, .string ⟨#[]⟩, .bool false, .int .i64 0] 41)) w.heap.size ∧ Below w.heap.size w (w.alloc (.cells #[.string ⟨#[]⟩, .string ⟨#[]⟩, .bool false, .int .i64 0] 41))) := Lib.hid ⟨EBox.new w _ _ _ _ _, EFree.new w _ _ _ _ _, (Below.refl _ _).alloc (Nat.le_refl _) _⟩
        go_enter Tryz.func74, Tryz.ntmps74
        go_wp2_with fail
        refine (HT1.out _).mono ?_
        rintro e w1 ⟨rfl, rfl⟩
        obtain ⟨⟨z0, z1, z2, z3, z4⟩, ⟨y0, y1, y2, y3⟩, zb⟩ := HZ0.out
        have ZB := Lib.hid zb
        clear zb
        go_wp2
        exact bodyPost_ret (v := .tuple #[.agg #[.string ⟨#[]⟩, .string ⟨#[]⟩, .bool false, .int .i64 0], .int .i64 0, .bool false]) (by simp [results, Tryz.results74, go_sem, z0, z1, z2, z3, z4]) rfl ⟨rfl, by first | exact below_put ZB.out (Nat.le_refl _) _ _ _ _ | exact ZB.out⟩
      · rw [HO.out, if_neg]
        · rfl
        · rintro ⟨k1, k2, k3, k4, k5, k6⟩
          exact hn k2
  · have hxi : ((x : Int) == 0) = false := by simpa using hx
    refine ⟨⟨#[]⟩, ⟨#[]⟩, false, 0, 0, false, ?_, ?_, Nat.zero_le _, Nat.zero_le _, by decide⟩
    · intro w
      have HZ0 : Hid (EBox (w.alloc (.cells #[.string ⟨#[]⟩, .string ⟨#[]⟩, .bool false, .int .i64 0] 41)) w.heap.size ⟨#[]⟩ ⟨#[]⟩ false 0 ∧ EFree (w.alloc (.cells #[.string ⟨#[]⟩, .string ⟨#[]⟩, .bool false, .int .i64 0] 41)) w.heap.size ∧ Below w.heap.size w (w.alloc (.cells #[.string ⟨#[]⟩, .string ⟨#[]⟩, .bool false, .int .i64 0] 41))) := Lib.hid ⟨EBox.new w _ _ _ _ _, EFree.new w _ _ _ _ _, (Below.refl _ _).alloc (Nat.le_refl _) _⟩
      go_enter Tryz.func74, Tryz.ntmps74
      go_wp2_with fail
      refine (HT1.out _).mono ?_
      rintro e w1 ⟨rfl, rfl⟩
      obtain ⟨⟨z0, z1, z2, z3, z4⟩, ⟨y0, y1, y2, y3⟩, zb⟩ := HZ0.out
      have ZB := Lib.hid zb
      clear zb
      go_wp2
      exact bodyPost_ret (v := .tuple #[.agg #[.string ⟨#[]⟩, .string ⟨#[]⟩, .bool false, .int .i64 0], .int .i64 0, .bool false]) (by simp [results, Tryz.results74, go_sem, z0, z1, z2, z3, z4]) rfl ⟨rfl, by first | exact below_put ZB.out (Nat.le_refl _) _ _ _ _ | exact ZB.out⟩
    · rw [HO.out, if_neg]
      · rfl
      · rintro ⟨k1, k2, k3, k4, k5, k6⟩
        exact hx k1
end Go.Proofs.YtobhjmkaamjoeaaGreat
namespace Go.Proofs.YtobhjmkaamjoeaaGreat
set_option maxRecDepth 100000
open Go.RowKit
set_option linter.unusedVariables false
set_option linter.unusedSimpArgs false

theorem rcheck_size {s : ByteArray} (h : chk s.data.toList = true) : ∃ m, s.size = m + 4 := by
  have hlen : 4 ≤ s.size := by have := (chk_split h).2; rwa [size_list] at this
  exact ⟨s.size - 4, by omega⟩
theorem map_app2 (ts : List Ent) (e : Ent) (o : Option (List Ent × List UInt8)) : (o.map fun p => (e :: p.1, p.2)).map (fun p => (ts ++ p.1, p.2)) = o.map fun p => ((ts ++ [e]) ++ p.1, p.2) := by
  cases o <;> simp
theorem partB_none {t : List UInt8} {n a x : Nat} (h : tk t 0 0 = (n, a, x)) (hn : ¬ (x = 0 ∧ n ≤ 4096)) : partB t = none := by
  unfold partB
  rw [h, if_neg hn]
theorem partB_many {t : List UInt8} {n a : Nat} (h : tk t 0 0 = (n, a, 0)) (hn : n ≤ 4096) : partB t = match manyB n (t.drop a) [] with | some (es, []) => if chainE zE es = true then some es else none | _ => none := by
  unfold partB
  rw [h]
  simp only [hn, and_self, if_true]
  rfl
set_option maxRecDepth 100000 in
set_option maxHeartbeats 8000000 in
theorem rtake9_any (s : ByteArray) (w : World) (hs : s.size ≤ 16777216) : Calls Tryz.prog 34 #[.string s] w (TK (takeB s.data.toList) w) := by
  obtain ⟨i0, hi, hz0, hz1, hz2⟩ := info_parts Tryz.infoEnt9
  have hck := check_ref s w (by omega)
  cases hc : chk s.data.toList with
  | false =>
    rw [hc] at hck
    have HC := Lib.hid hck
    have HP : Hid (takeB s.data.toList = none) := Lib.hid (by unfold takeB; rw [hc]; rfl)
    clear hc hck
    go_enter Tryz.func34, Tryz.ntmps34
    go_wp2_with fail
    refine HC.out.mono ?_
    rintro e w1 ⟨rfl, b1⟩
    go_wp2
    go_ret2
    exact TK.no HP.out rfl b1
  | true =>
    rw [hc] at hck
    obtain ⟨m, hm⟩ := rcheck_size hc
    have HP := Lib.hid (takeB_at m hm hc)
    have HC := Lib.hid hck
    have hmi : (s.size : Int) - 4 = (m : Int) := by omega
    have hml : (m : Int) ≤ (s.size : Int) := by omega
    have hm0 : (0 : Int) ≤ (m : Int) := by omega
    obtain ⟨t, htt⟩ : ∃ t, t = s.extract 0 m := ⟨_, rfl⟩
    have hsz : t.size ≤ 16777216 := by rw [htt, ByteArray.size_extract]; omega
    rw [← htt] at HP
    have HTT := Lib.hid htt
    have HMI := Lib.hid hmi
    obtain ⟨n, a, x, h1⟩ : ∃ n a x, tk t.data.toList 0 0 = (n, a, x) := ⟨_, _, _, rfl⟩
    have hal := (tk_le h1).1
    rw [size_list] at hal
    have hn62 := (tk_le h1).2
    have HT1 : Hid (∀ w, Calls Tryz.prog 71 #[.string (s.extract 0 m)] w fun e w' => e = .returned (.tuple #[.int .i64 (n : Nat), .int .i64 (a : Nat), .int .i64 (x : Nat)]) ∧ w = w') := Lib.hid fun w => by
      have h := take_ref t w (by omega)
      rw [h1] at h
      rw [← htt]
      exact h
    have H1 := Lib.hid h1
    clear hc hck hm hmi htt h1
    go_enter Tryz.func34, Tryz.ntmps34
    go_wp2_with fail
    refine HC.out.mono ?_
    rintro e w1 ⟨rfl, b1⟩
    have HB1 := Lib.hid b1
    have hv := HMI.out
    clear b1
    go_wp2_with fail
    refine (HT1.out _).mono ?_
    rintro e w2 ⟨rfl, rfl⟩
    rw [← HTT.out]
    clear hv
    by_cases hx : x = 0
    · subst hx
      by_cases hn4 : 4096 < n
      · have hn4i : (4096 : Int) < (n : Int) := by omega
        have HP2 : Hid (takeB s.data.toList = none) := Lib.hid (by rw [HP.out]; exact partB_none H1.out (by omega))
        go_wp2
        go_ret2
        exact TK.no HP2.out rfl HB1.out
      · have hn4i : (n : Int) ≤ 4096 := by omega
        have HM := Lib.hid (partB_many H1.out (by omega))
        rw [← HP.out] at HM
        clear HP H1 HT1 HC
        go_wp2
        go_loopw [5, 7, 8, 9, 10] (fun at_ v la i _ wr => ∃ (k j : Nat) (last : ByteArray) (ts : List Ent), i = .int .i64 k ∧ k ≤ n ∧ at_ = .int .i64 j ∧ j ≤ t.size ∧ la = .string last ∧ last.size ≤ j ∧ Hid (ts.length = k) ∧ Hid (okV ts) ∧
          Hid (wr.ownsRow w.heap.size 41 4 v ts.length (ev4 ts)) ∧ Hid (Below w.heap.size w wr) ∧
          Hid (manyB n (t.data.toList.drop a) [] = (manyB (n - k) (t.data.toList.drop j) last.data.toList).map fun p => (ts ++ p.1, p.2))) (fun _ _ _ i _ _ => n - (intOf i).toNat)
        case atStart => exact ⟨0, a, ⟨#[]⟩, [], rfl, by omega, rfl, hal, rfl, Nat.zero_le _, Lib.hid rfl, Lib.hid (fun e he => by simp at he), Lib.hid (World.ownsRow_nil _ _ _ _), HB1, Lib.hid (by simp)⟩
        case round =>
          clear HB1
          obtain ⟨k, j, last, ts, rfl, hk, rfl, hj, rfl, hla, HL, HOV, HO, HW, HR⟩ := hrel
          have hws := HW.out.size
          by_cases hlt : k < n
          · have hki : (k : Int) < (n : Int) := by omega
            have hji : (j : Int) ≤ (t.size : Int) := by omega
            have hj0 : (0 : Int) ≤ (j : Int) := by omega
            obtain ⟨ek, evl, eg, eq, d, ok, hon, hone, hd, hek, hev⟩ := one_any (t.extract j t.size) last (by rw [(ext_drop t j hj).2]; omega) (by omega)
            rw [(ext_drop t j hj).2] at hd
            rw [(ext_drop t j hj).1] at hone
            have HON := Lib.hid hon
            have HONE := Lib.hid hone
            clear hon hone
            go_wp2_with fail
            refine (HON.out _).mono ?_
            rintro e w2 ⟨rfl, b2⟩
            have HO2 := Lib.hid (below_own HO.out b2)
            have HW2 := Lib.hid (HW.out.trans (b2.mono hws))
            have hw2 := HW2.out.size
            clear b2 HO HW hws HON
            cases ok with
            | false =>
              have HE : Hid (takeB s.data.toList = none) := Lib.hid (by
                rw [HM.out, HR.out, show n - k = (n - (k + 1)) + 1 by omega, manyB_no (by have := HONE.out; simpa using this)]
                rfl)
              go_wp2
              go_ret2
              exact TK.no HE.out rfl (HW2.out.alloc hw2 _)
            | true =>
              have HO1 : Hid (oneB (t.data.toList.drop j) last.data.toList = some ((ek, evl, eg, eq), d)) := Lib.hid HONE.out
              have HR2 : Hid (manyB n (t.data.toList.drop a) [] = (manyB (n - (k + 1)) (t.data.toList.drop (j + d)) ek.data.toList).map fun p => ((ts ++ [(ek, evl, eg, eq)]) ++ p.1, p.2)) := Lib.hid (by
                rw [HR.out, show n - k = (n - (k + 1)) + 1 by omega, manyB_ok HO1.out, map_app2, List.drop_drop])
              have hl5 : ts.length < 100000 := by have := HL.out; omega
              clear HONE
              go_wp2_with (at_builtin; refine wpList_append_own _ rfl _ _ 22 rfl w.heap.size 41 i0 (.agg #[.string ⟨#[]⟩, .string ⟨#[]⟩, .bool false, .int .i64 0]) 4 48 Tryz.underlying22 hi hz0 hz1 hz2 rfl (by decide) _ ts.length (ev4 ts) rfl ((HO2.out.alloc _).alloc _) ⟨w2.heap.size + 1, 0, none⟩ 1 1 (ev (ek, evl, eg, eq)) (by simp [Act.eval]) rfl ?c1 ?c2 ?c3 ?c4 ?c5 ?_)
              case c1 =>
                intro j u hj
                have := cell_new4 (w2.alloc (.cells #[.string ek, .string evl, .bool eg, .int .i64 eq] 41)) (.string ek) (.string evl) (.bool eg) (.int .i64 eq) 41 j u hj
                simpa using this
              case c2 => intro u hu; simp [ev] at hu; rcases hu with rfl | rfl | rfl | rfl <;> rfl
              case c3 => unfold maxLen; omega
              case c4 => omega
              case c5 => simp; omega
              intro v' w3 own3 gr3 _
              have hal2 : Below w2.heap.size w2 ((w2.alloc (.cells #[.string ek, .string evl, .bool eg, .int .i64 eq] 41)).alloc (.cells #[.string ek, .string evl, .bool eg, .int .i64 eq] 41)) := ((Below.refl _ _).alloc (Nat.le_refl _) _).alloc (by simp) _
              have HW3 := Lib.hid ((HW2.out.trans (hal2.mono hw2)).grown gr3 (by simp; omega) (fun k hk => (HO2.out.lt k hk).1))
              have HE3 : Hid (EBlk w3 w2.heap.size ek evl eg eq) := Lib.hid ((gr3.block w2.heap.size (by simp; omega) (fun e => by have := (HO2.out.lt _ e.symm).2; omega)).trans (al_old (EBlk.new w2 ek evl eg eq)))
              rw [ev4_snoc] at own3
              have HO3 : Hid (w3.ownsRow w.heap.size 41 4 v' (ts ++ [(ek, evl, eg, eq)]).length (ev4 (ts ++ [(ek, evl, eg, eq)]))) := Lib.hid (by rw [List.length_append]; exact own3)
              obtain ⟨x0, x1, x2, x3, x4⟩ := HE3.out.box
              have hjd : (j : Int) + (d : Int) = ((j + d : Nat) : Int) := by omega
              obtain ⟨jd, hjd2⟩ : ∃ jd, jd = j + d := ⟨_, rfl⟩
              rw [← hjd2] at hjd HR2
              have hjds : jd ≤ t.size := by omega
              have hekj : ek.size ≤ jd := by omega
              have HV3 : Hid (okV (ts ++ [(ek, evl, eg, eq)])) := Lib.hid (by
                intro e he
                rcases List.mem_append.1 he with he | he
                · exact HOV.out e he
                · rw [List.mem_singleton] at he
                  subst he
                  exact ⟨by unfold okS; show ek.size ≤ _; omega, by unfold okS; show evl.size ≤ _; omega⟩)
              clear own3 gr3 hal2 HO2 HW2 HE3 hjd2
              go_wp2
              go_roundw
              case rel => exact ⟨k + 1, jd, ek, ts ++ [(ek, evl, eg, eq)], by go_num, by omega, rfl, hjds, rfl, hekj, Lib.hid (by rw [List.length_append, HL.out]; rfl), HV3, HO3, HW3, HR2⟩
              case measure => simp [intOf]; omega
          · obtain rfl : k = n := by omega
            have hm2 := HM.out
            have hr2 := HR.out
            rw [Nat.sub_self, manyB] at hr2
            simp only [Option.map_some, List.append_nil] at hr2
            rw [hr2] at hm2
            clear hr2
            obtain ⟨av, cv, hvs⟩ := own_form HO.out (by decide)
            by_cases hjt : j = t.size
            · have hdn : t.data.toList.drop j = [] := List.drop_eq_nil_of_le (by rw [size_list]; omega)
              rw [hdn] at hm2
              have hRd := own_rde (hvs ▸ HO.out) rfl
              obtain ⟨r, hr⟩ : ∃ r, okB ts = r := ⟨_, rfl⟩
              have HCk := Lib.hid fun w h => rchk9_any av ts.length cv ts w (by have := HL.out; omega) rfl h HOV.out r hr
              have hr3 : chainE zE ts = r := by rw [← hr]; unfold okB; rw [decide_eq_true (by have := HL.out; omega), Bool.true_and]
              have HRd := Lib.hid hRd
              have HM2 := Lib.hid hm2
              have HR3 := Lib.hid hr3
              subst hvs hjt
              clear hm2 hRd hr hr3 hdn
              go_wp2_with fail
              refine (HCk.out _ HRd.out).mono ?_
              rintro e w2 ⟨rfl, b2⟩
              have HW2 := Lib.hid (HW.out.trans (b2.mono hws))
              have HRd2 := Lib.hid (HRd.out.old b2)
              clear b2
              cases r with
              | true =>
                have HE : Hid (takeB s.data.toList = some ts) := Lib.hid (by rw [HM2.out]; simp [HR3.out])
                rw [show chkV true = 0 from rfl]
                go_wp2
                go_ret2
                exact TK.yes HE.out rfl rfl HRd2.out HW2.out
              | false =>
                have HE : Hid (takeB s.data.toList = none) := Lib.hid (by rw [HM2.out]; simp [HR3.out])
                rw [show chkV false = 1 from rfl]
                go_wp2
                go_ret2
                exact TK.no HE.out rfl HW2.out
            · have hdn : ∃ c r, t.data.toList.drop j = c :: r := by
                cases hd : t.data.toList.drop j with
                | nil =>
                  have := congrArg List.length hd
                  rw [List.length_drop, size_list] at this
                  simp at this
                  omega
                | cons c r => exact ⟨c, r, rfl⟩
              obtain ⟨c, r, hcr⟩ := hdn
              rw [hcr] at hm2
              have HE := Lib.hid (show takeB s.data.toList = none from hm2)
              have hjb : ((j : Int) == (t.size : Int)) = false := by simp; omega
              clear hm2 hcr
              go_wp2
              go_ret2
              exact TK.no HE.out rfl HW.out
    · have HP2 : Hid (takeB s.data.toList = none) := Lib.hid (by rw [HP.out]; exact partB_none H1.out (by omega))
      have hxi : ((x : Int) == 0) = false := by simpa using hx
      go_wp2
      go_ret2
      exact TK.no HP2.out rfl HB1.out
end Go.Proofs.YtobhjmkaamjoeaaGreat
namespace Go.Proofs.YtobhjmkaamjoeaaGreat
set_option maxRecDepth 100000
open Go.RowKit
set_option linter.unusedVariables false
set_option linter.unusedSimpArgs false

set_option maxHeartbeats 2000000 in
theorem search9_any (L K n : Nat) (p : Nat → Bool) (w : World) (hsz : n < 4611686018427387904)
    (hf : ∀ wx, Below w.heap.size w wx → ∀ i, i < n → Calls Tryz.prog 78 #[.int .i64 (i : Nat), .pointer (some ⟨L, 0, none⟩), .pointer (some ⟨K, 0, none⟩)] wx fun e w' => e = .returned (.bool (p i)) ∧ Below wx.heap.size wx w')
    (hmono : ∀ a b, a ≤ b → b < n → p a = true → p b = true) :
    Calls Tryz.prog 76 #[.int .i64 (n : Nat), .func (.func 78) #[] #[.pointer (some ⟨L, 0, none⟩), .pointer (some ⟨K, 0, none⟩)]] w fun e w' =>
      ∃ i : Nat, e = .returned (.int .i64 (i : Nat)) ∧ i ≤ n ∧ (∀ j, j < i → p j = false) ∧ (∀ j, i ≤ j → j < n → p j = true) ∧ Below w.heap.size w w' := by
  have HF := Lib.hid hf
  have M := Lib.hid hmono
  clear hf hmono
  go_enter Tryz.func76, Tryz.ntmps76
  go_wp2
  go_loopw [5, 6] (fun s5 s6 wr => ∃ (lo hi : Nat), s5 = .int .i64 lo ∧ s6 = .int .i64 hi ∧ lo ≤ hi ∧ hi ≤ n ∧ Hid (Below w.heap.size w wr) ∧ Hid ((∀ t, t < lo → p t = false) ∧ (∀ t, hi ≤ t → t < n → p t = true))) (fun a b _ => (intOf b).toNat - (intOf a).toNat)
  case atStart => exact ⟨0, n, rfl, rfl, Nat.zero_le _, Nat.le_refl _, Lib.hid (Below.refl _ _), Lib.hid ⟨fun t ht => absurd ht (Nat.not_lt_zero _), fun t h1 h2 => by omega⟩⟩
  case round =>
    obtain ⟨lo, hi, rfl, rfl, hlh, hin, HW, I⟩ := hrel
    by_cases hlt : lo < hi
    · have hli : (lo : Int) < (hi : Int) := by omega
      have hc := HF.out wr HW.out ((lo + hi) / 2) (by omega)
      rw [show (((lo + hi) / 2 : Nat) : Int) = ((lo : Int) + (hi : Int)) / 2 by omega] at hc
      have HC := Lib.hid hc
      obtain ⟨pm, hp⟩ : ∃ pm, p ((lo + hi) / 2) = pm := ⟨_, rfl⟩
      rw [hp] at HC
      have HP := Lib.hid hp
      clear hc hp
      have hb1 : (0 : Int) ≤ ((lo : Int) + (hi : Int)) / 2 := by omega
      have hb2 : ((lo : Int) + (hi : Int)) / 2 ≤ 4611686018427387904 := by omega
      go_wp2_with fail
      refine HC.out.mono ?_
      rintro e w2 ⟨rfl, b2⟩
      have HW2 := Lib.hid (HW.out.trans (b2.mono HW.out.size))
      clear b2
      cases pm with
      | false =>
        have I2 : Hid ((∀ t, t < (lo + hi) / 2 + 1 → p t = false) ∧ (∀ t, hi ≤ t → t < n → p t = true)) := Lib.hid ⟨fun t ht => (by
            cases h : p t with
            | false => rfl
            | true => have := M.out t ((lo + hi) / 2) (by omega) (by omega) h; rw [HP.out] at this; cases this), I.out.2⟩
        go_wp2
        go_roundw
        case rel => exact ⟨(lo + hi) / 2 + 1, hi, by rw [show ((lo : Int) + (hi : Int)) / 2 + 1 = (((lo + hi) / 2 + 1 : Nat) : Int) by omega], rfl, by omega, hin, HW2, I2⟩
        case measure => simp [intOf]; omega
      | true =>
        have I2 : Hid ((∀ t, t < lo → p t = false) ∧ (∀ t, (lo + hi) / 2 ≤ t → t < n → p t = true)) := Lib.hid ⟨I.out.1, fun t ht htn => M.out ((lo + hi) / 2) t ht htn HP.out⟩
        go_wp2
        go_roundw
        case rel => exact ⟨lo, (lo + hi) / 2, rfl, by rw [show ((lo : Int) + (hi : Int)) / 2 = (((lo + hi) / 2 : Nat) : Int) by omega], by omega, by omega, HW2, I2⟩
        case measure => simp [intOf]; omega
    · obtain rfl : hi = lo := by omega
      go_wp2
      go_ret
      exact ⟨hi, rfl, hin, I.out.1, I.out.2, HW.out⟩

/-- What Find looks at: the slice's box, what is asked for. -/
def FQ (L K : Nat) (w : World) (a : Option Addr) (n cap : Nat) (key : ByteArray) (at_ : Int) : Prop :=
  w.cell? ⟨L, 0, none⟩ = some (.slice a n cap) ∧ EBox w K key ⟨#[]⟩ false at_ ∧ L < w.heap.size
theorem FQ.old {L K : Nat} {w w' : World} {a : Option Addr} {n cap : Nat} {key : ByteArray} {at_ : Int} (h : FQ L K w a n cap key at_) (hb : Below w.heap.size w w') : FQ L K w' a n cap key at_ :=
  ⟨(hb.cell (p := ⟨L, 0, none⟩) h.2.2).trans h.1, h.2.1.below hb, Nat.lt_of_lt_of_le h.2.2 hb.size⟩
set_option maxRecDepth 100000 in
set_option maxHeartbeats 2000000 in
theorem fclo_any (L K b off n cap : Nat) (es : List Ent) (key : ByteArray) (at_ : Int) (hl : es.length = n) (w : World) (hq : FQ L K w (some ⟨b, off, none⟩) n cap key at_) (hb : b < w.heap.size) (hc : EAt w b off es) (i : Nat) (hi : i < n) (r : Bool) (hr : (!lessE (es[i]'(by omega)) (key, ⟨#[]⟩, false, at_)) = r) :
    Calls Tryz.prog 78 #[.int .i64 (i : Nat), .pointer (some ⟨L, 0, none⟩), .pointer (some ⟨K, 0, none⟩)] w fun e w' => e = .returned (.bool r) ∧ Below w.heap.size w w' := by
  have hkl : i < es.length := by omega
  obtain ⟨g0, g1, g2, g3⟩ := hc i hkl
  obtain ⟨E, hE⟩ : ∃ E, E = es[i] := ⟨_, rfl⟩
  rw [← hE] at g0 g1 g2 g3 hr
  obtain ⟨ek, evl, eg, eq⟩ := E
  obtain ⟨c0, ⟨x0, x1, x2, x3, x4⟩, x5⟩ := hq
  obtain ⟨s, hs⟩ : ∃ s, lessE (ek, evl, eg, eq) (key, ⟨#[]⟩, false, at_) = s := ⟨_, rfl⟩
  have HLs := Lib.hid fun w => less_any ek evl eg eq key ⟨#[]⟩ false at_ s hs w
  obtain rfl : r = !s := by rw [← hr, hs]
  have hii : (i : Int) < (n : Int) := by omega
  clear hs hr hE hc hl hkl
  go_enter Tryz.func78, Tryz.ntmps78
  go_wp2
  refine wp_region_below (by kernel_rfl) (by kernel_rfl) ?_
  repeat (first
    | go_big_quiet_skip
    | (go_big_quiet_want
       first
       | (refine BigFrame.quiet_move _ rfl ?_)
       | (refine BigFrame.quiet_assign _ rfl ?_)
       | (unfold Oper.quiet
          apply Exists.intro
          refine ⟨fun w' hw' => ?_, ?_⟩
          · (obtain ⟨hc', hf'⟩ := bcell hw'
             go_simp
             first
             | done
             | exact rfl
             | (go_at_call 79; (with_reducible refine (HLs.out _).mono ?_); rintro e w'' ⟨rfl, bb⟩; exact ⟨rfl, by first | exact bt hw' bb | simpa using bt hw' bb⟩)))
       go_big_quiet_on
       simp only [Act.put, Act.eval, List.setIfInBounds_toArray, List.set_cons_zero, List.set_cons_succ, Array.getD_eq_getD_getElem?, List.getElem?_toArray, List.getElem?_cons_zero, List.getElem?_cons_succ, Option.getD_some]))
  refine wpQuiet_nil ?_
  intro w' hw'
  go_wp2
  go_ret
  exact ⟨rfl, hw'⟩
/-- What Find answers. -/
def fnd (o : Option Ent) : Value := match o with
  | some (k, v, g, q) => .tuple #[.agg #[.string k, .string v, .bool g, .int .i64 q], .bool true]
  | none => .tuple #[.agg #[.string ⟨#[]⟩, .string ⟨#[]⟩, .bool false, .int .i64 0], .bool false]
def FB (es : List Ent) (key : ByteArray) (at_ : Int) : Option Ent := if okB es = true then findB es key at_ else none
end Go.Proofs.YtobhjmkaamjoeaaGreat
namespace Go.Proofs.YtobhjmkaamjoeaaGreat
set_option maxRecDepth 100000
open Go.RowKit
set_option linter.unusedVariables false
set_option linter.unusedSimpArgs false

abbrev zObj : Obj := .cells #[.string ⟨#[]⟩, .string ⟨#[]⟩, .bool false, .int .i64 0] 41
set_option maxHeartbeats 4000000 in
theorem find9_no (a : Option Addr) (n cap : Nat) (es : List Ent) (key : ByteArray) (at_ : Int) (w : World) (hn : n ≤ 9223372036854775807) (hl : es.length = n) (h : RdE w a es) (hok : okV es) (hr : okB es = false) :
    Calls Tryz.prog 38 #[.slice a n cap, .string key, .int .i64 at_] w fun e w' => e = .returned (fnd (FB es key at_)) ∧ Below w.heap.size w w' := by
  have hw0 : Below w.heap.size w ((w.alloc (.cells #[.slice a n cap] 22)).alloc zObj) := ((Below.refl _ _).alloc (Nat.le_refl _) _).alloc (by simp) _
  have HC := Lib.hid (chk9_any a n cap es ((w.alloc (.cells #[.slice a n cap] 22)).alloc zObj) hn hl (h.old hw0) hok _ hr)
  have HR : Hid (FB es key at_ = none) := Lib.hid (by unfold FB; rw [hr]; rfl)
  have HZ := Lib.hid (And.intro (EBox.new2 w (.cells #[.slice a n cap] 22) 41 ⟨#[]⟩ ⟨#[]⟩ false 0) hw0)
  clear hl h hok hr hw0
  go_enter Tryz.func38, Tryz.ntmps38
  go_wp2_with fail
  refine HC.out.mono ?_
  rintro e w1 ⟨rfl, b1⟩
  rw [show chkV false = 1 from rfl]
  obtain ⟨z0, z1, z2, z3, z4⟩ := HZ.out.1.below b1
  have f0 := (b1.frozen (p := ⟨w.heap.size + 1, 0, none⟩) (by simp)).trans (by simp : _ = false)
  have f1 := (b1.frozen (p := ⟨w.heap.size + 1, 1, none⟩) (by simp)).trans (by simp : _ = false)
  have f2 := (b1.frozen (p := ⟨w.heap.size + 1, 2, none⟩) (by simp)).trans (by simp : _ = false)
  have f3 := (b1.frozen (p := ⟨w.heap.size + 1, 3, none⟩) (by simp)).trans (by simp : _ = false)
  have HB := Lib.hid (HZ.out.2.trans (b1.mono (by simp; omega)))
  clear b1
  go_wp2
  exact bodyPost_ret (v := .tuple #[.agg #[.string ⟨#[]⟩, .string ⟨#[]⟩, .bool false, .int .i64 0], .bool false]) (by simp [results, Tryz.results38, go_sem, z0, z1, z2, z3, z4]) rfl ⟨by rw [HR.out]; rfl, below_put HB.out (Nat.le_succ _) _ _ _ _⟩
set_option maxRecDepth 100000 in
set_option maxHeartbeats 4000000 in
theorem find9_yes (b off n cap : Nat) (es : List Ent) (key : ByteArray) (at_ : Int) (w : World) (hl : es.length = n) (hb : 0 < n → b < w.heap.size) (hc : EAt w b off es) (a : Option Addr) (ha : 0 < n → a = some ⟨b, off, none⟩) (h : RdE w a es) (hok : okV es) (hr : okB es = true) :
    Calls Tryz.prog 38 #[.slice a n cap, .string key, .int .i64 at_] w fun e w' => e = .returned (fnd (FB es key at_)) ∧ Below w.heap.size w w' := by
  have hn : n ≤ 4096 ∧ chainE zE es = true := by
    unfold okB at hr
    simp only [Bool.and_eq_true, decide_eq_true_eq] at hr
    exact ⟨by omega, hr.2⟩
  obtain ⟨hn, hch⟩ := hn
  have hw0 : Below w.heap.size w ((w.alloc (.cells #[.slice a n cap] 22)).alloc zObj) := ((Below.refl _ _).alloc (Nat.le_refl _) _).alloc (by simp) _
  have HC := Lib.hid (chk9_any a n cap es ((w.alloc (.cells #[.slice a n cap] 22)).alloc zObj) (by omega) hl (h.old hw0) hok _ hr)
  have HR : Hid (FB es key at_ = findB es key at_) := Lib.hid (by unfold FB; rw [hr]; rfl)
  have hcl : ((w.alloc (.cells #[.slice a n cap] 22)).alloc zObj).cell? ⟨w.heap.size, 0, none⟩ = some (.slice a n cap) := by simp [go_sem]
  have HZ := Lib.hid (And.intro (EBox.new2 w (.cells #[.slice a n cap] 22) 41 ⟨#[]⟩ ⟨#[]⟩ false 0) (And.intro hw0 hcl))
  have HL := Lib.hid hl
  have HE := Lib.hid hc
  have HCH := Lib.hid hch
  clear h hok hr hw0 hcl hl hc hch
  go_enter Tryz.func38, Tryz.ntmps38
  go_wp2_with fail
  refine HC.out.mono ?_
  rintro e w1 ⟨rfl, b1⟩
  rw [show chkV true = 0 from rfl]
  have hs1 : w.heap.size + 2 ≤ w1.heap.size := by have := b1.size; simpa using this
  have HZ1 := Lib.hid (HZ.out.1.below b1)
  have HF1 : Hid (EFree w1 (w.heap.size + 1)) := Lib.hid ⟨(b1.frozen (p := ⟨w.heap.size + 1, 0, none⟩) (by simp)).trans (by simp), (b1.frozen (p := ⟨w.heap.size + 1, 1, none⟩) (by simp)).trans (by simp), (b1.frozen (p := ⟨w.heap.size + 1, 2, none⟩) (by simp)).trans (by simp), (b1.frozen (p := ⟨w.heap.size + 1, 3, none⟩) (by simp)).trans (by simp)⟩
  have c0 : w1.cell? ⟨w.heap.size, 0, none⟩ = some (.slice a n cap) := (b1.cell (p := ⟨w.heap.size, 0, none⟩) (by simp; omega)).trans HZ.out.2.2
  have HB1 := Lib.hid (HZ.out.2.1.trans (b1.mono (by simp; omega)))
  have HCx := Lib.hid c0
  clear b1 HC
  have HQ : Hid (FQ w.heap.size w1.heap.size (w1.alloc (.cells #[.string key, .string ⟨#[]⟩, .bool false, .int .i64 at_] 41)) a n cap key at_) :=
    Lib.hid ⟨(World.cell?_alloc_lt w1 _ ⟨w.heap.size, 0, none⟩ (by show w.heap.size < _; omega)).trans c0, EBox.new w1 _ _ _ _ _, by simp; omega⟩
  obtain ⟨p, hp⟩ : ∃ p : Nat → Bool, p = fun i => if h : i < es.length then !lessE es[i] (key, ⟨#[]⟩, false, at_) else true := ⟨_, rfl⟩
  have hpa : ∀ i (h : i < es.length), p i = !lessE es[i] (key, ⟨#[]⟩, false, at_) := fun i h => by rw [hp]; simp only [h, dif_pos]
  have HPA := Lib.hid hpa
  have HSe := Lib.hid (search9_any w.heap.size w1.heap.size n p (w1.alloc (.cells #[.string key, .string ⟨#[]⟩, .bool false, .int .i64 at_] 41)) (by omega)
    (fun wx hx i hi => by
      have h1 : Below w.heap.size w wx := HB1.out.trans ((((Below.refl _ w1).alloc (Nat.le_refl _) _).trans (hx.mono (by simp))).mono HB1.out.size)
      have hq := HQ.out.old hx
      rw [ha (by omega)] at hq
      exact fclo_any w.heap.size w1.heap.size b off n cap es key at_ HL.out wx hq (Nat.lt_of_lt_of_le (hb (by omega)) h1.size) (HE.out.old (hb (by omega)) h1) i hi _ (hpa i (by rw [HL.out]; exact hi)).symm)
    (fun x y hxy hy hpx => by
      have hyl : y < es.length := by rw [HL.out]; exact hy
      rw [hpa y hyl]
      rw [hpa x (by omega)] at hpx
      rcases Nat.lt_or_eq_of_le hxy with hlt | rfl
      · cases hly : lessE es[y] (key, ⟨#[]⟩, false, at_) with
        | false => rfl
        | true =>
          have h1 := chain_ahead (chain_drop x (by omega) HCH.out) es[y] (by
            have : es[y] = (es.drop (x + 1))[y - (x + 1)]'(by rw [List.length_drop]; omega) := by rw [List.getElem_drop]; congr 1; omega
            rw [this]
            exact List.getElem_mem _)
          rw [lessE_trans h1 hly] at hpx
          cases hpx
      · exact hpx))
  have cq := HQ.out.1
  have hlt1 : w.heap.size < w1.heap.size := by omega
  clear hp hpa HQ
  have hne1 : ¬ w.heap.size = w1.heap.size := by omega
  go_wp2_with fail
  refine HSe.out.mono ?_
  rintro e w2 ⟨i, rfl, hi, hlo, hhi, b2⟩
  have hb12 : Below w1.heap.size w1 w2 := below_al b2
  clear c0 cq
  have HB2 := Lib.hid (HB1.out.trans (hb12.mono HB1.out.size))
  have c0 : w2.cell? ⟨w.heap.size, 0, none⟩ = some (.slice a n cap) := (hb12.cell (p := ⟨w.heap.size, 0, none⟩) (by show w.heap.size < _; omega)).trans HCx.out
  obtain ⟨z0, z1, z2, z3, z4⟩ := HZ1.out.below hb12
  obtain ⟨f0, f1, f2, f3⟩ := HF1.out.below (by omega) hb12
  have HFA := Lib.hid (find_at (key := key) (at_ := at_) HCH.out i (by rw [HL.out]; exact hi)
    (fun j h hj => by have := hlo j hj; rw [HPA.out j h] at this; simpa using this)
    (fun h => by have := hhi i (Nat.le_refl _) (by rw [← HL.out]; exact h); rw [HPA.out i h] at this; simpa using this))
  clear hlo hhi b2 hb12 HSe
  by_cases hin : i = n
  · subst hin
    have HN : Hid (FB es key at_ = none) := Lib.hid (by rw [HR.out, HFA.out, dif_neg (by rw [HL.out]; omega)])
    go_wp2
    exact bodyPost_ret (v := .tuple #[.agg #[.string ⟨#[]⟩, .string ⟨#[]⟩, .bool false, .int .i64 0], .bool false]) (by simp [results, Tryz.results38, go_sem, z0, z1, z2, z3, z4]) rfl ⟨by rw [HN.out]; rfl, below_put HB2.out (Nat.le_succ _) _ _ _ _⟩
  · obtain rfl := ha (by omega)
    have hbw := hb (by omega)
    have hkl : i < es.length := by rw [HL.out]; omega
    have hii : (i : Int) < (n : Int) := by omega
    have hinb : ((i : Int) == (n : Int)) = false := by simp; omega
    obtain ⟨g0, g1, g2, g3⟩ := HE.out.old hbw HB2.out i hkl
    have hfa := HFA.out
    rw [dif_pos hkl] at hfa
    obtain ⟨E, hEq⟩ : ∃ E, E = es[i] := ⟨_, rfl⟩
    rw [← hEq] at g0 g1 g2 g3 hfa
    obtain ⟨ek, evl, eg, eq⟩ := E
    have hbz : ¬ b = w.heap.size + 1 := by omega
    have hzb : ¬ w.heap.size + 1 = b := by omega
    by_cases hk : ek = key
    · subst hk
      rw [if_pos rfl] at hfa
      have HN : Hid (FB es ek at_ = some (ek, evl, eg, eq)) := Lib.hid (by rw [HR.out, hfa])
      clear hfa hEq
      go_wp2
      exact bodyPost_ret (v := .tuple #[.agg #[.string ek, .string evl, .bool eg, .int .i64 eq], .bool true]) (by simp [results, Tryz.results38, go_sem, z0, z1, z2, z3, z4]) rfl ⟨by rw [HN.out]; rfl, below_put HB2.out (Nat.le_succ _) _ _ _ _⟩
    · rw [if_neg hk] at hfa
      have HN : Hid (FB es key at_ = none) := Lib.hid (by rw [HR.out, hfa])
      have hkb := str_ne hk
      clear hfa hEq hk
      go_wp2
      exact bodyPost_ret (v := .tuple #[.agg #[.string ⟨#[]⟩, .string ⟨#[]⟩, .bool false, .int .i64 0], .bool false]) (by simp [results, Tryz.results38, go_sem, z0, z1, z2, z3, z4]) rfl ⟨by rw [HN.out]; rfl, below_put HB2.out (Nat.le_succ _) _ _ _ _⟩
theorem find9_any (a : Option Addr) (n cap : Nat) (es : List Ent) (key : ByteArray) (at_ : Int) (w : World) (hn : n ≤ 9223372036854775807) (hl : es.length = n) (h : RdE w a es) (hok : okV es) :
    Calls Tryz.prog 38 #[.slice a n cap, .string key, .int .i64 at_] w fun e w' => e = .returned (fnd (FB es key at_)) ∧ Below w.heap.size w w' := by
  cases hr : okB es with
  | false => exact find9_no a n cap es key at_ w hn hl h hok hr
  | true =>
    obtain ⟨b, off, h1, h2, h3⟩ := h.at_
    rw [hl] at h1 h2
    exact find9_yes b off n cap es key at_ w hl h2 h3 a h1 h hok hr
end Go.Proofs.YtobhjmkaamjoeaaGreat
namespace Go.Proofs.YtobhjmkaamjoeaaGreat
set_option maxRecDepth 100000
open Go.RowKit
set_option linter.unusedVariables false
set_option linter.unusedSimpArgs false

theorem find_snoc {es : List Ent} {key : ByteArray} {at_ : Int} {k : Nat} (h : k < es.length) (hp : (es.take k).find? (isE key at_) = none) : (es.take (k + 1)).find? (isE key at_) = if isE key at_ es[k] = true then some es[k] else none := by
  rw [List.take_succ_eq_append_getElem h, List.find?_append, hp]
  simp only [Option.none_or, List.find?_cons, List.find?_nil]
  cases isE key at_ es[k] <;> rfl
theorem find_took {es : List Ent} {f : Ent → Bool} {k : Nat} {e : Ent} (h : (es.take k).find? f = some e) : es.find? f = some e := by
  rw [← List.take_append_drop k es, List.find?_append, h]
  rfl
end Go.Proofs.YtobhjmkaamjoeaaGreat
namespace Go.Proofs.YtobhjmkaamjoeaaGreat
set_option maxRecDepth 100000
open Go.RowKit
set_option linter.unusedVariables false
set_option linter.unusedSimpArgs false

theorem addp (b off j : Nat) : (⟨b, off, none⟩ : Addr).add j = ⟨b, off + j, none⟩ := by unfold Addr.add; split <;> simp_all
theorem EAt.news {w : World} {b off : Nat} {es : List Ent} (h : EAt w b off es) : ∀ j u, (ev4 es)[j]? = some u → w.cell? ⟨b, off + j, none⟩ = some u := by
  intro j u hj
  have hjl : j < es.length * 4 := by have := (List.getElem?_eq_some_iff.1 hj).1; rwa [ev4_length] at this
  obtain ⟨i, hi4⟩ : ∃ i, j = i * 4 ∨ j = i * 4 + 1 ∨ j = i * 4 + 2 ∨ j = i * 4 + 3 := ⟨j / 4, by omega⟩
  have hi : i < es.length := by omega
  obtain ⟨e0, e1, e2, e3⟩ := ev4_get es i hi
  obtain ⟨c0, c1, c2, c3⟩ := h i hi
  rcases hi4 with rfl | rfl | rfl | rfl
  · rw [c0, ← hj, e0]
  · rw [← Nat.add_assoc, c1, ← hj, e1]
  · rw [← Nat.add_assoc, c2, ← hj, e2]
  · rw [← Nat.add_assoc, c3, ← hj, e3]
theorem EAt.take {w : World} {b off : Nat} {es : List Ent} (h : EAt w b off es) (k : Nat) : EAt w b off (es.take k) := by
  intro i hi
  rw [List.length_take] at hi
  simp only [List.getElem_take]
  exact h i (by omega)
theorem EAt.drop {w : World} {b off : Nat} {es : List Ent} (h : EAt w b off es) (k : Nat) : EAt w b (off + k * 4) (es.drop k) := by
  intro i hi
  rw [List.length_drop] at hi
  simp only [List.getElem_drop]
  have := h (k + i) (by omega)
  rw [show off + (k + i) * 4 = off + k * 4 + i * 4 by omega] at this
  exact this
theorem EAt.news' {w : World} {b off : Nat} {es : List Ent} (h : EAt w b off es) : ∀ y, some (⟨b, off, none⟩ : Addr) = some y → ∀ j u, (ev4 es)[j]? = some u → w.cell? (y.add j) = some u := by
  intro y hy j u hj
  injection hy with hy
  subst hy
  rw [addp]
  exact h.news j u hj
theorem ev4_app (a b : List Ent) : ev4 a ++ ev4 b = ev4 (a ++ b) := by simp [ev4]
/-- A slice of entries in a row that is owned, as what others read. -/
def SE (w : World) (a : Option Addr) (n cap : Nat) (es : List Ent) : Prop := es.length = n ∧ RdE w a es ∧ n ≤ cap ∧ cap ≤ maxLen
theorem own_se {w : World} {base n : Nat} {v : Value} {es : List Ent} (h : w.ownsRow base 41 4 v n (ev4 es)) (hn : es.length = n) : ∃ a cap, v = .slice a n cap ∧ SE w a n cap es := by
  rcases h.2 with ⟨rfl, hnil⟩ | ⟨g, cap, cur, rfl, hbg, hh, hnc, hcm, _⟩
  · have h0 : es = [] := List.length_eq_zero_iff.1 (hn.trans hnil)
    subst h0
    have : n = 0 := by simpa using hn.symm
    subst this
    exact ⟨none, 0, rfl, rfl, .inl rfl, Nat.le_refl _, Nat.zero_le _⟩
  · exact ⟨_, cap, rfl, hn, own_rde h hn, hnc, hcm⟩
/-- What Put1 leaves. -/
def P1 (es : List Ent) (w : World) (e : Ending) (w' : World) : Prop := ∃ a n cap, e = .returned (.slice a n cap) ∧ SE w' a n cap es ∧ Below w.heap.size w w'
set_option maxHeartbeats 2000000 in
theorem put1_no (a : Option Addr) (n cap : Nat) (es : List Ent) (k v : ByteArray) (g : Bool) (q : Int) (w : World) (h : SE w a n cap es) (h1 : okS k) (h2 : okS v) (hm : mayE (k, v, g, q) = false) :
    Calls Tryz.prog 29 #[.slice a n cap, .agg #[.string k, .string v, .bool g, .int .i64 q]] w (P1 (putE es (k, v, g, q)) w) := by
  have HM := Lib.hid fun w => rmay09_any k v g q _ hm h1 h2 w
  have HP : Hid (putE es (k, v, g, q) = es) := Lib.hid (by unfold putE; rw [hm]; rfl)
  have HS := Lib.hid h
  clear h hm
  go_enter Tryz.func29, Tryz.ntmps29
  go_wp2_with fail
  refine (HM.out _).mono ?_
  rintro e w1 ⟨rfl, b1⟩
  have hb := below_al b1
  have HB := Lib.hid hb
  have HS1 : Hid (SE w1 a n cap es) := Lib.hid ⟨HS.out.1, HS.out.2.1.old hb, HS.out.2.2.1, HS.out.2.2.2⟩
  clear b1 hb
  go_wp2
  go_ret
  exact ⟨a, n, cap, rfl, by rw [HP.out]; exact HS1.out, HB.out⟩
set_option maxRecDepth 100000 in
set_option maxHeartbeats 16000000 in
theorem put1_yes (a : Option Addr) (n cap : Nat) (es : List Ent) (k0 v0 : ByteArray) (g0 : Bool) (q0 : Int) (w : World) (hn60 : n ≤ 4096) (hs : SE w a n cap es) (h1 : okS k0) (h2 : okS v0) (hm : mayE (k0, v0, g0, q0) = true) :
    Calls Tryz.prog 29 #[.slice a n cap, .agg #[.string k0, .string v0, .bool g0, .int .i64 q0]] w (P1 (putE es (k0, v0, g0, q0)) w) := by
  obtain ⟨i0, hi, hz0, hz1, hz2⟩ := info_parts Tryz.infoEnt9
  obtain ⟨hl, hrd, hnc, hcm⟩ := hs
  obtain ⟨b, off, ha, hb, hat⟩ := hrd.at_
  rw [hl] at ha hb
  have HNT : Hid (∀ wx, Below w.heap.size w wx → ∀ k, k ≤ n → ∀ y, a = some y → ∀ j u, (ev4 (es.take k))[j]? = some u → wx.cell? (y.add j) = some u) := Lib.hid (by
    intro wx hx k hk y hy j u hj
    by_cases h0 : 0 < n
    · rw [ha h0] at hy
      exact ((hat.old (hb h0) hx).take k).news' y hy j u hj
    · have : es = [] := List.length_eq_zero_iff.1 (by omega)
      subst this
      simp [ev4] at hj)
  have HNL : Hid (∀ k, k ≤ n → (ev4 (es.take k)).length = k * 4) := Lib.hid fun k hk => by rw [ev4_length, List.length_take]; omega
  have HM := Lib.hid fun w => rmay09_any k0 v0 g0 q0 _ hm h1 h2 w
  have HPU : Hid (putE es (k0, v0, g0, q0) = insE es (k0, v0, g0, q0)) := Lib.hid (by unfold putE; rw [if_pos hm])
  have HL := Lib.hid hl
  have HAT := Lib.hid hat
  have HCM := Lib.hid hcm
  clear hm hl hat hrd hcm
  go_enter Tryz.func29, Tryz.ntmps29
  go_wp2_with fail
  refine (HM.out _).mono ?_
  rintro e w1 ⟨rfl, b1⟩
  have HB := Lib.hid (below_al b1)
  have HX := Lib.hid ((EBox.new w 41 k0 v0 g0 q0).below b1)
  clear b1
  go_wp2
  go_loopw [5] (fun i wr => ∃ k : Nat, i = .int .i64 k ∧ k ≤ n ∧ Hid (∀ i (h : i < es.length), i < k → lessE es[i] (k0, v0, g0, q0) = true) ∧ Hid (Below w1.heap.size w1 wr)) (fun i _ => n - (intOf i).toNat)
  case atStart => exact ⟨0, rfl, by omega, Lib.hid (fun i h hi => absurd hi (Nat.not_lt_zero _)), Lib.hid (Below.refl _ _)⟩
  case round =>
    obtain ⟨k, rfl, hk, HLE, HWr⟩ := hrel
    obtain ⟨x0, x1, x2, x3, x4⟩ := HX.out.below HWr.out
    have hkn60 : k ≤ 4096 := by omega
    by_cases hlt : k < n
    · obtain rfl := ha (by omega)
      have hbw := hb (by omega)
      have hkl : k < es.length := by rw [HL.out]; exact hlt
      have hki : (k : Int) < (n : Int) := by omega
      have hw01 := HB.out.size
      obtain ⟨g0', g1', g2', g3'⟩ := HAT.out.old hbw (HB.out.trans (HWr.out.mono HB.out.size)) k hkl
      obtain ⟨r, hr⟩ : ∃ r, lessE es[k] (k0, v0, g0, q0) = r := ⟨_, rfl⟩
      obtain ⟨E, hE⟩ : ∃ E, E = es[k] := ⟨_, rfl⟩
      have HGE : Hid (∀ wx, Below w.heap.size w wx → (wx.cell? ⟨b, off + k * 4, none⟩ = some (.string E.1) ∧ wx.cell? ⟨b, off + k * 4 + 1, none⟩ = some (.string E.2.1) ∧
          wx.cell? ⟨b, off + k * 4 + 2, none⟩ = some (.bool E.2.2.1) ∧ wx.cell? ⟨b, off + k * 4 + 3, none⟩ = some (.int .i64 E.2.2.2)) ∧ b < wx.heap.size) :=
        Lib.hid fun wx hx => ⟨by rw [hE]; exact HAT.out.old hbw hx k hkl, Nat.lt_of_lt_of_le hbw hx.size⟩
      have HR := Lib.hid hr
      have hr' := hr
      rw [← hE] at g0' g1' g2' g3' hr'
      obtain ⟨ek, evl, eg, eq⟩ := E
      have HLs := Lib.hid fun w => rless_any ek evl eg eq k0 v0 g0 q0 r hr' w
      obtain ⟨r2, hr2⟩ : ∃ r2, lessE (k0, v0, g0, q0) (ek, evl, eg, eq) = r2 := ⟨_, rfl⟩
      have HL2 := Lib.hid fun w => rless_any k0 v0 g0 q0 ek evl eg eq r2 hr2 w
      have HR2 := Lib.hid (show lessE (k0, v0, g0, q0) es[k] = r2 by rw [← hE]; exact hr2)
      have hbr : b < wr.heap.size := (HGE.out wr (HB.out.trans (HWr.out.mono HB.out.size))).2
      have HKL := Lib.hid hkl
      clear hr hr' hr2 hE
      cases r with
      | true =>
        go_wp2
        refine wp_region_below (by kernel_rfl) (by kernel_rfl) ?_
        repeat (first
          | go_big_quiet_skip
          | (go_big_quiet_want
             first
             | (refine BigFrame.quiet_move _ rfl ?_)
             | (refine BigFrame.quiet_assign _ rfl ?_)
             | (unfold Oper.quiet
                apply Exists.intro
                refine ⟨fun w' hw' => ?_, ?_⟩
                · (obtain ⟨hc', hf'⟩ := bcell hw'
                   go_simp
                   first
                   | done
                   | exact rfl
                   | (go_at_call 55; (with_reducible refine (HLs.out _).mono ?_); rintro e w'' ⟨rfl, bb⟩; exact ⟨rfl, by first | exact bt hw' bb | simpa using bt hw' bb⟩)))
             go_big_quiet_on
             simp only [Act.put, Act.eval, List.setIfInBounds_toArray, List.set_cons_zero, List.set_cons_succ, Array.getD_eq_getD_getElem?, List.getElem?_toArray, List.getElem?_cons_zero, List.getElem?_cons_succ, Option.getD_some]))
        refine wpQuiet_nil ?_
        intro w' hw'
        have HW2 := Lib.hid (HWr.out.trans (hw'.mono HWr.out.size))
        have HLE2 : Hid (∀ i (h : i < es.length), i < k + 1 → lessE es[i] (k0, v0, g0, q0) = true) := Lib.hid fun i h hi => by
          rcases Nat.lt_succ_iff_lt_or_eq.1 hi with h' | rfl
          · exact HLE.out i h h'
          · exact HR.out
        clear hw'
        go_wp2
        go_roundw
        case rel => exact ⟨k + 1, by go_num, by omega, HLE2, HW2⟩
        case measure => simp [intOf]; omega
      | false =>
        have HPT := Lib.hid (insE_at es (k0, v0, g0, q0) k (by omega) HLE.out (fun h => HR.out))
        go_wp2
        refine wp_region_below (by kernel_rfl) (by kernel_rfl) ?_
        repeat (first
          | go_big_quiet_skip
          | (go_big_quiet_want
             first
             | (refine BigFrame.quiet_move _ rfl ?_)
             | (refine BigFrame.quiet_assign _ rfl ?_)
             | (unfold Oper.quiet
                apply Exists.intro
                refine ⟨fun w' hw' => ?_, ?_⟩
                · (obtain ⟨hc', hf'⟩ := bcell hw'
                   go_simp
                   first
                   | done
                   | exact rfl
                   | (go_at_call 55; (with_reducible refine (HLs.out _).mono ?_); rintro e w'' ⟨rfl, bb⟩; exact ⟨rfl, by first | exact bt hw' bb | simpa using bt hw' bb⟩)))
             go_big_quiet_on
             simp only [Act.put, Act.eval, List.setIfInBounds_toArray, List.set_cons_zero, List.set_cons_succ, Array.getD_eq_getD_getElem?, List.getElem?_toArray, List.getElem?_cons_zero, List.getElem?_cons_succ, Option.getD_some]))
        refine wpQuiet_nil ?_
        intro w' hw'
        have HW : Hid (Below w1.heap.size w1 w') := Lib.hid (HWr.out.trans (hw'.mono HWr.out.size))
        clear hw' x0 x1 x2 x3 x4 g0' g1' g2' g3' hbr
        have hkc : k ≤ cap := by omega
        have hkci : (k : Int) ≤ (cap : Int) := by omega
        go_wp2_with (at_builtin; refine wpList_append_any rfl (.tmp 25) (.tmp 28) 22 rfl w1.heap.size 41 i0 (.agg #[.string ⟨#[]⟩, .string ⟨#[]⟩, .bool false, .int .i64 0]) 4 48 Tryz.underlying22 hi hz0 hz1 hz2 rfl (by decide) (.slice none 0 0) 0 (ev4 []) rfl (World.ownsRow_nil _ _ _ _) (some ⟨b, off, none⟩) k cap (ev4 (es.take k)) rfl (by intro h; cases h) (HNL.out k hk) (fun y hy => HNT.out _ (HB.out.trans (HW.out.mono HB.out.size)) k (by omega) y hy) (ev4_one _) (by unfold maxLen; omega) (by omega) HW.out.size ?_)
        intro v3 w3 own3 b3
        rw [ev4_app, List.nil_append] at own3
        have HO3 := Lib.hid own3
        have HW3 := Lib.hid (HW.out.trans b3)
        have hw3 := HW3.out.size
        have HX3 := Lib.hid (HX.out.below HW3.out)
        clear own3 b3
        obtain ⟨x0, x1, x2, x3, x4⟩ := HX3.out
        go_wp2_with (at_builtin; refine wpList_append_own _ rfl (.tmp 30) (.tmp 32) 22 rfl w1.heap.size 41 i0 (.agg #[.string ⟨#[]⟩, .string ⟨#[]⟩, .bool false, .int .i64 0]) 4 48 Tryz.underlying22 hi hz0 hz1 hz2 rfl (by decide) v3 k (ev4 (es.take k)) rfl (HO3.out.alloc _) ⟨w3.heap.size, 0, none⟩ 1 1 (ev (k0, v0, g0, q0)) rfl rfl (cell_new4 _ _ _ _ _ _) (by intro u hu; simp [ev] at hu; rcases hu with rfl | rfl | rfl | rfl <;> rfl) (by unfold maxLen; omega) (by omega) (by simp; omega) ?_)
        intro v4 w4 own4 gr4 _
        have HW4 := Lib.hid ((HW3.out.alloc hw3 (.cells #[.string k0, .string v0, .bool g0, .int .i64 q0] 41)).grown gr4 (by simp; omega) (fun k hk => (HO3.out.lt k hk).1))
        rw [ev4_snoc] at own4
        have HO4 := Lib.hid own4
        have hw4 := HW4.out.size
        have HX4 := Lib.hid (HX.out.below HW4.out)
        clear own4 gr4 HX3 HO3 HW3 hw3 x0 x1 x2 x3 x4
        obtain ⟨x0, x1, x2, x3, x4⟩ := HX4.out
        obtain ⟨⟨g0', g1', g2', g3'⟩, hbr⟩ := HGE.out w4 (HB.out.trans (HW4.out.mono HB.out.size))
        try simp only at g0' g1' g2' g3'
        cases r2 with
        | true =>
          have HP2 : Hid (putE es (k0, v0, g0, q0) = es.take k ++ [(k0, v0, g0, q0)] ++ es.drop k) := Lib.hid (by
            rw [HPU.out, HPT.out, dif_pos HKL.out, if_pos HR2.out, List.append_assoc]; rfl)
          have HLR : Hid ((es.take k ++ [(k0, v0, g0, q0)] ++ es.drop k).length = k + 1 + (n - k)) := Lib.hid (by
            have := HL.out; simp only [List.length_append, List.length_take, List.length_drop, List.length_singleton]; omega)
          go_wp2
          refine wp_region_below (by kernel_rfl) (by kernel_rfl) ?_
          repeat (first
            | go_big_quiet_skip
            | (go_big_quiet_want
               first
               | (refine BigFrame.quiet_move _ rfl ?_)
               | (refine BigFrame.quiet_assign _ rfl ?_)
               | (unfold Oper.quiet
                  apply Exists.intro
                  refine ⟨fun w' hw' => ?_, ?_⟩
                  · (obtain ⟨hc', hf'⟩ := bcell hw'
                     go_simp
                     first
                     | done
                     | exact rfl
                     | (go_at_call 55; (with_reducible refine (HL2.out _).mono ?_); rintro e w'' ⟨rfl, bb⟩; exact ⟨rfl, by first | exact bt hw' bb | simpa using bt hw' bb⟩)))
               go_big_quiet_on
               simp only [Act.put, Act.eval, List.setIfInBounds_toArray, List.set_cons_zero, List.set_cons_succ, Array.getD_eq_getD_getElem?, List.getElem?_toArray, List.getElem?_cons_zero, List.getElem?_cons_succ, Option.getD_some]))
          refine wpQuiet_nil ?_
          intro w' hw'
          have HW5 := Lib.hid (HW4.out.trans (hw'.mono hw4))
          have HO5 := Lib.hid (below_own HO4.out hw')
          have hw5s := HW5.out.size
          clear hw'
          clear g0' g1' g2' g3' hbr x0 x1 x2 x3 x4
          go_wp2_with (at_builtin; refine wpList_append_any rfl (.tmp 49) (.tmp 52) 22 rfl w1.heap.size 41 i0 (.agg #[.string ⟨#[]⟩, .string ⟨#[]⟩, .bool false, .int .i64 0]) 4 48 Tryz.underlying22 hi hz0 hz1 hz2 rfl (by decide) v4 (k + 1) (ev4 (es.take k ++ [(k0, v0, g0, q0)])) rfl HO5.out (some ⟨b, off + k * 4, none⟩) (n - k) _ (ev4 (es.drop k)) rfl (by intro h; cases h) (by rw [ev4_length, List.length_drop, HL.out]) ((HAT.out.old hbw (HB.out.trans (HW5.out.mono HB.out.size))).drop k).news' (ev4_one _) (by unfold maxLen; omega) (by omega) hw5s ?_)
          intro v6 w6 own6 b6
          rw [ev4_app] at own6
          have HW6 := Lib.hid (HB.out.trans ((HW5.out.trans b6).mono HB.out.size))
          obtain ⟨a6, c6, rfl, hse⟩ := own_se own6 HLR.out
          have HSE := Lib.hid hse
          clear own6 b6 hse
          go_wp2
          go_ret
          exact ⟨a6, _, c6, rfl, by rw [HP2.out]; exact HSE.out, HW6.out⟩
        | false =>
          have HP2 : Hid (putE es (k0, v0, g0, q0) = es.take k ++ [(k0, v0, g0, q0)] ++ es.drop (k + 1)) := Lib.hid (by
            rw [HPU.out, HPT.out, dif_pos HKL.out, if_neg (by rw [HR2.out]; decide), List.append_assoc]; rfl)
          have HLR : Hid ((es.take k ++ [(k0, v0, g0, q0)] ++ es.drop (k + 1)).length = k + 1 + (n - (k + 1))) := Lib.hid (by
            have := HL.out; simp only [List.length_append, List.length_take, List.length_drop, List.length_singleton]; omega)
          by_cases hcp : cap = k + 1
          · have HD0 : Hid (es.drop (k + 1) = []) := Lib.hid (List.drop_eq_nil_of_le (by rw [HL.out]; omega))
            have hnl : n ≤ k + 1 := by omega
            have HCP := Lib.hid hcp
            clear hcp
            go_wp2
            refine wp_region_below (by kernel_rfl) (by kernel_rfl) ?_
            repeat (first
              | go_big_quiet_skip
              | (go_big_quiet_want
                 first
                 | (refine BigFrame.quiet_move _ rfl ?_)
                 | (refine BigFrame.quiet_assign _ rfl ?_)
                 | (unfold Oper.quiet
                    apply Exists.intro
                    refine ⟨fun w' hw' => ?_, ?_⟩
                    · (obtain ⟨hc', hf'⟩ := bcell hw'
                       go_simp
                       first
                       | done
                       | exact rfl
                       | (go_at_call 55; (with_reducible refine (HL2.out _).mono ?_); rintro e w'' ⟨rfl, bb⟩; exact ⟨rfl, by first | exact bt hw' bb | simpa using bt hw' bb⟩)))
                 go_big_quiet_on
                 simp only [Act.put, Act.eval, List.setIfInBounds_toArray, List.set_cons_zero, List.set_cons_succ, Array.getD_eq_getD_getElem?, List.getElem?_toArray, List.getElem?_cons_zero, List.getElem?_cons_succ, Option.getD_some]))
            refine wpQuiet_nil ?_
            intro w' hw'
            have HW5 := Lib.hid (HW4.out.trans (hw'.mono hw4))
            have HO5 := Lib.hid (below_own HO4.out hw')
            have hw5s := HW5.out.size
            clear hw'
            clear g0' g1' g2' g3' hbr x0 x1 x2 x3 x4
            have hcp := HCP.out
            clear HCP
            subst hcp
            have HP3 := Lib.hid (show putE es (k0, v0, g0, q0) = es.take k ++ [(k0, v0, g0, q0)] ++ [] by rw [HP2.out, HD0.out])
            have HLR3 : Hid ((es.take k ++ [(k0, v0, g0, q0)] ++ ([] : List Ent)).length = k + 1) := Lib.hid (by have := HL.out; simp only [List.length_append, List.length_take, List.length_singleton, List.length_nil]; omega)
            go_wp2_with (at_builtin; refine wpList_append_any rfl (.tmp 49) (.tmp 52) 22 rfl w1.heap.size 41 i0 (.agg #[.string ⟨#[]⟩, .string ⟨#[]⟩, .bool false, .int .i64 0]) 4 48 Tryz.underlying22 hi hz0 hz1 hz2 rfl (by decide) v4 (k + 1) (ev4 (es.take k ++ [(k0, v0, g0, q0)])) rfl HO5.out (some ⟨b, off, none⟩) 0 _ (ev4 ([] : List Ent)) rfl (by intro h; cases h) rfl (by intro y _ j u hj; simp [ev4] at hj) (ev4_one _) (by unfold maxLen; omega) (by omega) hw5s ?_)
            intro v6 w6 own6 b6
            rw [ev4_app] at own6
            have HW6 := Lib.hid (HB.out.trans ((HW5.out.trans b6).mono HB.out.size))
            obtain ⟨a6, c6, rfl, hse⟩ := own_se own6 HLR3.out
            have HSE := Lib.hid hse
            clear own6 b6 hse
            go_wp2
            go_ret
            exact ⟨a6, _, c6, rfl, by rw [HP3.out]; exact HSE.out, HW6.out⟩
          · have hcp' : k + 1 < cap := by omega
            have hcpi : (k : Int) + 1 < (cap : Int) := by omega
            go_wp2
            refine wp_region_below (by kernel_rfl) (by kernel_rfl) ?_
            repeat (first
              | go_big_quiet_skip
              | (go_big_quiet_want
                 first
                 | (refine BigFrame.quiet_move _ rfl ?_)
                 | (refine BigFrame.quiet_assign _ rfl ?_)
                 | (unfold Oper.quiet
                    apply Exists.intro
                    refine ⟨fun w' hw' => ?_, ?_⟩
                    · (obtain ⟨hc', hf'⟩ := bcell hw'
                       go_simp
                       first
                       | done
                       | exact rfl
                       | (go_at_call 55; (with_reducible refine (HL2.out _).mono ?_); rintro e w'' ⟨rfl, bb⟩; exact ⟨rfl, by first | exact bt hw' bb | simpa using bt hw' bb⟩)))
                 go_big_quiet_on
                 simp only [Act.put, Act.eval, List.setIfInBounds_toArray, List.set_cons_zero, List.set_cons_succ, Array.getD_eq_getD_getElem?, List.getElem?_toArray, List.getElem?_cons_zero, List.getElem?_cons_succ, Option.getD_some]))
            refine wpQuiet_nil ?_
            intro w' hw'
            have HW5 := Lib.hid (HW4.out.trans (hw'.mono hw4))
            have HO5 := Lib.hid (below_own HO4.out hw')
            have hw5s := HW5.out.size
            clear hw'
            clear g0' g1' g2' g3' hbr x0 x1 x2 x3 x4
            go_wp2_with (at_builtin; refine wpList_append_any rfl (.tmp 49) (.tmp 52) 22 rfl w1.heap.size 41 i0 (.agg #[.string ⟨#[]⟩, .string ⟨#[]⟩, .bool false, .int .i64 0]) 4 48 Tryz.underlying22 hi hz0 hz1 hz2 rfl (by decide) v4 (k + 1) (ev4 (es.take k ++ [(k0, v0, g0, q0)])) rfl HO5.out (some ⟨b, off + (k + 1) * 4, none⟩) (n - (k + 1)) _ (ev4 (es.drop (k + 1))) rfl (by intro h; cases h) (by rw [ev4_length, List.length_drop, HL.out]) ((HAT.out.old hbw (HB.out.trans (HW5.out.mono HB.out.size))).drop (k + 1)).news' (ev4_one _) (by unfold maxLen; omega) (by omega) hw5s ?_)
            intro v6 w6 own6 b6
            rw [ev4_app] at own6
            have HW6 := Lib.hid (HB.out.trans ((HW5.out.trans b6).mono HB.out.size))
            obtain ⟨a6, c6, rfl, hse⟩ := own_se own6 HLR.out
            have HSE := Lib.hid hse
            clear own6 b6 hse
            go_wp2
            go_ret
            exact ⟨a6, _, c6, rfl, by rw [HP2.out]; exact HSE.out, HW6.out⟩
    · obtain rfl : k = n := by omega
      have HPT := Lib.hid (insE_at es (k0, v0, g0, q0) k (by rw [HL.out]; exact Nat.le_refl _) HLE.out (fun h => by rw [HL.out] at h; omega))
      have HP2 : Hid (putE es (k0, v0, g0, q0) = es.take k ++ [(k0, v0, g0, q0)] ++ []) := Lib.hid (by
        rw [HPU.out, HPT.out, dif_neg (by rw [HL.out]; omega)]; simp)
      have HLR : Hid ((es.take k ++ [(k0, v0, g0, q0)] ++ []).length = k + 1) := Lib.hid (by
        have := HL.out; simp only [List.length_append, List.length_take, List.length_singleton, List.length_nil]; omega)
      have hkci : (k : Int) ≤ (cap : Int) := by omega
      rcases a with _ | x
      · have hk0 : k ≤ 0 := by
          rcases Nat.eq_zero_or_pos k with h | h
          · omega
          · exact absurd (ha h) (by simp)
        have HK0 := Lib.hid hk0
        clear hk0
        go_wp2
        refine wp_region_below (by kernel_rfl) (by kernel_rfl) ?_
        repeat (first
          | go_big_quiet_skip
          | (go_big_quiet_want
             first
             | (refine BigFrame.quiet_move _ rfl ?_)
             | (refine BigFrame.quiet_assign _ rfl ?_)
             | (unfold Oper.quiet
                apply Exists.intro
                refine ⟨fun w' hw' => ?_, ?_⟩
                · (obtain ⟨hc', hf'⟩ := bcell hw'
                   go_simp
                   first
                   | done
                   | exact rfl))
             go_big_quiet_on
             simp only [Act.put, Act.eval, List.setIfInBounds_toArray, List.set_cons_zero, List.set_cons_succ, Array.getD_eq_getD_getElem?, List.getElem?_toArray, List.getElem?_cons_zero, List.getElem?_cons_succ, Option.getD_some]))
        refine wpQuiet_nil ?_
        intro w' hw'
        have HW : Hid (Below w1.heap.size w1 w') := Lib.hid (HWr.out.trans (hw'.mono HWr.out.size))
        clear hw' x0 x1 x2 x3 x4
        go_wp2_with (at_builtin; refine wpList_append_any rfl (.tmp 25) (.tmp 28) 22 rfl w1.heap.size 41 i0 (.agg #[.string ⟨#[]⟩, .string ⟨#[]⟩, .bool false, .int .i64 0]) 4 48 Tryz.underlying22 hi hz0 hz1 hz2 rfl (by decide) (.slice none 0 0) 0 (ev4 []) rfl (World.ownsRow_nil _ _ _ _) none k cap (ev4 (es.take k)) rfl (fun _ => by have := HK0.out; omega) (HNL.out k (Nat.le_refl _)) (fun y hy => HNT.out _ (HB.out.trans (HW.out.mono HB.out.size)) k (Nat.le_refl _) y hy) (ev4_one _) (by unfold maxLen; omega) (by omega) HW.out.size ?_)
        intro v3 w3 own3 b3
        rw [ev4_app, List.nil_append] at own3
        have HO3 := Lib.hid own3
        have HW3 := Lib.hid (HW.out.trans b3)
        have hw3 := HW3.out.size
        have HX3 := Lib.hid (HX.out.below HW3.out)
        clear own3 b3
        obtain ⟨x0, x1, x2, x3, x4⟩ := HX3.out
        go_wp2_with (at_builtin; refine wpList_append_own _ rfl (.tmp 30) (.tmp 32) 22 rfl w1.heap.size 41 i0 (.agg #[.string ⟨#[]⟩, .string ⟨#[]⟩, .bool false, .int .i64 0]) 4 48 Tryz.underlying22 hi hz0 hz1 hz2 rfl (by decide) v3 k (ev4 (es.take k)) rfl (HO3.out.alloc _) ⟨w3.heap.size, 0, none⟩ 1 1 (ev (k0, v0, g0, q0)) rfl rfl (cell_new4 _ _ _ _ _ _) (by intro u hu; simp [ev] at hu; rcases hu with rfl | rfl | rfl | rfl <;> rfl) (by unfold maxLen; omega) (by omega) (by simp; omega) ?_)
        intro v4 w4 own4 gr4 _
        have HW4 := Lib.hid ((HW3.out.alloc hw3 (.cells #[.string k0, .string v0, .bool g0, .int .i64 q0] 41)).grown gr4 (by simp; omega) (fun k hk => (HO3.out.lt k hk).1))
        rw [ev4_snoc] at own4
        have HO4 := Lib.hid own4
        have hw4 := HW4.out.size
        have HX4 := Lib.hid (HX.out.below HW4.out)
        clear own4 gr4 HX3 HO3 HW3 hw3 x0 x1 x2 x3 x4
        obtain ⟨x0, x1, x2, x3, x4⟩ := HX4.out
        go_wp2
        refine wp_region_below (by kernel_rfl) (by kernel_rfl) ?_
        repeat (first
          | go_big_quiet_skip
          | (go_big_quiet_want
             first
             | (refine BigFrame.quiet_move _ rfl ?_)
             | (refine BigFrame.quiet_assign _ rfl ?_)
             | (unfold Oper.quiet
                apply Exists.intro
                refine ⟨fun w' hw' => ?_, ?_⟩
                · (obtain ⟨hc', hf'⟩ := bcell hw'
                   go_simp
                   first
                   | done
                   | exact rfl))
             go_big_quiet_on
             simp only [Act.put, Act.eval, List.setIfInBounds_toArray, List.set_cons_zero, List.set_cons_succ, Array.getD_eq_getD_getElem?, List.getElem?_toArray, List.getElem?_cons_zero, List.getElem?_cons_succ, Option.getD_some]))
        refine wpQuiet_nil ?_
        intro w' hw'
        have HW5 := Lib.hid (HW4.out.trans (hw'.mono hw4))
        have HO5 := Lib.hid (below_own HO4.out hw')
        have hw5s := HW5.out.size
        clear hw'
        go_wp2_with (at_builtin; refine wpList_append_any rfl (.tmp 49) (.tmp 52) 22 rfl w1.heap.size 41 i0 (.agg #[.string ⟨#[]⟩, .string ⟨#[]⟩, .bool false, .int .i64 0]) 4 48 Tryz.underlying22 hi hz0 hz1 hz2 rfl (by decide) v4 (k + 1) (ev4 (es.take k ++ [(k0, v0, g0, q0)])) rfl HO5.out none 0 _ (ev4 ([] : List Ent)) rfl (fun _ => rfl) rfl (by intro y _ j u hj; simp [ev4] at hj) (ev4_one _) (by unfold maxLen; omega) (by omega) hw5s ?_)
        intro v6 w6 own6 b6
        rw [ev4_app] at own6
        have HW6 := Lib.hid (HB.out.trans ((HW5.out.trans b6).mono HB.out.size))
        obtain ⟨a6, c6, rfl, hse⟩ := own_se own6 HLR.out
        have HSE := Lib.hid hse
        clear own6 b6 hse
        go_wp2
        go_ret
        exact ⟨a6, _, c6, rfl, by rw [HP2.out]; exact HSE.out, HW6.out⟩
      · by_cases hcp : cap = k
        · have HCP := Lib.hid hcp
          clear hcp
          go_wp2
          refine wp_region_below (by kernel_rfl) (by kernel_rfl) ?_
          repeat (first
            | go_big_quiet_skip
            | (go_big_quiet_want
               first
               | (refine BigFrame.quiet_move _ rfl ?_)
               | (refine BigFrame.quiet_assign _ rfl ?_)
               | (unfold Oper.quiet
                  apply Exists.intro
                  refine ⟨fun w' hw' => ?_, ?_⟩
                  · (obtain ⟨hc', hf'⟩ := bcell hw'
                     go_simp
                     first
                     | done
                     | exact rfl))
               go_big_quiet_on
               simp only [Act.put, Act.eval, List.setIfInBounds_toArray, List.set_cons_zero, List.set_cons_succ, Array.getD_eq_getD_getElem?, List.getElem?_toArray, List.getElem?_cons_zero, List.getElem?_cons_succ, Option.getD_some]))
          refine wpQuiet_nil ?_
          intro w' hw'
          have HW : Hid (Below w1.heap.size w1 w') := Lib.hid (HWr.out.trans (hw'.mono HWr.out.size))
          clear hw' x0 x1 x2 x3 x4
          go_wp2_with (at_builtin; refine wpList_append_any rfl (.tmp 25) (.tmp 28) 22 rfl w1.heap.size 41 i0 (.agg #[.string ⟨#[]⟩, .string ⟨#[]⟩, .bool false, .int .i64 0]) 4 48 Tryz.underlying22 hi hz0 hz1 hz2 rfl (by decide) (.slice none 0 0) 0 (ev4 []) rfl (World.ownsRow_nil _ _ _ _) (some x) k cap (ev4 (es.take k)) rfl (by intro h; cases h) (HNL.out k (Nat.le_refl _)) (fun y hy => HNT.out _ (HB.out.trans (HW.out.mono HB.out.size)) k (Nat.le_refl _) y hy) (ev4_one _) (by unfold maxLen; omega) (by omega) HW.out.size ?_)
          intro v3 w3 own3 b3
          rw [ev4_app, List.nil_append] at own3
          have HO3 := Lib.hid own3
          have HW3 := Lib.hid (HW.out.trans b3)
          have hw3 := HW3.out.size
          have HX3 := Lib.hid (HX.out.below HW3.out)
          clear own3 b3
          obtain ⟨x0, x1, x2, x3, x4⟩ := HX3.out
          go_wp2_with (at_builtin; refine wpList_append_own _ rfl (.tmp 30) (.tmp 32) 22 rfl w1.heap.size 41 i0 (.agg #[.string ⟨#[]⟩, .string ⟨#[]⟩, .bool false, .int .i64 0]) 4 48 Tryz.underlying22 hi hz0 hz1 hz2 rfl (by decide) v3 k (ev4 (es.take k)) rfl (HO3.out.alloc _) ⟨w3.heap.size, 0, none⟩ 1 1 (ev (k0, v0, g0, q0)) rfl rfl (cell_new4 _ _ _ _ _ _) (by intro u hu; simp [ev] at hu; rcases hu with rfl | rfl | rfl | rfl <;> rfl) (by unfold maxLen; omega) (by omega) (by simp; omega) ?_)
          intro v4 w4 own4 gr4 _
          have HW4 := Lib.hid ((HW3.out.alloc hw3 (.cells #[.string k0, .string v0, .bool g0, .int .i64 q0] 41)).grown gr4 (by simp; omega) (fun k hk => (HO3.out.lt k hk).1))
          rw [ev4_snoc] at own4
          have HO4 := Lib.hid own4
          have hw4 := HW4.out.size
          have HX4 := Lib.hid (HX.out.below HW4.out)
          clear own4 gr4 HX3 HO3 HW3 hw3 x0 x1 x2 x3 x4
          obtain ⟨x0, x1, x2, x3, x4⟩ := HX4.out
          go_wp2
          refine wp_region_below (by kernel_rfl) (by kernel_rfl) ?_
          repeat (first
            | go_big_quiet_skip
            | (go_big_quiet_want
               first
               | (refine BigFrame.quiet_move _ rfl ?_)
               | (refine BigFrame.quiet_assign _ rfl ?_)
               | (unfold Oper.quiet
                  apply Exists.intro
                  refine ⟨fun w' hw' => ?_, ?_⟩
                  · (obtain ⟨hc', hf'⟩ := bcell hw'
                     go_simp
                     first
                     | done
                     | exact rfl))
               go_big_quiet_on
               simp only [Act.put, Act.eval, List.setIfInBounds_toArray, List.set_cons_zero, List.set_cons_succ, Array.getD_eq_getD_getElem?, List.getElem?_toArray, List.getElem?_cons_zero, List.getElem?_cons_succ, Option.getD_some]))
          refine wpQuiet_nil ?_
          intro w' hw'
          have HW5 := Lib.hid (HW4.out.trans (hw'.mono hw4))
          have HO5 := Lib.hid (below_own HO4.out hw')
          have hw5s := HW5.out.size
          clear hw'
          have hcp := HCP.out.symm
          clear HCP
          subst hcp
          go_wp2_with (at_builtin; refine wpList_append_any rfl (.tmp 49) (.tmp 52) 22 rfl w1.heap.size 41 i0 (.agg #[.string ⟨#[]⟩, .string ⟨#[]⟩, .bool false, .int .i64 0]) 4 48 Tryz.underlying22 hi hz0 hz1 hz2 rfl (by decide) v4 (k + 1) (ev4 (es.take k ++ [(k0, v0, g0, q0)])) rfl HO5.out (some x) 0 _ (ev4 ([] : List Ent)) rfl (by intro h; cases h) rfl (by intro y _ j u hj; simp [ev4] at hj) (ev4_one _) (by unfold maxLen; omega) (by omega) hw5s ?_)
          intro v6 w6 own6 b6
          rw [ev4_app] at own6
          have HW6 := Lib.hid (HB.out.trans ((HW5.out.trans b6).mono HB.out.size))
          obtain ⟨a6, c6, rfl, hse⟩ := own_se own6 HLR.out
          have HSE := Lib.hid hse
          clear own6 b6 hse
          go_wp2
          go_ret
          exact ⟨a6, _, c6, rfl, by rw [HP2.out]; exact HSE.out, HW6.out⟩
        · have hcp' : k < cap := by omega
          have hcpi : (k : Int) < (cap : Int) := by omega
          go_wp2
          refine wp_region_below (by kernel_rfl) (by kernel_rfl) ?_
          repeat (first
            | go_big_quiet_skip
            | (go_big_quiet_want
               first
               | (refine BigFrame.quiet_move _ rfl ?_)
               | (refine BigFrame.quiet_assign _ rfl ?_)
               | (unfold Oper.quiet
                  apply Exists.intro
                  refine ⟨fun w' hw' => ?_, ?_⟩
                  · (obtain ⟨hc', hf'⟩ := bcell hw'
                     go_simp
                     first
                     | done
                     | exact rfl))
               go_big_quiet_on
               simp only [Act.put, Act.eval, List.setIfInBounds_toArray, List.set_cons_zero, List.set_cons_succ, Array.getD_eq_getD_getElem?, List.getElem?_toArray, List.getElem?_cons_zero, List.getElem?_cons_succ, Option.getD_some]))
          refine wpQuiet_nil ?_
          intro w' hw'
          have HW : Hid (Below w1.heap.size w1 w') := Lib.hid (HWr.out.trans (hw'.mono HWr.out.size))
          clear hw' x0 x1 x2 x3 x4
          go_wp2_with (at_builtin; refine wpList_append_any rfl (.tmp 25) (.tmp 28) 22 rfl w1.heap.size 41 i0 (.agg #[.string ⟨#[]⟩, .string ⟨#[]⟩, .bool false, .int .i64 0]) 4 48 Tryz.underlying22 hi hz0 hz1 hz2 rfl (by decide) (.slice none 0 0) 0 (ev4 []) rfl (World.ownsRow_nil _ _ _ _) (some x) k cap (ev4 (es.take k)) rfl (by intro h; cases h) (HNL.out k (Nat.le_refl _)) (fun y hy => HNT.out _ (HB.out.trans (HW.out.mono HB.out.size)) k (Nat.le_refl _) y hy) (ev4_one _) (by unfold maxLen; omega) (by omega) HW.out.size ?_)
          intro v3 w3 own3 b3
          rw [ev4_app, List.nil_append] at own3
          have HO3 := Lib.hid own3
          have HW3 := Lib.hid (HW.out.trans b3)
          have hw3 := HW3.out.size
          have HX3 := Lib.hid (HX.out.below HW3.out)
          clear own3 b3
          obtain ⟨x0, x1, x2, x3, x4⟩ := HX3.out
          go_wp2_with (at_builtin; refine wpList_append_own _ rfl (.tmp 30) (.tmp 32) 22 rfl w1.heap.size 41 i0 (.agg #[.string ⟨#[]⟩, .string ⟨#[]⟩, .bool false, .int .i64 0]) 4 48 Tryz.underlying22 hi hz0 hz1 hz2 rfl (by decide) v3 k (ev4 (es.take k)) rfl (HO3.out.alloc _) ⟨w3.heap.size, 0, none⟩ 1 1 (ev (k0, v0, g0, q0)) rfl rfl (cell_new4 _ _ _ _ _ _) (by intro u hu; simp [ev] at hu; rcases hu with rfl | rfl | rfl | rfl <;> rfl) (by unfold maxLen; omega) (by omega) (by simp; omega) ?_)
          intro v4 w4 own4 gr4 _
          have HW4 := Lib.hid ((HW3.out.alloc hw3 (.cells #[.string k0, .string v0, .bool g0, .int .i64 q0] 41)).grown gr4 (by simp; omega) (fun k hk => (HO3.out.lt k hk).1))
          rw [ev4_snoc] at own4
          have HO4 := Lib.hid own4
          have hw4 := HW4.out.size
          have HX4 := Lib.hid (HX.out.below HW4.out)
          clear own4 gr4 HX3 HO3 HW3 hw3 x0 x1 x2 x3 x4
          obtain ⟨x0, x1, x2, x3, x4⟩ := HX4.out
          go_wp2
          refine wp_region_below (by kernel_rfl) (by kernel_rfl) ?_
          repeat (first
            | go_big_quiet_skip
            | (go_big_quiet_want
               first
               | (refine BigFrame.quiet_move _ rfl ?_)
               | (refine BigFrame.quiet_assign _ rfl ?_)
               | (unfold Oper.quiet
                  apply Exists.intro
                  refine ⟨fun w' hw' => ?_, ?_⟩
                  · (obtain ⟨hc', hf'⟩ := bcell hw'
                     go_simp
                     first
                     | done
                     | exact rfl))
               go_big_quiet_on
               simp only [Act.put, Act.eval, List.setIfInBounds_toArray, List.set_cons_zero, List.set_cons_succ, Array.getD_eq_getD_getElem?, List.getElem?_toArray, List.getElem?_cons_zero, List.getElem?_cons_succ, Option.getD_some]))
          refine wpQuiet_nil ?_
          intro w' hw'
          have HW5 := Lib.hid (HW4.out.trans (hw'.mono hw4))
          have HO5 := Lib.hid (below_own HO4.out hw')
          have hw5s := HW5.out.size
          clear hw'
          go_wp2_with (at_builtin; refine wpList_append_any rfl (.tmp 49) (.tmp 52) 22 rfl w1.heap.size 41 i0 (.agg #[.string ⟨#[]⟩, .string ⟨#[]⟩, .bool false, .int .i64 0]) 4 48 Tryz.underlying22 hi hz0 hz1 hz2 rfl (by decide) v4 (k + 1) (ev4 (es.take k ++ [(k0, v0, g0, q0)])) rfl HO5.out (some (x.add (k * 4))) 0 _ (ev4 ([] : List Ent)) rfl (by intro h; cases h) rfl (by intro y _ j u hj; simp [ev4] at hj) (ev4_one _) (by unfold maxLen; omega) (by omega) hw5s ?_)
          intro v6 w6 own6 b6
          rw [ev4_app] at own6
          have HW6 := Lib.hid (HB.out.trans ((HW5.out.trans b6).mono HB.out.size))
          obtain ⟨a6, c6, rfl, hse⟩ := own_se own6 HLR.out
          have HSE := Lib.hid hse
          clear own6 b6 hse
          go_wp2
          go_ret
          exact ⟨a6, _, c6, rfl, by rw [HP2.out]; exact HSE.out, HW6.out⟩
theorem put1_any (a : Option Addr) (n cap : Nat) (es : List Ent) (k0 v0 : ByteArray) (g0 : Bool) (q0 : Int) (w : World) (hn60 : n ≤ 4096) (hs : SE w a n cap es) (h1 : okS k0) (h2 : okS v0) :
    Calls Tryz.prog 29 #[.slice a n cap, .agg #[.string k0, .string v0, .bool g0, .int .i64 q0]] w (P1 (putE es (k0, v0, g0, q0)) w) := by
  cases hm : mayE (k0, v0, g0, q0) with
  | false => exact put1_no a n cap es k0 v0 g0 q0 w hs h1 h2 hm
  | true => exact put1_yes a n cap es k0 v0 g0 q0 w hn60 hs h1 h2 hm
end Go.Proofs.YtobhjmkaamjoeaaGreat
