/-
  Layer 16 (post): what clients did last that is the same. Conditions: as each says.
-/
import Derived.Test.YtdnhmkfgcpdbkaaTz
import Derived.Test.YtdnhmkfgcpdbkaaUb
import Derived.Test.YtdnhmkfgcpdbkaaRg
namespace Go.Proofs.Ytdnhmkfgcpdbkaa
open Go.RowKit
set_option linter.unusedVariables false
set_option linter.unusedSimpArgs false

set_option maxRecDepth 100000 in
set_option maxHeartbeats 8000000 in
theorem same14p_any (w : World) (a1 : Option Addr) (n1 c1 : Nat) (a2 : Option Addr) (n2 c2 : Nat) (L : List (List Fld)) (h1 : LRv w 7 (.slice a1 n1 c1) L) (h2 : LRv w 7 (.slice a2 n2 c2) (L.map (·.map nF))) (hsp : ∀ x ∈ L, slPr x) (hb : bareL L = true) (hm : L.length ≤ maxLen) :
    Calls Try.prog 27 #[.slice a1 n1 c1, .slice a2 n2 c2] w fun e w' => e = .returned (.bool true) ∧ Below w.heap.size w w' := by
  unfold maxLen at hm
  obtain ⟨_, _, _, e1, k1, r1⟩ := h1
  obtain ⟨_, _, _, e2, k2, r2⟩ := h2
  injection e1 with e1 e1' e1''
  injection e2 with e2 e2' e2''
  subst e1 e1' e1'' e2 e2' e2''
  rw [List.length_map] at k2
  obtain ⟨n, hn⟩ : ∃ n, n = L.length := ⟨_, rfl⟩
  rw [← hn] at k1 k2
  subst k1 k2
  rw [← hn] at hm
  have HN := Lib.hid hn
  have H1 := Lib.hid r1
  have H2 := Lib.hid r2
  have HSH := Lib.hid (And.intro hsp hb)
  clear r1 r2 hsp hb hn
  go_enter Try.func27, Try.ntmps27
  go_wp2_with fail
  go_loopw [5] (fun i wr => ∃ k : Nat, i = .int .i64 k ∧ k ≤ n ∧ Hid (Below w.heap.size w wr)) (fun i _ => n - (intOf i).toNat)
  case atStart => exact ⟨0, by first | rfl | go_num, by omega, Lib.hid (Below.refl _ _)⟩
  case round =>
    obtain ⟨k, rfl, hk, HW⟩ := hrel
    have hws := HW.out.size
    by_cases hlt : k < n
    · have hki : (k : Int) < (n : Int) := by omega
      have hkl : k < L.length := by rw [← HN.out]; exact hlt
      obtain ⟨x, hx⟩ : ∃ x, x = L[k] := ⟨_, rfl⟩
      have hmem : x ∈ L := by rw [hx]; exact List.getElem_mem hkl
      have hsx := HSH.out.1 x hmem
      have hbx : prN x = 0 := of_decide_eq_true (List.all_eq_true.1 HSH.out.2 x hmem)
      rcases H1.out with e0 | ⟨b1, o1, q1, l1, g1⟩
      · rw [e0] at hkl; simp at hkl
      rcases H2.out with e0 | ⟨b2, o2, q2, l2, g2⟩
      · have : (L.map (·.map nF)).length = 0 := by rw [e0]; rfl
        rw [List.length_map] at this; omega
      subst q1 q2
      have hkl2 : k < (L.map (·.map nF)).length := by rw [List.length_map]; exact hkl
      have hf1 : FAt wr b1 (o1 + k * 7) x := fun i hi => (HW.out.cell (p := ⟨b1, _, none⟩) l1).trans (by subst hx; exact g1 k hkl i hi)
      have hgx : (L.map (·.map nF))[k] = x.map nF := by rw [List.getElem_map, hx]
      have hf2 : FAt wr b2 (o2 + k * 7) (x.map nF) := fun i hi => (HW.out.cell (p := ⟨b2, _, none⟩) l2).trans (by
        have := g2 k hkl2
        rw [hgx] at this
        exact this i hi)
      have hl1 : b1 < wr.heap.size := Nat.lt_of_lt_of_le l1 hws
      have hl2 : b2 < wr.heap.size := Nat.lt_of_lt_of_le l2 hws
      obtain ⟨cc, sq, er, va, g, pa, pn, pc, pu, rfl⟩ := hsx
      obtain rfl : pn = 0 := hbx
      have p0 := hf1 0 (by simp)
      have p1 := hf1 1 (by simp)
      have p2 := hf1 2 (by simp)
      have p3 := hf1 3 (by simp)
      have p4 := hf1 4 (by simp)
      have p5 := hf1 5 (by simp)
      have p6 := hf1 6 (by simp)
      have q0 := hf2 0 (by simp)
      have q1 := hf2 1 (by simp)
      have q2 := hf2 2 (by simp)
      have q3 := hf2 3 (by simp)
      have q4 := hf2 4 (by simp)
      have q5 := hf2 5 (by simp)
      have q6 := hf2 6 (by simp)
      simp only [List.map_cons, List.map_nil, nF, List.getElem_cons_zero, List.getElem_cons_succ, Fld.cell, Nat.add_zero] at p0 p1 p2 p3 p4 p5 p6 q0 q1 q2 q3 q4 q5 q6
      have HSR : Hid (∀ W, Calls Try.prog 24 #[.agg #[.int .i64 er, .string va, .bool g, .slice pa 0 pc, .string pu], .agg #[.int .i64 er, .string va, .bool g, .slice none 0 0, .string pu]] W fun e w' => e = .returned (.bool true) ∧ Below W.heap.size W w') := Lib.hid fun W =>
        sameRep_any W er va g pu pa 0 pc none 0 0 [] ⟨_, _, _, rfl, rfl, .inl rfl⟩ ⟨_, _, _, rfl, rfl, .inl rfl⟩ (fun x hx => by simp at hx) (Nat.zero_le _)
      clear hf1 hf2 g1 g2 hgx hkl2 hmem hx l1 l2 hkl
      go_wp2_with fail
      refine wp_region_below (by kernel_rfl) (by kernel_rfl) ?_
      repeat (first
        | go_big_quiet_skip
        | (go_big_quiet_want
           first
           | (refine BigFrame.quiet_move _ rfl ?_)
           | (refine BigFrame.quiet_assign _ rfl ?_)
           | (unfold Oper.quiet
              apply Exists.intro
              refine ⟨fun w' hw' => ?_, ?_⟩
              · (obtain ⟨hc', hf'⟩ := bcell hw'
                 go_simp
                 first
                 | done
                 | exact rfl
                 | (go_at_call 24; (with_reducible refine (HSR.out _).mono ?_); rintro e w'' ⟨rfl, bb⟩; exact ⟨rfl, by first | exact bt hw' bb | simpa using bt hw' bb⟩)))
           go_big_quiet_on
           simp only [Act.put, Act.eval, List.setIfInBounds_toArray, List.set_cons_zero, List.set_cons_succ, Array.getD_eq_getD_getElem?, List.getElem?_toArray, List.getElem?_cons_zero, List.getElem?_cons_succ, Option.getD_some]))
      refine wpQuiet_nil ?_
      intro w' hw'
      clear p0 p1 p2 p3 p4 p5 p6 q0 q1 q2 q3 q4 q5 q6
      go_wp2_with fail
      go_roundw
      case rel => exact ⟨k + 1, by go_num, by omega, Lib.hid (HW.out.trans (hw'.mono hws))⟩
      case measure => simp [intOf]; omega
    · obtain rfl : k = n := by omega
      have hki : ¬ (k : Int) < (k : Int) := by omega
      clear hlt hk
      go_wp2_with fail
      go_ret
      exact ⟨rfl, HW.out⟩
end Go.Proofs.Ytdnhmkfgcpdbkaa
