/-
  Layer 14 (once): contracts of Check, Find, Put, Join, of the code. Conditions: lists that are read.
-/
import Derived.Test.YtemaonfgledcmaaNd
namespace Go.Proofs.Ytemaonfgledcmaa
open Go.RowKit
set_option linter.unusedVariables false
set_option linter.unusedSimpArgs false

theorem there8 (w : World) (p : Pl) : (w.alloc (.cells #[(.int .i64 0), (.int .i64 0), (.int .i64 0), (.string ⟨#[]⟩), (.bool false), (.slice none 0 0), (.string ⟨#[]⟩), (.int .i64 0), (.int .i64 0), (.int .i64 0), (.string ⟨#[]⟩), (.bool false), (.slice none 0 0), (.string ⟨#[]⟩), (.int .i64 0), (.int .i64 0), (.int .i64 0), (.string ⟨#[]⟩), (.bool false), (.slice none 0 0), (.string ⟨#[]⟩), (.int .i64 0), (.int .i64 0), (.int .i64 0), (.string ⟨#[]⟩), (.bool false), (.slice none 0 0), (.string ⟨#[]⟩), (.int .i64 0), (.int .i64 0), (.int .i64 0), (.string ⟨#[]⟩), (.bool false), (.slice none 0 0), (.string ⟨#[]⟩), (.int .i64 0), (.int .i64 0), (.int .i64 0), (.string ⟨#[]⟩), (.bool false), (.slice none 0 0), (.string ⟨#[]⟩), (.int .i64 0), (.int .i64 0), (.int .i64 0), (.string ⟨#[]⟩), (.bool false), (.slice none 0 0), (.string ⟨#[]⟩), (.int .i64 0), (.int .i64 0), (.int .i64 0), (.string ⟨#[]⟩), (.bool false), (.slice none 0 0), (.string ⟨#[]⟩)] 69)).there w.heap.size 0 (cells8 p).toArray.size := by
  rw [zero8, show (cells8 p).toArray.size = 56 by rw [List.size_toArray, cells8_len]]
  exact (PL.new w _ _).wr
theorem size8_of (p : Pl) : (Try.prog.info? 69).map (·.size) = some (cells8 p).toArray.size := by rw [Try.size8, List.size_toArray, cells8_len]
def chkE (l : List Sn) : Int := if chk l = true then 0 else 1
/-- What Find says. -/
def fndE (l : List Sn) (c s : Int) : Int := if (chk l && cliB c && seqB s) = true then (match look l c with | none => 3 | some x => if x.s < s then 3 else if s < x.s then 140 else 0) else 1
def fndS (l : List Sn) (c s : Int) : Sn := if fndE l c s = 0 then (look l c).getD Z0 else Z0
abbrev ra (x : Sn) : Value := .agg #[.int .i64 x.e, .string x.v, .bool x.h, .slice x.p x.n x.k, .string x.u]
theorem cliB_iff {c : Int} : cliB c = true ↔ 0 ≤ c ∧ c ≤ 7 := by unfold cliB; simp
theorem seqB_iff {c : Int} : seqB c = true ↔ 1 ≤ c ∧ c ≤ 1099511627775 := by unfold seqB; simp
theorem normS_Z0 : normS Z0 = Z0 := rfl
theorem fnd_of {l : List Sn} {c s : Int} (h : chk l = true) (hc : cliB c = true) (hs : seqB s = true) {x : Sn} (hx : x = plcd l c.toNat) :
    (x.s < s → fndE l c s = 3) ∧ (s < x.s → fndE l c s = 140) ∧ (¬ x.s < s → ¬ s < x.s → fndE l c s = 0 ∧ normS (fndS l c s) = x) := by
  have hc' := cliB_iff.1 hc
  have hs' := seqB_iff.1 hs
  have e := plcd_at h c.toNat
  rw [show ((c.toNat : Nat) : Int) = c by omega, ← hx] at e
  have hE : fndE l c s = match look l c with | none => 3 | some x => if x.s < s then 3 else if s < x.s then 140 else 0 := by unfold fndE; rw [h, hc, hs]; rfl
  cases hl : look l c with
  | none =>
    rw [hl] at e hE
    simp only at e hE
    subst e
    refine ⟨fun _ => hE, fun k => ?_, fun k _ => ?_⟩
    · have : s < 0 := k
      omega
    · exact absurd (show (0 : Int) < s by omega) k
  | some y =>
    rw [hl] at e hE
    simp only at e hE
    have hys : x.s = y.s := by rw [e]; rfl
    rw [hys]
    refine ⟨fun k => by rw [hE, if_pos k], fun k => by rw [hE, if_neg (by omega), if_pos k], fun k1 k2 => ?_⟩
    have h0 : fndE l c s = 0 := by rw [hE, if_neg k1, if_neg k2]
    refine ⟨h0, ?_⟩
    unfold fndS
    rw [if_pos h0, hl, e]; rfl
theorem there5 (w : World) : (w.alloc (.cells #[.int .i64 0, .string ⟨#[]⟩, .bool false, .slice none 0 0, .string ⟨#[]⟩] 37)).there w.heap.size 0 5 := fun j hj => by
  match j, hj with
  | 0, _ => simp
  | 1, _ => simp
  | 2, _ => simp
  | 3, _ => simp
  | 4, _ => simp
theorem there_below {w w' : World} {b o n : Nat} (h : w.there b o n) (hl : b < w.heap.size) (hb : Below w.heap.size w w') : w'.there b o n := fun j hj => by
  rw [hb.cell (p := ⟨b, o + j, none⟩) hl, hb.frozen (p := ⟨b, o + j, none⟩) hl]
  exact h j hj
theorem size5 : (Try.prog.info? 37).map (·.size) = some 5 := by kernel_rfl
theorem one5 (x : Sn) : (#[.int .i64 x.e, .string x.v, .bool x.h, .slice x.p x.n x.k, .string x.u] : Array Value).all (·.oneCell') = true :=
  all_oneCell_toArray (cs := [.int .i64 x.e, .string x.v, .bool x.h, .slice x.p x.n x.k, .string x.u]) (by
    intro u hu
    simp only [List.mem_cons, List.not_mem_nil, or_false] at hu
    rcases hu with rfl | rfl | rfl | rfl | rfl <;> rfl)
theorem find_res (tmps : Array Value) (w : World) (x : Nat) (X : Sn) (E : Int) (h : w.rangeAt x 0 [.int .i64 X.e, .string X.v, .bool X.h, .slice X.p X.n X.k, .string X.u]) (h2 : tmps.getD 6 undef = .pointer (some ⟨x, 0, none⟩)) (h3 : tmps.getD 7 undef = .int .i64 E) :
    (results Try.f27 tmps).run Try.prog w = .ok (.tuple #[ra X, .int .i64 E]) w := by
  have hl := run_loadVar_mid (P := Try.prog) w x 0 37 _ _ h Try.underlying37 rfl size5
  rw [Array.getD_eq_getD_getElem?] at h2 h3
  simp [results, Try.results27, asAddr, hl, h2, h3]
set_option maxRecDepth 100000 in
set_option maxHeartbeats 2000000 in
theorem find14_any (a : Option Addr) (n cap : Nat) (l : List Sn) (c s : Int) (w : World) (h : SS w a n cap l) :
    Calls Try.prog 27 #[.slice a n cap, .int .i64 c, .int .i64 s] w fun e w' => e = .returned (.tuple #[ra (normS (fndS l c s)), .int .i64 (fndE l c s)]) ∧ Below w.heap.size w w' := by
  obtain ⟨b, hb⟩ : ∃ b, b = chk l := ⟨_, rfl⟩
  have b0 := box_bel14 w (.cells #[.int .i64 0, .string ⟨#[]⟩, .bool false, .slice none 0 0, .string ⟨#[]⟩] 37)
  have HP := Lib.hid (place14_any a n cap l (w.alloc (.cells #[.int .i64 0, .string ⟨#[]⟩, .bool false, .slice none 0 0, .string ⟨#[]⟩] 37)) (h.old b0) b hb.symm)
  obtain ⟨PP, hPP⟩ : ∃ PP, PP = if b = true then plcd l else fun _ => Z0 := ⟨_, rfl⟩
  rw [← hPP] at HP
  have HPP := Lib.hid hPP
  have HSZ := Lib.hid (size8_of PP)
  obtain ⟨bc, hbc⟩ : ∃ q, q = cliB c := ⟨_, rfl⟩
  obtain ⟨bs, hbs⟩ : ∃ q, q = seqB s := ⟨_, rfl⟩
  have HC := Lib.hid (isClient_any c bc hbc.symm)
  have HS := Lib.hid (isSeq_any s bs hbs.symm)
  have HBB := Lib.hid (And.intro hb (And.intro hbc hbs))
  obtain ⟨E, hE⟩ : ∃ E, E = fndE l c s := ⟨_, rfl⟩
  obtain ⟨X, hX⟩ : ∃ X, X = normS (fndS l c s) := ⟨_, rfl⟩
  rw [← hE, ← hX]
  have HEX := Lib.hid (And.intro hE hX)
  have hno : (b && bc && bs) = false → E = 1 ∧ X = Z0 := fun k => by
    have : fndE l c s = 1 := by unfold fndE; rw [← hb, ← hbc, ← hbs, k]; rfl
    rw [hE, hX]
    unfold fndS
    rw [this]; exact ⟨rfl, rfl⟩
  have HNO := Lib.hid hno
  clear hno hE hX hb hbc hbs hPP h
  go_enter Try.func27, Try.ntmps27
  go_wp2_with fail
  have HB0 := Lib.hid b0
  have HTH := Lib.hid (there5 w)
  obtain ⟨rb, hrb⟩ : ∃ rb, rb = w.heap.size := ⟨_, rfl⟩
  have HRB := Lib.hid hrb
  rw [← hrb] at HTH ⊢
  clear hrb b0
  have hw1 : w.heap.size ≤ (w.alloc (.cells #[.int .i64 0, .string ⟨#[]⟩, .bool false, .slice none 0 0, .string ⟨#[]⟩] 37)).heap.size := by simp
  have HLT := Lib.hid (show rb < (w.alloc (.cells #[.int .i64 0, .string ⟨#[]⟩, .bool false, .slice none 0 0, .string ⟨#[]⟩] 37)).heap.size by rw [HRB.out]; simp)
  generalize w.alloc (.cells #[.int .i64 0, .string ⟨#[]⟩, .bool false, .slice none 0 0, .string ⟨#[]⟩] 37) = w1 at *
  refine HP.out.mono ?_
  rintro e w2 ⟨rfl, hb2⟩
  have HB2 := Lib.hid (HB0.out.trans (hb2.mono hw1))
  have HT2 := Lib.hid (there_below HTH.out HLT.out hb2)
  have HL2 := Lib.hid (show rb < w2.heap.size from Nat.lt_of_lt_of_le HLT.out hb2.size)
  clear hb2 HP HB0 HTH HLT hw1
  go_upto_region 2 with (with_reducible refine wpList_store_mid rfl 69 (.tmp 8) (.tmp 14) rfl w2.heap.size 0 (cells8 PP).toArray ?e11 ?e12 ?e13 HSZ.out (cells8_one _) ?_)
  case e11 => rfl
  case e12 => rfl
  case e13 => exact there8 _ _
  rw [zero8]
  have HP3 := Lib.hid ((PL.new w2 (fun _ => Z0) 69).all (q := PP))
  have HT3 := Lib.hid (World.there_setCells (World.there_alloc HT2.out (.cells (cells8 fun _ => Z0).toArray 69)) w2.heap.size 0 (cells8 PP))
  have HB3 := Lib.hid (below_setCells (cells8 PP) 0 _ (HB2.out.alloc HB2.out.size (.cells (cells8 fun _ => Z0).toArray 69)) HB2.out.size)
  have HL3 := Lib.hid (show rb < ((w2.alloc (.cells (cells8 fun _ => Z0).toArray 69)).setCells w2.heap.size 0 (cells8 PP)).heap.size by rw [size_setCells]; have := HL2.out; simp; omega)
  obtain ⟨y, hy⟩ : ∃ y, y = w2.heap.size := ⟨_, rfl⟩
  rw [← hy] at HP3 HT3 HB3 HL3 ⊢
  have hry : ¬ rb = y := by have := HL2.out; omega
  clear hy HB2 HT2 HL2
  generalize (w2.alloc (.cells (cells8 fun _ => Z0).toArray 69)).setCells y 0 (cells8 PP) = w3 at *
  cases b with
  | false =>
    obtain ⟨rfl, rfl⟩ := HNO.out rfl
    clear HNO
    go_wp2_with (with_reducible refine wpList_store_mid rfl 37 (.tmp 6) (.tmp 28) rfl rb 0 #[.int .i64 0, .string ⟨#[]⟩, .bool false, .slice none 0 0, .string ⟨#[]⟩] ?e21 ?e22 ?e23 ?e24 ?e25 ?_)
    case e24 => exact size5
    case e25 => exact one5 Z0
    case e21 => rfl
    case e22 => rfl
    case e23 => exact HT3.out
    refine bodyPost_ret (v := .tuple #[ra Z0, .int .i64 1]) ?_ rfl ⟨rfl, below_setCells _ _ _ HB3.out (by rw [HRB.out]; exact Nat.le_refl _)⟩
    exact find_res _ _ rb Z0 1 (World.rangeAt_setCells_same _ _ _ _ HT3.out) rfl rfl
  | true =>
    cases bc with
    | false =>
      obtain ⟨rfl, rfl⟩ := HNO.out rfl
      clear HNO
      go_wp2_with fail
      refine (HC.out _).mono ?_
      rintro e w' ⟨rfl, rfl⟩
      go_wp2_with (with_reducible refine wpList_store_mid rfl 37 (.tmp 6) (.tmp 28) rfl rb 0 #[.int .i64 0, .string ⟨#[]⟩, .bool false, .slice none 0 0, .string ⟨#[]⟩] ?e31 ?e32 ?e33 ?e34 ?e35 ?_)
      case e34 => exact size5
      case e35 => exact one5 Z0
      case e31 => rfl
      case e32 => rfl
      case e33 => exact HT3.out
      refine bodyPost_ret (v := .tuple #[ra Z0, .int .i64 1]) ?_ rfl ⟨rfl, below_setCells _ _ _ HB3.out (by rw [HRB.out]; exact Nat.le_refl _)⟩
      exact find_res _ _ rb Z0 1 (World.rangeAt_setCells_same _ _ _ _ HT3.out) rfl rfl
    | true =>
      go_wp2_with fail
      refine (HC.out _).mono ?_
      rintro e w' ⟨rfl, rfl⟩
      go_wp2_with fail
      refine (HS.out _).mono ?_
      rintro e w' ⟨rfl, rfl⟩
      cases bs with
      | false =>
        obtain ⟨rfl, rfl⟩ := HNO.out rfl
        clear HNO
        go_wp2_with (with_reducible refine wpList_store_mid rfl 37 (.tmp 6) (.tmp 28) rfl rb 0 #[.int .i64 0, .string ⟨#[]⟩, .bool false, .slice none 0 0, .string ⟨#[]⟩] ?e41 ?e42 ?e43 ?e44 ?e45 ?_)
        case e44 => exact size5
        case e45 => exact one5 Z0
        case e41 => rfl
        case e42 => rfl
        case e43 => exact HT3.out
        refine bodyPost_ret (v := .tuple #[ra Z0, .int .i64 1]) ?_ rfl ⟨rfl, below_setCells _ _ _ HB3.out (by rw [HRB.out]; exact Nat.le_refl _)⟩
        exact find_res _ _ rb Z0 1 (World.rangeAt_setCells_same _ _ _ _ HT3.out) rfl rfl
      | true =>
        clear HNO
        have hPP : PP = plcd l := HPP.out
        have hcc := cliB_iff.1 HBB.out.2.1.symm
        obtain ⟨i, rfl⟩ : ∃ i : Nat, c = (i : Int) := ⟨c.toNat, by omega⟩
        have hi : i < 8 := by omega
        have hii : (i : Int) < 8 := by omega
        obtain ⟨x, hx⟩ : ∃ x, x = PP i := ⟨_, rfl⟩
        have HFN := Lib.hid (fnd_of (x := x) HBB.out.1.symm HBB.out.2.1.symm HBB.out.2.2.symm (by rw [hx, hPP]; simp))
        rw [← HEX.out.1] at HFN
        obtain ⟨c0, c1, c2, c3, c4, c5, c6⟩ := HP3.out.cells hi
        rw [← hx] at c0 c1 c2 c3 c4 c5 c6
        clear hx hPP hcc
        have hy3 : y < w3.heap.size := HP3.out.lt
        by_cases h1 : x.s < s
        · have hE := HFN.out.1 h1
          have hX : X = Z0 := by rw [HEX.out.2]; unfold fndS; rw [← HEX.out.1, hE]; rfl
          subst hE
          subst hX
          go_wp2_with (with_reducible refine wpList_store_mid rfl 37 (.tmp 6) (.tmp 37) rfl rb 0 #[.int .i64 0, .string ⟨#[]⟩, .bool false, .slice none 0 0, .string ⟨#[]⟩] ?e51 ?e52 ?e53 ?e54 ?e55 ?_)
          case e54 => exact size5
          case e55 => exact one5 Z0
          case e51 => rfl
          case e52 => rfl
          case e53 => exact World.there_alloc HT3.out _
          refine bodyPost_ret (v := .tuple #[ra Z0, .int .i64 3]) ?_ rfl ⟨rfl, below_setCells _ _ _ (HB3.out.alloc HB3.out.size _) (by rw [HRB.out]; exact Nat.le_refl _)⟩
          exact find_res _ _ rb Z0 3 (World.rangeAt_setCells_same _ _ _ _ (World.there_alloc HT3.out _)) rfl rfl
        · by_cases h2 : s < x.s
          · have hE := HFN.out.2.1 h2
            have hX : X = Z0 := by rw [HEX.out.2]; unfold fndS; rw [← HEX.out.1, hE]; rfl
            subst hE
            subst hX
            go_wp2_with (with_reducible refine wpList_store_mid rfl 37 (.tmp 6) (.tmp 43) rfl rb 0 #[.int .i64 0, .string ⟨#[]⟩, .bool false, .slice none 0 0, .string ⟨#[]⟩] ?e61 ?e62 ?e63 ?e64 ?e65 ?_)
            case e64 => exact size5
            case e65 => exact one5 Z0
            case e61 => rfl
            case e62 => rfl
            case e63 => exact World.there_alloc HT3.out _
            refine bodyPost_ret (v := .tuple #[ra Z0, .int .i64 140]) ?_ rfl ⟨rfl, below_setCells _ _ _ (HB3.out.alloc HB3.out.size _) (by rw [HRB.out]; exact Nat.le_refl _)⟩
            exact find_res _ _ rb Z0 140 (World.rangeAt_setCells_same _ _ _ _ (World.there_alloc HT3.out _)) rfl rfl
          · obtain ⟨hE, hX⟩ := HFN.out.2.2 h1 h2
            rw [← HEX.out.2] at hX
            subst hE
            subst hX
            go_wp2_with (with_reducible refine wpList_store_mid rfl 37 (.tmp 6) (.tmp 45) rfl rb 0 #[.int .i64 X.e, .string X.v, .bool X.h, .slice X.p X.n X.k, .string X.u] ?e71 ?e72 ?e73 ?e74 ?e75 ?_)
            case e74 => exact size5
            case e75 => exact one5 X
            case e71 => rfl
            case e72 => rfl
            case e73 => exact World.there_alloc HT3.out _
            refine bodyPost_ret (v := .tuple #[ra X, .int .i64 0]) ?_ rfl ⟨rfl, below_setCells _ _ _ (HB3.out.alloc HB3.out.size _) (by rw [HRB.out]; exact Nat.le_refl _)⟩
            exact find_res _ _ rb X 0 (World.rangeAt_setCells_same _ _ _ _ (World.there_alloc HT3.out _)) rfl rfl
end Go.Proofs.Ytemaonfgledcmaa
