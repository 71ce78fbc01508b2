/-
  Layer 16 (post): contracts of numbers and texts, over any way. Conditions: as each says.
-/
import Derived.Test.YtdnhmkfgcpdbkaaTc
namespace Go.Proofs.Ytdnhmkfgcpdbkaa
open Go.RowKit
set_option linter.unusedVariables false
set_option linter.unusedSimpArgs false

theorem setCells_snoc (p : Nat) : ∀ (l : List Value) (o : Nat) (w : World) (v : Value), (w.setCells p o l).setCell ⟨p, o + l.length, none⟩ v = w.setCells p o (l ++ [v])
  | [], _, _, _ => rfl
  | u :: r, o, w, v => by
    have := setCells_snoc p r (o + 1) (w.setCell ⟨p, o, none⟩ u) v
    rw [show o + 1 + r.length = o + (u :: r).length by simp; omega] at this
    exact this
theorem Loc.sets {G : Prop} {b B x : Nat} (p : Nat) : ∀ (l : List Value) (o : Nat) (w : World), Loc G b B w x → Loc G b B (w.setCells p o l) x
  | [], _, _, h => h
  | u :: r, o, w, h => Loc.sets p r (o + 1) _ (h.set ⟨p, o, none⟩ u)
theorem sets_size (p : Nat) : ∀ (l : List Value) (o : Nat) (w : World), (w.setCells p o l).heap.size = w.heap.size
  | [], _, _ => rfl
  | u :: r, o, w => by
    show ((w.setCell ⟨p, o, none⟩ u).setCells p (o + 1) r).heap.size = _
    rw [sets_size p r]
    simp
def stepsW {σ α : Type} (f : σ → α → σ × α) : σ → List α → σ × List α
  | s, [] => (s, [])
  | s, x :: r => ((stepsW f (f s x).1 r).1, (f s x).2 :: (stepsW f (f s x).1 r).2)
theorem stepsW_ok {σ α : Type} {f : σ → α → σ × α} {ok : σ → Prop} (hf : ∀ s x, ok (f s x).1 → ok s) : ∀ (l : List α) (s : σ), ok (stepsW f s l).1 → ok s
  | [], _, h => h
  | x :: r, s, h => hf s x (stepsW_ok hf r _ h)
theorem stepsW_len {σ α : Type} (f : σ → α → σ × α) : ∀ (l : List α) (s : σ), (stepsW f s l).2.length = l.length
  | [], _ => rfl
  | x :: r, s => by show _ + 1 = _ + 1; rw [stepsW_len f r]
section
variable {σ : Type} {W : Way σ} {D b B : Nat} {G : Prop} {At : World → σ → Prop}
abbrev maxN : Int := 1099511627775
def numsW (W : Way σ) (s : σ) (l : List Int) : σ × List Int := stepsW (fun s x => W.num s 0 maxN x) s l
def txtsW (W : Way σ) (s : σ) (l : List ByteArray) : σ × List ByteArray := stepsW W.txt s l
set_option maxRecDepth 100000 in
theorem tnums_any (H : WayAt W D b B G At) (w : World) (s : σ) (va n cap p o : Nat) (l : List Int) (h : At w s) (hp : Loc G b B w p) (hv : Loc G b B w va) (hvp : va ≠ p) (hn : l.length = n) (hm : n ≤ 1000)
    (hc : ∀ i (h : i < l.length), w.cell? ⟨p, o + i, none⟩ = some (.int .i64 l[i])) (hs : ∀ i, i < n → w.cell? ⟨va, i, none⟩ = some (.pointer (some ⟨p, o + i, none⟩))) (hok : W.ok (numsW W s l).1) :
    Calls Try.prog 30 #[.iface D (.pointer (some ⟨b, 0, none⟩)), .slice (some ⟨va, 0, none⟩) n cap] w fun e w' => e = .returned (.tuple #[]) ∧ At w' (numsW W s l).1 ∧ KB b B (w.setCells p o ((numsW W s l).2.map fun z => .int .i64 z)) w' := by
  obtain ⟨f, r, hm0, hcf, hN⟩ := H.num
  have hmt : ∀ w, (method 274 D (.pointer (some ⟨b, 0, none⟩)) "sorrel/post.number").run Try.prog w = .ok (f, r) w := hm0 273
  clear hm0
  have HN := Lib.hid hN
  have HP := Lib.hid hp
  have HV := Lib.hid hv
  have HC := Lib.hid hc
  have HS := Lib.hid hs
  have HL := Lib.hid hn
  have HA := Lib.hid h
  have HO := Lib.hid hok
  clear hN hp hv hc hs h hn hok
  go_enter Try.func30, Try.ntmps30
  go_wp2_with fail
  go_loopw [5, 8] (fun _ i wr => ∃ (k : Nat) (s' : σ) (d : List Int), i = .int .i64 k ∧ k ≤ n ∧ Hid (d.length = k) ∧ Hid (numsW W s l = ((numsW W s' (l.drop k)).1, d ++ (numsW W s' (l.drop k)).2)) ∧ Hid (At wr s') ∧ Hid (KB b B (w.setCells p o (d.map fun z => .int .i64 z)) wr)) (fun _ i _ => n - (intOf i).toNat)
  case atStart => exact ⟨0, s, [], by first | rfl | go_num, by omega, Lib.hid rfl, Lib.hid rfl, HA, Lib.hid (KB.refl _ _ _)⟩
  case round =>
    obtain ⟨k, s', d, rfl, hk, HD, HR, HT, HK⟩ := hrel
    by_cases hlt : k < n
    · have hki : (k : Int) < (n : Int) := by omega
      have hkl : k < l.length := by rw [HL.out]; exact hlt
      obtain ⟨x, hx⟩ : ∃ x, x = l[k] := ⟨_, rfl⟩
      have hpl := ((HP.out.sets p (d.map fun z => .int .i64 z) o).keep HK.out)
      have hcx : wr.cell? ⟨p, o + k, none⟩ = some (.int .i64 x) := by
        rw [(HP.out.sets p (d.map fun z => .int .i64 z) o).cell HK.out, World.cell?_setCells_out _ _ _ _ _ (fun _ _ => .inr (by simp [HD.out])), HC.out k hkl, hx]
      have hcs : wr.cell? ⟨va, k, none⟩ = some (.pointer (some ⟨p, o + k, none⟩)) := by
        rw [(HV.out.sets p (d.map fun z => .int .i64 z) o).cell HK.out, World.cell?_setCells_out _ _ _ _ _ (fun e _ => absurd e hvp), HS.out k hlt]
      have hdr : l.drop k = x :: l.drop (k + 1) := by rw [hx]; exact List.drop_eq_getElem_cons hkl
      have HR' := HR.out
      rw [hdr] at HR'
      obtain ⟨s2, x2, ht⟩ : ∃ s2 x2, W.num s' 0 maxN x = (s2, x2) := ⟨_, _, rfl⟩
      have e1 : numsW W s' (x :: l.drop (k + 1)) = ((numsW W s2 (l.drop (k + 1))).1, x2 :: (numsW W s2 (l.drop (k + 1))).2) := by
        show ((stepsW _ (W.num s' 0 maxN x).1 _).1, (W.num s' 0 maxN x).2 :: (stepsW _ (W.num s' 0 maxN x).1 _).2) = _
        rw [ht]; rfl
      rw [e1] at HR'
      have hok2 : W.ok s2 := by
        refine stepsW_ok (f := fun s x => W.num s 0 maxN x) (fun s x hh => W.mono s 0 maxN x hh) (l.drop (k + 1)) s2 ?_
        have := HO.out
        rw [HR'] at this
        exact this
      have HC2 := Lib.hid (HN.out wr s' p (o + k) 0 maxN x HT.out hpl hcx (by rw [ht]; exact hok2))
      rw [ht] at HC2
      have HR2 : Hid (numsW W s l = ((numsW W s2 (l.drop (k + 1))).1, (d ++ [x2]) ++ (numsW W s2 (l.drop (k + 1))).2)) := Lib.hid (by rw [HR']; simp)
      have HD2 : Hid ((d ++ [x2]).length = k + 1) := Lib.hid (by rw [List.length_append, HD.out]; rfl)
      have HE : Hid ((w.setCells p o (d.map fun z => .int .i64 z)).setCell ⟨p, o + k, none⟩ (.int .i64 x2) = w.setCells p o ((d ++ [x2]).map fun z => .int .i64 z)) := Lib.hid (by
        have := setCells_snoc p (d.map fun z => .int .i64 z) o w (.int .i64 x2)
        rw [List.length_map, HD.out] at this
        rw [this, List.map_append]; rfl)
      have hva := ((HV.out.sets p (d.map fun z => .int .i64 z) o).keep HK.out).2.1
      clear hx hdr HR' e1 ht hok2 hkl HR hpl hcx
      go_wp2_with fail
      refine HC2.out.mono ?_
      rintro e w2 ⟨rfl, h1, h2⟩
      have HT2 := Lib.hid h1
      have HK2 : Hid (KB b B (w.setCells p o ((d ++ [x2]).map fun z => .int .i64 z)) w2) := Lib.hid (by rw [← HE.out]; exact (HK.out.set _ _ HP.out.1).trans h2)
      clear h1 h2 HC2 HE hcs hva
      go_wp2_with fail
      go_roundw
      case rel => exact ⟨k + 1, s2, d ++ [x2], by go_num, by omega, HD2, HR2, HT2, HK2⟩
      case measure => simp [intOf]; omega
    · obtain rfl : k = n := by omega
      have hki : ¬ (k : Int) < (k : Int) := by omega
      have HE : Hid (numsW W s l = (s', d)) := Lib.hid (by
        rw [HR.out, ← HL.out, List.drop_length]
        show (s', d ++ []) = _
        rw [List.append_nil])
      clear hlt hk
      go_wp2_with fail
      go_end0
      exact ⟨rfl, by rw [HE.out]; exact HT.out, by rw [HE.out]; exact HK.out⟩
set_option maxRecDepth 100000 in
theorem ttxts_any (H : WayAt W D b B G At) (w : World) (s : σ) (va n cap p o : Nat) (l : List ByteArray) (h : At w s) (hp : Loc G b B w p) (hv : Loc G b B w va) (hvp : va ≠ p) (hn : l.length = n) (hm : n ≤ 1000)
    (hc : ∀ i (h : i < l.length), w.cell? ⟨p, o + i, none⟩ = some (.string l[i])) (hs : ∀ i, i < n → w.cell? ⟨va, i, none⟩ = some (.pointer (some ⟨p, o + i, none⟩))) (hok : W.ok (txtsW W s l).1) :
    Calls Try.prog 36 #[.iface D (.pointer (some ⟨b, 0, none⟩)), .slice (some ⟨va, 0, none⟩) n cap] w fun e w' => e = .returned (.tuple #[]) ∧ At w' (txtsW W s l).1 ∧ KB b B (w.setCells p o ((txtsW W s l).2.map fun z => .string z)) w' := by
  obtain ⟨f, r, hm0, hcf, hN⟩ := H.txt
  have hmt : ∀ w, (method 274 D (.pointer (some ⟨b, 0, none⟩)) "sorrel/post.text").run Try.prog w = .ok (f, r) w := hm0 273
  clear hm0
  have HN := Lib.hid hN
  have HP := Lib.hid hp
  have HV := Lib.hid hv
  have HC := Lib.hid hc
  have HS := Lib.hid hs
  have HL := Lib.hid hn
  have HA := Lib.hid h
  have HO := Lib.hid hok
  clear hN hp hv hc hs h hn hok
  go_enter Try.func36, Try.ntmps36
  go_wp2_with fail
  go_loopw [5, 8] (fun _ i wr => ∃ (k : Nat) (s' : σ) (d : List ByteArray), i = .int .i64 k ∧ k ≤ n ∧ Hid (d.length = k) ∧ Hid (txtsW W s l = ((txtsW W s' (l.drop k)).1, d ++ (txtsW W s' (l.drop k)).2)) ∧ Hid (At wr s') ∧ Hid (KB b B (w.setCells p o (d.map fun z => .string z)) wr)) (fun _ i _ => n - (intOf i).toNat)
  case atStart => exact ⟨0, s, [], by first | rfl | go_num, by omega, Lib.hid rfl, Lib.hid rfl, HA, Lib.hid (KB.refl _ _ _)⟩
  case round =>
    obtain ⟨k, s', d, rfl, hk, HD, HR, HT, HK⟩ := hrel
    by_cases hlt : k < n
    · have hki : (k : Int) < (n : Int) := by omega
      have hkl : k < l.length := by rw [HL.out]; exact hlt
      obtain ⟨x, hx⟩ : ∃ x, x = l[k] := ⟨_, rfl⟩
      have hpl := ((HP.out.sets p (d.map fun z => .string z) o).keep HK.out)
      have hcx : wr.cell? ⟨p, o + k, none⟩ = some (.string x) := by
        rw [(HP.out.sets p (d.map fun z => .string z) o).cell HK.out, World.cell?_setCells_out _ _ _ _ _ (fun _ _ => .inr (by simp [HD.out])), HC.out k hkl, hx]
      have hcs : wr.cell? ⟨va, k, none⟩ = some (.pointer (some ⟨p, o + k, none⟩)) := by
        rw [(HV.out.sets p (d.map fun z => .string z) o).cell HK.out, World.cell?_setCells_out _ _ _ _ _ (fun e _ => absurd e hvp), HS.out k hlt]
      have hdr : l.drop k = x :: l.drop (k + 1) := by rw [hx]; exact List.drop_eq_getElem_cons hkl
      have HR' := HR.out
      rw [hdr] at HR'
      obtain ⟨s2, x2, ht⟩ : ∃ s2 x2, W.txt s' x = (s2, x2) := ⟨_, _, rfl⟩
      have e1 : txtsW W s' (x :: l.drop (k + 1)) = ((txtsW W s2 (l.drop (k + 1))).1, x2 :: (txtsW W s2 (l.drop (k + 1))).2) := by
        show ((stepsW _ (W.txt s' x).1 _).1, (W.txt s' x).2 :: (stepsW _ (W.txt s' x).1 _).2) = _
        rw [ht]; rfl
      rw [e1] at HR'
      have hok2 : W.ok s2 := by
        refine stepsW_ok (f := W.txt) (fun s x hh => W.monot s x hh) (l.drop (k + 1)) s2 ?_
        have := HO.out
        rw [HR'] at this
        exact this
      have HC2 := Lib.hid (HN.out wr s' p (o + k) x HT.out hpl hcx (by rw [ht]; exact hok2))
      rw [ht] at HC2
      have HR2 : Hid (txtsW W s l = ((txtsW W s2 (l.drop (k + 1))).1, (d ++ [x2]) ++ (txtsW W s2 (l.drop (k + 1))).2)) := Lib.hid (by rw [HR']; simp)
      have HD2 : Hid ((d ++ [x2]).length = k + 1) := Lib.hid (by rw [List.length_append, HD.out]; rfl)
      have HE : Hid ((w.setCells p o (d.map fun z => .string z)).setCell ⟨p, o + k, none⟩ (.string x2) = w.setCells p o ((d ++ [x2]).map fun z => .string z)) := Lib.hid (by
        have := setCells_snoc p (d.map fun z => .string z) o w (.string x2)
        rw [List.length_map, HD.out] at this
        rw [this, List.map_append]; rfl)
      have hva := ((HV.out.sets p (d.map fun z => .string z) o).keep HK.out).2.1
      clear hx hdr HR' e1 ht hok2 hkl HR hpl hcx
      go_wp2_with fail
      refine HC2.out.mono ?_
      rintro e w2 ⟨rfl, h1, h2⟩
      have HT2 := Lib.hid h1
      have HK2 : Hid (KB b B (w.setCells p o ((d ++ [x2]).map fun z => .string z)) w2) := Lib.hid (by rw [← HE.out]; exact (HK.out.set _ _ HP.out.1).trans h2)
      clear h1 h2 HC2 HE hcs hva
      go_wp2_with fail
      go_roundw
      case rel => exact ⟨k + 1, s2, d ++ [x2], by go_num, by omega, HD2, HR2, HT2, HK2⟩
      case measure => simp [intOf]; omega
    · obtain rfl : k = n := by omega
      have hki : ¬ (k : Int) < (k : Int) := by omega
      have HE : Hid (txtsW W s l = (s', d)) := Lib.hid (by
        rw [HR.out, ← HL.out, List.drop_length]
        show (s', d ++ []) = _
        rw [List.append_nil])
      clear hlt hk
      go_wp2_with fail
      go_end0
      exact ⟨rfl, by rw [HE.out]; exact HT.out, by rw [HE.out]; exact HK.out⟩
end
end Go.Proofs.Ytdnhmkfgcpdbkaa
