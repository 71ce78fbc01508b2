/-
  Layer 6 (wal): the walk of the law WalPlays. Conditions: calls within the form's reach.
-/
import Derived.Test.YtkfmjkcomjmedaaGreatQE
import Derived.Test.YtkfmjkcomjmedaaGreatQF
import Derived.Deep.CutBlock
namespace Go.Proofs.YtkfmjkcomjmedaaGreat
open Go.RowKit
set_option linter.unusedVariables false
set_option linter.unusedSimpArgs false

structure Opw where
  kind : Int
  num : Int
  text : ByteArray
  ka : Option Addr
  ks : List Int
  kc : Nat
def RdW (w : World) (a : Option Addr) (es : List Opw) : Prop :=
  es = [] ∨ ∃ b off, a = some ⟨b, off, none⟩ ∧ b < w.heap.size ∧ ∀ i (h : i < es.length), w.cell? ⟨b, off + i * 4, none⟩ = some (.int .i64 es[i].kind) ∧ w.cell? ⟨b, off + i * 4 + 1, none⟩ = some (.int .i64 es[i].num) ∧ w.cell? ⟨b, off + i * 4 + 2, none⟩ = some (.string es[i].text) ∧ w.cell? ⟨b, off + i * 4 + 3, none⟩ = some (.slice es[i].ka es[i].ks.length es[i].kc)
def okW (w : World) (es : List Opw) : Prop := ∀ x ∈ es, (-9223372036854775808 ≤ x.num ∧ x.num ≤ 9223372036854775807) ∧ x.text.size ≤ maxLen ∧ x.ks.length ≤ 140737488355328 ∧ Kp (fun b => b < w.heap.size) w x.ka x.ks ∧ ∀ b off, x.ka = some ⟨b, off, none⟩ → x.ks = [] ∨ b < w.heap.size
theorem rdw_at {w wr : World} {a : Option Addr} {es : List Opw} (h : RdW w a es) (hb : Below w.heap.size w wr) {k : Nat} (hk : k < es.length) : ∃ b off, a = some ⟨b, off, none⟩ ∧ b < w.heap.size ∧ b < wr.heap.size ∧ wr.cell? ⟨b, off + k * 4, none⟩ = some (.int .i64 es[k].kind) ∧ wr.cell? ⟨b, off + k * 4 + 1, none⟩ = some (.int .i64 es[k].num) ∧ wr.cell? ⟨b, off + k * 4 + 2, none⟩ = some (.string es[k].text) ∧ wr.cell? ⟨b, off + k * 4 + 3, none⟩ = some (.slice es[k].ka es[k].ks.length es[k].kc) := by
  rcases h with rfl | ⟨b, off, rfl, hlt, hc⟩
  · cases hk
  · have h := hc k hk
    exact ⟨b, off, rfl, hlt, Nat.lt_of_lt_of_le hlt hb.size, (hb.cell (p := ⟨b, off + k * 4, none⟩) hlt).trans h.1, (hb.cell (p := ⟨b, off + k * 4 + 1, none⟩) hlt).trans h.2.1, (hb.cell (p := ⟨b, off + k * 4 + 2, none⟩) hlt).trans h.2.2.1, (hb.cell (p := ⟨b, off + k * 4 + 3, none⟩) hlt).trans h.2.2.2⟩
theorem noStr_side (w : World) (d : Option Addr) (qa : Option Addr) (qn qc : Nat) (f : Int) (o : Bool) (a1 a2 : Option Addr) (n1 c1 n2 c2 : Nat) (x : Int) (t : TypeId) : NoStr (w.alloc (.cells #[.pointer d, .pointer none, .slice qa qn qc, .int .i64 f, .bool o, .slice a1 n1 c1, .slice a2 n2 c2, .int .i64 x] t)) w.heap.size := by
  intro o s e
  match o with
  | 0 => simp at e
  | 1 => simp at e
  | 2 => simp at e
  | 3 => simp at e
  | 4 => simp at e
  | 5 => simp at e
  | 6 => simp at e
  | 7 => simp at e
  | o + 8 =>
    unfold World.cell? at e
    simp only [heap_alloc_new] at e
    simp at e
theorem bt2 {a b c : World} (h : Below a.heap.size a b) (k : Below b.heap.size b c) : Below a.heap.size a c := h.trans (k.mono h.size)
theorem keep3 {a b : World} {G : Nat} {x y z : Value} (h : a.cell? ⟨G, 1, none⟩ = some x ∧ a.cell? ⟨G, 5, none⟩ = some y ∧ a.cell? ⟨G, 7, none⟩ = some z) (hb : Below a.heap.size a b) : b.cell? ⟨G, 1, none⟩ = some x ∧ b.cell? ⟨G, 5, none⟩ = some y ∧ b.cell? ⟨G, 7, none⟩ = some z :=
  ⟨(hb.cell (p := ⟨G, 1, none⟩) (cell_lt h.1)).trans h.1, (hb.cell (p := ⟨G, 5, none⟩) (show G < a.heap.size from cell_lt h.1)).trans h.2.1, (hb.cell (p := ⟨G, 7, none⟩) (show G < a.heap.size from cell_lt h.1)).trans h.2.2⟩
theorem start_pl {w w1 w2 : World} {d : Nat} (hd : DiskAt (fun b => b < w.heap.size) w1 d ⟨[], -1, false⟩) (b1 : Below w.heap.size w w1) (qa : Option Addr) (qc : Nat) (hq : RefD w2 (.agg #[.slice qa 0 qc, .int .i64 (-1), .bool false]) ⟨[], -1, false⟩) (b2 : Below w1.heap.size w1 w2) (t : TypeId) :
    PlB (fun b => b < w.heap.size) w2.heap.size d 0 1048576 0 (.pointer none) (w2.alloc (.cells #[.pointer (some ⟨d, 0, none⟩), .pointer none, .slice qa 0 qc, .int .i64 (-1), .bool false, .slice none 0 0, .slice none 0 0, .int .i64 0] t)) := by
  have b3 : Below w2.heap.size w2 (w2.alloc (.cells #[.pointer (some ⟨d, 0, none⟩), .pointer none, .slice qa 0 qc, .int .i64 (-1), .bool false, .slice none 0 0, .slice none 0 0, .int .i64 0] t)) := (Below.refl _ _).alloc (Nat.le_refl _) _
  have b13 := b2.trans (b3.mono b2.size)
  have hs := b1.size
  have hs2 := b2.size
  refine ⟨_, ⟨[], -1, false⟩, _, ⟨⟨qa, qc, none, 0, 0, none, 0, 0, 0, ⟨by simp, by simp, by simp, by simp, by simp, by simp, by simp, by simp, ?_, by exact noStr_side _ _ _ _ _ _ _ _ _ _ _ _ _ _ _⟩, hq.old b3, rfl⟩, ?_, tf_below (own := fun b => b < w.heap.size ∨ TF w1 b) (fun b hb => .inr hb) b13, ⟨_, EqD.refl _, hd.typed.fresh b13⟩⟩, ⟨by simp [Srt], by simp, by simp, by simp, by simp⟩, .inl rfl, fun b hb => ⟨.inl (.inl hb), by omega⟩⟩
  · intro i hi
    simp [go_sem]
  · exact .inr ⟨hs2, by simp⟩
/-- What holds at each round. -/
def PlI (w : World) (G d n : Nat) (i : Value) (wr : World) : Prop := ∃ (k : Nat) (p : Value), i = .int .i64 k ∧ k ≤ n ∧ k ≤ 60 ∧ PlB (fun b => b < w.heap.size) G d (600 * k) (1048577 + 3 * k) k p wr ∧ Below w.heap.size w wr
set_option maxRecDepth 100000 in
set_option maxHeartbeats 8000000 in
theorem walk_WalPlays (a : Option Addr) (cap : Nat) (os : List Opw) (w : World) (hr : RdW w a os) (hok : okW w os) (hm : os.length ≤ maxLen) (hc : os.length ≤ cap) :
    Calls Tryz.prog 3 #[.slice a os.length cap] w fun e w' => e = .returned (.bool true) ∧ Below w.heap.size w w' := by
  have HR := Lib.hid hr
  have HK := Lib.hid hok
  obtain ⟨n, hn⟩ : ∃ n, n = os.length := ⟨_, rfl⟩
  rw [← hn] at hc hm ⊢
  have HN := Lib.hid hn
  unfold maxLen at hm
  clear hr hn hok
  go_enter Tryz.func3, Tryz.ntmps3
  go_wp2_with fail
  refine (new_any _).mono ?_
  rintro e w1 ⟨rfl, d1, b1⟩
  have D1 := Lib.hid d1
  have B1 := Lib.hid b1
  clear d1 b1
  go_wp2_with fail
  refine (new_ref _).mono ?_
  rintro e w2 ⟨q2, rfl, r2, b2⟩
  have R2 := Lib.hid r2
  have B2 := Lib.hid b2
  obtain ⟨qa, qc, rfl, -⟩ := r2
  clear b2
  go_upto_region 2 with fail
  generalize hW3 : World.alloc w2 _ = W3
  have hst : PlB (fun b => b < w.heap.size) w2.heap.size (w.heap.size + 1) 0 1048576 0 (.pointer none) W3 := hW3 ▸ start_pl D1.out B1.out qa qc R2.out B2.out _
  have hg0 : W3.cell? ⟨w2.heap.size, 0, none⟩ = some (.pointer (some ⟨w.heap.size + 1, 0, none⟩)) := by rw [← hW3]; simp
  have b3 : Below w2.heap.size w2 W3 := by rw [← hW3]; exact (Below.refl _ _).alloc (Nat.le_refl _) _
  have hG : w.heap.size ≤ w2.heap.size := Nat.le_trans B1.out.size B2.out.size
  have B3 : Hid (Below w.heap.size w W3) := Lib.hid ((B1.out.trans (B2.out.mono B1.out.size)).trans (b3.mono hG))
  have ho := hst.opens (by omega) (by omega) (Nat.le_refl _) none 0 [] (Kp.nil _ _ _) (by simp) (by simp) 0
  simp only [List.length_nil] at ho
  have HO := Lib.hid ho
  generalize w2.heap.size = G at *
  generalize w.heap.size + 1 = d at *
  clear hst b3 ho hW3 D1 R2 B1 B2
  have HG := Lib.hid hG
  clear hG
  go_wp2_with (go_at_call 6; (with_reducible refine HO.out.mono ?_); rintro e w4 ⟨rfl, ⟨p4, hp4⟩, k4⟩)
  have hst : PlI w G d n (.int .i64 (0 : Nat)) w4 := ⟨0, p4, rfl, Nat.zero_le _, Nat.zero_le _, hp4, B3.out.trans (k4.below (fun b hb => hb))⟩
  have HST := Lib.hid hst
  clear hst hp4 k4 hg0 HO
  go_loopw [4, 5, 6, 7, 8] (fun i _ _ _ _ wr => PlI w G d n i wr) (fun i _ _ _ _ _ => n - (intOf i).toNat)
  case atStart => exact HST.out
  case round =>
    obtain ⟨k, p, rfl, hkn, hk2, hp, bw⟩ := hrel
    have HP := Lib.hid hp
    have BW := Lib.hid bw
    clear hp bw
    by_cases hlt : k < n ∧ k < 60
    · obtain ⟨hlt, hlt2⟩ := hlt
      have hkl : k < os.length := by rw [← HN.out]; exact hlt
      obtain ⟨b, off, rfl, hb0, hbl, c0, c1, c2, c3⟩ := rdw_at HR.out BW.out hkl
      obtain ⟨x, hx⟩ : ∃ x, x = os[k] := ⟨_, rfl⟩
      rw [← hx] at c0 c1 c2 c3
      have hxo := HK.out x (by rw [hx]; exact List.getElem_mem _)
      obtain ⟨kd, num, tx, ka, ks, kc⟩ := x
      simp only at c0 c1 c2 c3 hxo
      have HX := Lib.hid hxo
      have htx := hxo.2.1
      unfold maxLen at htx
      obtain ⟨kn, hkn2⟩ : ∃ kn, kn = ks.length := ⟨_, rfl⟩
      rw [← hkn2] at c3
      have HKN := Lib.hid hkn2
      clear hx hxo hkn2
      by_cases hsz : tx.size ≤ 512 ∨ (131072 < tx.size ∧ tx.size ≤ 262144)
      · go_upto_region 8 with fail
        generalize hW6 : World.alloc wr _ = W6
        have b6 : Below wr.heap.size wr W6 := by rw [← hW6]; exact (Below.refl _ _).alloc (Nat.le_refl _) _
        have d0 : W6.cell? ⟨wr.heap.size, 0, none⟩ = some (.int .i64 kd) := by rw [← hW6]; simp
        have d1 : W6.cell? ⟨wr.heap.size, 1, none⟩ = some (.int .i64 num) := by rw [← hW6]; simp
        have d2 : W6.cell? ⟨wr.heap.size, 2, none⟩ = some (.string tx) := by rw [← hW6]; simp
        have d3 : W6.cell? ⟨wr.heap.size, 3, none⟩ = some (.slice ka kn kc) := by rw [← hW6]; simp
        have P6 := Lib.hid (HP.out.fresh b6)
        have B6 : Hid (Below w.heap.size w W6) := Lib.hid (BW.out.trans (b6.mono BW.out.size))
        have hh6 : wr.heap.size < W6.heap.size := by rw [← hW6]; simp
        obtain ⟨Q, hQ⟩ : ∃ Q : Nat → Prop, (fun b => b < w.heap.size ∨ (wr.heap.size ≤ b ∧ b < W6.heap.size)) = Q := ⟨_, rfl⟩
        rw [hQ] at P6
        have hQ1 : ∀ b, b < w.heap.size → Q b := by rw [← hQ]; exact fun b hb => .inl hb
        have hQ2 : Q wr.heap.size := by rw [← hQ]; exact .inr ⟨Nat.le_refl _, hh6⟩
        have KP6 : Hid (Kp Q W6 ka ks) := Lib.hid (by
          have h := HX.out.2.2.2.1.keeps (Keeps.of_below B6.out (fun b hb => hb))
          exact ⟨h.1, h.2.imp id (fun ⟨b, off, e1, e2, e3⟩ => ⟨b, off, e1, hQ1 b e2, e3⟩)⟩)
        have KG : Hid (∀ b off, ka = some ⟨b, off, none⟩ → ks = [] ∨ b ≠ G) := Lib.hid (fun b off e => (HX.out.2.2.2.2 b off e).imp id (fun h1 => by have h2 := HG.out; omega))
        have hg1 := P6.out.cell
        have hgl := P6.out.g_lt
        have SZ : Hid (tx.size ≤ 512 ∨ 131072 < tx.size) := Lib.hid (hsz.imp id (·.1))
        generalize wr.heap.size = h6 at *
        have HQ1 := Lib.hid hQ1
        have HQ2 := Lib.hid hQ2
        clear hW6 b6 hQ c0 c1 c2 c3 HP hQ1 hQ2
        have HQD := Lib.hid (And.intro d0 (And.intro d1 (And.intro d2 d3)))
        go_cut [52] (fun s52 wx => wx = W6 ∧ s52 = .bool false)
        case first =>
          go_wp2_with fail
          all_goals
            go_meet
            first
              | exact ⟨rfl, rfl⟩
              | exact ⟨rfl, by simp; omega⟩
        case rest =>
          obtain ⟨rfl, rfl⟩ := hcut
          go_upto_region 10 with fail
          go_cut [6] (fun s6 wx => wx = wc ∧ ∃ ov, s6 = .bool ov ∧ (ov = false → (1 ≤ kd ∧ kd ≤ 5) ∧ ∃ l, p = .pointer (some ⟨l, 0, none⟩)))
          case first =>
            rcases P6.out.shape with hps | ⟨l, hps⟩
            all_goals
              subst hps
              go_wp2_with fail
            all_goals
              go_meet
              refine ⟨rfl, _, rfl, fun h => ?_⟩
              first
                | (cases h; done)
                | exact ⟨by omega, _, rfl⟩
                | (simp at h; done)
                | (simp at h; exact ⟨by omega, _, rfl⟩)
          case rest =>
            obtain ⟨hwc, ov, rfl, hov⟩ := hcut
            subst hwc
            obtain ⟨W7, hW7⟩ : ∃ W7, W7 = wc := ⟨_, rfl⟩
            subst hW7
            go_upto_if 70 with fail
            go_cut [6, 7, 8] (fun s6 s7 s8 wx => ∃ bv p', s6 = .bool bv ∧ PlB Q G d (600 * k + 600) (1048577 + 3 * k + 1) (k + 1) p' wx ∧ Keeps Q W7 wx)
            case first =>
              cases ov with
              | true =>
                go_wp2_with fail
                go_meet
                exact ⟨true, _, rfl, P6.out.mono (by omega) (by omega) (by omega), Keeps.refl _ _⟩
              | false =>
                obtain ⟨hkd, l, rfl⟩ := hov rfl
                have HD := Lib.hid (P6.out.does (by omega) (by omega) (by omega) kd num hkd HX.out.1 tx SZ.out (by omega) ka kn kc)
                go_wp2_with (go_at_call 8; (with_reducible refine HD.out.mono ?_); rintro e w8 ⟨r, rfl, hp8, k8⟩)
                go_meet
                exact ⟨r, _, rfl, hp8, k8⟩
            case rest =>
              obtain ⟨bv, p8, rfl, hp8, k8⟩ := hcut
              obtain ⟨W8, hW8⟩ : ∃ W8, W8 = wc := ⟨_, rfl⟩
              subst hW8
              have HP8 := Lib.hid hp8
              have HK8 := Lib.hid k8
              have HKP8 := Lib.hid (KP6.out.keeps k8)
              have e1 := (k8.cell h6 1 HQ2.out).trans HQD.out.2.1
              have e3 := (k8.cell h6 3 HQ2.out).trans HQD.out.2.2.2
              clear hp8 k8 d0 d1 d2 d3 hg1 hgl
              go_upto_if 80 with fail
              go_cut [7] (fun s7 wx => ∃ p', PlB Q G d (600 * k + 600) (1048577 + 3 * k + 3) (k + 1) p' wx ∧ Keeps Q W8 wx)
              case first =>
                cases bv with
                | false =>
                  go_wp2_with fail
                  go_meet
                  exact ⟨_, HP8.out.mono (by omega) (by omega) (by omega), Keeps.refl _ _⟩
                | true =>
                  have ho := HP8.out.opens (by omega) (by omega) (by omega) ka kc ks HKP8.out HX.out.2.2.1 KG.out num
                  rw [← HKN.out] at ho
                  have HO := Lib.hid ho
                  clear ho
                  go_wp2_with (go_at_call 6; (with_reducible refine HO.out.mono ?_))
                  rintro e w9 ⟨rfl, ⟨p9, hp9⟩, k9⟩
                  have g9 := hp9.cell
                  have f3 := (k9.cell h6 3 HQ2.out).trans e3
                  have ho := hp9.opens (by omega) (by omega) (by omega) ka kc ks (HKP8.out.keeps k9) HX.out.2.2.1 KG.out 0
                  rw [← HKN.out] at ho
                  have HO9 := Lib.hid ho
                  have HP9 := Lib.hid hp9
                  have HK9 := Lib.hid k9
                  clear ho k9 e1 e3
                  rcases hp9.shape with rfl | ⟨l9, rfl⟩
                  · clear hp9
                    go_wp2_with (go_at_call 6; (with_reducible refine HO9.out.mono ?_); rintro e w10 ⟨rfl, ⟨p10, hp10⟩, k10⟩)
                    go_meet
                    exact ⟨_, hp10.mono (by omega) (by omega) (by omega), HK9.out.trans k10⟩
                  · clear hp9
                    go_wp2_with fail
                    go_meet
                    exact ⟨_, HP9.out.mono (by omega) (by omega) (by omega), HK9.out⟩
              case rest =>
                obtain ⟨p9, hp9, k9⟩ := hcut
                have B9 : Hid (Below w.heap.size w wc) := Lib.hid (B6.out.trans ((HK8.out.trans k9).below HQ1.out))
                have HP9 := Lib.hid (hp9.weaken HQ1.out)
                have g1 := hp9.cell
                have gl := hp9.g_lt
                clear k9 e1 e3
                rcases hp9.shape with rfl | ⟨l9, rfl⟩
                · clear hp9
                  have g2 := ((Below.refl wc.heap.size wc).drew.cell (p := ⟨G, 1, none⟩) gl).trans g1
                  go_upto_region 21 with fail
                  go_quiet (fail)
                  all_goals
                    go_wp2_with fail
                    refine (awake_any _).mono ?_
                    rintro e w5 ⟨rfl, b5⟩
                    have B5 : Hid (Below w.heap.size w w5) := Lib.hid (by first | exact B9.out.trans (b5.mono B9.out.size) | exact B9.out.trans (((below_drewN (Below.refl wc.heap.size wc) _).trans (b5.mono (Nat.le_refl _))).mono B9.out.size))
                    clear b5
                    go_wp2_with fail
                    go_ret
                    exact ⟨rfl, B5.out⟩
                · obtain ⟨a1, c1, t1, n1, g5, g7, hr1, hl1, hc1⟩ := hp9.check (by omega)
                  obtain ⟨tl, htl⟩ : ∃ tl, tl = t1.length := ⟨_, rfl⟩
                  rw [← htl] at g5 hl1
                  simp only [← htl] at hc1
                  have HC1 := Lib.hid hc1
                  have HR1 := Lib.hid hr1
                  have HTL := Lib.hid htl
                  have SS := And.intro g1 (And.intro g5 g7)
                  clear hp9 hc1 hr1 htl g1 g5 g7
                  go_upto_region 21 with fail
                  go_region_held3 (fun w' => w'.cell? ⟨G, 1, none⟩ = some (.pointer (some ⟨l9, 0, none⟩)) ∧ w'.cell? ⟨G, 5, none⟩ = some (.slice a1 tl c1) ∧ w'.cell? ⟨G, 7, none⟩ = some (.int .i64 (n1 : Int)))
                    (first
                      | assumption
                      | (refine keep3 SS ?_
                         first | assumption | exact (Below.refl _ _).drew))
                    (first
                      | (go_at_call 9; refine (HC1.out _ (by first | exact (Below.refl _ _).drew | exact Below.refl _ _ | assumption)).1.mono ?_; rintro e wS ⟨rfl, bS⟩; have hBS : Below wc.heap.size wc wS := (by first | exact bt2 ((Below.refl _ wc).drew) bS | exact bS))
                      | (go_at_call 11; refine (HC1.out _ (by first | assumption | exact (Below.refl _ _).drew)).2.1.mono ?_; rintro e wA ⟨ka1, kc1, rfl, rA, bA⟩; have hBA : Below wc.heap.size wc wA := bt2 hBS bA; have RA := Lib.hid rA)
                      | (go_at_call 10; refine (same_at ka1 a1 tl tl kc1 c1 t1 t1 true _ RA.out (HR1.out.old hBA) HTL.out.symm HTL.out.symm (by omega) (by simp)).mono ?_; rintro e wM ⟨rfl, bM⟩; have hBM : Below wc.heap.size wc wM := bt2 hBA bM)
                      | (go_at_call 12; refine (HC1.out _ (by assumption)).2.2.mono ?_; rintro e wL ⟨rfl, bL⟩; have hBL : Below wc.heap.size wc wL := bt2 hBM bL))
                  all_goals
                    go_wp2_with fail
                    go_roundw
                    case rel => exact ⟨k + 1, _, by go_num, by omega, by omega, ((HP9.out.fresh hBL).weaken (fun b hb => .inl hb)).mono (by omega) (by omega) (by omega), bt2 B9.out (hBL.mono (Nat.le_refl _))⟩
                    case measure => simp [intOf]; omega
      · go_wp2_with fail
        all_goals
          refine (awake_any _).mono ?_
          rintro e w5 ⟨rfl, b5⟩
          have B5 := Lib.hid (BW.out.trans ((((Below.refl _ wr).alloc (Nat.le_refl _) _).trans (b5.mono (by simp))).mono BW.out.size))
          clear b5
          go_wp2_with fail
          go_ret
          exact ⟨rfl, B5.out⟩
    · by_cases h1 : k < n
      · have h2 : ¬ k < 60 := fun h => hlt ⟨h1, h⟩
        clear hlt
        go_wp2_with fail
        refine (awake_any _).mono ?_
        rintro e w5 ⟨rfl, b5⟩
        have B5 := Lib.hid (BW.out.trans (b5.mono BW.out.size))
        clear b5
        go_wp2_with fail
        go_ret
        exact ⟨rfl, B5.out⟩
      · clear hlt
        go_wp2_with fail
        refine (awake_any _).mono ?_
        rintro e w5 ⟨rfl, b5⟩
        have B5 := Lib.hid (BW.out.trans (b5.mono BW.out.size))
        clear b5
        go_wp2_with fail
        go_ret
        exact ⟨rfl, B5.out⟩
end Go.Proofs.YtkfmjkcomjmedaaGreat
