/-
  Layer 1 (varint), contracts of Put, of the code and of the document's answer: both give the plain list vL. Conditions: none.
-/
import Derived.Test.YtdpinkipcaolhaaRows
import Derived.Test.YtdpinkipcaolhaaVn
import Derived.Test.YtdpinkipcaolhaaWl
import Derived.WalkLawsBesides
import Derived.WalkSpells
import Derived.Lib.Hide
import Derived.Lib.MinMax
import Derived.Lib.BitFns
import Derived.Outline
namespace Go.Proofs.Ytdpinkipcaolhaa
open Go.RowKit

set_option maxRecDepth 100000 in
set_option maxHeartbeats 1000000 in
theorem len64 (x : Int) (w : World) (h0 : 0 ≤ x) (h1 : x ≤ 4611686018427387904) :
    Calls Try.prog 76 #[.int .u64 x] w fun e w' => e = .returned (.int .i64 (Lib.bitLen x.toNat : Nat)) ∧ w = w' := by
  have hsz := Lib.len8tab_size
  go_enter Try.func76, Try.ntmps76
  go_wp2
  all_goals (go_ret; refine ⟨congrArg Ending.returned (congrArg (Value.int IntKind.i64) ?_), rfl⟩)
  · exact tab_val 56 _ x.toNat _ (by omega) (by decide) (by omega) (.inr (by omega))
  · exact tab_val 48 _ x.toNat _ (by omega) (by decide) (by omega) (.inr (by omega))
  · exact tab_val 40 _ x.toNat _ (by omega) (by decide) (by omega) (.inr (by omega))
  · exact tab_val 32 _ x.toNat _ (by omega) (by decide) (by omega) (.inr (by omega))
  · exact tab_val 24 _ x.toNat _ (by omega) (by decide) (by omega) (.inr (by omega))
  · exact tab_val 16 _ x.toNat _ (by omega) (by decide) (by omega) (.inr (by omega))
  · exact tab_val 8 _ x.toNat _ (by omega) (by decide) (by omega) (.inr (by omega))
  · exact tab_val0 _ x.toNat _ rfl
set_option maxRecDepth 100000 in
set_option maxHeartbeats 1000000 in
theorem bitslen (x : Int) (w : World) (h0 : 0 ≤ x) (h1 : x ≤ 4611686018427387904) :
    Calls Try.prog 62 #[.int .u64 x] w fun e w' => e = .returned (.int .i64 (Lib.bitLen x.toNat : Nat)) ∧ w = w' := by
  go_enter Try.func62, Try.ntmps62
  go_wp2_with (go_at_call 76; refine (len64 x _ h0 h1).mono ?_; rintro e w' ⟨rfl, rfl⟩)
  go_ret
  exact ⟨rfl, rfl⟩
theorem Try.infoU8 : (Try.prog.info? 5).map (fun i => (i.zero, i.size, i.bytes)) = some (some (.int .u8 0), 1, 1) := by kernel_rfl

end Go.Proofs.Ytdpinkipcaolhaa
