import Derived.Test.YtmcefgpejocjfaaDoorClampRef
import Derived.Test.YtmcefgpejocjfaaDoorClamp8
namespace Go.Proofs.YtmcefgpejocjfaaDoor
open Go.RowKit
/-! The reference's clamp to 8 bits. -/
set_option maxHeartbeats 400000 in
theorem clamp8_ref (v : Int) (w : World) (v0 : -9223372036854775808 ≤ v) (v1 : v ≤ 9223372036854775807) :
    Calls Tryd.prog 72 #[.int .i64 v] w fun e w' => e = .returned (.int .i8 (Fix.cl v 127)) ∧ w' = w := by
  have hb := c8_bd v
  go_enter Tryd.func72, Tryd.ntmps72
  go_wp2_with (go_at_call 73; refine (clamp_ref v 127 _ v0 v1 (by omega) (by omega)).mono ?_; rintro e w' ⟨rfl, rfl⟩)
  go_ret
  exact ⟨rfl, rfl⟩
end Go.Proofs.YtmcefgpejocjfaaDoor
