import Derived.Test.YtmcefgpejocjfaaDoorClamp
namespace Go.Proofs.YtmcefgpejocjfaaDoor
open Go.RowKit
/-! The clamp to 8 bits. -/
theorem cl_bd (v m : Int) : -(max m 0) ≤ Fix.cl v m ∧ Fix.cl v m ≤ max m 0 := by unfold Fix.cl; omega
theorem c8_bd (v : Int) : -127 ≤ Fix.cl v 127 ∧ Fix.cl v 127 ≤ 127 := by have := cl_bd v 127; omega
set_option maxHeartbeats 400000 in
theorem clamp8_any (v : Int) (w : World) (v0 : -9223372036854775808 ≤ v) (v1 : v ≤ 9223372036854775807) :
    Calls Tryd.prog 55 #[.int .i64 v] w fun e w' => e = .returned (.int .i8 (Fix.cl v 127)) ∧ w' = w := by
  have hb := c8_bd v
  go_enter Tryd.func55, Tryd.ntmps55
  go_wp2_with (go_at_call 80; refine (clamp_any v 127 _ v0 v1 (by omega) (by omega)).mono ?_; rintro e w' ⟨rfl, rfl⟩)
  go_ret
  exact ⟨rfl, rfl⟩
end Go.Proofs.YtmcefgpejocjfaaDoor
