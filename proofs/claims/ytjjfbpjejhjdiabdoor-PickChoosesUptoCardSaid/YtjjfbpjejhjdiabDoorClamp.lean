import Derived.Test.YtjjfbpjejhjdiabDoorBase
namespace Go.Proofs.YtjjfbpjejhjdiabDoor
open Go.RowKit
/-! The contracts of the clamps. -/
set_option maxHeartbeats 400000 in
theorem clamp_any (v m : Int) (w : World) (v0 : -9223372036854775808 ≤ v) (v1 : v ≤ 9223372036854775807) (s0 : -9223372036854775808 ≤ m) (s1 : m ≤ 9223372036854775807) :
    Calls Tryd.prog 41 #[.int .i64 v, .int .i64 m] w fun e w' => e = .returned (.int .i64 (Fix.cl v m)) ∧ w' = w := by
  by_cases c0 : m < 0
  · go_enter Tryd.func41, Tryd.ntmps41
    go_wp2
    all_goals go_ret
    all_goals exact ⟨ret_int (by unfold Fix.cl; omega), rfl⟩
  · go_enter Tryd.func41, Tryd.ntmps41
    go_wp2
    all_goals go_ret
    all_goals exact ⟨ret_int (by unfold Fix.cl; omega), rfl⟩
end Go.Proofs.YtjjfbpjejhjdiabDoor
