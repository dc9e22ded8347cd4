import Derived.Test.YtjjfbpjejhjdiabDoorBase
namespace Go.Proofs.YtjjfbpjejhjdiabDoor
open Go.RowKit
/-! The contract of fix.Div. -/
set_option maxHeartbeats 400000 in
theorem div_any (a b : Int) (w : World) (v0 : -9223372036854775808 ≤ a) (v1 : a ≤ 9223372036854775807) (s0 : -9223372036854775808 ≤ b) (s1 : b ≤ 9223372036854775807) :
    Calls Tryd.prog 54 #[.int .i64 a, .int .i64 b] w fun e w' => e = .returned (.int .i64 (Fix.dv a b)) ∧ w' = w := by
  by_cases c0 : b ≤ 0
  · go_enter Tryd.func54, Tryd.ntmps54
    go_wp2
    go_ret
    exact ⟨ret_int (Fix.dv_le a b c0).symm, rfl⟩
  · have hb := Fix.quo_bd a b (by omega) v0 v1
    by_cases c1 : 0 ≤ a
    · have hm := Int.emod_nonneg a (show b ≠ 0 by omega)
      go_enter Tryd.func54, Tryd.ntmps54
      go_wp2
      go_ret
      exact ⟨ret_int (Fix.dv_gt a b (by omega)).symm, rfl⟩
    · by_cases c2 : a.tmod b < 0
      · have e := Fix.tdiv_neg_rest a b (by omega) (by omega) c2
        have e2 : wrap64 (a.tdiv b - 1) = Fix.dv a b := by rw [e, wr _ hb.1 hb.2, Fix.dv_gt a b (by omega)]
        have E := hidd e2
        clear e e2
        go_enter Tryd.func54, Tryd.ntmps54
        go_wp2
        go_ret
        exact ⟨ret_int (E.out), rfl⟩
      · have e := Fix.tdiv_neg_exact a b (by omega) (by omega) c2
        have e2 : a.tdiv b = Fix.dv a b := by rw [e, Fix.dv_gt a b (by omega)]
        have E := hidd e2
        clear e e2
        go_enter Tryd.func54, Tryd.ntmps54
        go_wp2
        go_ret
        exact ⟨ret_int (E.out), rfl⟩
end Go.Proofs.YtjjfbpjejhjdiabDoor
