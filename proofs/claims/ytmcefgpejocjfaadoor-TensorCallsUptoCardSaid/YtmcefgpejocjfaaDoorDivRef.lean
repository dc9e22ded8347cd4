import Derived.Test.YtmcefgpejocjfaaDoorBase
namespace Go.Proofs.YtmcefgpejocjfaaDoor
open Go.RowKit
/-! The contract of the document's answer for Div. -/
set_option maxHeartbeats 400000 in
theorem div_ref (a b : Int) (w : World) (v0 : -9223372036854775808 ≤ a) (v1 : a ≤ 9223372036854775807) (s0 : -9223372036854775808 ≤ b) (s1 : b ≤ 9223372036854775807) :
    Calls Tryd.prog 74 #[.int .i64 a, .int .i64 b] w fun e w' => e = .returned (.int .i64 (Fix.dv a b)) ∧ w' = w := by
  by_cases c0 : b ≤ 0
  · go_enter Tryd.func74, Tryd.ntmps74
    go_wp2
    go_ret
    exact ⟨ret_int (Fix.dv_le a b c0).symm, rfl⟩
  · have hb := Fix.quo_bd a b (by omega) v0 v1
    by_cases c1 : 0 ≤ a
    · have hm : a / b * b ≤ a := Int.ediv_mul_le a (by omega)
      have hn : 0 ≤ a / b := Int.ediv_nonneg c1 (by omega)
      have hp : 0 ≤ a / b * b := Int.mul_nonneg hn (by omega)
      go_enter Tryd.func74, Tryd.ntmps74
      go_wp2
      go_ret
      exact ⟨ret_int (Fix.dv_gt a b (by omega)).symm, rfl⟩
    · have hn := Fix.near_quo a b (by omega)
      have hx := Int.mul_tdiv_add_tmod a b
      rw [Int.mul_comm] at hx
      have g0 : -9223372036854775808 ≤ a.tdiv b * b := by omega
      have g1 : a.tdiv b * b ≤ 9223372036854775807 := by
        have := Fix.tmod_low a b (by omega)
        have := Int.emod_lt_of_pos (-a) (show 0 < b by omega)
        have := Int.emod_nonneg (-a) (show b ≠ 0 by omega)
        have : (-a) % b ≤ -a := by
          have h := Int.mul_ediv_add_emod (-a) b
          have h2 := Int.mul_nonneg (show 0 ≤ b by omega) (Int.ediv_nonneg (show 0 ≤ -a by omega) (show 0 ≤ b by omega))
          omega
        omega
      by_cases c2 : a.tmod b < 0
      · have e := Fix.tdiv_neg_rest a b (by omega) (by omega) c2
        have e2 : wrap64 (a.tdiv b - 1) = Fix.dv a b := by rw [e, wr _ hb.1 hb.2, Fix.dv_gt a b (by omega)]
        have E := hidd e2
        have c3 : a < a.tdiv b * b := by omega
        clear e e2 hx hn
        go_enter Tryd.func74, Tryd.ntmps74
        go_wp2
        go_ret
        exact ⟨ret_int (by first | exact E.out | (rw [← E.out, wr _ (by omega) (by omega)])), rfl⟩
      · have e := Fix.tdiv_neg_exact a b (by omega) (by omega) c2
        have e2 : a.tdiv b = Fix.dv a b := by rw [e, Fix.dv_gt a b (by omega)]
        have E := hidd e2
        have c3 : a.tdiv b * b ≤ a := by omega
        clear e e2 hx hn
        go_enter Tryd.func74, Tryd.ntmps74
        go_wp2
        go_ret
        exact ⟨ret_int E.out, rfl⟩
end Go.Proofs.YtmcefgpejocjfaaDoor
