import Derived.Test.YtjjfbpjejhjdiabDoorBase
namespace Go.Proofs.YtjjfbpjejhjdiabDoor
open Go.RowKit
/-! The contract of fix.Shift. -/
theorem shift_end62 (v s : Int) (c1 : 62 < s) (v0 : -9223372036854775808 ≤ v) (v1 : v ≤ 9223372036854775807) :
    wrap64 (v / 4611686018427387904 + bits BinOp.and IntKind.i64 (v / 2305843009213693952) 1) = Fix.sh v s := by
  have h := Fix.sh_code62 v s c1
  rw [i64_and1, wr _ (by omega) (by omega), ← h]
  rfl
theorem shift_end (v s : Int) (c0 : 0 < s) (c1 : s ≤ 62) (v0 : -9223372036854775808 ≤ v) (v1 : v ≤ 9223372036854775807) :
    wrap64 (v / 2 ^ s.toNat + bits BinOp.and IntKind.i64 (v / 2 ^ (s.toNat - 1)) 1) = Fix.sh v s := by
  have h := Fix.sh_code v s c0 c1
  rw [show (s - 1).toNat = s.toNat - 1 by omega] at h
  have hb := Fix.sh_bd v s v0 v1
  rw [i64_and1, h, wr _ hb.1 hb.2]
set_option maxHeartbeats 400000 in
theorem shift_any (v s : Int) (w : World) (v0 : -9223372036854775808 ≤ v) (v1 : v ≤ 9223372036854775807) (s0 : -9223372036854775808 ≤ s) (s1 : s ≤ 9223372036854775807) :
    Calls Tryd.prog 55 #[.int .i64 v, .int .i64 s] w fun e w' => e = .returned (.int .i64 (Fix.sh v s)) ∧ w' = w := by
  by_cases c0 : s ≤ 0
  · go_enter Tryd.func55, Tryd.ntmps55
    go_wp2
    go_ret
    exact ⟨ret_int (Fix.sh_zero v s c0).symm, rfl⟩
  · by_cases c1 : 62 < s
    · go_enter Tryd.func55, Tryd.ntmps55
      go_wp2
      go_ret
      exact ⟨ret_int (shift_end62 v s c1 v0 v1), rfl⟩
    · go_enter Tryd.func55, Tryd.ntmps55
      go_wp2
      go_ret
      exact ⟨ret_int (shift_end v s (by omega) (by omega) v0 v1), rfl⟩
end Go.Proofs.YtjjfbpjejhjdiabDoor
