import Derived.Test.YtclaeamoflfjgaaClamp
import Derived.Test.YtclaeamoflfjgaaClampRef
namespace Go.Proofs.Ytclaeamoflfjgaa
open Go.RowKit
/-! The contracts of Clamp8, and the law FixClamps. -/
theorem cl_bd (v m : Int) : -(max m 0) ≤ Fix.cl v m ∧ Fix.cl v m ≤ max m 0 := by unfold Fix.cl; omega
set_option maxHeartbeats 400000 in
theorem clamp8_any (v : Int) (w : World) (v0 : -9223372036854775808 ≤ v) (v1 : v ≤ 9223372036854775807) :
    Calls Try.prog 13 #[.int .i64 v] w fun e w' => e = .returned (.int .i8 (Fix.cl v 127)) ∧ w' = w := by
  have hb := cl_bd v 127
  go_enter Try.func13, Try.ntmps13
  go_wp2_with (go_at_call 12; refine (clamp_any _ _ _ (by omega) (by omega) (by omega) (by omega)).mono ?_; rintro e w' ⟨rfl, rfl⟩)
  go_ret
  exact ⟨rfl, rfl⟩
set_option maxHeartbeats 400000 in
theorem clamp8_ref (v : Int) (w : World) (v0 : -9223372036854775808 ≤ v) (v1 : v ≤ 9223372036854775807) :
    Calls Try.prog 15 #[.int .i64 v] w fun e w' => e = .returned (.int .i8 (Fix.cl v 127)) ∧ w' = w := by
  have hb := cl_bd v 127
  go_enter Try.func15, Try.ntmps15
  go_wp2_with (go_at_call 14; refine (clamp_ref _ _ _ (by omega) (by omega) (by omega) (by omega)).mono ?_; rintro e w' ⟨rfl, rfl⟩)
  go_ret
  exact ⟨rfl, rfl⟩
set_option maxHeartbeats 400000 in
theorem clamps_walk (v m : Int) (w : World) (v0 : -9223372036854775808 ≤ v) (v1 : v ≤ 9223372036854775807) (s0 : -9223372036854775808 ≤ m) (s1 : m ≤ 9223372036854775807) :
    Calls Try.prog 7 #[.int .i64 v, .int .i64 m] w fun e w' => e = .returned (.bool true) ∧ w' = w := by
  go_enter Try.func7, Try.ntmps7
  go_wp2_with fail
  refine (clamp_any _ _ _ (by omega) (by omega) (by omega) (by omega)).mono ?_; rintro e w' ⟨rfl, rfl⟩
  go_wp2_with fail
  refine (clamp8_any _ _ (by omega) (by omega)).mono ?_; rintro e w' ⟨rfl, rfl⟩
  go_wp2_with fail
  refine (clamp_ref _ _ _ (by omega) (by omega) (by omega) (by omega)).mono ?_; rintro e w' ⟨rfl, rfl⟩
  go_wp2_with fail
  refine (clamp8_ref _ _ (by omega) (by omega)).mono ?_; rintro e w' ⟨rfl, rfl⟩
  go_wp2
  go_ret
  exact ⟨rfl, rfl⟩
end Go.Proofs.Ytclaeamoflfjgaa
