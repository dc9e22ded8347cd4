import Derived.Test.YtclaeamoflfjgabDoorSig
import Derived.Test.YtclaeamoflfjgabDoorExpRef
import Derived.Test.YtclaeamoflfjgabDoorClampRef
namespace Go.Proofs.YtclaeamoflfjgabDoor
open Go.RowKit
/-! The law FixCurves: its walk. -/
set_option maxHeartbeats 400000 in
theorem silu_ref (v : Int) (w : World) (v0 : -9223372036854775808 ≤ v) (v1 : v ≤ 9223372036854775807) :
    Calls Tryd.prog 13 #[.int .i64 v] w fun e w' => e = .returned (.int .i64 (Fix.si v)) ∧ w' = w := by
  have h1 := Fix.cl_wide v
  have h2 := Fix.si_mul_bd v
  go_enter Tryd.func13, Tryd.ntmps13
  go_wp2_with fail
  refine (clamp_ref _ _ _ (by omega) (by omega) (by omega) (by omega)).mono ?_; rintro e w' ⟨rfl, rfl⟩
  go_wp2_with fail
  refine (sig_ref _ _ (by omega) (by omega)).mono ?_; rintro e w' ⟨rfl, rfl⟩
  go_wp2_with fail
  refine (shift_ref _ _ _ (by omega) (by omega) (by omega) (by omega)).mono ?_; rintro e w' ⟨rfl, rfl⟩
  go_wp2
  go_ret
  exact ⟨rfl, rfl⟩
set_option maxHeartbeats 400000 in
theorem curves_walk (z : Int) (w : World) (hw : Holds w) (v0 : -9223372036854775808 ≤ z) (v1 : z ≤ 9223372036854775807) :
    Calls Tryd.prog 5 #[.int .i64 z] w fun e w' => e = .returned (.bool true) ∧ w' = w := by
  have HW := hidd hw
  clear hw
  go_enter Tryd.func5, Tryd.ntmps5
  go_wp2_with fail
  refine (exp_any _ _ HW.out).mono ?_; rintro e w' ⟨rfl, rfl⟩
  go_wp2_with fail
  refine (sig_any _ _ HW.out (by omega) (by omega)).mono ?_; rintro e w' ⟨rfl, rfl⟩
  go_wp2_with fail
  refine (silu_any _ _ HW.out (by omega) (by omega)).mono ?_; rintro e w' ⟨rfl, rfl⟩
  go_wp2_with fail
  refine (exp_ref _ _).mono ?_; rintro e w' ⟨rfl, rfl⟩
  go_wp2_with fail
  refine (sig_ref _ _ (by omega) (by omega)).mono ?_; rintro e w' ⟨rfl, rfl⟩
  go_wp2_with fail
  refine (silu_ref _ _ (by omega) (by omega)).mono ?_; rintro e w' ⟨rfl, rfl⟩
  go_wp2
  go_ret
  exact ⟨rfl, rfl⟩
end Go.Proofs.YtclaeamoflfjgabDoor
