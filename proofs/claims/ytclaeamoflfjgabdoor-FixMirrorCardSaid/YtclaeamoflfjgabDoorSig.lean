import Derived.Test.YtclaeamoflfjgabDoorExp
import Derived.Test.YtclaeamoflfjgabDoorDiv
import Derived.Test.YtclaeamoflfjgabDoorClamp
namespace Go.Proofs.YtclaeamoflfjgabDoor
open Go.RowKit
/-! The contracts of fix.Sigmoid and fix.Silu, in a world that holds the table. -/
set_option maxHeartbeats 400000 in
theorem upper_any (z : Int) (w : World) (hw : Holds w) (v0 : 0 ≤ z) (v1 : z ≤ 9223372036854775807) :
    Calls Tryd.prog 14 #[.int .i64 z] w fun e w' => e = .returned (.int .i64 (Fix.dv 4294967296 (65536 + Fix.ex (-z)))) ∧ w' = w := by
  have hx := Fix.ex_bd (-z)
  have HW := hidd hw
  clear hw
  go_enter Tryd.func14, Tryd.ntmps14
  go_wp2_with fail
  refine (exp_any _ _ HW.out).mono ?_; rintro e w' ⟨rfl, rfl⟩
  go_wp2_with fail
  refine (div_any _ _ _ (by omega) (by omega) (by omega) (by omega)).mono ?_; rintro e w' ⟨rfl, rfl⟩
  go_wp2
  go_ret
  exact ⟨rfl, rfl⟩
set_option maxHeartbeats 400000 in
theorem sig_any (z : Int) (w : World) (hw : Holds w) (v0 : -9223372036854775808 ≤ z) (v1 : z ≤ 9223372036854775807) :
    Calls Tryd.prog 8 #[.int .i64 z] w fun e w' => e = .returned (.int .i64 (Fix.sg z)) ∧ w' = w := by
  have HW := hidd hw
  clear hw
  by_cases c0 : 0 ≤ z
  · have HE := hidd (Fix.sg_pos z c0)
    go_enter Tryd.func8, Tryd.ntmps8
    go_wp2_with fail
    refine (upper_any _ _ HW.out (by omega) (by omega)).mono ?_; rintro e w' ⟨rfl, rfl⟩
    go_wp2
    go_ret
    exact ⟨ret_int HE.out.symm, rfl⟩
  · by_cases c1 : z = -9223372036854775808
    · have HE := hidd (show 65536 - Fix.dv 4294967296 (65536 + Fix.ex (-9223372036854775807)) = Fix.sg z by
        rw [Fix.sg_neg z (by omega), Fix.ex_low z (by omega), Fix.ex_low _ (by omega)])
      have hd := Fix.dv_bd (65536 + Fix.ex (-9223372036854775807))
      subst c1
      go_enter Tryd.func8, Tryd.ntmps8
      go_wp2_with fail
      refine (upper_any _ _ HW.out (by omega) (by omega)).mono ?_; rintro e w' ⟨rfl, rfl⟩
      go_wp2
      go_ret
      exact ⟨ret_int HE.out, rfl⟩
    · have HE := hidd (Fix.sg_neg z (by omega))
      have hd := Fix.dv_bd (65536 + Fix.ex z)
      have c2 : (z == -9223372036854775808) = false := by simpa using c1
      have c3 : -9223372036854775807 ≤ z := by omega
      clear c1
      go_enter Tryd.func8, Tryd.ntmps8
      go_wp2_with fail
      refine (upper_any _ _ HW.out (by omega) (by omega)).mono ?_; rintro e w' ⟨rfl, rfl⟩
      rw [Int.neg_neg]
      go_wp2
      go_ret
      exact ⟨ret_int HE.out.symm, rfl⟩
set_option maxHeartbeats 400000 in
theorem silu_any (v : Int) (w : World) (hw : Holds w) (v0 : -9223372036854775808 ≤ v) (v1 : v ≤ 9223372036854775807) :
    Calls Tryd.prog 10 #[.int .i64 v] w fun e w' => e = .returned (.int .i64 (Fix.si v)) ∧ w' = w := by
  have HW := hidd hw
  clear hw
  have h1 := Fix.cl_wide v
  have h2 := Fix.si_mul_bd v
  go_enter Tryd.func10, Tryd.ntmps10
  go_wp2_with fail
  refine (clamp_any _ _ _ (by omega) (by omega) (by omega) (by omega)).mono ?_; rintro e w' ⟨rfl, rfl⟩
  go_wp2_with fail
  refine (sig_any _ _ HW.out (by omega) (by omega)).mono ?_; rintro e w' ⟨rfl, rfl⟩
  go_wp2_with fail
  refine (shift_any _ _ _ (by omega) (by omega) (by omega) (by omega)).mono ?_; rintro e w' ⟨rfl, rfl⟩
  go_wp2
  go_ret
  exact ⟨rfl, rfl⟩
end Go.Proofs.YtclaeamoflfjgabDoor
