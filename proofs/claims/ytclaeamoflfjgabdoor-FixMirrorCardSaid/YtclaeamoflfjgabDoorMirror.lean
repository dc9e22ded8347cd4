import Derived.Test.YtclaeamoflfjgabDoorSig
import Derived.Test.YtclaeamoflfjgabDoorFixMono
namespace Go.Proofs.YtclaeamoflfjgabDoor
open Go.RowKit
/-! The law FixMirror: its walk. -/
set_option maxHeartbeats 400000 in
theorem mirror_core (z m : Int) (w : World) (hw : Holds w) (a0 : -9223372036854775807 ≤ z) (a1 : z ≤ 9223372036854775807) (b0 : -9223372036854775808 ≤ m) (b1 : m ≤ 9223372036854775807) :
    Calls Tryd.prog 4 #[.int .i64 z, .int .i64 m] w fun e w' => e = .returned (.bool true) ∧ w' = w := by
  have HW := hidd hw
  clear hw
  have g1 := Fix.sg_mirror z
  have g2 := Fix.cl_mirror z m
  have g3 := Fix.si_mirror z
  have k1 : (Fix.sg z + Fix.sg (-z) == 65536) = true := by rw [beq_iff_eq]; exact g1
  have k2 : (Fix.cl z m == -Fix.cl (-z) m) = true := by rw [beq_iff_eq]; exact g2
  have k3 : (Fix.si z - Fix.si (-z) == Fix.cl z 16777216) = true := by rw [beq_iff_eq]; exact g3
  have r1 := Fix.sg_rng z
  have r2 := Fix.sg_rng (-z)
  have r3 := Fix.cl_bd z m
  have r4 := Fix.cl_bd (-z) m
  have r5 := Fix.cl_wide z
  have r6 := Fix.si_all z
  have r7 := Fix.si_all (-z)
  clear g1 g2 g3
  have c1 : (z == -9223372036854775808) = false := by rw [beq_eq_false_iff_ne]; omega
  by_cases c : z < 0
  · have f1 := Fix.si_neg z c
    go_enter Tryd.func4, Tryd.ntmps4
    go_wp2_with fail
    refine (sig_any _ _ HW.out (by omega) (by omega)).mono ?_; rintro e w' ⟨rfl, rfl⟩
    go_wp2_with fail
    refine (sig_any _ _ HW.out (by omega) (by omega)).mono ?_; rintro e w' ⟨rfl, rfl⟩
    go_wp2_with fail
    refine (clamp_any _ _ _ (by omega) (by omega) (by omega) (by omega)).mono ?_; rintro e w' ⟨rfl, rfl⟩
    go_wp2_with fail
    refine (clamp_any _ _ _ (by omega) (by omega) (by omega) (by omega)).mono ?_; rintro e w' ⟨rfl, rfl⟩
    go_wp2_with fail
    refine (clamp_any _ _ _ (by omega) (by omega) (by omega) (by omega)).mono ?_; rintro e w' ⟨rfl, rfl⟩
    go_wp2_with fail
    refine (silu_any _ _ HW.out (by omega) (by omega)).mono ?_; rintro e w' ⟨rfl, rfl⟩
    go_wp2_with fail
    refine (silu_any _ _ HW.out (by omega) (by omega)).mono ?_; rintro e w' ⟨rfl, rfl⟩
    go_wp2
    go_ret
    exact ⟨rfl, rfl⟩
  · have f1 := Fix.si_pos z (by omega)
    go_enter Tryd.func4, Tryd.ntmps4
    go_wp2_with fail
    refine (sig_any _ _ HW.out (by omega) (by omega)).mono ?_; rintro e w' ⟨rfl, rfl⟩
    go_wp2_with fail
    refine (sig_any _ _ HW.out (by omega) (by omega)).mono ?_; rintro e w' ⟨rfl, rfl⟩
    go_wp2_with fail
    refine (clamp_any _ _ _ (by omega) (by omega) (by omega) (by omega)).mono ?_; rintro e w' ⟨rfl, rfl⟩
    go_wp2_with fail
    refine (clamp_any _ _ _ (by omega) (by omega) (by omega) (by omega)).mono ?_; rintro e w' ⟨rfl, rfl⟩
    go_wp2_with fail
    refine (clamp_any _ _ _ (by omega) (by omega) (by omega) (by omega)).mono ?_; rintro e w' ⟨rfl, rfl⟩
    go_wp2_with fail
    refine (silu_any _ _ HW.out (by omega) (by omega)).mono ?_; rintro e w' ⟨rfl, rfl⟩
    go_wp2_with fail
    refine (silu_any _ _ HW.out (by omega) (by omega)).mono ?_; rintro e w' ⟨rfl, rfl⟩
    go_wp2
    go_ret
    exact ⟨rfl, rfl⟩
set_option maxHeartbeats 400000 in
theorem mirror_least (m : Int) (w : World) (hw : Holds w) (b0 : -9223372036854775808 ≤ m) (b1 : m ≤ 9223372036854775807) :
    Calls Tryd.prog 4 #[.int .i64 (-9223372036854775808), .int .i64 m] w fun e w' => e = .returned (.bool true) ∧ w' = w := by
  have HW := hidd hw
  clear hw
  have g1 := Fix.sg_mirror (-9223372036854775807)
  have g2 := Fix.cl_mirror (-9223372036854775807) m
  have g3 := Fix.si_mirror (-9223372036854775807)
  rw [Int.neg_neg] at g1 g2 g3
  have k1 : (Fix.sg (-9223372036854775807) + Fix.sg 9223372036854775807 == 65536) = true := by rw [beq_iff_eq]; exact g1
  have k2 : (Fix.cl (-9223372036854775807) m == -Fix.cl 9223372036854775807 m) = true := by rw [beq_iff_eq]; exact g2
  have k3 : (Fix.si (-9223372036854775807) - Fix.si 9223372036854775807 == Fix.cl (-9223372036854775807) 16777216) = true := by rw [beq_iff_eq]; exact g3
  have r1 := Fix.sg_rng (-9223372036854775807)
  have r2 := Fix.sg_rng 9223372036854775807
  have r3 := Fix.cl_bd (-9223372036854775807) m
  have r4 := Fix.cl_bd 9223372036854775807 m
  have r5 := Fix.cl_wide (-9223372036854775807)
  have r6 := Fix.si_all (-9223372036854775807)
  have r7 := Fix.si_all 9223372036854775807
  have f1 := Fix.si_neg (-9223372036854775807) (by decide)
  clear g1 g2 g3
  go_enter Tryd.func4, Tryd.ntmps4
  go_wp2_with fail
  refine (sig_any _ _ HW.out (by omega) (by omega)).mono ?_; rintro e w' ⟨rfl, rfl⟩
  go_wp2_with fail
  refine (sig_any _ _ HW.out (by omega) (by omega)).mono ?_; rintro e w' ⟨rfl, rfl⟩
  go_wp2_with fail
  refine (clamp_any _ _ _ (by omega) (by omega) (by omega) (by omega)).mono ?_; rintro e w' ⟨rfl, rfl⟩
  go_wp2_with fail
  refine (clamp_any _ _ _ (by omega) (by omega) (by omega) (by omega)).mono ?_; rintro e w' ⟨rfl, rfl⟩
  go_wp2_with fail
  refine (clamp_any _ _ _ (by omega) (by omega) (by omega) (by omega)).mono ?_; rintro e w' ⟨rfl, rfl⟩
  go_wp2_with fail
  refine (silu_any _ _ HW.out (by omega) (by omega)).mono ?_; rintro e w' ⟨rfl, rfl⟩
  go_wp2_with fail
  refine (silu_any _ _ HW.out (by omega) (by omega)).mono ?_; rintro e w' ⟨rfl, rfl⟩
  go_wp2
  go_ret
  exact ⟨rfl, rfl⟩
theorem mirror_walk (z m : Int) (w : World) (hw : Holds w) (a0 : -9223372036854775808 ≤ z) (a1 : z ≤ 9223372036854775807) (b0 : -9223372036854775808 ≤ m) (b1 : m ≤ 9223372036854775807) :
    Calls Tryd.prog 4 #[.int .i64 z, .int .i64 m] w fun e w' => e = .returned (.bool true) ∧ w' = w := by
  by_cases c : z = -9223372036854775808
  · subst c; exact mirror_least m w hw b0 b1
  · exact mirror_core z m w hw (by omega) a1 b0 b1
end Go.Proofs.YtclaeamoflfjgabDoor
