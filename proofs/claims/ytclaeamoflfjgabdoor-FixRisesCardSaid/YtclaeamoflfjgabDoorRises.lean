import Derived.Test.YtclaeamoflfjgabDoorSig
import Derived.Test.YtclaeamoflfjgabDoorFixMono
namespace Go.Proofs.YtclaeamoflfjgabDoor
open Go.RowKit
/-! The law FixRises: its walk. -/
set_option maxHeartbeats 400000 in
theorem rises_walk (a b s : Int) (w : World) (hw : Holds w) (a0 : -9223372036854775808 ≤ a) (a1 : a ≤ 9223372036854775807) (b0 : -9223372036854775808 ≤ b) (b1 : b ≤ 9223372036854775807) (s0 : -9223372036854775808 ≤ s) (s1 : s ≤ 9223372036854775807) :
    Calls Tryd.prog 3 #[.int .i64 a, .int .i64 b, .int .i64 s] w fun e w' => e = .returned (.bool true) ∧ w' = w := by
  have HW := hidd hw
  clear hw
  by_cases c : b < a
  · have f1 := Fix.sh_mono b a s (by omega)
    have f2 := Fix.ex_mono b a (by omega)
    have f3 := Fix.sg_mono b a (by omega)
    have f4 := (Fix.ex_rng b).1
    have f5 := (Fix.ex_rng a).2
    have f6 := (Fix.sg_rng b).1
    have f7 := (Fix.sg_rng a).2
    go_enter Tryd.func3, Tryd.ntmps3
    go_wp2_with fail
    refine (shift_any _ _ _ (by omega) (by omega) (by omega) (by omega)).mono ?_; rintro e w' ⟨rfl, rfl⟩
    go_wp2_with fail
    refine (shift_any _ _ _ (by omega) (by omega) (by omega) (by omega)).mono ?_; rintro e w' ⟨rfl, rfl⟩
    go_wp2_with fail
    refine (exp_any _ _ HW.out).mono ?_; rintro e w' ⟨rfl, rfl⟩
    go_wp2_with fail
    refine (exp_any _ _ HW.out).mono ?_; rintro e w' ⟨rfl, rfl⟩
    go_wp2_with fail
    refine (sig_any _ _ HW.out (by omega) (by omega)).mono ?_; rintro e w' ⟨rfl, rfl⟩
    go_wp2_with fail
    refine (sig_any _ _ HW.out (by omega) (by omega)).mono ?_; rintro e w' ⟨rfl, rfl⟩
    go_wp2_with fail
    refine (exp_any _ _ HW.out).mono ?_; rintro e w' ⟨rfl, rfl⟩
    rw [Fix.ex_zero]
    go_wp2_with fail
    refine (sig_any _ _ HW.out (by omega) (by omega)).mono ?_; rintro e w' ⟨rfl, rfl⟩
    rw [Fix.sg_zero]
    go_wp2
    go_ret
    exact ⟨rfl, rfl⟩
  · have f1 := Fix.sh_mono a b s (by omega)
    have f2 := Fix.ex_mono a b (by omega)
    have f3 := Fix.sg_mono a b (by omega)
    have f4 := (Fix.ex_rng a).1
    have f5 := (Fix.ex_rng b).2
    have f6 := (Fix.sg_rng a).1
    have f7 := (Fix.sg_rng b).2
    go_enter Tryd.func3, Tryd.ntmps3
    go_wp2_with fail
    refine (shift_any _ _ _ (by omega) (by omega) (by omega) (by omega)).mono ?_; rintro e w' ⟨rfl, rfl⟩
    go_wp2_with fail
    refine (shift_any _ _ _ (by omega) (by omega) (by omega) (by omega)).mono ?_; rintro e w' ⟨rfl, rfl⟩
    go_wp2_with fail
    refine (exp_any _ _ HW.out).mono ?_; rintro e w' ⟨rfl, rfl⟩
    go_wp2_with fail
    refine (exp_any _ _ HW.out).mono ?_; rintro e w' ⟨rfl, rfl⟩
    go_wp2_with fail
    refine (sig_any _ _ HW.out (by omega) (by omega)).mono ?_; rintro e w' ⟨rfl, rfl⟩
    go_wp2_with fail
    refine (sig_any _ _ HW.out (by omega) (by omega)).mono ?_; rintro e w' ⟨rfl, rfl⟩
    go_wp2_with fail
    refine (exp_any _ _ HW.out).mono ?_; rintro e w' ⟨rfl, rfl⟩
    rw [Fix.ex_zero]
    go_wp2_with fail
    refine (sig_any _ _ HW.out (by omega) (by omega)).mono ?_; rintro e w' ⟨rfl, rfl⟩
    rw [Fix.sg_zero]
    go_wp2
    go_ret
    exact ⟨rfl, rfl⟩
end Go.Proofs.YtclaeamoflfjgabDoor
