import Derived.Test.YtclaeamoflfjgabSqrt
import Derived.Test.YtclaeamoflfjgabSqrtRef
import Derived.Test.YtclaeamoflfjgabDiv
import Derived.Test.YtclaeamoflfjgabDivRef
namespace Go.Proofs.Ytclaeamoflfjgab
open Go.RowKit
/-! The law FixParts: its walk. -/
theorem root_le (v a b : Int) (hb : 0 ≤ b) (h1 : a * a ≤ v) (h2 : v < (b + 1) * (b + 1)) : a ≤ b := by
  by_cases h : a ≤ b
  · exact h
  · have : (b + 1) * (b + 1) ≤ a * a := Int.mul_le_mul (by omega) (by omega) (by omega) (by omega)
    omega
set_option maxHeartbeats 400000 in
theorem parts_walk (a b : Int) (w : World) (v0 : -9223372036854775808 ≤ a) (v1 : a ≤ 9223372036854775807) (s0 : -9223372036854775808 ≤ b) (s1 : b ≤ 9223372036854775807) :
    Calls Try.prog 3 #[.int .i64 a, .int .i64 b] w fun e w' => e = .returned (.bool true) ∧ w' = w := by
  by_cases c0 : a ≤ 0
  · go_enter Try.func3, Try.ntmps3
    go_wp2_with fail
    refine (sqrt_low _ _ (by omega)).mono ?_; rintro e w' ⟨rfl, rfl⟩
    go_wp2_with fail
    refine (div_any _ _ _ (by omega) (by omega) (by omega) (by omega)).mono ?_; rintro e w' ⟨rfl, rfl⟩
    go_wp2_with fail
    refine (sqrt_ref_low _ _ (by omega)).mono ?_; rintro e w' ⟨rfl, rfl⟩
    go_wp2_with fail
    refine (div_ref _ _ _ (by omega) (by omega) (by omega) (by omega)).mono ?_; rintro e w' ⟨rfl, rfl⟩
    go_wp2
    go_ret
    exact ⟨rfl, rfl⟩
  · go_enter Try.func3, Try.ntmps3
    go_wp2_with fail
    refine (sqrt_pos _ _ (by omega) (by omega)).mono ?_; rintro e w' ⟨⟨r, rfl, h1, _, h2, h3⟩, rfl⟩
    go_wp2_with fail
    refine (div_any _ _ _ (by omega) (by omega) (by omega) (by omega)).mono ?_; rintro e w' ⟨rfl, rfl⟩
    go_wp2_with fail
    refine (sqrt_ref _ _ (by omega) (by omega)).mono ?_; rintro e w' ⟨⟨q, rfl, g1, g2, g3⟩, rfl⟩
    obtain rfl : q = r := by
      have x := root_le a q r h1 g2 h3
      have y := root_le a r q g1 h2 g3
      omega
    clear h1 h2 h3 g1 g2 g3
    go_wp2_with fail
    refine (div_ref _ _ _ (by omega) (by omega) (by omega) (by omega)).mono ?_; rintro e w' ⟨rfl, rfl⟩
    go_wp2
    go_ret
    exact ⟨rfl, rfl⟩
end Go.Proofs.Ytclaeamoflfjgab
