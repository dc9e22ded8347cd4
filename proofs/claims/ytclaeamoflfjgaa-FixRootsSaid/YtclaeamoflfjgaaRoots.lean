import Derived.Test.YtclaeamoflfjgaaSqrt
namespace Go.Proofs.Ytclaeamoflfjgaa
open Go.RowKit
/-! The law FixRoots: its walk. -/
theorem root_one (v r : Int) (h0 : 0 < v) (h1 : 0 ≤ r) (h2 : v < (r + 1) * (r + 1)) : 1 ≤ r := by
  by_cases h : r = 0
  · subst h; omega
  · omega
theorem root_four (r : Int) (h1 : 0 ≤ r) (h2 : r * r ≤ 4) (h3 : 4 < (r + 1) * (r + 1)) : r = 2 := by
  by_cases a : r ≤ 1
  · have : (r + 1) * (r + 1) ≤ 2 * 2 := Int.mul_le_mul (by omega) (by omega) (by omega) (by omega)
    omega
  · by_cases b : 3 ≤ r
    · have : 3 * 3 ≤ r * r := Int.mul_le_mul b b (by omega) (by omega)
      omega
    · omega
set_option maxHeartbeats 400000 in
theorem roots_walk (v : Int) (w : World) (v0 : -9223372036854775808 ≤ v) (v1 : v ≤ 9223372036854775807) :
    Calls Try.prog 4 #[.int .i64 v] w fun e w' => e = .returned (.bool true) ∧ w' = w := by
  by_cases c0 : v ≤ 0
  · go_enter Try.func4, Try.ntmps4
    go_wp2_with fail
    refine (sqrt_low _ _ (by omega)).mono ?_; rintro e w' ⟨rfl, rfl⟩
    go_wp2_with fail
    refine (sqrt_pos _ _ (by omega) (by omega)).mono ?_; rintro e w' ⟨⟨r, rfl, h1, _, h2, h3⟩, rfl⟩
    obtain rfl := root_four r h1 h2 h3
    clear h1 h2 h3
    go_wp2
    go_ret
    exact ⟨rfl, rfl⟩
  · go_enter Try.func4, Try.ntmps4
    go_wp2_with fail
    refine (sqrt_pos _ _ (by omega) (by omega)).mono ?_; rintro e w' ⟨⟨r, rfl, h1, hr, h2, h3⟩, rfl⟩
    have g1 := root_one v r (by omega) h1 h3
    have g2 : r ≤ v / r := (Int.le_ediv_iff_mul_le (by omega)).2 h2
    have g3 : v / (r + 1) < r + 1 := (Int.ediv_lt_iff_lt_mul (by omega)).2 h3
    clear h2 h3
    go_wp2
    go_ret
    exact ⟨rfl, rfl⟩
end Go.Proofs.Ytclaeamoflfjgaa
