import Derived.Test.YtclaeamoflfjgaaDoorExp
import Derived.Test.YtclaeamoflfjgaaDoorFixProd
namespace Go.Proofs.YtclaeamoflfjgaaDoor
open Go.RowKit
/-! The law FixHalves: its walk. -/
theorem ex_first : Fix.ex (-65536) = 24110 := by
  rw [Fix.ex_mid _ (by decide) (by decide)]; decide +kernel
/-- what is said of a and b in range, in the walk's words -/
theorem facts (a b : Int) (a0 : -524288 ≤ a) (a1 : a ≤ 0) (b0 : -524288 ≤ b) (b1 : b ≤ 0) :
    (-1 ≤ 2 * Fix.ex (a - 45426) - Fix.ex a ∧ 2 * Fix.ex (a - 45426) - Fix.ex a ≤ 1) ∧ (-8 ≤ Fix.ex (a + b) - Fix.sh (Fix.ex a * Fix.ex b) 16 ∧ Fix.ex (a + b) - Fix.sh (Fix.ex a * Fix.ex b) 16 ≤ 8) := by
  obtain ⟨m, hm⟩ : ∃ m : Nat, -a = m := ⟨(-a).toNat, by omega⟩
  obtain ⟨n, hn⟩ : ∃ n : Nat, -b = n := ⟨(-b).toNat, by omega⟩
  have h1 := Fix.sum_near m n (by omega) (by omega)
  have h2 := Fix.half_near m
  rw [Fix.ex_mid a (by omega) a1, Fix.ex_mid b (by omega) b1, Fix.ex_mid (a + b) (by omega) (by omega), Fix.ex_mid (a - 45426) (by omega) (by omega)]
  rw [show -(a - 45426) = ((m + 45426 : Nat) : Int) by omega, show -(a + b) = ((m + n : Nat) : Int) by omega, hm, hn]
  refine ⟨?_, h1⟩
  rcases h2 with h2 | h2
  · exact h2
  · omega
theorem prod_rng (x y : Int) (x0 : 0 ≤ x) (x1 : x ≤ 65536) (y0 : 0 ≤ y) (y1 : y ≤ 65536) : 0 ≤ x * y ∧ x * y ≤ 4294967296 := by
  refine ⟨Int.mul_nonneg x0 y0, ?_⟩
  have := Int.mul_le_mul x1 y1 y0 (by decide)
  omega
set_option maxHeartbeats 400000 in
theorem halves_in (a b : Int) (w : World) (hw : Holds w) (a0 : -524288 ≤ a) (a1 : a ≤ 0) (b0 : -524288 ≤ b) (b1 : b ≤ 0) :
    Calls Tryd.prog 3 #[.int .i64 a, .int .i64 b] w fun e w' => e = .returned (.bool true) ∧ w' = w := by
  have HW := hidd hw
  clear hw
  have f := facts a b a0 a1 b0 b1
  have ra := Fix.ex_rng a
  have rb := Fix.ex_rng b
  have rc := Fix.ex_rng (a + b)
  have rd := Fix.ex_rng (a - 45426)
  have rp := prod_rng _ _ ra.1 ra.2 rb.1 rb.2
  have f1 := f.1.1
  have f2 := f.1.2
  have f3 := f.2.1
  have f4 := f.2.2
  clear f
  go_enter Tryd.func3, Tryd.ntmps3
  go_wp2_with fail
  refine (exp_any _ _ HW.out).mono ?_; rintro e w' ⟨rfl, rfl⟩
  rw [Fix.ex_zero]
  go_wp2_with fail
  refine (exp_any _ _ HW.out).mono ?_; rintro e w' ⟨rfl, rfl⟩
  rw [ex_first]
  go_wp2_with fail
  refine (exp_any _ _ HW.out).mono ?_; rintro e w' ⟨rfl, rfl⟩
  go_wp2_with fail
  refine (exp_any _ _ HW.out).mono ?_; rintro e w' ⟨rfl, rfl⟩
  go_wp2_with fail
  refine (exp_any _ _ HW.out).mono ?_; rintro e w' ⟨rfl, rfl⟩
  go_wp2_with fail
  refine (exp_any _ _ HW.out).mono ?_; rintro e w' ⟨rfl, rfl⟩
  go_wp2_with fail
  refine (shift_any _ _ _ (by omega) (by omega) (by omega) (by omega)).mono ?_; rintro e w' ⟨rfl, rfl⟩
  go_wp2
  go_ret
  exact ⟨rfl, rfl⟩
set_option maxHeartbeats 400000 in
theorem halves_out (a b : Int) (w : World) (hw : Holds w) (h : a > 0 ∨ b > 0 ∨ a < -524288 ∨ b < -524288) :
    Calls Tryd.prog 3 #[.int .i64 a, .int .i64 b] w fun e w' => e = .returned (.bool true) ∧ w' = w := by
  have HW := hidd hw
  clear hw
  by_cases c1 : a > 0
  · go_enter Tryd.func3, Tryd.ntmps3
    go_wp2_with fail
    refine (exp_any _ _ HW.out).mono ?_; rintro e w' ⟨rfl, rfl⟩
    rw [Fix.ex_zero]
    go_wp2_with fail
    refine (exp_any _ _ HW.out).mono ?_; rintro e w' ⟨rfl, rfl⟩
    rw [ex_first]
    go_wp2
    go_ret
    exact ⟨rfl, rfl⟩
  by_cases c2 : b > 0
  · go_enter Tryd.func3, Tryd.ntmps3
    go_wp2_with fail
    refine (exp_any _ _ HW.out).mono ?_; rintro e w' ⟨rfl, rfl⟩
    rw [Fix.ex_zero]
    go_wp2_with fail
    refine (exp_any _ _ HW.out).mono ?_; rintro e w' ⟨rfl, rfl⟩
    rw [ex_first]
    go_wp2
    go_ret
    exact ⟨rfl, rfl⟩
  by_cases c3 : a < -524288
  · go_enter Tryd.func3, Tryd.ntmps3
    go_wp2_with fail
    refine (exp_any _ _ HW.out).mono ?_; rintro e w' ⟨rfl, rfl⟩
    rw [Fix.ex_zero]
    go_wp2_with fail
    refine (exp_any _ _ HW.out).mono ?_; rintro e w' ⟨rfl, rfl⟩
    rw [ex_first]
    go_wp2
    go_ret
    exact ⟨rfl, rfl⟩
  have c4 : b < -524288 := by omega
  go_enter Tryd.func3, Tryd.ntmps3
  go_wp2_with fail
  refine (exp_any _ _ HW.out).mono ?_; rintro e w' ⟨rfl, rfl⟩
  rw [Fix.ex_zero]
  go_wp2_with fail
  refine (exp_any _ _ HW.out).mono ?_; rintro e w' ⟨rfl, rfl⟩
  rw [ex_first]
  go_wp2
  go_ret
  exact ⟨rfl, rfl⟩
theorem halves_walk (a b : Int) (w : World) (hw : Holds w) (a0 : -9223372036854775808 ≤ a) (a1 : a ≤ 9223372036854775807) (b0 : -9223372036854775808 ≤ b) (b1 : b ≤ 9223372036854775807) :
    Calls Tryd.prog 3 #[.int .i64 a, .int .i64 b] w fun e w' => e = .returned (.bool true) ∧ w' = w := by
  by_cases h : a > 0 ∨ b > 0 ∨ a < -524288 ∨ b < -524288
  · exact halves_out a b w hw h
  · exact halves_in a b w hw (by omega) (by omega) (by omega) (by omega)
end Go.Proofs.YtclaeamoflfjgaaDoor
