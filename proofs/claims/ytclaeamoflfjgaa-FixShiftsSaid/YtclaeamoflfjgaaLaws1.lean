import Derived.Test.YtclaeamoflfjgaaShift
import Derived.Test.YtclaeamoflfjgaaShiftRef
import Derived.Test.YtclaeamoflfjgaaDiv
namespace Go.Proofs.Ytclaeamoflfjgaa
open Go.RowKit
/-! The laws FixShifts, FixWhole and FixNearest: their walks. -/
theorem rest_eq (a b : Int) (s1 : b ≤ 9223372036854775807) (h0 : 0 ≤ a % b) (h1 : a % b < b) : wrap64 (a - wrap64 (a / b * b)) = a % b := by
  have he := Int.mul_ediv_add_emod a b
  rw [Int.mul_comm] at he
  generalize a / b * b = q at *
  unfold wrap64
  omega
set_option maxHeartbeats 400000 in
theorem shifts_walk (v s : Int) (w : World) (v0 : -9223372036854775808 ≤ v) (v1 : v ≤ 9223372036854775807) (s0 : -9223372036854775808 ≤ s) (s1 : s ≤ 9223372036854775807) :
    Calls Try.prog 6 #[.int .i64 v, .int .i64 s] w fun e w' => e = .returned (.bool true) ∧ w' = w := by
  go_enter Try.func6, Try.ntmps6
  go_wp2_with fail
  refine (shift_any _ _ _ (by omega) (by omega) (by omega) (by omega)).mono ?_; rintro e w' ⟨rfl, rfl⟩
  go_wp2_with fail
  refine (shift_ref _ _ _ (by omega) (by omega) (by omega) (by omega)).mono ?_; rintro e w' ⟨rfl, rfl⟩
  go_wp2
  go_ret
  exact ⟨rfl, rfl⟩
set_option maxHeartbeats 400000 in
theorem whole_walk (a b : Int) (w : World) (v0 : -9223372036854775808 ≤ a) (v1 : a ≤ 9223372036854775807) (s0 : -9223372036854775808 ≤ b) (s1 : b ≤ 9223372036854775807) :
    Calls Try.prog 5 #[.int .i64 a, .int .i64 b] w fun e w' => e = .returned (.bool true) ∧ w' = w := by
  by_cases c0 : b ≤ 0
  · have E := hidd (Fix.dv_le a b c0)
    have E2 := hidd (show Fix.dv 7 3 = 2 by decide)
    go_enter Try.func5, Try.ntmps5
    go_wp2_with fail
    refine (div_any _ _ _ (by omega) (by omega) (by omega) (by omega)).mono ?_; rintro e w' ⟨rfl, rfl⟩
    rw [E.out]
    go_wp2_with fail
    refine (div_any _ _ _ (by omega) (by omega) (by omega) (by omega)).mono ?_; rintro e w' ⟨rfl, rfl⟩
    rw [E2.out]
    go_wp2
    go_ret
    exact ⟨rfl, rfl⟩
  · have hb := Fix.quo_bd a b (by omega) v0 v1
    have E := hidd (Fix.dv_gt a b (by omega))
    have hm0 := Int.emod_nonneg a (show b ≠ 0 by omega)
    have hm1 := Int.emod_lt_of_pos a (show 0 < b by omega)
    have he := rest_eq a b s1 hm0 hm1
    have h0 : 0 ≤ wrap64 (a - wrap64 (a / b * b)) := by omega
    have h1 : wrap64 (a - wrap64 (a / b * b)) < b := by omega
    clear he hm0 hm1
    go_enter Try.func5, Try.ntmps5
    go_wp2_with fail
    refine (div_any _ _ _ (by omega) (by omega) (by omega) (by omega)).mono ?_; rintro e w' ⟨rfl, rfl⟩
    rw [E.out]
    go_wp2
    go_ret
    exact ⟨rfl, rfl⟩
set_option maxHeartbeats 400000 in
theorem nearest_out (v s : Int) (w : World) (v0 : -9223372036854775808 ≤ v) (v1 : v ≤ 9223372036854775807) (s0 : -9223372036854775808 ≤ s) (s1 : s ≤ 9223372036854775807)
    (h : v < -1152921504606846976 ∨ v > 1152921504606846976 ∨ s < 1 ∨ s > 40) :
    Calls Try.prog 3 #[.int .i64 v, .int .i64 s] w fun e w' => e = .returned (.bool true) ∧ w' = w := by
  have E := hidd (show Fix.sh 7 0 = 7 by decide)
  by_cases c0 : v < -1152921504606846976
  · go_enter Try.func3, Try.ntmps3
    go_wp2_with fail
    refine (shift_any _ _ _ (by omega) (by omega) (by omega) (by omega)).mono ?_; rintro e w' ⟨rfl, rfl⟩
    rw [E.out]
    go_wp2
    go_ret
    exact ⟨rfl, rfl⟩
  by_cases c1 : v > 1152921504606846976
  · go_enter Try.func3, Try.ntmps3
    go_wp2_with fail
    refine (shift_any _ _ _ (by omega) (by omega) (by omega) (by omega)).mono ?_; rintro e w' ⟨rfl, rfl⟩
    rw [E.out]
    go_wp2
    go_ret
    exact ⟨rfl, rfl⟩
  by_cases c2 : s < 1
  · go_enter Try.func3, Try.ntmps3
    go_wp2_with fail
    refine (shift_any _ _ _ (by omega) (by omega) (by omega) (by omega)).mono ?_; rintro e w' ⟨rfl, rfl⟩
    rw [E.out]
    go_wp2
    go_ret
    exact ⟨rfl, rfl⟩
  have c3 : s > 40 := by omega
  go_enter Try.func3, Try.ntmps3
  go_wp2_with fail
  refine (shift_any _ _ _ (by omega) (by omega) (by omega) (by omega)).mono ?_; rintro e w' ⟨rfl, rfl⟩
  rw [E.out]
  go_wp2
  go_ret
  exact ⟨rfl, rfl⟩
set_option maxHeartbeats 400000 in
theorem nearest_core (v s U H : Int) (w : World) (v0 : -1152921504606846976 ≤ v) (v1 : v ≤ 1152921504606846976) (s0 : 1 ≤ s) (s1 : s ≤ 40)
    (hU : (2 : Int) ^ s.toNat = U) (u0 : 2 * H ≤ U) (u1 : U ≤ 2 * H) (u2 : 1 ≤ H) (u3 : H ≤ 549755813888)
    (q0 : -H ≤ v - Fix.sh v s * U) (q1 : v - Fix.sh v s * U < H)
    (t0 : -1152921504606846976 ≤ v.tdiv U * U) (t1 : v.tdiv U * U ≤ 1152921504606846976) (t2 : -1152921504606846976 ≤ v.tdiv U) (t3 : v.tdiv U ≤ 1152921504606846976)
    (hb : Hid (Fix.sh (v.tdiv U * U) s = v.tdiv U)) (m0 : wrap64 (-(U.tdiv 2)) ≤ -H) :
    Calls Try.prog 3 #[.int .i64 v, .int .i64 s] w fun e w' => e = .returned (.bool true) ∧ w' = w := by
  go_enter Try.func3, Try.ntmps3
  go_wp2_with fail
  refine (shift_any _ _ _ (by omega) (by omega) (by omega) (by omega)).mono ?_; rintro e w' ⟨rfl, rfl⟩
  go_wp2_with fail
  refine (shift_any _ _ _ (by omega) (by omega) (by omega) (by omega)).mono ?_; rintro e w' ⟨rfl, rfl⟩
  rw [hb.out]
  go_wp2
  go_ret
  exact ⟨rfl, rfl⟩
theorem nearest_in (v s : Int) (w : World) (v0 : -1152921504606846976 ≤ v) (v1 : v ≤ 1152921504606846976) (s0 : 1 ≤ s) (s1 : s ≤ 40) :
    Calls Try.prog 3 #[.int .i64 v, .int .i64 s] w fun e w' => e = .returned (.bool true) ∧ w' = w := by
  obtain ⟨n, rfl, hn⟩ : ∃ n : Nat, s = (n : Int) + 1 ∧ n < 40 := ⟨(s - 1).toNat, by omega, by omega⟩
  have hp := Fix.pow_le40 n hn
  have hq := Fix.near_lo v n (by omega)
  have ht := Fix.near_quo v (2 ^ n * 2) (by omega)
  have hU : (2 : Int) ^ ((n : Int) + 1).toNat = 2 ^ n * 2 := by rw [show ((n : Int) + 1).toNat = n + 1 by omega, Int.pow_succ]
  have hm : wrap64 (-((2 ^ n * 2 : Int).tdiv 2)) ≤ -(2 ^ n) := by
    rw [Int.tdiv_eq_ediv_of_nonneg (by omega), wr _ (by omega) (by omega)]
    omega
  exact nearest_core v ((n : Int) + 1) (2 ^ n * 2) (2 ^ n) w v0 v1 s0 s1 hU (by omega) (by omega) hp.1 hp.2 hq.1 hq.2 (by omega) (by omega) (by omega) (by omega) (hidd (Fix.near_back _ n (by omega))) hm
theorem nearest_walk (v s : Int) (w : World) (v0 : -9223372036854775808 ≤ v) (v1 : v ≤ 9223372036854775807) (s0 : -9223372036854775808 ≤ s) (s1 : s ≤ 9223372036854775807) :
    Calls Try.prog 3 #[.int .i64 v, .int .i64 s] w fun e w' => e = .returned (.bool true) ∧ w' = w := by
  by_cases h : v < -1152921504606846976 ∨ v > 1152921504606846976 ∨ s < 1 ∨ s > 40
  · exact nearest_out v s w v0 v1 s0 s1 h
  · exact nearest_in v s w (by omega) (by omega) (by omega) (by omega)
end Go.Proofs.Ytclaeamoflfjgaa
