import Derived.Test.YtjjnfpeeipainaaMats
namespace Go.Proofs.Ytjjnfpeeipainaa
open Go.RowKit
/-! The reference's Check. -/
set_option maxHeartbeats 4000000 in
theorem check_rshape {w : World} {R C : Int} {ao : Option Addr} {n cap : Nat} (hn : n ≤ 9223372036854775807) (hs : shp R C n = false) :
    Calls Try.prog 65 #[.agg #[.int .i64 R, .int .i64 C, .slice ao n cap]] w fun e w' => e = .returned (.int .i64 30) ∧ Below w.heap.size w w' := by
  by_cases r : R < 1
  · have d1 : decide (R < 1) = true := by simp; omega
    clear hs
    go_enter Try.func65, Try.ntmps65
    go_wp2
    go_quiet (fail)
    go_wp2
    go_ret
    exact ⟨rfl, below_drewN (fresh_alloc _ _) _⟩
  · have d1 : decide (R < 1) = false := by simp; omega
    by_cases c : C < 1
    · have d2 : decide (C < 1) = true := by simp; omega
      clear hs
      go_enter Try.func65, Try.ntmps65
      go_wp2
      go_quiet (fail)
      go_wp2
      go_ret
      exact ⟨rfl, below_drewN (fresh_alloc _ _) _⟩
    · obtain ⟨c', rfl⟩ := Int.eq_ofNat_of_zero_le (show 0 ≤ C by omega)
      have d2 : decide ((c' : Int) < 1) = false := by simp; omega
      have hz : ¬ (c' : Int) = 0 := by omega
      have e1 : (n : Int).tmod (c' : Int) = (n : Int) % (c' : Int) := rfl
      have e2 : (n : Int).tdiv (c' : Int) = (n : Int) / (c' : Int) := rfl
      have hq := Int.ediv_nonneg (show 0 ≤ (n : Int) by omega) (show 0 ≤ (c' : Int) by omega)
      have hq2 := Int.ediv_le_self (c' : Int) (show 0 ≤ (n : Int) by omega)
      cases hm : ((n : Int) % (c' : Int) == 0) with
      | false =>
        have hm' : ((n : Int) % (c' : Int) != 0) = true := by rw [bne, hm]; rfl
        clear hm hs
        go_enter Try.func65, Try.ntmps65
        go_wp2
        go_quiet (fail)
        go_wp2
        go_ret
        exact ⟨rfl, below_drewN (fresh_alloc _ _) _⟩
      | true =>
        have hm' : ((n : Int) % (c' : Int) != 0) = false := by rw [bne, hm]; rfl
        have e : shp R c' n = ((n : Int) / c' == R) := by unfold shp; rw [hm, decide_eq_true (by omega), decide_eq_true (by omega)]; simp
        rw [e] at hs
        have hr' : ((n : Int) / (c' : Int) != R) = true := by rw [bne, hs]; rfl
        clear e hm hs
        go_enter Try.func65, Try.ntmps65
        go_wp2
        go_quiet (fail)
        go_wp2
        go_ret
        exact ⟨rfl, below_drewN (fresh_alloc _ _) _⟩
end Go.Proofs.Ytjjnfpeeipainaa
