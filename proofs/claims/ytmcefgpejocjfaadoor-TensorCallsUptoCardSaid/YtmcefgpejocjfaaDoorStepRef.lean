import Derived.Test.YtmcefgpejocjfaaDoorTrn
import Derived.Test.YtmcefgpejocjfaaDoorRefs1
namespace Go.Proofs.YtmcefgpejocjfaaDoor
open Go.RowKit
/-! The reference's Step and small. -/
theorem rc_step (tC tS uC uS : Int) : Fix.sh (wrap64 (wrap64 (tC * uC) - wrap64 (tS * uS))) 14 = rc uC uS tC tS := by rw [wsub, Int.mul_comm tC, Int.mul_comm tS]; rfl
theorem rs_step (tC tS uC uS : Int) : Fix.sh (wrap64 (wrap64 (tC * uS) + wrap64 (tS * uC))) 14 = rs uC uS tC tS := by rw [wadd, Int.mul_comm tC, Int.mul_comm tS, Int.add_comm]; rfl
set_option maxHeartbeats 400000 in
theorem small_ok (x : Int) (w : World) (h0 : -16384 ≤ x) (h1 : x ≤ 16384) : Calls Tryd.prog 78 #[.int .i64 x] w fun e w' => e = .returned (.bool true) ∧ w' = w := by
  go_enter Tryd.func78, Tryd.ntmps78
  go_wp2
  go_ret
  exact ⟨ret_bool (by simp; try omega), rfl⟩
set_option maxHeartbeats 400000 in
theorem small_bad (x : Int) (w : World) (h : x < -16384 ∨ 16384 < x) : Calls Tryd.prog 78 #[.int .i64 x] w fun e w' => e = .returned (.bool false) ∧ w' = w := by
  rcases h with h | h
  · go_enter Tryd.func78, Tryd.ntmps78
    go_wp2
    go_ret
    exact ⟨ret_bool (by simp; try omega), rfl⟩
  · go_enter Tryd.func78, Tryd.ntmps78
    go_wp2
    go_ret
    exact ⟨ret_bool (by simp; try omega), rfl⟩
set_option maxHeartbeats 1000000 in
theorem step_ref (tC tS uC uS : Int) (w : World) :
    Calls Tryd.prog 79 #[.agg #[.int .i64 tC, .int .i64 tS], .agg #[.int .i64 uC, .int .i64 uS]] w fun e w' => e = .returned (.agg #[.int .i64 (Fix.cl (rc uC uS tC tS) 16384), .int .i64 (Fix.cl (rs uC uS tC tS) 16384)]) ∧ Below w.heap.size w w' := by
  have b1 := rc_bd uC uS tC tS
  have b2 := rs_bd uC uS tC tS
  go_enter Tryd.func79, Tryd.ntmps79
  go_wp2_with fail
  refine (shift_ref _ _ _ (wbd _).1 (wbd _).2 (by decide) (by decide)).mono ?_
  rintro e w1 ⟨rfl, hw1⟩
  rw [hw1, rc_step]
  clear hw1
  go_wp2_with fail
  refine (shift_ref _ _ _ (wbd _).1 (wbd _).2 (by decide) (by decide)).mono ?_
  rintro e w2 ⟨rfl, hw2⟩
  rw [hw2, rs_step]
  clear hw2
  go_wp2_with fail
  refine (clamp_ref _ 16384 _ b1.1 b1.2 (by decide) (by decide)).mono ?_
  rintro e w2 ⟨rfl, hw2⟩
  rw [hw2]
  clear hw2
  go_wp2_with fail
  refine (clamp_ref _ 16384 _ b2.1 b2.2 (by decide) (by decide)).mono ?_
  rintro e w2 ⟨rfl, hw2⟩
  rw [hw2]
  clear hw2
  go_wp2
  exact bodyPost_ret (v := .agg #[.int .i64 (Fix.cl (rc uC uS tC tS) 16384), .int .i64 (Fix.cl (rs uC uS tC tS) 16384)]) (by simp [results, Tryd.results79, go_sem]) rfl ⟨rfl, fresh_trans (fresh_trans (fresh_alloc w _) (fresh_alloc _ _)) (fresh_alloc _ _)⟩
end Go.Proofs.YtmcefgpejocjfaaDoor
