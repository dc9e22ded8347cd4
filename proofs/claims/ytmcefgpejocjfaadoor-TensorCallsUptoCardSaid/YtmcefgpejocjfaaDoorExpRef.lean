import Derived.Test.YtmcefgpejocjfaaDoorRefs1
import Derived.Test.YtmcefgpejocjfaaDoorFixExp
namespace Go.Proofs.YtmcefgpejocjfaaDoor
open Go.RowKit
/-! The contract of the document's answer for Exp. -/
theorem hor_one (r : Int) : Fix.hor r 1 = 35472643 := by
  show (35472643 : Int) + Fix.sh (0 * r) 16 = 35472643
  rw [Int.zero_mul]; decide
theorem name_it (x c : Int) : ∃ P, x = P - c ∧ P = c + x := ⟨c + x, by omega, rfl⟩
set_option maxHeartbeats 400000 in
theorem expn_ref (n : Int) (w : World) (n0 : 0 ≤ n) (n1 : n ≤ 1048576) :
    Calls Tryd.prog 76 #[.int .i64 (-n)] w fun e w' => e = .returned (.int .i64 (Fix.exn n)) ∧ w' = w := by
  have HD := hidd (Fix.dv_gt n 45426 (by omega))
  have HF := hidd (show Fix.exn n = Fix.sh (Fix.sh (Fix.hor (n - 45426 * (n / 45426)) 5) 14) (n / 45426) by
    unfold Fix.exn; rw [show n - 45426 * (n / 45426) = n % 45426 by omega])
  go_enter Tryd.func76, Tryd.ntmps76
  go_wp2_with fail
  refine (div_ref _ _ _ (by omega) (by omega) (by omega) (by omega)).mono ?_; rintro e w' ⟨rfl, rfl⟩
  rw [HD.out]
  have r0 : 0 ≤ n - 45426 * (n / 45426) := by omega
  have r1 : n - 45426 * (n / 45426) ≤ 45425 := by omega
  have q0 : 0 ≤ n / 45426 := by omega
  have q1 : n / 45426 ≤ 23 := by omega
  go_wp2_with fail
  generalize n - 45426 * (n / 45426) = r at *
  generalize n / 45426 = q at *
  have h1 := Fix.hor_mul_bd r r0 r1 1
  rw [hor_one] at h1
  refine (shift_ref _ _ _ (by omega) (by omega) (by omega) (by omega)).mono ?_; rintro e w' ⟨rfl, rfl⟩
  obtain ⟨P1, e1, f1⟩ := name_it (Fix.sh (35472643 * r) 16) (-175978408)
  have F1 := hidd (show P1 = Fix.hor r 2 by rw [f1]; show _ = Fix.co 1 + Fix.sh (Fix.hor r 1 * r) 16; rw [hor_one]; rfl)
  rw [e1]
  clear e1 f1 h1
  have b1 := Fix.hor_bd r r0 r1 2
  have h2 := Fix.hor_mul_bd r r0 r1 2
  rw [← F1.out] at b1 h2
  go_wp2_with fail
  refine (shift_ref _ _ _ (by omega) (by omega) (by omega) (by omega)).mono ?_; rintro e w' ⟨rfl, rfl⟩
  obtain ⟨P2, e2, f2⟩ := name_it (Fix.sh (P1 * r) 16) 536691957
  have F2 := hidd (show P2 = Fix.hor r 3 by rw [f2, F1.out]; rfl)
  rw [e2]
  clear e2 f2 h2
  have b2 := Fix.hor_bd r r0 r1 3
  have h3 := Fix.hor_mul_bd r r0 r1 3
  rw [← F2.out] at b2 h3
  go_wp2_with fail
  refine (shift_ref _ _ _ (by omega) (by omega) (by omega) (by omega)).mono ?_; rintro e w' ⟨rfl, rfl⟩
  obtain ⟨P3, e3, f3⟩ := name_it (Fix.sh (P2 * r) 16) (-1073764153)
  have F3 := hidd (show P3 = Fix.hor r 4 by rw [f3, F2.out]; rfl)
  rw [e3]
  clear e3 f3 h3
  have b3 := Fix.hor_bd r r0 r1 4
  have h4 := Fix.hor_mul_bd r r0 r1 4
  rw [← F3.out] at b3 h4
  go_wp2_with fail
  refine (shift_ref _ _ _ (by omega) (by omega) (by omega) (by omega)).mono ?_; rintro e w' ⟨rfl, rfl⟩
  obtain ⟨P4, e4, f4⟩ := name_it (Fix.sh (P3 * r) 16) 1073741824
  have F4 := hidd (show P4 = Fix.hor r 5 by rw [f4, F3.out]; rfl)
  rw [e4]
  clear e4 f4 h4
  have b4 := Fix.hor_bd r r0 r1 5
  have h5 := Fix.hor_mul_bd r r0 r1 5
  rw [← F4.out] at b4 h5
  go_wp2_with fail
  refine (shift_ref _ _ _ (by omega) (by omega) (by omega) (by omega)).mono ?_; rintro e w' ⟨rfl, rfl⟩
  have hs := Fix.sh_shrink P4 4294967296 14 (by decide) b4.1 b4.2
  go_wp2_with fail
  refine (shift_ref _ _ _ (by omega) (by omega) (by omega) (by omega)).mono ?_; rintro e w' ⟨rfl, rfl⟩
  go_wp2
  go_ret
  exact ⟨ret_int (by rw [HF.out, F4.out]), rfl⟩
set_option maxHeartbeats 400000 in
theorem exp_ref_low (z : Int) (w : World) (c : z < -1048576) :
    Calls Tryd.prog 76 #[.int .i64 z] w fun e w' => e = .returned (.int .i64 0) ∧ w' = w := by
  go_enter Tryd.func76, Tryd.ntmps76
  go_wp2
  go_ret
  exact ⟨rfl, rfl⟩
theorem exp0 : Fix.exn 0 = 65536 := by decide
set_option maxHeartbeats 400000 in
theorem exp_ref_high (z : Int) (w : World) (c : 0 < z) :
    Calls Tryd.prog 76 #[.int .i64 z] w fun e w' => e = .returned (.int .i64 (Fix.exn 0)) ∧ w' = w := by
  have HD := hidd (show Fix.dv 0 45426 = 0 by decide)
  have H0 := hidd (show Fix.sh 0 16 = 0 by decide)
  have H1 := hidd (show Fix.sh 1073741824 14 = 65536 by decide)
  have H2 := hidd (show Fix.sh 65536 0 = 65536 by decide)
  rw [exp0]
  go_enter Tryd.func76, Tryd.ntmps76
  go_wp2_with fail
  refine (div_ref _ _ _ (by omega) (by omega) (by omega) (by omega)).mono ?_; rintro e w' ⟨rfl, rfl⟩
  rw [HD.out]
  go_wp2_with fail
  refine (shift_ref _ _ _ (by omega) (by omega) (by omega) (by omega)).mono ?_; rintro e w' ⟨rfl, rfl⟩
  rw [H0.out]
  go_wp2_with fail
  refine (shift_ref _ _ _ (by omega) (by omega) (by omega) (by omega)).mono ?_; rintro e w' ⟨rfl, rfl⟩
  rw [H0.out]
  go_wp2_with fail
  refine (shift_ref _ _ _ (by omega) (by omega) (by omega) (by omega)).mono ?_; rintro e w' ⟨rfl, rfl⟩
  rw [H0.out]
  go_wp2_with fail
  refine (shift_ref _ _ _ (by omega) (by omega) (by omega) (by omega)).mono ?_; rintro e w' ⟨rfl, rfl⟩
  rw [H0.out]
  go_wp2_with fail
  refine (shift_ref _ _ _ (by omega) (by omega) (by omega) (by omega)).mono ?_; rintro e w' ⟨rfl, rfl⟩
  rw [H1.out]
  go_wp2_with fail
  refine (shift_ref _ _ _ (by omega) (by omega) (by omega) (by omega)).mono ?_; rintro e w' ⟨rfl, rfl⟩
  rw [H2.out]
  go_wp2
  go_ret
  exact ⟨rfl, rfl⟩
theorem exp_ref (z : Int) (w : World) :
    Calls Tryd.prog 76 #[.int .i64 z] w fun e w' => e = .returned (.int .i64 (Fix.ex z)) ∧ w' = w := by
  by_cases c0 : z < -1048576
  · rw [Fix.ex_low z c0]; exact exp_ref_low z w c0
  · by_cases c1 : 0 < z
    · rw [Fix.ex_high z (by omega)]; exact exp_ref_high z w c1
    · have h := expn_ref (-z) w (by omega) (by omega)
      rw [Int.neg_neg] at h
      rw [Fix.ex_mid z (by omega) (by omega)]
      exact h
end Go.Proofs.YtmcefgpejocjfaaDoor
