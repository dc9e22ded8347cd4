import Derived.Test.YtjjfbpjejhjdiabDoorShift
import Derived.Test.YtjjfbpjejhjdiabDoorBase
import Derived.Test.YtjjfbpjejhjdiabDoorFixExp
namespace Go.Proofs.YtjjfbpjejhjdiabDoor
open Go.RowKit
/-! The contracts of the document's answer for Shift. -/
theorem half_low (v : Int) (v0 : -9223372036854775808 ≤ v) (v1 : v ≤ 9223372036854775807) (c0 : v < 0) (c1 : v.tmod 2 < 0) : wrap64 ((wrap64 (v - 1)).tdiv 2) = v / 2 := by
  rw [Fix.tmod_low v 2 c0] at c1
  rw [wr (v - 1) (by omega) (by omega), Fix.tdiv_low (v - 1) 2 (by omega), wr _ (by omega) (by omega)]
  omega
theorem half_high (v : Int) (c1 : 0 ≤ v.tmod 2) : v.tdiv 2 = v / 2 := by
  by_cases c0 : 0 ≤ v
  · exact Int.tdiv_eq_ediv_of_nonneg c0
  · exact Fix.tdiv_neg_exact v 2 (by omega) (by omega) (by omega)
theorem tmod_neg (v : Int) (c1 : v.tmod 2 < 0) : v < 0 := by
  by_cases c0 : 0 ≤ v
  · have := Int.tmod_eq_emod_of_nonneg (b := 2) c0; omega
  · omega
set_option maxHeartbeats 400000 in
theorem half_ref (v : Int) (w : World) (v0 : -9223372036854775808 ≤ v) (v1 : v ≤ 9223372036854775807) :
    Calls Tryd.prog 64 #[.int .i64 v] w fun e w' => e = .returned (.int .i64 (v / 2)) ∧ w' = w := by
  by_cases c1 : v.tmod 2 < 0
  · have c0 := tmod_neg v c1
    go_enter Tryd.func64, Tryd.ntmps64
    go_wp2
    go_ret
    exact ⟨ret_int (half_low v v0 v1 c0 c1), rfl⟩
  · go_enter Tryd.func64, Tryd.ntmps64
    go_wp2
    go_ret
    exact ⟨ret_int (half_high v (by omega)), rfl⟩
theorem even_end (x : Int) (h : (x.tmod 2 == 0) = true) : x.tdiv 2 = (x + 1) / 2 := by
  have h' : x.tmod 2 = 0 := by simpa using h
  have h5 := Int.mul_tdiv_add_tmod x 2
  omega
theorem odd_end (x : Int) (h : (x.tmod 2 == 0) = false) : x / 2 + 1 = (x + 1) / 2 := by
  have h' : ¬ x.tmod 2 = 0 := by simpa using h
  have h5 : ¬ x % 2 = 0 := by
    intro h6
    exact h' (Int.tmod_eq_zero_of_dvd (by omega))
  omega
theorem sh_at (v s : Int) (k : Nat) (h0 : 0 < s) (h : min s 62 - 1 = (k : Int)) : (v / 2 ^ k + 1) / 2 = Fix.sh v s := by
  rw [Fix.sh_pos v s h0, h]; rfl
set_option maxHeartbeats 400000 in
theorem shift_ref (v s : Int) (w : World) (v0 : -9223372036854775808 ≤ v) (v1 : v ≤ 9223372036854775807) (s0 : -9223372036854775808 ≤ s) (s1 : s ≤ 9223372036854775807) :
    Calls Tryd.prog 48 #[.int .i64 v, .int .i64 s] w fun e w' => e = .returned (.int .i64 (Fix.sh v s)) ∧ w' = w := by
  by_cases c0 : s ≤ 0
  · go_enter Tryd.func48, Tryd.ntmps48
    go_wp2
    go_ret
    exact ⟨ret_int (Fix.sh_zero v s c0).symm, rfl⟩
  · go_enter Tryd.func48, Tryd.ntmps48
    go_wp2
    go_loop [0, 5] (fun x i => ∃ k : Nat, (k : Int) + 1 ≤ s ∧ k ≤ 61 ∧ i = .int .i64 ((k : Int) + 1) ∧ x = .int .i64 (v / 2 ^ k)) (fun _ i => (62 - intOf i).toNat)
    case atStart => exact ⟨0, by omega, by omega, rfl, by simp⟩
    case round =>
      obtain ⟨k, hk, hk2, rfl, rfl⟩ := hrel
      have hd := Fix.div_bd v k v0 v1
      have hs := Fix.div_split v k
      have HS := hidd hs
      clear hs
      by_cases c1 : (k : Int) + 1 < s
      · by_cases c2 : (k : Int) + 1 < 62
        · go_wp2_with (go_at_call 64; refine (half_ref _ _ (by omega) (by omega)).mono ?_; rintro e w' ⟨rfl, rfl⟩)
          go_round
          case rel => exact ⟨k + 1, by omega, by omega, by go_num, by rw [HS.out]⟩
          case measure => simp [intOf]; omega
        · by_cases ce : ((v / 2 ^ k).tmod 2 == 0) = true
          · have E := hidd (even_end _ ce)
            go_wp2
            go_ret
            exact ⟨ret_int (by rw [E.out]; exact sh_at v s k (by omega) (by omega)), rfl⟩
          · have ce' : ((v / 2 ^ k).tmod 2 == 0) = false := by simpa using ce
            have E := hidd (odd_end _ ce')
            clear ce
            go_wp2_with (go_at_call 64; refine (half_ref _ _ (by omega) (by omega)).mono ?_; rintro e w' ⟨rfl, rfl⟩)
            go_ret
            exact ⟨ret_int (by rw [E.out]; exact sh_at v s k (by omega) (by omega)), rfl⟩
      · by_cases ce : ((v / 2 ^ k).tmod 2 == 0) = true
        · have E := hidd (even_end _ ce)
          go_wp2
          go_ret
          exact ⟨ret_int (by rw [E.out]; exact sh_at v s k (by omega) (by omega)), rfl⟩
        · have ce' : ((v / 2 ^ k).tmod 2 == 0) = false := by simpa using ce
          have E := hidd (odd_end _ ce')
          clear ce
          go_wp2_with (go_at_call 64; refine (half_ref _ _ (by omega) (by omega)).mono ?_; rintro e w' ⟨rfl, rfl⟩)
          go_ret
          exact ⟨ret_int (by rw [E.out]; exact sh_at v s k (by omega) (by omega)), rfl⟩
end Go.Proofs.YtjjfbpjejhjdiabDoor
namespace Go.Proofs.YtjjfbpjejhjdiabDoor
open Go.RowKit
/-! The contract of the document's answer for Div. -/
set_option maxHeartbeats 400000 in
theorem div_ref (a b : Int) (w : World) (v0 : -9223372036854775808 ≤ a) (v1 : a ≤ 9223372036854775807) (s0 : -9223372036854775808 ≤ b) (s1 : b ≤ 9223372036854775807) :
    Calls Tryd.prog 35 #[.int .i64 a, .int .i64 b] w fun e w' => e = .returned (.int .i64 (Fix.dv a b)) ∧ w' = w := by
  by_cases c0 : b ≤ 0
  · go_enter Tryd.func35, Tryd.ntmps35
    go_wp2
    go_ret
    exact ⟨ret_int (Fix.dv_le a b c0).symm, rfl⟩
  · have hb := Fix.quo_bd a b (by omega) v0 v1
    by_cases c1 : 0 ≤ a
    · have hm : a / b * b ≤ a := Int.ediv_mul_le a (by omega)
      have hn : 0 ≤ a / b := Int.ediv_nonneg c1 (by omega)
      have hp : 0 ≤ a / b * b := Int.mul_nonneg hn (by omega)
      go_enter Tryd.func35, Tryd.ntmps35
      go_wp2
      go_ret
      exact ⟨ret_int (Fix.dv_gt a b (by omega)).symm, rfl⟩
    · have hn := Fix.near_quo a b (by omega)
      have hx := Int.mul_tdiv_add_tmod a b
      rw [Int.mul_comm] at hx
      have g0 : -9223372036854775808 ≤ a.tdiv b * b := by omega
      have g1 : a.tdiv b * b ≤ 9223372036854775807 := by
        have := Fix.tmod_low a b (by omega)
        have := Int.emod_lt_of_pos (-a) (show 0 < b by omega)
        have := Int.emod_nonneg (-a) (show b ≠ 0 by omega)
        have : (-a) % b ≤ -a := by
          have h := Int.mul_ediv_add_emod (-a) b
          have h2 := Int.mul_nonneg (show 0 ≤ b by omega) (Int.ediv_nonneg (show 0 ≤ -a by omega) (show 0 ≤ b by omega))
          omega
        omega
      by_cases c2 : a.tmod b < 0
      · have e := Fix.tdiv_neg_rest a b (by omega) (by omega) c2
        have e2 : wrap64 (a.tdiv b - 1) = Fix.dv a b := by rw [e, wr _ hb.1 hb.2, Fix.dv_gt a b (by omega)]
        have E := hidd e2
        have c3 : a < a.tdiv b * b := by omega
        clear e e2 hx hn
        go_enter Tryd.func35, Tryd.ntmps35
        go_wp2
        go_ret
        exact ⟨ret_int (by first | exact E.out | (rw [← E.out, wr _ (by omega) (by omega)])), rfl⟩
      · have e := Fix.tdiv_neg_exact a b (by omega) (by omega) c2
        have e2 : a.tdiv b = Fix.dv a b := by rw [e, Fix.dv_gt a b (by omega)]
        have E := hidd e2
        have c3 : a.tdiv b * b ≤ a := by omega
        clear e e2 hx hn
        go_enter Tryd.func35, Tryd.ntmps35
        go_wp2
        go_ret
        exact ⟨ret_int E.out, rfl⟩
end Go.Proofs.YtjjfbpjejhjdiabDoor
namespace Go.Proofs.YtjjfbpjejhjdiabDoor
open Go.RowKit
/-! The contracts of the clamps. -/
set_option maxHeartbeats 400000 in
theorem clamp_ref (v m : Int) (w : World) (v0 : -9223372036854775808 ≤ v) (v1 : v ≤ 9223372036854775807) (s0 : -9223372036854775808 ≤ m) (s1 : m ≤ 9223372036854775807) :
    Calls Tryd.prog 47 #[.int .i64 v, .int .i64 m] w fun e w' => e = .returned (.int .i64 (Fix.cl v m)) ∧ w' = w := by
  by_cases c0 : m < 0
  · go_enter Tryd.func47, Tryd.ntmps47
    go_wp2
    all_goals go_ret
    all_goals exact ⟨ret_int (by unfold Fix.cl; omega), rfl⟩
  · go_enter Tryd.func47, Tryd.ntmps47
    go_wp2
    all_goals go_ret
    all_goals exact ⟨ret_int (by unfold Fix.cl; omega), rfl⟩
end Go.Proofs.YtjjfbpjejhjdiabDoor
namespace Go.Proofs.YtjjfbpjejhjdiabDoor
open Go.RowKit
/-! The contract of the document's answer for Exp. -/
theorem hor_one (r : Int) : Fix.hor r 1 = 35472643 := by
  show (35472643 : Int) + Fix.sh (0 * r) 16 = 35472643
  rw [Int.zero_mul]; decide
theorem name_it (x c : Int) : ∃ P, x = P - c ∧ P = c + x := ⟨c + x, by omega, rfl⟩
set_option maxHeartbeats 400000 in
theorem expn_ref (n : Int) (w : World) (n0 : 0 ≤ n) (n1 : n ≤ 1048576) :
    Calls Tryd.prog 36 #[.int .i64 (-n)] w fun e w' => e = .returned (.int .i64 (Fix.exn n)) ∧ w' = w := by
  have HD := hidd (Fix.dv_gt n 45426 (by omega))
  have HF := hidd (show Fix.exn n = Fix.sh (Fix.sh (Fix.hor (n - 45426 * (n / 45426)) 5) 14) (n / 45426) by
    unfold Fix.exn; rw [show n - 45426 * (n / 45426) = n % 45426 by omega])
  go_enter Tryd.func36, Tryd.ntmps36
  go_wp2_with fail
  refine (div_ref _ _ _ (by omega) (by omega) (by omega) (by omega)).mono ?_; rintro e w' ⟨rfl, rfl⟩
  rw [HD.out]
  have r0 : 0 ≤ n - 45426 * (n / 45426) := by omega
  have r1 : n - 45426 * (n / 45426) ≤ 45425 := by omega
  have q0 : 0 ≤ n / 45426 := by omega
  have q1 : n / 45426 ≤ 23 := by omega
  go_wp2_with fail
  generalize n - 45426 * (n / 45426) = r at *
  generalize n / 45426 = q at *
  have h1 := Fix.hor_mul_bd r r0 r1 1
  rw [hor_one] at h1
  refine (shift_ref _ _ _ (by omega) (by omega) (by omega) (by omega)).mono ?_; rintro e w' ⟨rfl, rfl⟩
  obtain ⟨P1, e1, f1⟩ := name_it (Fix.sh (35472643 * r) 16) (-175978408)
  have F1 := hidd (show P1 = Fix.hor r 2 by rw [f1]; show _ = Fix.co 1 + Fix.sh (Fix.hor r 1 * r) 16; rw [hor_one]; rfl)
  rw [e1]
  clear e1 f1 h1
  have b1 := Fix.hor_bd r r0 r1 2
  have h2 := Fix.hor_mul_bd r r0 r1 2
  rw [← F1.out] at b1 h2
  go_wp2_with fail
  refine (shift_ref _ _ _ (by omega) (by omega) (by omega) (by omega)).mono ?_; rintro e w' ⟨rfl, rfl⟩
  obtain ⟨P2, e2, f2⟩ := name_it (Fix.sh (P1 * r) 16) 536691957
  have F2 := hidd (show P2 = Fix.hor r 3 by rw [f2, F1.out]; rfl)
  rw [e2]
  clear e2 f2 h2
  have b2 := Fix.hor_bd r r0 r1 3
  have h3 := Fix.hor_mul_bd r r0 r1 3
  rw [← F2.out] at b2 h3
  go_wp2_with fail
  refine (shift_ref _ _ _ (by omega) (by omega) (by omega) (by omega)).mono ?_; rintro e w' ⟨rfl, rfl⟩
  obtain ⟨P3, e3, f3⟩ := name_it (Fix.sh (P2 * r) 16) (-1073764153)
  have F3 := hidd (show P3 = Fix.hor r 4 by rw [f3, F2.out]; rfl)
  rw [e3]
  clear e3 f3 h3
  have b3 := Fix.hor_bd r r0 r1 4
  have h4 := Fix.hor_mul_bd r r0 r1 4
  rw [← F3.out] at b3 h4
  go_wp2_with fail
  refine (shift_ref _ _ _ (by omega) (by omega) (by omega) (by omega)).mono ?_; rintro e w' ⟨rfl, rfl⟩
  obtain ⟨P4, e4, f4⟩ := name_it (Fix.sh (P3 * r) 16) 1073741824
  have F4 := hidd (show P4 = Fix.hor r 5 by rw [f4, F3.out]; rfl)
  rw [e4]
  clear e4 f4 h4
  have b4 := Fix.hor_bd r r0 r1 5
  have h5 := Fix.hor_mul_bd r r0 r1 5
  rw [← F4.out] at b4 h5
  go_wp2_with fail
  refine (shift_ref _ _ _ (by omega) (by omega) (by omega) (by omega)).mono ?_; rintro e w' ⟨rfl, rfl⟩
  have hs := Fix.sh_shrink P4 4294967296 14 (by decide) b4.1 b4.2
  go_wp2_with fail
  refine (shift_ref _ _ _ (by omega) (by omega) (by omega) (by omega)).mono ?_; rintro e w' ⟨rfl, rfl⟩
  go_wp2
  go_ret
  exact ⟨ret_int (by rw [HF.out, F4.out]), rfl⟩
set_option maxHeartbeats 400000 in
theorem exp_ref_low (z : Int) (w : World) (c : z < -1048576) :
    Calls Tryd.prog 36 #[.int .i64 z] w fun e w' => e = .returned (.int .i64 0) ∧ w' = w := by
  go_enter Tryd.func36, Tryd.ntmps36
  go_wp2
  go_ret
  exact ⟨rfl, rfl⟩
theorem exp0 : Fix.exn 0 = 65536 := by decide
set_option maxHeartbeats 400000 in
theorem exp_ref_high (z : Int) (w : World) (c : 0 < z) :
    Calls Tryd.prog 36 #[.int .i64 z] w fun e w' => e = .returned (.int .i64 (Fix.exn 0)) ∧ w' = w := by
  have HD := hidd (show Fix.dv 0 45426 = 0 by decide)
  have H0 := hidd (show Fix.sh 0 16 = 0 by decide)
  have H1 := hidd (show Fix.sh 1073741824 14 = 65536 by decide)
  have H2 := hidd (show Fix.sh 65536 0 = 65536 by decide)
  rw [exp0]
  go_enter Tryd.func36, Tryd.ntmps36
  go_wp2_with fail
  refine (div_ref _ _ _ (by omega) (by omega) (by omega) (by omega)).mono ?_; rintro e w' ⟨rfl, rfl⟩
  rw [HD.out]
  go_wp2_with fail
  refine (shift_ref _ _ _ (by omega) (by omega) (by omega) (by omega)).mono ?_; rintro e w' ⟨rfl, rfl⟩
  rw [H0.out]
  go_wp2_with fail
  refine (shift_ref _ _ _ (by omega) (by omega) (by omega) (by omega)).mono ?_; rintro e w' ⟨rfl, rfl⟩
  rw [H0.out]
  go_wp2_with fail
  refine (shift_ref _ _ _ (by omega) (by omega) (by omega) (by omega)).mono ?_; rintro e w' ⟨rfl, rfl⟩
  rw [H0.out]
  go_wp2_with fail
  refine (shift_ref _ _ _ (by omega) (by omega) (by omega) (by omega)).mono ?_; rintro e w' ⟨rfl, rfl⟩
  rw [H0.out]
  go_wp2_with fail
  refine (shift_ref _ _ _ (by omega) (by omega) (by omega) (by omega)).mono ?_; rintro e w' ⟨rfl, rfl⟩
  rw [H1.out]
  go_wp2_with fail
  refine (shift_ref _ _ _ (by omega) (by omega) (by omega) (by omega)).mono ?_; rintro e w' ⟨rfl, rfl⟩
  rw [H2.out]
  go_wp2
  go_ret
  exact ⟨rfl, rfl⟩
theorem exp_ref (z : Int) (w : World) :
    Calls Tryd.prog 36 #[.int .i64 z] w fun e w' => e = .returned (.int .i64 (Fix.ex z)) ∧ w' = w := by
  by_cases c0 : z < -1048576
  · rw [Fix.ex_low z c0]; exact exp_ref_low z w c0
  · by_cases c1 : 0 < z
    · rw [Fix.ex_high z (by omega)]; exact exp_ref_high z w c1
    · have h := expn_ref (-z) w (by omega) (by omega)
      rw [Int.neg_neg] at h
      rw [Fix.ex_mid z (by omega) (by omega)]
      exact h
end Go.Proofs.YtjjfbpjejhjdiabDoor
