import Derived.Test.YtmcefgpejocjfaaDoorShift
namespace Go.Proofs.YtmcefgpejocjfaaDoor
open Go.RowKit
/-! The contracts of the document's answer for Shift. -/
theorem half_low (v : Int) (v0 : -9223372036854775808 ≤ v) (v1 : v ≤ 9223372036854775807) (c0 : v < 0) (c1 : v.tmod 2 < 0) : wrap64 ((wrap64 (v - 1)).tdiv 2) = v / 2 := by
  rw [Fix.tmod_low v 2 c0] at c1
  rw [wr (v - 1) (by omega) (by omega), Fix.tdiv_low (v - 1) 2 (by omega), wr _ (by omega) (by omega)]
  omega
theorem half_high (v : Int) (c1 : 0 ≤ v.tmod 2) : v.tdiv 2 = v / 2 := by
  by_cases c0 : 0 ≤ v
  · exact Int.tdiv_eq_ediv_of_nonneg c0
  · exact Fix.tdiv_neg_exact v 2 (by omega) (by omega) (by omega)
theorem tmod_neg (v : Int) (c1 : v.tmod 2 < 0) : v < 0 := by
  by_cases c0 : 0 ≤ v
  · have := Int.tmod_eq_emod_of_nonneg (b := 2) c0; omega
  · omega
set_option maxHeartbeats 400000 in
theorem half_ref (v : Int) (w : World) (v0 : -9223372036854775808 ≤ v) (v1 : v ≤ 9223372036854775807) :
    Calls Tryd.prog 82 #[.int .i64 v] w fun e w' => e = .returned (.int .i64 (v / 2)) ∧ w' = w := by
  by_cases c1 : v.tmod 2 < 0
  · have c0 := tmod_neg v c1
    go_enter Tryd.func82, Tryd.ntmps82
    go_wp2
    go_ret
    exact ⟨ret_int (half_low v v0 v1 c0 c1), rfl⟩
  · go_enter Tryd.func82, Tryd.ntmps82
    go_wp2
    go_ret
    exact ⟨ret_int (half_high v (by omega)), rfl⟩
theorem even_end (x : Int) (h : (x.tmod 2 == 0) = true) : x.tdiv 2 = (x + 1) / 2 := by
  have h' : x.tmod 2 = 0 := by simpa using h
  have h5 := Int.mul_tdiv_add_tmod x 2
  omega
theorem odd_end (x : Int) (h : (x.tmod 2 == 0) = false) : x / 2 + 1 = (x + 1) / 2 := by
  have h' : ¬ x.tmod 2 = 0 := by simpa using h
  have h5 : ¬ x % 2 = 0 := by
    intro h6
    exact h' (Int.tmod_eq_zero_of_dvd (by omega))
  omega
theorem sh_at (v s : Int) (k : Nat) (h0 : 0 < s) (h : min s 62 - 1 = (k : Int)) : (v / 2 ^ k + 1) / 2 = Fix.sh v s := by
  rw [Fix.sh_pos v s h0, h]; rfl
set_option maxHeartbeats 400000 in
theorem shift_ref (v s : Int) (w : World) (v0 : -9223372036854775808 ≤ v) (v1 : v ≤ 9223372036854775807) (s0 : -9223372036854775808 ≤ s) (s1 : s ≤ 9223372036854775807) :
    Calls Tryd.prog 71 #[.int .i64 v, .int .i64 s] w fun e w' => e = .returned (.int .i64 (Fix.sh v s)) ∧ w' = w := by
  by_cases c0 : s ≤ 0
  · go_enter Tryd.func71, Tryd.ntmps71
    go_wp2
    go_ret
    exact ⟨ret_int (Fix.sh_zero v s c0).symm, rfl⟩
  · go_enter Tryd.func71, Tryd.ntmps71
    go_wp2
    go_loop [0, 5] (fun x i => ∃ k : Nat, (k : Int) + 1 ≤ s ∧ k ≤ 61 ∧ i = .int .i64 ((k : Int) + 1) ∧ x = .int .i64 (v / 2 ^ k)) (fun _ i => (62 - intOf i).toNat)
    case atStart => exact ⟨0, by omega, by omega, rfl, by simp⟩
    case round =>
      obtain ⟨k, hk, hk2, rfl, rfl⟩ := hrel
      have hd := Fix.div_bd v k v0 v1
      have hs := Fix.div_split v k
      have HS := hidd hs
      clear hs
      by_cases c1 : (k : Int) + 1 < s
      · by_cases c2 : (k : Int) + 1 < 62
        · go_wp2_with (go_at_call 82; refine (half_ref _ _ (by omega) (by omega)).mono ?_; rintro e w' ⟨rfl, rfl⟩)
          go_round
          case rel => exact ⟨k + 1, by omega, by omega, by go_num, by rw [HS.out]⟩
          case measure => simp [intOf]; omega
        · by_cases ce : ((v / 2 ^ k).tmod 2 == 0) = true
          · have E := hidd (even_end _ ce)
            go_wp2
            go_ret
            exact ⟨ret_int (by rw [E.out]; exact sh_at v s k (by omega) (by omega)), rfl⟩
          · have ce' : ((v / 2 ^ k).tmod 2 == 0) = false := by simpa using ce
            have E := hidd (odd_end _ ce')
            clear ce
            go_wp2_with (go_at_call 82; refine (half_ref _ _ (by omega) (by omega)).mono ?_; rintro e w' ⟨rfl, rfl⟩)
            go_ret
            exact ⟨ret_int (by rw [E.out]; exact sh_at v s k (by omega) (by omega)), rfl⟩
      · by_cases ce : ((v / 2 ^ k).tmod 2 == 0) = true
        · have E := hidd (even_end _ ce)
          go_wp2
          go_ret
          exact ⟨ret_int (by rw [E.out]; exact sh_at v s k (by omega) (by omega)), rfl⟩
        · have ce' : ((v / 2 ^ k).tmod 2 == 0) = false := by simpa using ce
          have E := hidd (odd_end _ ce')
          clear ce
          go_wp2_with (go_at_call 82; refine (half_ref _ _ (by omega) (by omega)).mono ?_; rintro e w' ⟨rfl, rfl⟩)
          go_ret
          exact ⟨ret_int (by rw [E.out]; exact sh_at v s k (by omega) (by omega)), rfl⟩
end Go.Proofs.YtmcefgpejocjfaaDoor
