import Derived.Test.YtmcefgpejocjfaaDoorShift
import Derived.Test.YtmcefgpejocjfaaDoorBase
import Derived.Test.YtmcefgpejocjfaaDoorClamp8
namespace Go.Proofs.YtmcefgpejocjfaaDoor
open Go.RowKit
/-! The contracts of the document's answer for Shift. -/
theorem half_low (v : Int) (v0 : -9223372036854775808 ≤ v) (v1 : v ≤ 9223372036854775807) (c0 : v < 0) (c1 : v.tmod 2 < 0) : wrap64 ((wrap64 (v - 1)).tdiv 2) = v / 2 := by
  rw [Fix.tmod_low v 2 c0] at c1
  rw [wr (v - 1) (by omega) (by omega), Fix.tdiv_low (v - 1) 2 (by omega), wr _ (by omega) (by omega)]
  omega
theorem half_high (v : Int) (c1 : 0 ≤ v.tmod 2) : v.tdiv 2 = v / 2 := by
  by_cases c0 : 0 ≤ v
  · exact Int.tdiv_eq_ediv_of_nonneg c0
  · exact Fix.tdiv_neg_exact v 2 (by omega) (by omega) (by omega)
theorem tmod_neg (v : Int) (c1 : v.tmod 2 < 0) : v < 0 := by
  by_cases c0 : 0 ≤ v
  · have := Int.tmod_eq_emod_of_nonneg (b := 2) c0; omega
  · omega
set_option maxHeartbeats 400000 in
theorem half_ref (v : Int) (w : World) (v0 : -9223372036854775808 ≤ v) (v1 : v ≤ 9223372036854775807) :
    Calls Tryd.prog 82 #[.int .i64 v] w fun e w' => e = .returned (.int .i64 (v / 2)) ∧ w' = w := by
  by_cases c1 : v.tmod 2 < 0
  · have c0 := tmod_neg v c1
    go_enter Tryd.func82, Tryd.ntmps82
    go_wp2
    go_ret
    exact ⟨ret_int (half_low v v0 v1 c0 c1), rfl⟩
  · go_enter Tryd.func82, Tryd.ntmps82
    go_wp2
    go_ret
    exact ⟨ret_int (half_high v (by omega)), rfl⟩
theorem even_end (x : Int) (h : (x.tmod 2 == 0) = true) : x.tdiv 2 = (x + 1) / 2 := by
  have h' : x.tmod 2 = 0 := by simpa using h
  have h5 := Int.mul_tdiv_add_tmod x 2
  omega
theorem odd_end (x : Int) (h : (x.tmod 2 == 0) = false) : x / 2 + 1 = (x + 1) / 2 := by
  have h' : ¬ x.tmod 2 = 0 := by simpa using h
  have h5 : ¬ x % 2 = 0 := by
    intro h6
    exact h' (Int.tmod_eq_zero_of_dvd (by omega))
  omega
theorem sh_at (v s : Int) (k : Nat) (h0 : 0 < s) (h : min s 62 - 1 = (k : Int)) : (v / 2 ^ k + 1) / 2 = Fix.sh v s := by
  rw [Fix.sh_pos v s h0, h]; rfl
set_option maxHeartbeats 400000 in
theorem shift_ref (v s : Int) (w : World) (v0 : -9223372036854775808 ≤ v) (v1 : v ≤ 9223372036854775807) (s0 : -9223372036854775808 ≤ s) (s1 : s ≤ 9223372036854775807) :
    Calls Tryd.prog 71 #[.int .i64 v, .int .i64 s] w fun e w' => e = .returned (.int .i64 (Fix.sh v s)) ∧ w' = w := by
  by_cases c0 : s ≤ 0
  · go_enter Tryd.func71, Tryd.ntmps71
    go_wp2
    go_ret
    exact ⟨ret_int (Fix.sh_zero v s c0).symm, rfl⟩
  · go_enter Tryd.func71, Tryd.ntmps71
    go_wp2
    go_loop [0, 5] (fun x i => ∃ k : Nat, (k : Int) + 1 ≤ s ∧ k ≤ 61 ∧ i = .int .i64 ((k : Int) + 1) ∧ x = .int .i64 (v / 2 ^ k)) (fun _ i => (62 - intOf i).toNat)
    case atStart => exact ⟨0, by omega, by omega, rfl, by simp⟩
    case round =>
      obtain ⟨k, hk, hk2, rfl, rfl⟩ := hrel
      have hd := Fix.div_bd v k v0 v1
      have hs := Fix.div_split v k
      have HS := hidd hs
      clear hs
      by_cases c1 : (k : Int) + 1 < s
      · by_cases c2 : (k : Int) + 1 < 62
        · go_wp2_with (go_at_call 82; refine (half_ref _ _ (by omega) (by omega)).mono ?_; rintro e w' ⟨rfl, rfl⟩)
          go_round
          case rel => exact ⟨k + 1, by omega, by omega, by go_num, by rw [HS.out]⟩
          case measure => simp [intOf]; omega
        · by_cases ce : ((v / 2 ^ k).tmod 2 == 0) = true
          · have E := hidd (even_end _ ce)
            go_wp2
            go_ret
            exact ⟨ret_int (by rw [E.out]; exact sh_at v s k (by omega) (by omega)), rfl⟩
          · have ce' : ((v / 2 ^ k).tmod 2 == 0) = false := by simpa using ce
            have E := hidd (odd_end _ ce')
            clear ce
            go_wp2_with (go_at_call 82; refine (half_ref _ _ (by omega) (by omega)).mono ?_; rintro e w' ⟨rfl, rfl⟩)
            go_ret
            exact ⟨ret_int (by rw [E.out]; exact sh_at v s k (by omega) (by omega)), rfl⟩
      · by_cases ce : ((v / 2 ^ k).tmod 2 == 0) = true
        · have E := hidd (even_end _ ce)
          go_wp2
          go_ret
          exact ⟨ret_int (by rw [E.out]; exact sh_at v s k (by omega) (by omega)), rfl⟩
        · have ce' : ((v / 2 ^ k).tmod 2 == 0) = false := by simpa using ce
          have E := hidd (odd_end _ ce')
          clear ce
          go_wp2_with (go_at_call 82; refine (half_ref _ _ (by omega) (by omega)).mono ?_; rintro e w' ⟨rfl, rfl⟩)
          go_ret
          exact ⟨ret_int (by rw [E.out]; exact sh_at v s k (by omega) (by omega)), rfl⟩
end Go.Proofs.YtmcefgpejocjfaaDoor
namespace Go.Proofs.YtmcefgpejocjfaaDoor
open Go.RowKit
/-! The contracts of the clamps. -/
set_option maxHeartbeats 400000 in
theorem clamp_ref (v m : Int) (w : World) (v0 : -9223372036854775808 ≤ v) (v1 : v ≤ 9223372036854775807) (s0 : -9223372036854775808 ≤ m) (s1 : m ≤ 9223372036854775807) :
    Calls Tryd.prog 73 #[.int .i64 v, .int .i64 m] w fun e w' => e = .returned (.int .i64 (Fix.cl v m)) ∧ w' = w := by
  by_cases c0 : m < 0
  · go_enter Tryd.func73, Tryd.ntmps73
    go_wp2
    all_goals go_ret
    all_goals exact ⟨ret_int (by unfold Fix.cl; omega), rfl⟩
  · go_enter Tryd.func73, Tryd.ntmps73
    go_wp2
    all_goals go_ret
    all_goals exact ⟨ret_int (by unfold Fix.cl; omega), rfl⟩
end Go.Proofs.YtmcefgpejocjfaaDoor
namespace Go.Proofs.YtmcefgpejocjfaaDoor
open Go.RowKit
/-! The reference's clamp to 8 bits. -/
set_option maxHeartbeats 400000 in
theorem clamp8_ref (v : Int) (w : World) (v0 : -9223372036854775808 ≤ v) (v1 : v ≤ 9223372036854775807) :
    Calls Tryd.prog 72 #[.int .i64 v] w fun e w' => e = .returned (.int .i8 (Fix.cl v 127)) ∧ w' = w := by
  have hb := c8_bd v
  go_enter Tryd.func72, Tryd.ntmps72
  go_wp2_with (go_at_call 73; refine (clamp_ref v 127 _ v0 v1 (by omega) (by omega)).mono ?_; rintro e w' ⟨rfl, rfl⟩)
  go_ret
  exact ⟨rfl, rfl⟩
end Go.Proofs.YtmcefgpejocjfaaDoor
namespace Go.Proofs.YtmcefgpejocjfaaDoor
open Go.RowKit
/-! The contract of the document's answer for Div. -/
set_option maxHeartbeats 400000 in
theorem div_ref (a b : Int) (w : World) (v0 : -9223372036854775808 ≤ a) (v1 : a ≤ 9223372036854775807) (s0 : -9223372036854775808 ≤ b) (s1 : b ≤ 9223372036854775807) :
    Calls Tryd.prog 74 #[.int .i64 a, .int .i64 b] w fun e w' => e = .returned (.int .i64 (Fix.dv a b)) ∧ w' = w := by
  by_cases c0 : b ≤ 0
  · go_enter Tryd.func74, Tryd.ntmps74
    go_wp2
    go_ret
    exact ⟨ret_int (Fix.dv_le a b c0).symm, rfl⟩
  · have hb := Fix.quo_bd a b (by omega) v0 v1
    by_cases c1 : 0 ≤ a
    · have hm : a / b * b ≤ a := Int.ediv_mul_le a (by omega)
      have hn : 0 ≤ a / b := Int.ediv_nonneg c1 (by omega)
      have hp : 0 ≤ a / b * b := Int.mul_nonneg hn (by omega)
      go_enter Tryd.func74, Tryd.ntmps74
      go_wp2
      go_ret
      exact ⟨ret_int (Fix.dv_gt a b (by omega)).symm, rfl⟩
    · have hn := Fix.near_quo a b (by omega)
      have hx := Int.mul_tdiv_add_tmod a b
      rw [Int.mul_comm] at hx
      have g0 : -9223372036854775808 ≤ a.tdiv b * b := by omega
      have g1 : a.tdiv b * b ≤ 9223372036854775807 := by
        have := Fix.tmod_low a b (by omega)
        have := Int.emod_lt_of_pos (-a) (show 0 < b by omega)
        have := Int.emod_nonneg (-a) (show b ≠ 0 by omega)
        have : (-a) % b ≤ -a := by
          have h := Int.mul_ediv_add_emod (-a) b
          have h2 := Int.mul_nonneg (show 0 ≤ b by omega) (Int.ediv_nonneg (show 0 ≤ -a by omega) (show 0 ≤ b by omega))
          omega
        omega
      by_cases c2 : a.tmod b < 0
      · have e := Fix.tdiv_neg_rest a b (by omega) (by omega) c2
        have e2 : wrap64 (a.tdiv b - 1) = Fix.dv a b := by rw [e, wr _ hb.1 hb.2, Fix.dv_gt a b (by omega)]
        have E := hidd e2
        have c3 : a < a.tdiv b * b := by omega
        clear e e2 hx hn
        go_enter Tryd.func74, Tryd.ntmps74
        go_wp2
        go_ret
        exact ⟨ret_int (by first | exact E.out | (rw [← E.out, wr _ (by omega) (by omega)])), rfl⟩
      · have e := Fix.tdiv_neg_exact a b (by omega) (by omega) c2
        have e2 : a.tdiv b = Fix.dv a b := by rw [e, Fix.dv_gt a b (by omega)]
        have E := hidd e2
        have c3 : a.tdiv b * b ≤ a := by omega
        clear e e2 hx hn
        go_enter Tryd.func74, Tryd.ntmps74
        go_wp2
        go_ret
        exact ⟨ret_int E.out, rfl⟩
end Go.Proofs.YtmcefgpejocjfaaDoor
namespace Go.Proofs.YtmcefgpejocjfaaDoor
open Go.RowKit
/-! The contract of the document's answer for Sqrt. -/
theorem sq_mid (m : Int) (h0 : 0 ≤ m) (h1 : m < 3037000500) : 0 ≤ m * m ∧ m * m ≤ 9223372030926249001 := by
  refine ⟨Int.mul_nonneg h0 h0, ?_⟩
  have : m * m ≤ 3037000499 * 3037000499 := Int.mul_le_mul (by omega) (by omega) h0 (by omega)
  omega
set_option maxHeartbeats 400000 in
theorem sqrt_ref (v : Int) (w : World) (v0 : 0 < v) (v1 : v ≤ 9223372036854775807) :
    Calls Tryd.prog 75 #[.int .i64 v] w fun e w' => (∃ r : Int, e = .returned (.int .i64 r) ∧ 0 ≤ r ∧ r * r ≤ v ∧ v < (r + 1) * (r + 1)) ∧ w' = w := by
  go_enter Tryd.func75, Tryd.ntmps75
  go_wp2
  go_loop [3, 4] (fun x y => ∃ l h : Int, x = .int .i64 l ∧ y = .int .i64 h ∧ 0 ≤ l ∧ l < h ∧ h ≤ 3037000500 ∧ l * l ≤ v ∧ v < h * h) (fun x y => (intOf y - intOf x).toNat)
  case atStart => exact ⟨0, 3037000500, rfl, rfl, by omega, by omega, by omega, by omega, by omega⟩
  case round =>
    obtain ⟨l, h, rfl, rfl, h0, h1, h2, h3, h4⟩ := hrel
    by_cases c1 : h - l > 1
    · have hq := sq_mid ((l + h) / 2) (by omega) (by omega)
      by_cases c2 : (l + h) / 2 * ((l + h) / 2) ≤ v
      · go_wp2
        go_round
        case rel => exact ⟨_, h, rfl, rfl, by omega, by omega, by omega, c2, h4⟩
        case measure => simp [intOf]; omega
      · go_wp2
        go_round
        case rel => exact ⟨l, _, rfl, rfl, by omega, by omega, by omega, h3, by omega⟩
        case measure => simp [intOf]; omega
    · go_wp2
      go_ret
      refine ⟨⟨l, rfl, h0, h3, ?_⟩, rfl⟩
      rw [show l + 1 = h by omega]
      exact h4
set_option maxHeartbeats 400000 in
theorem sqrt_ref_low (v : Int) (w : World) (v0 : v ≤ 0) :
    Calls Tryd.prog 75 #[.int .i64 v] w fun e w' => e = .returned (.int .i64 0) ∧ w' = w := by
  go_enter Tryd.func75, Tryd.ntmps75
  go_wp2
  go_ret
  exact ⟨rfl, rfl⟩
end Go.Proofs.YtmcefgpejocjfaaDoor
