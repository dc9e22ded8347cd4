import Derived.Test.YtmcefgpejocjfaaDoorBase
namespace Go.Proofs.YtmcefgpejocjfaaDoor
open Go.RowKit
/-! The contract of the document's answer for Sqrt. -/
theorem sq_mid (m : Int) (h0 : 0 ≤ m) (h1 : m < 3037000500) : 0 ≤ m * m ∧ m * m ≤ 9223372030926249001 := by
  refine ⟨Int.mul_nonneg h0 h0, ?_⟩
  have : m * m ≤ 3037000499 * 3037000499 := Int.mul_le_mul (by omega) (by omega) h0 (by omega)
  omega
set_option maxHeartbeats 400000 in
theorem sqrt_ref (v : Int) (w : World) (v0 : 0 < v) (v1 : v ≤ 9223372036854775807) :
    Calls Tryd.prog 75 #[.int .i64 v] w fun e w' => (∃ r : Int, e = .returned (.int .i64 r) ∧ 0 ≤ r ∧ r * r ≤ v ∧ v < (r + 1) * (r + 1)) ∧ w' = w := by
  go_enter Tryd.func75, Tryd.ntmps75
  go_wp2
  go_loop [3, 4] (fun x y => ∃ l h : Int, x = .int .i64 l ∧ y = .int .i64 h ∧ 0 ≤ l ∧ l < h ∧ h ≤ 3037000500 ∧ l * l ≤ v ∧ v < h * h) (fun x y => (intOf y - intOf x).toNat)
  case atStart => exact ⟨0, 3037000500, rfl, rfl, by omega, by omega, by omega, by omega, by omega⟩
  case round =>
    obtain ⟨l, h, rfl, rfl, h0, h1, h2, h3, h4⟩ := hrel
    by_cases c1 : h - l > 1
    · have hq := sq_mid ((l + h) / 2) (by omega) (by omega)
      by_cases c2 : (l + h) / 2 * ((l + h) / 2) ≤ v
      · go_wp2
        go_round
        case rel => exact ⟨_, h, rfl, rfl, by omega, by omega, by omega, c2, h4⟩
        case measure => simp [intOf]; omega
      · go_wp2
        go_round
        case rel => exact ⟨l, _, rfl, rfl, by omega, by omega, by omega, h3, by omega⟩
        case measure => simp [intOf]; omega
    · go_wp2
      go_ret
      refine ⟨⟨l, rfl, h0, h3, ?_⟩, rfl⟩
      rw [show l + 1 = h by omega]
      exact h4
set_option maxHeartbeats 400000 in
theorem sqrt_ref_low (v : Int) (w : World) (v0 : v ≤ 0) :
    Calls Tryd.prog 75 #[.int .i64 v] w fun e w' => e = .returned (.int .i64 0) ∧ w' = w := by
  go_enter Tryd.func75, Tryd.ntmps75
  go_wp2
  go_ret
  exact ⟨rfl, rfl⟩
end Go.Proofs.YtmcefgpejocjfaaDoor
