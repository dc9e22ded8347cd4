import Derived.Test.YtmcefgpejocjfaaDoorBase
namespace Go.Proofs.YtmcefgpejocjfaaDoor
open Go.RowKit
/-! The contract of fix.Sqrt. -/
theorem or_next {v : Int} {k R : Nat} (hk : k < 32) (h : Fix.Bits v k R) : bits BinOp.or IntKind.u64 (R : Int) (IntKind.u64.wrap (2 ^ (31 - k))) = ((R + 2 ^ (31 - k) : Nat) : Int) := by
  have h1 := h.lt hk
  have hp := Nat.two_pow_pos (31 - k)
  have e : IntKind.u64.wrap (2 ^ (31 - k)) = ((2 ^ (31 - k) : Nat) : Int) := by
    rw [IntKind.wrap_u64, Int.natCast_pow]
    have : ((2 : Int) ^ (31 - k)) = ((2 ^ (31 - k) : Nat) : Int) := by rw [Int.natCast_pow]; rfl
    rw [this]
    omega
  rw [e, u64_or_nat R _ (by omega) (by omega), h.or hk]
set_option maxHeartbeats 400000 in
theorem sqrt_pos (v : Int) (w : World) (v0 : 0 < v) (v1 : v ≤ 9223372036854775807) :
    Calls Tryd.prog 59 #[.int .i64 v] w fun e w' => (∃ r : Int, e = .returned (.int .i64 r) ∧ 0 ≤ r ∧ r < 4294967296 ∧ r * r ≤ v ∧ v < (r + 1) * (r + 1)) ∧ w' = w := by
  have hs := hidd (Fix.Bits.start v v0 v1)
  go_enter Tryd.func59, Tryd.ntmps59
  go_wp2
  go_loop [3, 8] (fun x i => ∃ k R : Nat, k ≤ 32 ∧ R < 4294967296 ∧ i = .int .i64 (k : Int) ∧ x = .int .u64 (R : Int) ∧ Fix.Bits v k R) (fun _ i => (32 - intOf i).toNat)
  case atStart => exact ⟨0, 0, by omega, by omega, rfl, rfl, hs.out⟩
  case round =>
    obtain ⟨k, R, hk, hR, rfl, rfl, hB⟩ := hrel
    by_cases c1 : k < 32
    · have hN := or_next c1 hB
      have hl := hB.lt c1
      have hy := hidd (fun h => Fix.Bits.yes c1 hB h)
      have hn := hidd (fun h => Fix.Bits.no c1 hB h)
      clear hB
      generalize R + 2 ^ (31 - k) = N at *
      have hq := Fix.sq_lt N hl
      by_cases c2 : (N : Int) * N ≤ v
      · go_wp2
        go_round
        case rel => exact ⟨k + 1, N, by omega, hl, by go_num, rfl, hy.out c2⟩
        case measure => simp [intOf]; omega
      · go_wp2
        go_round
        case rel => exact ⟨k + 1, R, by omega, hR, by go_num, rfl, hn.out (by omega)⟩
        case measure => simp [intOf]; omega
    · obtain rfl : k = 32 := by omega
      have hd := hidd hB.done
      clear hB
      go_wp2
      go_ret
      exact ⟨⟨R, rfl, by omega, by omega, hd.out.1, hd.out.2⟩, rfl⟩
set_option maxHeartbeats 400000 in
theorem sqrt_low (v : Int) (w : World) (v0 : v ≤ 0) :
    Calls Tryd.prog 59 #[.int .i64 v] w fun e w' => e = .returned (.int .i64 0) ∧ w' = w := by
  go_enter Tryd.func59, Tryd.ntmps59
  go_wp2
  go_ret
  exact ⟨rfl, rfl⟩
end Go.Proofs.YtmcefgpejocjfaaDoor
