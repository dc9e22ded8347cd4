import Derived.Test.YtnpdkiljhdagjabProdRef
namespace Go.Proofs.Ytnpdkiljhdagjab
open Go.RowKit
/-! The law's own search: the least number for which the product reaches k. -/
theorem try_in (m c : Nat) (h : m + 2 ^ c < 18446744073709551616) : IntKind.u64.wrap ((m : Int) + IntKind.u64.wrap (2 ^ c)) = ((m + 2 ^ c : Nat) : Int) := by
  have e : (2 : Int) ^ c = ((2 ^ c : Nat) : Int) := (Int.natCast_pow 2 c).symm
  rw [e, nwrap _ (by omega), nadd, nwrap _ h]
theorem less_in (t : Nat) (h0 : 0 < t) (h : t < 18446744073709551616) : IntKind.u64.wrap ((t : Int) - 1) = ((t - 1 : Nat) : Int) := by
  rw [IntKind.wrap_u64]; omega
set_option maxHeartbeats 1000000 in
theorem least_any (k n : Nat) (w : World) (hn : n < 18446744073709551616) (hk : k < n) :
    Calls Try.prog 5 #[.int .u64 (k : Int), .int .u64 (n : Int)] w fun e w' => ∃ u : Nat, e = .returned (.int .u64 (u : Int)) ∧ Leasts k n 0 u ∧ w' = w := by
  have hk2 : k < 18446744073709551616 := by omega
  go_enter Try.func5, Try.ntmps5
  go_wp2
  go_loop [5, 6] (fun u i => ∃ b m : Nat, b ≤ 64 ∧ i = .int .i64 ((b : Int) - 1) ∧ u = .int .u64 (m : Int) ∧ Hid (Leasts k n b m)) (fun _ i => (intOf i + 1).toNat)
  case atStart => exact ⟨64, 0, by omega, rfl, rfl, Leasts.start hn hk⟩
  case round =>
    obtain ⟨b, m, hb, rfl, rfl, HL⟩ := hrel
    rcases Nat.eq_zero_or_pos b with rfl | hp
    · go_wp2
      go_ret
      exact ⟨m, rfl, HL.out, rfl⟩
    · obtain ⟨c, rfl⟩ : ∃ c, b = c + 1 := ⟨b - 1, by omega⟩
      have e : (((c + 1 : Nat) : Int) - 1) = (c : Int) := by omega
      rw [e]
      clear e
      go_wp2_with fail
      have hr := HL.out.room
      have hp2 : 0 < 2 ^ c := Nat.two_pow_pos c
      rw [Nat.pow_succ] at hr
      obtain ⟨t, et, ht0, ht⟩ : ∃ t, t = m + 2 ^ c ∧ 0 < t ∧ t < 18446744073709551616 := ⟨_, rfl, by omega, by omega⟩
      rw [try_in m c (by omega), ← et, less_in t ht0 ht]
      have ET := hidd et
      clear et hr hp2
      refine (product_ref (t - 1) n _ (by omega) hn).mono ?_; rintro e w' ⟨rfl, rfl⟩
      by_cases c1 : below (t - 1) n < k
      · have HN : Hid (Leasts k n c t) := by
          have h := HL.out.up (by rw [← ET.out]; exact c1)
          rw [← ET.out] at h
          exact h
        go_wp2
        go_round
        case rel => exact ⟨c, t, by omega, by go_num, rfl, HN⟩
        case measure => simp [intOf]
      · have HN : Hid (Leasts k n c m) := HL.out.down (by rw [← ET.out]; exact c1)
        go_wp2
        go_round
        case rel => exact ⟨c, m, by omega, by go_num, rfl, HN⟩
        case measure => simp [intOf]
end Go.Proofs.Ytnpdkiljhdagjab
