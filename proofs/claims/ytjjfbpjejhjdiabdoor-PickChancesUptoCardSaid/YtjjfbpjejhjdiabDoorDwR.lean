import Derived.Test.YtjjfbpjejhjdiabDoorDwU
namespace Go.Proofs.YtjjfbpjejhjdiabDoor.Dw
open Go.RowKit
/-! The document's mixing. -/
set_option maxHeartbeats 1000000 in
theorem mix_ref (x : Nat) (w : World) (hx : x < 18446744073709551616) :
    Calls Tryd.prog 50 #[.int .u64 (x : Int)] w fun e w' => e = .returned (.int .u64 ((mix x : Nat) : Int)) ∧ w' = w := by
  go_enter Tryd.func50, Tryd.ntmps50
  go_wp2
  simp only [xor30 x hx, nmul1, xor27 _ (mod_lt64 _), nmul2, xor31 _ (mod_lt64 _)]
  go_ret
  exact ⟨rfl, rfl⟩
end Go.Proofs.YtjjfbpjejhjdiabDoor.Dw
namespace Go.Proofs.YtjjfbpjejhjdiabDoor.Dw
open Go.RowKit
/-! The document's At. -/
set_option maxHeartbeats 1000000 in
theorem at_ref (s : Nat) (p l : Int) (w : World) :
    Calls Tryd.prog 38 #[.int .u64 (s : Int), .int .i64 p, .int .i64 l] w fun e w' => e = .returned (.int .u64 ((atN s (num p) (num l) : Nat) : Int)) ∧ w' = w := by
  go_enter Tryd.func38, Tryd.ntmps38
  go_wp2_with fail
  rw [seed_in]
  refine (mix_ref _ _ (mod_lt64 _)).mono ?_; rintro e w' ⟨rfl, rfl⟩
  obtain ⟨a, ea⟩ : ∃ a, a = mix ((s + 11400714819323198485) % 18446744073709551616) := ⟨_, rfl⟩
  rw [← ea]
  have EA := hidd ea
  clear ea
  go_wp2_with fail
  rw [place_in]
  refine (mix_ref _ _ (mod_lt64 _)).mono ?_; rintro e w' ⟨rfl, rfl⟩
  obtain ⟨b, eb⟩ : ∃ b, b = mix ((a + 11400714819323198485 * num p % 18446744073709551616) % 18446744073709551616) := ⟨_, rfl⟩
  rw [← eb]
  have EB := hidd eb
  clear eb
  go_wp2_with fail
  rw [place_in]
  refine (mix_ref _ _ (mod_lt64 _)).mono ?_; rintro e w' ⟨rfl, rfl⟩
  go_wp2
  go_ret
  exact ⟨ret_int (by unfold atN; rw [← EA.out, ← EB.out, Nat.add_mod_mod]), rfl⟩
end Go.Proofs.YtjjfbpjejhjdiabDoor.Dw
namespace Go.Proofs.YtjjfbpjejhjdiabDoor.Dw
open Go.RowKit
/-! The document's product: every pair of numbers. -/
set_option maxHeartbeats 1000000 in
theorem product_ref (x y : Nat) (w : World) (hx : x < 18446744073709551616) (hy : y < 18446744073709551616) :
    Calls Tryd.prog 51 #[.int .u64 (x : Int), .int .u64 (y : Int)] w fun e w' => e = .returned (.tuple #[.int .u64 ((below x y : Nat) : Int), .int .u64 ((x * y % 18446744073709551616 : Nat) : Int)]) ∧ w' = w := by
  obtain ⟨bd, bt, bw, hhi⟩ := Lib.mul64_hi x y hx hy
  rw [Nat.add_comm _ (x % 4294967296 * (y / 4294967296))] at bw hhi
  have HH := hidd hhi
  clear hhi
  have ba := Lib.half_mul_le (a := x / 4294967296) (b := y / 4294967296) (by omega) (by omega)
  have bb := Lib.half_mul_le (a := x / 4294967296) (b := y % 4294967296) (by omega) (by omega)
  have bc := Lib.half_mul_le (a := x % 4294967296) (b := y / 4294967296) (by omega) (by omega)
  have ba' : x / 4294967296 * (y / 4294967296) < 18446744073709551616 := by omega
  have bb' : x / 4294967296 * (y % 4294967296) < 18446744073709551616 := by omega
  have bc' : x % 4294967296 * (y / 4294967296) < 18446744073709551616 := by omega
  have bh1 : x / 4294967296 * (y / 4294967296) + (x / 4294967296 * (y % 4294967296) + x % 4294967296 * (y % 4294967296) / 4294967296) / 4294967296 < 18446744073709551616 := by omega
  have bh : x / 4294967296 * (y / 4294967296) + (x / 4294967296 * (y % 4294967296) + x % 4294967296 * (y % 4294967296) / 4294967296) / 4294967296 + (x % 4294967296 * (y / 4294967296) + (x / 4294967296 * (y % 4294967296) + x % 4294967296 * (y % 4294967296) / 4294967296) % 4294967296) / 4294967296 < 18446744073709551616 := by omega
  have q1 : x % 4294967296 * (y % 4294967296) / 4294967296 < 18446744073709551616 := by omega
  have q2 : (x / 4294967296 * (y % 4294967296) + x % 4294967296 * (y % 4294967296) / 4294967296) / 4294967296 < 18446744073709551616 := by omega
  have q3 : (x % 4294967296 * (y / 4294967296) + (x / 4294967296 * (y % 4294967296) + x % 4294967296 * (y % 4294967296) / 4294967296) % 4294967296) / 4294967296 < 18446744073709551616 := by omega
  go_enter Tryd.func51, Tryd.ntmps51
  go_wp2
  simp only [nhalf, nrest, ntdivh, ntmodh, nwrap _ q1, nwrap _ q2, nwrap _ q3, nmul, nadd, nwrap _ bd, nwrap _ bb', nwrap _ bt, nwrap _ bc', nwrap _ bw, nwrap _ ba', nwrap _ bh1, nwrap _ bh, nwrapm (x * y)]
  rw [HH.out]
  go_ret2
  exact ⟨rfl, rfl⟩
end Go.Proofs.YtjjfbpjejhjdiabDoor.Dw
namespace Go.Proofs.YtjjfbpjejhjdiabDoor.Dw
open Go.RowKit
/-! The document's Below. -/
set_option maxHeartbeats 1000000 in
theorem below_ref (x y : Nat) (w : World) (hx : x < 18446744073709551616) (hy : y < 18446744073709551616) :
    Calls Tryd.prog 39 #[.int .u64 (x : Int), .int .u64 (y : Int)] w fun e w' => e = .returned (.int .u64 ((below x y : Nat) : Int)) ∧ w' = w := by
  go_enter Tryd.func39, Tryd.ntmps39
  go_wp2_with fail
  refine (product_ref x y _ hx hy).mono ?_; rintro e w' ⟨rfl, rfl⟩
  go_wp2
  go_ret
  exact ⟨rfl, rfl⟩
end Go.Proofs.YtjjfbpjejhjdiabDoor.Dw
