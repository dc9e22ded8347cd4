import Derived.Test.YtjjfbpjejhjdiabDoorDwMix
namespace Go.Proofs.YtjjfbpjejhjdiabDoor.Dw
open Go.RowKit
/-! draw.At, and the document's. A place counts as the number of 64 bits with the same bits. -/
/-- The number of 64 bits with the same bits. -/
def num (p : Int) : Nat := (p % 18446744073709551616).toNat
theorem num_lt (p : Int) : num p < 18446744073709551616 := by unfold num; omega
theorem num_inj {p q : Int} (p0 : -9223372036854775808 ≤ p) (p1 : p ≤ 9223372036854775807) (q0 : -9223372036854775808 ≤ q) (q1 : q ≤ 9223372036854775807) : num p = num q ↔ p = q := by
  unfold num; omega
theorem nwrapi (p : Int) : IntKind.u64.wrap p = ((num p : Nat) : Int) := by rw [IntKind.wrap_u64]; unfold num; omega
theorem num_nat (a : Nat) : num (a : Int) = a % 18446744073709551616 := by unfold num; omega
theorem numg (a : Nat) : num (11400714819323198485 * (a : Int)) = 11400714819323198485 * a % 18446744073709551616 := by
  have e : (11400714819323198485 : Int) * (a : Int) = ((11400714819323198485 * a : Nat) : Int) := (Int.natCast_mul 11400714819323198485 a).symm
  rw [e, num_nat]
theorem seed_in (s : Nat) : IntKind.u64.wrap ((s : Int) + 11400714819323198485) = (((s + 11400714819323198485) % 18446744073709551616 : Nat) : Int) := by rw [IntKind.wrap_u64]; omega
theorem place_in (a : Nat) (p : Int) : IntKind.u64.wrap ((a : Int) + IntKind.u64.wrap (11400714819323198485 * IntKind.u64.wrap p)) = (((a + 11400714819323198485 * num p % 18446744073709551616) % 18446744073709551616 : Nat) : Int) := by
  rw [nwrapi p, nwrapi (11400714819323198485 * _), numg, nadd, nwrapm]
set_option maxHeartbeats 1000000 in
theorem at_any (s : Nat) (p l : Int) (w : World) (hw : Holds w) :
    Calls Tryd.prog 29 #[.int .u64 (s : Int), .int .i64 p, .int .i64 l] w fun e w' => e = .returned (.int .u64 ((atN s (num p) (num l) : Nat) : Int)) ∧ Fresh w w' := by
  go_enter Tryd.func29, Tryd.ntmps29
  go_wp2_with fail
  rw [seed_in]
  refine (mix_any _ _ hw (mod_lt64 _)).mono ?_; rintro e w1 ⟨rfl, f1⟩
  obtain ⟨a, ea⟩ : ∃ a, a = mix ((s + 11400714819323198485) % 18446744073709551616) := ⟨_, rfl⟩
  rw [← ea]
  have EA := hidd ea
  clear ea
  go_wp2_with fail
  rw [place_in]
  refine (mix_any _ _ (hw.later f1) (mod_lt64 _)).mono ?_; rintro e w2 ⟨rfl, f2⟩
  obtain ⟨b, eb⟩ : ∃ b, b = mix ((a + 11400714819323198485 * num p % 18446744073709551616) % 18446744073709551616) := ⟨_, rfl⟩
  rw [← eb]
  have EB := hidd eb
  clear eb
  go_wp2_with fail
  rw [place_in]
  refine (mix_any _ _ ((hw.later f1).later f2) (mod_lt64 _)).mono ?_; rintro e w3 ⟨rfl, f3⟩
  go_wp2
  go_ret
  exact ⟨ret_int (by unfold atN; rw [← EA.out, ← EB.out, Nat.add_mod_mod]), (f1.trans f2).trans f3⟩
end Go.Proofs.YtjjfbpjejhjdiabDoor.Dw
