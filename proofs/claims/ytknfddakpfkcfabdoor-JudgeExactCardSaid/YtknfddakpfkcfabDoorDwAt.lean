import Derived.Test.YtknfddakpfkcfabDoorDwMix
namespace Go.Proofs.YtknfddakpfkcfabDoor.Dw
open Go.RowKit
/-! draw.At, and the document's. A place counts as the number of 64 bits with the same bits. -/
/-- The number of 64 bits with the same bits. -/
def num (p : Int) : Nat := (p % 18446744073709551616).toNat
theorem num_lt (p : Int) : num p < 18446744073709551616 := by unfold num; omega
theorem num_inj {p q : Int} (p0 : -9223372036854775808 ≤ p) (p1 : p ≤ 9223372036854775807) (q0 : -9223372036854775808 ≤ q) (q1 : q ≤ 9223372036854775807) : num p = num q ↔ p = q := by
  unfold num; omega
theorem nwrapi (p : Int) : IntKind.u64.wrap p = ((num p : Nat) : Int) := by rw [IntKind.wrap_u64]; unfold num; omega
theorem num_nat (a : Nat) : num (a : Int) = a % 18446744073709551616 := by unfold num; omega
theorem numg (a : Nat) : num (11400714819323198485 * (a : Int)) = 11400714819323198485 * a % 18446744073709551616 := by
  have e : (11400714819323198485 : Int) * (a : Int) = ((11400714819323198485 * a : Nat) : Int) := (Int.natCast_mul 11400714819323198485 a).symm
  rw [e, num_nat]
theorem seed_in (s : Nat) : IntKind.u64.wrap ((s : Int) + 11400714819323198485) = (((s + 11400714819323198485) % 18446744073709551616 : Nat) : Int) := by rw [IntKind.wrap_u64]; omega
theorem place_in (a : Nat) (p : Int) : IntKind.u64.wrap ((a : Int) + IntKind.u64.wrap (11400714819323198485 * IntKind.u64.wrap p)) = (((a + 11400714819323198485 * num p % 18446744073709551616) % 18446744073709551616 : Nat) : Int) := by
  rw [nwrapi p, nwrapi (11400714819323198485 * _), numg, nadd, nwrapm]
end Go.Proofs.YtknfddakpfkcfabDoor.Dw
