import Derived.Test.YtknfddakpfkcfabDoorDwBase2
namespace Go.Proofs.YtknfddakpfkcfabDoor.Dw
open Go.RowKit
/-! The walks' words for the steps of the mixing. -/
theorem xor30 (x : Nat) (hx : x < 18446744073709551616) : bits .xor .u64 (x : Int) ((x : Int) / 1073741824) = ((xs 30 x : Nat) : Int) :=
  u64_xor_nat x (x / 1073741824) hx (by omega)
theorem xor27 (x : Nat) (hx : x < 18446744073709551616) : bits .xor .u64 (x : Int) ((x : Int) / 134217728) = ((xs 27 x : Nat) : Int) :=
  u64_xor_nat x (x / 134217728) hx (by omega)
theorem xor31 (x : Nat) (hx : x < 18446744073709551616) : bits .xor .u64 (x : Int) ((x : Int) / 2147483648) = ((xs 31 x : Nat) : Int) :=
  u64_xor_nat x (x / 2147483648) hx (by omega)
theorem nmul1 (a : Nat) : IntKind.u64.wrap ((a : Int) * 13787848793156543929) = ((a * 13787848793156543929 % 18446744073709551616 : Nat) : Int) := by rw [IntKind.wrap_u64]; omega
theorem nmul2 (a : Nat) : IntKind.u64.wrap ((a : Int) * 10723151780598845931) = ((a * 10723151780598845931 % 18446744073709551616 : Nat) : Int) := by rw [IntKind.wrap_u64]; omega
theorem xorr30 (x : Nat) (hx : x < 18446744073709551616) : bits .xor .u64 ((xs 30 x : Nat) : Int) ((x : Int) / 1152921504606846976) = ((sx 30 x : Nat) : Int) :=
  u64_xor_nat (xs 30 x) (x / 1152921504606846976) (xs_lt hx) (by omega)
theorem xorr27 (x : Nat) (hx : x < 18446744073709551616) : bits .xor .u64 ((xs 27 x : Nat) : Int) ((x : Int) / 18014398509481984) = ((sx 27 x : Nat) : Int) :=
  u64_xor_nat (xs 27 x) (x / 18014398509481984) (xs_lt hx) (by omega)
theorem xorr31 (x : Nat) (hx : x < 18446744073709551616) : bits .xor .u64 ((xs 31 x : Nat) : Int) ((x : Int) / 4611686018427387904) = ((sx 31 x : Nat) : Int) :=
  u64_xor_nat (xs 31 x) (x / 4611686018427387904) (xs_lt hx) (by omega)
theorem nmul3 (a : Nat) : IntKind.u64.wrap ((a : Int) * 3573116690164977347) = ((a * 3573116690164977347 % 18446744073709551616 : Nat) : Int) := by rw [IntKind.wrap_u64]; omega
theorem nmul4 (a : Nat) : IntKind.u64.wrap ((a : Int) * 10871156337175269513) = ((a * 10871156337175269513 % 18446744073709551616 : Nat) : Int) := by rw [IntKind.wrap_u64]; omega
end Go.Proofs.YtknfddakpfkcfabDoor.Dw
