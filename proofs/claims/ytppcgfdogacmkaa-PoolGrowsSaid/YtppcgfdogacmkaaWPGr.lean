import Derived.Test.YtppcgfdogacmkaaLPGw
namespace Go.Proofs.Ytppcgfdogacmkaa
open Go.RowKit
/-! The law PoolGrows, from what came in. -/
theorem poolGrows_walk (a0 a1 a2 n m : Int) (W : World) (_ : -9223372036854775808 ≤ a0) (_ : a0 ≤ 9223372036854775807) (_ : -9223372036854775808 ≤ a1) (_ : a1 ≤ 9223372036854775807) (_ : -9223372036854775808 ≤ a2) (_ : a2 ≤ 9223372036854775807) (h1 : -9223372036854775808 ≤ n) (h2 : n ≤ 9223372036854775807) (_ : -9223372036854775808 ≤ m) (_ : m ≤ 9223372036854775807) :
    Calls Try.prog 5 #[.int .i64 a0, .int .i64 a1, .int .i64 a2, .int .i64 n, .int .i64 m] W fun e w' => e = .returned (.bool true) ∧ Below W.heap.size W w' := grows_law W a0 a1 a2 n m h1 h2
end Go.Proofs.Ytppcgfdogacmkaa
