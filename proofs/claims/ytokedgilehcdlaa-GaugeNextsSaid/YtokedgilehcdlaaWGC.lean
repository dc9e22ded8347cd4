import Derived.Test.YtokedgilehcdlaaGgG
import Derived.Test.YtokedgilehcdlaaGauge
namespace Go.Proofs.Ytokedgilehcdlaa
open Go.RowKit
/-! The laws of layer 17 without lists, from what came in. -/
theorem gaugeChecks_walk (s m r : Int) (W : World) (_ : -9223372036854775808 ≤ s) (_ : s ≤ 9223372036854775807) (_ : -9223372036854775808 ≤ m) (_ : m ≤ 9223372036854775807) (_ : -9223372036854775808 ≤ r) (_ : r ≤ 9223372036854775807) :
    Calls Try.prog 3 #[.agg #[.int .i64 s, .int .i64 m, .int .i64 r]] W fun e w' => e = .returned (.bool true) ∧ Below W.heap.size W w' := checks_law W s m r
theorem gaugeNews_walk (n : Int) (W : World) (_ : -9223372036854775808 ≤ n) (_ : n ≤ 9223372036854775807) :
    Calls Try.prog 4 #[.int .i64 n] W fun e w' => e = .returned (.bool true) ∧ Below W.heap.size W w' := news_law W n
theorem gaugeNexts_walk (s m r n a : Int) (W : World) (_ : -9223372036854775808 ≤ s) (_ : s ≤ 9223372036854775807) (_ : -9223372036854775808 ≤ m) (_ : m ≤ 9223372036854775807) (_ : -9223372036854775808 ≤ r) (_ : r ≤ 9223372036854775807) (_ : -9223372036854775808 ≤ n) (_ : n ≤ 9223372036854775807) (h1 : -9223372036854775808 ≤ a) (h2 : a ≤ 9223372036854775807) :
    Calls Try.prog 7 #[.agg #[.int .i64 s, .int .i64 m, .int .i64 r], .int .i64 n, .int .i64 a] W fun e w' => e = .returned (.bool true) ∧ Below W.heap.size W w' := nexts_law W s m r n a h1 h2
end Go.Proofs.Ytokedgilehcdlaa
