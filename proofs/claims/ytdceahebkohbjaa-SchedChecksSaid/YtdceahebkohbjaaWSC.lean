import Derived.Test.YtdceahebkohbjaaScA
import Derived.Test.YtdceahebkohbjaaServe
namespace Go.Proofs.Ytdceahebkohbjaa
open Go.RowKit
/-! SchedChecks, from what came in. -/
theorem schedChecks_walk (a b c d e k : Int) (W : World) (_ : -9223372036854775808 ≤ a) (_ : a ≤ 9223372036854775807) (_ : -9223372036854775808 ≤ b) (_ : b ≤ 9223372036854775807) (_ : -9223372036854775808 ≤ c) (_ : c ≤ 9223372036854775807) (_ : -9223372036854775808 ≤ d) (_ : d ≤ 9223372036854775807) (_ : -9223372036854775808 ≤ e) (_ : e ≤ 9223372036854775807) (_ : -9223372036854775808 ≤ k) (_ : k ≤ 9223372036854775807) :
    Calls Try.prog 3 #[.agg #[.int .i64 a, .int .i64 b, .int .i64 c, .int .i64 d, .int .i64 e], .int .i64 k] W fun e w' => e = .returned (.bool true) ∧ Below W.heap.size W w' := checks_law W ⟨a, b, c, d, e⟩ k
end Go.Proofs.Ytdceahebkohbjaa
