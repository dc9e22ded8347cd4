import Derived.Test.YtbpldnlafilbbaaNgY
namespace Go.Proofs.Ytbpldnlafilbbaa
open Go.ChangeShapes Go.WideShapes Go.ChangeAt Go.RowKit
/-! The law NgramAlike, from what came in. -/
theorem ngramAlike_walk (n token long : Int) (W : World)
    (_ : -9223372036854775808 ≤ n) (_ : n ≤ 9223372036854775807) (h2 : -9223372036854775808 ≤ token) (h3 : token ≤ 9223372036854775807) (h4 : -9223372036854775808 ≤ long) (h5 : long ≤ 9223372036854775807) :
    Calls Try.prog 5 #[.int .i64 n, .int .i64 token, .int .i64 long] W fun e w' => e = .returned (.bool true) ∧ Below W.heap.size W w' :=
  alike_law n token long h4 h5 ⟨h2, h3⟩
end Go.Proofs.Ytbpldnlafilbbaa
