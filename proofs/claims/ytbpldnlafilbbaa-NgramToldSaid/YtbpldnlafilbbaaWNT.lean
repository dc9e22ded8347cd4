import Derived.Test.YtbpldnlafilbbaaNgTo
import Derived.Test.YtbpldnlafilbbaaNgOp
namespace Go.Proofs.Ytbpldnlafilbbaa
open Go.ChangeShapes Go.WideShapes Go.ChangeAt Go.RowKit
/-! The law NgramTold, from what came in. -/
theorem ngramTold_walk {H : Type} {enc : TypeId × Value → H} {base : Nat} {sp : Nat → Bool} {held : Bool} {r : Reach} {b0 : Nat} {v0 : Value} {d0 : DataW H} {ps0 : List MemPlace} (n : Int) (W : World)
    (_ : -9223372036854775808 ≤ n) (_ : n ≤ 9223372036854775807)
    (hval0 : Value.okWide Try.prog W r b0 22 v0) (h0 : DataW.Trod enc Try.prog W base sp held 22 v0 d0 ps0)
    (hsz : (DataW.weightsEach Try.prog [3, 22] [.lit (.int .i64 n), d0]).all (· ≤ reachBytes) = true) :
    Calls Try.prog 6 #[.int .i64 n, v0] W fun e w' => e = .returned (.bool true) ∧ Below W.heap.size W w' := by
  obtain ⟨ao, na, ca, fa, rfl, ha, hfa, sa⟩ := open_list hval0 h0
  exact told_law n ha hfa (list_sized (j := 1) hsz rfl rfl sa)
end Go.Proofs.Ytbpldnlafilbbaa
