import Derived.Test.YtknfddakpfkcfaaJdT
import Derived.Test.YtknfddakpfkcfaaJdO
namespace Go.Proofs.Ytknfddakpfkcfaa
open Go.ChangeShapes Go.WideShapes Go.ChangeAt Go.RowKit
/-! The law JudgeMoves, from what came in. -/
theorem judgeMoves_walk {H : Type} {enc : TypeId × Value → H} {base : Nat} {sp : Nat → Bool} {held : Bool} {r : Reach} {b0 : Nat} {v0 : Value} {d0 : DataW H} {ps0 : List MemPlace} (slots first goal : Int) (W : World)
    (hval0 : Value.okWide Try.prog W r b0 22 v0) (h0 : DataW.Trod enc Try.prog W base sp held 22 v0 d0 ps0)
    (_ : -9223372036854775808 ≤ slots) (_ : slots ≤ 9223372036854775807) (_ : -9223372036854775808 ≤ first) (_ : first ≤ 9223372036854775807) (_ : -9223372036854775808 ≤ goal) (_ : goal ≤ 9223372036854775807)
    (_ : (DataW.weightsEach Try.prog [22, 3, 3, 3] [d0, .lit (.int .i64 slots), .lit (.int .i64 first), .lit (.int .i64 goal)]).all (· ≤ reachBytes) = true) :
    Calls Try.prog 3 #[v0, .int .i64 slots, .int .i64 first, .int .i64 goal] W fun e w' => e = .returned (.bool true) ∧ Below W.heap.size W w' := by
  obtain ⟨ao, n, ca, fa, rfl, ha, _, sa⟩ := open_list hval0 h0
  exact moves_law ha slots first goal
end Go.Proofs.Ytknfddakpfkcfaa
