import Derived.Test.YtknfddakpfkcfaaJdP
import Derived.Test.YtknfddakpfkcfaaTrOj
import Derived.Test.YtknfddakpfkcfaaJdO
namespace Go.Proofs.Ytknfddakpfkcfaa
open Go.ChangeShapes Go.WideShapes Go.ChangeAt Go.RowKit
/-! The law JudgeTakes, from what came in. -/
theorem judgeTakes_walk {H : Type} {enc : TypeId × Value → H} {base : Nat} {sp : Nat → Bool} {held : Bool} {r : Reach} {b0 : Nat} {v0 v1 : Value} {d0 d1 : DataW H} {ps0 ps1 : List MemPlace} (next most : Int) (W : World)
    (hval0 : Value.okWide Try.prog W r b0 36 v0) (h0 : DataW.Trod enc Try.prog W base sp held 36 v0 d0 ps0)
    (hval1 : Value.okWide Try.prog W r b0 22 v1) (h1 : DataW.Trod enc Try.prog W base sp held 22 v1 d1 ps1)
    (_ : -9223372036854775808 ≤ next) (_ : next ≤ 9223372036854775807) (_ : -9223372036854775808 ≤ most) (_ : most ≤ 9223372036854775807)
    (hsz : (DataW.weightsEach Try.prog [36, 22, 3, 3] [d0, d1, .lit (.int .i64 next), .lit (.int .i64 most)]).all (· ≤ reachBytes) = true) :
    Calls Try.prog 7 #[v0, v1, .int .i64 next, .int .i64 most] W fun e w' => e = .returned (.bool true) ∧ Below W.heap.size W w' := by
  obtain ⟨ao, n, cap, P, T, D, rfl, h, hs⟩ := open_nodes hval0 h0
  obtain ⟨bo, l, cb, C, rfl, hc, _, hs1⟩ := open_list hval1 h1
  have hl := list_sized (j := 1) hsz rfl rfl hs1
  exact takes_law h hc (nodes_sized (j := 0) hsz rfl rfl hs) (by omega)
end Go.Proofs.Ytknfddakpfkcfaa
