import Derived.Test.YtknfddakpfkcfaaJdN
import Derived.Test.YtknfddakpfkcfaaTrOj
import Derived.Test.YtknfddakpfkcfaaJdO
namespace Go.Proofs.Ytknfddakpfkcfaa
open Go.ChangeShapes Go.WideShapes Go.ChangeAt Go.RowKit
/-! The law JudgeWalks, from what came in. -/
theorem judgeWalks_walk {H : Type} {enc : TypeId × Value → H} {base : Nat} {sp : Nat → Bool} {held : Bool} {r : Reach} {b0 : Nat} {v0 v1 : Value} {d0 d1 : DataW H} {ps0 ps1 : List MemPlace} (W : World)
    (hval0 : Value.okWide Try.prog W r b0 36 v0) (h0 : DataW.Trod enc Try.prog W base sp held 36 v0 d0 ps0)
    (hval1 : Value.okWide Try.prog W r b0 22 v1) (h1 : DataW.Trod enc Try.prog W base sp held 22 v1 d1 ps1)
    (hsz : (DataW.weightsEach Try.prog [36, 22] [d0, d1]).all (· ≤ reachBytes) = true) :
    Calls Try.prog 6 #[v0, v1] W fun e w' => e = .returned (.bool true) ∧ Below W.heap.size W w' := by
  obtain ⟨ao, n, cap, P, T, D, rfl, h, hs⟩ := open_nodes hval0 h0
  obtain ⟨bo, l, cb, C, rfl, hc, _, hs1⟩ := open_list hval1 h1
  have hl := list_sized (j := 1) hsz rfl rfl hs1
  exact walks_law h hc (nodes_sized (j := 0) hsz rfl rfl hs) (by omega)
end Go.Proofs.Ytknfddakpfkcfaa
