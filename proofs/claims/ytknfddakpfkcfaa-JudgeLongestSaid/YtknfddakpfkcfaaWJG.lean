import Derived.Test.YtknfddakpfkcfaaRcO
namespace Go.Proofs.Ytknfddakpfkcfaa
open Go.ChangeShapes Go.WideShapes Go.ChangeAt Go.RowKit
/-! The law JudgeLongest, from what came in. -/
theorem judgeLongest_walk {H : Type} {enc : TypeId × Value → H} {base : Nat} {sp : Nat → Bool} {held : Bool} {r : Reach} {b0 : Nat} {v0 v1 : Value} {d0 d1 : DataW H} {ps0 ps1 : List MemPlace} (root : Int) (W : World)
    (_ : -9223372036854775808 ≤ root) (_ : root ≤ 9223372036854775807)
    (hval0 : Value.okWide Try.prog W r b0 35 v0) (h0 : DataW.Trod enc Try.prog W base sp held 35 v0 d0 ps0)
    (hval1 : Value.okWide Try.prog W r b0 22 v1) (h1 : DataW.Trod enc Try.prog W base sp held 22 v1 d1 ps1)
    (_ : (DataW.weightsEach Try.prog [3, 35, 22] [.lit (.int .i64 root), d0, d1]).all (· ≤ reachBytes) = true) :
    Calls Try.prog 5 #[.int .i64 root, v0, v1] W fun e w' => e = .returned (.bool true) ∧ Below W.heap.size W w' := by
  obtain ⟨bo, cb, R, rfl, h⟩ := open_rawS hval0 h0
  obtain ⟨co, l, cc, C, rfl, hc, _, _⟩ := open_list hval1 h1
  exact longest_law h hc
end Go.Proofs.Ytknfddakpfkcfaa
