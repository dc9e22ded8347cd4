import Derived.Test.YtknfddakpfkcfaaJdX
import Derived.Test.YtknfddakpfkcfaaTrOj
import Derived.Test.YtknfddakpfkcfaaJdO
namespace Go.Proofs.Ytknfddakpfkcfaa
open Go.ChangeShapes Go.WideShapes Go.ChangeAt Go.RowKit
/-! The law JudgeLists, from what came in. -/
theorem judgeLists_walk {H : Type} {enc : TypeId × Value → H} {base : Nat} {sp : Nat → Bool} {held : Bool} {r : Reach} {b0 : Nat} {v0 v1 v2 v3 : Value} {d0 d1 d2 d3 : DataW H} {ps0 ps1 ps2 ps3 : List MemPlace} (most : Int) (W : World)
    (hval0 : Value.okWide Try.prog W r b0 36 v0) (h0 : DataW.Trod enc Try.prog W base sp held 36 v0 d0 ps0)
    (hval1 : Value.okWide Try.prog W r b0 22 v1) (h1 : DataW.Trod enc Try.prog W base sp held 22 v1 d1 ps1)
    (hval2 : Value.okWide Try.prog W r b0 22 v2) (h2 : DataW.Trod enc Try.prog W base sp held 22 v2 d2 ps2)
    (hval3 : Value.okWide Try.prog W r b0 22 v3) (h3 : DataW.Trod enc Try.prog W base sp held 22 v3 d3 ps3)
    (_ : -9223372036854775808 ≤ most) (_ : most ≤ 9223372036854775807)
    (hsz : (DataW.weightsEach Try.prog [36, 22, 22, 22, 3] [d0, d1, d2, d3, .lit (.int .i64 most)]).all (· ≤ reachBytes) = true) :
    Calls Try.prog 8 #[v0, v1, v2, v3, .int .i64 most] W fun e w' => e = .returned (.bool true) ∧ Below W.heap.size W w' := by
  obtain ⟨ao, n, ca, P, T, D, rfl, h, hs⟩ := open_nodes hval0 h0
  obtain ⟨bo, l, cb, C, rfl, hc, _, hs1⟩ := open_list hval1 h1
  obtain ⟨co, ns, cc, S, rfl, hS, _, hs2⟩ := open_list hval2 h2
  obtain ⟨xo, lz, cx, Z, rfl, hZ, _, hs3⟩ := open_list hval3 h3
  have e1 := list_sized (j := 1) hsz rfl rfl hs1
  have e2 := list_sized (j := 2) hsz rfl rfl hs2
  have e3 := list_sized (j := 3) hsz rfl rfl hs3
  exact lists_law h hc hS hZ (nodes_sized (j := 0) hsz rfl rfl hs) (by omega) (by omega) (by omega)
end Go.Proofs.Ytknfddakpfkcfaa
