import Derived.Test.YtlnbbnojkpdccaaWHT
import Derived.Test.YtlnbbnojkpdccaaHJ
namespace Go.Proofs.Ytlnbbnojkpdccaa
open Go.ChangeShapes Go.WideShapes Go.ChangeAt Go.RowKit Go.Deep
/-! The law HeadsLater, from what came in. -/
set_option maxRecDepth 100000 in
theorem headsLater_walk {H : Type} {enc : TypeId × Value → H} {base : Nat} {sp : Nat → Bool} {held : Bool} {r : Reach} {b0 : Nat} {v0 v1 : Value} {d0 d1 d2 : DataW H} {ps0 ps1 : List MemPlace} (a2 : Int) (W : World)
    (hval0 : Value.okWide Try.prog W r b0 22 v0) (h0 : DataW.Trod enc Try.prog W base sp held 22 v0 d0 ps0) (hval1 : Value.okWide Try.prog W r b0 22 v1) (h1 : DataW.Trod enc Try.prog W base sp held 22 v1 d1 ps1) (_ : -9223372036854775808 ≤ a2) (_ : a2 ≤ 9223372036854775807)
    (hsz : (DataW.weightsEach Try.prog [22, 22, 3] [d0, d1, d2]).all (· ≤ reachBytes) = true) :
    Calls Try.prog 5 #[v0, v1, .int .i64 a2] W fun e w' => e = .returned (.bool true) ∧ Below W.heap.size W w' := by
  obtain ⟨ao, n, cap, f, rfl, hr, _, hn⟩ := open_wide (j := 0) hval0 h0 hsz rfl rfl
  obtain ⟨bo, m, cb, g, rfl, hl, _, _⟩ := open_wide (j := 1) hval1 h1 hsz rfl rfl
  exact later_law hr hn hl a2
end Go.Proofs.Ytlnbbnojkpdccaa
