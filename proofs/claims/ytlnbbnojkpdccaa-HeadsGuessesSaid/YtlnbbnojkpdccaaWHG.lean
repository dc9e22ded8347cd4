import Derived.Test.YtlnbbnojkpdccaaLX
import Derived.Test.YtlnbbnojkpdccaaWtO
namespace Go.Proofs.Ytlnbbnojkpdccaa
open Go.ChangeShapes Go.WideShapes Go.ChangeAt Go.RowKit Go.Deep
/-! The law HeadsGuesses, from what came in. -/
set_option maxRecDepth 100000 in
theorem headsGuesses_walk {H : Type} {enc : TypeId × Value → H} {base : Nat} {sp : Nat → Bool} {held : Bool} {r : Reach} {b0 b1 : Nat} {v0 v1 : Value} {d0 d1 : DataW H} {ps0 ps1 : List MemPlace} (W : World)
    (hval0 : Value.okWide Try.prog W r b0 46 v0) (h0 : DataW.Trod enc Try.prog W base sp held 46 v0 d0 ps0) (hval1 : Value.okWide Try.prog W r b1 39 v1) (h1 : DataW.Trod enc Try.prog W base sp held 39 v1 d1 ps1) :
    Calls Try.prog 8 #[v0, v1] W fun e w' => e = .returned (.bool true) ∧ Below W.heap.size W w' := by
  obtain ⟨x, rfl, hx⟩ := open_weights hval0 h0
  obtain ⟨l, rfl, hl⟩ := open_narrow hval1 h1
  exact guesses_law hx hl.rd hl.bd
end Go.Proofs.Ytlnbbnojkpdccaa
