import Derived.Test.YtjjnfpeeipainaaMdQ
import Derived.Test.YtjjnfpeeipainaaMdO
import Derived.Test.YtjjnfpeeipainaaWtO
namespace Go.Proofs.Ytjjnfpeeipainaa
open Go.ChangeShapes Go.WideShapes Go.ChangeAt Go.RowKit Go.Deep
/-! The law MedusaShape, from what came in. -/
set_option maxRecDepth 100000 in
theorem medusaShape_walk {H : Type} {enc : TypeId × Value → H} {base : Nat} {sp : Nat → Bool} {held : Bool} {r : Reach} {b0 : Nat} {v0 v1 v2 : Value} {d0 d1 d2 : DataW H} {ps0 ps1 ps2 : List MemPlace} (W : World)
    (hval0 : Value.okWide Try.prog W r b0 31 v0) (h0 : DataW.Trod enc Try.prog W base sp held 31 v0 d0 ps0) (hval1 : Value.okWide Try.prog W r b0 24 v1) (h1 : DataW.Trod enc Try.prog W base sp held 24 v1 d1 ps1)
    (hval2 : Value.okWide Try.prog W r b0 37 v2) (h2 : DataW.Trod enc Try.prog W base sp held 37 v2 d2 ps2) :
    Calls Try.prog 4 #[v0, v1, v2] W fun e w' => e = .returned (.bool true) ∧ Below W.heap.size W w' := by
  obtain ⟨x, rfl, hx⟩ := open_weights hval0 h0
  obtain ⟨l, rfl, hl⟩ := open_narrow hval1 h1
  obtain ⟨wo, m, wc, f, rfl, hw, _, _⟩ := open_list hval2 h2
  exact shape_law hx hl.rd hl.bd hw
end Go.Proofs.Ytjjnfpeeipainaa
