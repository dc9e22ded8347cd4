import Derived.Test.YtilghknalbhacaaJAY
import Derived.Test.YtilghknalbhacaaWWX
namespace Go.Proofs.Ytilghknalbhacaa
open Go.ChangeShapes Go.WideShapes Go.ChangeAt Go.RowKit Go.Deep
/-! The law ModelChecks, from what came in. -/
set_option maxRecDepth 100000 in
theorem modelChecks_walk {H : Type} {enc : TypeId × Value → H} {base : Nat} {sp : Nat → Bool} {held : Bool} {r : Reach} {b0 : Nat} {v0 : Value} {d0 : DataW H} {ps0 : List MemPlace} (W : World)
    (hval0 : Value.okWide Try.prog W r b0 34 v0) (h0 : DataW.Trod enc Try.prog W base sp held 34 v0 d0 ps0) (hb : Rows.uptoBulkAll [d0] ≤ 1048576) :
    Calls Try.prog 6 #[v0] W fun e w' => e = .returned (.bool true) ∧ Below W.heap.size W w' := by
  obtain ⟨x, rfl, hx, hB⟩ := open_weights hval0 h0
  exact checks_any hx (hB (Nat.le_trans (bulk_mem (by simp)) hb))
end Go.Proofs.Ytilghknalbhacaa
