import Derived.Test.YtemmghneohnigaaWqF
import Derived.Test.YtemmghneohnigaaWqO
namespace Go.Proofs.Ytemmghneohnigaa
open Go.ChangeShapes Go.WideShapes Go.ChangeAt Go.RowKit
/-! The law WireQuotes, from what came in. -/
theorem wireQuotes_walk {H : Type} {enc : TypeId × Value → H} {base : Nat} {sp : Nat → Bool} {held : Bool} {r : Reach} {b0 : Nat} {v0 : Value} {d0 : DataW H} {ps0 : List MemPlace} (W : World)
    (hval0 : Value.okWide Try.prog W r b0 22 v0) (h0 : DataW.Trod enc Try.prog W base sp held 22 v0 d0 ps0)
    (hb : Rows.uptoBulkAll [d0] ≤ 1048576) :
    Calls Try.prog 3 #[v0] W fun e w' => e = .returned (.bool true) ∧ Below W.heap.size W w' := by
  obtain ⟨ao, l, cap, rfl, h, hB, hs⟩ := open_bytes hval0 h0
  have := row_bulk hb (by simp) hs
  exact quotes_law h hB (by omega)
end Go.Proofs.Ytemmghneohnigaa
