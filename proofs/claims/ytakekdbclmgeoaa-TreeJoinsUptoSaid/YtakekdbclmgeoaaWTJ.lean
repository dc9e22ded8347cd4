import Derived.Test.YtakekdbclmgeoaaTjD
import Derived.Test.YtakekdbclmgeoaaTjO
namespace Go.Proofs.Ytakekdbclmgeoaa
open Go.ChangeShapes Go.WideShapes Go.ChangeAt Go.RowKit
/-! The law TreeJoins, from what came in. -/
theorem treeJoins_walk {H : Type} {enc : TypeId × Value → H} {base : Nat} {sp : Nat → Bool} {held : Bool} {r : Reach} {b0 : Nat} {v0 : Value} {d0 : DataW H} {ps0 : List MemPlace} (W : World)
    (hval0 : Value.okWide Try.prog W r b0 22 v0) (h0 : DataW.Trod enc Try.prog W base sp held 22 v0 d0 ps0)
    (hb : Rows.uptoBulkAll [d0] ≤ 1048576) :
    Calls Try.prog 3 #[v0] W fun e w' => e = .returned (.bool true) ∧ Below W.heap.size W w' := by
  obtain ⟨ao, m, cap, X, A, C, rfl, h, h1, h2⟩ := open_raws hval0 h0
  simp only [Rows.uptoBulkAll] at hb
  exact joins_law h (by omega) (by omega)
end Go.Proofs.Ytakekdbclmgeoaa
