import Derived.Test.YtakekdbclmgeoaaTmB
import Derived.Test.YtakekdbclmgeoaaTrO
namespace Go.Proofs.Ytakekdbclmgeoaa
open Go.ChangeShapes Go.WideShapes Go.ChangeAt Go.RowKit
/-! The law TreeMasks, from what came in. -/
theorem treeMasks_walk {H : Type} {enc : TypeId × Value → H} {base : Nat} {sp : Nat → Bool} {held : Bool} {r : Reach} {b0 : Nat} {v0 : Value} {d0 : DataW H} {ps0 : List MemPlace} (W : World)
    (hval0 : Value.okWide Try.prog W r b0 29 v0) (h0 : DataW.Trod enc Try.prog W base sp held 29 v0 d0 ps0)
    (hsz : (DataW.weightsEach Try.prog [29] [d0]).all (· ≤ reachBytes) = true) :
    Calls Try.prog 8 #[v0] W fun e w' => e = .returned (.bool true) ∧ Below W.heap.size W w' := by
  obtain ⟨ao, n, cap, P, T, D, rfl, h, hs⟩ := open_nodes hval0 h0
  exact masks_law h (nodes_sized (j := 0) hsz rfl rfl hs)
end Go.Proofs.Ytakekdbclmgeoaa
