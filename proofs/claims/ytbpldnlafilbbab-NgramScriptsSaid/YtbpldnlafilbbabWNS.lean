import Derived.Test.YtbpldnlafilbbabNgSl
import Derived.Test.YtbpldnlafilbbabWNSo
namespace Go.Proofs.Ytbpldnlafilbbab
open Go.ChangeShapes Go.WideShapes Go.ChangeAt Go.RowKit Go.Deep
/-! The law NgramScripts, from what came in. -/
set_option maxRecDepth 100000 in
theorem ngramScripts_walk {H : Type} {enc : TypeId × Value → H} {base : Nat} {sp : Nat → Bool} {held : Bool} {r : Reach} {b0 : Nat} {v0 : Value} {d0 : DataW H} {ps0 : List MemPlace} (W : World)
    (hval0 : Value.okWide Try.prog W r b0 40 v0) (h0 : DataW.Trod enc Try.prog W base sp held 40 v0 d0 ps0)
    (hsz : (DataW.weightsEach Try.prog [40] [d0]).all (· ≤ reachBytes) = true) :
    Calls Try.prog 4 #[v0] W fun e w' => e = .returned (.bool true) ∧ Below W.heap.size W w' := by
  obtain ⟨a2, l2, c2, rfl⟩ := okWide_slice Try.underlying40 hval0
  obtain ⟨fuel, h0⟩ := h0
  have h0 : DataW.trod enc Try.prog W base sp held fuel 40 [.slice a2 l2 c2] = some (d0, ps0) := h0
  obtain ⟨so, n, cap, s, e, hs⟩ := open_script h0 (fun q hq => of_decide_eq_true (List.all_eq_true.1 hsz _ (DataW.weights_mem_each (j := 0) rfl rfl _ hq)))
  rw [e]
  exact scripts_law hs
end Go.Proofs.Ytbpldnlafilbbab
