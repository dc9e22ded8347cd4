import Derived.Test.YtbpldnlafilbbaaNgV
import Derived.Test.YtbpldnlafilbbaaNgOp
namespace Go.Proofs.Ytbpldnlafilbbaa
open Go.ChangeShapes Go.WideShapes Go.ChangeAt Go.RowKit
/-! The law NgramRaws, from what came in. -/
theorem ngramRaws_walk {H : Type} {enc : TypeId × Value → H} {base : Nat} {sp : Nat → Bool} {held : Bool} {r : Reach} {b0 : Nat} {v0 : Value} {d0 : DataW H} {ps0 : List MemPlace} (n : Int) (ways deep : Int) (W : World)
    (_ : -9223372036854775808 ≤ n) (_ : n ≤ 9223372036854775807)
    (hval0 : Value.okWide Try.prog W r b0 22 v0) (h0 : DataW.Trod enc Try.prog W base sp held 22 v0 d0 ps0)
    (hw0 : -9223372036854775808 ≤ ways) (hw1 : ways ≤ 9223372036854775807) (hd0 : -9223372036854775808 ≤ deep) (hd1 : deep ≤ 9223372036854775807)
    (hsz : (DataW.weightsEach Try.prog [3, 22, 3, 3] [.lit (.int .i64 n), d0, .lit (.int .i64 ways), .lit (.int .i64 deep)]).all (· ≤ reachBytes) = true) :
    Calls Try.prog 3 #[.int .i64 n, v0, .int .i64 ways, .int .i64 deep] W fun e w' => e = .returned (.bool true) ∧ Below W.heap.size W w' := by
  obtain ⟨ao, na, ca, fa, rfl, ha, hfa, sa⟩ := open_list hval0 h0
  exact raws_law n ways deep ⟨hw0, hw1⟩ ⟨hd0, hd1⟩ ha hfa (list_sized (j := 1) hsz rfl rfl sa)
end Go.Proofs.Ytbpldnlafilbbaa
