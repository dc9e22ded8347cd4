import Derived.Test.YtakekdbclmgeoabRcOt
import Derived.Test.YtakekdbclmgeoabCqJ
namespace Go.Proofs.Ytakekdbclmgeoab
open Go.ChangeShapes Go.WideShapes Go.ChangeAt Go.RowKit
/-! The law TreeSound, from what came in. -/
theorem treeSound_walk {H : Type} {enc : TypeId × Value → H} {base : Nat} {sp : Nat → Bool} {held : Bool} {r : Reach} {b0 : Nat} {v0 : Value} {d0 : DataW H} {ps0 : List MemPlace} (root vocab : Int) (W : World)
    (_ : -9223372036854775808 ≤ root) (_ : root ≤ 9223372036854775807)
    (hval0 : Value.okWide Try.prog W r b0 22 v0) (h0 : DataW.Trod enc Try.prog W base sp held 22 v0 d0 ps0)
    (h1 : -9223372036854775808 ≤ vocab) (h2 : vocab ≤ 9223372036854775807)
    (hsz : (DataW.weightsEach Try.prog [3, 22, 3] [.lit (.int .i64 root), d0, .lit (.int .i64 vocab)]).all (· ≤ reachBytes) = true) :
    Calls Try.prog 4 #[.int .i64 root, v0, .int .i64 vocab] W fun e w' => e = .returned (.bool true) ∧ Below W.heap.size W w' := by
  obtain ⟨bo, cb, R, rfl, h, hs⟩ := open_rawS hval0 h0
  exact sound_law h (raw_sized (j := 1) hsz rfl rfl hs) ⟨h1, h2⟩
end Go.Proofs.Ytakekdbclmgeoab
