import Derived.Test.YteiocgciblogdaaLBAll
import Derived.Test.YteiocgciblogdaaVOpen
namespace Go.Proofs.Yteiocgciblogdaa
open Go.ChangeShapes Go.WideShapes Go.ChangeAt Go.RowKit
/-! The law BpeAlls, from what came in. -/
theorem bpeAlls_walk (t : Int) {H : Type} {enc : TypeId × Value → H} {base : Nat} {sp : Nat → Bool} {held : Bool} {r : Reach} {b0 : Nat} {v0 : Value} {d0 d1 : DataW H} {ps0 : List MemPlace} (W : World)
    (hval0 : Value.okWide Try.prog W r b0 25 v0) (h0 : DataW.Trod enc Try.prog W base sp held 25 v0 d0 ps0) (_h1 : -9223372036854775808 ≤ t) (_h2 : t ≤ 9223372036854775807)
    (hsz : (DataW.weightsEach Try.prog [25, 3] [d0, d1]).all (· ≤ reachBytes) = true) :
    Calls Try.prog 5 #[v0, .int .i64 t] W fun e w' => e = .returned (.bool true) ∧ Below W.heap.size W w' := by
  obtain ⟨d, bo, po, cb, cp, x0, x1, rfl, rb, rp, _, rfl, s0, s1⟩ := open_voc hval0 h0
  obtain ⟨n1, n2⟩ := voc_size hsz (j := 0) rfl rfl s0 s1
  exact alls_walk rb rp n1 n2 t
end Go.Proofs.Yteiocgciblogdaa
