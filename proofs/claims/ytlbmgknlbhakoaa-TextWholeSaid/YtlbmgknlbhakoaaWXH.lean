import Derived.Test.YtlbmgknlbhakoaaTxW
import Derived.Test.YtlbmgknlbhakoaaTxO
namespace Go.Proofs.Ytlbmgknlbhakoaa
open Go.ChangeShapes Go.WideShapes Go.ChangeAt Go.RowKit
/-! The law TextWhole, from what came in. -/
theorem textWhole_walk {H : Type} {enc : TypeId × Value → H} {base : Nat} {sp : Nat → Bool} {held : Bool} {r : Reach} {b0 : Nat} {v0 v1 v2 : Value} {d0 d1 d2 : DataW H} {ps0 ps1 ps2 : List MemPlace} (W : World)
    (hval0 : Value.okWide Try.prog W r b0 25 v0) (h0 : DataW.Trod enc Try.prog W base sp held 25 v0 d0 ps0)
    (hval1 : Value.okWide Try.prog W r b0 22 v1) (h1 : DataW.Trod enc Try.prog W base sp held 22 v1 d1 ps1)
    (hval2 : Value.okWide Try.prog W r b0 27 v2) (h2 : DataW.Trod enc Try.prog W base sp held 27 v2 d2 ps2) :
    Calls Try.prog 6 #[v0, v1, v2] W fun e w' => e = .returned (.bool true) ∧ Below W.heap.size W w' := by
  obtain ⟨d, bo, po, cb, cp, x0, x1, rfl, rb, rp, hB, rfl, s0, s1⟩ := open_voc hval0 h0
  obtain ⟨ao, n, ca, X, rfl, rl, hX⟩ := open_bytl hval1 h1
  obtain ⟨ko, C, ck, U, rfl, rk, hU⟩ := open_intl hval2 h2
  exact whole_law rb rp hB rl hX rk hU
end Go.Proofs.Ytlbmgknlbhakoaa
