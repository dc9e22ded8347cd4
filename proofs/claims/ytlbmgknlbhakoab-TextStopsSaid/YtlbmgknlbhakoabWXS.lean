import Derived.Test.YtlbmgknlbhakoabTzA
import Derived.Test.YtlbmgknlbhakoabTxO
namespace Go.Proofs.Ytlbmgknlbhakoab
open Go.ChangeShapes Go.WideShapes Go.ChangeAt Go.RowKit
/-! The law TextStops, from what came in. -/
set_option maxRecDepth 100000 in
theorem textStops_walk {H : Type} {enc : TypeId × Value → H} {base : Nat} {sp : Nat → Bool} {held : Bool} {r : Reach} {b0 : Nat} {v0 v1 v2 : Value} {d0 d1 d2 : DataW H} {ps0 ps1 ps2 : List MemPlace} (W : World)
    (hval0 : Value.okWide Try.prog W r b0 25 v0) (h0 : DataW.Trod enc Try.prog W base sp held 25 v0 d0 ps0)
    (hval1 : Value.okWide Try.prog W r b0 26 v1) (h1 : DataW.Trod enc Try.prog W base sp held 26 v1 d1 ps1)
    (hval2 : Value.okWide Try.prog W r b0 27 v2) (h2 : DataW.Trod enc Try.prog W base sp held 27 v2 d2 ps2) :
    Calls Try.prog 3 #[v0, v1, v2] W fun e w' => e = .returned (.bool true) ∧ Below W.heap.size W w' := by
  obtain ⟨d, bo, po, cb, cp, x0, x1, rfl, rb, rp, hB, rfl, s0, s1⟩ := open_voc hval0 h0
  obtain ⟨so, cs, sb, rfl, rs, hlen⟩ := open_strs hval1 h1
  obtain ⟨lo, n, cl, T, rfl, rl, hT⟩ := open_intl hval2 h2
  exact stops_law rb rp hB rs hlen rl hT
end Go.Proofs.Ytlbmgknlbhakoab
