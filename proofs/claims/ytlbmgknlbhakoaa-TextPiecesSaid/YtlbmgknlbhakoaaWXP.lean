import Derived.Test.YtlbmgknlbhakoaaTxS
import Derived.Test.YtlbmgknlbhakoaaTxO
namespace Go.Proofs.Ytlbmgknlbhakoaa
open Go.ChangeShapes Go.WideShapes Go.ChangeAt Go.RowKit
/-! The law TextPieces, from what came in. -/
theorem textPieces_walk {H : Type} {enc : TypeId × Value → H} {base : Nat} {sp : Nat → Bool} {held : Bool} {r : Reach} {b0 : Nat} {v0 v1 v2 v3 : Value} {d0 d1 d2 d3 : DataW H} {ps0 ps1 ps2 ps3 : List MemPlace} (W : World)
    (hval0 : Value.okWide Try.prog W r b0 25 v0) (h0 : DataW.Trod enc Try.prog W base sp held 25 v0 d0 ps0)
    (hval1 : Value.okWide Try.prog W r b0 26 v1) (h1 : DataW.Trod enc Try.prog W base sp held 26 v1 d1 ps1)
    (hval2 : Value.okWide Try.prog W r b0 27 v2) (h2 : DataW.Trod enc Try.prog W base sp held 27 v2 d2 ps2)
    (hval3 : Value.okWide Try.prog W r b0 27 v3) (h3 : DataW.Trod enc Try.prog W base sp held 27 v3 d3 ps3)
    (hsz : (DataW.weightsEach Try.prog [25, 26, 27, 27] [d0, d1, d2, d3]).all (· ≤ reachBytes) = true) :
    Calls Try.prog 4 #[v0, v1, v2, v3] W fun e w' => e = .returned (.bool true) ∧ Below W.heap.size W w' := by
  obtain ⟨d, bo, po, cb, cp, x0, x1, rfl, rb, rp, hB, rfl, s0, s1⟩ := open_voc hval0 h0
  obtain ⟨so, cs, sb, rfl, rs, hlen⟩ := open_strs hval1 h1
  obtain ⟨lo, n, cl, T, rfl, rl, hT⟩ := open_intl hval2 h2
  obtain ⟨ko, m, ck, U, rfl, rk, hU, s3⟩ := open_ints2 hval3 h3
  have hm := list_sized hsz (j := 3) rfl rfl s3
  exact pieces_law rb rp hB rs hlen rl hT rk hU (by omega)
end Go.Proofs.Ytlbmgknlbhakoaa
