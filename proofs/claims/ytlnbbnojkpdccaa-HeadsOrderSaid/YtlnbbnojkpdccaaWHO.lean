import Derived.Test.YtlnbbnojkpdccaaWHT
import Derived.Test.YtlnbbnojkpdccaaHH
namespace Go.Proofs.Ytlnbbnojkpdccaa
open Go.ChangeShapes Go.WideShapes Go.ChangeAt Go.RowKit Go.Deep
/-! The law HeadsOrder, from what came in. -/
set_option maxRecDepth 100000 in
theorem headsOrder_walk {H : Type} {enc : TypeId × Value → H} {base : Nat} {sp : Nat → Bool} {held : Bool} {r : Reach} {b0 : Nat} {v0 : Value} {d0 d1 d2 : DataW H} {ps0 : List MemPlace} (a1 a2 : Int) (W : World)
    (hval0 : Value.okWide Try.prog W r b0 22 v0) (h0 : DataW.Trod enc Try.prog W base sp held 22 v0 d0 ps0) (k1 : -9223372036854775808 ≤ a1) (k2 : a1 ≤ 9223372036854775807) (m1 : -9223372036854775808 ≤ a2) (m2 : a2 ≤ 9223372036854775807)
    (hsz : (DataW.weightsEach Try.prog [22, 3, 2] [d0, d1, d2]).all (· ≤ reachBytes) = true) :
    Calls Try.prog 4 #[v0, .int .i64 a1, .int .i64 a2] W fun e w' => e = .returned (.bool true) ∧ Below W.heap.size W w' := by
  obtain ⟨ao, n, cap, f, rfl, hr, hf, hn⟩ := open_wide (j := 0) hval0 h0 hsz rfl rfl
  exact order_law hr hn hf a1 a2 k1 k2 m1 m2
end Go.Proofs.Ytlnbbnojkpdccaa
