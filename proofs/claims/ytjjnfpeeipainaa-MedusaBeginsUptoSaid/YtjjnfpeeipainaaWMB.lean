import Derived.Test.YtjjnfpeeipainaaMdT
import Derived.Test.YtjjnfpeeipainaaMdO
import Derived.Test.YtjjnfpeeipainaaWtO
namespace Go.Proofs.Ytjjnfpeeipainaa
open Go.ChangeShapes Go.WideShapes Go.ChangeAt Go.RowKit Go.Deep
/-! The law MedusaBegins, from what came in. -/
set_option maxRecDepth 100000 in
theorem medusaBegins_walk {H : Type} {enc : TypeId × Value → H} {base : Nat} {sp : Nat → Bool} {held : Bool} {r : Reach} {b0 : Nat} {v0 v1 v2 : Value} {d0 d1 d2 : DataW H} {ps0 ps1 ps2 : List MemPlace} (n : Int) (W : World)
    (hval0 : Value.okWide Try.prog W r b0 31 v0) (h0 : DataW.Trod enc Try.prog W base sp held 31 v0 d0 ps0) (hval1 : Value.okWide Try.prog W r b0 24 v1) (h1 : DataW.Trod enc Try.prog W base sp held 24 v1 d1 ps1)
    (hval2 : Value.okWide Try.prog W r b0 37 v2) (h2 : DataW.Trod enc Try.prog W base sp held 37 v2 d2 ps2)
    (_ : -9223372036854775808 ≤ n) (_ : n ≤ 9223372036854775807) (hb : Rows.uptoBulkAll [d0, d1, d2, .lit (.int .i64 n)] ≤ 1048576) :
    Calls Try.prog 6 #[v0, v1, v2, .int .i64 n] W fun e w' => e = .returned (.bool true) ∧ Below W.heap.size W w' := by
  obtain ⟨x, rfl, hx⟩ := open_weights hval0 h0
  obtain ⟨l, rfl, hl⟩ := open_narrow hval1 h1
  obtain ⟨wo, m, wc, f, rfl, hw, _, hs⟩ := open_list hval2 h2
  exact begins_law hx hl.rd hl.bd hw (row_bulk hb (by simp) hs) n
end Go.Proofs.Ytjjnfpeeipainaa
