import Derived.Test.YtbpldnlafilbbaaNgU
import Derived.Test.YtbpldnlafilbbaaNgOp
namespace Go.Proofs.Ytbpldnlafilbbaa
open Go.ChangeShapes Go.WideShapes Go.ChangeAt Go.RowKit
/-! The law NgramCuts, from what came in. -/
theorem ngramCuts_walk {H : Type} {enc : TypeId × Value → H} {base : Nat} {sp : Nat → Bool} {held : Bool} {r : Reach} {b0 : Nat} {v0 v1 : Value} {d0 d1 : DataW H} {ps0 ps1 : List MemPlace} (n : Int) (ways deep : Int) (W : World)
    (_ : -9223372036854775808 ≤ n) (_ : n ≤ 9223372036854775807)
    (hval0 : Value.okWide Try.prog W r b0 22 v0) (h0 : DataW.Trod enc Try.prog W base sp held 22 v0 d0 ps0)
    (hval1 : Value.okWide Try.prog W r b0 22 v1) (h1 : DataW.Trod enc Try.prog W base sp held 22 v1 d1 ps1)
    (hw0 : -9223372036854775808 ≤ ways) (hw1 : ways ≤ 9223372036854775807) (hd0 : -9223372036854775808 ≤ deep) (hd1 : deep ≤ 9223372036854775807) (hb : Rows.uptoBulkAll [.lit (.int .i64 n), d0, d1, .lit (.int .i64 ways), .lit (.int .i64 deep)] ≤ 1048576) :
    Calls Try.prog 7 #[.int .i64 n, v0, v1, .int .i64 ways, .int .i64 deep] W fun e w' => e = .returned (.bool true) ∧ Below W.heap.size W w' := by
  obtain ⟨ao, na, ca, fa, rfl, ha, hfa, sa⟩ := open_list hval0 h0
  obtain ⟨bo, nb, cb, fb, rfl, hb', hfb, sb⟩ := open_list hval1 h1
  have n1 := row_bulk hb (by simp) sa
  have n2 := row_bulk hb (by simp) sb
  exact cuts_law n ways deep ⟨hw0, hw1⟩ ⟨hd0, hd1⟩ ha hb' hfa hfb (by omega)
end Go.Proofs.Ytbpldnlafilbbaa
