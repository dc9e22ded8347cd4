import Derived.Test.YtbpldnlafilbbaaNgLb
import Derived.Test.YtbpldnlafilbbaaNgOp
namespace Go.Proofs.Ytbpldnlafilbbaa
open Go.ChangeShapes Go.WideShapes Go.ChangeAt Go.RowKit
/-! The law NgramLists, from what came in. -/
theorem ngramLists_walk {H : Type} {enc : TypeId × Value → H} {base : Nat} {sp : Nat → Bool} {held : Bool} {r : Reach} {b0 : Nat} {v0 v1 : Value} {d0 d1 : DataW H} {ps0 ps1 : List MemPlace} (most : Int) (wy dp : Int) (W : World)
    (_ : -9223372036854775808 ≤ most) (_ : most ≤ 9223372036854775807)
    (hval0 : Value.okWide Try.prog W r b0 22 v0) (h0 : DataW.Trod enc Try.prog W base sp held 22 v0 d0 ps0)
    (hval1 : Value.okWide Try.prog W r b0 22 v1) (h1 : DataW.Trod enc Try.prog W base sp held 22 v1 d1 ps1)
    (hw1 : -9223372036854775808 ≤ wy) (hw2 : wy ≤ 9223372036854775807) (hd1 : -9223372036854775808 ≤ dp) (hd2 : dp ≤ 9223372036854775807) (hb : Rows.uptoBulkAll [.lit (.int .i64 most), d0, d1, .lit (.int .i64 wy), .lit (.int .i64 dp)] ≤ 1048576) :
    Calls Try.prog 8 #[.int .i64 most, v0, v1, .int .i64 wy, .int .i64 dp] W fun e w' => e = .returned (.bool true) ∧ Below W.heap.size W w' := by
  obtain ⟨ao, na, ca, fa, rfl, ha, hfa, sa⟩ := open_list hval0 h0
  obtain ⟨bo, nb, cb, fb, rfl, hb', hfb, sb⟩ := open_list hval1 h1
  have n1 := row_bulk hb (by simp) sa
  have n2 := row_bulk hb (by simp) sb
  by_cases hm : most < 1 ∨ 4 < most
  · exact lists_bad most hm wy dp ao bo na nb ca cb
  · obtain ⟨k, rfl⟩ : ∃ k : Nat, most = (k : Int) := ⟨most.toNat, by omega⟩
    exact lists_ok (by omega) wy dp ⟨hw1, hw2⟩ ⟨hd1, hd2⟩ ha hb' hfa hfb (by omega) (by omega)
end Go.Proofs.Ytbpldnlafilbbaa
