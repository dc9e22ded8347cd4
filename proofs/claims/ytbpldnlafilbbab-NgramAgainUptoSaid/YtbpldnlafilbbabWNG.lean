import Derived.Test.YtbpldnlafilbbabNgRf
import Derived.Test.YtbpldnlafilbbabNgOp
namespace Go.Proofs.Ytbpldnlafilbbab
open Go.ChangeShapes Go.WideShapes Go.ChangeAt Go.RowKit
/-! The law NgramAgain, from what came in. -/
theorem ngramAgain_walk {H : Type} {enc : TypeId × Value → H} {base : Nat} {sp : Nat → Bool} {held : Bool} {r : Reach} {b0 : Nat} {v0 v1 : Value} {d0 d1 : DataW H} {ps0 ps1 : List MemPlace} (most : Int) (nc : Int) (W : World)
    (_ : -9223372036854775808 ≤ most) (_ : most ≤ 9223372036854775807)
    (hval0 : Value.okWide Try.prog W r b0 22 v0) (h0 : DataW.Trod enc Try.prog W base sp held 22 v0 d0 ps0)
    (hval1 : Value.okWide Try.prog W r b0 22 v1) (h1 : DataW.Trod enc Try.prog W base sp held 22 v1 d1 ps1)
    (_ : -9223372036854775808 ≤ nc) (_ : nc ≤ 9223372036854775807) (hb : Rows.uptoBulkAll [.lit (.int .i64 most), d0, d1, .lit (.int .i64 nc)] ≤ 1048576) :
    Calls Try.prog 3 #[.int .i64 most, v0, v1, .int .i64 nc] W fun e w' => e = .returned (.bool true) ∧ Below W.heap.size W w' := by
  obtain ⟨ao, na, ca, fa, rfl, ha, hfa, sa⟩ := open_list hval0 h0
  obtain ⟨bo, nb, cb, fb, rfl, hb', hfb, sb⟩ := open_list hval1 h1
  have n1 := row_bulk hb (by simp) sa
  have n2 := row_bulk hb (by simp) sb
  by_cases hm : most < 1 ∨ 4 < most
  · exact again_bad most hm nc ao bo na nb ca cb
  · obtain ⟨k, rfl⟩ : ∃ k : Nat, most = (k : Int) := ⟨most.toNat, by omega⟩
    exact again_ok (by omega) nc ha hb' hfa hfb (by omega)
end Go.Proofs.Ytbpldnlafilbbab
