import Derived.Test.YtknfddakpfkcfaaJdR
import Derived.Test.YtknfddakpfkcfaaJdO
namespace Go.Proofs.Ytknfddakpfkcfaa
open Go.ChangeShapes Go.WideShapes Go.ChangeAt Go.RowKit
/-! The law JudgePlans, from what came in. -/
theorem judgePlans_walk {H : Type} {enc : TypeId × Value → H} {base : Nat} {sp : Nat → Bool} {held : Bool} {r : Reach} {b0 : Nat} {v0 v1 v2 : Value} {d0 d1 d2 : DataW H} {ps0 ps1 ps2 : List MemPlace} (W : World)
    (hval0 : Value.okWide Try.prog W r b0 22 v0) (h0 : DataW.Trod enc Try.prog W base sp held 22 v0 d0 ps0)
    (hval1 : Value.okWide Try.prog W r b0 22 v1) (h1 : DataW.Trod enc Try.prog W base sp held 22 v1 d1 ps1)
    (hval2 : Value.okWide Try.prog W r b0 22 v2) (h2 : DataW.Trod enc Try.prog W base sp held 22 v2 d2 ps2)
    (hb : Rows.uptoBulkAll [d0, d1, d2] ≤ 1048576) :
    Calls Try.prog 4 #[v0, v1, v2] W fun e w' => e = .returned (.bool true) ∧ Below W.heap.size W w' := by
  obtain ⟨ao, n, ca, fa, rfl, ha, _, sa⟩ := open_list hval0 h0
  obtain ⟨bo, m, cb, fb, rfl, hb', _, sb⟩ := open_list hval1 h1
  obtain ⟨co, l, cc, fc, rfl, hc, _, sc⟩ := open_list hval2 h2
  exact plans_law ha hb' hc (row_bulk hb (by simp) sa) (row_bulk hb (by simp) sb) (row_bulk hb (by simp) sc)
end Go.Proofs.Ytknfddakpfkcfaa
