import Derived.Test.YtonhnlahpfkalaaLTurns
import Derived.Test.YtonhnlahpfkalaaOpen
namespace Go.Proofs.Ytonhnlahpfkalaa
open Go.ChangeShapes Go.WideShapes Go.ChangeAt Go.RowKit
/-! The law TensorTurns, from what came in. -/
theorem cellsI8 : Try.prog.cellsOf 32 = 1 := by kernel_rfl
theorem cellsI64 : Try.prog.cellsOf 2 = 1 := by kernel_rfl
theorem cellsT : Try.prog.cellsOf 25 = 2 := by kernel_rfl
theorem turns_walk {H : Type} {enc : TypeId × Value → H} {base : Nat} {sp : Nat → Bool} {held : Bool} {r : Reach} {b0 : Nat} {v0 v2 : Value} {d0 d2 : DataW H} {ps0 ps2 : List MemPlace} (n : Int) (W : World)
    (hval0 : Value.okWide Try.prog W r b0 22 v0) (h0 : DataW.Trod enc Try.prog W base sp held 22 v0 d0 ps0) (_ : -9223372036854775808 ≤ n) (_ : n ≤ 9223372036854775807)
    (hval2 : Value.okWide Try.prog W r b0 23 v2) (h2 : DataW.Trod enc Try.prog W base sp held 23 v2 d2 ps2) :
    Calls Try.prog 3 #[v0, .int .i64 n, v2] W fun e w' => e = .returned (.bool true) ∧ Below W.heap.size W w' := by
  obtain ⟨a0, l0, c0, rfl⟩ := okWide_slice Try.underlying22 hval0
  obtain ⟨a2, l2, c2, rfl⟩ := okWide_slice Try.underlying23 hval2
  obtain ⟨fuel0, h0⟩ := h0
  obtain ⟨fuel2, h2⟩ := h2
  obtain ⟨ao, nu, cu, C, S, e0, hr0, hw0, _⟩ := open_turns (q := 2) Try.underlying22 Try.underlying25 cellsT rfl rfl rfl rfl Try.underlying2 cellsI64 h0
  obtain ⟨bo, nv, cv, f, e2, hr2, hw2, _⟩ := open_row Try.underlying23 Try.underlying32 cellsI8 h2
  simp only [Value.slice.injEq] at e0 e2
  obtain ⟨rfl, rfl, rfl⟩ := e0
  obtain ⟨rfl, rfl, rfl⟩ := e2
  exact turns_law hr0 hr2 (fun i hi => wf_i8 (hw2 i hi))
end Go.Proofs.Ytonhnlahpfkalaa
