import Derived.Test.YtonhnlahpfkalaaLLin
import Derived.Test.YtonhnlahpfkalaaOpen
namespace Go.Proofs.Ytonhnlahpfkalaa
open Go.ChangeShapes Go.WideShapes Go.ChangeAt Go.RowKit
/-! The law TensorLinear, from what came in. -/
theorem ncI8 : Try.prog.cellsOf 32 = 1 := by kernel_rfl
theorem ncI : Try.prog.cellsOf 3 = 1 := by kernel_rfl
theorem ncS8 : Try.prog.cellsOf 23 = 1 := by kernel_rfl
theorem ncSI : Try.prog.cellsOf 38 = 1 := by kernel_rfl
theorem ncL : Try.prog.cellsOf 40 = 6 := by kernel_rfl
theorem six_parts {α : Type} {l : List α} (h : l.length = 6) : ∃ c0 c1 c2 c3 c4 c5, l = [c0, c1, c2, c3, c4, c5] :=
  match l, h with
  | [c0, c1, c2, c3, c4, c5], _ => ⟨c0, c1, c2, c3, c4, c5, rfl⟩
theorem linear_walk {H : Type} {enc : TypeId × Value → H} {base : Nat} {sp : Nat → Bool} {held : Bool} {r : Reach} {b0 : Nat} {v0 : Value} {d0 : DataW H} {ps0 : List MemPlace} (W : World)
    (hval0 : Value.okWide Try.prog W r b0 40 v0) (h0 : DataW.Trod enc Try.prog W base sp held 40 v0 d0 ps0) :
    Calls Try.prog 4 #[v0] W fun e w' => e = .returned (.bool true) ∧ Below W.heap.size W w' := by
  obtain ⟨cs, rfl, _⟩ := okWide_struct Try.underlying40 hval0
  obtain ⟨fuel, hd⟩ := h0
  obtain ⟨ys, n, rfl, _, hl, hlen, hf⟩ := DataW.trod_struct Try.underlying40 hd
  have e0 : DataW.trod enc Try.prog W base sp held n 3 (((Value.agg cs).cells.toList.drop 0).take (Try.prog.cellsOf 3)) = ys[0]? := hf 0 _ rfl
  have e1 : DataW.trod enc Try.prog W base sp held n 3 (((Value.agg cs).cells.toList.drop 1).take (Try.prog.cellsOf 3)) = ys[1]? := hf 1 _ rfl
  have e2 : DataW.trod enc Try.prog W base sp held n 23 (((Value.agg cs).cells.toList.drop 2).take (Try.prog.cellsOf 23)) = ys[2]? := hf 2 _ rfl
  have e3 : DataW.trod enc Try.prog W base sp held n 23 (((Value.agg cs).cells.toList.drop 3).take (Try.prog.cellsOf 23)) = ys[3]? := hf 3 _ rfl
  have e4 : DataW.trod enc Try.prog W base sp held n 23 (((Value.agg cs).cells.toList.drop 4).take (Try.prog.cellsOf 23)) = ys[4]? := hf 4 _ rfl
  have e5 : DataW.trod enc Try.prog W base sp held n 38 (((Value.agg cs).cells.toList.drop 5).take (Try.prog.cellsOf 38)) = ys[5]? := hf 5 _ rfl
  rw [ncL] at hl
  have hcs : (Value.agg cs).cells.toList = cs.toList := rfl
  rw [hcs] at e0 e1 e2 e3 e4 e5 hl
  obtain ⟨c0, c1, c2, c3, c4, c5, hc⟩ := six_parts hl
  obtain ⟨y0, y1, y2, y3, y4, y5, rfl⟩ := six_parts (show ys.length = 6 from hlen)
  obtain rfl : cs = #[c0, c1, c2, c3, c4, c5] := Array.ext' hc
  obtain ⟨R0, q0, _, _⟩ := DataW.trod_int Try.underlying3 e0
  obtain ⟨C0, q1, _, _⟩ := DataW.trod_int Try.underlying3 e1
  rw [ncI] at q0 q1
  rw [ncS8] at e2 e3 e4
  rw [ncSI] at e5
  simp at q0 q1
  subst q0 q1
  obtain ⟨ao, n2, ca, f, g2, hr2, hw2, _⟩ := open_row (v := c2) Try.underlying23 Try.underlying32 ncI8 (show DataW.trod enc Try.prog W base sp held n 23 [c2] = some y2 from e2)
  obtain ⟨bo, n3, cb, g, g3, hr3, hw3, _⟩ := open_row (v := c3) Try.underlying23 Try.underlying32 ncI8 (show DataW.trod enc Try.prog W base sp held n 23 [c3] = some y3 from e3)
  obtain ⟨eo, n4, ce, h, g4, hr4, hw4, _⟩ := open_row (v := c4) Try.underlying23 Try.underlying32 ncI8 (show DataW.trod enc Try.prog W base sp held n 23 [c4] = some y4 from e4)
  obtain ⟨po, n5, cp, py, g5, hr5, _, _⟩ := open_row (v := c5) Try.underlying38 Try.underlying3 ncI (show DataW.trod enc Try.prog W base sp held n 38 [c5] = some y5 from e5)
  subst g2 g3 g4 g5
  exact linear_law hr2 hr3 hr4 hr5 (atf_bd (fun i hi => wf_i8 (hw2 i hi))) (atf_bd (fun i hi => wf_i8 (hw3 i hi))) (atf_bd (fun i hi => wf_i8 (hw4 i hi))) _ _ _ rfl rfl rfl
end Go.Proofs.Ytonhnlahpfkalaa
