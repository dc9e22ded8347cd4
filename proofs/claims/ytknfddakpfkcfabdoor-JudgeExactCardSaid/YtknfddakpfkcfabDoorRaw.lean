import Derived.Test.YtknfddakpfkcfabDoorRows
import Derived.ProofKit
import Derived.OpenShut
namespace Go.Proofs.YtknfddakpfkcfabDoor
open Go.ChangeShapes Go.WideShapes Go.ChangeAt Go.RowKit
/-! The struct of type 71 by value, opened and shut. -/
section
variable {H : Type} {enc : TypeId × Value → H} {W : World} {base : Nat} {sp : Nat → Bool} {held : Bool}
theorem cells_raw : Tryd.prog.cellsOf 71 = 2 := by kernel_rfl
theorem cells_raw_3 : Tryd.prog.cellsOf 3 = 1 := by kernel_rfl
theorem parts_raw {α : Type} {l : List α} (h : l.length = 2) : ∃ c0 c1, l = [c0, c1] :=
  match l, h with
  | [c0, c1], _ => ⟨c0, c1, rfl⟩
set_option maxRecDepth 100000 in
theorem cells_of_raw {fuel : Nat} {cs : List Value} {x : DataW H × List MemPlace} (h : DataW.trod enc Tryd.prog W base sp held fuel 71 cs = some x) :
    ∃ a0 a1 : Int, cs = [.int .i64 a0, .int .i64 a1] ∧ x = (.agg [.lit (.int .i64 a0), .lit (.int .i64 a1)], []) ∧ (Lit.int .i64 a0).wf = true ∧ (Lit.int .i64 a1).wf = true := by
  obtain ⟨ys, n, rfl, rfl, hl, hlen, hf⟩ := DataW.trod_struct Tryd.underlying71 h
  have e0 : DataW.trod enc Tryd.prog W base sp held n 3 ((cs.drop 0).take (Tryd.prog.cellsOf 3)) = ys[0]? := hf 0 _ rfl
  have e1 : DataW.trod enc Tryd.prog W base sp held n 3 ((cs.drop 1).take (Tryd.prog.cellsOf 3)) = ys[1]? := hf 1 _ rfl
  rw [cells_raw] at hl
  obtain ⟨c0, c1, rfl⟩ := parts_raw hl
  obtain ⟨y0, y1, rfl⟩ := parts_raw (show ys.length = 2 from hlen)
  obtain ⟨a0, q0, r0, w0⟩ := DataW.trod_int Tryd.underlying3 e0
  rw [cells_raw_3] at q0
  obtain ⟨a1, q1, r1, w1⟩ := DataW.trod_int Tryd.underlying3 e1
  rw [cells_raw_3] at q1
  simp at q0 q1
  subst q0 q1
  subst r0 r1
  exact ⟨a0, a1, rfl, rfl, w0, w1⟩
set_option maxRecDepth 100000 in
theorem open_raw {r : Reach} {b0 : Nat} {v : Value} {d : DataW H} {ps : List MemPlace} (hval : Value.okWide Tryd.prog W r b0 71 v) (hd : DataW.Trod enc Tryd.prog W base sp held 71 v d ps) :
    ∃ a0 a1 : Int, v = .agg #[.int .i64 a0, .int .i64 a1] ∧ d = .agg [.lit (.int .i64 a0), .lit (.int .i64 a1)] ∧ ps = [] ∧ (Lit.int .i64 a0).wf = true ∧ (Lit.int .i64 a1).wf = true := by
  obtain ⟨cs, rfl, _⟩ := okWide_struct Tryd.underlying71 hval
  obtain ⟨fuel, hd⟩ := hd
  obtain ⟨a0, a1, hc, hx, hw⟩ := cells_of_raw hd
  obtain rfl : cs = #[.int .i64 a0, .int .i64 a1] := Array.ext' hc
  exact ⟨a0, a1, rfl, congrArg Prod.fst hx, congrArg Prod.snd hx, hw⟩
set_option maxRecDepth 100000 in
theorem trod_raw_mk {a0 a1 : Int} (w0 : (Lit.int .i64 a0).wf = true) (w1 : (Lit.int .i64 a1).wf = true) (n : Nat) :
    DataW.trod enc Tryd.prog W base sp held (n + 2) 71 [.int .i64 a0, .int .i64 a1] = some (.agg [.lit (.int .i64 a0), .lit (.int .i64 a1)], []) :=
  trod_struct_mk (enc := enc) (w := W) (base := base) (spare := sp) (held := held) (n := n + 1) (xs := [(.lit (.int .i64 a0), []), (.lit (.int .i64 a1), [])]) Tryd.underlying71 (by rw [cells_raw]; rfl)
    (by simp [DataW.trod, Tryd.underlying3, cells_raw_3, w0, w1])
set_option maxRecDepth 100000 in
theorem shut_raw {a0 a1 : Int} (w0 : (Lit.int .i64 a0).wf = true) (w1 : (Lit.int .i64 a1).wf = true) :
    DataW.Trod enc Tryd.prog W base sp held 71 (.agg #[.int .i64 a0, .int .i64 a1]) (.agg [.lit (.int .i64 a0), .lit (.int .i64 a1)]) [] :=
  ⟨2, trod_raw_mk w0 w1 0⟩
end
end Go.Proofs.YtknfddakpfkcfabDoor
