import Derived.Test.YtakekdbclmgeoaaRows
import Derived.ProofKit
import Derived.OpenShut
namespace Go.Proofs.Ytakekdbclmgeoaa
open Go.ChangeShapes Go.WideShapes Go.ChangeAt Go.RowKit
/-! The struct of type 54 by value, opened and shut. -/
section
variable {H : Type} {enc : TypeId × Value → H} {W : World} {base : Nat} {sp : Nat → Bool} {held : Bool}
theorem cells_node : Try.prog.cellsOf 54 = 3 := by kernel_rfl
theorem cells_node_3 : Try.prog.cellsOf 3 = 1 := by kernel_rfl
theorem parts_node {α : Type} {l : List α} (h : l.length = 3) : ∃ c0 c1 c2, l = [c0, c1, c2] :=
  match l, h with
  | [c0, c1, c2], _ => ⟨c0, c1, c2, rfl⟩
set_option maxRecDepth 100000 in
theorem cells_of_node {fuel : Nat} {cs : List Value} {x : DataW H × List MemPlace} (h : DataW.trod enc Try.prog W base sp held fuel 54 cs = some x) :
    ∃ a0 a1 a2 : Int, cs = [.int .i64 a0, .int .i64 a1, .int .i64 a2] ∧ x = (.agg [.lit (.int .i64 a0), .lit (.int .i64 a1), .lit (.int .i64 a2)], []) ∧ (Lit.int .i64 a0).wf = true ∧ (Lit.int .i64 a1).wf = true ∧ (Lit.int .i64 a2).wf = true := by
  obtain ⟨ys, n, rfl, rfl, hl, hlen, hf⟩ := DataW.trod_struct Try.underlying54 h
  have e0 : DataW.trod enc Try.prog W base sp held n 3 ((cs.drop 0).take (Try.prog.cellsOf 3)) = ys[0]? := hf 0 _ rfl
  have e1 : DataW.trod enc Try.prog W base sp held n 3 ((cs.drop 1).take (Try.prog.cellsOf 3)) = ys[1]? := hf 1 _ rfl
  have e2 : DataW.trod enc Try.prog W base sp held n 3 ((cs.drop 2).take (Try.prog.cellsOf 3)) = ys[2]? := hf 2 _ rfl
  rw [cells_node] at hl
  obtain ⟨c0, c1, c2, rfl⟩ := parts_node hl
  obtain ⟨y0, y1, y2, rfl⟩ := parts_node (show ys.length = 3 from hlen)
  obtain ⟨a0, q0, r0, w0⟩ := DataW.trod_int Try.underlying3 e0
  rw [cells_node_3] at q0
  obtain ⟨a1, q1, r1, w1⟩ := DataW.trod_int Try.underlying3 e1
  rw [cells_node_3] at q1
  obtain ⟨a2, q2, r2, w2⟩ := DataW.trod_int Try.underlying3 e2
  rw [cells_node_3] at q2
  simp at q0 q1 q2
  subst q0 q1 q2
  subst r0 r1 r2
  exact ⟨a0, a1, a2, rfl, rfl, w0, w1, w2⟩
set_option maxRecDepth 100000 in
theorem open_node {r : Reach} {b0 : Nat} {v : Value} {d : DataW H} {ps : List MemPlace} (hval : Value.okWide Try.prog W r b0 54 v) (hd : DataW.Trod enc Try.prog W base sp held 54 v d ps) :
    ∃ a0 a1 a2 : Int, v = .agg #[.int .i64 a0, .int .i64 a1, .int .i64 a2] ∧ d = .agg [.lit (.int .i64 a0), .lit (.int .i64 a1), .lit (.int .i64 a2)] ∧ ps = [] ∧ (Lit.int .i64 a0).wf = true ∧ (Lit.int .i64 a1).wf = true ∧ (Lit.int .i64 a2).wf = true := by
  obtain ⟨cs, rfl, _⟩ := okWide_struct Try.underlying54 hval
  obtain ⟨fuel, hd⟩ := hd
  obtain ⟨a0, a1, a2, hc, hx, hw⟩ := cells_of_node hd
  obtain rfl : cs = #[.int .i64 a0, .int .i64 a1, .int .i64 a2] := Array.ext' hc
  exact ⟨a0, a1, a2, rfl, congrArg Prod.fst hx, congrArg Prod.snd hx, hw⟩
set_option maxRecDepth 100000 in
theorem trod_node_mk {a0 a1 a2 : Int} (w0 : (Lit.int .i64 a0).wf = true) (w1 : (Lit.int .i64 a1).wf = true) (w2 : (Lit.int .i64 a2).wf = true) (n : Nat) :
    DataW.trod enc Try.prog W base sp held (n + 2) 54 [.int .i64 a0, .int .i64 a1, .int .i64 a2] = some (.agg [.lit (.int .i64 a0), .lit (.int .i64 a1), .lit (.int .i64 a2)], []) :=
  trod_struct_mk (enc := enc) (w := W) (base := base) (spare := sp) (held := held) (n := n + 1) (xs := [(.lit (.int .i64 a0), []), (.lit (.int .i64 a1), []), (.lit (.int .i64 a2), [])]) Try.underlying54 (by rw [cells_node]; rfl)
    (by simp [DataW.trod, Try.underlying3, cells_node_3, w0, w1, w2])
set_option maxRecDepth 100000 in
theorem shut_node {a0 a1 a2 : Int} (w0 : (Lit.int .i64 a0).wf = true) (w1 : (Lit.int .i64 a1).wf = true) (w2 : (Lit.int .i64 a2).wf = true) :
    DataW.Trod enc Try.prog W base sp held 54 (.agg #[.int .i64 a0, .int .i64 a1, .int .i64 a2]) (.agg [.lit (.int .i64 a0), .lit (.int .i64 a1), .lit (.int .i64 a2)]) [] :=
  ⟨2, trod_node_mk w0 w1 w2 0⟩
end
end Go.Proofs.Ytakekdbclmgeoaa
