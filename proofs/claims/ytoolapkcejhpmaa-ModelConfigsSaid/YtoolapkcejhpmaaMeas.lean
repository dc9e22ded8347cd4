import Derived.Test.YtoolapkcejhpmaaRows
import Derived.ProofKit
import Derived.OpenShut
namespace Go.Proofs.Ytoolapkcejhpmaa
open Go.ChangeShapes Go.WideShapes Go.ChangeAt Go.RowKit
/-! The struct of type 23 by value, opened and shut. -/
section
variable {H : Type} {enc : TypeId × Value → H} {W : World} {base : Nat} {sp : Nat → Bool} {held : Bool}
theorem cells_meas : Try.prog.cellsOf 23 = 8 := by kernel_rfl
theorem cells_meas_3 : Try.prog.cellsOf 3 = 1 := by kernel_rfl
theorem parts_meas {α : Type} {l : List α} (h : l.length = 8) : ∃ c0 c1 c2 c3 c4 c5 c6 c7, l = [c0, c1, c2, c3, c4, c5, c6, c7] :=
  match l, h with
  | [c0, c1, c2, c3, c4, c5, c6, c7], _ => ⟨c0, c1, c2, c3, c4, c5, c6, c7, rfl⟩
set_option maxRecDepth 100000 in
theorem cells_of_meas {fuel : Nat} {cs : List Value} {x : DataW H × List MemPlace} (h : DataW.trod enc Try.prog W base sp held fuel 23 cs = some x) :
    ∃ a0 a1 a2 a3 a4 a5 a6 a7 : Int, cs = [.int .i64 a0, .int .i64 a1, .int .i64 a2, .int .i64 a3, .int .i64 a4, .int .i64 a5, .int .i64 a6, .int .i64 a7] ∧ x = (.agg [.lit (.int .i64 a0), .lit (.int .i64 a1), .lit (.int .i64 a2), .lit (.int .i64 a3), .lit (.int .i64 a4), .lit (.int .i64 a5), .lit (.int .i64 a6), .lit (.int .i64 a7)], []) ∧ (Lit.int .i64 a0).wf = true ∧ (Lit.int .i64 a1).wf = true ∧ (Lit.int .i64 a2).wf = true ∧ (Lit.int .i64 a3).wf = true ∧ (Lit.int .i64 a4).wf = true ∧ (Lit.int .i64 a5).wf = true ∧ (Lit.int .i64 a6).wf = true ∧ (Lit.int .i64 a7).wf = true := by
  obtain ⟨ys, n, rfl, rfl, hl, hlen, hf⟩ := DataW.trod_struct Try.underlying23 h
  have e0 : DataW.trod enc Try.prog W base sp held n 3 ((cs.drop 0).take (Try.prog.cellsOf 3)) = ys[0]? := hf 0 _ rfl
  have e1 : DataW.trod enc Try.prog W base sp held n 3 ((cs.drop 1).take (Try.prog.cellsOf 3)) = ys[1]? := hf 1 _ rfl
  have e2 : DataW.trod enc Try.prog W base sp held n 3 ((cs.drop 2).take (Try.prog.cellsOf 3)) = ys[2]? := hf 2 _ rfl
  have e3 : DataW.trod enc Try.prog W base sp held n 3 ((cs.drop 3).take (Try.prog.cellsOf 3)) = ys[3]? := hf 3 _ rfl
  have e4 : DataW.trod enc Try.prog W base sp held n 3 ((cs.drop 4).take (Try.prog.cellsOf 3)) = ys[4]? := hf 4 _ rfl
  have e5 : DataW.trod enc Try.prog W base sp held n 3 ((cs.drop 5).take (Try.prog.cellsOf 3)) = ys[5]? := hf 5 _ rfl
  have e6 : DataW.trod enc Try.prog W base sp held n 3 ((cs.drop 6).take (Try.prog.cellsOf 3)) = ys[6]? := hf 6 _ rfl
  have e7 : DataW.trod enc Try.prog W base sp held n 3 ((cs.drop 7).take (Try.prog.cellsOf 3)) = ys[7]? := hf 7 _ rfl
  rw [cells_meas] at hl
  obtain ⟨c0, c1, c2, c3, c4, c5, c6, c7, rfl⟩ := parts_meas hl
  obtain ⟨y0, y1, y2, y3, y4, y5, y6, y7, rfl⟩ := parts_meas (show ys.length = 8 from hlen)
  obtain ⟨a0, q0, r0, w0⟩ := DataW.trod_int Try.underlying3 e0
  rw [cells_meas_3] at q0
  obtain ⟨a1, q1, r1, w1⟩ := DataW.trod_int Try.underlying3 e1
  rw [cells_meas_3] at q1
  obtain ⟨a2, q2, r2, w2⟩ := DataW.trod_int Try.underlying3 e2
  rw [cells_meas_3] at q2
  obtain ⟨a3, q3, r3, w3⟩ := DataW.trod_int Try.underlying3 e3
  rw [cells_meas_3] at q3
  obtain ⟨a4, q4, r4, w4⟩ := DataW.trod_int Try.underlying3 e4
  rw [cells_meas_3] at q4
  obtain ⟨a5, q5, r5, w5⟩ := DataW.trod_int Try.underlying3 e5
  rw [cells_meas_3] at q5
  obtain ⟨a6, q6, r6, w6⟩ := DataW.trod_int Try.underlying3 e6
  rw [cells_meas_3] at q6
  obtain ⟨a7, q7, r7, w7⟩ := DataW.trod_int Try.underlying3 e7
  rw [cells_meas_3] at q7
  simp at q0 q1 q2 q3 q4 q5 q6 q7
  subst q0 q1 q2 q3 q4 q5 q6 q7
  subst r0 r1 r2 r3 r4 r5 r6 r7
  exact ⟨a0, a1, a2, a3, a4, a5, a6, a7, rfl, rfl, w0, w1, w2, w3, w4, w5, w6, w7⟩
set_option maxRecDepth 100000 in
theorem open_meas {r : Reach} {b0 : Nat} {v : Value} {d : DataW H} {ps : List MemPlace} (hval : Value.okWide Try.prog W r b0 23 v) (hd : DataW.Trod enc Try.prog W base sp held 23 v d ps) :
    ∃ a0 a1 a2 a3 a4 a5 a6 a7 : Int, v = .agg #[.int .i64 a0, .int .i64 a1, .int .i64 a2, .int .i64 a3, .int .i64 a4, .int .i64 a5, .int .i64 a6, .int .i64 a7] ∧ d = .agg [.lit (.int .i64 a0), .lit (.int .i64 a1), .lit (.int .i64 a2), .lit (.int .i64 a3), .lit (.int .i64 a4), .lit (.int .i64 a5), .lit (.int .i64 a6), .lit (.int .i64 a7)] ∧ ps = [] ∧ (Lit.int .i64 a0).wf = true ∧ (Lit.int .i64 a1).wf = true ∧ (Lit.int .i64 a2).wf = true ∧ (Lit.int .i64 a3).wf = true ∧ (Lit.int .i64 a4).wf = true ∧ (Lit.int .i64 a5).wf = true ∧ (Lit.int .i64 a6).wf = true ∧ (Lit.int .i64 a7).wf = true := by
  obtain ⟨cs, rfl, _⟩ := okWide_struct Try.underlying23 hval
  obtain ⟨fuel, hd⟩ := hd
  obtain ⟨a0, a1, a2, a3, a4, a5, a6, a7, hc, hx, hw⟩ := cells_of_meas hd
  obtain rfl : cs = #[.int .i64 a0, .int .i64 a1, .int .i64 a2, .int .i64 a3, .int .i64 a4, .int .i64 a5, .int .i64 a6, .int .i64 a7] := Array.ext' hc
  exact ⟨a0, a1, a2, a3, a4, a5, a6, a7, rfl, congrArg Prod.fst hx, congrArg Prod.snd hx, hw⟩
set_option maxRecDepth 100000 in
theorem trod_meas_mk {a0 a1 a2 a3 a4 a5 a6 a7 : Int} (w0 : (Lit.int .i64 a0).wf = true) (w1 : (Lit.int .i64 a1).wf = true) (w2 : (Lit.int .i64 a2).wf = true) (w3 : (Lit.int .i64 a3).wf = true) (w4 : (Lit.int .i64 a4).wf = true) (w5 : (Lit.int .i64 a5).wf = true) (w6 : (Lit.int .i64 a6).wf = true) (w7 : (Lit.int .i64 a7).wf = true) (n : Nat) :
    DataW.trod enc Try.prog W base sp held (n + 2) 23 [.int .i64 a0, .int .i64 a1, .int .i64 a2, .int .i64 a3, .int .i64 a4, .int .i64 a5, .int .i64 a6, .int .i64 a7] = some (.agg [.lit (.int .i64 a0), .lit (.int .i64 a1), .lit (.int .i64 a2), .lit (.int .i64 a3), .lit (.int .i64 a4), .lit (.int .i64 a5), .lit (.int .i64 a6), .lit (.int .i64 a7)], []) :=
  trod_struct_mk (enc := enc) (w := W) (base := base) (spare := sp) (held := held) (n := n + 1) (xs := [(.lit (.int .i64 a0), []), (.lit (.int .i64 a1), []), (.lit (.int .i64 a2), []), (.lit (.int .i64 a3), []), (.lit (.int .i64 a4), []), (.lit (.int .i64 a5), []), (.lit (.int .i64 a6), []), (.lit (.int .i64 a7), [])]) Try.underlying23 (by rw [cells_meas]; rfl)
    (by simp [DataW.trod, Try.underlying3, cells_meas_3, w0, w1, w2, w3, w4, w5, w6, w7])
set_option maxRecDepth 100000 in
theorem shut_meas {a0 a1 a2 a3 a4 a5 a6 a7 : Int} (w0 : (Lit.int .i64 a0).wf = true) (w1 : (Lit.int .i64 a1).wf = true) (w2 : (Lit.int .i64 a2).wf = true) (w3 : (Lit.int .i64 a3).wf = true) (w4 : (Lit.int .i64 a4).wf = true) (w5 : (Lit.int .i64 a5).wf = true) (w6 : (Lit.int .i64 a6).wf = true) (w7 : (Lit.int .i64 a7).wf = true) :
    DataW.Trod enc Try.prog W base sp held 23 (.agg #[.int .i64 a0, .int .i64 a1, .int .i64 a2, .int .i64 a3, .int .i64 a4, .int .i64 a5, .int .i64 a6, .int .i64 a7]) (.agg [.lit (.int .i64 a0), .lit (.int .i64 a1), .lit (.int .i64 a2), .lit (.int .i64 a3), .lit (.int .i64 a4), .lit (.int .i64 a5), .lit (.int .i64 a6), .lit (.int .i64 a7)]) [] :=
  ⟨2, trod_meas_mk w0 w1 w2 w3 w4 w5 w6 w7 0⟩
end
end Go.Proofs.Ytoolapkcejhpmaa
