import Derived.Test.YtdceahebkohbjabRows
import Derived.ProofKit
import Derived.OpenShut
namespace Go.Proofs.Ytdceahebkohbjab
open Go.ChangeShapes Go.WideShapes Go.ChangeAt Go.RowKit
/-! The struct of type 23 by value, opened and shut. -/
section
variable {H : Type} {enc : TypeId × Value → H} {W : World} {base : Nat} {sp : Nat → Bool} {held : Bool}
theorem cells_serve : Try.prog.cellsOf 23 = 5 := by kernel_rfl
theorem cells_serve_3 : Try.prog.cellsOf 3 = 1 := by kernel_rfl
theorem parts_serve {α : Type} {l : List α} (h : l.length = 5) : ∃ c0 c1 c2 c3 c4, l = [c0, c1, c2, c3, c4] :=
  match l, h with
  | [c0, c1, c2, c3, c4], _ => ⟨c0, c1, c2, c3, c4, rfl⟩
set_option maxRecDepth 100000 in
theorem cells_of_serve {fuel : Nat} {cs : List Value} {x : DataW H × List MemPlace} (h : DataW.trod enc Try.prog W base sp held fuel 23 cs = some x) :
    ∃ a0 a1 a2 a3 a4 : Int, cs = [.int .i64 a0, .int .i64 a1, .int .i64 a2, .int .i64 a3, .int .i64 a4] ∧ x = (.agg [.lit (.int .i64 a0), .lit (.int .i64 a1), .lit (.int .i64 a2), .lit (.int .i64 a3), .lit (.int .i64 a4)], []) ∧ (Lit.int .i64 a0).wf = true ∧ (Lit.int .i64 a1).wf = true ∧ (Lit.int .i64 a2).wf = true ∧ (Lit.int .i64 a3).wf = true ∧ (Lit.int .i64 a4).wf = true := by
  obtain ⟨ys, n, rfl, rfl, hl, hlen, hf⟩ := DataW.trod_struct Try.underlying23 h
  have e0 : DataW.trod enc Try.prog W base sp held n 3 ((cs.drop 0).take (Try.prog.cellsOf 3)) = ys[0]? := hf 0 _ rfl
  have e1 : DataW.trod enc Try.prog W base sp held n 3 ((cs.drop 1).take (Try.prog.cellsOf 3)) = ys[1]? := hf 1 _ rfl
  have e2 : DataW.trod enc Try.prog W base sp held n 3 ((cs.drop 2).take (Try.prog.cellsOf 3)) = ys[2]? := hf 2 _ rfl
  have e3 : DataW.trod enc Try.prog W base sp held n 3 ((cs.drop 3).take (Try.prog.cellsOf 3)) = ys[3]? := hf 3 _ rfl
  have e4 : DataW.trod enc Try.prog W base sp held n 3 ((cs.drop 4).take (Try.prog.cellsOf 3)) = ys[4]? := hf 4 _ rfl
  rw [cells_serve] at hl
  obtain ⟨c0, c1, c2, c3, c4, rfl⟩ := parts_serve hl
  obtain ⟨y0, y1, y2, y3, y4, rfl⟩ := parts_serve (show ys.length = 5 from hlen)
  obtain ⟨a0, q0, r0, w0⟩ := DataW.trod_int Try.underlying3 e0
  rw [cells_serve_3] at q0
  obtain ⟨a1, q1, r1, w1⟩ := DataW.trod_int Try.underlying3 e1
  rw [cells_serve_3] at q1
  obtain ⟨a2, q2, r2, w2⟩ := DataW.trod_int Try.underlying3 e2
  rw [cells_serve_3] at q2
  obtain ⟨a3, q3, r3, w3⟩ := DataW.trod_int Try.underlying3 e3
  rw [cells_serve_3] at q3
  obtain ⟨a4, q4, r4, w4⟩ := DataW.trod_int Try.underlying3 e4
  rw [cells_serve_3] at q4
  simp at q0 q1 q2 q3 q4
  subst q0 q1 q2 q3 q4
  subst r0 r1 r2 r3 r4
  exact ⟨a0, a1, a2, a3, a4, rfl, rfl, w0, w1, w2, w3, w4⟩
set_option maxRecDepth 100000 in
theorem open_serve {r : Reach} {b0 : Nat} {v : Value} {d : DataW H} {ps : List MemPlace} (hval : Value.okWide Try.prog W r b0 23 v) (hd : DataW.Trod enc Try.prog W base sp held 23 v d ps) :
    ∃ a0 a1 a2 a3 a4 : Int, v = .agg #[.int .i64 a0, .int .i64 a1, .int .i64 a2, .int .i64 a3, .int .i64 a4] ∧ d = .agg [.lit (.int .i64 a0), .lit (.int .i64 a1), .lit (.int .i64 a2), .lit (.int .i64 a3), .lit (.int .i64 a4)] ∧ ps = [] ∧ (Lit.int .i64 a0).wf = true ∧ (Lit.int .i64 a1).wf = true ∧ (Lit.int .i64 a2).wf = true ∧ (Lit.int .i64 a3).wf = true ∧ (Lit.int .i64 a4).wf = true := by
  obtain ⟨cs, rfl, _⟩ := okWide_struct Try.underlying23 hval
  obtain ⟨fuel, hd⟩ := hd
  obtain ⟨a0, a1, a2, a3, a4, hc, hx, hw⟩ := cells_of_serve hd
  obtain rfl : cs = #[.int .i64 a0, .int .i64 a1, .int .i64 a2, .int .i64 a3, .int .i64 a4] := Array.ext' hc
  exact ⟨a0, a1, a2, a3, a4, rfl, congrArg Prod.fst hx, congrArg Prod.snd hx, hw⟩
set_option maxRecDepth 100000 in
theorem trod_serve_mk {a0 a1 a2 a3 a4 : Int} (w0 : (Lit.int .i64 a0).wf = true) (w1 : (Lit.int .i64 a1).wf = true) (w2 : (Lit.int .i64 a2).wf = true) (w3 : (Lit.int .i64 a3).wf = true) (w4 : (Lit.int .i64 a4).wf = true) (n : Nat) :
    DataW.trod enc Try.prog W base sp held (n + 2) 23 [.int .i64 a0, .int .i64 a1, .int .i64 a2, .int .i64 a3, .int .i64 a4] = some (.agg [.lit (.int .i64 a0), .lit (.int .i64 a1), .lit (.int .i64 a2), .lit (.int .i64 a3), .lit (.int .i64 a4)], []) :=
  trod_struct_mk (enc := enc) (w := W) (base := base) (spare := sp) (held := held) (n := n + 1) (xs := [(.lit (.int .i64 a0), []), (.lit (.int .i64 a1), []), (.lit (.int .i64 a2), []), (.lit (.int .i64 a3), []), (.lit (.int .i64 a4), [])]) Try.underlying23 (by rw [cells_serve]; rfl)
    (by simp [DataW.trod, Try.underlying3, cells_serve_3, w0, w1, w2, w3, w4])
set_option maxRecDepth 100000 in
theorem shut_serve {a0 a1 a2 a3 a4 : Int} (w0 : (Lit.int .i64 a0).wf = true) (w1 : (Lit.int .i64 a1).wf = true) (w2 : (Lit.int .i64 a2).wf = true) (w3 : (Lit.int .i64 a3).wf = true) (w4 : (Lit.int .i64 a4).wf = true) :
    DataW.Trod enc Try.prog W base sp held 23 (.agg #[.int .i64 a0, .int .i64 a1, .int .i64 a2, .int .i64 a3, .int .i64 a4]) (.agg [.lit (.int .i64 a0), .lit (.int .i64 a1), .lit (.int .i64 a2), .lit (.int .i64 a3), .lit (.int .i64 a4)]) [] :=
  ⟨2, trod_serve_mk w0 w1 w2 w3 w4 0⟩
end
end Go.Proofs.Ytdceahebkohbjab
