import Derived.Test.YtnpdkiljhdagjabRows
import Derived.ProofKit
import Derived.OpenShut
namespace Go.Proofs.Ytnpdkiljhdagjab
open Go.ChangeShapes Go.WideShapes Go.ChangeAt Go.RowKit
/-! The struct of type 24 by value, opened and shut. -/
section
variable {H : Type} {enc : TypeId × Value → H} {W : World} {base : Nat} {sp : Nat → Bool} {held : Bool}
theorem cells_evens : Try.prog.cellsOf 24 = 4 := by kernel_rfl
theorem cells_evens_22 : Try.prog.cellsOf 22 = 1 := by kernel_rfl
theorem parts_evens {α : Type} {l : List α} (h : l.length = 4) : ∃ c0 c1 c2 c3, l = [c0, c1, c2, c3] :=
  match l, h with
  | [c0, c1, c2, c3], _ => ⟨c0, c1, c2, c3, rfl⟩
theorem cells_of_evens {fuel : Nat} {cs : List Value} {x : DataW H × List MemPlace} (h : DataW.trod enc Try.prog W base sp held fuel 24 cs = some x) :
    ∃ a0 a1 a2 a3 : Int, cs = [.int .u64 a0, .int .u64 a1, .int .u64 a2, .int .u64 a3] ∧ x = (.agg [.lit (.int .u64 a0), .lit (.int .u64 a1), .lit (.int .u64 a2), .lit (.int .u64 a3)], []) ∧ (Lit.int .u64 a0).wf = true ∧ (Lit.int .u64 a1).wf = true ∧ (Lit.int .u64 a2).wf = true ∧ (Lit.int .u64 a3).wf = true := by
  obtain ⟨ys, n, rfl, rfl, hl, hlen, hf⟩ := DataW.trod_struct Try.underlying24 h
  have e0 : DataW.trod enc Try.prog W base sp held n 22 ((cs.drop 0).take (Try.prog.cellsOf 22)) = ys[0]? := hf 0 _ rfl
  have e1 : DataW.trod enc Try.prog W base sp held n 22 ((cs.drop 1).take (Try.prog.cellsOf 22)) = ys[1]? := hf 1 _ rfl
  have e2 : DataW.trod enc Try.prog W base sp held n 22 ((cs.drop 2).take (Try.prog.cellsOf 22)) = ys[2]? := hf 2 _ rfl
  have e3 : DataW.trod enc Try.prog W base sp held n 22 ((cs.drop 3).take (Try.prog.cellsOf 22)) = ys[3]? := hf 3 _ rfl
  rw [cells_evens] at hl
  obtain ⟨c0, c1, c2, c3, rfl⟩ := parts_evens hl
  obtain ⟨y0, y1, y2, y3, rfl⟩ := parts_evens (show ys.length = 4 from hlen)
  obtain ⟨a0, q0, r0, w0⟩ := DataW.trod_int Try.underlying22 e0
  rw [cells_evens_22] at q0
  obtain ⟨a1, q1, r1, w1⟩ := DataW.trod_int Try.underlying22 e1
  rw [cells_evens_22] at q1
  obtain ⟨a2, q2, r2, w2⟩ := DataW.trod_int Try.underlying22 e2
  rw [cells_evens_22] at q2
  obtain ⟨a3, q3, r3, w3⟩ := DataW.trod_int Try.underlying22 e3
  rw [cells_evens_22] at q3
  simp at q0 q1 q2 q3
  subst q0 q1 q2 q3
  subst r0 r1 r2 r3
  exact ⟨a0, a1, a2, a3, rfl, rfl, w0, w1, w2, w3⟩
theorem open_evens {r : Reach} {b0 : Nat} {v : Value} {d : DataW H} {ps : List MemPlace} (hval : Value.okWide Try.prog W r b0 24 v) (hd : DataW.Trod enc Try.prog W base sp held 24 v d ps) :
    ∃ a0 a1 a2 a3 : Int, v = .agg #[.int .u64 a0, .int .u64 a1, .int .u64 a2, .int .u64 a3] ∧ d = .agg [.lit (.int .u64 a0), .lit (.int .u64 a1), .lit (.int .u64 a2), .lit (.int .u64 a3)] ∧ ps = [] ∧ (Lit.int .u64 a0).wf = true ∧ (Lit.int .u64 a1).wf = true ∧ (Lit.int .u64 a2).wf = true ∧ (Lit.int .u64 a3).wf = true := by
  obtain ⟨cs, rfl, _⟩ := okWide_struct Try.underlying24 hval
  obtain ⟨fuel, hd⟩ := hd
  obtain ⟨a0, a1, a2, a3, hc, hx, hw⟩ := cells_of_evens hd
  obtain rfl : cs = #[.int .u64 a0, .int .u64 a1, .int .u64 a2, .int .u64 a3] := Array.ext' hc
  exact ⟨a0, a1, a2, a3, rfl, congrArg Prod.fst hx, congrArg Prod.snd hx, hw⟩
theorem trod_evens_mk {a0 a1 a2 a3 : Int} (w0 : (Lit.int .u64 a0).wf = true) (w1 : (Lit.int .u64 a1).wf = true) (w2 : (Lit.int .u64 a2).wf = true) (w3 : (Lit.int .u64 a3).wf = true) (n : Nat) :
    DataW.trod enc Try.prog W base sp held (n + 2) 24 [.int .u64 a0, .int .u64 a1, .int .u64 a2, .int .u64 a3] = some (.agg [.lit (.int .u64 a0), .lit (.int .u64 a1), .lit (.int .u64 a2), .lit (.int .u64 a3)], []) :=
  trod_struct_mk (enc := enc) (w := W) (base := base) (spare := sp) (held := held) (n := n + 1) (xs := [(.lit (.int .u64 a0), []), (.lit (.int .u64 a1), []), (.lit (.int .u64 a2), []), (.lit (.int .u64 a3), [])]) Try.underlying24 (by rw [cells_evens]; rfl)
    (by simp [DataW.trod, Try.underlying22, cells_evens_22, w0, w1, w2, w3])
theorem shut_evens {a0 a1 a2 a3 : Int} (w0 : (Lit.int .u64 a0).wf = true) (w1 : (Lit.int .u64 a1).wf = true) (w2 : (Lit.int .u64 a2).wf = true) (w3 : (Lit.int .u64 a3).wf = true) :
    DataW.Trod enc Try.prog W base sp held 24 (.agg #[.int .u64 a0, .int .u64 a1, .int .u64 a2, .int .u64 a3]) (.agg [.lit (.int .u64 a0), .lit (.int .u64 a1), .lit (.int .u64 a2), .lit (.int .u64 a3)]) [] :=
  ⟨2, trod_evens_mk w0 w1 w2 w3 0⟩
end
end Go.Proofs.Ytnpdkiljhdagjab
