import Derived.Test.YtnpdkiljhdagjaaDoorRows
import Derived.ProofKit
import Derived.OpenShut
namespace Go.Proofs.YtnpdkiljhdagjaaDoor
open Go.ChangeShapes Go.WideShapes Go.ChangeAt Go.RowKit
/-! The struct of type 26 by value, opened and shut. -/
section
variable {H : Type} {enc : TypeId × Value → H} {W : World} {base : Nat} {sp : Nat → Bool} {held : Bool}
theorem cells_spot : Tryd.prog.cellsOf 26 = 3 := by kernel_rfl
theorem cells_spot_3 : Tryd.prog.cellsOf 3 = 1 := by kernel_rfl
theorem cells_spot_22 : Tryd.prog.cellsOf 22 = 1 := by kernel_rfl
theorem parts_spot {α : Type} {l : List α} (h : l.length = 3) : ∃ c0 c1 c2, l = [c0, c1, c2] :=
  match l, h with
  | [c0, c1, c2], _ => ⟨c0, c1, c2, rfl⟩
theorem cells_of_spot {fuel : Nat} {cs : List Value} {x : DataW H × List MemPlace} (h : DataW.trod enc Tryd.prog W base sp held fuel 26 cs = some x) :
    ∃ a0 a1 a2 : Int, cs = [.int .u64 a0, .int .i64 a1, .int .i64 a2] ∧ x = (.agg [.lit (.int .u64 a0), .lit (.int .i64 a1), .lit (.int .i64 a2)], []) ∧ (Lit.int .u64 a0).wf = true ∧ (Lit.int .i64 a1).wf = true ∧ (Lit.int .i64 a2).wf = true := by
  obtain ⟨ys, n, rfl, rfl, hl, hlen, hf⟩ := DataW.trod_struct Tryd.underlying26 h
  have e0 : DataW.trod enc Tryd.prog W base sp held n 22 ((cs.drop 0).take (Tryd.prog.cellsOf 22)) = ys[0]? := hf 0 _ rfl
  have e1 : DataW.trod enc Tryd.prog W base sp held n 3 ((cs.drop 1).take (Tryd.prog.cellsOf 3)) = ys[1]? := hf 1 _ rfl
  have e2 : DataW.trod enc Tryd.prog W base sp held n 3 ((cs.drop 2).take (Tryd.prog.cellsOf 3)) = ys[2]? := hf 2 _ rfl
  rw [cells_spot] at hl
  obtain ⟨c0, c1, c2, rfl⟩ := parts_spot hl
  obtain ⟨y0, y1, y2, rfl⟩ := parts_spot (show ys.length = 3 from hlen)
  obtain ⟨a0, q0, r0, w0⟩ := DataW.trod_int Tryd.underlying22 e0
  rw [cells_spot_22] at q0
  obtain ⟨a1, q1, r1, w1⟩ := DataW.trod_int Tryd.underlying3 e1
  rw [cells_spot_3] at q1
  obtain ⟨a2, q2, r2, w2⟩ := DataW.trod_int Tryd.underlying3 e2
  rw [cells_spot_3] at q2
  simp at q0 q1 q2
  subst q0 q1 q2
  subst r0 r1 r2
  exact ⟨a0, a1, a2, rfl, rfl, w0, w1, w2⟩
theorem open_spot {r : Reach} {b0 : Nat} {v : Value} {d : DataW H} {ps : List MemPlace} (hval : Value.okWide Tryd.prog W r b0 26 v) (hd : DataW.Trod enc Tryd.prog W base sp held 26 v d ps) :
    ∃ a0 a1 a2 : Int, v = .agg #[.int .u64 a0, .int .i64 a1, .int .i64 a2] ∧ d = .agg [.lit (.int .u64 a0), .lit (.int .i64 a1), .lit (.int .i64 a2)] ∧ ps = [] ∧ (Lit.int .u64 a0).wf = true ∧ (Lit.int .i64 a1).wf = true ∧ (Lit.int .i64 a2).wf = true := by
  obtain ⟨cs, rfl, _⟩ := okWide_struct Tryd.underlying26 hval
  obtain ⟨fuel, hd⟩ := hd
  obtain ⟨a0, a1, a2, hc, hx, hw⟩ := cells_of_spot hd
  obtain rfl : cs = #[.int .u64 a0, .int .i64 a1, .int .i64 a2] := Array.ext' hc
  exact ⟨a0, a1, a2, rfl, congrArg Prod.fst hx, congrArg Prod.snd hx, hw⟩
theorem trod_spot_mk {a0 a1 a2 : Int} (w0 : (Lit.int .u64 a0).wf = true) (w1 : (Lit.int .i64 a1).wf = true) (w2 : (Lit.int .i64 a2).wf = true) (n : Nat) :
    DataW.trod enc Tryd.prog W base sp held (n + 2) 26 [.int .u64 a0, .int .i64 a1, .int .i64 a2] = some (.agg [.lit (.int .u64 a0), .lit (.int .i64 a1), .lit (.int .i64 a2)], []) :=
  trod_struct_mk (enc := enc) (w := W) (base := base) (spare := sp) (held := held) (n := n + 1) (xs := [(.lit (.int .u64 a0), []), (.lit (.int .i64 a1), []), (.lit (.int .i64 a2), [])]) Tryd.underlying26 (by rw [cells_spot]; rfl)
    (by simp [DataW.trod, Tryd.underlying3, cells_spot_3, Tryd.underlying22, cells_spot_22, w0, w1, w2])
theorem shut_spot {a0 a1 a2 : Int} (w0 : (Lit.int .u64 a0).wf = true) (w1 : (Lit.int .i64 a1).wf = true) (w2 : (Lit.int .i64 a2).wf = true) :
    DataW.Trod enc Tryd.prog W base sp held 26 (.agg #[.int .u64 a0, .int .i64 a1, .int .i64 a2]) (.agg [.lit (.int .u64 a0), .lit (.int .i64 a1), .lit (.int .i64 a2)]) [] :=
  ⟨2, trod_spot_mk w0 w1 w2 0⟩
end
end Go.Proofs.YtnpdkiljhdagjaaDoor
