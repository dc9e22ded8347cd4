import Derived.Test.YtmhjpfjhppcfoaaGreatDoorRows
import Derived.Test.YtmhjpfjhppcfoaaGreatDoorCards
import Derived.JoinedCond
import Derived.LaidLaws
import Derived.WalkKit
namespace Go.Proofs.YtmhjpfjhppcfoaaGreatDoor
/-! The closed facts of the row, one by one; that nothing in the text starts a goroutine. -/
namespace Nk
theorem and2 {a b : Bool} (h : a = true) (k : b = true) : (a && b) = true := by rw [h, k]; rfl
theorem goes_none {P : Program} (h : P.funcs.any Func.goes = false) (f : FuncId) : P.goes f = false := by
  unfold Program.goes
  rw [h, Bool.and_false, Bool.or_false]
  have hall : ∀ g : FuncId, (P.funcs[g]?).any Func.goes = false := fun g => by
    cases hg : P.funcs[g]? with
    | none => rfl
    | some fn =>
      have hm := Array.mem_of_getElem? hg
      have := Array.any_eq_false'.1 h fn hm
      simpa using this
  simp [hall]
theorem goesBy_none {c : OpenClaim} {P : Program} (hs : c.start = .entering) (h : P.funcs.any Func.goes = false) : false = c.goesBy P := by
  unfold OpenClaim.goesBy Program.goesAt Program.goesFrom
  rw [hs]
  cases P.funcNamed c.func with
  | none => rfl
  | some f => simp [goes_none h]
end Nk
end Go.Proofs.YtmhjpfjhppcfoaaGreatDoor
