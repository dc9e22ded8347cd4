import Derived.Test.YtmhjpfjhppcfoaaGreatDoorNilA
namespace Go.Proofs.YtmhjpfjhppcfoaaGreatDoor
/-! The closed facts of the row, each a lemma of its own. -/
namespace Nk
theorem goes0 : Tryz.prog.funcs.any Func.goes = false := by kernel_rfl
set_option maxRecDepth 100000 in
set_option maxHeartbeats 64000000 in
theorem closed : joinedFacts Tryz.prog 3 Tryz.f3 ((Rows.OpenSpec.upto Rows.engineNilSpec).bare) Rows.engineNilUptoRow = true := by
  unfold joinedFacts
  refine (and2 (and2 (and2 (and2 (and2 (and2 (and2 (and2 (and2 (and2 (and2 (and2 (and2 (and2 (and2 (and2 (and2 (and2 (and2 (and2 (and2 (and2 (and2 (and2 (and2 (and2 (and2 (and2 (and2 (and2 (and2 ?_ ?_) ?_) ?_) ?_) ?_) ?_) ?_) ?_) ?_) ?_) ?_) ?_) ?_) ?_) ?_) ?_) ?_) ?_) ?_) ?_) ?_) ?_) ?_) ?_) ?_) ?_) ?_) ?_) ?_) ?_) ?_)
  all_goals (as_aux_lemma => kernel_rfl)
end Nk
end Go.Proofs.YtmhjpfjhppcfoaaGreatDoor
