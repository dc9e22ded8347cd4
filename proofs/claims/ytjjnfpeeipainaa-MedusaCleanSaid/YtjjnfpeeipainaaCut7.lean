import Derived.Test.YtjjnfpeeipainaaWgtD
namespace Go.Proofs.Ytjjnfpeeipainaa
open Go.RowKit
/-! Shifts, cut. -/
def ct (x : Int) : Int := min (max x 0) 24
theorem ct_same (x : Int) : ct x = x ↔ 0 ≤ x ∧ x ≤ 24 := by unfold ct; omega
end Go.Proofs.Ytjjnfpeeipainaa
