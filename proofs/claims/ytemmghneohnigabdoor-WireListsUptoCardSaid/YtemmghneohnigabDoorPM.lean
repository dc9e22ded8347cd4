import Derived.Test.YtemmghneohnigabDoorWpL
import Derived.Test.YtemmghneohnigabDoorWuH
namespace Go.Proofs.YtemmghneohnigabDoor
open Go.RowKit
/-! WireUnquotes. -/
theorem rd_none (w : World) (f : Nat → Value) : RdA w none 1 0 0 f := ⟨Nat.le_refl _, by unfold maxLen; omega, fun h => absurd h (by omega)⟩
end Go.Proofs.YtemmghneohnigabDoor
namespace Go.Proofs.YtemmghneohnigabDoor
open Go.RowKit
/-! WireHeads. -/
/-- cut short, it is none -/
theorem cut_none {b : List Int} (hb : Byt b) {K : Nat} (hK : K < (lit b).length) : ¬ ∃ b', UnqP ((lit b).take K) b' := by
  rintro ⟨b', h1, h2⟩
  have h3 : UnqP (lit b) b' := ⟨h1, h2.trans (List.take_prefix _ _)⟩
  have h4 : UnqP (lit b) b := ⟨hb, List.prefix_refl _⟩
  obtain rfl := h3.uniq h4
  have := h2.length_le
  rw [List.length_take] at this
  omega
end Go.Proofs.YtemmghneohnigabDoor
