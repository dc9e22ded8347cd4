import Derived.Test.YtknfddakpfkcfabDoorJdH
import Derived.Deep.DeepCutAuto
import Derived.Deep.RegionLaw
namespace Go.Proofs.YtknfddakpfkcfabDoor
open Go.RowKit
/-! Pairs of numbers in memory. -/
def rwF (R : List (Int × Int)) : Nat → Value := fun j => if j % 2 = 0 then .int .i64 (R.getD (j / 2) (0, 0)).1 else .int .i64 (R.getD (j / 2) (0, 0)).2
theorem rwF_0 (R : List (Int × Int)) (k : Nat) : rwF R (k * 2) = .int .i64 (R.getD k (0, 0)).1 := by
  unfold rwF
  rw [if_pos (by omega), show k * 2 / 2 = k by omega]
theorem rwF_1 (R : List (Int × Int)) (k : Nat) : rwF R (k * 2 + 1) = .int .i64 (R.getD k (0, 0)).2 := by
  unfold rwF
  rw [if_neg (by omega), show (k * 2 + 1) / 2 = k by omega]
theorem rwF_one (R : List (Int × Int)) (j : Nat) : (rwF R j).oneCell' = true := by
  unfold rwF
  split <;> rfl
theorem rwF_app (R S : List (Int × Int)) {j : Nat} (h : j < R.length * 2) : rwF (R ++ S) j = rwF R j := by
  unfold rwF
  have e : (R ++ S).getD (j / 2) (0, 0) = R.getD (j / 2) (0, 0) := by
    simp only [List.getD]
    rw [List.getElem?_append_left (by omega)]
  rw [e]
theorem rwF_new (R : List (Int × Int)) (a b : Int) : (R ++ [(a, b)]).getD R.length (0, 0) = (a, b) := by
  simp
theorem rd_moves {w : World} {ao : Option Addr} {n cap : Nat} {R : List (Int × Int)} (h : RdA w ao 2 n cap (rwF R)) (hn : 0 < n) : ∃ b o, ao = some ⟨b, o, none⟩ ∧ ∀ i, i < n → w.cell? ⟨b, o + i * 2, none⟩ = some (.int .i64 (R.getD i (0, 0)).1) ∧ w.cell? ⟨b, o + i * 2 + 1, none⟩ = some (.int .i64 (R.getD i (0, 0)).2) := by
  obtain ⟨b, o, e, hc⟩ := h.at_ hn
  refine ⟨b, o, e, fun i hi => ?_⟩
  have c0 := hc (i * 2) (by omega)
  have c1 := hc (i * 2 + 1) (by omega)
  rw [rwF_0] at c0
  rw [rwF_1, ← Nat.add_assoc] at c1
  exact ⟨c0, c1⟩
theorem own_sl {w : World} {base : Nat} {e : TypeId} {sz : Nat} {v : Value} {n : Nat} {cs : Nat → Value} (h : Own w base e sz v n cs) : ∃ u c, v = .slice u n c ∧ RdA w u sz n c cs := h.rd
end Go.Proofs.YtknfddakpfkcfabDoor
