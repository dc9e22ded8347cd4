import Derived.Test.YtjjnfpeeipainaaRows
import Derived.Test.YtjjnfpeeipainaaOwn
namespace Go.Proofs.Ytjjnfpeeipainaa
open Go.RowKit
/-! Comparing two lists that are alike. -/
def tcs (C S : Nat → Int) : Nat → Value := fun j => if j % 2 = 0 then .int .i64 (C (j / 2)) else .int .i64 (S (j / 2))
theorem tcs0 (C S : Nat → Int) (i : Nat) : tcs C S (i * 2) = .int .i64 (C i) := by
  unfold tcs; rw [if_pos (by omega), show i * 2 / 2 = i by omega]
theorem tcs1 (C S : Nat → Int) (i : Nat) : tcs C S (i * 2 + 1) = .int .i64 (S i) := by
  unfold tcs; rw [if_neg (by omega), show (i * 2 + 1) / 2 = i by omega]
theorem RdA.two {w : World} {ao : Option Addr} {n cap : Nat} {C S : Nat → Int} (h : RdA w ao 2 n cap (tcs C S)) (hn : 0 < n) : ∃ b off, ao = some ⟨b, off, none⟩ ∧ ∀ i, i < n → w.cell? ⟨b, off + i * 2, none⟩ = some (.int .i64 (C i)) ∧ w.cell? ⟨b, off + i * 2 + 1, none⟩ = some (.int .i64 (S i)) := by
  obtain ⟨b, off, rfl, hc⟩ := h.at_ hn
  refine ⟨b, off, rfl, fun i hi => ⟨?_, ?_⟩⟩
  · rw [hc (i * 2) (by omega), tcs0]
  · rw [show off + i * 2 + 1 = off + (i * 2 + 1) by omega, hc (i * 2 + 1) (by omega), tcs1]
end Go.Proofs.Ytjjnfpeeipainaa
