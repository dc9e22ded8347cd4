import Derived.Test.YtjjfbpjejhjdiabDoorPkO
namespace Go.Proofs.YtjjfbpjejhjdiabDoor
open Go.RowKit
/-! The first chance. -/
theorem chL_head (p : Prm) (g : Nat → Int) (n : Nat) (M : Nat → Bool) (h : 0 < (chL p g n M).length) : ((chL p g n M).getD 0 (0, 0)).2 = 65536 := by
  unfold chL at h ⊢
  split
  · rename_i h0
    rw [if_pos h0] at h
    cases hc : canL g n M with
    | nil => rw [hc] at h; simp at h
    | cons x r => rfl
  · rename_i h0
    rw [if_neg h0] at h
    rw [List.length_take] at h
    generalize cutN (goalOf p.topp (weL p.temp (topL p.topk (canL g n M)))) (weL p.temp (topL p.topk (canL g n M))) = k at *
    cases hc : topL p.topk (canL g n M) with
    | nil => rw [hc] at h; simp [weL] at h
    | cons x r =>
      cases k with
      | zero => omega
      | succ k =>
        show wt p.temp x.2 x.2 = 65536
        exact wt_self _ _
end Go.Proofs.YtjjfbpjejhjdiabDoor
