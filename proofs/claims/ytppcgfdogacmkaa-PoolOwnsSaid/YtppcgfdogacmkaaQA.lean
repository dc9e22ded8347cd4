import Derived.Test.YtppcgfdogacmkaaPM
namespace Go.Proofs.Ytppcgfdogacmkaa
open Go.RowKit
/-! Slots: usesSlot, hasLayer, slot, vectors. -/
set_option maxRecDepth 20000 in
set_option maxHeartbeats 800000 in
theorem usesSlot_yes {w : World} {g cb nb L W B S s : Nat} {cnt : Nat → Nat} {num : Nat → Int} (h : PoolAt w g cb nb L W B S cnt num) (hs : s ≤ 9223372036854775807) (hb : s / S < B) (hc : cnt (s / S) ≠ 0) :
    Calls Try.prog 71 #[.pointer (some ⟨g, 0, none⟩), .int .i64 s] w fun e w' => e = .returned (.bool true) ∧ w' = w := by
  have HC := hidd (count_any h ((s / S : Nat) : Int))
  rw [cntI_nat cnt hb] at HC
  obtain ⟨_, _, c2, _, _⟩ := h.cells
  have hS := h.hS
  have hz : ¬ (S : Int) = 0 := by omega
  have hz' : ((S : Int) == 0) = false := by simp; omega
  have e3 : (s : Int).tdiv (S : Int) = ((s / S : Nat) : Int) := rfl
  have e4 : (s : Int) / (S : Int) = ((s / S : Nat) : Int) := rfl
  have g0 : decide ((0 : Int) ≤ (s : Int)) = true := by simp
  have hd := Nat.div_le_self s S
  clear h hb
  generalize s / S = d at *
  generalize cnt d = c at *
  have g1 : decide ((0 : Int) < (c : Int)) = true := by simp; omega
  go_enter Try.func71, Try.ntmps71
  go_wp2_with (go_at_call 28; with_reducible refine HC.out.mono ?_; rintro e w9 ⟨rfl, h9⟩; rw [h9]; clear h9)
  go_ret
  exact ⟨by first | rfl | (simp; omega), rfl⟩
set_option maxHeartbeats 800000 in
theorem hasLayer_yes {w : World} {g L l : Nat} (c0 : w.cell? ⟨g, 0, none⟩ = some (.int .i64 L)) (hl : l < L) :
    Calls Try.prog 70 #[.pointer (some ⟨g, 0, none⟩), .int .i64 l] w fun e w' => e = .returned (.bool true) ∧ w' = w := by
  have g0 : decide ((0 : Int) ≤ (l : Int)) = true := by simp
  have g1 : decide ((l : Int) < (L : Int)) = true := by simp; omega
  go_enter Try.func70, Try.ntmps70
  go_wp2
  go_ret
  exact ⟨by first | rfl | (simp; omega), rfl⟩
set_option maxRecDepth 20000 in
set_option maxHeartbeats 800000 in
theorem vslot_any {w : World} {g cb nb L W B S q n T s so : Nat} {cnt : Nat → Nat} {num : Nat → Int} (h : PoolAt w g cb nb L W B S cnt num) (G : Geo L W B S q n T) (hso : so = s * q) (hT : so + q ≤ T) :
    Calls Try.prog 41 #[.pointer (some ⟨g, 0, none⟩), .int .i64 s] w fun e w' => e = .returned (.slice (some ⟨nb, so, none⟩) q (T - so)) ∧ Below w.heap.size w w' := by
  obtain ⟨c0, c1, c2, c3, c4⟩ := h.cells
  rw [← G.eq, ← G.eT] at c4
  have HO : Hid (Calls Try.prog 40 #[.pointer (some ⟨g, 0, none⟩)] w fun e w' => e = .returned (.int .i64 (q : Int)) ∧ Below w.heap.size w w') := by rw [G.eq]; exact ofSlot_at c0 c1 h.hL h.hW
  have K4 := hidd (fun (z : World) (f : Below w.heap.size w z) => fresh_cell f c4)
  have e1 : (s : Int) * (q : Int) = (so : Int) := by rw [hso]; push_cast; rfl
  have hT2 := G.T2
  have hq2 := G.q2
  have hq1 := G.q1
  have hne : ¬ T = so := by omega
  clear h G c0 c1 c2 c3 c4 hso
  go_enter Try.func41, Try.ntmps41
  go_upto_region 2 with (go_at_call 40; with_reducible refine HO.out.mono ?_; rintro e w9 ⟨rfl, h9⟩)
  have c4 := K4.out _ h9
  clear K4 HO
  go_wp2
  go_ret
  refine ⟨?_, h9⟩
  simp
set_option maxRecDepth 20000 in
set_option maxHeartbeats 1600000 in
theorem vectors_any {w : World} {g cb nb L W B S q n T s so l lw : Nat} {cnt : Nat → Nat} {num : Nat → Int} (h : PoolAt w g cb nb L W B S cnt num) (G : Geo L W B S q n T) (hso : so = s * q) (hT : so + q ≤ T) (hlw : lw = l * 2 * W) (hl : lw + 2 * W ≤ q) :
    Calls Try.prog 72 #[.pointer (some ⟨g, 0, none⟩), .int .i64 l, .int .i64 s] w fun e w' => e = .returned (.tuple #[.slice (some ⟨nb, so + lw, none⟩) W (T - so - lw), .slice (some ⟨nb, so + lw + W, none⟩) W (T - so - lw - W)]) ∧ Below w.heap.size w w' := by
  obtain ⟨c0, c1, c2, c3, c4⟩ := h.cells
  have HO : Hid (∀ x : Later w, Calls Try.prog 41 #[.pointer (some ⟨g, 0, none⟩), .int .i64 s] x.val fun e w' => e = .returned (.slice (some ⟨nb, so, none⟩) q (T - so)) ∧ Below x.val.heap.size x.val w') := fun x => vslot_any (h.fresh x.fresh) G hso hT
  have K1 := hidd (fun (z : World) (f : Below w.heap.size w z) => fresh_cell f c1)
  have k1 := later_cell c1
  have hne := later_some w
  obtain ⟨l2, hl2⟩ : ∃ l2, l2 = l * 2 := ⟨_, rfl⟩
  obtain ⟨W2, hW2⟩ : ∃ W2, W2 = 2 * W := ⟨_, rfl⟩
  have hW := h.hW
  have e1 : (l : Int) * 2 = (l2 : Int) := by omega
  have e2 : (l2 : Int) * (W : Int) = (lw : Int) := by rw [hlw, hl2]; push_cast; rfl
  have e3 : (2 : Int) * (W : Int) = (W2 : Int) := by omega
  have hq2 := G.q2
  have hT2 := G.T2
  have hl2b : l2 ≤ lw := by rw [hlw, hl2]; exact Nat.le_mul_of_pos_right _ (by omega)
  have hW3 : W2 = W + W := by omega
  have HW3 := hidd hW3
  have hb1 : lw + W2 ≤ q := by omega
  have hb2 : W ≤ W2 := by omega
  have hb3 : W2 ≤ 64 := by omega
  have hx1 : ¬ T - so = lw := by omega
  have hx2 : ¬ T - so - lw = W := by omega
  clear h G c0 c1 c2 c3 c4 hso hlw hl2 hW2 hW3 hl
  go_enter Try.func72, Try.ntmps72
  go_wp2
  refine wp_region_later (by kernel_rfl) (by kernel_rfl) ?_
  repeat (go_big_quiet_step (fail))
  go_big_quiet_step (exact later_of (HO.out _))
  repeat (go_big_quiet_step (fail))
  refine wpQuiet_nil ?_
  rintro _ ⟨z, rfl⟩
  have hz := z.fresh
  have c1 := K1.out _ hz
  clear k1 HO K1 hne
  generalize z.val = w1 at *
  go_wp2
  go_quiet (fail)
  go_wp2
  go_ret2
  refine ⟨?_, below_drewN hz _⟩
  simp [HW3.out]
end Go.Proofs.Ytppcgfdogacmkaa
