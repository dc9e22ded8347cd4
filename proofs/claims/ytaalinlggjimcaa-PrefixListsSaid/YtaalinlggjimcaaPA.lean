import Derived.Test.YtaalinlggjimcaaPRow
import Derived.Test.YtaalinlggjimcaaPSm
namespace Go.Proofs.Ytaalinlggjimcaa
open Go.RowKit
/-! The pool's small calls. -/
set_option maxHeartbeats 400000 in
theorem isMeasure_in (n : Nat) (m : Int) (w : World) (h : 1 ≤ n ∧ (n : Int) ≤ m) : Calls Try.prog 44 #[.int .i64 n, .int .i64 m] w fun e w' => e = .returned (.bool true) ∧ w' = w := by
  have a1 : (1 : Int) ≤ (n : Int) := by omega
  have a2 : (n : Int) ≤ m := h.2
  go_enter Try.func44, Try.ntmps44
  go_wp2
  go_ret
  exact ⟨rfl, rfl⟩
set_option maxHeartbeats 400000 in
theorem ofSlot_at {w : World} {g L W : Nat} (c0 : w.cell? ⟨g, 0, none⟩ = some (.int .i64 L)) (c1 : w.cell? ⟨g, 1, none⟩ = some (.int .i64 W)) (hL : 1 ≤ L ∧ L ≤ 4) (hW : 1 ≤ W ∧ W ≤ 32) :
    Calls Try.prog 45 #[.pointer (some ⟨g, 0, none⟩)] w fun e w' => e = .returned (.int .i64 ((L * 2 * W : Nat) : Int)) ∧ Below w.heap.size w w' := by
  have hb : L * 2 * W ≤ 256 := by
    have := Nat.mul_le_mul (Nat.mul_le_mul hL.2 (Nat.le_refl 2)) hW.2
    omega
  have h2 : ((L * 2 * W : Nat) : Int) = (L : Int) * 2 * (W : Int) := by push_cast; rfl
  have H2 := hidd h2
  obtain ⟨hL1, hL2⟩ := hL
  obtain ⟨hW1, hW2⟩ := hW
  have hb' : (L : Int) * 2 * (W : Int) ≤ 256 := by omega
  have hb0 : 0 ≤ (L : Int) * 2 * (W : Int) := by omega
  clear h2 hb
  go_enter Try.func45, Try.ntmps45
  go_wp2
  go_quiet (fail)
  go_wp2
  go_ret
  refine ⟨ret_int ?_, ?_⟩
  · exact H2.out.symm
  · exact below_drewN (Below.refl _ _) _
set_option maxHeartbeats 800000 in
theorem left_any {w : World} {g cb nb L W B S : Nat} {cnt : Nat → Nat} {num : Nat → Int} (h : PoolAt w g cb nb L W B S cnt num) :
    Calls Try.prog 24 #[.pointer (some ⟨g, 0, none⟩)] w fun e w' => e = .returned (.int .i64 (freeN cnt B : Nat)) ∧ w' = w := by
  obtain ⟨_, _, _, c3, _⟩ := h.cells
  have hB := h.hB
  have HC := hidd (fun i hi => h.cnts.cell (i := i) hi)
  clear h
  go_enter Try.func24, Try.ntmps24
  go_wp2
  go_loopw [3, 13] (fun v i wr => ∃ k : Nat, k ≤ B ∧ i = .int .i64 k ∧ v = .int .i64 (freeN cnt k : Nat) ∧ wr = w) (fun _ i _ => B - (intOf i).toNat)
  case atStart => exact ⟨0, by omega, rfl, rfl, rfl⟩
  case round =>
    obtain ⟨k, hk, rfl, rfl, rfl⟩ := hrel
    have hle := freeN_le cnt k
    by_cases hlt : k < B
    · have d := HC.out k hlt
      have hs : Hid (freeN cnt (k + 1) = freeN cnt k + (if cnt k = 0 then 1 else 0)) := rfl
      generalize hq : cnt k = q at *
      clear hq
      by_cases h0 : q = 0
      · subst h0
        go_wp2
        go_roundw
        case rel => exact ⟨k + 1, by omega, by go_num, by rw [hs.out]; simp, trivial⟩
        case measure => simp [intOf]; omega
      · have hb : ((q : Int) == 0) = false := by simp [h0]
        go_wp2
        go_roundw
        case rel => exact ⟨k + 1, by omega, by go_num, by rw [hs.out]; simp [h0], trivial⟩
        case measure => simp [intOf]; omega
    · obtain rfl : k = B := by omega
      go_wp2
      go_ret
      exact ⟨rfl, rfl⟩
set_option maxHeartbeats 800000 in
theorem index_any {w : World} {cb B : Nat} {cnt : Nat → Nat} (hc : w.rowIs cb 3 B (fun i => .int .i64 (cnt i))) (hB : B ≤ 256) :
    Calls Try.prog 46 #[.slice (some ⟨cb, 0, none⟩) B B, .int .i64 0] w fun e w' => w' = w ∧ ((∃ b, b < B ∧ cnt b = 0 ∧ (∀ j, j < b → cnt j ≠ 0) ∧ e = .returned (.int .i64 b)) ∨ ((∀ j, j < B → cnt j ≠ 0) ∧ e = .returned (.int .i64 (-1)))) := by
  have HC := hidd (fun i hi => hc.cell (i := i) hi)
  clear hc
  go_enter Try.func46, Try.ntmps46
  go_wp2
  go_loopw [5, 8] (fun _ i wr => ∃ k : Nat, k ≤ B ∧ i = .int .i64 k ∧ Hid (∀ j, j < k → cnt j ≠ 0) ∧ wr = w) (fun _ i _ => B - (intOf i).toNat)
  case atStart => exact ⟨0, by omega, rfl, fun j hj => absurd hj (by omega), rfl⟩
  case round =>
    obtain ⟨k, hk, rfl, hn, rfl⟩ := hrel
    by_cases hlt : k < B
    · have d := HC.out k hlt
      by_cases h0 : cnt k = 0
      · have H0 := hidd h0
        rw [h0] at d
        clear h0
        go_wp2
        go_ret
        exact ⟨rfl, .inl ⟨k, hlt, H0.out, hn.out, rfl⟩⟩
      · have H0 := hidd h0
        have hb : ((0 : Int) == (cnt k : Int)) = false := by simp; omega
        have hb2 : ¬ (0 : Int) = (cnt k : Int) := by omega
        clear h0
        generalize hq : cnt k = q at d hb hb2
        clear hq
        go_wp2
        go_roundw
        case rel => exact ⟨k + 1, by omega, by go_num, fun j hj => (if e : j = k then e ▸ H0.out else hn.out j (by omega)), trivial⟩
        case measure => simp [intOf]; omega
    · obtain rfl : k = B := by omega
      go_wp2
      go_ret
      exact ⟨rfl, .inr ⟨hn.out, rfl⟩⟩
end Go.Proofs.Ytaalinlggjimcaa
