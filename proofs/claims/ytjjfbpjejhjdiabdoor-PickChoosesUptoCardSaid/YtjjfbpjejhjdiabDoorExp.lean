import Derived.Test.YtjjfbpjejhjdiabDoorShift
import Derived.Test.YtjjfbpjejhjdiabDoorFixExp
import Derived.Laws.Rows
namespace Go.Proofs.YtjjfbpjejhjdiabDoor
open Go.RowKit
/-! The contract of fix.Exp, in a world that holds the table. -/
def tab : Array Value := #[.int .i64 35472643, .int .i64 (-175978408), .int .i64 536691957, .int .i64 (-1073764153), .int .i64 1073741824]
def Holds (w : World) : Prop := ∃ t fr, w.heap[1]? = some (.cells tab t fr)
theorem at0 (w : World) : (Instr.index 100 (.agg tab) (.int .i64 0)).run Tryd.prog w = .ok (.int .i64 (Fix.co 0)) w := by kernel_rfl
theorem at1 (w : World) : (Instr.index 100 (.agg tab) (.int .i64 1)).run Tryd.prog w = .ok (.int .i64 (Fix.co 1)) w := by kernel_rfl
theorem at2 (w : World) : (Instr.index 100 (.agg tab) (.int .i64 2)).run Tryd.prog w = .ok (.int .i64 (Fix.co 2)) w := by kernel_rfl
theorem at3 (w : World) : (Instr.index 100 (.agg tab) (.int .i64 3)).run Tryd.prog w = .ok (.int .i64 (Fix.co 3)) w := by kernel_rfl
theorem at4 (w : World) : (Instr.index 100 (.agg tab) (.int .i64 4)).run Tryd.prog w = .ok (.int .i64 (Fix.co 4)) w := by kernel_rfl
theorem at_any (k : Nat) (h : k < 5) (w : World) : (Instr.index 100 (.agg tab) (.int .i64 (k : Int))).run Tryd.prog w = .ok (.int .i64 (Fix.co k)) w := by
  match k, h with
  | 0, _ => exact at0 w
  | 1, _ => exact at1 w
  | 2, _ => exact at2 w
  | 3, _ => exact at3 w
  | 4, _ => exact at4 w
theorem hor_next (r p : Int) (k : Nat) (h : p = Fix.hor r k) : Fix.co k + Fix.sh (p * r) 16 = Fix.hor r (k + 1) := by subst h; rfl
theorem hor_next0 (k : Nat) : Fix.co k + Fix.sh 0 16 = Fix.hor 0 (k + 1) := by
  show _ = Fix.co k + Fix.sh (Fix.hor 0 k * 0) 16
  rw [Int.mul_zero]
set_option maxHeartbeats 400000 in
theorem expn_any (n : Int) (w : World) (hw : Holds w) (n0 : 0 ≤ n) (n1 : n ≤ 1048576) :
    Calls Tryd.prog 71 #[.int .i64 (-n)] w fun e w' => e = .returned (.int .i64 (Fix.exn n)) ∧ w' = w := by
  obtain ⟨t, fr, hg⟩ := hw
  have HG := hidd hg
  clear hg
  go_enter Tryd.func71, Tryd.ntmps71
  go_wp2_with (refine wpList_load_row rfl 100 _ rfl 1 rfl t _ fr _ HG.out Tryd.underlying100 rfl (by kernel_rfl) ?_)
  go_loop [5, 19] (fun p i => ∃ k : Nat, k ≤ 5 ∧ i = .int .i64 (k : Int) ∧ p = .int .i64 (Fix.hor (n % 45426) k)) (fun _ i => (5 - intOf i).toNat)
  case atStart => exact ⟨0, by omega, rfl, rfl⟩
  case round =>
    obtain ⟨k, hk, rfl, rfl⟩ := hrel
    have r0 : 0 ≤ n % 45426 := by omega
    have r1 : n % 45426 ≤ 45425 := by omega
    have hb := Fix.hor_bd _ r0 r1 k
    have hm := Fix.hor_mul_bd _ r0 r1 k
    by_cases c1 : k < 5
    · have hi := at_any k c1
      have hc := Fix.co_bd k
      have hb2 := Fix.hor_bd _ r0 r1 (k + 1)
      have HN := hidd (hor_next (n % 45426) _ k rfl)
      rw [← HN.out] at hb2
      go_wp2_with (go_at_call 55; refine (shift_any _ _ _ (by omega) (by omega) (by omega) (by omega)).mono ?_; rintro e w' ⟨rfl, rfl⟩)
      go_round
      case rel => exact ⟨k + 1, by omega, by go_num, by rw [← HN.out]⟩
      case measure => simp [intOf]; omega
    · obtain rfl : k = 5 := by omega
      have hs := Fix.sh14 (Fix.hor (n % 45426) 5)
      have g0 : -9223372036854775808 ≤ Fix.sh (Fix.hor (n % 45426) 5) 14 := by omega
      have g1 : Fix.sh (Fix.hor (n % 45426) 5) 14 ≤ 9223372036854775807 := by omega
      clear hs
      go_wp2_with fail
      refine (shift_any _ _ _ (by omega) (by omega) (by omega) (by omega)).mono ?_; rintro e w' ⟨rfl, rfl⟩
      go_wp2_with fail
      refine (shift_any _ _ _ (by omega) (by omega) (by omega) (by omega)).mono ?_; rintro e w' ⟨rfl, rfl⟩
      go_wp2
      go_ret
      exact ⟨rfl, rfl⟩
set_option maxHeartbeats 400000 in
theorem exp_high (z : Int) (w : World) (hw : Holds w) (c : 0 < z) :
    Calls Tryd.prog 71 #[.int .i64 z] w fun e w' => e = .returned (.int .i64 (Fix.exn 0)) ∧ w' = w := by
  obtain ⟨t, fr, hg⟩ := hw
  have HG := hidd hg
  clear hg
  go_enter Tryd.func71, Tryd.ntmps71
  go_wp2_with (refine wpList_load_row rfl 100 _ rfl 1 rfl t _ fr _ HG.out Tryd.underlying100 rfl (by kernel_rfl) ?_)
  go_loop [5, 19] (fun p i => ∃ k : Nat, k ≤ 5 ∧ i = .int .i64 (k : Int) ∧ p = .int .i64 (Fix.hor 0 k)) (fun _ i => (5 - intOf i).toNat)
  case atStart => exact ⟨0, by omega, rfl, rfl⟩
  case round =>
    obtain ⟨k, hk, rfl, rfl⟩ := hrel
    have hb := Fix.hor_bd 0 (by omega) (by omega) k
    by_cases c1 : k < 5
    · have hi := at_any k c1
      have hc := Fix.co_bd k
      have hb2 := Fix.hor_bd 0 (by omega) (by omega) (k + 1)
      have HN := hidd (hor_next0 k)
      rw [← HN.out] at hb2
      go_wp2_with (go_at_call 55; refine (shift_any _ _ _ (by omega) (by omega) (by omega) (by omega)).mono ?_; rintro e w' ⟨rfl, rfl⟩)
      go_round
      case rel => exact ⟨k + 1, by omega, by go_num, by rw [← HN.out]⟩
      case measure => simp [intOf]; omega
    · obtain rfl : k = 5 := by omega
      have hs := Fix.sh14 (Fix.hor 0 5)
      have g0 : -9223372036854775808 ≤ Fix.sh (Fix.hor 0 5) 14 := by omega
      have g1 : Fix.sh (Fix.hor 0 5) 14 ≤ 9223372036854775807 := by omega
      clear hs
      go_wp2_with fail
      refine (shift_any _ _ _ (by omega) (by omega) (by omega) (by omega)).mono ?_; rintro e w' ⟨rfl, rfl⟩
      go_wp2_with fail
      refine (shift_any _ _ _ (by omega) (by omega) (by omega) (by omega)).mono ?_; rintro e w' ⟨rfl, rfl⟩
      go_wp2
      go_ret
      exact ⟨rfl, rfl⟩
set_option maxHeartbeats 400000 in
theorem exp_low (z : Int) (w : World) (c : z < -1048576) :
    Calls Tryd.prog 71 #[.int .i64 z] w fun e w' => e = .returned (.int .i64 0) ∧ w' = w := by
  go_enter Tryd.func71, Tryd.ntmps71
  go_wp2
  go_ret
  exact ⟨rfl, rfl⟩
theorem exp_any (z : Int) (w : World) (hw : Holds w) :
    Calls Tryd.prog 71 #[.int .i64 z] w fun e w' => e = .returned (.int .i64 (Fix.ex z)) ∧ w' = w := by
  by_cases c0 : z < -1048576
  · rw [Fix.ex_low z c0]; exact exp_low z w c0
  · by_cases c1 : 0 < z
    · rw [Fix.ex_high z (by omega)]; exact exp_high z w hw c1
    · have h := expn_any (-z) w hw (by omega) (by omega)
      rw [Int.neg_neg] at h
      rw [Fix.ex_mid z (by omega) (by omega)]
      exact h
end Go.Proofs.YtjjfbpjejhjdiabDoor
