import Derived.Test.YtoolapkcejhpmaaCfg2
namespace Go.Proofs.Ytoolapkcejhpmaa
open Go.RowKit
/-! The law ModelConfigs. -/
set_option maxHeartbeats 1000000 in
theorem configs_walk (V W H K L D N M : Int) (w : World) (_ : -9223372036854775808 ≤ V) (_ : V ≤ 9223372036854775807) (_ : -9223372036854775808 ≤ W) (_ : W ≤ 9223372036854775807) (_ : -9223372036854775808 ≤ H) (_ : H ≤ 9223372036854775807) (_ : -9223372036854775808 ≤ K) (_ : K ≤ 9223372036854775807)
    (_ : -9223372036854775808 ≤ L) (_ : L ≤ 9223372036854775807) (_ : -9223372036854775808 ≤ D) (_ : D ≤ 9223372036854775807) (_ : -9223372036854775808 ≤ N) (_ : N ≤ 9223372036854775807) (_ : -9223372036854775808 ≤ M) (_ : M ≤ 9223372036854775807) :
    Calls Try.prog 3 #[.agg #[.int .i64 V, .int .i64 W, .int .i64 H, .int .i64 K, .int .i64 L, .int .i64 D, .int .i64 N, .int .i64 M]] w fun e w' => e = .returned (.bool true) ∧ Below w.heap.size w w' := by
  go_enter Try.func3, Try.ntmps3
  go_wp2_with fail
  refine (config_any V W H K L D N M _).mono ?_
  rintro e w1 ⟨rfl, hf1⟩
  have q0 := fresh_cell hf1 (show (w.alloc (.cells #[.int .i64 V, .int .i64 W, .int .i64 H, .int .i64 K, .int .i64 L, .int .i64 D, .int .i64 N, .int .i64 M] 23)).cell? ⟨w.heap.size, 0, none⟩ = some (.int .i64 V) by simp)
  have q1 := fresh_cell hf1 (show (w.alloc (.cells #[.int .i64 V, .int .i64 W, .int .i64 H, .int .i64 K, .int .i64 L, .int .i64 D, .int .i64 N, .int .i64 M] 23)).cell? ⟨w.heap.size, 1, none⟩ = some (.int .i64 W) by simp)
  have q2 := fresh_cell hf1 (show (w.alloc (.cells #[.int .i64 V, .int .i64 W, .int .i64 H, .int .i64 K, .int .i64 L, .int .i64 D, .int .i64 N, .int .i64 M] 23)).cell? ⟨w.heap.size, 2, none⟩ = some (.int .i64 H) by simp)
  have q3 := fresh_cell hf1 (show (w.alloc (.cells #[.int .i64 V, .int .i64 W, .int .i64 H, .int .i64 K, .int .i64 L, .int .i64 D, .int .i64 N, .int .i64 M] 23)).cell? ⟨w.heap.size, 3, none⟩ = some (.int .i64 K) by simp)
  have q4 := fresh_cell hf1 (show (w.alloc (.cells #[.int .i64 V, .int .i64 W, .int .i64 H, .int .i64 K, .int .i64 L, .int .i64 D, .int .i64 N, .int .i64 M] 23)).cell? ⟨w.heap.size, 4, none⟩ = some (.int .i64 L) by simp)
  have q5 := fresh_cell hf1 (show (w.alloc (.cells #[.int .i64 V, .int .i64 W, .int .i64 H, .int .i64 K, .int .i64 L, .int .i64 D, .int .i64 N, .int .i64 M] 23)).cell? ⟨w.heap.size, 5, none⟩ = some (.int .i64 D) by simp)
  have q6 := fresh_cell hf1 (show (w.alloc (.cells #[.int .i64 V, .int .i64 W, .int .i64 H, .int .i64 K, .int .i64 L, .int .i64 D, .int .i64 N, .int .i64 M] 23)).cell? ⟨w.heap.size, 6, none⟩ = some (.int .i64 N) by simp)
  have q7 := fresh_cell hf1 (show (w.alloc (.cells #[.int .i64 V, .int .i64 W, .int .i64 H, .int .i64 K, .int .i64 L, .int .i64 D, .int .i64 N, .int .i64 M] 23)).cell? ⟨w.heap.size, 7, none⟩ = some (.int .i64 M) by simp)
  have hF := fresh_trans (fresh_alloc w _) hf1
  clear hf1
  generalize hE : mayE V W H K L D N M = E at *
  go_wp2_with fail
  refine (config_ref V W H K L D N M _).mono ?_
  rintro e w2 ⟨rfl, hf2⟩
  rw [hE]
  clear hE
  go_wp2
  go_ret
  exact ⟨ret_bool (by simp), fresh_trans hF hf2⟩
end Go.Proofs.Ytoolapkcejhpmaa
