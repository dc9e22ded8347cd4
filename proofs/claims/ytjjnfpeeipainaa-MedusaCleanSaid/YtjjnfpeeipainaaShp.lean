import Derived.Test.YtjjnfpeeipainaaChkC
namespace Go.Proofs.Ytjjnfpeeipainaa
open Go.RowKit
/-! The four functions of the table of shapes. -/
set_option maxHeartbeats 400000 in
theorem shVocab (V W H K L D N M : Int) (w : World) : Calls Try.prog 93 #[.agg #[.int .i64 V, .int .i64 W, .int .i64 H, .int .i64 K, .int .i64 L, .int .i64 D, .int .i64 N, .int .i64 M]] w fun e w' => e = .returned (.int .i64 V) ∧ Below w.heap.size w w' := by
  go_enter Try.func93, Try.ntmps93
  go_wp2
  go_ret
  exact ⟨rfl, fresh_alloc _ _⟩
set_option maxHeartbeats 400000 in
theorem shWidth (V W H K L D N M : Int) (w : World) : Calls Try.prog 94 #[.agg #[.int .i64 V, .int .i64 W, .int .i64 H, .int .i64 K, .int .i64 L, .int .i64 D, .int .i64 N, .int .i64 M]] w fun e w' => e = .returned (.int .i64 W) ∧ Below w.heap.size w w' := by
  go_enter Try.func94, Try.ntmps94
  go_wp2
  go_ret
  exact ⟨rfl, fresh_alloc _ _⟩
set_option maxHeartbeats 400000 in
theorem shHidden (V W H K L D N M : Int) (w : World) : Calls Try.prog 95 #[.agg #[.int .i64 V, .int .i64 W, .int .i64 H, .int .i64 K, .int .i64 L, .int .i64 D, .int .i64 N, .int .i64 M]] w fun e w' => e = .returned (.int .i64 D) ∧ Below w.heap.size w w' := by
  go_enter Try.func95, Try.ntmps95
  go_wp2
  go_ret
  exact ⟨rfl, fresh_alloc _ _⟩
set_option maxHeartbeats 1000000 in
theorem shKeys (V W H K L D N M kv : Int) (w : World) (hH : 1 ≤ H) (hH4 : H ≤ 4) (hW : 2 ≤ W) (hW2 : W ≤ 32) (hkv : K * (W / H) = kv) (kv0 : 0 ≤ kv) (kv1 : kv ≤ 128) :
    Calls Try.prog 96 #[.agg #[.int .i64 V, .int .i64 W, .int .i64 H, .int .i64 K, .int .i64 L, .int .i64 D, .int .i64 N, .int .i64 M]] w fun e w' => e = .returned (.int .i64 kv) ∧ Below w.heap.size w w' := by
  go_enter Try.func96, Try.ntmps96
  go_wp2
  have hf0 := fresh_alloc w (.cells #[.int .i64 V, .int .i64 W, .int .i64 H, .int .i64 K, .int .i64 L, .int .i64 D, .int .i64 N, .int .i64 M] 23)
  have d0 : (w.alloc (.cells #[.int .i64 V, .int .i64 W, .int .i64 H, .int .i64 K, .int .i64 L, .int .i64 D, .int .i64 N, .int .i64 M] 23)).cell? ⟨w.heap.size, 0, none⟩ = some (.int .i64 V) := by simp
  have d1 : (w.alloc (.cells #[.int .i64 V, .int .i64 W, .int .i64 H, .int .i64 K, .int .i64 L, .int .i64 D, .int .i64 N, .int .i64 M] 23)).cell? ⟨w.heap.size, 1, none⟩ = some (.int .i64 W) := by simp
  have d2 : (w.alloc (.cells #[.int .i64 V, .int .i64 W, .int .i64 H, .int .i64 K, .int .i64 L, .int .i64 D, .int .i64 N, .int .i64 M] 23)).cell? ⟨w.heap.size, 2, none⟩ = some (.int .i64 H) := by simp
  have d3 : (w.alloc (.cells #[.int .i64 V, .int .i64 W, .int .i64 H, .int .i64 K, .int .i64 L, .int .i64 D, .int .i64 N, .int .i64 M] 23)).cell? ⟨w.heap.size, 3, none⟩ = some (.int .i64 K) := by simp
  have d4 : (w.alloc (.cells #[.int .i64 V, .int .i64 W, .int .i64 H, .int .i64 K, .int .i64 L, .int .i64 D, .int .i64 N, .int .i64 M] 23)).cell? ⟨w.heap.size, 4, none⟩ = some (.int .i64 L) := by simp
  have d5 : (w.alloc (.cells #[.int .i64 V, .int .i64 W, .int .i64 H, .int .i64 K, .int .i64 L, .int .i64 D, .int .i64 N, .int .i64 M] 23)).cell? ⟨w.heap.size, 5, none⟩ = some (.int .i64 D) := by simp
  have d6 : (w.alloc (.cells #[.int .i64 V, .int .i64 W, .int .i64 H, .int .i64 K, .int .i64 L, .int .i64 D, .int .i64 N, .int .i64 M] 23)).cell? ⟨w.heap.size, 6, none⟩ = some (.int .i64 N) := by simp
  have d7 : (w.alloc (.cells #[.int .i64 V, .int .i64 W, .int .i64 H, .int .i64 K, .int .i64 L, .int .i64 D, .int .i64 N, .int .i64 M] 23)).cell? ⟨w.heap.size, 7, none⟩ = some (.int .i64 M) := by simp
  generalize w.alloc (.cells #[.int .i64 V, .int .i64 W, .int .i64 H, .int .i64 K, .int .i64 L, .int .i64 D, .int .i64 N, .int .i64 M] 23) = w1 at *
  replace d0 := later_cell d0; replace d1 := later_cell d1; replace d2 := later_cell d2; replace d3 := later_cell d3; replace d4 := later_cell d4; replace d5 := later_cell d5; replace d6 := later_cell d6; replace d7 := later_cell d7
  have ne := later_some w1
  refine wp_region_later (by kernel_rfl) (by kernel_rfl) ?_
  repeat (go_big_quiet_step (fail))
  go_big_quiet_step (exact later_of (headSize_any _ _ _ _ _ _ _ _ _ hH hH4 hW hW2))
  repeat (go_big_quiet_step (fail))
  refine wpQuiet_nil ?_
  rintro _ ⟨z, rfl⟩
  have hz := z.fresh
  go_wp2
  go_ret
  exact ⟨rfl, fresh_trans hf0 hz⟩
end Go.Proofs.Ytjjnfpeeipainaa
