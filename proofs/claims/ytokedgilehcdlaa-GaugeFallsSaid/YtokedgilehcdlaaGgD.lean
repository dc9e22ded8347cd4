import Derived.Test.YtokedgilehcdlaaGgC
namespace Go.Proofs.Ytokedgilehcdlaa
open Go.RowKit
/-! New, and the reference's New and Next. -/
set_option maxRecDepth 20000 in
set_option maxHeartbeats 1600000 in
theorem new_ok (w : World) {n x : Int} (h1 : 1 ≤ n) (h2 : n ≤ 32) (hx : x = min 4 n) :
    Calls Try.prog 11 #[.int .i64 n] w fun e w' => e = .returned (.tuple #[.agg #[.int .i64 x, .int .i64 n, .int .i64 0], .int .i64 0]) ∧ Below w.heap.size w w' := by
  have HX := hidd hx
  clear hx
  have HC : Hid (∀ w1, Calls Try.prog 9 #[.agg #[.int .i64 x, .int .i64 n, .int .i64 0]] w1 fun e w' => e = .returned (.int .i64 0) ∧ Below w1.heap.size w1 w') := fun w1 => check_ok w1 (by unfold okG; have := HX.out; omega)
  have HF0 : Hid (Below w.heap.size w ((w.alloc (.cells #[.int .i64 0, .int .i64 0, .int .i64 0] 23)).alloc (.cells #[.int .i64 x, .int .i64 n, .int .i64 0] 23))) := (fresh_alloc w _).alloc (by simp) _
  have HN0 : Hid (((w.alloc (.cells #[.int .i64 0, .int .i64 0, .int .i64 0] 23)).alloc (.cells #[.int .i64 x, .int .i64 n, .int .i64 0] 23)).heap[w.heap.size]? = some (.cells #[.int .i64 0, .int .i64 0, .int .i64 0] 23 (0, 0))) := heap_alloc2_old _ _ _
  obtain ⟨c1, c2, c3⟩ := box3 (w.alloc (.cells #[.int .i64 0, .int .i64 0, .int .i64 0] 23)) x n 0 23
  rw [World.size_alloc] at c1 c2 c3
  have HK := hidd (And.intro c1 (And.intro c2 c3))
  clear c1 c2 c3
  by_cases a : n < 4
  · obtain rfl : x = n := by have := HX.out; omega
    have d1 : decide (x < 4) = true := decide_eq_true a
    go_enter Try.func11, Try.ntmps11
    go_wp2_with (first
      | (go_at_call 9; with_reducible refine (HC.out _).mono ?_; rintro e w2 ⟨rfl, hb2⟩; have HN2 := hidd ((hb2.block (w.heap.size) (by rw [World.size_alloc, World.size_alloc]; omega)).trans HN0.out); have HF2 := hidd (HF0.out.trans (hb2.mono HF0.out.size)); have k1 := fresh_cell hb2 HK.out.1; have k2 := fresh_cell hb2 HK.out.2.1; have k3 := fresh_cell hb2 HK.out.2.2; clear hb2 HN0 HF0)
      | (refine wpList_store_row rfl 23 _ _ rfl (w.heap.size) #[.int .i64 x, .int .i64 x, .int .i64 0] rfl rfl 23 _ HN2.out (by kernel_rfl) rfl (all3 _ _ _) ?_))
    refine bodyPost_ret (ret_cell_tmp rfl _ _ (w.heap.size) 23 _ (0, 0) _ _ rfl (setRow_heap _ _ _ _ _ _ HN2.out) Try.underlying23 rfl (by kernel_rfl) rfl) rfl ?_
    exact ⟨rfl, below_setRow HF2.out (by omega) _⟩
  · obtain rfl : x = 4 := by have := HX.out; omega
    have d1 : decide (n < 4) = false := decide_eq_false a
    go_enter Try.func11, Try.ntmps11
    go_wp2_with (first
      | (go_at_call 9; with_reducible refine (HC.out _).mono ?_; rintro e w2 ⟨rfl, hb2⟩; have HN2 := hidd ((hb2.block (w.heap.size) (by rw [World.size_alloc, World.size_alloc]; omega)).trans HN0.out); have HF2 := hidd (HF0.out.trans (hb2.mono HF0.out.size)); have k1 := fresh_cell hb2 HK.out.1; have k2 := fresh_cell hb2 HK.out.2.1; have k3 := fresh_cell hb2 HK.out.2.2; clear hb2 HN0 HF0)
      | (refine wpList_store_row rfl 23 _ _ rfl (w.heap.size) #[.int .i64 4, .int .i64 n, .int .i64 0] rfl rfl 23 _ HN2.out (by kernel_rfl) rfl (all3 _ _ _) ?_))
    refine bodyPost_ret (ret_cell_tmp rfl _ _ (w.heap.size) 23 _ (0, 0) _ _ rfl (setRow_heap _ _ _ _ _ _ HN2.out) Try.underlying23 rfl (by kernel_rfl) rfl) rfl ?_
    exact ⟨rfl, below_setRow HF2.out (by omega) _⟩
set_option maxRecDepth 20000 in
set_option maxHeartbeats 1600000 in
theorem new_bad (w : World) {n : Int} (h : ¬ (1 ≤ n ∧ n ≤ 32)) :
    Calls Try.prog 11 #[.int .i64 n] w fun e w' => e = .returned (.tuple #[.agg #[.int .i64 0, .int .i64 0, .int .i64 0], .int .i64 1]) ∧ Below w.heap.size w w' := by
  obtain ⟨x, HX⟩ : ∃ x, Hid (x = min 4 n) := ⟨_, rfl⟩
  have HC : Hid (∀ w1, Calls Try.prog 9 #[.agg #[.int .i64 x, .int .i64 n, .int .i64 0]] w1 fun e w' => e = .returned (.int .i64 1) ∧ Below w1.heap.size w1 w') := fun w1 => check_bad w1 (by unfold okG; omega)
  have HF0 : Hid (Below w.heap.size w ((w.alloc (.cells #[.int .i64 0, .int .i64 0, .int .i64 0] 23)).alloc (.cells #[.int .i64 x, .int .i64 n, .int .i64 0] 23))) := (fresh_alloc w _).alloc (by simp) _
  have HN0 : Hid (((w.alloc (.cells #[.int .i64 0, .int .i64 0, .int .i64 0] 23)).alloc (.cells #[.int .i64 x, .int .i64 n, .int .i64 0] 23)).heap[w.heap.size]? = some (.cells #[.int .i64 0, .int .i64 0, .int .i64 0] 23 (0, 0))) := heap_alloc2_old _ _ _
  clear h
  by_cases a : n < 4
  · obtain rfl : x = n := by have := HX.out; omega
    have d1 : decide (x < 4) = true := decide_eq_true a
    go_enter Try.func11, Try.ntmps11
    go_wp2_with (first
      | (go_at_call 9; with_reducible refine (HC.out _).mono ?_; rintro e w2 ⟨rfl, hb2⟩; have HN2 := hidd ((hb2.block (w.heap.size) (by rw [World.size_alloc, World.size_alloc]; omega)).trans HN0.out); have HF2 := hidd (HF0.out.trans (hb2.mono HF0.out.size)); clear hb2 HN0 HF0)
      | (refine wpList_store_row rfl 23 _ _ rfl (w.heap.size) #[.int .i64 0, .int .i64 0, .int .i64 0] rfl rfl 23 _ HN2.out (by kernel_rfl) rfl (all3 _ _ _) ?_))
    refine bodyPost_ret (ret_cell_tmp rfl _ _ (w.heap.size) 23 _ (0, 0) _ _ rfl (setRow_heap _ _ _ _ _ _ HN2.out) Try.underlying23 rfl (by kernel_rfl) rfl) rfl ?_
    exact ⟨rfl, below_setRow HF2.out (by omega) _⟩
  · obtain rfl : x = 4 := by have := HX.out; omega
    have d1 : decide (n < 4) = false := decide_eq_false a
    go_enter Try.func11, Try.ntmps11
    go_wp2_with (first
      | (go_at_call 9; with_reducible refine (HC.out _).mono ?_; rintro e w2 ⟨rfl, hb2⟩; have HN2 := hidd ((hb2.block (w.heap.size) (by rw [World.size_alloc, World.size_alloc]; omega)).trans HN0.out); have HF2 := hidd (HF0.out.trans (hb2.mono HF0.out.size)); clear hb2 HN0 HF0)
      | (refine wpList_store_row rfl 23 _ _ rfl (w.heap.size) #[.int .i64 0, .int .i64 0, .int .i64 0] rfl rfl 23 _ HN2.out (by kernel_rfl) rfl (all3 _ _ _) ?_))
    refine bodyPost_ret (ret_cell_tmp rfl _ _ (w.heap.size) 23 _ (0, 0) _ _ rfl (setRow_heap _ _ _ _ _ _ HN2.out) Try.underlying23 rfl (by kernel_rfl) rfl) rfl ?_
    exact ⟨rfl, below_setRow HF2.out (by omega) _⟩
set_option maxRecDepth 20000 in
set_option maxHeartbeats 1600000 in
theorem rnew_any (w : World) {n x y e0 : Int} (h : (1 ≤ n ∧ n ≤ 32 ∧ x = min 4 n ∧ y = n ∧ e0 = 0) ∨ (¬ (1 ≤ n ∧ n ≤ 32) ∧ x = 0 ∧ y = 0 ∧ e0 = 1)) :
    Calls Try.prog 12 #[.int .i64 n] w fun e w' => e = .returned (.tuple #[.agg #[.int .i64 x, .int .i64 y, .int .i64 0], .int .i64 e0]) ∧ Below w.heap.size w w' := by
  have HH := hidd h
  clear h
  go_enter Try.func12, Try.ntmps12
  go_wp2
  all_goals
    refine bodyPost_ret (ret_cell_tmp rfl _ _ (w.heap.size) 23 _ (0, 0) _ _ rfl (heap_alloc_new _ _) Try.underlying23 rfl (by kernel_rfl) rfl) rfl ?_
    have hh := HH.out
    exact ⟨tup3 (by omega) (by omega) rfl (by omega), fresh_alloc w _⟩
end Go.Proofs.Ytokedgilehcdlaa
