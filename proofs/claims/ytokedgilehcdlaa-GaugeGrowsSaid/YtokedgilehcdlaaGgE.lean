import Derived.Test.YtokedgilehcdlaaGgD
namespace Go.Proofs.Ytokedgilehcdlaa
open Go.RowKit
/-! Next of both sides. -/
def nS (s m r n a : Int) : Int := if n = 1 then (if 1 < s then s else if r < 3 then s else min 2 m) else if a = 0 then max (s / 2) 1 else if n - 1 ≤ 2 * a then min (s + a + 1) m else s
def nR (s r n : Int) : Int := if n = 1 then (if 1 < s then r else if r < 3 then r + 1 else 0) else 0
theorem nG {s m r n a : Int} (h : okG s m r) (h1 : 1 ≤ n) (h2 : n ≤ 32) (h3 : 0 ≤ a) (h4 : a ≤ n - 1) : okG (nS s m r n a) m (nR s r n) := by
  unfold okG at *
  unfold nS nR
  obtain ⟨k1, k2, k3, k4, k5, k6⟩ := h
  refine ⟨k1, k2, ?_, ?_, ?_, ?_⟩ <;> (repeat' split) <;> omega
theorem wr1 {n : Int} (h1 : 1 ≤ n) (h2 : n ≤ 32) : IntKind.i64.wrap (n - 1) = n - 1 := by rw [IntKind.wrap_i64]; omega
set_option maxRecDepth 20000 in
set_option maxHeartbeats 1600000 in
theorem next_one (w : World) {s m r n a x y : Int} (h : okG s m r) (h1 : 1 ≤ n) (h2 : n ≤ 32) (h3 : 0 ≤ a) (h4 : a ≤ n - 1) (hn : n = 1) (hx : x = nS s m r n a) (hy : y = nR s r n) :
    Calls Try.prog 14 #[.agg #[.int .i64 s, .int .i64 m, .int .i64 r], .int .i64 n, .int .i64 a] w fun e w' => e = .returned (.tuple #[.agg #[.int .i64 x, .int .i64 m, .int .i64 y], .int .i64 0]) ∧ Below w.heap.size w w' := by
  have HB : Hid (∀ w1, Calls Try.prog 18 #[.agg #[.int .i64 s, .int .i64 m, .int .i64 r]] w1 fun e w' => e = .returned (.agg #[.int .i64 x, .int .i64 m, .int .i64 y]) ∧ Below w1.heap.size w1 w') := fun w1 => rested_any w1 h (by rw [hx]; unfold nS; rw [if_pos hn]) (by rw [hy]; unfold nR; rw [if_pos hn])
  subst hn
  obtain rfl : a = 0 := by omega
  obtain ⟨k1, k2, k3, k4, k5, k6⟩ := h
  have HC : Hid (∀ w1, Calls Try.prog 9 #[.agg #[.int .i64 s, .int .i64 m, .int .i64 r]] w1 fun e w' => e = .returned (.int .i64 0) ∧ Below w1.heap.size w1 w') := fun w1 => check_ok w1 ⟨k1, k2, k3, k4, k5, k6⟩
  have HF0 : Hid (Below w.heap.size w ((w.alloc (.cells #[.int .i64 s, .int .i64 m, .int .i64 r] 23)).alloc (.cells #[.int .i64 0, .int .i64 0, .int .i64 0] 23))) := (fresh_alloc w _).alloc (by simp) _
  have HN0 : Hid (((w.alloc (.cells #[.int .i64 s, .int .i64 m, .int .i64 r] 23)).alloc (.cells #[.int .i64 0, .int .i64 0, .int .i64 0] 23)).heap[w.heap.size + 1]? = some (.cells #[.int .i64 0, .int .i64 0, .int .i64 0] 23 (0, 0))) := heap_alloc2_new _ _ _
  obtain ⟨c1, c2, c3⟩ := box3 w s m r 23
  have HK := hidd (And.intro (fresh_cell (fresh_alloc _ (.cells #[.int .i64 0, .int .i64 0, .int .i64 0] 23)) c1) (And.intro (fresh_cell (fresh_alloc _ (.cells #[.int .i64 0, .int .i64 0, .int .i64 0] 23)) c2) (fresh_cell (fresh_alloc _ (.cells #[.int .i64 0, .int .i64 0, .int .i64 0] 23)) c3)))
  clear c1 c2 c3
  have HX := hidd hx
  have HY := hidd hy
  clear hx hy
  go_enter Try.func14, Try.ntmps14
  go_wp2_with (first
    | (go_at_call 9; with_reducible refine (HC.out _).mono ?_; rintro e w2 ⟨rfl, hb2⟩; have HN2 := hidd ((hb2.block (w.heap.size + 1) (by simp)).trans HN0.out); have HF2 := hidd (HF0.out.trans (hb2.mono HF0.out.size)); have l1 := fresh_cell hb2 HK.out.1; have l2 := fresh_cell hb2 HK.out.2.1; have l3 := fresh_cell hb2 HK.out.2.2; have hz2 : w.heap.size + 1 < w2.heap.size := (Array.getElem?_eq_some_iff.1 HN2.out).1; clear hb2 HN0 HF0)
    | (go_at_call 18; with_reducible refine (HB.out _).mono ?_; rintro e w3 ⟨rfl, hb3⟩; have HN3 := hidd ((hb3.block (w.heap.size + 1) hz2).trans HN2.out); have HF3 := hidd (HF2.out.trans (hb3.mono HF2.out.size)); clear hb3)
    | (refine wpList_store_row rfl 23 _ _ rfl (w.heap.size + 1) #[.int .i64 x, .int .i64 m, .int .i64 y] rfl rfl 23 _ HN3.out (by kernel_rfl) rfl (all3 _ _ _) ?_))
  refine bodyPost_ret (ret_cell_tmp rfl _ _ (w.heap.size + 1) 23 _ (0, 0) _ _ rfl (setRow_heap _ _ _ _ _ _ HN3.out) Try.underlying23 rfl (by kernel_rfl) rfl) rfl ?_
  exact ⟨rfl, below_setRow HF3.out (by omega) _⟩
set_option maxRecDepth 20000 in
set_option maxHeartbeats 1600000 in
theorem next_none (w : World) {s m r n a x y : Int} (h : okG s m r) (h1 : 1 ≤ n) (h2 : n ≤ 32) (h3 : 0 ≤ a) (h4 : a ≤ n - 1) (hn : n ≠ 1) (ha : a = 0) (hx : x = nS s m r n a) (hy : y = nR s r n) :
    Calls Try.prog 14 #[.agg #[.int .i64 s, .int .i64 m, .int .i64 r], .int .i64 n, .int .i64 a] w fun e w' => e = .returned (.tuple #[.agg #[.int .i64 x, .int .i64 m, .int .i64 y], .int .i64 0]) ∧ Below w.heap.size w w' := by
  have HB : Hid (∀ w1, Calls Try.prog 19 #[.agg #[.int .i64 s, .int .i64 m, .int .i64 r], .int .i64 (s / 2)] w1 fun e w' => e = .returned (.agg #[.int .i64 x, .int .i64 m, .int .i64 0]) ∧ Below w1.heap.size w1 w') := fun w1 => by
    have := resized_any w1 s m r (s / 2)
    rwa [show bS (s / 2) m = x by rw [hx]; unfold okG at h; unfold bS bM nS; (repeat' split) <;> omega, show bM m = m by unfold okG at h; unfold bM; omega] at this
  obtain rfl : y = 0 := by rw [hy]; unfold nR; (repeat' split) <;> omega
  subst ha
  have q1 : IntKind.i64.wrap (Int.tdiv s 2) = s / 2 := by unfold okG at h; rw [Int.tdiv_eq_ediv_of_nonneg (by omega), IntKind.wrap_i64]; omega
  have q2 : IntKind.i64.wrap (s / 2) = s / 2 := by unfold okG at h; rw [IntKind.wrap_i64]; omega
  have q3 : Int.tdiv s 2 = s / 2 := by unfold okG at h; exact Int.tdiv_eq_ediv_of_nonneg (by omega)
  have d5 : decide (n - 1 = 0) = false := decide_eq_false (by omega)
  obtain ⟨k1, k2, k3, k4, k5, k6⟩ := h
  have HC : Hid (∀ w1, Calls Try.prog 9 #[.agg #[.int .i64 s, .int .i64 m, .int .i64 r]] w1 fun e w' => e = .returned (.int .i64 0) ∧ Below w1.heap.size w1 w') := fun w1 => check_ok w1 ⟨k1, k2, k3, k4, k5, k6⟩
  have HF0 : Hid (Below w.heap.size w ((w.alloc (.cells #[.int .i64 s, .int .i64 m, .int .i64 r] 23)).alloc (.cells #[.int .i64 0, .int .i64 0, .int .i64 0] 23))) := (fresh_alloc w _).alloc (by simp) _
  have HN0 : Hid (((w.alloc (.cells #[.int .i64 s, .int .i64 m, .int .i64 r] 23)).alloc (.cells #[.int .i64 0, .int .i64 0, .int .i64 0] 23)).heap[w.heap.size + 1]? = some (.cells #[.int .i64 0, .int .i64 0, .int .i64 0] 23 (0, 0))) := heap_alloc2_new _ _ _
  obtain ⟨c1, c2, c3⟩ := box3 w s m r 23
  have HK := hidd (And.intro (fresh_cell (fresh_alloc _ (.cells #[.int .i64 0, .int .i64 0, .int .i64 0] 23)) c1) (And.intro (fresh_cell (fresh_alloc _ (.cells #[.int .i64 0, .int .i64 0, .int .i64 0] 23)) c2) (fresh_cell (fresh_alloc _ (.cells #[.int .i64 0, .int .i64 0, .int .i64 0] 23)) c3)))
  clear c1 c2 c3
  have d1 : decide (n < 1) = false := decide_eq_false (by omega)
  have d2 : decide (32 < n) = false := decide_eq_false (by omega)
  have q0 := wr1 h1 h2
  have d4 : decide (n - 1 < 0) = false := decide_eq_false (by omega)
  have HX := hidd hx
  have HY := hidd hy
  clear hx hy
  go_enter Try.func14, Try.ntmps14
  go_wp2_with (first
    | (go_at_call 9; with_reducible refine (HC.out _).mono ?_; rintro e w2 ⟨rfl, hb2⟩; have HN2 := hidd ((hb2.block (w.heap.size + 1) (by simp)).trans HN0.out); have HF2 := hidd (HF0.out.trans (hb2.mono HF0.out.size)); have l1 := fresh_cell hb2 HK.out.1; have l2 := fresh_cell hb2 HK.out.2.1; have l3 := fresh_cell hb2 HK.out.2.2; have hz2 : w.heap.size + 1 < w2.heap.size := (Array.getElem?_eq_some_iff.1 HN2.out).1; clear hb2 HN0 HF0)
    | (go_at_call 19; with_reducible refine (HB.out _).mono ?_; rintro e w3 ⟨rfl, hb3⟩; have HN3 := hidd ((hb3.block (w.heap.size + 1) hz2).trans HN2.out); have HF3 := hidd (HF2.out.trans (hb3.mono HF2.out.size)); clear hb3)
    | (refine wpList_store_row rfl 23 _ _ rfl (w.heap.size + 1) #[.int .i64 x, .int .i64 m, .int .i64 0] rfl rfl 23 _ HN3.out (by kernel_rfl) rfl (all3 _ _ _) ?_))
  refine bodyPost_ret (ret_cell_tmp rfl _ _ (w.heap.size + 1) 23 _ (0, 0) _ _ rfl (setRow_heap _ _ _ _ _ _ HN3.out) Try.underlying23 rfl (by kernel_rfl) rfl) rfl ?_
  exact ⟨rfl, below_setRow HF3.out (by omega) _⟩
set_option maxRecDepth 20000 in
set_option maxHeartbeats 1600000 in
theorem next_more (w : World) {s m r n a x y : Int} (h : okG s m r) (h1 : 1 ≤ n) (h2 : n ≤ 32) (h3 : 0 ≤ a) (h4 : a ≤ n - 1) (_ : n ≠ 1) (ha : a ≠ 0) (hb : n - 1 ≤ 2 * a) (hx : x = nS s m r n a) (hy : y = nR s r n) :
    Calls Try.prog 14 #[.agg #[.int .i64 s, .int .i64 m, .int .i64 r], .int .i64 n, .int .i64 a] w fun e w' => e = .returned (.tuple #[.agg #[.int .i64 x, .int .i64 m, .int .i64 y], .int .i64 0]) ∧ Below w.heap.size w w' := by
  have HB : Hid (∀ w1, Calls Try.prog 19 #[.agg #[.int .i64 s, .int .i64 m, .int .i64 r], .int .i64 (s + a + 1)] w1 fun e w' => e = .returned (.agg #[.int .i64 x, .int .i64 m, .int .i64 0]) ∧ Below w1.heap.size w1 w') := fun w1 => by
    have := resized_any w1 s m r (s + a + 1)
    rwa [show bS (s + a + 1) m = x by rw [hx]; unfold okG at h; unfold bS bM nS; (repeat' split) <;> omega, show bM m = m by unfold okG at h; unfold bM; omega] at this
  obtain rfl : y = 0 := by rw [hy]; unfold nR; (repeat' split) <;> omega
  have q1 : IntKind.i64.wrap (s + a) = s + a := by unfold okG at h; rw [IntKind.wrap_i64]; omega
  have q2 : IntKind.i64.wrap (s + a + 1) = s + a + 1 := by unfold okG at h; rw [IntKind.wrap_i64]; omega
  have q3 : IntKind.i64.wrap (2 * a) = 2 * a := by rw [IntKind.wrap_i64]; omega
  have d5 : decide (n - 1 = 0) = false := decide_eq_false (by omega)
  have d6 : decide (n - 1 ≤ 2 * a) = true := decide_eq_true hb
  obtain ⟨k1, k2, k3, k4, k5, k6⟩ := h
  have HC : Hid (∀ w1, Calls Try.prog 9 #[.agg #[.int .i64 s, .int .i64 m, .int .i64 r]] w1 fun e w' => e = .returned (.int .i64 0) ∧ Below w1.heap.size w1 w') := fun w1 => check_ok w1 ⟨k1, k2, k3, k4, k5, k6⟩
  have HF0 : Hid (Below w.heap.size w ((w.alloc (.cells #[.int .i64 s, .int .i64 m, .int .i64 r] 23)).alloc (.cells #[.int .i64 0, .int .i64 0, .int .i64 0] 23))) := (fresh_alloc w _).alloc (by simp) _
  have HN0 : Hid (((w.alloc (.cells #[.int .i64 s, .int .i64 m, .int .i64 r] 23)).alloc (.cells #[.int .i64 0, .int .i64 0, .int .i64 0] 23)).heap[w.heap.size + 1]? = some (.cells #[.int .i64 0, .int .i64 0, .int .i64 0] 23 (0, 0))) := heap_alloc2_new _ _ _
  obtain ⟨c1, c2, c3⟩ := box3 w s m r 23
  have HK := hidd (And.intro (fresh_cell (fresh_alloc _ (.cells #[.int .i64 0, .int .i64 0, .int .i64 0] 23)) c1) (And.intro (fresh_cell (fresh_alloc _ (.cells #[.int .i64 0, .int .i64 0, .int .i64 0] 23)) c2) (fresh_cell (fresh_alloc _ (.cells #[.int .i64 0, .int .i64 0, .int .i64 0] 23)) c3)))
  clear c1 c2 c3
  have d1 : decide (n < 1) = false := decide_eq_false (by omega)
  have d2 : decide (32 < n) = false := decide_eq_false (by omega)
  have q0 := wr1 h1 h2
  have d3 : decide (a < 0) = false := decide_eq_false (by omega)
  have d4 : decide (n - 1 < a) = false := decide_eq_false (by omega)
  have HX := hidd hx
  have HY := hidd hy
  clear hx hy
  go_enter Try.func14, Try.ntmps14
  go_wp2_with (first
    | (go_at_call 9; with_reducible refine (HC.out _).mono ?_; rintro e w2 ⟨rfl, hb2⟩; have HN2 := hidd ((hb2.block (w.heap.size + 1) (by simp)).trans HN0.out); have HF2 := hidd (HF0.out.trans (hb2.mono HF0.out.size)); have l1 := fresh_cell hb2 HK.out.1; have l2 := fresh_cell hb2 HK.out.2.1; have l3 := fresh_cell hb2 HK.out.2.2; have hz2 : w.heap.size + 1 < w2.heap.size := (Array.getElem?_eq_some_iff.1 HN2.out).1; clear hb2 HN0 HF0)
    | (go_at_call 19; with_reducible refine (HB.out _).mono ?_; rintro e w3 ⟨rfl, hb3⟩; have HN3 := hidd ((hb3.block (w.heap.size + 1) hz2).trans HN2.out); have HF3 := hidd (HF2.out.trans (hb3.mono HF2.out.size)); clear hb3)
    | (refine wpList_store_row rfl 23 _ _ rfl (w.heap.size + 1) #[.int .i64 x, .int .i64 m, .int .i64 0] rfl rfl 23 _ HN3.out (by kernel_rfl) rfl (all3 _ _ _) ?_))
  refine bodyPost_ret (ret_cell_tmp rfl _ _ (w.heap.size + 1) 23 _ (0, 0) _ _ rfl (setRow_heap _ _ _ _ _ _ HN3.out) Try.underlying23 rfl (by kernel_rfl) rfl) rfl ?_
  exact ⟨rfl, below_setRow HF3.out (by omega) _⟩
set_option maxRecDepth 20000 in
set_option maxHeartbeats 1600000 in
theorem next_same (w : World) {s m r n a x y : Int} (h : okG s m r) (h1 : 1 ≤ n) (h2 : n ≤ 32) (h3 : 0 ≤ a) (h4 : a ≤ n - 1) (_ : n ≠ 1) (ha : a ≠ 0) (hb : ¬ n - 1 ≤ 2 * a) (hx : x = nS s m r n a) (hy : y = nR s r n) :
    Calls Try.prog 14 #[.agg #[.int .i64 s, .int .i64 m, .int .i64 r], .int .i64 n, .int .i64 a] w fun e w' => e = .returned (.tuple #[.agg #[.int .i64 x, .int .i64 m, .int .i64 y], .int .i64 0]) ∧ Below w.heap.size w w' := by
  have HB : Hid (∀ w1, Calls Try.prog 19 #[.agg #[.int .i64 s, .int .i64 m, .int .i64 r], .int .i64 (s)] w1 fun e w' => e = .returned (.agg #[.int .i64 x, .int .i64 m, .int .i64 0]) ∧ Below w1.heap.size w1 w') := fun w1 => by
    have := resized_any w1 s m r (s)
    rwa [show bS (s) m = x by rw [hx]; unfold okG at h; unfold bS bM nS; (repeat' split) <;> omega, show bM m = m by unfold okG at h; unfold bM; omega] at this
  obtain rfl : y = 0 := by rw [hy]; unfold nR; (repeat' split) <;> omega
  have q3 : IntKind.i64.wrap (2 * a) = 2 * a := by rw [IntKind.wrap_i64]; omega
  have d5 : decide (n - 1 = 0) = false := decide_eq_false (by omega)
  have d6 : decide (n - 1 ≤ 2 * a) = false := decide_eq_false hb
  obtain ⟨k1, k2, k3, k4, k5, k6⟩ := h
  have HC : Hid (∀ w1, Calls Try.prog 9 #[.agg #[.int .i64 s, .int .i64 m, .int .i64 r]] w1 fun e w' => e = .returned (.int .i64 0) ∧ Below w1.heap.size w1 w') := fun w1 => check_ok w1 ⟨k1, k2, k3, k4, k5, k6⟩
  have HF0 : Hid (Below w.heap.size w ((w.alloc (.cells #[.int .i64 s, .int .i64 m, .int .i64 r] 23)).alloc (.cells #[.int .i64 0, .int .i64 0, .int .i64 0] 23))) := (fresh_alloc w _).alloc (by simp) _
  have HN0 : Hid (((w.alloc (.cells #[.int .i64 s, .int .i64 m, .int .i64 r] 23)).alloc (.cells #[.int .i64 0, .int .i64 0, .int .i64 0] 23)).heap[w.heap.size + 1]? = some (.cells #[.int .i64 0, .int .i64 0, .int .i64 0] 23 (0, 0))) := heap_alloc2_new _ _ _
  obtain ⟨c1, c2, c3⟩ := box3 w s m r 23
  have HK := hidd (And.intro (fresh_cell (fresh_alloc _ (.cells #[.int .i64 0, .int .i64 0, .int .i64 0] 23)) c1) (And.intro (fresh_cell (fresh_alloc _ (.cells #[.int .i64 0, .int .i64 0, .int .i64 0] 23)) c2) (fresh_cell (fresh_alloc _ (.cells #[.int .i64 0, .int .i64 0, .int .i64 0] 23)) c3)))
  clear c1 c2 c3
  have d1 : decide (n < 1) = false := decide_eq_false (by omega)
  have d2 : decide (32 < n) = false := decide_eq_false (by omega)
  have q0 := wr1 h1 h2
  have d3 : decide (a < 0) = false := decide_eq_false (by omega)
  have d4 : decide (n - 1 < a) = false := decide_eq_false (by omega)
  have HX := hidd hx
  have HY := hidd hy
  clear hx hy
  go_enter Try.func14, Try.ntmps14
  go_wp2_with (first
    | (go_at_call 9; with_reducible refine (HC.out _).mono ?_; rintro e w2 ⟨rfl, hb2⟩; have HN2 := hidd ((hb2.block (w.heap.size + 1) (by simp)).trans HN0.out); have HF2 := hidd (HF0.out.trans (hb2.mono HF0.out.size)); have l1 := fresh_cell hb2 HK.out.1; have l2 := fresh_cell hb2 HK.out.2.1; have l3 := fresh_cell hb2 HK.out.2.2; have hz2 : w.heap.size + 1 < w2.heap.size := (Array.getElem?_eq_some_iff.1 HN2.out).1; clear hb2 HN0 HF0)
    | (go_at_call 19; with_reducible refine (HB.out _).mono ?_; rintro e w3 ⟨rfl, hb3⟩; have HN3 := hidd ((hb3.block (w.heap.size + 1) hz2).trans HN2.out); have HF3 := hidd (HF2.out.trans (hb3.mono HF2.out.size)); clear hb3)
    | (refine wpList_store_row rfl 23 _ _ rfl (w.heap.size + 1) #[.int .i64 x, .int .i64 m, .int .i64 0] rfl rfl 23 _ HN3.out (by kernel_rfl) rfl (all3 _ _ _) ?_))
  refine bodyPost_ret (ret_cell_tmp rfl _ _ (w.heap.size + 1) 23 _ (0, 0) _ _ rfl (setRow_heap _ _ _ _ _ _ HN3.out) Try.underlying23 rfl (by kernel_rfl) rfl) rfl ?_
  exact ⟨rfl, below_setRow HF3.out (by omega) _⟩
theorem next_ok (w : World) {s m r n a : Int} (h : okG s m r) (h1 : 1 ≤ n) (h2 : n ≤ 32) (h3 : 0 ≤ a) (h4 : a ≤ n - 1) :
    Calls Try.prog 14 #[.agg #[.int .i64 s, .int .i64 m, .int .i64 r], .int .i64 n, .int .i64 a] w fun e w' => e = .returned (.tuple #[.agg #[.int .i64 (nS s m r n a), .int .i64 m, .int .i64 (nR s r n)], .int .i64 0]) ∧ Below w.heap.size w w' := by
  by_cases hn : n = 1
  · exact next_one w h h1 h2 h3 h4 hn rfl rfl
  · by_cases ha : a = 0
    · exact next_none w h h1 h2 h3 h4 hn ha rfl rfl
    · by_cases hb : n - 1 ≤ 2 * a
      · exact next_more w h h1 h2 h3 h4 hn ha hb rfl rfl
      · exact next_same w h h1 h2 h3 h4 hn ha hb rfl rfl
set_option maxRecDepth 20000 in
set_option maxHeartbeats 1600000 in
theorem next_bad (w : World) {s m r n a : Int} (hh : ¬ (okG s m r ∧ 1 ≤ n ∧ n ≤ 32 ∧ 0 ≤ a ∧ a ≤ n - 1)) (ha : -9223372036854775808 ≤ a) (hb : a ≤ 9223372036854775807) :
    Calls Try.prog 14 #[.agg #[.int .i64 s, .int .i64 m, .int .i64 r], .int .i64 n, .int .i64 a] w fun e w' => e = .returned (.tuple #[.agg #[.int .i64 0, .int .i64 0, .int .i64 0], .int .i64 1]) ∧ Below w.heap.size w w' := by
  have HF0 : Hid (Below w.heap.size w ((w.alloc (.cells #[.int .i64 s, .int .i64 m, .int .i64 r] 23)).alloc (.cells #[.int .i64 0, .int .i64 0, .int .i64 0] 23))) := (fresh_alloc w _).alloc (by simp) _
  have HN0 : Hid (((w.alloc (.cells #[.int .i64 s, .int .i64 m, .int .i64 r] 23)).alloc (.cells #[.int .i64 0, .int .i64 0, .int .i64 0] 23)).heap[w.heap.size + 1]? = some (.cells #[.int .i64 0, .int .i64 0, .int .i64 0] 23 (0, 0))) := heap_alloc2_new _ _ _
  by_cases h : okG s m r
  · have HC : Hid (∀ w1, Calls Try.prog 9 #[.agg #[.int .i64 s, .int .i64 m, .int .i64 r]] w1 fun e w' => e = .returned (.int .i64 0) ∧ Below w1.heap.size w1 w') := fun w1 => check_ok w1 h
    have hh2 : n < 1 ∨ (1 ≤ n ∧ 32 < n) ∨ (1 ≤ n ∧ n ≤ 32 ∧ a < 0) ∨ (1 ≤ n ∧ n ≤ 32 ∧ 0 ≤ a ∧ n - 1 < a) := by
      rcases Int.lt_or_le n 1 with g1 | g1
      · exact .inl g1
      · rcases Int.lt_or_le 32 n with g2 | g2
        · exact .inr (.inl ⟨g1, g2⟩)
        · rcases Int.lt_or_le a 0 with g3 | g3
          · exact .inr (.inr (.inl ⟨g1, g2, g3⟩))
          · rcases Int.lt_or_le (n - 1) a with g4 | g4
            · exact .inr (.inr (.inr ⟨g1, g2, g3, g4⟩))
            · exact absurd ⟨h, g1, g2, g3, g4⟩ hh
    clear hh h
    rcases hh2 with g1 | ⟨g1, g2⟩ | ⟨g1, g2, g3⟩ | ⟨g1, g2, g3, g4⟩
    · have d1 : decide (n < 1) = true := decide_eq_true g1
      go_enter Try.func14, Try.ntmps14
      go_wp2_with (first
        | (go_at_call 9; with_reducible refine (HC.out _).mono ?_; rintro e w2 ⟨rfl, hb2⟩; have HN2 := hidd ((hb2.block (w.heap.size + 1) (by simp)).trans HN0.out); have HF2 := hidd (HF0.out.trans (hb2.mono HF0.out.size)); clear hb2 HN0 HF0)
        | (refine wpList_store_row rfl 23 _ _ rfl (w.heap.size + 1) #[.int .i64 0, .int .i64 0, .int .i64 0] rfl rfl 23 _ HN2.out (by kernel_rfl) rfl (all3 _ _ _) ?_))
      refine bodyPost_ret (ret_cell_tmp rfl _ _ (w.heap.size + 1) 23 _ (0, 0) _ _ rfl (setRow_heap _ _ _ _ _ _ HN2.out) Try.underlying23 rfl (by kernel_rfl) rfl) rfl ?_
      exact ⟨rfl, below_setRow HF2.out (by omega) _⟩
    · have d1 : decide (n < 1) = false := decide_eq_false (by omega)
      have d2 : decide (32 < n) = true := decide_eq_true g2
      go_enter Try.func14, Try.ntmps14
      go_wp2_with (first
        | (go_at_call 9; with_reducible refine (HC.out _).mono ?_; rintro e w2 ⟨rfl, hb2⟩; have HN2 := hidd ((hb2.block (w.heap.size + 1) (by simp)).trans HN0.out); have HF2 := hidd (HF0.out.trans (hb2.mono HF0.out.size)); clear hb2 HN0 HF0)
        | (refine wpList_store_row rfl 23 _ _ rfl (w.heap.size + 1) #[.int .i64 0, .int .i64 0, .int .i64 0] rfl rfl 23 _ HN2.out (by kernel_rfl) rfl (all3 _ _ _) ?_))
      refine bodyPost_ret (ret_cell_tmp rfl _ _ (w.heap.size + 1) 23 _ (0, 0) _ _ rfl (setRow_heap _ _ _ _ _ _ HN2.out) Try.underlying23 rfl (by kernel_rfl) rfl) rfl ?_
      exact ⟨rfl, below_setRow HF2.out (by omega) _⟩
    · have d1 : decide (n < 1) = false := decide_eq_false (by omega)
      have d2 : decide (32 < n) = false := decide_eq_false (by omega)
      have d3 : decide (a < 0) = true := decide_eq_true g3
      go_enter Try.func14, Try.ntmps14
      go_wp2_with (first
        | (go_at_call 9; with_reducible refine (HC.out _).mono ?_; rintro e w2 ⟨rfl, hb2⟩; have HN2 := hidd ((hb2.block (w.heap.size + 1) (by simp)).trans HN0.out); have HF2 := hidd (HF0.out.trans (hb2.mono HF0.out.size)); clear hb2 HN0 HF0)
        | (refine wpList_store_row rfl 23 _ _ rfl (w.heap.size + 1) #[.int .i64 0, .int .i64 0, .int .i64 0] rfl rfl 23 _ HN2.out (by kernel_rfl) rfl (all3 _ _ _) ?_))
      refine bodyPost_ret (ret_cell_tmp rfl _ _ (w.heap.size + 1) 23 _ (0, 0) _ _ rfl (setRow_heap _ _ _ _ _ _ HN2.out) Try.underlying23 rfl (by kernel_rfl) rfl) rfl ?_
      exact ⟨rfl, below_setRow HF2.out (by omega) _⟩
    · have d1 : decide (n < 1) = false := decide_eq_false (by omega)
      have d2 : decide (32 < n) = false := decide_eq_false (by omega)
      have d3 : decide (a < 0) = false := decide_eq_false (by omega)
      have d4 : decide (n - 1 < a) = true := decide_eq_true g4
      have q0 := wr1 g1 g2
      go_enter Try.func14, Try.ntmps14
      go_wp2_with (first
        | (go_at_call 9; with_reducible refine (HC.out _).mono ?_; rintro e w2 ⟨rfl, hb2⟩; have HN2 := hidd ((hb2.block (w.heap.size + 1) (by simp)).trans HN0.out); have HF2 := hidd (HF0.out.trans (hb2.mono HF0.out.size)); clear hb2 HN0 HF0)
        | (refine wpList_store_row rfl 23 _ _ rfl (w.heap.size + 1) #[.int .i64 0, .int .i64 0, .int .i64 0] rfl rfl 23 _ HN2.out (by kernel_rfl) rfl (all3 _ _ _) ?_))
      refine bodyPost_ret (ret_cell_tmp rfl _ _ (w.heap.size + 1) 23 _ (0, 0) _ _ rfl (setRow_heap _ _ _ _ _ _ HN2.out) Try.underlying23 rfl (by kernel_rfl) rfl) rfl ?_
      exact ⟨rfl, below_setRow HF2.out (by omega) _⟩
  · have HC : Hid (∀ w1, Calls Try.prog 9 #[.agg #[.int .i64 s, .int .i64 m, .int .i64 r]] w1 fun e w' => e = .returned (.int .i64 1) ∧ Below w1.heap.size w1 w') := fun w1 => check_bad w1 h
    clear hh h
    go_enter Try.func14, Try.ntmps14
    go_wp2_with (first
      | (go_at_call 9; with_reducible refine (HC.out _).mono ?_; rintro e w2 ⟨rfl, hb2⟩; have HN2 := hidd ((hb2.block (w.heap.size + 1) (by simp)).trans HN0.out); have HF2 := hidd (HF0.out.trans (hb2.mono HF0.out.size)); clear hb2 HN0 HF0)
      | (refine wpList_store_row rfl 23 _ _ rfl (w.heap.size + 1) #[.int .i64 0, .int .i64 0, .int .i64 0] rfl rfl 23 _ HN2.out (by kernel_rfl) rfl (all3 _ _ _) ?_))
    refine bodyPost_ret (ret_cell_tmp rfl _ _ (w.heap.size + 1) 23 _ (0, 0) _ _ rfl (setRow_heap _ _ _ _ _ _ HN2.out) Try.underlying23 rfl (by kernel_rfl) rfl) rfl ?_
    exact ⟨rfl, below_setRow HF2.out (by omega) _⟩
end Go.Proofs.Ytokedgilehcdlaa
