import Derived.Test.YtokedgilehcdlaaGgE
namespace Go.Proofs.Ytokedgilehcdlaa
open Go.RowKit
/-! The reference's Next. -/
set_option maxRecDepth 20000 in
set_option maxHeartbeats 1600000 in
theorem rcheck_box (w : World) (s m r x : Int) (h1 : okG s m r → x = 0) (h2 : ¬ okG s m r → x = 1) :
    Calls Try.prog 10 #[.agg #[.int .i64 s, .int .i64 m, .int .i64 r]] w fun e w' => e = .returned (.int .i64 x) ∧ w' = w.alloc (.cells #[.int .i64 s, .int .i64 m, .int .i64 r] 23) := by
  have H1 := hidd h1
  have H2 := hidd h2
  clear h1 h2
  go_enter Try.func10, Try.ntmps10
  go_wp2
  all_goals
    go_ret
    refine ⟨ret_int ?_, rfl⟩
    first
      | exact (H1.out (by unfold okG; omega)).symm
      | exact (H2.out (by unfold okG; omega)).symm
theorem heap_mid3 (w : World) (A B C : Obj) : (((w.alloc A).alloc B).alloc C).heap[w.heap.size + 1]? = some B := by
  rw [(fresh_alloc ((w.alloc A).alloc B) C).block (w.heap.size + 1) (by simp)]
  exact heap_alloc2_new w A B
theorem nSR_eq {s m r n a x z : Int} (h : okG s m r) (hx : x = nS s m r n a) (hz : z = nR s r n) (x' z' : Int)
    (k1 : n = 1 → 1 < s → x' = s ∧ z' = r) (k2 : n = 1 → s ≤ 1 → r < 3 → x' = s ∧ z' = r + 1) (k3 : n = 1 → s ≤ 1 → 3 ≤ r → x' = min 2 m ∧ z' = 0)
    (k4 : n ≠ 1 → a = 0 → x' = max (s / 2) 1 ∧ z' = 0) (k5 : n ≠ 1 → a ≠ 0 → n - 1 ≤ 2 * a → x' = min (s + a + 1) m ∧ z' = 0) (k6 : n ≠ 1 → a ≠ 0 → 2 * a < n - 1 → x' = s ∧ z' = 0) : x' = x ∧ z' = z := by
  unfold okG at h
  unfold nS at hx
  unfold nR at hz
  by_cases hn : n = 1
  · rw [if_pos hn] at hx hz
    by_cases a1 : 1 < s
    · rw [if_pos a1] at hx hz
      have := k1 hn a1
      omega
    · rw [if_neg a1] at hx hz
      by_cases a2 : r < 3
      · rw [if_pos a2] at hx hz
        have := k2 hn (by omega) a2
        omega
      · rw [if_neg a2] at hx hz
        have := k3 hn (by omega) (by omega)
        omega
  · rw [if_neg hn] at hx hz
    by_cases a1 : a = 0
    · rw [if_pos a1] at hx
      have := k4 hn a1
      omega
    · rw [if_neg a1] at hx
      by_cases a2 : n - 1 ≤ 2 * a
      · rw [if_pos a2] at hx
        have := k5 hn a1 a2
        omega
      · rw [if_neg a2] at hx
        have := k6 hn a1 (by omega)
        omega
set_option maxRecDepth 20000 in
set_option maxHeartbeats 3200000 in
theorem rnext_ok (w : World) {s m r n a x z : Int} (h : okG s m r) (h1 : 1 ≤ n) (h2 : n ≤ 32) (h3 : 0 ≤ a) (h4 : a ≤ n - 1) (hx : x = nS s m r n a) (hz : z = nR s r n) :
    Calls Try.prog 15 #[.agg #[.int .i64 s, .int .i64 m, .int .i64 r], .int .i64 n, .int .i64 a] w fun e w' => e = .returned (.tuple #[.agg #[.int .i64 x, .int .i64 m, .int .i64 z], .int .i64 0]) ∧ Below w.heap.size w w' := by
  have HC : Hid (∀ w1, Calls Try.prog 10 #[.agg #[.int .i64 s, .int .i64 m, .int .i64 r]] w1 fun e w' => e = .returned (.int .i64 0) ∧ w' = w1.alloc (.cells #[.int .i64 s, .int .i64 m, .int .i64 r] 23)) := fun w1 => rcheck_box w1 s m r 0 (fun _ => rfl) (fun q => absurd h q)
  have HE := hidd (nSR_eq h hx hz)
  clear hx hz
  obtain ⟨k1, k2, k3, k4, k5, k6⟩ := h
  have q0 := wr1 h1 h2
  have q1 : IntKind.i64.wrap (Int.tdiv s 2) = s / 2 := by rw [Int.tdiv_eq_ediv_of_nonneg (by omega), IntKind.wrap_i64]; omega
  have q2 : IntKind.i64.wrap (s / 2) = s / 2 := by rw [IntKind.wrap_i64]; omega
  have q3 : Int.tdiv s 2 = s / 2 := Int.tdiv_eq_ediv_of_nonneg (by omega)
  have q4 : IntKind.i64.wrap (s + a) = s + a := by rw [IntKind.wrap_i64]; omega
  have q5 : IntKind.i64.wrap (s + a + 1) = s + a + 1 := by rw [IntKind.wrap_i64]; omega
  have q6 : IntKind.i64.wrap (2 * a) = 2 * a := by rw [IntKind.wrap_i64]; omega
  have q7 : IntKind.i64.wrap (r + 1) = r + 1 := by rw [IntKind.wrap_i64]; omega
  have d1 : decide (n < 1) = false := decide_eq_false (by omega)
  have d2 : decide (32 < n) = false := decide_eq_false (by omega)
  have d3 : decide (a < 0) = false := decide_eq_false (by omega)
  have d4 : decide (n - 1 < a) = false := decide_eq_false (by omega)
  go_enter Try.func15, Try.ntmps15
  go_wp2_with (go_at_call 10; with_reducible refine (HC.out _).mono ?_; rintro e w2 ⟨rfl, rfl⟩)
  all_goals
    refine bodyPost_ret (ret_cell_tmp rfl _ _ (w.heap.size + 1) 23 _ (0, 0) _ _ rfl (heap_mid3 _ _ _ _) Try.underlying23 rfl (by kernel_rfl) rfl) rfl ?_
    refine ⟨?_, ((fresh_alloc w _).alloc (by simp) _).alloc (by simp; omega) _⟩
    refine (fun q => tup3 (And.left q) rfl (And.right q) rfl) (HE.out _ _ ?_ ?_ ?_ ?_ ?_ ?_)
  all_goals (intros; first | omega | (simp only [beq_iff_eq] at *; omega) | (simp only [beq_eq_false_iff_ne] at *; omega) | (simp only [beq_iff_eq, beq_eq_false_iff_ne] at *; omega))
set_option maxRecDepth 20000 in
set_option maxHeartbeats 1600000 in
theorem rnext_bad (w : World) {s m r n a : Int} (hh : ¬ (okG s m r ∧ 1 ≤ n ∧ n ≤ 32 ∧ 0 ≤ a ∧ a ≤ n - 1)) :
    Calls Try.prog 15 #[.agg #[.int .i64 s, .int .i64 m, .int .i64 r], .int .i64 n, .int .i64 a] w fun e w' => e = .returned (.tuple #[.agg #[.int .i64 0, .int .i64 0, .int .i64 0], .int .i64 1]) ∧ Below w.heap.size w w' := by
  by_cases h : okG s m r
  · have HC : Hid (∀ w1, Calls Try.prog 10 #[.agg #[.int .i64 s, .int .i64 m, .int .i64 r]] w1 fun e w' => e = .returned (.int .i64 0) ∧ w' = w1.alloc (.cells #[.int .i64 s, .int .i64 m, .int .i64 r] 23)) := fun w1 => rcheck_box w1 s m r 0 (fun _ => rfl) (fun q => absurd h q)
    have hh2 : n < 1 ∨ (1 ≤ n ∧ 32 < n) ∨ (1 ≤ n ∧ n ≤ 32 ∧ a < 0) ∨ (1 ≤ n ∧ n ≤ 32 ∧ 0 ≤ a ∧ n - 1 < a) := by
      rcases Int.lt_or_le n 1 with g1 | g1
      · exact .inl g1
      · rcases Int.lt_or_le 32 n with g2 | g2
        · exact .inr (.inl ⟨g1, g2⟩)
        · rcases Int.lt_or_le a 0 with g3 | g3
          · exact .inr (.inr (.inl ⟨g1, g2, g3⟩))
          · rcases Int.lt_or_le (n - 1) a with g4 | g4
            · exact .inr (.inr (.inr ⟨g1, g2, g3, g4⟩))
            · exact absurd ⟨h, g1, g2, g3, g4⟩ hh
    clear hh h
    rcases hh2 with g1 | ⟨g1, g2⟩ | ⟨g1, g2, g3⟩ | ⟨g1, g2, g3, g4⟩
    · have d1 : decide (n < 1) = true := decide_eq_true g1
      go_enter Try.func15, Try.ntmps15
      go_wp2_with (go_at_call 10; with_reducible refine (HC.out _).mono ?_; rintro e w2 ⟨rfl, rfl⟩)
      refine bodyPost_ret (ret_cell_tmp rfl _ _ (w.heap.size + 1) 23 _ (0, 0) _ _ rfl (heap_mid3 _ _ _ _) Try.underlying23 rfl (by kernel_rfl) rfl) rfl ?_
      exact ⟨rfl, ((fresh_alloc w _).alloc (by simp) _).alloc (by simp; omega) _⟩
    · have d1 : decide (n < 1) = false := decide_eq_false (by omega)
      have d2 : decide (32 < n) = true := decide_eq_true g2
      go_enter Try.func15, Try.ntmps15
      go_wp2_with (go_at_call 10; with_reducible refine (HC.out _).mono ?_; rintro e w2 ⟨rfl, rfl⟩)
      refine bodyPost_ret (ret_cell_tmp rfl _ _ (w.heap.size + 1) 23 _ (0, 0) _ _ rfl (heap_mid3 _ _ _ _) Try.underlying23 rfl (by kernel_rfl) rfl) rfl ?_
      exact ⟨rfl, ((fresh_alloc w _).alloc (by simp) _).alloc (by simp; omega) _⟩
    · have d1 : decide (n < 1) = false := decide_eq_false (by omega)
      have d2 : decide (32 < n) = false := decide_eq_false (by omega)
      have d3 : decide (a < 0) = true := decide_eq_true g3
      go_enter Try.func15, Try.ntmps15
      go_wp2_with (go_at_call 10; with_reducible refine (HC.out _).mono ?_; rintro e w2 ⟨rfl, rfl⟩)
      refine bodyPost_ret (ret_cell_tmp rfl _ _ (w.heap.size + 1) 23 _ (0, 0) _ _ rfl (heap_mid3 _ _ _ _) Try.underlying23 rfl (by kernel_rfl) rfl) rfl ?_
      exact ⟨rfl, ((fresh_alloc w _).alloc (by simp) _).alloc (by simp; omega) _⟩
    · have d1 : decide (n < 1) = false := decide_eq_false (by omega)
      have d2 : decide (32 < n) = false := decide_eq_false (by omega)
      have d3 : decide (a < 0) = false := decide_eq_false (by omega)
      have d4 : decide (n - 1 < a) = true := decide_eq_true g4
      have q0 := wr1 g1 g2
      go_enter Try.func15, Try.ntmps15
      go_wp2_with (go_at_call 10; with_reducible refine (HC.out _).mono ?_; rintro e w2 ⟨rfl, rfl⟩)
      refine bodyPost_ret (ret_cell_tmp rfl _ _ (w.heap.size + 1) 23 _ (0, 0) _ _ rfl (heap_mid3 _ _ _ _) Try.underlying23 rfl (by kernel_rfl) rfl) rfl ?_
      exact ⟨rfl, ((fresh_alloc w _).alloc (by simp) _).alloc (by simp; omega) _⟩
  · have HC : Hid (∀ w1, Calls Try.prog 10 #[.agg #[.int .i64 s, .int .i64 m, .int .i64 r]] w1 fun e w' => e = .returned (.int .i64 1) ∧ w' = w1.alloc (.cells #[.int .i64 s, .int .i64 m, .int .i64 r] 23)) := fun w1 => rcheck_box w1 s m r 1 (fun q => absurd q h) (fun _ => rfl)
    clear hh h
    go_enter Try.func15, Try.ntmps15
    go_wp2_with (go_at_call 10; with_reducible refine (HC.out _).mono ?_; rintro e w2 ⟨rfl, rfl⟩)
    refine bodyPost_ret (ret_cell_tmp rfl _ _ (w.heap.size + 1) 23 _ (0, 0) _ _ rfl (heap_mid3 _ _ _ _) Try.underlying23 rfl (by kernel_rfl) rfl) rfl ?_
    exact ⟨rfl, ((fresh_alloc w _).alloc (by simp) _).alloc (by simp; omega) _⟩
end Go.Proofs.Ytokedgilehcdlaa
