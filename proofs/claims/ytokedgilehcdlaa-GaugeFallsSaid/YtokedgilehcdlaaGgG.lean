import Derived.Test.YtokedgilehcdlaaGgF
namespace Go.Proofs.Ytokedgilehcdlaa
open Go.RowKit
/-! The laws GaugeChecks, GaugeNews, GaugeNexts. -/
set_option maxRecDepth 20000 in
set_option maxHeartbeats 1600000 in
theorem checks_law (w : World) (s m r : Int) :
    Calls Try.prog 3 #[.agg #[.int .i64 s, .int .i64 m, .int .i64 r]] w fun e w' => e = .returned (.bool true) ∧ Below w.heap.size w w' := by
  obtain ⟨x, h1, h2⟩ : ∃ x : Int, (okG s m r → x = 0) ∧ (¬ okG s m r → x = 1) := by
    by_cases h : okG s m r
    · exact ⟨0, fun _ => rfl, fun q => absurd h q⟩
    · exact ⟨1, fun q => absurd q h, fun _ => rfl⟩
  have HA : Hid (∀ w1, Calls Try.prog 9 #[.agg #[.int .i64 s, .int .i64 m, .int .i64 r]] w1 fun e w' => e = .returned (.int .i64 x) ∧ Below w1.heap.size w1 w') := fun w1 => by
    by_cases h : okG s m r
    · rw [h1 h]; exact check_ok w1 h
    · rw [h2 h]; exact check_bad w1 h
  have HB : Hid (∀ w1, Calls Try.prog 10 #[.agg #[.int .i64 s, .int .i64 m, .int .i64 r]] w1 fun e w' => e = .returned (.int .i64 x) ∧ Below w1.heap.size w1 w') := fun w1 => rcheck_any w1 s m r x h1 h2
  clear h1 h2
  obtain ⟨c1, c2, c3⟩ := box3 w s m r 23
  obtain ⟨w0, HW0⟩ : ∃ w0, Hid (w0 = w.alloc (.cells #[.int .i64 s, .int .i64 m, .int .i64 r] 23)) := ⟨_, rfl⟩
  have HB0 : Hid (Below w.heap.size w w0) := by rw [HW0.out]; exact fresh_alloc _ _
  rw [← HW0.out] at c1 c2 c3
  have l1 := later_cell c1
  have l2 := later_cell c2
  have l3 := later_cell c3
  have ne := later_some w0
  clear c1 c2 c3
  go_enter Try.func3, Try.ntmps3
  go_wp2
  rw [← HW0.out]
  refine wp_region_later (by kernel_rfl) (by kernel_rfl) ?_
  repeat (go_big_quiet_step (fail))
  go_big_quiet_step (exact later_of (HA.out _))
  repeat (go_big_quiet_step (fail))
  go_big_quiet_step (exact later_of (HB.out _))
  repeat (go_big_quiet_step (fail))
  refine wpQuiet_nil ?_
  rintro _ ⟨z, rfl⟩
  have HZ := hidd (HB0.out.trans (z.fresh.mono HB0.out.size))
  go_wp2
  go_ret
  exact ⟨rfl, HZ.out⟩
set_option maxRecDepth 20000 in
set_option maxHeartbeats 1600000 in
theorem news_law (w : World) (n : Int) :
    Calls Try.prog 4 #[.int .i64 n] w fun e w' => e = .returned (.bool true) ∧ Below w.heap.size w w' := by
  obtain ⟨x, y, e0, hh⟩ : ∃ x y e0 : Int, (1 ≤ n ∧ n ≤ 32 ∧ x = min 4 n ∧ y = n ∧ e0 = 0) ∨ (¬ (1 ≤ n ∧ n ≤ 32) ∧ x = 0 ∧ y = 0 ∧ e0 = 1) := by
    by_cases h : 1 ≤ n ∧ n ≤ 32
    · exact ⟨_, _, _, .inl ⟨h.1, h.2, rfl, rfl, rfl⟩⟩
    · exact ⟨_, _, _, .inr ⟨h, rfl, rfl, rfl⟩⟩
  have HA : Hid (∀ w1, Calls Try.prog 11 #[.int .i64 n] w1 fun e w' => e = .returned (.tuple #[.agg #[.int .i64 x, .int .i64 y, .int .i64 0], .int .i64 e0]) ∧ Below w1.heap.size w1 w') := fun w1 => by
    rcases hh with ⟨h1, h2, h3, rfl, rfl⟩ | ⟨h1, rfl, rfl, rfl⟩
    · exact new_ok w1 h1 h2 h3
    · exact new_bad w1 h1
  have HB : Hid (∀ w1, Calls Try.prog 12 #[.int .i64 n] w1 fun e w' => e = .returned (.tuple #[.agg #[.int .i64 x, .int .i64 y, .int .i64 0], .int .i64 e0]) ∧ Below w1.heap.size w1 w') := fun w1 => rnew_any w1 hh
  clear hh
  go_enter Try.func4, Try.ntmps4
  go_wp2_with (first
    | (go_at_call 11; with_reducible refine (HA.out _).mono ?_; rintro e w2 ⟨rfl, hb2⟩; have HF2 := hidd (hb2.trans ((fresh_alloc w2 (.cells #[.int .i64 x, .int .i64 y, .int .i64 0] 23)).mono hb2.size)); obtain ⟨c1, c2, c3⟩ := box3 w2 x y 0 23)
    | (go_at_call 12; with_reducible refine (HB.out _).mono ?_; rintro e w3 ⟨rfl, hb3⟩; have HF3 := hidd (HF2.out.trans (hb3.mono HF2.out.size)); have k1 := fresh_cell hb3 c1; have k2 := fresh_cell hb3 c2; have k3 := fresh_cell hb3 c3; clear c1 c2 c3; have hlt : w2.heap.size < w3.heap.size := lt_of_cell k1; have g1 := (fresh_cell (fresh_alloc w3 (.cells #[.int .i64 x, .int .i64 y, .int .i64 0] 23)) k1); have g2 := (fresh_cell (fresh_alloc w3 (.cells #[.int .i64 x, .int .i64 y, .int .i64 0] 23)) k2); have g3 := (fresh_cell (fresh_alloc w3 (.cells #[.int .i64 x, .int .i64 y, .int .i64 0] 23)) k3); clear hb3))
  go_ret
  exact ⟨rfl, HF3.out.alloc HF3.out.size _⟩
set_option maxRecDepth 20000 in
set_option maxHeartbeats 1600000 in
theorem nexts_law (w : World) (s m r n a : Int) (ha : -9223372036854775808 ≤ a) (hb : a ≤ 9223372036854775807) :
    Calls Try.prog 7 #[.agg #[.int .i64 s, .int .i64 m, .int .i64 r], .int .i64 n, .int .i64 a] w fun e w' => e = .returned (.bool true) ∧ Below w.heap.size w w' := by
  obtain ⟨x, y, z, e0, HA, HB⟩ : ∃ x y z e0 : Int, Hid (∀ w1, Calls Try.prog 14 #[.agg #[.int .i64 s, .int .i64 m, .int .i64 r], .int .i64 n, .int .i64 a] w1 fun e w' => e = .returned (.tuple #[.agg #[.int .i64 x, .int .i64 y, .int .i64 z], .int .i64 e0]) ∧ Below w1.heap.size w1 w') ∧ Hid (∀ w1, Calls Try.prog 15 #[.agg #[.int .i64 s, .int .i64 m, .int .i64 r], .int .i64 n, .int .i64 a] w1 fun e w' => e = .returned (.tuple #[.agg #[.int .i64 x, .int .i64 y, .int .i64 z], .int .i64 e0]) ∧ Below w1.heap.size w1 w') := by
    by_cases h : okG s m r ∧ 1 ≤ n ∧ n ≤ 32 ∧ 0 ≤ a ∧ a ≤ n - 1
    · obtain ⟨h0, h1, h2, h3, h4⟩ := h
      exact ⟨_, _, _, _, fun w1 => next_ok w1 h0 h1 h2 h3 h4, fun w1 => rnext_ok w1 h0 h1 h2 h3 h4 rfl rfl⟩
    · exact ⟨_, _, _, _, fun w1 => next_bad w1 h ha hb, fun w1 => rnext_bad w1 h⟩
  obtain ⟨c1, c2, c3⟩ := box3 w s m r 23
  obtain ⟨w0, HW0⟩ : ∃ w0, Hid (w0 = w.alloc (.cells #[.int .i64 s, .int .i64 m, .int .i64 r] 23)) := ⟨_, rfl⟩
  have HB0 : Hid (Below w.heap.size w w0) := by rw [HW0.out]; exact fresh_alloc _ _
  rw [← HW0.out] at c1 c2 c3
  go_enter Try.func7, Try.ntmps7
  go_upto_region 1 with fail
  rw [← HW0.out]
  go_wp2_with (first
    | (go_at_call 14; with_reducible refine (HA.out _).mono ?_; rintro e w2 ⟨rfl, hb2⟩; have HF2 := hidd ((HB0.out.trans (hb2.mono HB0.out.size)).alloc (Nat.le_trans HB0.out.size hb2.size) (.cells #[.int .i64 x, .int .i64 y, .int .i64 z] 23)); have j1 := fresh_cell (fresh_alloc w2 (.cells #[.int .i64 x, .int .i64 y, .int .i64 z] 23)) (fresh_cell hb2 c1); have j2 := fresh_cell (fresh_alloc w2 (.cells #[.int .i64 x, .int .i64 y, .int .i64 z] 23)) (fresh_cell hb2 c2); have j3 := fresh_cell (fresh_alloc w2 (.cells #[.int .i64 x, .int .i64 y, .int .i64 z] 23)) (fresh_cell hb2 c3); clear c1 c2 c3; obtain ⟨c1, c2, c3⟩ := box3 w2 x y z 23; clear hb2)
    | (go_at_call 15; with_reducible refine (HB.out _).mono ?_; rintro e w3 ⟨rfl, hb3⟩; have HF3 := hidd (HF2.out.trans (hb3.mono HF2.out.size)); have k1 := fresh_cell hb3 c1; have k2 := fresh_cell hb3 c2; have k3 := fresh_cell hb3 c3; clear c1 c2 c3 j1 j2 j3; have hlt : w2.heap.size < w3.heap.size := lt_of_cell k1; have g1 := (fresh_cell (fresh_alloc w3 (.cells #[.int .i64 x, .int .i64 y, .int .i64 z] 23)) k1); have g2 := (fresh_cell (fresh_alloc w3 (.cells #[.int .i64 x, .int .i64 y, .int .i64 z] 23)) k2); have g3 := (fresh_cell (fresh_alloc w3 (.cells #[.int .i64 x, .int .i64 y, .int .i64 z] 23)) k3); clear hb3))
  go_ret
  exact ⟨rfl, HF3.out.alloc HF3.out.size _⟩
end Go.Proofs.Ytokedgilehcdlaa
