import Derived.Test.YtokedgilehcdlaaGgA
import Derived.Test.YtokedgilehcdlaaLat
namespace Go.Proofs.Ytokedgilehcdlaa
open Go.RowKit
/-! Check of both sides. -/
def okG (s m r : Int) : Prop := 1 ≤ m ∧ m ≤ 32 ∧ 1 ≤ s ∧ s ≤ m ∧ 0 ≤ r ∧ r ≤ 3
theorem okG_iff (s m r : Int) : okG s m r ↔ bS s m = s ∧ bM m = m ∧ bR r = r := by
  unfold okG bS bM bR
  constructor
  · rintro ⟨h1, h2, h3, h4, h5, h6⟩
    refine ⟨?_, ?_, ?_⟩ <;> omega
  · rintro ⟨h1, h2, h3⟩
    refine ⟨?_, ?_, ?_, ?_, ?_, ?_⟩ <;> omega
set_option maxRecDepth 20000 in
set_option maxHeartbeats 1600000 in
theorem check_ok (w : World) {s m r : Int} (h : okG s m r) :
    Calls Try.prog 9 #[.agg #[.int .i64 s, .int .i64 m, .int .i64 r]] w fun e w' => e = .returned (.int .i64 0) ∧ Below w.heap.size w w' := by
  obtain ⟨c1, c2, c3⟩ := box3 w s m r 23
  obtain ⟨e1, e2, e3⟩ := (okG_iff s m r).1 h
  have HB : Hid (∀ w1, Calls Try.prog 17 #[.agg #[.int .i64 s, .int .i64 m, .int .i64 r]] w1 fun e w' => e = .returned (.agg #[.int .i64 s, .int .i64 m, .int .i64 r]) ∧ Below w1.heap.size w1 w') := fun w1 => by
    have := bounded_any w1 s m r
    rwa [e1, e2, e3] at this
  clear e1 e2 e3 h
  obtain ⟨w0, HW0⟩ : ∃ w0, Hid (w0 = w.alloc (.cells #[.int .i64 s, .int .i64 m, .int .i64 r] 23)) := ⟨_, rfl⟩
  have HB0 : Hid (Below w.heap.size w w0) := by rw [HW0.out]; exact fresh_alloc _ _
  rw [← HW0.out] at c1 c2 c3
  have l1 := later_cell c1
  have l2 := later_cell c2
  have l3 := later_cell c3
  have ne := later_some w0
  clear c1 c2 c3
  go_enter Try.func9, Try.ntmps9
  go_wp2
  rw [← HW0.out]
  refine wp_region_later (by kernel_rfl) (by kernel_rfl) ?_
  repeat (go_big_quiet_step (fail))
  go_big_quiet_step (exact later_of (HB.out _))
  repeat (go_big_quiet_step (fail))
  refine wpQuiet_nil ?_
  rintro _ ⟨z, rfl⟩
  have HZ := hidd (HB0.out.trans (z.fresh.mono HB0.out.size))
  go_wp2
  go_ret
  exact ⟨rfl, HZ.out⟩
set_option maxRecDepth 20000 in
set_option maxHeartbeats 1600000 in
theorem check_bad (w : World) {s m r : Int} (h : ¬ okG s m r) :
    Calls Try.prog 9 #[.agg #[.int .i64 s, .int .i64 m, .int .i64 r]] w fun e w' => e = .returned (.int .i64 1) ∧ Below w.heap.size w w' := by
  obtain ⟨c1, c2, c3⟩ := box3 w s m r 23
  obtain ⟨s', HS⟩ : ∃ x, Hid (x = bS s m) := ⟨_, rfl⟩
  obtain ⟨m', HM⟩ : ∃ x, Hid (x = bM m) := ⟨_, rfl⟩
  obtain ⟨r', HR⟩ : ∃ x, Hid (x = bR r) := ⟨_, rfl⟩
  have HN : ¬ (s' = s ∧ m' = m ∧ r' = r) := by rw [HS.out, HM.out, HR.out]; exact fun q => h ((okG_iff s m r).2 q)
  have HB : Hid (∀ w1, Calls Try.prog 17 #[.agg #[.int .i64 s, .int .i64 m, .int .i64 r]] w1 fun e w' => e = .returned (.agg #[.int .i64 s', .int .i64 m', .int .i64 r']) ∧ Below w1.heap.size w1 w') := fun w1 => by
    have := bounded_any w1 s m r
    rwa [← HS.out, ← HM.out, ← HR.out] at this
  clear h HS HM HR
  obtain ⟨w0, HW0⟩ : ∃ w0, Hid (w0 = w.alloc (.cells #[.int .i64 s, .int .i64 m, .int .i64 r] 23)) := ⟨_, rfl⟩
  have HB0 : Hid (Below w.heap.size w w0) := by rw [HW0.out]; exact fresh_alloc _ _
  rw [← HW0.out] at c1 c2 c3
  have l1 := later_cell c1
  have l2 := later_cell c2
  have l3 := later_cell c3
  have ne := later_some w0
  clear c1 c2 c3
  by_cases a1 : s = s'
  · subst a1
    by_cases a2 : m = m'
    · subst a2
      have a3 : ¬ r = r' := fun q => HN ⟨rfl, rfl, q.symm⟩
      clear HN
      go_enter Try.func9, Try.ntmps9
      go_wp2
      rw [← HW0.out]
      refine wp_region_later (by kernel_rfl) (by kernel_rfl) ?_
      repeat (go_big_quiet_step (fail))
      go_big_quiet_step (exact later_of (HB.out _))
      repeat (go_big_quiet_step (fail))
      refine wpQuiet_nil ?_
      rintro _ ⟨z, rfl⟩
      have HZ := hidd (HB0.out.trans (z.fresh.mono HB0.out.size))
      go_wp2
      go_ret
      exact ⟨rfl, HZ.out⟩
    · clear HN
      go_enter Try.func9, Try.ntmps9
      go_wp2
      rw [← HW0.out]
      refine wp_region_later (by kernel_rfl) (by kernel_rfl) ?_
      repeat (go_big_quiet_step (fail))
      go_big_quiet_step (exact later_of (HB.out _))
      repeat (go_big_quiet_step (fail))
      refine wpQuiet_nil ?_
      rintro _ ⟨z, rfl⟩
      have HZ := hidd (HB0.out.trans (z.fresh.mono HB0.out.size))
      go_wp2
      go_ret
      exact ⟨rfl, HZ.out⟩
  · clear HN
    go_enter Try.func9, Try.ntmps9
    go_wp2
    rw [← HW0.out]
    refine wp_region_later (by kernel_rfl) (by kernel_rfl) ?_
    repeat (go_big_quiet_step (fail))
    go_big_quiet_step (exact later_of (HB.out _))
    repeat (go_big_quiet_step (fail))
    refine wpQuiet_nil ?_
    rintro _ ⟨z, rfl⟩
    have HZ := hidd (HB0.out.trans (z.fresh.mono HB0.out.size))
    go_wp2
    go_ret
    exact ⟨rfl, HZ.out⟩
set_option maxRecDepth 20000 in
set_option maxHeartbeats 1600000 in
theorem rcheck_any (w : World) (s m r x : Int) (h1 : okG s m r → x = 0) (h2 : ¬ okG s m r → x = 1) :
    Calls Try.prog 10 #[.agg #[.int .i64 s, .int .i64 m, .int .i64 r]] w fun e w' => e = .returned (.int .i64 x) ∧ Below w.heap.size w w' := by
  have H1 := hidd h1
  have H2 := hidd h2
  clear h1 h2
  go_enter Try.func10, Try.ntmps10
  go_wp2
  all_goals
    go_ret
    refine ⟨ret_int ?_, fresh_alloc w _⟩
    first
      | exact (H1.out (by unfold okG; omega)).symm
      | exact (H2.out (by unfold okG; omega)).symm
end Go.Proofs.Ytokedgilehcdlaa
