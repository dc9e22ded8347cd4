import Derived.Test.YtppcgfdogacmkaaPQ
namespace Go.Proofs.Ytppcgfdogacmkaa
open Go.RowKit
/-! act. -/
set_option maxHeartbeats 400000 in
theorem trim_neg {w : World} {t : Nat} {n : Int} (hn : n < 0) : Calls Try.prog 22 #[.pointer (some ⟨t, 0, none⟩), .int .i64 n] w fun e w' => e = .returned (.int .i64 1) ∧ w' = w := by
  go_enter Try.func22, Try.ntmps22
  go_wp2
  go_ret
  exact ⟨rfl, rfl⟩
set_option maxRecDepth 20000 in
set_option maxHeartbeats 2000000 in
theorem act_grow {x : Fx} {w : World} {s : Dy} {gl : Nat} {vF : Value} {nf : Nat} {fr : Nat → Nat} (h : Lg x w s gl vF nf fr) (hB : x.B ≤ 17) (hnf : nf ≤ 4294967296) (of n : Int) (hn : n ≤ 9223372036854775807) :
    Calls Try.prog 24 #[.pointer (some ⟨gl, 0, none⟩), .agg #[.int .i64 1, .int .i64 of, .int .i64 n]] w fun e w' => e = .returned (.bool true) ∧ ∃ s' vF' nf' fr', Lg x w' s' gl vF' nf' fr' ∧ nf' ≤ nf + 1 := by
  have _q1 := hnf
  have _q2 := hn
  have _q3 := hB
  clear _q1 _q2 _q3
  obtain ⟨i1, h1, HM1⟩ : ∃ i1, i1 < 3 ∧ Hid (∀ z, Calls Try.prog 13 #[.int .i64 of, .int .i64 3] z fun e w' => e = .returned (.int .i64 (i1 : Nat)) ∧ w' = z) := ⟨md of 3, md_lt of (by decide), fun z => mod_any of 3 z (by decide) (by decide)⟩
  obtain ⟨of1, hof1⟩ : ∃ k, k = IntKind.i64.wrap (of + 1) := ⟨_, rfl⟩
  obtain ⟨i2, h2, HM2⟩ : ∃ i2, i2 < 3 ∧ Hid (∀ z, Calls Try.prog 13 #[.int .i64 of1, .int .i64 3] z fun e w' => e = .returned (.int .i64 (i2 : Nat)) ∧ w' = z) := ⟨md of1 3, md_lt of1 (by decide), fun z => mod_any of1 3 z (by decide) (by decide)⟩
  have hof : IntKind.i64.wrap (of + 1) = of1 := hof1.symm
  clear hof1
  have htn := h.tn
  have hlc : 3 ≤ x.lc := by have := h.st.ln; rw [htn] at this; exact this
  have f1 := fresh_alloc w (.cells #[.int .i64 1, .int .i64 of, .int .i64 n] 63)
  have b0 : (w.alloc (.cells #[.int .i64 1, .int .i64 of, .int .i64 n] 63)).cell? ⟨w.heap.size, 0, none⟩ = some (.int .i64 1) := (row3 (row3_new w 63 (.int .i64 1) (.int .i64 of) (.int .i64 n))).1
  have b1 : (w.alloc (.cells #[.int .i64 1, .int .i64 of, .int .i64 n] 63)).cell? ⟨w.heap.size, 1, none⟩ = some (.int .i64 of) := (row3 (row3_new w 63 (.int .i64 1) (.int .i64 of) (.int .i64 n))).2.1
  have b2 : (w.alloc (.cells #[.int .i64 1, .int .i64 of, .int .i64 n] 63)).cell? ⟨w.heap.size, 2, none⟩ = some (.int .i64 n) := (row3 (row3_new w 63 (.int .i64 1) (.int .i64 of) (.int .i64 n))).2.2
  have hL1 := h.fresh f1
  have c1 := (row3 hL1.row).2.1
  have d1 := hL1.st.cell (i := i1) (by omega)
  have d2 := hL1.st.cell (i := i2) (by omega)
  have HL1 := hidd hL1
  clear hL1 h
  go_enter Try.func24, Try.ntmps24
  go_upto_region 1 with fail
  generalize hw1 : w.alloc (.cells #[.int .i64 1, .int .i64 of, .int .i64 n] 63) = w1 at *
  clear hw1
  have hne := later_some w1
  have kc := later_cell c1
  have kd := later_cell d1
  have kb := later_cell b1
  refine wp_region_later (by kernel_rfl) (by kernel_rfl) ?_
  repeat (go_big_quiet_step (fail))
  go_big_quiet_step (exact later_same (HM1.out _))
  repeat (go_big_quiet_step (fail))
  refine wpQuiet_nil ?_
  rintro _ ⟨z, rfl⟩
  have f2 := z.fresh
  clear kc kd kb hne
  have c1 := fresh_cell f2 c1
  have d2 := fresh_cell f2 d2
  have b0 := fresh_cell f2 b0
  have b1 := fresh_cell f2 b1
  have b2 := fresh_cell f2 b2
  have HL2 := hidd (HL1.out.fresh f2)
  generalize z.val = w2 at *
  clear HL1 f1
  go_upto_region 2 with fail
  have hne := later_some w2
  have kc := later_cell c1
  have kd := later_cell d2
  have kb := later_cell b1
  refine wp_region_later (by kernel_rfl) (by kernel_rfl) ?_
  repeat (go_big_quiet_step (fail))
  go_big_quiet_step (exact later_same (HM2.out _))
  repeat (go_big_quiet_step (fail))
  refine wpQuiet_nil ?_
  rintro _ ⟨z3, rfl⟩
  have f3 := z3.fresh
  clear kc kd kb hne
  have b0 := fresh_cell f3 b0
  have b2 := fresh_cell f3 b2
  have HL := hidd (HL2.out.fresh f3)
  generalize z3.val = w3 at *
  clear HL2 HM1 HM2 hof
  have HG := hidd (HL.out.grow (by omega) h1 n hn)
  go_wp2_with (go_at_call 17; with_reducible refine HG.out.mono ?_; rintro e w4 ⟨k, s', rfl, h4⟩)
  go_ret
  exact ⟨rfl, s', vF, nf, fr, h4, by omega⟩
set_option maxRecDepth 20000 in
set_option maxHeartbeats 2000000 in
theorem act_trim {x : Fx} {w : World} {s : Dy} {gl : Nat} {vF : Value} {nf : Nat} {fr : Nat → Nat} (h : Lg x w s gl vF nf fr) (hB : x.B ≤ 17) (hnf : nf ≤ 4294967296) (of n : Int) (hn : n ≤ 9223372036854775807) :
    Calls Try.prog 24 #[.pointer (some ⟨gl, 0, none⟩), .agg #[.int .i64 2, .int .i64 of, .int .i64 n]] w fun e w' => e = .returned (.bool true) ∧ ∃ s' vF' nf' fr', Lg x w' s' gl vF' nf' fr' ∧ nf' ≤ nf + 1 := by
  have _q1 := hnf
  have _q2 := hn
  have _q3 := hB
  clear _q1 _q2 _q3
  obtain ⟨i1, h1, HM1⟩ : ∃ i1, i1 < 3 ∧ Hid (∀ z, Calls Try.prog 13 #[.int .i64 of, .int .i64 3] z fun e w' => e = .returned (.int .i64 (i1 : Nat)) ∧ w' = z) := ⟨md of 3, md_lt of (by decide), fun z => mod_any of 3 z (by decide) (by decide)⟩
  obtain ⟨of1, hof1⟩ : ∃ k, k = IntKind.i64.wrap (of + 1) := ⟨_, rfl⟩
  obtain ⟨i2, h2, HM2⟩ : ∃ i2, i2 < 3 ∧ Hid (∀ z, Calls Try.prog 13 #[.int .i64 of1, .int .i64 3] z fun e w' => e = .returned (.int .i64 (i2 : Nat)) ∧ w' = z) := ⟨md of1 3, md_lt of1 (by decide), fun z => mod_any of1 3 z (by decide) (by decide)⟩
  have hof : IntKind.i64.wrap (of + 1) = of1 := hof1.symm
  clear hof1
  have htn := h.tn
  have hlc : 3 ≤ x.lc := by have := h.st.ln; rw [htn] at this; exact this
  have f1 := fresh_alloc w (.cells #[.int .i64 2, .int .i64 of, .int .i64 n] 63)
  have b0 : (w.alloc (.cells #[.int .i64 2, .int .i64 of, .int .i64 n] 63)).cell? ⟨w.heap.size, 0, none⟩ = some (.int .i64 2) := (row3 (row3_new w 63 (.int .i64 2) (.int .i64 of) (.int .i64 n))).1
  have b1 : (w.alloc (.cells #[.int .i64 2, .int .i64 of, .int .i64 n] 63)).cell? ⟨w.heap.size, 1, none⟩ = some (.int .i64 of) := (row3 (row3_new w 63 (.int .i64 2) (.int .i64 of) (.int .i64 n))).2.1
  have b2 : (w.alloc (.cells #[.int .i64 2, .int .i64 of, .int .i64 n] 63)).cell? ⟨w.heap.size, 2, none⟩ = some (.int .i64 n) := (row3 (row3_new w 63 (.int .i64 2) (.int .i64 of) (.int .i64 n))).2.2
  have hL1 := h.fresh f1
  have c1 := (row3 hL1.row).2.1
  have d1 := hL1.st.cell (i := i1) (by omega)
  have d2 := hL1.st.cell (i := i2) (by omega)
  have HL1 := hidd hL1
  clear hL1 h
  go_enter Try.func24, Try.ntmps24
  go_upto_region 1 with fail
  generalize hw1 : w.alloc (.cells #[.int .i64 2, .int .i64 of, .int .i64 n] 63) = w1 at *
  clear hw1
  have hne := later_some w1
  have kc := later_cell c1
  have kd := later_cell d1
  have kb := later_cell b1
  refine wp_region_later (by kernel_rfl) (by kernel_rfl) ?_
  repeat (go_big_quiet_step (fail))
  go_big_quiet_step (exact later_same (HM1.out _))
  repeat (go_big_quiet_step (fail))
  refine wpQuiet_nil ?_
  rintro _ ⟨z, rfl⟩
  have f2 := z.fresh
  clear kc kd kb hne
  have c1 := fresh_cell f2 c1
  have d2 := fresh_cell f2 d2
  have b0 := fresh_cell f2 b0
  have b1 := fresh_cell f2 b1
  have b2 := fresh_cell f2 b2
  have HL2 := hidd (HL1.out.fresh f2)
  generalize z.val = w2 at *
  clear HL1 f1
  go_upto_region 2 with fail
  have hne := later_some w2
  have kc := later_cell c1
  have kd := later_cell d2
  have kb := later_cell b1
  refine wp_region_later (by kernel_rfl) (by kernel_rfl) ?_
  repeat (go_big_quiet_step (fail))
  go_big_quiet_step (exact later_same (HM2.out _))
  repeat (go_big_quiet_step (fail))
  refine wpQuiet_nil ?_
  rintro _ ⟨z3, rfl⟩
  have f3 := z3.fresh
  clear kc kd kb hne
  have b0 := fresh_cell f3 b0
  have b2 := fresh_cell f3 b2
  have HL := hidd (HL2.out.fresh f3)
  generalize z3.val = w3 at *
  clear HL2 HM1 HM2 hof
  by_cases h0 : n < 0
  · have HG := hidd (trim_neg (w := w3) (t := x.tb i1) h0)
    go_wp2_with (go_at_call 22; with_reducible refine HG.out.mono ?_; rintro e w4 ⟨rfl, h4⟩; rw [h4]; clear h4)
    go_ret
    exact ⟨rfl, s, vF, nf, fr, HL.out, by omega⟩
  · obtain ⟨n, rfl⟩ : ∃ k : Nat, n = k := ⟨n.toNat, by omega⟩
    have HG := hidd (HL.out.trim (by omega) (by omega) h1 n (by omega))
    go_wp2_with (go_at_call 22; with_reducible refine HG.out.mono ?_; rintro e w4 ⟨rfl, s', h4, _⟩)
    go_ret
    exact ⟨rfl, s', vF, nf, fr, h4, by omega⟩
set_option maxRecDepth 20000 in
set_option maxHeartbeats 2000000 in
theorem act_own {x : Fx} {w : World} {s : Dy} {gl : Nat} {vF : Value} {nf : Nat} {fr : Nat → Nat} (h : Lg x w s gl vF nf fr) (hB : x.B ≤ 17) (hnf : nf ≤ 4294967296) (of n : Int) (hn : n ≤ 9223372036854775807) :
    Calls Try.prog 24 #[.pointer (some ⟨gl, 0, none⟩), .agg #[.int .i64 3, .int .i64 of, .int .i64 n]] w fun e w' => e = .returned (.bool true) ∧ ∃ s' vF' nf' fr', Lg x w' s' gl vF' nf' fr' ∧ nf' ≤ nf + 1 := by
  have _q1 := hnf
  have _q2 := hn
  have _q3 := hB
  clear _q1 _q2 _q3
  obtain ⟨i1, h1, HM1⟩ : ∃ i1, i1 < 3 ∧ Hid (∀ z, Calls Try.prog 13 #[.int .i64 of, .int .i64 3] z fun e w' => e = .returned (.int .i64 (i1 : Nat)) ∧ w' = z) := ⟨md of 3, md_lt of (by decide), fun z => mod_any of 3 z (by decide) (by decide)⟩
  obtain ⟨of1, hof1⟩ : ∃ k, k = IntKind.i64.wrap (of + 1) := ⟨_, rfl⟩
  obtain ⟨i2, h2, HM2⟩ : ∃ i2, i2 < 3 ∧ Hid (∀ z, Calls Try.prog 13 #[.int .i64 of1, .int .i64 3] z fun e w' => e = .returned (.int .i64 (i2 : Nat)) ∧ w' = z) := ⟨md of1 3, md_lt of1 (by decide), fun z => mod_any of1 3 z (by decide) (by decide)⟩
  have hof : IntKind.i64.wrap (of + 1) = of1 := hof1.symm
  clear hof1
  have htn := h.tn
  have hlc : 3 ≤ x.lc := by have := h.st.ln; rw [htn] at this; exact this
  have f1 := fresh_alloc w (.cells #[.int .i64 3, .int .i64 of, .int .i64 n] 63)
  have b0 : (w.alloc (.cells #[.int .i64 3, .int .i64 of, .int .i64 n] 63)).cell? ⟨w.heap.size, 0, none⟩ = some (.int .i64 3) := (row3 (row3_new w 63 (.int .i64 3) (.int .i64 of) (.int .i64 n))).1
  have b1 : (w.alloc (.cells #[.int .i64 3, .int .i64 of, .int .i64 n] 63)).cell? ⟨w.heap.size, 1, none⟩ = some (.int .i64 of) := (row3 (row3_new w 63 (.int .i64 3) (.int .i64 of) (.int .i64 n))).2.1
  have b2 : (w.alloc (.cells #[.int .i64 3, .int .i64 of, .int .i64 n] 63)).cell? ⟨w.heap.size, 2, none⟩ = some (.int .i64 n) := (row3 (row3_new w 63 (.int .i64 3) (.int .i64 of) (.int .i64 n))).2.2
  have hL1 := h.fresh f1
  have c1 := (row3 hL1.row).2.1
  have d1 := hL1.st.cell (i := i1) (by omega)
  have d2 := hL1.st.cell (i := i2) (by omega)
  have HL1 := hidd hL1
  clear hL1 h
  go_enter Try.func24, Try.ntmps24
  go_upto_region 1 with fail
  generalize hw1 : w.alloc (.cells #[.int .i64 3, .int .i64 of, .int .i64 n] 63) = w1 at *
  clear hw1
  have hne := later_some w1
  have kc := later_cell c1
  have kd := later_cell d1
  have kb := later_cell b1
  refine wp_region_later (by kernel_rfl) (by kernel_rfl) ?_
  repeat (go_big_quiet_step (fail))
  go_big_quiet_step (exact later_same (HM1.out _))
  repeat (go_big_quiet_step (fail))
  refine wpQuiet_nil ?_
  rintro _ ⟨z, rfl⟩
  have f2 := z.fresh
  clear kc kd kb hne
  have c1 := fresh_cell f2 c1
  have d2 := fresh_cell f2 d2
  have b0 := fresh_cell f2 b0
  have b1 := fresh_cell f2 b1
  have b2 := fresh_cell f2 b2
  have HL2 := hidd (HL1.out.fresh f2)
  generalize z.val = w2 at *
  clear HL1 f1
  go_upto_region 2 with fail
  have hne := later_some w2
  have kc := later_cell c1
  have kd := later_cell d2
  have kb := later_cell b1
  refine wp_region_later (by kernel_rfl) (by kernel_rfl) ?_
  repeat (go_big_quiet_step (fail))
  go_big_quiet_step (exact later_same (HM2.out _))
  repeat (go_big_quiet_step (fail))
  refine wpQuiet_nil ?_
  rintro _ ⟨z3, rfl⟩
  have f3 := z3.fresh
  clear kc kd kb hne
  have b0 := fresh_cell f3 b0
  have b2 := fresh_cell f3 b2
  have HL := hidd (HL2.out.fresh f3)
  generalize z3.val = w3 at *
  clear HL2 HM1 HM2 hof
  have HG := hidd (HL.out.ownT (by omega) (by omega) h1 n hn)
  go_wp2_with (go_at_call 27; with_reducible refine HG.out.mono ?_; rintro e w4 ⟨k, s', rfl, h4⟩)
  go_ret
  exact ⟨rfl, s', vF, nf, fr, h4, by omega⟩
set_option maxRecDepth 20000 in
set_option maxHeartbeats 2000000 in
theorem act_share {x : Fx} {w : World} {s : Dy} {gl : Nat} {vF : Value} {nf : Nat} {fr : Nat → Nat} (h : Lg x w s gl vF nf fr) (hB : x.B ≤ 17) (hnf : nf ≤ 4294967296) (of n : Int) (hn : n ≤ 9223372036854775807) :
    Calls Try.prog 24 #[.pointer (some ⟨gl, 0, none⟩), .agg #[.int .i64 4, .int .i64 of, .int .i64 n]] w fun e w' => e = .returned (.bool true) ∧ ∃ s' vF' nf' fr', Lg x w' s' gl vF' nf' fr' ∧ nf' ≤ nf + 1 := by
  have _q1 := hnf
  have _q2 := hn
  have _q3 := hB
  clear _q1 _q2 _q3
  obtain ⟨i1, h1, HM1⟩ : ∃ i1, i1 < 3 ∧ Hid (∀ z, Calls Try.prog 13 #[.int .i64 of, .int .i64 3] z fun e w' => e = .returned (.int .i64 (i1 : Nat)) ∧ w' = z) := ⟨md of 3, md_lt of (by decide), fun z => mod_any of 3 z (by decide) (by decide)⟩
  obtain ⟨of1, hof1⟩ : ∃ k, k = IntKind.i64.wrap (of + 1) := ⟨_, rfl⟩
  obtain ⟨i2, h2, HM2⟩ : ∃ i2, i2 < 3 ∧ Hid (∀ z, Calls Try.prog 13 #[.int .i64 of1, .int .i64 3] z fun e w' => e = .returned (.int .i64 (i2 : Nat)) ∧ w' = z) := ⟨md of1 3, md_lt of1 (by decide), fun z => mod_any of1 3 z (by decide) (by decide)⟩
  have hof : IntKind.i64.wrap (of + 1) = of1 := hof1.symm
  clear hof1
  have htn := h.tn
  have hlc : 3 ≤ x.lc := by have := h.st.ln; rw [htn] at this; exact this
  have f1 := fresh_alloc w (.cells #[.int .i64 4, .int .i64 of, .int .i64 n] 63)
  have b0 : (w.alloc (.cells #[.int .i64 4, .int .i64 of, .int .i64 n] 63)).cell? ⟨w.heap.size, 0, none⟩ = some (.int .i64 4) := (row3 (row3_new w 63 (.int .i64 4) (.int .i64 of) (.int .i64 n))).1
  have b1 : (w.alloc (.cells #[.int .i64 4, .int .i64 of, .int .i64 n] 63)).cell? ⟨w.heap.size, 1, none⟩ = some (.int .i64 of) := (row3 (row3_new w 63 (.int .i64 4) (.int .i64 of) (.int .i64 n))).2.1
  have b2 : (w.alloc (.cells #[.int .i64 4, .int .i64 of, .int .i64 n] 63)).cell? ⟨w.heap.size, 2, none⟩ = some (.int .i64 n) := (row3 (row3_new w 63 (.int .i64 4) (.int .i64 of) (.int .i64 n))).2.2
  have hL1 := h.fresh f1
  have c1 := (row3 hL1.row).2.1
  have d1 := hL1.st.cell (i := i1) (by omega)
  have d2 := hL1.st.cell (i := i2) (by omega)
  have HL1 := hidd hL1
  clear hL1 h
  go_enter Try.func24, Try.ntmps24
  go_upto_region 1 with fail
  generalize hw1 : w.alloc (.cells #[.int .i64 4, .int .i64 of, .int .i64 n] 63) = w1 at *
  clear hw1
  have hne := later_some w1
  have kc := later_cell c1
  have kd := later_cell d1
  have kb := later_cell b1
  refine wp_region_later (by kernel_rfl) (by kernel_rfl) ?_
  repeat (go_big_quiet_step (fail))
  go_big_quiet_step (exact later_same (HM1.out _))
  repeat (go_big_quiet_step (fail))
  refine wpQuiet_nil ?_
  rintro _ ⟨z, rfl⟩
  have f2 := z.fresh
  clear kc kd kb hne
  have c1 := fresh_cell f2 c1
  have d2 := fresh_cell f2 d2
  have b0 := fresh_cell f2 b0
  have b1 := fresh_cell f2 b1
  have b2 := fresh_cell f2 b2
  have HL2 := hidd (HL1.out.fresh f2)
  generalize z.val = w2 at *
  clear HL1 f1
  go_upto_region 2 with fail
  have hne := later_some w2
  have kc := later_cell c1
  have kd := later_cell d2
  have kb := later_cell b1
  refine wp_region_later (by kernel_rfl) (by kernel_rfl) ?_
  repeat (go_big_quiet_step (fail))
  go_big_quiet_step (exact later_same (HM2.out _))
  repeat (go_big_quiet_step (fail))
  refine wpQuiet_nil ?_
  rintro _ ⟨z3, rfl⟩
  have f3 := z3.fresh
  clear kc kd kb hne
  have b0 := fresh_cell f3 b0
  have b2 := fresh_cell f3 b2
  have HL := hidd (HL2.out.fresh f3)
  generalize z3.val = w3 at *
  clear HL2 HM1 HM2 hof
  have HG := hidd (HL.out.st.blocks (i := i2) (by omega) (by have := HL.out.lk.len h2; omega))
  go_wp2_with (first
    | (go_at_call 18; with_reducible refine HG.out.mono ?_; rintro e w4 ⟨ao, cap, rfl, ho4, f4, _⟩; have HS := hidd ((HL.out.fresh f4).share (by omega) (by omega) h1 h2 ho4 (by have := HL.out.st.bs; omega) (fun k hk => ((HL.out.st.T i1 (by omega)).own.lt k hk).2)); clear ho4)
    | (go_at_call 26; with_reducible refine HS.out.mono ?_; rintro e w5 ⟨k, s', rfl, h5⟩))
  go_ret
  exact ⟨rfl, s', vF, nf, fr, h5, by omega⟩
set_option maxRecDepth 20000 in
set_option maxHeartbeats 2000000 in
theorem act_take {x : Fx} {w : World} {s : Dy} {gl : Nat} {vF : Value} {nf : Nat} {fr : Nat → Nat} (h : Lg x w s gl vF nf fr) (hB : x.B ≤ 17) (hnf : nf ≤ 4294967296) (of n : Int) (hn : n ≤ 9223372036854775807) :
    Calls Try.prog 24 #[.pointer (some ⟨gl, 0, none⟩), .agg #[.int .i64 5, .int .i64 of, .int .i64 n]] w fun e w' => e = .returned (.bool true) ∧ ∃ s' vF' nf' fr', Lg x w' s' gl vF' nf' fr' ∧ nf' ≤ nf + 1 := by
  have _q1 := hnf
  have _q2 := hn
  have _q3 := hB
  clear _q1 _q2 _q3
  obtain ⟨i1, h1, HM1⟩ : ∃ i1, i1 < 3 ∧ Hid (∀ z, Calls Try.prog 13 #[.int .i64 of, .int .i64 3] z fun e w' => e = .returned (.int .i64 (i1 : Nat)) ∧ w' = z) := ⟨md of 3, md_lt of (by decide), fun z => mod_any of 3 z (by decide) (by decide)⟩
  obtain ⟨of1, hof1⟩ : ∃ k, k = IntKind.i64.wrap (of + 1) := ⟨_, rfl⟩
  obtain ⟨i2, h2, HM2⟩ : ∃ i2, i2 < 3 ∧ Hid (∀ z, Calls Try.prog 13 #[.int .i64 of1, .int .i64 3] z fun e w' => e = .returned (.int .i64 (i2 : Nat)) ∧ w' = z) := ⟨md of1 3, md_lt of1 (by decide), fun z => mod_any of1 3 z (by decide) (by decide)⟩
  have hof : IntKind.i64.wrap (of + 1) = of1 := hof1.symm
  clear hof1
  have htn := h.tn
  have hlc : 3 ≤ x.lc := by have := h.st.ln; rw [htn] at this; exact this
  have f1 := fresh_alloc w (.cells #[.int .i64 5, .int .i64 of, .int .i64 n] 63)
  have b0 : (w.alloc (.cells #[.int .i64 5, .int .i64 of, .int .i64 n] 63)).cell? ⟨w.heap.size, 0, none⟩ = some (.int .i64 5) := (row3 (row3_new w 63 (.int .i64 5) (.int .i64 of) (.int .i64 n))).1
  have b1 : (w.alloc (.cells #[.int .i64 5, .int .i64 of, .int .i64 n] 63)).cell? ⟨w.heap.size, 1, none⟩ = some (.int .i64 of) := (row3 (row3_new w 63 (.int .i64 5) (.int .i64 of) (.int .i64 n))).2.1
  have b2 : (w.alloc (.cells #[.int .i64 5, .int .i64 of, .int .i64 n] 63)).cell? ⟨w.heap.size, 2, none⟩ = some (.int .i64 n) := (row3 (row3_new w 63 (.int .i64 5) (.int .i64 of) (.int .i64 n))).2.2
  have hL1 := h.fresh f1
  have c1 := (row3 hL1.row).2.1
  have d1 := hL1.st.cell (i := i1) (by omega)
  have d2 := hL1.st.cell (i := i2) (by omega)
  have HL1 := hidd hL1
  clear hL1 h
  go_enter Try.func24, Try.ntmps24
  go_upto_region 1 with fail
  generalize hw1 : w.alloc (.cells #[.int .i64 5, .int .i64 of, .int .i64 n] 63) = w1 at *
  clear hw1
  have hne := later_some w1
  have kc := later_cell c1
  have kd := later_cell d1
  have kb := later_cell b1
  refine wp_region_later (by kernel_rfl) (by kernel_rfl) ?_
  repeat (go_big_quiet_step (fail))
  go_big_quiet_step (exact later_same (HM1.out _))
  repeat (go_big_quiet_step (fail))
  refine wpQuiet_nil ?_
  rintro _ ⟨z, rfl⟩
  have f2 := z.fresh
  clear kc kd kb hne
  have c1 := fresh_cell f2 c1
  have d2 := fresh_cell f2 d2
  have b0 := fresh_cell f2 b0
  have b1 := fresh_cell f2 b1
  have b2 := fresh_cell f2 b2
  have HL2 := hidd (HL1.out.fresh f2)
  generalize z.val = w2 at *
  clear HL1 f1
  go_upto_region 2 with fail
  have hne := later_some w2
  have kc := later_cell c1
  have kd := later_cell d2
  have kb := later_cell b1
  refine wp_region_later (by kernel_rfl) (by kernel_rfl) ?_
  repeat (go_big_quiet_step (fail))
  go_big_quiet_step (exact later_same (HM2.out _))
  repeat (go_big_quiet_step (fail))
  refine wpQuiet_nil ?_
  rintro _ ⟨z3, rfl⟩
  have f3 := z3.fresh
  clear kc kd kb hne
  have b0 := fresh_cell f3 b0
  have b2 := fresh_cell f3 b2
  have HL := hidd (HL2.out.fresh f3)
  generalize z3.val = w3 at *
  clear HL2 HM1 HM2 hof
  obtain ⟨c0, _, c2⟩ := row3 HL.out.row
  by_cases hf : freeN s.cnt x.B = 0
  · have HG := hidd (take_miss HL.out.st.P (fun j hj e => by
      have k4 := freeN_upd (cnt := s.cnt) 1 hj
      rw [if_pos e, hf] at k4
      simp at k4))
    go_wp2_with (go_at_call 11; with_reducible refine HG.out.mono ?_; rintro e w4 ⟨rfl, h4⟩; rw [h4]; clear h4)
    go_ret
    exact ⟨rfl, s, vF, nf, fr, HL.out, by omega⟩
  · have HG : Hid (Calls Try.prog 11 #[.pointer (some ⟨x.g, 0, none⟩)] w3 fun e w' => e = .returned (.tuple #[.int .i64 (lowF s.cnt x.B : Nat), .int .i64 0]) ∧ w'.cell? ⟨gl, 2, none⟩ = some vF ∧ Hid (St x w' { s with cnt := updN s.cnt (lowF s.cnt x.B) 1, num := zeroed s.num (lowF s.cnt x.B * (x.S * 12)) (x.S * 12) } ∧ w'.rowIs gl 60 3 (three (.pointer (some ⟨x.g, 0, none⟩)) (.slice (some ⟨x.lb, 0, none⟩) 3 x.lc) vF) ∧ Own w' x.base 3 1 vF nf (fun j => .int .i64 (fr j)))) := by
      refine (take_low HL.out.st.P HL.out.st.geo (by omega)).mono ?_
      rintro e w' ⟨rfl, q1, q2⟩
      have q3 := HL.out.poolStep q1 q2
      exact ⟨rfl, (row3 q3.2.1).2.2, q3⟩
    have hlo := lowF_lt (c := s.cnt) (B := x.B) (by omega)
    have HLK : Hid (Lk x.B (updN s.cnt (lowF s.cnt x.B) 1) s.m s.bl (nf + 1) (updN fr nf (lowF s.cnt x.B))) := HL.out.lk.free (fun j hj => by
        by_cases e : j = nf
        · rw [e, updN_at]; exact hlo
        · rw [updN_ne _ _ e]; exact HL.out.lk.frlt j (by omega)) (fun b hb => by
        have hlo0 := (lowF_spec s.cnt x.B).1 hlo
        rw [tms_succ, updN_at, tms_congr (g := fr) (fun j hj => updN_ne _ _ (by omega))]
        by_cases e : lowF s.cnt x.B = b
        · rw [if_pos e, ← e, updN_at, hlo0]; omega
        · rw [if_neg e, updN_ne _ _ (fun k => e k.symm)]; omega)
    generalize lowF s.cnt x.B = lo at *
    have HOF := hidd HL.out.off
    have HGB := hidd HL.out.glb
    have hbs := HL.out.st.bs
    obtain ⟨aF, kF, hvF, _⟩ := HL.out.own.rd
    rw [hvF] at HG HOF
    go_upto_region 15 with (go_at_call 11; with_reducible refine HG.out.mono ?_; rintro e w4 ⟨rfl, c4, H4⟩)
    clear HG
    have HX : Hid (∀ (w0 : World) (t : TypeId), (w0.alloc (.cells #[.int .i64 lo] t)).cell? ⟨w0.heap.size, 0, none⟩ = some ((fun j => Value.int .i64 ((updN fr nf lo j : Nat) : Int)) nf)) := fun w0 t => by rw [new_cell]; simp only [updN_at]
    have HO4 : Hid (Own w4 x.base 3 1 (.slice aF nf kF) nf (fun j => .int .i64 ((updN fr nf lo j : Nat) : Int))) := H4.out.2.2.congr (fun j hj => by rw [updN_ne _ _ (by omega)])
    have hb4 := H4.out.1.bs
    have HR4 := hidd (fun (o : Obj) (w5 : World) (v' : Value) (ha : App (w4.alloc o) w5 (.slice aF nf kF) v') => (Chg.pre (fresh_alloc w4 o) (Chg.of_app ha)).row H4.out.2.1 (H4.out.2.2.apart H4.out.2.1 (by decide)))
    go_wp2_with (at_builtin; refine wpList_app1 _ rfl _ _ 45 rfl x.base 3 (.int .i64 0) 8 Try.underlying45 infoI rfl _ nf (fun j => .int .i64 ((updN fr nf lo j : Nat) : Int)) rfl (HO4.out.kept (fresh_alloc _ _)) _ 1 rfl (HX.out _ _) rfl (by omega) (by omega) (by simp; omega) ?_)
    intro v' w5 hown' happ
    have r5 := HR4.out _ _ _ happ
    have fz := r5.frozen
    have q2 := (row3 r5).2.2
    have HG5 := hidd (lg_push H4.out.1 H4.out.2.1 H4.out.2.2 HOF.out HGB.out htn HLK.out _ hown' happ)
    obtain ⟨a5, k5, rfl, _⟩ := hown'.rd
    clear happ hown' r5 HR4 HO4 HX
    go_wp2
    go_ret
    exact ⟨rfl, _, _, _, _, HG5.out, by omega⟩
set_option maxRecDepth 20000 in
set_option maxHeartbeats 2000000 in
theorem act_none {x : Fx} {w : World} {s : Dy} {gl : Nat} {vF : Value} {nf : Nat} {fr : Nat → Nat} (h : Lg x w s gl vF nf fr) (hB : x.B ≤ 17) (hnf : nf ≤ 4294967296) (kind : Int) (of n : Int) (hn : n ≤ 9223372036854775807) (k1 : kind ≠ 1) (k2 : kind ≠ 2) (k3 : kind ≠ 3) (k4 : kind ≠ 4) (k5 : kind ≠ 5) (k6 : kind ≠ 6) (k7 : kind ≠ 7) :
    Calls Try.prog 24 #[.pointer (some ⟨gl, 0, none⟩), .agg #[.int .i64 kind, .int .i64 of, .int .i64 n]] w fun e w' => e = .returned (.bool true) ∧ ∃ s' vF' nf' fr', Lg x w' s' gl vF' nf' fr' ∧ nf' ≤ nf + 1 := by
  have _q1 := hnf
  have _q2 := hn
  have _q3 := hB
  clear _q1 _q2 _q3
  obtain ⟨i1, h1, HM1⟩ : ∃ i1, i1 < 3 ∧ Hid (∀ z, Calls Try.prog 13 #[.int .i64 of, .int .i64 3] z fun e w' => e = .returned (.int .i64 (i1 : Nat)) ∧ w' = z) := ⟨md of 3, md_lt of (by decide), fun z => mod_any of 3 z (by decide) (by decide)⟩
  obtain ⟨of1, hof1⟩ : ∃ k, k = IntKind.i64.wrap (of + 1) := ⟨_, rfl⟩
  obtain ⟨i2, h2, HM2⟩ : ∃ i2, i2 < 3 ∧ Hid (∀ z, Calls Try.prog 13 #[.int .i64 of1, .int .i64 3] z fun e w' => e = .returned (.int .i64 (i2 : Nat)) ∧ w' = z) := ⟨md of1 3, md_lt of1 (by decide), fun z => mod_any of1 3 z (by decide) (by decide)⟩
  have hof : IntKind.i64.wrap (of + 1) = of1 := hof1.symm
  clear hof1
  have htn := h.tn
  have hlc : 3 ≤ x.lc := by have := h.st.ln; rw [htn] at this; exact this
  have f1 := fresh_alloc w (.cells #[.int .i64 kind, .int .i64 of, .int .i64 n] 63)
  have b0 : (w.alloc (.cells #[.int .i64 kind, .int .i64 of, .int .i64 n] 63)).cell? ⟨w.heap.size, 0, none⟩ = some (.int .i64 kind) := (row3 (row3_new w 63 (.int .i64 kind) (.int .i64 of) (.int .i64 n))).1
  have b1 : (w.alloc (.cells #[.int .i64 kind, .int .i64 of, .int .i64 n] 63)).cell? ⟨w.heap.size, 1, none⟩ = some (.int .i64 of) := (row3 (row3_new w 63 (.int .i64 kind) (.int .i64 of) (.int .i64 n))).2.1
  have b2 : (w.alloc (.cells #[.int .i64 kind, .int .i64 of, .int .i64 n] 63)).cell? ⟨w.heap.size, 2, none⟩ = some (.int .i64 n) := (row3 (row3_new w 63 (.int .i64 kind) (.int .i64 of) (.int .i64 n))).2.2
  have hL1 := h.fresh f1
  have c1 := (row3 hL1.row).2.1
  have d1 := hL1.st.cell (i := i1) (by omega)
  have d2 := hL1.st.cell (i := i2) (by omega)
  have HL1 := hidd hL1
  clear hL1 h
  go_enter Try.func24, Try.ntmps24
  go_upto_region 1 with fail
  generalize hw1 : w.alloc (.cells #[.int .i64 kind, .int .i64 of, .int .i64 n] 63) = w1 at *
  clear hw1
  have hne := later_some w1
  have kc := later_cell c1
  have kd := later_cell d1
  have kb := later_cell b1
  refine wp_region_later (by kernel_rfl) (by kernel_rfl) ?_
  repeat (go_big_quiet_step (fail))
  go_big_quiet_step (exact later_same (HM1.out _))
  repeat (go_big_quiet_step (fail))
  refine wpQuiet_nil ?_
  rintro _ ⟨z, rfl⟩
  have f2 := z.fresh
  clear kc kd kb hne
  have c1 := fresh_cell f2 c1
  have d2 := fresh_cell f2 d2
  have b0 := fresh_cell f2 b0
  have b1 := fresh_cell f2 b1
  have b2 := fresh_cell f2 b2
  have HL2 := hidd (HL1.out.fresh f2)
  generalize z.val = w2 at *
  clear HL1 f1
  go_upto_region 2 with fail
  have hne := later_some w2
  have kc := later_cell c1
  have kd := later_cell d2
  have kb := later_cell b1
  refine wp_region_later (by kernel_rfl) (by kernel_rfl) ?_
  repeat (go_big_quiet_step (fail))
  go_big_quiet_step (exact later_same (HM2.out _))
  repeat (go_big_quiet_step (fail))
  refine wpQuiet_nil ?_
  rintro _ ⟨z3, rfl⟩
  have f3 := z3.fresh
  clear kc kd kb hne
  have b0 := fresh_cell f3 b0
  have b2 := fresh_cell f3 b2
  have HL := hidd (HL2.out.fresh f3)
  generalize z3.val = w3 at *
  clear HL2 HM1 HM2 hof
  have q1 : (kind == 1) = false := by simpa using k1
  have q2 : (kind == 2) = false := by simpa using k2
  have q3 : (kind == 3) = false := by simpa using k3
  have q4 : (kind == 4) = false := by simpa using k4
  have q5 : (kind == 5) = false := by simpa using k5
  have q6 : (kind == 6) = false := by simpa using k6
  have q7 : (kind == 7) = false := by simpa using k7
  go_wp2
  go_ret
  exact ⟨rfl, s, vF, nf, fr, HL.out, by omega⟩
set_option maxRecDepth 20000 in
set_option maxHeartbeats 2000000 in
theorem act_void {x : Fx} {w : World} {s : Dy} {gl : Nat} {vF : Value} {nf : Nat} {fr : Nat → Nat} (h : Lg x w s gl vF nf fr) (hB : x.B ≤ 17) (hnf : nf ≤ 4294967296) (kind : Int) (of n : Int) (hn : n ≤ 9223372036854775807) (hk : kind = 6 ∨ kind = 7) (h0 : nf = 0) :
    Calls Try.prog 24 #[.pointer (some ⟨gl, 0, none⟩), .agg #[.int .i64 kind, .int .i64 of, .int .i64 n]] w fun e w' => e = .returned (.bool true) ∧ ∃ s' vF' nf' fr', Lg x w' s' gl vF' nf' fr' ∧ nf' ≤ nf + 1 := by
  have _q1 := hnf
  have _q2 := hn
  have _q3 := hB
  clear _q1 _q2 _q3
  obtain ⟨i1, h1, HM1⟩ : ∃ i1, i1 < 3 ∧ Hid (∀ z, Calls Try.prog 13 #[.int .i64 of, .int .i64 3] z fun e w' => e = .returned (.int .i64 (i1 : Nat)) ∧ w' = z) := ⟨md of 3, md_lt of (by decide), fun z => mod_any of 3 z (by decide) (by decide)⟩
  obtain ⟨of1, hof1⟩ : ∃ k, k = IntKind.i64.wrap (of + 1) := ⟨_, rfl⟩
  obtain ⟨i2, h2, HM2⟩ : ∃ i2, i2 < 3 ∧ Hid (∀ z, Calls Try.prog 13 #[.int .i64 of1, .int .i64 3] z fun e w' => e = .returned (.int .i64 (i2 : Nat)) ∧ w' = z) := ⟨md of1 3, md_lt of1 (by decide), fun z => mod_any of1 3 z (by decide) (by decide)⟩
  have hof : IntKind.i64.wrap (of + 1) = of1 := hof1.symm
  clear hof1
  have htn := h.tn
  have hlc : 3 ≤ x.lc := by have := h.st.ln; rw [htn] at this; exact this
  have f1 := fresh_alloc w (.cells #[.int .i64 kind, .int .i64 of, .int .i64 n] 63)
  have b0 : (w.alloc (.cells #[.int .i64 kind, .int .i64 of, .int .i64 n] 63)).cell? ⟨w.heap.size, 0, none⟩ = some (.int .i64 kind) := (row3 (row3_new w 63 (.int .i64 kind) (.int .i64 of) (.int .i64 n))).1
  have b1 : (w.alloc (.cells #[.int .i64 kind, .int .i64 of, .int .i64 n] 63)).cell? ⟨w.heap.size, 1, none⟩ = some (.int .i64 of) := (row3 (row3_new w 63 (.int .i64 kind) (.int .i64 of) (.int .i64 n))).2.1
  have b2 : (w.alloc (.cells #[.int .i64 kind, .int .i64 of, .int .i64 n] 63)).cell? ⟨w.heap.size, 2, none⟩ = some (.int .i64 n) := (row3 (row3_new w 63 (.int .i64 kind) (.int .i64 of) (.int .i64 n))).2.2
  have hL1 := h.fresh f1
  have c1 := (row3 hL1.row).2.1
  have d1 := hL1.st.cell (i := i1) (by omega)
  have d2 := hL1.st.cell (i := i2) (by omega)
  have HL1 := hidd hL1
  clear hL1 h
  go_enter Try.func24, Try.ntmps24
  go_upto_region 1 with fail
  generalize hw1 : w.alloc (.cells #[.int .i64 kind, .int .i64 of, .int .i64 n] 63) = w1 at *
  clear hw1
  have hne := later_some w1
  have kc := later_cell c1
  have kd := later_cell d1
  have kb := later_cell b1
  refine wp_region_later (by kernel_rfl) (by kernel_rfl) ?_
  repeat (go_big_quiet_step (fail))
  go_big_quiet_step (exact later_same (HM1.out _))
  repeat (go_big_quiet_step (fail))
  refine wpQuiet_nil ?_
  rintro _ ⟨z, rfl⟩
  have f2 := z.fresh
  clear kc kd kb hne
  have c1 := fresh_cell f2 c1
  have d2 := fresh_cell f2 d2
  have b0 := fresh_cell f2 b0
  have b1 := fresh_cell f2 b1
  have b2 := fresh_cell f2 b2
  have HL2 := hidd (HL1.out.fresh f2)
  generalize z.val = w2 at *
  clear HL1 f1
  go_upto_region 2 with fail
  have hne := later_some w2
  have kc := later_cell c1
  have kd := later_cell d2
  have kb := later_cell b1
  refine wp_region_later (by kernel_rfl) (by kernel_rfl) ?_
  repeat (go_big_quiet_step (fail))
  go_big_quiet_step (exact later_same (HM2.out _))
  repeat (go_big_quiet_step (fail))
  refine wpQuiet_nil ?_
  rintro _ ⟨z3, rfl⟩
  have f3 := z3.fresh
  clear kc kd kb hne
  have b0 := fresh_cell f3 b0
  have b2 := fresh_cell f3 b2
  have HL := hidd (HL2.out.fresh f3)
  generalize z3.val = w3 at *
  clear HL2 HM1 HM2 hof
  obtain ⟨c0, _, c2⟩ := row3 HL.out.row
  obtain ⟨aF, kF, hvF, _⟩ := HL.out.own.rd
  rw [hvF, h0] at c2
  have HN0 := hidd h0
  clear h0
  rcases hk with rfl | rfl
  · go_wp2
    go_ret
    exact ⟨rfl, s, vF, nf, fr, HL.out, by omega⟩
  · go_wp2
    go_ret
    exact ⟨rfl, s, vF, nf, fr, HL.out, by omega⟩
set_option maxRecDepth 20000 in
set_option maxHeartbeats 2000000 in
theorem act_drop {x : Fx} {w : World} {s : Dy} {gl : Nat} {vF : Value} {nf : Nat} {fr : Nat → Nat} (h : Lg x w s gl vF nf fr) (hB : x.B ≤ 17) (hnf : nf ≤ 4294967296) (of n : Int) (hn : n ≤ 9223372036854775807) (h0 : 0 < nf) :
    Calls Try.prog 24 #[.pointer (some ⟨gl, 0, none⟩), .agg #[.int .i64 6, .int .i64 of, .int .i64 n]] w fun e w' => e = .returned (.bool true) ∧ ∃ s' vF', Lg x w' s' gl vF' (nf - 1) fr ∧ s'.m = s.m := by
  have _q1 := hnf
  have _q2 := hn
  have _q3 := hB
  clear _q1 _q2 _q3
  obtain ⟨i1, h1, HM1⟩ : ∃ i1, i1 < 3 ∧ Hid (∀ z, Calls Try.prog 13 #[.int .i64 of, .int .i64 3] z fun e w' => e = .returned (.int .i64 (i1 : Nat)) ∧ w' = z) := ⟨md of 3, md_lt of (by decide), fun z => mod_any of 3 z (by decide) (by decide)⟩
  obtain ⟨of1, hof1⟩ : ∃ k, k = IntKind.i64.wrap (of + 1) := ⟨_, rfl⟩
  obtain ⟨i2, h2, HM2⟩ : ∃ i2, i2 < 3 ∧ Hid (∀ z, Calls Try.prog 13 #[.int .i64 of1, .int .i64 3] z fun e w' => e = .returned (.int .i64 (i2 : Nat)) ∧ w' = z) := ⟨md of1 3, md_lt of1 (by decide), fun z => mod_any of1 3 z (by decide) (by decide)⟩
  have hof : IntKind.i64.wrap (of + 1) = of1 := hof1.symm
  clear hof1
  have htn := h.tn
  have hlc : 3 ≤ x.lc := by have := h.st.ln; rw [htn] at this; exact this
  have f1 := fresh_alloc w (.cells #[.int .i64 6, .int .i64 of, .int .i64 n] 63)
  have b0 : (w.alloc (.cells #[.int .i64 6, .int .i64 of, .int .i64 n] 63)).cell? ⟨w.heap.size, 0, none⟩ = some (.int .i64 6) := (row3 (row3_new w 63 (.int .i64 6) (.int .i64 of) (.int .i64 n))).1
  have b1 : (w.alloc (.cells #[.int .i64 6, .int .i64 of, .int .i64 n] 63)).cell? ⟨w.heap.size, 1, none⟩ = some (.int .i64 of) := (row3 (row3_new w 63 (.int .i64 6) (.int .i64 of) (.int .i64 n))).2.1
  have b2 : (w.alloc (.cells #[.int .i64 6, .int .i64 of, .int .i64 n] 63)).cell? ⟨w.heap.size, 2, none⟩ = some (.int .i64 n) := (row3 (row3_new w 63 (.int .i64 6) (.int .i64 of) (.int .i64 n))).2.2
  have hL1 := h.fresh f1
  have c1 := (row3 hL1.row).2.1
  have d1 := hL1.st.cell (i := i1) (by omega)
  have d2 := hL1.st.cell (i := i2) (by omega)
  have HL1 := hidd hL1
  clear hL1 h
  go_enter Try.func24, Try.ntmps24
  go_upto_region 1 with fail
  generalize hw1 : w.alloc (.cells #[.int .i64 6, .int .i64 of, .int .i64 n] 63) = w1 at *
  clear hw1
  have hne := later_some w1
  have kc := later_cell c1
  have kd := later_cell d1
  have kb := later_cell b1
  refine wp_region_later (by kernel_rfl) (by kernel_rfl) ?_
  repeat (go_big_quiet_step (fail))
  go_big_quiet_step (exact later_same (HM1.out _))
  repeat (go_big_quiet_step (fail))
  refine wpQuiet_nil ?_
  rintro _ ⟨z, rfl⟩
  have f2 := z.fresh
  clear kc kd kb hne
  have c1 := fresh_cell f2 c1
  have d2 := fresh_cell f2 d2
  have b0 := fresh_cell f2 b0
  have b1 := fresh_cell f2 b1
  have b2 := fresh_cell f2 b2
  have HL2 := hidd (HL1.out.fresh f2)
  generalize z.val = w2 at *
  clear HL1 f1
  go_upto_region 2 with fail
  have hne := later_some w2
  have kc := later_cell c1
  have kd := later_cell d2
  have kb := later_cell b1
  refine wp_region_later (by kernel_rfl) (by kernel_rfl) ?_
  repeat (go_big_quiet_step (fail))
  go_big_quiet_step (exact later_same (HM2.out _))
  repeat (go_big_quiet_step (fail))
  refine wpQuiet_nil ?_
  rintro _ ⟨z3, rfl⟩
  have f3 := z3.fresh
  clear kc kd kb hne
  have b0 := fresh_cell f3 b0
  have b2 := fresh_cell f3 b2
  have HL := hidd (HL2.out.fresh f3)
  generalize z3.val = w3 at *
  clear HL2 HM1 HM2 hof
  obtain ⟨p, rfl⟩ : ∃ p, nf = p + 1 := ⟨nf - 1, by omega⟩
  obtain ⟨gb, cap, F, rfl, q1, q2, q3, qr, qF⟩ := Own.row1 HL.out.own (by omega)
  obtain ⟨c0, _, c2⟩ := row3 HL.out.row
  have dF := qr.cell (i := p) (by omega)
  rw [qF p (by omega)] at dF
  have fz := HL.out.row.frozen
  have hy := HL.out.lk.frlt p (by omega)
  have hpos := tms_pos (f := fr) (show p < p + 1 by omega) rfl
  have hcn := HL.out.lk.cnt _ hy
  have hsm := HL.out.lk.small hy
  have hcap : cap ≤ 9223372036854775807 := by unfold maxLen at q2; omega
  have HD : Hid (∀ z, Below w3.heap.size w3 z → Calls Try.prog 49 #[.pointer (some ⟨x.g, 0, none⟩), .int .i64 (fr p : Nat)] (z.setCell ⟨gl, 2, none⟩ (.slice (some ⟨gb, 0, none⟩) p cap)) fun e w' => e = .returned (.int .i64 0) ∧ Hid (∃ s' vF', Lg x w' s' gl vF' (p + 1 - 1) fr ∧ s'.m = s.m)) := fun z f => by
    have L := HL.out.fresh f
    obtain ⟨p1, p2, p3⟩ := lg_pop L.st L.row L.own L.glb
    refine (drop_ok p1.P hy (by omega) (by omega)).mono ?_
    rintro e w' ⟨rfl, k1, k2⟩
    obtain ⟨u1, u2, u3⟩ := comp_pool p1 p2 p3 L.glb k1 (k2.imp (fun _ _ e => Or.inl e))
    refine ⟨rfl, _, _, ⟨u1, u2, u3, fun i hi => L.off i hi, L.glb, L.tn, L.lk.free (fun j hj => L.lk.frlt j (by omega)) (fun b hb => ?_)⟩, rfl⟩
    show updN s.cnt (fr p) (s.cnt (fr p) - 1) b + tms fr b (p + 1) = s.cnt b + tms fr b p
    rw [tms_succ]
    by_cases e : fr p = b
    · rw [if_pos e, ← e, updN_at]; omega
    · rw [if_neg e, updN_ne _ _ (fun k => e k.symm)]; omega
  clear qF qr hpos hcn hy hsm
  generalize fr p = y at dF HD
  have e1 : ((p + 1 : Nat) : Int) - 1 = (p : Int) := by omega
  go_upto_region 18 with fail
  go_quiet (fail)
  go_upto_region 19 with fail
  go_region
  go_wp2_with (go_at_call 49; with_reducible refine (HD.out _ (fresh_drewN _ _)).mono ?_; rintro e w9 ⟨rfl, H9⟩)
  go_ret
  exact ⟨rfl, H9.out⟩
set_option maxRecDepth 20000 in
set_option maxHeartbeats 2000000 in
theorem act_hold {x : Fx} {w : World} {s : Dy} {gl : Nat} {vF : Value} {nf : Nat} {fr : Nat → Nat} (h : Lg x w s gl vF nf fr) (hB : x.B ≤ 17) (hnf : nf ≤ 4294967296) (of n : Int) (hn : n ≤ 9223372036854775807) (h0 : 0 < nf) :
    Calls Try.prog 24 #[.pointer (some ⟨gl, 0, none⟩), .agg #[.int .i64 7, .int .i64 of, .int .i64 n]] w fun e w' => e = .returned (.bool true) ∧ ∃ s' vF' nf' fr', Lg x w' s' gl vF' nf' fr' ∧ nf' ≤ nf + 1 := by
  have _q1 := hnf
  have _q2 := hn
  have _q3 := hB
  clear _q1 _q2 _q3
  obtain ⟨i1, h1, HM1⟩ : ∃ i1, i1 < 3 ∧ Hid (∀ z, Calls Try.prog 13 #[.int .i64 of, .int .i64 3] z fun e w' => e = .returned (.int .i64 (i1 : Nat)) ∧ w' = z) := ⟨md of 3, md_lt of (by decide), fun z => mod_any of 3 z (by decide) (by decide)⟩
  obtain ⟨of1, hof1⟩ : ∃ k, k = IntKind.i64.wrap (of + 1) := ⟨_, rfl⟩
  obtain ⟨i2, h2, HM2⟩ : ∃ i2, i2 < 3 ∧ Hid (∀ z, Calls Try.prog 13 #[.int .i64 of1, .int .i64 3] z fun e w' => e = .returned (.int .i64 (i2 : Nat)) ∧ w' = z) := ⟨md of1 3, md_lt of1 (by decide), fun z => mod_any of1 3 z (by decide) (by decide)⟩
  have hof : IntKind.i64.wrap (of + 1) = of1 := hof1.symm
  clear hof1
  have htn := h.tn
  have hlc : 3 ≤ x.lc := by have := h.st.ln; rw [htn] at this; exact this
  have f1 := fresh_alloc w (.cells #[.int .i64 7, .int .i64 of, .int .i64 n] 63)
  have b0 : (w.alloc (.cells #[.int .i64 7, .int .i64 of, .int .i64 n] 63)).cell? ⟨w.heap.size, 0, none⟩ = some (.int .i64 7) := (row3 (row3_new w 63 (.int .i64 7) (.int .i64 of) (.int .i64 n))).1
  have b1 : (w.alloc (.cells #[.int .i64 7, .int .i64 of, .int .i64 n] 63)).cell? ⟨w.heap.size, 1, none⟩ = some (.int .i64 of) := (row3 (row3_new w 63 (.int .i64 7) (.int .i64 of) (.int .i64 n))).2.1
  have b2 : (w.alloc (.cells #[.int .i64 7, .int .i64 of, .int .i64 n] 63)).cell? ⟨w.heap.size, 2, none⟩ = some (.int .i64 n) := (row3 (row3_new w 63 (.int .i64 7) (.int .i64 of) (.int .i64 n))).2.2
  have hL1 := h.fresh f1
  have c1 := (row3 hL1.row).2.1
  have d1 := hL1.st.cell (i := i1) (by omega)
  have d2 := hL1.st.cell (i := i2) (by omega)
  have HL1 := hidd hL1
  clear hL1 h
  go_enter Try.func24, Try.ntmps24
  go_upto_region 1 with fail
  generalize hw1 : w.alloc (.cells #[.int .i64 7, .int .i64 of, .int .i64 n] 63) = w1 at *
  clear hw1
  have hne := later_some w1
  have kc := later_cell c1
  have kd := later_cell d1
  have kb := later_cell b1
  refine wp_region_later (by kernel_rfl) (by kernel_rfl) ?_
  repeat (go_big_quiet_step (fail))
  go_big_quiet_step (exact later_same (HM1.out _))
  repeat (go_big_quiet_step (fail))
  refine wpQuiet_nil ?_
  rintro _ ⟨z, rfl⟩
  have f2 := z.fresh
  clear kc kd kb hne
  have c1 := fresh_cell f2 c1
  have d2 := fresh_cell f2 d2
  have b0 := fresh_cell f2 b0
  have b1 := fresh_cell f2 b1
  have b2 := fresh_cell f2 b2
  have HL2 := hidd (HL1.out.fresh f2)
  generalize z.val = w2 at *
  clear HL1 f1
  go_upto_region 2 with fail
  have hne := later_some w2
  have kc := later_cell c1
  have kd := later_cell d2
  have kb := later_cell b1
  refine wp_region_later (by kernel_rfl) (by kernel_rfl) ?_
  repeat (go_big_quiet_step (fail))
  go_big_quiet_step (exact later_same (HM2.out _))
  repeat (go_big_quiet_step (fail))
  refine wpQuiet_nil ?_
  rintro _ ⟨z3, rfl⟩
  have f3 := z3.fresh
  clear kc kd kb hne
  have b0 := fresh_cell f3 b0
  have b2 := fresh_cell f3 b2
  have HL := hidd (HL2.out.fresh f3)
  generalize z3.val = w3 at *
  clear HL2 HM1 HM2 hof
  have hmd := md_lt n (show 0 < nf by omega)
  obtain ⟨p, hp⟩ : ∃ p, p = md n nf := ⟨_, rfl⟩
  rw [← hp] at hmd
  have HMN : Hid (∀ z, Calls Try.prog 13 #[.int .i64 n, .int .i64 (nf : Nat)] z fun e w' => e = .returned (.int .i64 (p : Nat)) ∧ w' = z) := fun z => by rw [hp]; exact mod_any n nf z (by omega) (by omega)
  clear hp
  obtain ⟨gb, cap, F, rfl, q1, q2, q3, qr, qF⟩ := Own.row1 HL.out.own (by omega)
  obtain ⟨c0, _, c2⟩ := row3 HL.out.row
  have dF := qr.cell (i := p) (by omega)
  rw [qF p (by omega)] at dF
  have hy := HL.out.lk.frlt p (by omega)
  have hpos := tms_pos (f := fr) (show p < nf by omega) rfl
  have hcn := HL.out.lk.cnt _ hy
  have hsm := HL.out.lk.small hy
  have hcap : cap ≤ 9223372036854775807 := by unfold maxLen at q2; omega
  have hne0 : s.cnt (fr p) ≠ 0 := by omega
  have hbs := HL.out.st.bs
  clear qF qr hpos hcn
  generalize hyy : fr p = y at *
  go_upto_region 23 with fail
  have hne := later_some w3
  have kc := later_cell c2
  have kd := later_cell dF
  have kb := later_cell b2
  refine wp_region_later (by kernel_rfl) (by kernel_rfl) ?_
  repeat (go_big_quiet_step (fail))
  go_big_quiet_step (exact later_same (HMN.out _))
  repeat (go_big_quiet_step (fail))
  refine wpQuiet_nil ?_
  rintro _ ⟨z4, rfl⟩
  have f4 := z4.fresh
  clear kc kd kb hne HMN
  have HL4 := hidd (HL.out.fresh f4)
  have c4 := fresh_cell f4 c2
  have e4 := fresh_cell f4 c0
  generalize z4.val = w4 at *
  have hb4 := HL4.out.st.bs
  have HX : Hid (∀ (w0 : World) (t : TypeId), (w0.alloc (.cells #[.int .i64 y] t)).cell? ⟨w0.heap.size, 0, none⟩ = some ((fun j => Value.int .i64 ((updN fr nf y j : Nat) : Int)) nf)) := fun w0 t => by rw [new_cell]; simp only [updN_at]
  have HO4 : Hid (Own w4 x.base 3 1 (.slice (some ⟨gb, 0, none⟩) nf cap) nf (fun j => .int .i64 ((updN fr nf y j : Nat) : Int))) := HL4.out.own.congr (fun j hj => by rw [updN_ne _ _ (by omega)])
  have HR4 := hidd (fun (o : Obj) (w5 : World) (v' : Value) (ha : App (w4.alloc o) w5 (.slice (some ⟨gb, 0, none⟩) nf cap) v') => (Chg.pre (fresh_alloc w4 o) (Chg.of_app ha)).row HL4.out.row (HL4.out.own.apart HL4.out.row (by decide)))
  have HD : Hid (∀ (o : Obj) (w5 : World) (v' : Value), Own w5 x.base 3 1 v' (nf + 1) (fun j => .int .i64 ((updN fr nf y j : Nat) : Int)) → App (w4.alloc o) w5 (.slice (some ⟨gb, 0, none⟩) nf cap) v' → Calls Try.prog 51 #[.pointer (some ⟨x.g, 0, none⟩), .int .i64 (y : Nat)] (w5.setCell ⟨gl, 2, none⟩ v') fun e w' => e = .returned (.int .i64 0) ∧ Hid (∃ s' vF' nf' fr', Lg x w' s' gl vF' nf' fr' ∧ nf' ≤ nf + 1)) := fun o w5 v' ho ha => by
    obtain ⟨p1, p2, p3, p4⟩ := comp_push HL4.out.st HL4.out.row HL4.out.own HL4.out.off HL4.out.glb HL4.out.tn o ho ha
    refine (hold_ok p1.P hy hne0 (by omega)).mono ?_
    rintro e w' ⟨rfl, k1, k2⟩
    obtain ⟨u1, u2, u3⟩ := comp_pool p1 p2 p3 HL4.out.glb k1 (k2.imp (fun _ _ e => Or.inl e))
    refine ⟨rfl, _, _, _, _, ⟨u1, u2, u3, p4, HL4.out.glb, HL4.out.tn, HL4.out.lk.free (fun j hj => ?_) (fun b hb => ?_)⟩, Nat.le_refl _⟩
    · by_cases e : j = nf
      · rw [e, updN_at]; exact hy
      · rw [updN_ne _ _ e]; exact HL4.out.lk.frlt j (by omega)
    · show updN s.cnt y (s.cnt y + 1) b + tms fr b nf = s.cnt b + tms (updN fr nf y) b (nf + 1)
      rw [tms_succ, updN_at, tms_congr (g := fr) (fun j hj => updN_ne _ _ (by omega))]
      by_cases e : y = b
      · rw [if_pos e, ← e, updN_at]; omega
      · rw [if_neg e, updN_ne _ _ (fun k => e k.symm)]; omega
  clear hyy
  go_wp2_with (at_builtin; refine wpList_app1 _ rfl _ _ 45 rfl x.base 3 (.int .i64 0) 8 Try.underlying45 infoI rfl _ nf (fun j => .int .i64 ((updN fr nf y j : Nat) : Int)) rfl (HO4.out.kept (fresh_alloc _ _)) _ 1 rfl (HX.out _ _) rfl (by omega) (by omega) (by simp; omega) ?_)
  intro v' w5 hown' happ
  have r5 := HR4.out _ _ _ happ
  have fz := r5.frozen
  have g2 := (row3 r5).2.2
  have g0 := (row3 r5).1
  have HH := hidd (HD.out _ _ _ hown' happ)
  obtain ⟨a5, k5, rfl, _⟩ := hown'.rd
  clear happ hown' r5 HR4 HO4 HX HD
  go_wp2_with (go_at_call 51; with_reducible refine HH.out.mono ?_; rintro e w9 ⟨rfl, H9⟩)
  go_ret
  exact ⟨rfl, H9.out⟩
end Go.Proofs.Ytppcgfdogacmkaa
