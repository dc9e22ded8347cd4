import Derived.Test.YtilghknalbhacaaJAJ
namespace Go.Proofs.Ytilghknalbhacaa
open Go.RowKit
/-! The reference's Check of weights. -/
set_option maxRecDepth 20000 in
set_option maxHeartbeats 8000000 in
theorem check_wref {w : World} {x : WtD} (hx : WtR w x) (er : Int) (he : IsE x er) :
    Calls Try.prog 24 #[.agg #[.int .i64 x.V, .int .i64 x.W, .int .i64 x.H, .int .i64 x.K, .int .i64 x.L, .int .i64 x.D, .int .i64 x.N, .int .i64 x.M, .int .i64 x.E.R, .int .i64 x.E.C, .slice x.E.O x.E.n x.E.c, .slice x.tO x.tn x.tc, .slice x.yO x.yn x.yc, .slice x.F.O x.F.n x.F.c, .int .i64 x.Q.R, .int .i64 x.Q.C, .slice x.Q.O x.Q.n x.Q.c, .slice x.mO x.mn x.mc]] w fun e w' => e = .returned (.int .i64 er) ∧ Below w.heap.size w w' := by
  have HX := hidd hx
  have hmE : mayE x.V x.W x.H x.K x.L x.D x.N x.M = if er = 40 then 40 else 0 := by
    rcases he with ⟨h, e⟩ | ⟨h, _, e⟩ | ⟨h, _, e⟩
    · rw [mayE_no h, e]; rfl
    · rw [mayE_ok h, e]; rfl
    · rw [mayE_ok h, e]; rfl
  have HE := hidd he
  clear hx he
  go_enter Try.func24, Try.ntmps24
  go_wp2_with fail
  have hf0 := fresh_trans (fresh_alloc w (.cells #[.int .i64 x.V, .int .i64 x.W, .int .i64 x.H, .int .i64 x.K, .int .i64 x.L, .int .i64 x.D, .int .i64 x.N, .int .i64 x.M, .int .i64 x.E.R, .int .i64 x.E.C, .slice x.E.O x.E.n x.E.c, .slice x.tO x.tn x.tc, .slice x.yO x.yn x.yc, .slice x.F.O x.F.n x.F.c, .int .i64 x.Q.R, .int .i64 x.Q.C, .slice x.Q.O x.Q.n x.Q.c, .slice x.mO x.mn x.mc] 34)) (fresh_alloc _ (.cells #[.int .i64 x.V, .int .i64 x.W, .int .i64 x.H, .int .i64 x.K, .int .i64 x.L, .int .i64 x.D, .int .i64 x.N, .int .i64 x.M] 23))
  refine (config_ref x.V x.W x.H x.K x.L x.D x.N x.M _).mono ?_
  rintro e w1 ⟨rfl, hf1⟩
  rw [hmE]
  clear hmE
  have c0 := fresh_cell hf1 (show ((w.alloc (.cells #[.int .i64 x.V, .int .i64 x.W, .int .i64 x.H, .int .i64 x.K, .int .i64 x.L, .int .i64 x.D, .int .i64 x.N, .int .i64 x.M, .int .i64 x.E.R, .int .i64 x.E.C, .slice x.E.O x.E.n x.E.c, .slice x.tO x.tn x.tc, .slice x.yO x.yn x.yc, .slice x.F.O x.F.n x.F.c, .int .i64 x.Q.R, .int .i64 x.Q.C, .slice x.Q.O x.Q.n x.Q.c, .slice x.mO x.mn x.mc] 34)).alloc (.cells #[.int .i64 x.V, .int .i64 x.W, .int .i64 x.H, .int .i64 x.K, .int .i64 x.L, .int .i64 x.D, .int .i64 x.N, .int .i64 x.M] 23)).cell? ⟨w.heap.size, 0, none⟩ = some (.int .i64 x.V) by simp)
  have c1 := fresh_cell hf1 (show ((w.alloc (.cells #[.int .i64 x.V, .int .i64 x.W, .int .i64 x.H, .int .i64 x.K, .int .i64 x.L, .int .i64 x.D, .int .i64 x.N, .int .i64 x.M, .int .i64 x.E.R, .int .i64 x.E.C, .slice x.E.O x.E.n x.E.c, .slice x.tO x.tn x.tc, .slice x.yO x.yn x.yc, .slice x.F.O x.F.n x.F.c, .int .i64 x.Q.R, .int .i64 x.Q.C, .slice x.Q.O x.Q.n x.Q.c, .slice x.mO x.mn x.mc] 34)).alloc (.cells #[.int .i64 x.V, .int .i64 x.W, .int .i64 x.H, .int .i64 x.K, .int .i64 x.L, .int .i64 x.D, .int .i64 x.N, .int .i64 x.M] 23)).cell? ⟨w.heap.size, 1, none⟩ = some (.int .i64 x.W) by simp)
  have c2 := fresh_cell hf1 (show ((w.alloc (.cells #[.int .i64 x.V, .int .i64 x.W, .int .i64 x.H, .int .i64 x.K, .int .i64 x.L, .int .i64 x.D, .int .i64 x.N, .int .i64 x.M, .int .i64 x.E.R, .int .i64 x.E.C, .slice x.E.O x.E.n x.E.c, .slice x.tO x.tn x.tc, .slice x.yO x.yn x.yc, .slice x.F.O x.F.n x.F.c, .int .i64 x.Q.R, .int .i64 x.Q.C, .slice x.Q.O x.Q.n x.Q.c, .slice x.mO x.mn x.mc] 34)).alloc (.cells #[.int .i64 x.V, .int .i64 x.W, .int .i64 x.H, .int .i64 x.K, .int .i64 x.L, .int .i64 x.D, .int .i64 x.N, .int .i64 x.M] 23)).cell? ⟨w.heap.size, 2, none⟩ = some (.int .i64 x.H) by simp)
  have c3 := fresh_cell hf1 (show ((w.alloc (.cells #[.int .i64 x.V, .int .i64 x.W, .int .i64 x.H, .int .i64 x.K, .int .i64 x.L, .int .i64 x.D, .int .i64 x.N, .int .i64 x.M, .int .i64 x.E.R, .int .i64 x.E.C, .slice x.E.O x.E.n x.E.c, .slice x.tO x.tn x.tc, .slice x.yO x.yn x.yc, .slice x.F.O x.F.n x.F.c, .int .i64 x.Q.R, .int .i64 x.Q.C, .slice x.Q.O x.Q.n x.Q.c, .slice x.mO x.mn x.mc] 34)).alloc (.cells #[.int .i64 x.V, .int .i64 x.W, .int .i64 x.H, .int .i64 x.K, .int .i64 x.L, .int .i64 x.D, .int .i64 x.N, .int .i64 x.M] 23)).cell? ⟨w.heap.size, 3, none⟩ = some (.int .i64 x.K) by simp)
  have c4 := fresh_cell hf1 (show ((w.alloc (.cells #[.int .i64 x.V, .int .i64 x.W, .int .i64 x.H, .int .i64 x.K, .int .i64 x.L, .int .i64 x.D, .int .i64 x.N, .int .i64 x.M, .int .i64 x.E.R, .int .i64 x.E.C, .slice x.E.O x.E.n x.E.c, .slice x.tO x.tn x.tc, .slice x.yO x.yn x.yc, .slice x.F.O x.F.n x.F.c, .int .i64 x.Q.R, .int .i64 x.Q.C, .slice x.Q.O x.Q.n x.Q.c, .slice x.mO x.mn x.mc] 34)).alloc (.cells #[.int .i64 x.V, .int .i64 x.W, .int .i64 x.H, .int .i64 x.K, .int .i64 x.L, .int .i64 x.D, .int .i64 x.N, .int .i64 x.M] 23)).cell? ⟨w.heap.size, 4, none⟩ = some (.int .i64 x.L) by simp)
  have c5 := fresh_cell hf1 (show ((w.alloc (.cells #[.int .i64 x.V, .int .i64 x.W, .int .i64 x.H, .int .i64 x.K, .int .i64 x.L, .int .i64 x.D, .int .i64 x.N, .int .i64 x.M, .int .i64 x.E.R, .int .i64 x.E.C, .slice x.E.O x.E.n x.E.c, .slice x.tO x.tn x.tc, .slice x.yO x.yn x.yc, .slice x.F.O x.F.n x.F.c, .int .i64 x.Q.R, .int .i64 x.Q.C, .slice x.Q.O x.Q.n x.Q.c, .slice x.mO x.mn x.mc] 34)).alloc (.cells #[.int .i64 x.V, .int .i64 x.W, .int .i64 x.H, .int .i64 x.K, .int .i64 x.L, .int .i64 x.D, .int .i64 x.N, .int .i64 x.M] 23)).cell? ⟨w.heap.size, 5, none⟩ = some (.int .i64 x.D) by simp)
  have c6 := fresh_cell hf1 (show ((w.alloc (.cells #[.int .i64 x.V, .int .i64 x.W, .int .i64 x.H, .int .i64 x.K, .int .i64 x.L, .int .i64 x.D, .int .i64 x.N, .int .i64 x.M, .int .i64 x.E.R, .int .i64 x.E.C, .slice x.E.O x.E.n x.E.c, .slice x.tO x.tn x.tc, .slice x.yO x.yn x.yc, .slice x.F.O x.F.n x.F.c, .int .i64 x.Q.R, .int .i64 x.Q.C, .slice x.Q.O x.Q.n x.Q.c, .slice x.mO x.mn x.mc] 34)).alloc (.cells #[.int .i64 x.V, .int .i64 x.W, .int .i64 x.H, .int .i64 x.K, .int .i64 x.L, .int .i64 x.D, .int .i64 x.N, .int .i64 x.M] 23)).cell? ⟨w.heap.size, 6, none⟩ = some (.int .i64 x.N) by simp)
  have c7 := fresh_cell hf1 (show ((w.alloc (.cells #[.int .i64 x.V, .int .i64 x.W, .int .i64 x.H, .int .i64 x.K, .int .i64 x.L, .int .i64 x.D, .int .i64 x.N, .int .i64 x.M, .int .i64 x.E.R, .int .i64 x.E.C, .slice x.E.O x.E.n x.E.c, .slice x.tO x.tn x.tc, .slice x.yO x.yn x.yc, .slice x.F.O x.F.n x.F.c, .int .i64 x.Q.R, .int .i64 x.Q.C, .slice x.Q.O x.Q.n x.Q.c, .slice x.mO x.mn x.mc] 34)).alloc (.cells #[.int .i64 x.V, .int .i64 x.W, .int .i64 x.H, .int .i64 x.K, .int .i64 x.L, .int .i64 x.D, .int .i64 x.N, .int .i64 x.M] 23)).cell? ⟨w.heap.size, 7, none⟩ = some (.int .i64 x.M) by simp)
  have c8 := fresh_cell hf1 (show ((w.alloc (.cells #[.int .i64 x.V, .int .i64 x.W, .int .i64 x.H, .int .i64 x.K, .int .i64 x.L, .int .i64 x.D, .int .i64 x.N, .int .i64 x.M, .int .i64 x.E.R, .int .i64 x.E.C, .slice x.E.O x.E.n x.E.c, .slice x.tO x.tn x.tc, .slice x.yO x.yn x.yc, .slice x.F.O x.F.n x.F.c, .int .i64 x.Q.R, .int .i64 x.Q.C, .slice x.Q.O x.Q.n x.Q.c, .slice x.mO x.mn x.mc] 34)).alloc (.cells #[.int .i64 x.V, .int .i64 x.W, .int .i64 x.H, .int .i64 x.K, .int .i64 x.L, .int .i64 x.D, .int .i64 x.N, .int .i64 x.M] 23)).cell? ⟨w.heap.size, 8, none⟩ = some (.int .i64 x.E.R) by simp)
  have c9 := fresh_cell hf1 (show ((w.alloc (.cells #[.int .i64 x.V, .int .i64 x.W, .int .i64 x.H, .int .i64 x.K, .int .i64 x.L, .int .i64 x.D, .int .i64 x.N, .int .i64 x.M, .int .i64 x.E.R, .int .i64 x.E.C, .slice x.E.O x.E.n x.E.c, .slice x.tO x.tn x.tc, .slice x.yO x.yn x.yc, .slice x.F.O x.F.n x.F.c, .int .i64 x.Q.R, .int .i64 x.Q.C, .slice x.Q.O x.Q.n x.Q.c, .slice x.mO x.mn x.mc] 34)).alloc (.cells #[.int .i64 x.V, .int .i64 x.W, .int .i64 x.H, .int .i64 x.K, .int .i64 x.L, .int .i64 x.D, .int .i64 x.N, .int .i64 x.M] 23)).cell? ⟨w.heap.size, 9, none⟩ = some (.int .i64 x.E.C) by simp)
  have c10 := fresh_cell hf1 (show ((w.alloc (.cells #[.int .i64 x.V, .int .i64 x.W, .int .i64 x.H, .int .i64 x.K, .int .i64 x.L, .int .i64 x.D, .int .i64 x.N, .int .i64 x.M, .int .i64 x.E.R, .int .i64 x.E.C, .slice x.E.O x.E.n x.E.c, .slice x.tO x.tn x.tc, .slice x.yO x.yn x.yc, .slice x.F.O x.F.n x.F.c, .int .i64 x.Q.R, .int .i64 x.Q.C, .slice x.Q.O x.Q.n x.Q.c, .slice x.mO x.mn x.mc] 34)).alloc (.cells #[.int .i64 x.V, .int .i64 x.W, .int .i64 x.H, .int .i64 x.K, .int .i64 x.L, .int .i64 x.D, .int .i64 x.N, .int .i64 x.M] 23)).cell? ⟨w.heap.size, 10, none⟩ = some (.slice x.E.O x.E.n x.E.c) by simp)
  have c11 := fresh_cell hf1 (show ((w.alloc (.cells #[.int .i64 x.V, .int .i64 x.W, .int .i64 x.H, .int .i64 x.K, .int .i64 x.L, .int .i64 x.D, .int .i64 x.N, .int .i64 x.M, .int .i64 x.E.R, .int .i64 x.E.C, .slice x.E.O x.E.n x.E.c, .slice x.tO x.tn x.tc, .slice x.yO x.yn x.yc, .slice x.F.O x.F.n x.F.c, .int .i64 x.Q.R, .int .i64 x.Q.C, .slice x.Q.O x.Q.n x.Q.c, .slice x.mO x.mn x.mc] 34)).alloc (.cells #[.int .i64 x.V, .int .i64 x.W, .int .i64 x.H, .int .i64 x.K, .int .i64 x.L, .int .i64 x.D, .int .i64 x.N, .int .i64 x.M] 23)).cell? ⟨w.heap.size, 11, none⟩ = some (.slice x.tO x.tn x.tc) by simp)
  have c12 := fresh_cell hf1 (show ((w.alloc (.cells #[.int .i64 x.V, .int .i64 x.W, .int .i64 x.H, .int .i64 x.K, .int .i64 x.L, .int .i64 x.D, .int .i64 x.N, .int .i64 x.M, .int .i64 x.E.R, .int .i64 x.E.C, .slice x.E.O x.E.n x.E.c, .slice x.tO x.tn x.tc, .slice x.yO x.yn x.yc, .slice x.F.O x.F.n x.F.c, .int .i64 x.Q.R, .int .i64 x.Q.C, .slice x.Q.O x.Q.n x.Q.c, .slice x.mO x.mn x.mc] 34)).alloc (.cells #[.int .i64 x.V, .int .i64 x.W, .int .i64 x.H, .int .i64 x.K, .int .i64 x.L, .int .i64 x.D, .int .i64 x.N, .int .i64 x.M] 23)).cell? ⟨w.heap.size, 12, none⟩ = some (.slice x.yO x.yn x.yc) by simp)
  have c13 := fresh_cell hf1 (show ((w.alloc (.cells #[.int .i64 x.V, .int .i64 x.W, .int .i64 x.H, .int .i64 x.K, .int .i64 x.L, .int .i64 x.D, .int .i64 x.N, .int .i64 x.M, .int .i64 x.E.R, .int .i64 x.E.C, .slice x.E.O x.E.n x.E.c, .slice x.tO x.tn x.tc, .slice x.yO x.yn x.yc, .slice x.F.O x.F.n x.F.c, .int .i64 x.Q.R, .int .i64 x.Q.C, .slice x.Q.O x.Q.n x.Q.c, .slice x.mO x.mn x.mc] 34)).alloc (.cells #[.int .i64 x.V, .int .i64 x.W, .int .i64 x.H, .int .i64 x.K, .int .i64 x.L, .int .i64 x.D, .int .i64 x.N, .int .i64 x.M] 23)).cell? ⟨w.heap.size, 13, none⟩ = some (.slice x.F.O x.F.n x.F.c) by simp)
  have c14 := fresh_cell hf1 (show ((w.alloc (.cells #[.int .i64 x.V, .int .i64 x.W, .int .i64 x.H, .int .i64 x.K, .int .i64 x.L, .int .i64 x.D, .int .i64 x.N, .int .i64 x.M, .int .i64 x.E.R, .int .i64 x.E.C, .slice x.E.O x.E.n x.E.c, .slice x.tO x.tn x.tc, .slice x.yO x.yn x.yc, .slice x.F.O x.F.n x.F.c, .int .i64 x.Q.R, .int .i64 x.Q.C, .slice x.Q.O x.Q.n x.Q.c, .slice x.mO x.mn x.mc] 34)).alloc (.cells #[.int .i64 x.V, .int .i64 x.W, .int .i64 x.H, .int .i64 x.K, .int .i64 x.L, .int .i64 x.D, .int .i64 x.N, .int .i64 x.M] 23)).cell? ⟨w.heap.size, 14, none⟩ = some (.int .i64 x.Q.R) by simp)
  have c15 := fresh_cell hf1 (show ((w.alloc (.cells #[.int .i64 x.V, .int .i64 x.W, .int .i64 x.H, .int .i64 x.K, .int .i64 x.L, .int .i64 x.D, .int .i64 x.N, .int .i64 x.M, .int .i64 x.E.R, .int .i64 x.E.C, .slice x.E.O x.E.n x.E.c, .slice x.tO x.tn x.tc, .slice x.yO x.yn x.yc, .slice x.F.O x.F.n x.F.c, .int .i64 x.Q.R, .int .i64 x.Q.C, .slice x.Q.O x.Q.n x.Q.c, .slice x.mO x.mn x.mc] 34)).alloc (.cells #[.int .i64 x.V, .int .i64 x.W, .int .i64 x.H, .int .i64 x.K, .int .i64 x.L, .int .i64 x.D, .int .i64 x.N, .int .i64 x.M] 23)).cell? ⟨w.heap.size, 15, none⟩ = some (.int .i64 x.Q.C) by simp)
  have c16 := fresh_cell hf1 (show ((w.alloc (.cells #[.int .i64 x.V, .int .i64 x.W, .int .i64 x.H, .int .i64 x.K, .int .i64 x.L, .int .i64 x.D, .int .i64 x.N, .int .i64 x.M, .int .i64 x.E.R, .int .i64 x.E.C, .slice x.E.O x.E.n x.E.c, .slice x.tO x.tn x.tc, .slice x.yO x.yn x.yc, .slice x.F.O x.F.n x.F.c, .int .i64 x.Q.R, .int .i64 x.Q.C, .slice x.Q.O x.Q.n x.Q.c, .slice x.mO x.mn x.mc] 34)).alloc (.cells #[.int .i64 x.V, .int .i64 x.W, .int .i64 x.H, .int .i64 x.K, .int .i64 x.L, .int .i64 x.D, .int .i64 x.N, .int .i64 x.M] 23)).cell? ⟨w.heap.size, 16, none⟩ = some (.slice x.Q.O x.Q.n x.Q.c) by simp)
  have c17 := fresh_cell hf1 (show ((w.alloc (.cells #[.int .i64 x.V, .int .i64 x.W, .int .i64 x.H, .int .i64 x.K, .int .i64 x.L, .int .i64 x.D, .int .i64 x.N, .int .i64 x.M, .int .i64 x.E.R, .int .i64 x.E.C, .slice x.E.O x.E.n x.E.c, .slice x.tO x.tn x.tc, .slice x.yO x.yn x.yc, .slice x.F.O x.F.n x.F.c, .int .i64 x.Q.R, .int .i64 x.Q.C, .slice x.Q.O x.Q.n x.Q.c, .slice x.mO x.mn x.mc] 34)).alloc (.cells #[.int .i64 x.V, .int .i64 x.W, .int .i64 x.H, .int .i64 x.K, .int .i64 x.L, .int .i64 x.D, .int .i64 x.N, .int .i64 x.M] 23)).cell? ⟨w.heap.size, 17, none⟩ = some (.slice x.mO x.mn x.mc) by simp)
  have d0 := fresh_cell hf1 (show ((w.alloc (.cells #[.int .i64 x.V, .int .i64 x.W, .int .i64 x.H, .int .i64 x.K, .int .i64 x.L, .int .i64 x.D, .int .i64 x.N, .int .i64 x.M, .int .i64 x.E.R, .int .i64 x.E.C, .slice x.E.O x.E.n x.E.c, .slice x.tO x.tn x.tc, .slice x.yO x.yn x.yc, .slice x.F.O x.F.n x.F.c, .int .i64 x.Q.R, .int .i64 x.Q.C, .slice x.Q.O x.Q.n x.Q.c, .slice x.mO x.mn x.mc] 34)).alloc (.cells #[.int .i64 x.V, .int .i64 x.W, .int .i64 x.H, .int .i64 x.K, .int .i64 x.L, .int .i64 x.D, .int .i64 x.N, .int .i64 x.M] 23)).cell? ⟨w.heap.size + 1, 0, none⟩ = some (.int .i64 x.V) by simp)
  have d1 := fresh_cell hf1 (show ((w.alloc (.cells #[.int .i64 x.V, .int .i64 x.W, .int .i64 x.H, .int .i64 x.K, .int .i64 x.L, .int .i64 x.D, .int .i64 x.N, .int .i64 x.M, .int .i64 x.E.R, .int .i64 x.E.C, .slice x.E.O x.E.n x.E.c, .slice x.tO x.tn x.tc, .slice x.yO x.yn x.yc, .slice x.F.O x.F.n x.F.c, .int .i64 x.Q.R, .int .i64 x.Q.C, .slice x.Q.O x.Q.n x.Q.c, .slice x.mO x.mn x.mc] 34)).alloc (.cells #[.int .i64 x.V, .int .i64 x.W, .int .i64 x.H, .int .i64 x.K, .int .i64 x.L, .int .i64 x.D, .int .i64 x.N, .int .i64 x.M] 23)).cell? ⟨w.heap.size + 1, 1, none⟩ = some (.int .i64 x.W) by simp)
  have d2 := fresh_cell hf1 (show ((w.alloc (.cells #[.int .i64 x.V, .int .i64 x.W, .int .i64 x.H, .int .i64 x.K, .int .i64 x.L, .int .i64 x.D, .int .i64 x.N, .int .i64 x.M, .int .i64 x.E.R, .int .i64 x.E.C, .slice x.E.O x.E.n x.E.c, .slice x.tO x.tn x.tc, .slice x.yO x.yn x.yc, .slice x.F.O x.F.n x.F.c, .int .i64 x.Q.R, .int .i64 x.Q.C, .slice x.Q.O x.Q.n x.Q.c, .slice x.mO x.mn x.mc] 34)).alloc (.cells #[.int .i64 x.V, .int .i64 x.W, .int .i64 x.H, .int .i64 x.K, .int .i64 x.L, .int .i64 x.D, .int .i64 x.N, .int .i64 x.M] 23)).cell? ⟨w.heap.size + 1, 2, none⟩ = some (.int .i64 x.H) by simp)
  have d3 := fresh_cell hf1 (show ((w.alloc (.cells #[.int .i64 x.V, .int .i64 x.W, .int .i64 x.H, .int .i64 x.K, .int .i64 x.L, .int .i64 x.D, .int .i64 x.N, .int .i64 x.M, .int .i64 x.E.R, .int .i64 x.E.C, .slice x.E.O x.E.n x.E.c, .slice x.tO x.tn x.tc, .slice x.yO x.yn x.yc, .slice x.F.O x.F.n x.F.c, .int .i64 x.Q.R, .int .i64 x.Q.C, .slice x.Q.O x.Q.n x.Q.c, .slice x.mO x.mn x.mc] 34)).alloc (.cells #[.int .i64 x.V, .int .i64 x.W, .int .i64 x.H, .int .i64 x.K, .int .i64 x.L, .int .i64 x.D, .int .i64 x.N, .int .i64 x.M] 23)).cell? ⟨w.heap.size + 1, 3, none⟩ = some (.int .i64 x.K) by simp)
  have d4 := fresh_cell hf1 (show ((w.alloc (.cells #[.int .i64 x.V, .int .i64 x.W, .int .i64 x.H, .int .i64 x.K, .int .i64 x.L, .int .i64 x.D, .int .i64 x.N, .int .i64 x.M, .int .i64 x.E.R, .int .i64 x.E.C, .slice x.E.O x.E.n x.E.c, .slice x.tO x.tn x.tc, .slice x.yO x.yn x.yc, .slice x.F.O x.F.n x.F.c, .int .i64 x.Q.R, .int .i64 x.Q.C, .slice x.Q.O x.Q.n x.Q.c, .slice x.mO x.mn x.mc] 34)).alloc (.cells #[.int .i64 x.V, .int .i64 x.W, .int .i64 x.H, .int .i64 x.K, .int .i64 x.L, .int .i64 x.D, .int .i64 x.N, .int .i64 x.M] 23)).cell? ⟨w.heap.size + 1, 4, none⟩ = some (.int .i64 x.L) by simp)
  have d5 := fresh_cell hf1 (show ((w.alloc (.cells #[.int .i64 x.V, .int .i64 x.W, .int .i64 x.H, .int .i64 x.K, .int .i64 x.L, .int .i64 x.D, .int .i64 x.N, .int .i64 x.M, .int .i64 x.E.R, .int .i64 x.E.C, .slice x.E.O x.E.n x.E.c, .slice x.tO x.tn x.tc, .slice x.yO x.yn x.yc, .slice x.F.O x.F.n x.F.c, .int .i64 x.Q.R, .int .i64 x.Q.C, .slice x.Q.O x.Q.n x.Q.c, .slice x.mO x.mn x.mc] 34)).alloc (.cells #[.int .i64 x.V, .int .i64 x.W, .int .i64 x.H, .int .i64 x.K, .int .i64 x.L, .int .i64 x.D, .int .i64 x.N, .int .i64 x.M] 23)).cell? ⟨w.heap.size + 1, 5, none⟩ = some (.int .i64 x.D) by simp)
  have d6 := fresh_cell hf1 (show ((w.alloc (.cells #[.int .i64 x.V, .int .i64 x.W, .int .i64 x.H, .int .i64 x.K, .int .i64 x.L, .int .i64 x.D, .int .i64 x.N, .int .i64 x.M, .int .i64 x.E.R, .int .i64 x.E.C, .slice x.E.O x.E.n x.E.c, .slice x.tO x.tn x.tc, .slice x.yO x.yn x.yc, .slice x.F.O x.F.n x.F.c, .int .i64 x.Q.R, .int .i64 x.Q.C, .slice x.Q.O x.Q.n x.Q.c, .slice x.mO x.mn x.mc] 34)).alloc (.cells #[.int .i64 x.V, .int .i64 x.W, .int .i64 x.H, .int .i64 x.K, .int .i64 x.L, .int .i64 x.D, .int .i64 x.N, .int .i64 x.M] 23)).cell? ⟨w.heap.size + 1, 6, none⟩ = some (.int .i64 x.N) by simp)
  have d7 := fresh_cell hf1 (show ((w.alloc (.cells #[.int .i64 x.V, .int .i64 x.W, .int .i64 x.H, .int .i64 x.K, .int .i64 x.L, .int .i64 x.D, .int .i64 x.N, .int .i64 x.M, .int .i64 x.E.R, .int .i64 x.E.C, .slice x.E.O x.E.n x.E.c, .slice x.tO x.tn x.tc, .slice x.yO x.yn x.yc, .slice x.F.O x.F.n x.F.c, .int .i64 x.Q.R, .int .i64 x.Q.C, .slice x.Q.O x.Q.n x.Q.c, .slice x.mO x.mn x.mc] 34)).alloc (.cells #[.int .i64 x.V, .int .i64 x.W, .int .i64 x.H, .int .i64 x.K, .int .i64 x.L, .int .i64 x.D, .int .i64 x.N, .int .i64 x.M] 23)).cell? ⟨w.heap.size + 1, 7, none⟩ = some (.int .i64 x.M) by simp)
  have hF := fresh_trans hf0 hf1
  clear hf0 hf1
  by_cases h40 : er = 40
  · rw [if_pos h40]
    have HY := hidd h40
    clear h40
    go_wp2
    go_ret
    exact ⟨ret_int HY.out.symm, hF⟩
  rw [if_neg h40]
  have hmay : x.may := by
    rcases HE.out with ⟨_, e⟩ | ⟨h, _⟩ | ⟨h, _⟩
    · exact absurd e h40
    · exact h
    · exact h
  have H41 : Hid (¬ WtP x → er = 41) := fun hn => by
    rcases HE.out with ⟨_, e⟩ | ⟨_, _, e⟩ | ⟨_, h, _⟩
    · exact absurd e h40
    · exact e
    · exact absurd h hn
  have H00 : Hid (WtP x → er = 0) := fun hp => by
    rcases HE.out with ⟨_, e⟩ | ⟨_, h, _⟩ | ⟨_, _, e⟩
    · exact absurd e h40
    · exact absurd hp h
    · exact e
  obtain ⟨mV, mW, mH, _, mK, _, mL, mD, mN, mM⟩ := hmay
  have hkv := kv_bd mH.1 mK.1 mK.2 mW.1 mW.2
  have hq0 : 0 ≤ x.W / x.H := Int.ediv_nonneg (by omega) (by omega)
  have hq1 : x.W / x.H ≤ x.W := Int.ediv_le_self _ (by omega)
  have e1 : (x.W / x.H).tdiv 2 = x.W / x.H / 2 := Int.tdiv_eq_ediv_of_nonneg hq0
  have HX1 := hidd (HX.out.fresh hF)
  clear HE HX h40
  have C0 := hidd c0
  have C1 := hidd c1
  have C2 := hidd c2
  have C3 := hidd c3
  have C4 := hidd c4
  have C5 := hidd c5
  have C6 := hidd c6
  have C7 := hidd c7
  have C8 := hidd c8
  have C9 := hidd c9
  have C10 := hidd c10
  have C11 := hidd c11
  have C12 := hidd c12
  have C13 := hidd c13
  have C14 := hidd c14
  have C15 := hidd c15
  have C16 := hidd c16
  have C17 := hidd c17
  have D0 := hidd d0
  have D1 := hidd d1
  have D2 := hidd d2
  have D3 := hidd d3
  have D4 := hidd d4
  have D5 := hidd d5
  have D6 := hidd d6
  have D7 := hidd d7
  go_wp2
  replace c8 := later_cell c8
  replace c9 := later_cell c9
  replace c10 := later_cell c10
  replace c11 := later_cell c11
  replace c13 := later_cell c13
  replace c14 := later_cell c14
  replace c15 := later_cell c15
  replace c16 := later_cell c16
  replace d0 := later_cell d0
  replace d1 := later_cell d1
  replace d2 := later_cell d2
  replace d3 := later_cell d3
  replace d4 := later_cell d4
  replace d5 := later_cell d5
  replace d6 := later_cell d6
  replace d7 := later_cell d7
  have ne := later_some w1
  by_cases pE : ¬ x.E.isa x.V x.W
  · have HY : Hid (er = 41) := H41.out (fun h => pE h.E)
    clear H41 H00
    refine wp_region_later (by kernel_rfl) (by kernel_rfl) ?_
    repeat (go_big_quiet_step (fail))
    go_big_quiet_step (exact later_of (is_ref (HX1.out.E.rd.fresh (Later.fresh _)) HX1.out.E.bd false ⟨fun h => (by cases h), fun h => absurd h pE⟩))
    repeat (go_big_quiet_step (fail))
    refine wpQuiet_nil ?_
    rintro _ ⟨z, rfl⟩
    have hC := z.fresh
    go_wp2
    go_ret
    exact ⟨ret_int HY.out.symm, fresh_trans hF hC⟩
  replace pE : x.E.isa x.V x.W := Classical.not_not.1 pE
  by_cases pQ : ¬ x.Q.isa x.V x.W
  · have HY : Hid (er = 41) := H41.out (fun h => pQ h.Q)
    clear H41 H00
    refine wp_region_later (by kernel_rfl) (by kernel_rfl) ?_
    repeat (go_big_quiet_step (fail))
    go_big_quiet_step (exact later_of (is_ref (HX1.out.E.rd.fresh (Later.fresh _)) HX1.out.E.bd true ⟨fun _ => pE, fun _ => rfl⟩))
    repeat (go_big_quiet_step (fail))
    go_big_quiet_step (exact later_of (is_ref (HX1.out.Q.rd.fresh (Later.fresh _)) HX1.out.Q.bd false ⟨fun h => (by cases h), fun h => absurd h pQ⟩))
    repeat (go_big_quiet_step (fail))
    refine wpQuiet_nil ?_
    rintro _ ⟨z, rfl⟩
    have hC := z.fresh
    go_wp2
    go_ret
    exact ⟨ret_int HY.out.symm, fresh_trans hF hC⟩
  replace pQ : x.Q.isa x.V x.W := Classical.not_not.1 pQ
  by_cases pF : ¬ x.F.gains x.W
  · have HY : Hid (er = 41) := H41.out (fun h => pF h.F)
    clear H41 H00
    refine wp_region_later (by kernel_rfl) (by kernel_rfl) ?_
    repeat (go_big_quiet_step (fail))
    go_big_quiet_step (exact later_of (is_ref (HX1.out.E.rd.fresh (Later.fresh _)) HX1.out.E.bd true ⟨fun _ => pE, fun _ => rfl⟩))
    repeat (go_big_quiet_step (fail))
    go_big_quiet_step (exact later_of (is_ref (HX1.out.Q.rd.fresh (Later.fresh _)) HX1.out.Q.bd true ⟨fun _ => pQ, fun _ => rfl⟩))
    repeat (go_big_quiet_step (fail))
    go_big_quiet_step (exact later_of (gains_ref (HX1.out.F.rd.fresh (Later.fresh _)) HX1.out.F.bd x.W false ⟨fun h => (by cases h), fun h => absurd h pF⟩))
    repeat (go_big_quiet_step (fail))
    refine wpQuiet_nil ?_
    rintro _ ⟨z, rfl⟩
    have hC := z.fresh
    go_wp2
    go_ret
    exact ⟨ret_int HY.out.symm, fresh_trans hF hC⟩
  replace pF : x.F.gains x.W := Classical.not_not.1 pF
  by_cases pT : ¬ TnP x.tn x.tC x.tS (x.W / x.H / 2)
  · have HY : Hid (er = 41) := H41.out (fun h => pT h.T)
    clear H41 H00
    refine wp_region_later (by kernel_rfl) (by kernel_rfl) ?_
    repeat (go_big_quiet_step (fail))
    go_big_quiet_step (exact later_of (is_ref (HX1.out.E.rd.fresh (Later.fresh _)) HX1.out.E.bd true ⟨fun _ => pE, fun _ => rfl⟩))
    repeat (go_big_quiet_step (fail))
    go_big_quiet_step (exact later_of (is_ref (HX1.out.Q.rd.fresh (Later.fresh _)) HX1.out.Q.bd true ⟨fun _ => pQ, fun _ => rfl⟩))
    repeat (go_big_quiet_step (fail))
    go_big_quiet_step (exact later_of (gains_ref (HX1.out.F.rd.fresh (Later.fresh _)) HX1.out.F.bd x.W true ⟨fun _ => pF, fun _ => rfl⟩))
    repeat (go_big_quiet_step (fail))
    go_big_quiet_step (exact later_of (head_ref _ _ _ _ _ _ _ _ _ mH.1 mH.2 mW.1 mW.2))
    repeat (go_big_quiet_step (fail))
    go_big_quiet_step (exact later_of (turns_ref (HX1.out.T.fresh (Later.fresh _)) (x.W / x.H / 2) false ⟨fun h => (by cases h), fun h => absurd h pT⟩))
    repeat (go_big_quiet_step (fail))
    refine wpQuiet_nil ?_
    rintro _ ⟨z, rfl⟩
    have hC := z.fresh
    go_wp2
    go_ret
    exact ⟨ret_int HY.out.symm, fresh_trans hF hC⟩
  replace pT : TnP x.tn x.tC x.tS (x.W / x.H / 2) := Classical.not_not.1 pT
  refine wp_region_later (by kernel_rfl) (by kernel_rfl) ?_
  repeat (go_big_quiet_step (fail))
  go_big_quiet_step (exact later_of (is_ref (HX1.out.E.rd.fresh (Later.fresh _)) HX1.out.E.bd true ⟨fun _ => pE, fun _ => rfl⟩))
  repeat (go_big_quiet_step (fail))
  go_big_quiet_step (exact later_of (is_ref (HX1.out.Q.rd.fresh (Later.fresh _)) HX1.out.Q.bd true ⟨fun _ => pQ, fun _ => rfl⟩))
  repeat (go_big_quiet_step (fail))
  go_big_quiet_step (exact later_of (gains_ref (HX1.out.F.rd.fresh (Later.fresh _)) HX1.out.F.bd x.W true ⟨fun _ => pF, fun _ => rfl⟩))
  repeat (go_big_quiet_step (fail))
  go_big_quiet_step (exact later_of (head_ref _ _ _ _ _ _ _ _ _ mH.1 mH.2 mW.1 mW.2))
  repeat (go_big_quiet_step (fail))
  go_big_quiet_step (exact later_of (turns_ref (HX1.out.T.fresh (Later.fresh _)) (x.W / x.H / 2) true ⟨fun _ => pT, fun _ => rfl⟩))
  repeat (go_big_quiet_step (fail))
  refine wpQuiet_nil ?_
  rintro _ ⟨z, rfl⟩
  have hC := z.fresh
  clear ne c8 c9 c10 c11 c13 c14 c15 c16 d0 d1 d2 d3 d4 d5 d6 d7
  generalize z.val = w2 at *
  clear z
  have c12' := fresh_cell hC C12.out
  have c17' := fresh_cell hC C17.out
  have d4' := fresh_cell hC D4.out
  have d7' := fresh_cell hC D7.out
  clear c0 c1 c2 c3 c4 c5 c6 c7 c12 c17
  by_cases hy : ¬ (x.yn : Int) = x.L
  · have HY : Hid (er = 41) := H41.out (fun h => hy h.yn)
    have ey : ((x.yn : Int) != x.L) = true := by simp [hy]
    clear H41 H00 hy
    go_wp2
    go_ret
    exact ⟨ret_int HY.out.symm, fresh_trans hF hC⟩
  replace hy : (x.yn : Int) = x.L := Classical.not_not.1 hy
  have ey : ((x.yn : Int) != x.L) = false := by simp [hy]
  by_cases hm : ¬ (x.mn : Int) = x.M
  · have HY : Hid (er = 41) := H41.out (fun h => hm h.mn)
    have em : ((x.mn : Int) != x.M) = true := by simp [hm]
    clear H41 H00 hy hm
    go_wp2
    go_ret
    exact ⟨ret_int HY.out.symm, fresh_trans hF hC⟩
  replace hm : (x.mn : Int) = x.M := Classical.not_not.1 hm
  have em : ((x.mn : Int) != x.M) = false := by simp [hm]
  have HYN := hidd hy
  have HMN := hidd hm
  clear hy hm
  go_wp2
  clear ey em c12' c17' d4' d7'
  go_loopw [5] (fun i wr => ∃ k : Nat, k ≤ x.yn ∧ i = .int .i64 k ∧ Hid (∀ j, j < k → LyP (x.ly j) x.W (x.K * (x.W / x.H)) x.D) ∧ Below w1.heap.size w1 wr) (fun i _ => x.yn - (intOf i).toNat)
  case atStart => exact ⟨0, by omega, rfl, fun j hj => absurd hj (by omega), hC⟩
  case round =>
    clear hC
    obtain ⟨k, hk, rfl, HK, hC⟩ := hrel
    have d4 := fresh_cell hC D4.out
    have hyn := HYN.out
    by_cases hlt : k < x.yn
    · obtain ⟨yb, yf, hyO, hyc⟩ := HX1.out.yat (by omega)
      have hly := (hyc k hlt).fresh hC
      have HRG := hidd hly.range
      clear hly
      have c12 := fresh_cell hC C12.out
      rw [hyO] at c12
      have d0 := fresh_cell hC D0.out
      have d1 := fresh_cell hC D1.out
      have d2 := fresh_cell hC D2.out
      have d3 := fresh_cell hC D3.out
      have d5 := fresh_cell hC D5.out
      have d6 := fresh_cell hC D6.out
      have d7 := fresh_cell hC D7.out
      have i1 : (0 : Int) ≤ (k : Int) := Int.natCast_nonneg _
      have i2 : (k : Int) < (x.yn : Int) := by omega
      have i3 : (k : Int) < x.L := by omega
      clear hyc hyO hyn
      by_cases pL : ¬ LyP (x.ly k) x.W (x.K * (x.W / x.H)) x.D
      · have HY : Hid (er = 41) := H41.out (fun h => pL (h.y k hlt))
        clear H41 H00
        go_wp2
        replace c12 := later_cell c12; replace d0 := later_cell d0; replace d1 := later_cell d1; replace d2 := later_cell d2; replace d3 := later_cell d3; replace d4 := later_cell d4; replace d5 := later_cell d5; replace d6 := later_cell d6; replace d7 := later_cell d7
        have ne := later_some wr
        refine wp_region_later (by kernel_rfl) (by kernel_rfl) ?_
        iterate 4 (go_big_quiet_step (fail))
        refine Go.BigFrame.wpQuiet_want (by rfl) (fun K9 hK9 => ?_)
        refine quiet_load_mid 67 _ rfl yb (yf + k * 30) rfl (lyL (x.ly k)) _ (fun w9 hw9 => by obtain ⟨z9, rfl⟩ := hw9; exact fun j v h => fresh_cell z9.fresh (HRG.out j v h)) Try.underlying67 rfl (sizeLy _) (hK9 _ ?_)
        delta lyL
        rw [put_list]
        simp only [List.set_cons_succ, List.set_cons_zero]
        repeat (go_big_quiet_step (fail))
        go_big_quiet_step (exact later_of (layer_ref ((HX1.out.yr k hlt).fresh (fresh_trans hC (Later.fresh _))) x.V x.W x.H x.K x.L x.D x.N x.M _ mH.1 mH.2 mW.1 mW.2 rfl hkv.1 hkv.2 false ⟨fun h => (by cases h), fun h => absurd h pL⟩))
        repeat (go_big_quiet_step (fail))
        refine wpQuiet_nil ?_
        rintro _ ⟨z, rfl⟩
        have hz := z.fresh
        go_wp2
        go_ret
        exact ⟨ret_int HY.out.symm, fresh_trans hF (fresh_trans hC hz)⟩
      · replace pL : LyP (x.ly k) x.W (x.K * (x.W / x.H)) x.D := Classical.not_not.1 pL
        have HK' : Hid (∀ j, j < k + 1 → LyP (x.ly j) x.W (x.K * (x.W / x.H)) x.D) := fun j hj => by
          by_cases e : j = k
          · rw [e]; exact pL
          · exact HK.out j (by omega)
        go_wp2
        replace c12 := later_cell c12; replace d0 := later_cell d0; replace d1 := later_cell d1; replace d2 := later_cell d2; replace d3 := later_cell d3; replace d4 := later_cell d4; replace d5 := later_cell d5; replace d6 := later_cell d6; replace d7 := later_cell d7
        have ne := later_some wr
        refine wp_region_later (by kernel_rfl) (by kernel_rfl) ?_
        iterate 4 (go_big_quiet_step (fail))
        refine Go.BigFrame.wpQuiet_want (by rfl) (fun K9 hK9 => ?_)
        refine quiet_load_mid 67 _ rfl yb (yf + k * 30) rfl (lyL (x.ly k)) _ (fun w9 hw9 => by obtain ⟨z9, rfl⟩ := hw9; exact fun j v h => fresh_cell z9.fresh (HRG.out j v h)) Try.underlying67 rfl (sizeLy _) (hK9 _ ?_)
        delta lyL
        rw [put_list]
        simp only [List.set_cons_succ, List.set_cons_zero]
        repeat (go_big_quiet_step (fail))
        go_big_quiet_step (exact later_of (layer_ref ((HX1.out.yr k hlt).fresh (fresh_trans hC (Later.fresh _))) x.V x.W x.H x.K x.L x.D x.N x.M _ mH.1 mH.2 mW.1 mW.2 rfl hkv.1 hkv.2 true ⟨fun _ => pL, fun _ => rfl⟩))
        repeat (go_big_quiet_step (fail))
        refine wpQuiet_nil ?_
        rintro _ ⟨z, rfl⟩
        have hz := z.fresh
        clear ne c12 d0 d1 d2 d3 d4 d5 d6 d7
        generalize z.val = wz at *
        clear z
        go_wp2
        go_roundw
        case rel => exact ⟨k + 1, by omega, by go_num, HK', fresh_trans hC hz⟩
        case measure => simp [intOf]; omega
    · have i3 : ¬ (k : Int) < x.L := by omega
      have HY1 : Hid (∀ j, j < x.yn → LyP (x.ly j) x.W (x.K * (x.W / x.H)) x.D) := fun j hj => HK.out j (by omega)
      clear hyn HK
      go_wp2
      clear d4
      go_loopw [7] (fun i wr => ∃ k : Nat, k ≤ x.mn ∧ i = .int .i64 k ∧ Hid (∀ j, j < k → (x.md j).isa x.V x.W) ∧ Below w1.heap.size w1 wr) (fun i _ => x.mn - (intOf i).toNat)
      case atStart => exact ⟨0, by omega, rfl, fun j hj => absurd hj (by omega), hC⟩
      case round =>
        clear hC
        obtain ⟨m, hm, rfl, HM, hC⟩ := hrel
        have d7 := fresh_cell hC D7.out
        have hmn := HMN.out
        by_cases hlm : m < x.mn
        · obtain ⟨mb, mf, hmO, hmc⟩ := HX1.out.mat (by omega)
          have hmm := (hmc m hlm).fresh hC
          obtain ⟨y0, y1, y2⟩ := hmm
          have c17 := fresh_cell hC C17.out
          rw [hmO] at c17
          have d0 := fresh_cell hC D0.out
          have d1 := fresh_cell hC D1.out
          have j1 : (0 : Int) ≤ (m : Int) := Int.natCast_nonneg _
          have j2 : (m : Int) < (x.mn : Int) := by omega
          have j3 : (m : Int) < x.M := by omega
          clear hmc hmO hmn
          by_cases pM : ¬ (x.md m).isa x.V x.W
          · have HY : Hid (er = 41) := H41.out (fun h => pM (h.m m hlm))
            clear H41 H00
            go_wp2
            replace y0 := later_cell y0; replace y1 := later_cell y1; replace y2 := later_cell y2; replace c17 := later_cell c17; replace d0 := later_cell d0; replace d1 := later_cell d1
            have ne := later_some wr
            refine wp_region_later (by kernel_rfl) (by kernel_rfl) ?_
            repeat (go_big_quiet_step (fail))
            go_big_quiet_step (exact later_of (is_ref ((HX1.out.mr m hlm).rd.fresh (fresh_trans hC (Later.fresh _))) (HX1.out.mr m hlm).bd false ⟨fun h => (by cases h), fun h => absurd h pM⟩))
            repeat (go_big_quiet_step (fail))
            refine wpQuiet_nil ?_
            rintro _ ⟨z, rfl⟩
            have hz := z.fresh
            go_wp2
            go_ret
            exact ⟨ret_int HY.out.symm, fresh_trans hF (fresh_trans hC hz)⟩
          · replace pM : (x.md m).isa x.V x.W := Classical.not_not.1 pM
            have HM' : Hid (∀ j, j < m + 1 → (x.md j).isa x.V x.W) := fun j hj => by
              by_cases e : j = m
              · rw [e]; exact pM
              · exact HM.out j (by omega)
            go_wp2
            replace y0 := later_cell y0; replace y1 := later_cell y1; replace y2 := later_cell y2; replace c17 := later_cell c17; replace d0 := later_cell d0; replace d1 := later_cell d1
            have ne := later_some wr
            refine wp_region_later (by kernel_rfl) (by kernel_rfl) ?_
            repeat (go_big_quiet_step (fail))
            go_big_quiet_step (exact later_of (is_ref ((HX1.out.mr m hlm).rd.fresh (fresh_trans hC (Later.fresh _))) (HX1.out.mr m hlm).bd true ⟨fun _ => pM, fun _ => rfl⟩))
            repeat (go_big_quiet_step (fail))
            refine wpQuiet_nil ?_
            rintro _ ⟨z, rfl⟩
            have hz := z.fresh
            clear ne y0 y1 y2 c17 d0 d1 d7
            generalize z.val = wz at *
            clear z
            go_wp2
            go_roundw
            case rel => exact ⟨m + 1, by omega, by go_num, HM', fresh_trans hC hz⟩
            case measure => simp [intOf]; omega
        · have j3 : ¬ (m : Int) < x.M := by omega
          have HY : Hid (er = 0) := H00.out ⟨pE, pQ, pF, pT, HYN.out, HMN.out, HY1.out, fun j hj => HM.out j (by omega)⟩
          clear hmn
          go_wp2
          go_ret
          exact ⟨ret_int HY.out.symm, fresh_trans hF hC⟩
end Go.Proofs.Ytilghknalbhacaa
