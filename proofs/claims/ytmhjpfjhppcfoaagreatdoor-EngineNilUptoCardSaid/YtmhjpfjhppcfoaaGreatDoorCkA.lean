import Derived.Test.YtmhjpfjhppcfoaaGreatDoorFtA
namespace Go.Proofs.YtmhjpfjhppcfoaaGreatDoor
open Go.RowKit
/-! Check. -/
set_option maxRecDepth 20000 in
set_option maxHeartbeats 4000000 in
theorem check_any {w : World} {x : WtD} (hx : WtR w x) (er : Int) (he : IsE x er) :
    Calls Tryz.prog 96 #[.agg #[.int .i64 x.V, .int .i64 x.W, .int .i64 x.H, .int .i64 x.K, .int .i64 x.L, .int .i64 x.D, .int .i64 x.N, .int .i64 x.M, .int .i64 x.E.R, .int .i64 x.E.C, .slice x.E.O x.E.n x.E.c, .slice x.tO x.tn x.tc, .slice x.yO x.yn x.yc, .slice x.F.O x.F.n x.F.c, .int .i64 x.Q.R, .int .i64 x.Q.C, .slice x.Q.O x.Q.n x.Q.c, .slice x.mO x.mn x.mc]] w fun e w' => e = .returned (.int .i64 er) ∧ Below w.heap.size w w' := by
  have HX := hidd hx
  have HE := hidd he
  have hF := fresh_alloc w (.cells #[.int .i64 x.V, .int .i64 x.W, .int .i64 x.H, .int .i64 x.K, .int .i64 x.L, .int .i64 x.D, .int .i64 x.N, .int .i64 x.M, .int .i64 x.E.R, .int .i64 x.E.C, .slice x.E.O x.E.n x.E.c, .slice x.tO x.tn x.tc, .slice x.yO x.yn x.yc, .slice x.F.O x.F.n x.F.c, .int .i64 x.Q.R, .int .i64 x.Q.C, .slice x.Q.O x.Q.n x.Q.c, .slice x.mO x.mn x.mc] 31)
  have hG := heap_new w (.cells #[.int .i64 x.V, .int .i64 x.W, .int .i64 x.H, .int .i64 x.K, .int .i64 x.L, .int .i64 x.D, .int .i64 x.N, .int .i64 x.M, .int .i64 x.E.R, .int .i64 x.E.C, .slice x.E.O x.E.n x.E.c, .slice x.tO x.tn x.tc, .slice x.yO x.yn x.yc, .slice x.F.O x.F.n x.F.c, .int .i64 x.Q.R, .int .i64 x.Q.C, .slice x.Q.O x.Q.n x.Q.c, .slice x.mO x.mn x.mc] 31)
  clear hx he
  go_enter Tryz.func96, Tryz.ntmps96
  go_wp2_with fail
  have HF := hidd hF
  have HG := hidd hG
  clear hF hG
  generalize w.alloc (.cells #[.int .i64 x.V, .int .i64 x.W, .int .i64 x.H, .int .i64 x.K, .int .i64 x.L, .int .i64 x.D, .int .i64 x.N, .int .i64 x.M, .int .i64 x.E.R, .int .i64 x.E.C, .slice x.E.O x.E.n x.E.c, .slice x.tO x.tn x.tc, .slice x.yO x.yn x.yc, .slice x.F.O x.F.n x.F.c, .int .i64 x.Q.R, .int .i64 x.Q.C, .slice x.Q.O x.Q.n x.Q.c, .slice x.mO x.mn x.mc] 31) = w1 at *
  refine (config_any x.V x.W x.H x.K x.L x.D x.N x.M w1).mono ?_
  rintro e w2 ⟨rfl, h2⟩
  have CL := hidd (fun j => fresh_cells h2 HG.out j)
  have HF2 := hidd (fresh_trans HF.out h2)
  have HX2 := hidd (HX.out.fresh HF2.out)
  clear h2 HF HG HX
  rcases HE.out with ⟨hn, rfl⟩ | ⟨hm, hp, rfl⟩ | ⟨hm, hp, rfl⟩
  · rw [mayE_no hn]
    clear hn HE
    go_wp2
    go_ret
    exact ⟨rfl, HF2.out⟩
  · rw [mayE_ok hm]
    have c0 := CL.out 0
    have c1 := CL.out 1
    have c2 := CL.out 2
    have c3 := CL.out 3
    have c4 := CL.out 4
    have c5 := CL.out 5
    have c6 := CL.out 6
    have c7 := CL.out 7
    have c8 := CL.out 8
    have c9 := CL.out 9
    have c10 := CL.out 10
    have c11 := CL.out 11
    have c12 := CL.out 12
    have c13 := CL.out 13
    have c14 := CL.out 14
    have c15 := CL.out 15
    have c16 := CL.out 16
    have c17 := CL.out 17
    go_wp2_with fail
    refine (fit_any HX2.out hm false ⟨fun h => (by cases h), fun h => absurd h hp⟩).mono ?_
    rintro e w3 ⟨rfl, h3⟩
    clear c0 c1 c2 c3 c4 c5 c6 c7 c8 c9 c10 c11 c12 c13 c14 c15 c16 c17 hm hp HE
    go_wp2
    go_ret
    exact ⟨rfl, fresh_trans HF2.out h3⟩
  · rw [mayE_ok hm]
    have c0 := CL.out 0
    have c1 := CL.out 1
    have c2 := CL.out 2
    have c3 := CL.out 3
    have c4 := CL.out 4
    have c5 := CL.out 5
    have c6 := CL.out 6
    have c7 := CL.out 7
    have c8 := CL.out 8
    have c9 := CL.out 9
    have c10 := CL.out 10
    have c11 := CL.out 11
    have c12 := CL.out 12
    have c13 := CL.out 13
    have c14 := CL.out 14
    have c15 := CL.out 15
    have c16 := CL.out 16
    have c17 := CL.out 17
    go_wp2_with fail
    refine (fit_any HX2.out hm true ⟨fun _ => hp, fun _ => rfl⟩).mono ?_
    rintro e w3 ⟨rfl, h3⟩
    clear c0 c1 c2 c3 c4 c5 c6 c7 c8 c9 c10 c11 c12 c13 c14 c15 c16 c17 hm hp HE
    go_wp2
    go_ret
    exact ⟨rfl, fresh_trans HF2.out h3⟩
end Go.Proofs.YtmhjpfjhppcfoaaGreatDoor
