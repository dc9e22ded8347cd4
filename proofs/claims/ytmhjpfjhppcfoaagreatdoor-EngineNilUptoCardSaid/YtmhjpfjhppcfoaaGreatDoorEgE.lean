import Derived.Test.YtmhjpfjhppcfoaaGreatDoorEgD
namespace Go.Proofs.YtmhjpfjhppcfoaaGreatDoor
open Go.RowKit
/-! Refused; the reference's engine. -/
set_option maxRecDepth 100000 in
set_option maxHeartbeats 4000000 in
theorem refused_any {w : World} {x : WtD} (hm : x.may) {d : VD} {bo po : Option Addr} {cb cp : Nat} (hb : RdA w bo 1 d.nb cb (fun i => .int .u8 (d.B i))) (hp : RdA w po 2 d.np cp (tcs d.P d.Q)) (n2 : d.np ≤ 1048576) (sz : Int) (hs : d.sized sz) (c : Me) (er : Int) (he : EnE x sz c er) :
    Calls Tryz.prog 20 #[.agg #[.int .i64 x.V, .int .i64 x.W, .int .i64 x.H, .int .i64 x.K, .int .i64 x.L, .int .i64 x.D, .int .i64 x.N, .int .i64 x.M, .int .i64 x.E.R, .int .i64 x.E.C, .slice x.E.O x.E.n x.E.c, .slice x.tO x.tn x.tc, .slice x.yO x.yn x.yc, .slice x.F.O x.F.n x.F.c, .int .i64 x.Q.R, .int .i64 x.Q.C, .slice x.Q.O x.Q.n x.Q.c, .slice x.mO x.mn x.mc], .agg #[.slice bo d.nb cb, .slice po d.np cp], mV c] w fun e w' => e = .returned (.int .i64 er) ∧ Below w.heap.size w w' := by
  have HRC := hidd (fun (z : World) (hz : Below w.heap.size w z) (v : Int) (hv : (d.Right ∧ v = 0) ∨ (¬ d.Right ∧ v = 50)) => rcheck_any (hb.fresh hz) (hp.fresh hz) (by omega) v hv)
  have HRS := hidd (fun (z : World) (hz : Below w.heap.size w z) => rsize_any (hb.fresh hz) (hp.fresh hz) (by omega) sz hs)
  have HSC := hidd (fun (z : World) (v : Int) (h1 : okM c x.N → v = 0) (h2 : ¬ okM c x.N → v = 200) => srck_any z c x.N v h1 h2)
  have HE := hidd he
  have HS := hidd hs
  have hV2 : 2 ≤ x.V := hm.1.1
  obtain ⟨bs, bl, bu, ch, tr⟩ := c
  unfold mV at *
  simp only at HSC ⊢
  have HF : Hid (Below w.heap.size w (((w.alloc (.cells #[.int .i64 x.V, .int .i64 x.W, .int .i64 x.H, .int .i64 x.K, .int .i64 x.L, .int .i64 x.D, .int .i64 x.N, .int .i64 x.M, .int .i64 x.E.R, .int .i64 x.E.C, .slice x.E.O x.E.n x.E.c, .slice x.tO x.tn x.tc, .slice x.yO x.yn x.yc, .slice x.F.O x.F.n x.F.c, .int .i64 x.Q.R, .int .i64 x.Q.C, .slice x.Q.O x.Q.n x.Q.c, .slice x.mO x.mn x.mc] 31)).alloc (.cells #[.slice bo d.nb cb, .slice po d.np cp] 35)).alloc (.cells #[.int .i64 bs, .int .i64 bl, .int .i64 bu, .int .i64 ch, .int .i64 tr] 37))) := ((fresh_alloc w _).alloc (by simp) _).alloc (by simp; omega) _
  have HRW : Hid ((((w.alloc (.cells #[.int .i64 x.V, .int .i64 x.W, .int .i64 x.H, .int .i64 x.K, .int .i64 x.L, .int .i64 x.D, .int .i64 x.N, .int .i64 x.M, .int .i64 x.E.R, .int .i64 x.E.C, .slice x.E.O x.E.n x.E.c, .slice x.tO x.tn x.tc, .slice x.yO x.yn x.yc, .slice x.F.O x.F.n x.F.c, .int .i64 x.Q.R, .int .i64 x.Q.C, .slice x.Q.O x.Q.n x.Q.c, .slice x.mO x.mn x.mc] 31)).alloc (.cells #[.slice bo d.nb cb, .slice po d.np cp] 35)).alloc (.cells #[.int .i64 bs, .int .i64 bl, .int .i64 bu, .int .i64 ch, .int .i64 tr] 37)).rowIs w.heap.size 31 18 (fun i => ([.int .i64 x.V, .int .i64 x.W, .int .i64 x.H, .int .i64 x.K, .int .i64 x.L, .int .i64 x.D, .int .i64 x.N, .int .i64 x.M, .int .i64 x.E.R, .int .i64 x.E.C, .slice x.E.O x.E.n x.E.c, .slice x.tO x.tn x.tc, .slice x.yO x.yn x.yc, .slice x.F.O x.F.n x.F.c, .int .i64 x.Q.R, .int .i64 x.Q.C, .slice x.Q.O x.Q.n x.Q.c, .slice x.mO x.mn x.mc] : List Value).getD i undef)) := ((World.rowIs_list w [.int .i64 x.V, .int .i64 x.W, .int .i64 x.H, .int .i64 x.K, .int .i64 x.L, .int .i64 x.D, .int .i64 x.N, .int .i64 x.M, .int .i64 x.E.R, .int .i64 x.E.C, .slice x.E.O x.E.n x.E.c, .slice x.tO x.tn x.tc, .slice x.yO x.yn x.yc, .slice x.F.O x.F.n x.F.c, .int .i64 x.Q.R, .int .i64 x.Q.C, .slice x.Q.O x.Q.n x.Q.c, .slice x.mO x.mn x.mc] 31).alloc _).alloc _
  have HRV : Hid ((((w.alloc (.cells #[.int .i64 x.V, .int .i64 x.W, .int .i64 x.H, .int .i64 x.K, .int .i64 x.L, .int .i64 x.D, .int .i64 x.N, .int .i64 x.M, .int .i64 x.E.R, .int .i64 x.E.C, .slice x.E.O x.E.n x.E.c, .slice x.tO x.tn x.tc, .slice x.yO x.yn x.yc, .slice x.F.O x.F.n x.F.c, .int .i64 x.Q.R, .int .i64 x.Q.C, .slice x.Q.O x.Q.n x.Q.c, .slice x.mO x.mn x.mc] 31)).alloc (.cells #[.slice bo d.nb cb, .slice po d.np cp] 35)).alloc (.cells #[.int .i64 bs, .int .i64 bl, .int .i64 bu, .int .i64 ch, .int .i64 tr] 37)).rowIs (w.heap.size + 1) 35 2 (fun i => ([.slice bo d.nb cb, .slice po d.np cp] : List Value).getD i undef)) := by
    have := (World.rowIs_list (w.alloc (.cells #[.int .i64 x.V, .int .i64 x.W, .int .i64 x.H, .int .i64 x.K, .int .i64 x.L, .int .i64 x.D, .int .i64 x.N, .int .i64 x.M, .int .i64 x.E.R, .int .i64 x.E.C, .slice x.E.O x.E.n x.E.c, .slice x.tO x.tn x.tc, .slice x.yO x.yn x.yc, .slice x.F.O x.F.n x.F.c, .int .i64 x.Q.R, .int .i64 x.Q.C, .slice x.Q.O x.Q.n x.Q.c, .slice x.mO x.mn x.mc] 31)) [.slice bo d.nb cb, .slice po d.np cp] 35).alloc (.cells #[.int .i64 bs, .int .i64 bl, .int .i64 bu, .int .i64 ch, .int .i64 tr] 37)
    rwa [World.size_alloc] at this
  have HRE : Hid ((((w.alloc (.cells #[.int .i64 x.V, .int .i64 x.W, .int .i64 x.H, .int .i64 x.K, .int .i64 x.L, .int .i64 x.D, .int .i64 x.N, .int .i64 x.M, .int .i64 x.E.R, .int .i64 x.E.C, .slice x.E.O x.E.n x.E.c, .slice x.tO x.tn x.tc, .slice x.yO x.yn x.yc, .slice x.F.O x.F.n x.F.c, .int .i64 x.Q.R, .int .i64 x.Q.C, .slice x.Q.O x.Q.n x.Q.c, .slice x.mO x.mn x.mc] 31)).alloc (.cells #[.slice bo d.nb cb, .slice po d.np cp] 35)).alloc (.cells #[.int .i64 bs, .int .i64 bl, .int .i64 bu, .int .i64 ch, .int .i64 tr] 37)).rowIs (w.heap.size + 2) 37 5 (fun i => ([.int .i64 bs, .int .i64 bl, .int .i64 bu, .int .i64 ch, .int .i64 tr] : List Value).getD i undef)) := by
    have := World.rowIs_list ((w.alloc (.cells #[.int .i64 x.V, .int .i64 x.W, .int .i64 x.H, .int .i64 x.K, .int .i64 x.L, .int .i64 x.D, .int .i64 x.N, .int .i64 x.M, .int .i64 x.E.R, .int .i64 x.E.C, .slice x.E.O x.E.n x.E.c, .slice x.tO x.tn x.tc, .slice x.yO x.yn x.yc, .slice x.F.O x.F.n x.F.c, .int .i64 x.Q.R, .int .i64 x.Q.C, .slice x.Q.O x.Q.n x.Q.c, .slice x.mO x.mn x.mc] 31)).alloc (.cells #[.slice bo d.nb cb, .slice po d.np cp] 35)) [.int .i64 bs, .int .i64 bl, .int .i64 bu, .int .i64 ch, .int .i64 tr] 37
    rwa [World.size_alloc, World.size_alloc] at this
  clear hb hp he hs hm
  go_enter Tryz.func20, Tryz.ntmps20
  go_upto_region 1 with fail
  generalize (((w.alloc (.cells #[.int .i64 x.V, .int .i64 x.W, .int .i64 x.H, .int .i64 x.K, .int .i64 x.L, .int .i64 x.D, .int .i64 x.N, .int .i64 x.M, .int .i64 x.E.R, .int .i64 x.E.C, .slice x.E.O x.E.n x.E.c, .slice x.tO x.tn x.tc, .slice x.yO x.yn x.yc, .slice x.F.O x.F.n x.F.c, .int .i64 x.Q.R, .int .i64 x.Q.C, .slice x.Q.O x.Q.n x.Q.c, .slice x.mO x.mn x.mc] 31)).alloc (.cells #[.slice bo d.nb cb, .slice po d.np cp] 35)).alloc (.cells #[.int .i64 bs, .int .i64 bl, .int .i64 bu, .int .i64 ch, .int .i64 tr] 37)) = w1 at *
  obtain ⟨g, HG⟩ : ∃ g, Hid (g = w.heap.size) := ⟨_, rfl⟩
  rw [← HG.out] at HRW HRV HRE ⊢
  have HC : Hid (∀ z, Below w1.heap.size w1 z → z.cell? ⟨g, 6, none⟩ = some (.int .i64 x.N) ∧ z.cell? ⟨g + 2, 0, none⟩ = some (.int .i64 bs) ∧ z.cell? ⟨g + 2, 1, none⟩ = some (.int .i64 bl) ∧ z.cell? ⟨g + 2, 2, none⟩ = some (.int .i64 bu) ∧ z.cell? ⟨g + 2, 3, none⟩ = some (.int .i64 ch) ∧ z.cell? ⟨g + 2, 4, none⟩ = some (.int .i64 tr)) := fun z hz => ⟨fresh_cell hz (HRW.out.cell (i := 6) (by decide)), fresh_cell hz (HRE.out.cell (i := 0) (by decide)), fresh_cell hz (HRE.out.cell (i := 1) (by decide)), fresh_cell hz (HRE.out.cell (i := 2) (by decide)), fresh_cell hz (HRE.out.cell (i := 3) (by decide)), fresh_cell hz (HRE.out.cell (i := 4) (by decide))⟩
  have l0 := later_cell (show w1.cell? ⟨g, 0, none⟩ = some (.int .i64 x.V) from HRW.out.cell (i := 0) (by decide))
  have l1 := later_cell (show w1.cell? ⟨g + 1, 0, none⟩ = some (.slice bo d.nb cb) from HRV.out.cell (i := 0) (by decide))
  have l2 := later_cell (show w1.cell? ⟨g + 1, 1, none⟩ = some (.slice po d.np cp) from HRV.out.cell (i := 1) (by decide))
  have ne := later_some w1
  have HRS1 := hidd (fun z : Later w1 => HRS.out z.val (HF.out.trans (z.fresh.mono HF.out.size)))
  have HRC1 := hidd (fun (z : Later w1) v hv => HRC.out z.val (HF.out.trans (z.fresh.mono HF.out.size)) v hv)
  clear HRW HRV HRE HRS HRC
  by_cases hR : d.Right
  · have HK := hidd (fun z => HRC1.out z 0 (.inl ⟨hR, rfl⟩))
    clear HRC1 hR
    refine wp_region_later (by kernel_rfl) (by kernel_rfl) ?_
    repeat (go_big_quiet_step (fail))
    go_big_quiet_step (exact later_of (HK.out _))
    repeat (go_big_quiet_step (fail))
    go_big_quiet_step (exact later_of (HRS1.out _))
    repeat (go_big_quiet_step (fail))
    refine wpQuiet_nil ?_
    rintro _ ⟨z, rfl⟩
    have HB2 := hidd (HF.out.trans (z.fresh.mono HF.out.size))
    obtain ⟨c6, e0, e1, e2, e3, e4⟩ := HC.out _ z.fresh
    clear l0 l1 l2 ne HK HRS1 HC
    generalize z.val = w2 at *
    by_cases hsz : sz = x.V
    · have hd : (sz == x.V) = true := by simp; exact hsz
      by_cases hok : okM ⟨bs, bl, bu, ch, tr⟩ x.N
      · have her : er = 0 := by
          rcases HE.out with ⟨q, _⟩ | ⟨_, q, _⟩ | ⟨_, _, q⟩
          · exact absurd hsz q
          · exact absurd hok q
          · exact q
        subst her
        have HCK := hidd (HSC.out w2 0 (fun _ => rfl) (fun q => absurd hok q))
        clear HSC HE hok
        go_wp2_with (go_at_call 62; with_reducible refine HCK.out.mono ?_; rintro e w5 ⟨rfl, hb5⟩)
        go_ret
        exact ⟨rfl, HB2.out.trans (hb5.mono HB2.out.size)⟩
      · have her : er = 200 := by
          rcases HE.out with ⟨q, _⟩ | ⟨_, _, q⟩ | ⟨_, q, _⟩
          · exact absurd hsz q
          · exact q
          · exact absurd q hok
        subst her
        have HCK := hidd (HSC.out w2 200 (fun q => absurd q hok) (fun _ => rfl))
        clear HSC HE hok
        go_wp2_with (go_at_call 62; with_reducible refine HCK.out.mono ?_; rintro e w5 ⟨rfl, hb5⟩)
        go_ret
        exact ⟨rfl, HB2.out.trans (hb5.mono HB2.out.size)⟩
    · have hd : (sz == x.V) = false := by simp; exact hsz
      have her : er = 50 := by
        rcases HE.out with ⟨_, q⟩ | ⟨q, _⟩ | ⟨q, _⟩
        · exact q
        · exact absurd q hsz
        · exact absurd q hsz
      subst her
      clear HSC HE
      go_wp2
      go_ret
      exact ⟨rfl, HB2.out⟩
  · have HK := hidd (fun z => HRC1.out z 50 (.inr ⟨hR, rfl⟩))
    have hsz0 : sz = 0 := by
      rcases HS.out with ⟨q, _⟩ | ⟨_, q⟩
      · exact absurd q hR
      · exact q
    have her : er = 50 := by
      rcases HE.out with ⟨_, q⟩ | ⟨q, _⟩ | ⟨q, _⟩
      · exact q
      · omega
      · omega
    subst her
    clear HRC1 hR
    refine wp_region_later (by kernel_rfl) (by kernel_rfl) ?_
    repeat (go_big_quiet_step (fail))
    go_big_quiet_step (exact later_of (HK.out _))
    repeat (go_big_quiet_step (fail))
    refine wpQuiet_nil ?_
    rintro _ ⟨z, rfl⟩
    have HB2 := hidd (HF.out.trans (z.fresh.mono HF.out.size))
    clear l0 l1 l2 ne HK HRS1 HC
    go_wp2
    go_ret
    exact ⟨rfl, HB2.out⟩
end Go.Proofs.YtmhjpfjhppcfoaaGreatDoor
