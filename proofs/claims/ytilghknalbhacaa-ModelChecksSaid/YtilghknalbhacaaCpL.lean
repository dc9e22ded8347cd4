import Derived.Test.YtilghknalbhacaaJAU
namespace Go.Proofs.Ytilghknalbhacaa
open Go.RowKit
/-! copied. -/
set_option maxRecDepth 100000 in
set_option maxHeartbeats 80000000 in
theorem copied_any {w : World} {x : WtD} (h : WtR w x) (hB : WtB x) :
    Calls Try.prog 39 #[.agg #[.int .i64 x.V, .int .i64 x.W, .int .i64 x.H, .int .i64 x.K, .int .i64 x.L, .int .i64 x.D, .int .i64 x.N, .int .i64 x.M, .int .i64 x.E.R, .int .i64 x.E.C, .slice x.E.O x.E.n x.E.c, .slice x.tO x.tn x.tc, .slice x.yO x.yn x.yc, .slice x.F.O x.F.n x.F.c, .int .i64 x.Q.R, .int .i64 x.Q.C, .slice x.Q.O x.Q.n x.Q.c, .slice x.mO x.mn x.mc]] w fun e w' => ∃ y, e = .returned (.agg (wtA y)) ∧ Cpy w w' x y := by
  have HCP := hidd (Cp.start w x)
  have HW := hidd h
  have HB := hidd hB
  clear h hB
  go_enter Try.func39, Try.ntmps39
  go_upto_region 1 with fail
  generalize hwa : (w.alloc (.cells #[.int .i64 x.V, .int .i64 x.W, .int .i64 x.H, .int .i64 x.K, .int .i64 x.L, .int .i64 x.D, .int .i64 x.N, .int .i64 x.M, .int .i64 x.E.R, .int .i64 x.E.C, .slice x.E.O x.E.n x.E.c, .slice x.tO x.tn x.tc, .slice x.yO x.yn x.yc, .slice x.F.O x.F.n x.F.c, .int .i64 x.Q.R, .int .i64 x.Q.C, .slice x.Q.O x.Q.n x.Q.c, .slice x.mO x.mn x.mc] 34)).alloc (.cells #[.int .i64 0, .int .i64 0, .int .i64 0, .int .i64 0, .int .i64 0, .int .i64 0, .int .i64 0, .int .i64 0, .int .i64 0, .int .i64 0, .slice none 0 0, .slice none 0 0, .slice none 0 0, .slice none 0 0, .int .i64 0, .int .i64 0, .slice none 0 0, .slice none 0 0] 34) = wc0 at *
  clear hwa
  have HC1 : Hid (∀ (z : World) (y : WtD), Cp w z y → Calls Try.prog 72 #[.agg #[.int .i64 x.E.R, .int .i64 x.E.C, .slice x.E.O x.E.n x.E.c]] z fun e w' => ∃ u c, e = .returned (.agg #[.int .i64 x.E.R, .int .i64 x.E.C, .slice u x.E.n c]) ∧ Own w' (w.heap.size + 2) 84 1 (.slice u x.E.n c) x.E.n (fun i => .int .i8 (x.E.f i)) ∧ Cp w w' y ∧ Below z.heap.size z w') := fun z y hz => by
    have h := HW.out
    have hB := HB.out
    exact (cpmat_any (h.E.fresh hz.low) hB.E).mono fun e w' ⟨u, c, h1, h2, h3⟩ => ⟨u, c, h1, h2.weaken hz.big, hz.fresh h3, h3⟩
  have HC2 : Hid (∀ (z : World) (y : WtD), Cp w z y → Calls Try.prog 72 #[.agg #[.int .i64 x.Q.R, .int .i64 x.Q.C, .slice x.Q.O x.Q.n x.Q.c]] z fun e w' => ∃ u c, e = .returned (.agg #[.int .i64 x.Q.R, .int .i64 x.Q.C, .slice u x.Q.n c]) ∧ Own w' (w.heap.size + 2) 84 1 (.slice u x.Q.n c) x.Q.n (fun i => .int .i8 (x.Q.f i)) ∧ Cp w w' y ∧ Below z.heap.size z w') := fun z y hz => by
    have h := HW.out
    have hB := HB.out
    exact (cpmat_any (h.Q.fresh hz.low) hB.Q).mono fun e w' ⟨u, c, h1, h2, h3⟩ => ⟨u, c, h1, h2.weaken hz.big, hz.fresh h3, h3⟩
  have HRR : Hid (∀ (z : World), Cp w z x → z.cell? ⟨w.heap.size, 8, none⟩ = some (.int .i64 x.E.R) ∧ z.cell? ⟨w.heap.size, 9, none⟩ = some (.int .i64 x.E.C) ∧ z.cell? ⟨w.heap.size, 10, none⟩ = some (.slice x.E.O x.E.n x.E.c) ∧ z.cell? ⟨w.heap.size, 14, none⟩ = some (.int .i64 x.Q.R) ∧ z.cell? ⟨w.heap.size, 15, none⟩ = some (.int .i64 x.Q.C) ∧ z.cell? ⟨w.heap.size, 16, none⟩ = some (.slice x.Q.O x.Q.n x.Q.c) ∧ ∀ j, z.frozen? ⟨w.heap.size, j, none⟩ = false) := fun z hz => ⟨hz.box.cell (i := 8) (by decide), hz.box.cell (i := 9) (by decide), hz.box.cell (i := 10) (by decide), hz.box.cell (i := 14) (by decide), hz.box.cell (i := 15) (by decide), hz.box.cell (i := 16) (by decide), hz.box.frozen⟩
  go_cut [9, 10, 11, 12, 13, 14, 15, 16] (fun _ _ _ _ _ _ _ _ wx => ∃ uE cE uQ cQ, Cp w wx { x with E := { x.E with O := uE, c := cE }, Q := { x.Q with O := uQ, c := cQ } } ∧ Own wx (w.heap.size + 2) 84 1 (.slice uE x.E.n cE) x.E.n (fun i => .int .i8 (x.E.f i)) ∧ Own wx (w.heap.size + 2) 84 1 (.slice uQ x.Q.n cQ) x.Q.n (fun i => .int .i8 (x.Q.f i)))
  case first =>
    have hd : Cp w wc0.drew x := HCP.out.fresh ((Below.refl _ _).drew)
    have kd : Below wc0.heap.size wc0 wc0.drew := (Below.refl _ _).drew
    obtain ⟨a0, a1, a2, a3, a4, a5, a6⟩ := HRR.out _ hd
    go_region_with (first
      | (go_at_call 72; with_reducible refine (HC1.out _ _ hd).mono ?_; rintro e wE ⟨u1, c1, rfl, o1, g1, k1⟩; obtain ⟨b0, b1, b2, b3, b4, b5, b6⟩ := HRR.out _ g1)
      | (go_at_call 72; with_reducible refine (HC2.out _ _ hd).mono ?_; rintro e wQ ⟨u2, c2, rfl, o2, g2, k2⟩; obtain ⟨b0, b1, b2, b3, b4, b5, b6⟩ := HRR.out _ g2)
      | (go_at_call 72; with_reducible refine (HC2.out _ _ g1).mono ?_; rintro e wF ⟨u2, c2, rfl, o2', gF, k2⟩; have o1' := o1.kept k2; have kF := fresh_trans (fresh_trans kd k1) k2; obtain ⟨d0, d1, d2, d3, d4, d5, d6⟩ := HRR.out _ gF)
      | (go_at_call 72; with_reducible refine (HC1.out _ _ g2).mono ?_; rintro e wF ⟨u1, c1, rfl, o1', gF, k1⟩; have o2' := o2.kept k1; have kF := fresh_trans (fresh_trans kd k2) k1; obtain ⟨d0, d1, d2, d3, d4, d5, d6⟩ := HRR.out _ gF))
    all_goals
      go_wp2
      go_meet
      case rel => first
        | exact ⟨u1, c1, u2, c2, Cp.EQ gF u1 u2 c1 c2, Own.six (Nat.le_refl _) o1', Own.six (Nat.le_refl _) o2'⟩
        | exact ⟨u1, c1, u2, c2, Cp.QE gF u1 u2 c1 c2, Own.six (Nat.le_refl _) o1', Own.six (Nat.le_refl _) o2'⟩
  case rest =>
    obtain ⟨uE, cE, uQ, cQ, hcp, hoE, hoQ⟩ := hcut
    clear HC1 HC2 HRR HCP
    have HCP := hidd hcp
    have OE := hidd hoE
    have OQ := hidd hoQ
    clear hcp hoE hoQ
    go_upto_region 2 with fail
    generalize wc = wc0 at *
    have HC1 : Hid (∀ (z : World) (y : WtD), Cp w z y → Calls Try.prog 73 #[.slice x.tO x.tn x.tc] z fun e w' => ∃ u c, e = .returned (.slice u x.tn c) ∧ Own w' (w.heap.size + 2) 97 2 (.slice u x.tn c) x.tn (tcs x.tC x.tS) ∧ Cp w w' y ∧ Below z.heap.size z w') := fun z y hz => by
      have h := HW.out
      have hB := HB.out
      exact (cloneT_any (h.T.fresh hz.low) (tcs_one _ _ _) hB.T).mono fun e w' ⟨u, c, h1, h2, h3⟩ => ⟨u, c, h1, h2.weaken hz.big, hz.fresh h3, h3⟩
    have HC2 : Hid (∀ (z : World) (y : WtD), Cp w z y → Calls Try.prog 74 #[.slice x.F.O x.F.n x.F.c] z fun e w' => ∃ u c, e = .returned (.slice u x.F.n c) ∧ Own w' (w.heap.size + 2) 84 1 (.slice u x.F.n c) x.F.n (fun i => .int .i8 (x.F.f i)) ∧ Cp w w' y ∧ Below z.heap.size z w') := fun z y hz => by
      have h := HW.out
      have hB := HB.out
      exact (cloneB_any (h.F.rd.fresh hz.low) (fun _ _ => rfl) hB.F).mono fun e w' ⟨u, c, h1, h2, h3⟩ => ⟨u, c, h1, h2.weaken hz.big, hz.fresh h3, h3⟩
    have HRR : Hid (∀ (z : World), Cp w z { x with E := { x.E with O := uE, c := cE }, Q := { x.Q with O := uQ, c := cQ } } → z.cell? ⟨w.heap.size, 11, none⟩ = some (.slice x.tO x.tn x.tc) ∧ z.cell? ⟨w.heap.size, 13, none⟩ = some (.slice x.F.O x.F.n x.F.c) ∧ ∀ j, z.frozen? ⟨w.heap.size, j, none⟩ = false) := fun z hz => ⟨hz.box.cell (i := 11) (by decide), hz.box.cell (i := 13) (by decide), hz.box.frozen⟩
    go_cut [17, 18, 19, 20, 21, 22, 23, 24] (fun _ _ _ _ _ _ _ _ wx => ∃ uT cT uF cF, Cp w wx { x with E := { x.E with O := uE, c := cE }, Q := { x.Q with O := uQ, c := cQ }, tO := uT, tc := cT, F := { x.F with O := uF, c := cF } } ∧ Own wx (w.heap.size + 2) 97 2 (.slice uT x.tn cT) x.tn (tcs x.tC x.tS) ∧ Own wx (w.heap.size + 2) 84 1 (.slice uF x.F.n cF) x.F.n (fun i => .int .i8 (x.F.f i)) ∧ Own wx (w.heap.size + 2) 84 1 (.slice uE x.E.n cE) x.E.n (fun i => .int .i8 (x.E.f i)) ∧ Own wx (w.heap.size + 2) 84 1 (.slice uQ x.Q.n cQ) x.Q.n (fun i => .int .i8 (x.Q.f i)))
    case first =>
      have hd : Cp w wc0.drew { x with E := { x.E with O := uE, c := cE }, Q := { x.Q with O := uQ, c := cQ } } := HCP.out.fresh ((Below.refl _ _).drew)
      have kd : Below wc0.heap.size wc0 wc0.drew := (Below.refl _ _).drew
      obtain ⟨a0, a1, a2⟩ := HRR.out _ hd
      go_region_with (first
        | (go_at_call 73; with_reducible refine (HC1.out _ _ hd).mono ?_; rintro e wE ⟨u1, c1, rfl, o1, g1, k1⟩; obtain ⟨b0, b1, b2⟩ := HRR.out _ g1)
        | (go_at_call 74; with_reducible refine (HC2.out _ _ hd).mono ?_; rintro e wQ ⟨u2, c2, rfl, o2, g2, k2⟩; obtain ⟨b0, b1, b2⟩ := HRR.out _ g2)
        | (go_at_call 74; with_reducible refine (HC2.out _ _ g1).mono ?_; rintro e wF ⟨u2, c2, rfl, o2', gF, k2⟩; have o1' := o1.kept k2; have kF := fresh_trans (fresh_trans kd k1) k2; obtain ⟨d0, d1, d2⟩ := HRR.out _ gF)
        | (go_at_call 73; with_reducible refine (HC1.out _ _ g2).mono ?_; rintro e wF ⟨u1, c1, rfl, o1', gF, k1⟩; have o2' := o2.kept k1; have kF := fresh_trans (fresh_trans kd k2) k1; obtain ⟨d0, d1, d2⟩ := HRR.out _ gF))
      all_goals
        go_wp2
        go_meet
        case rel => first
          | exact ⟨u1, c1, u2, c2, Cp.TF gF u1 u2 c1 c2, Own.two (Nat.le_refl _) o1', Own.two (Nat.le_refl _) o2', Own.two (Nat.le_refl _) (OE.out.kept kF), Own.two (Nat.le_refl _) (OQ.out.kept kF)⟩
          | exact ⟨u1, c1, u2, c2, Cp.FT gF u1 u2 c1 c2, Own.two (Nat.le_refl _) o1', Own.two (Nat.le_refl _) o2', Own.two (Nat.le_refl _) (OE.out.kept kF), Own.two (Nat.le_refl _) (OQ.out.kept kF)⟩
    case rest =>
      obtain ⟨uT, cT, uF, cF, hcp, hoT, hoF, hoE, hoQ⟩ := hcut
      clear HC1 HC2 HRR HCP OE OQ
      have HCP := hidd hcp
      have OE := hidd hoE
      have OQ := hidd hoQ
      have OT := hidd hoT
      have OF := hidd hoF
      clear hcp hoE hoQ hoT hoF
      go_upto_region 3 with fail
      generalize wc = wc0 at *
      have HC1 : Hid (∀ (z : World) (y : WtD), Cp w z y → Calls Try.prog 75 #[.slice x.yO x.yn x.yc] z fun e w' => ∃ u c, e = .returned (.slice u x.yn c) ∧ Own w' (w.heap.size + 2) 67 30 (.slice u x.yn c) x.yn (lyc x.ly) ∧ Cp w w' y ∧ Below z.heap.size z w') := fun z y hz => by
        have h := HW.out
        have hB := HB.out
        exact (cloneY_any (h.yrd.fresh hz.low) (lyc_one _ _) hB.Y).mono fun e w' ⟨u, c, h1, h2, h3⟩ => ⟨u, c, h1, h2.weaken hz.big, hz.fresh h3, h3⟩
      have HC2 : Hid (∀ (z : World) (y : WtD), Cp w z y → Calls Try.prog 76 #[.slice x.mO x.mn x.mc] z fun e w' => ∃ u c, e = .returned (.slice u x.mn c) ∧ Own w' (w.heap.size + 2) 29 3 (.slice u x.mn c) x.mn (mtc x.md) ∧ Cp w w' y ∧ Below z.heap.size z w') := fun z y hz => by
        have h := HW.out
        have hB := HB.out
        exact (cloneM_any (h.mrd.fresh hz.low) (mtc_one _ _) hB.M).mono fun e w' ⟨u, c, h1, h2, h3⟩ => ⟨u, c, h1, h2.weaken hz.big, hz.fresh h3, h3⟩
      have HRR : Hid (∀ (z : World), Cp w z { x with E := { x.E with O := uE, c := cE }, Q := { x.Q with O := uQ, c := cQ }, tO := uT, tc := cT, F := { x.F with O := uF, c := cF } } → z.cell? ⟨w.heap.size, 12, none⟩ = some (.slice x.yO x.yn x.yc) ∧ z.cell? ⟨w.heap.size, 17, none⟩ = some (.slice x.mO x.mn x.mc) ∧ ∀ j, z.frozen? ⟨w.heap.size, j, none⟩ = false) := fun z hz => ⟨hz.box.cell (i := 12) (by decide), hz.box.cell (i := 17) (by decide), hz.box.frozen⟩
      go_cut [25, 26, 27, 28, 29, 30, 31, 32] (fun _ _ _ _ _ _ _ _ wx => ∃ uY cY uM cM, Cp w wx { x with E := { x.E with O := uE, c := cE }, Q := { x.Q with O := uQ, c := cQ }, tO := uT, tc := cT, F := { x.F with O := uF, c := cF }, yO := uY, yc := cY, mO := uM, mc := cM } ∧ Own wx (w.heap.size + 2) 67 30 (.slice uY x.yn cY) x.yn (lyc x.ly) ∧ Own wx (w.heap.size + 2) 29 3 (.slice uM x.mn cM) x.mn (mtc x.md) ∧ Own wx (w.heap.size + 2) 84 1 (.slice uE x.E.n cE) x.E.n (fun i => .int .i8 (x.E.f i)) ∧ Own wx (w.heap.size + 2) 84 1 (.slice uQ x.Q.n cQ) x.Q.n (fun i => .int .i8 (x.Q.f i)) ∧ Own wx (w.heap.size + 2) 97 2 (.slice uT x.tn cT) x.tn (tcs x.tC x.tS) ∧ Own wx (w.heap.size + 2) 84 1 (.slice uF x.F.n cF) x.F.n (fun i => .int .i8 (x.F.f i)))
      case first =>
        have hd : Cp w wc0.drew { x with E := { x.E with O := uE, c := cE }, Q := { x.Q with O := uQ, c := cQ }, tO := uT, tc := cT, F := { x.F with O := uF, c := cF } } := HCP.out.fresh ((Below.refl _ _).drew)
        have kd : Below wc0.heap.size wc0 wc0.drew := (Below.refl _ _).drew
        obtain ⟨a0, a1, a2⟩ := HRR.out _ hd
        go_region_with (first
          | (go_at_call 75; with_reducible refine (HC1.out _ _ hd).mono ?_; rintro e wE ⟨u1, c1, rfl, o1, g1, k1⟩; obtain ⟨b0, b1, b2⟩ := HRR.out _ g1)
          | (go_at_call 76; with_reducible refine (HC2.out _ _ hd).mono ?_; rintro e wQ ⟨u2, c2, rfl, o2, g2, k2⟩; obtain ⟨b0, b1, b2⟩ := HRR.out _ g2)
          | (go_at_call 76; with_reducible refine (HC2.out _ _ g1).mono ?_; rintro e wF ⟨u2, c2, rfl, o2', gF, k2⟩; have o1' := o1.kept k2; have kF := fresh_trans (fresh_trans kd k1) k2; obtain ⟨d0, d1, d2⟩ := HRR.out _ gF)
          | (go_at_call 75; with_reducible refine (HC1.out _ _ g2).mono ?_; rintro e wF ⟨u1, c1, rfl, o1', gF, k1⟩; have o2' := o2.kept k1; have kF := fresh_trans (fresh_trans kd k2) k1; obtain ⟨d0, d1, d2⟩ := HRR.out _ gF))
        all_goals
          go_wp2
          go_meet
          case rel => first
            | exact ⟨u1, c1, u2, c2, Cp.YM gF u1 u2 c1 c2, Own.two (Nat.le_refl _) o1', Own.two (Nat.le_refl _) o2', Own.two (Nat.le_refl _) (OE.out.kept kF), Own.two (Nat.le_refl _) (OQ.out.kept kF), Own.two (Nat.le_refl _) (OT.out.kept kF), Own.two (Nat.le_refl _) (OF.out.kept kF)⟩
            | exact ⟨u1, c1, u2, c2, Cp.MY gF u1 u2 c1 c2, Own.two (Nat.le_refl _) o1', Own.two (Nat.le_refl _) o2', Own.two (Nat.le_refl _) (OE.out.kept kF), Own.two (Nat.le_refl _) (OQ.out.kept kF), Own.two (Nat.le_refl _) (OT.out.kept kF), Own.two (Nat.le_refl _) (OF.out.kept kF)⟩
      case rest =>
        obtain ⟨uY, cY, uM, cM, hcp, hoY, hoM, hoE, hoQ, hoT, hoF⟩ := hcut
        clear HC1 HC2 HRR HCP OE OQ OT OF
        have HCP := hidd hcp
        have OE := hidd hoE
        have OQ := hidd hoQ
        have OT := hidd hoT
        have OF := hidd hoF
        have OY := hidd hoY
        have OM := hidd hoM
        clear hcp hoE hoQ hoT hoF hoY hoM
        obtain ⟨y3, hy3⟩ : ∃ y3, y3 = { x with E := { x.E with O := uE, c := cE }, Q := { x.Q with O := uQ, c := cQ }, tO := uT, tc := cT, F := { x.F with O := uF, c := cF }, yO := uY, yc := cY, mO := uM, mc := cM } := ⟨_, rfl⟩
        have HL0 : Hid (Lm w wc x y3 0 x.md) := by
          subst hy3
          exact hidd ⟨⟨HCP.out, OE.out, OQ.out, OT.out, OF.out, OY.out, OM.out⟩, fun j hj => absurd hj (by omega), fun j _ => rfl⟩
        have HBS3 : Hid (BS x y3) := by subst hy3; exact hidd ⟨⟨rfl, rfl, rfl, rfl, rfl, rfl, rfl, rfl⟩, ⟨rfl, rfl, rfl, rfl⟩, ⟨rfl, rfl, rfl, rfl⟩, ⟨rfl, rfl⟩, ⟨rfl, rfl, rfl⟩, rfl, rfl⟩
        have HS : Hid (y3.mn = x.mn ∧ y3.mO = uM ∧ y3.mc = cM ∧ y3.yn = x.yn ∧ y3.yO = uY ∧ y3.yc = cY ∧ y3.ly = x.ly) := by subst hy3; exact hidd ⟨rfl, rfl, rfl, rfl, rfl, rfl, rfl⟩
        have b17 : wc.cell? ⟨w.heap.size, 17, none⟩ = some (.slice uM x.mn cM) := HCP.out.box.cell (i := 17) (by decide)
        have hmt : x.mn ≤ cM ∧ cM ≤ 9223372036854775807 := by
          have := OM.out.rd
          obtain ⟨ao, cap, e1, hr⟩ := this
          injection e1 with e2 _ e3
          subst e2 e3
          have := hr.le
          have := hr.top
          unfold maxLen at this
          omega
        have hmb := HB.out.M
        clear HCP OE OQ OT OF OY OM hy3
        go_wp2
        refine loop_invP (c := loopM) (fun q a wz => ∃ (k : Nat) (md : Nat → MtD), q + k = x.mn ∧ LF1 w.heap.size uM x.mn cM k a ∧ Hid (Lm w wz x y3 k md)) x.mn ⟨0, x.md, by omega, LF1.of rfl rfl rfl rfl rfl (by first | rfl | simp), HL0.out⟩ ?_
        clear HL0 b17
        rintro q a wr ⟨k, md, hq, ha, HL⟩
        by_cases hlt : k < x.mn
        · refine then_only (fun _ _ h => h) (roundM HW HB HS hmb hlt HL a ha _ (hidd fun a' w' md' h1 h2 => ?_))
          exact ⟨q - 1, by omega, k + 1, md', by omega, h1, h2⟩
        · obtain rfl : k = x.mn := by omega
          obtain ⟨u, e1, e2, e34, e35, e36, rfl⟩ := ha
          rw [e1, e2, e34, e35, e36]
          clear e1 e2 e34 e35 e36 hq
          conv => arg 2; whnf
          have hnl : ¬ ((x.mn : Int) < (x.mn : Int)) := by omega
          obtain ⟨s1, s2, s3, s4, s5, s6, s7⟩ := HS.out
          obtain ⟨y4, hy4⟩ : ∃ y4, y4 = { y3 with md := md } := ⟨_, rfl⟩
          have ey : y4.yO = uY ∧ y4.yn = x.yn ∧ y4.yc = cY := by subst hy4; exact ⟨s5, s4, s6⟩
          have HK0 : Hid (Lk w wr x y4 0 x.ly) := by
            have e9 : ({ y4 with ly := x.ly } : WtD) = { y3 with md := md } := by rw [hy4, ← s7]
            refine hidd ⟨?_, fun j hj => ?_, fun j hj => absurd hj (by omega), fun j _ => rfl⟩
            · rw [e9]; exact HL.out.q
            · rw [hy4]; exact HL.out.dn j hj
          have b12 : wr.cell? ⟨w.heap.size, 12, none⟩ = some (.slice uY x.yn cY) := by
            have : wr.cell? ⟨w.heap.size, 12, none⟩ = some (.slice y3.yO y3.yn y3.yc) := HL.out.q.cp.box.cell (i := 12) (by decide)
            rw [s4, s5, s6] at this
            exact this
          have HEY := hidd ey
          have HBS : Hid (BS x y4) := by
            have h9 := HBS3.out
            subst hy4
            exact hidd ⟨h9.cfg, h9.E, h9.Q, h9.F, h9.T, h9.Y, h9.M⟩
          have hyc : x.yn ≤ cY ∧ cY ≤ 9223372036854775807 := by
            obtain ⟨ao, cap, e1, hr⟩ := HL.out.q.oY.rd
            have e1' : Value.slice y3.yO y3.yn y3.yc = .slice ao y3.yn cap := e1
            rw [s4, s5, s6] at e1'
            injection e1' with e2 _ e3
            have h1 := hr.le
            have h2 := hr.top
            unfold maxLen at h2
            have h3 : y3.yn = x.yn := s4
            rw [e3]
            have h4 : y3.yn ≤ cap := h1
            omega
          have hyb := HB.out.Y
          clear HL s1 s2 s3 s4 s5 s6 s7 ey hy4 HS hmt hmb hlt
          go_wp2
          refine loop_invP (c := loopY) (fun q a wz => ∃ (k : Nat) (ly : Nat → LyD), q + k = x.yn ∧ LF2 w.heap.size x.yn k a ∧ Hid (Lk w wz x y4 k ly)) x.yn ⟨0, x.ly, by omega, LF2.of rfl rfl rfl rfl (by first | rfl | simp), HK0.out⟩ ?_
          clear HK0 b12
          rintro q a wr ⟨k, ly, hq, ha, HL⟩
          by_cases hlt : k < x.yn
          · refine then_only (fun _ _ h => h) (roundY HW HB HEY hyb hlt HL a ha _ (hidd fun a' w' ly' h1 h2 => ?_))
            exact ⟨q - 1, by omega, k + 1, ly', by omega, h1, h2⟩
          · obtain rfl : k = x.yn := by omega
            obtain ⟨u, e1, e2, e50, e51, rfl⟩ := ha
            rw [e1, e2, e50, e51]
            clear e1 e2 e50 e51 hq
            conv => arg 2; whnf
            have hnl2 : ¬ ((x.yn : Int) < (x.yn : Int)) := by omega
            have RG' : wr.rangeAt w.heap.size 0 (wtL y4) := fun j v hj => by
              have hl : (wtL y4).length = 18 := rfl
              have hj2 : j < 18 := by
                rcases Nat.lt_or_ge j 18 with h | h
                · exact h
                · rw [List.getElem?_eq_none (by omega)] at hj; cases hj
              have hc : wr.cell? ⟨w.heap.size, j, none⟩ = some (wtc y4 j) := HL.out.q.cp.box.cell (i := j) hj2
              rw [Nat.zero_add, hc]
              unfold wtc
              rw [List.getD_eq_getElem?_getD, hj]
              rfl
            obtain ⟨T, hT⟩ : ∃ T, T = wtA y4 := ⟨_, rfl⟩
            have RG : Hid (wr.rangeAt w.heap.size 0 T.toList) := by rw [hT]; exact RG'
            have SL : Hid ((Try.prog.info? 34).map (·.size) = some T.toList.length) := by rw [hT]; exact sizeW
            have S18 : Hid ((Try.prog.info? 34).map (·.size) = some T.size) := by rw [hT]; exact sizeW
            have H1 : Hid (T.all (·.oneCell') = true) := by rw [hT]; exact wtA_one y4
            obtain ⟨old, hold, hosz, _⟩ := HL.out.q.cp.res
            have HOLD := hidd hold
            have HOSZ : Hid (old.size = T.size) := by rw [hT]; exact hosz
            have HTT := hidd hT
            clear hold hosz hT RG'
            go_wp2_with (refine wpList_load_mid rfl 34 _ rfl w.heap.size 0 rfl T.toList _ RG.out Try.underlying34 rfl SL.out (wpList_store_row rfl 34 _ _ rfl (w.heap.size + 1) T rfl rfl 34 old HOLD.out S18.out HOSZ.out H1.out ?_))
            refine bodyPost_ret (v := .agg T) ?_ ?_ ?_
            · exact results_cell_row Try.results39 _ _ (w.heap.size + 1) 34 _ (0, 0) _ rfl (setRow_heap _ _ _ _ _ _ HOLD.out) Try.underlying34 rfl S18.out
            · rfl
            · exact ⟨{ y4 with ly := ly }, by rw [HTT.out]; rfl, HL.out.ends HBS.out T⟩
end Go.Proofs.Ytilghknalbhacaa
