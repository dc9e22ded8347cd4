import Derived.Test.YtmhjpfjhppcfoaaGreatDoorMH
namespace Go.Proofs.YtmhjpfjhppcfoaaGreatDoor
open Go.RowKit
/-! copied: a round of its second loop. -/
set_option maxRecDepth 100000 in
set_option maxHeartbeats 40000000 in
theorem roundY {w wr : World} {x y4 : WtD} {uY : Option Addr} {cY k : Nat} {ly : Nat → LyD} (HW : Hid (WtR w x)) (HB : Hid (WtB x)) (HEY : Hid (y4.yO = uY ∧ y4.yn = x.yn ∧ y4.yc = cY)) (hyb : x.yn ≤ 1048576) (hlt : k < x.yn) (HL : Hid (Lk w wr x y4 k ly))
    (a : Act) (ha : LF2 w.heap.size x.yn k a) (R : Act → World → Prop) (HR : Hid (∀ a' w' ly', LF2 w.heap.size x.yn (k + 1) a' → Lk w w' x y4 (k + 1) ly' → R a' w')) :
    loopY.wp Tryz.prog (Exit.then R (fun _ _ _ => False)) a wr := by
  conv => arg 2; whnf
  obtain ⟨g, hg⟩ : ∃ g, uY = some ⟨g, 0, none⟩ := by
    have ho := HL.out.q.oY
    obtain ⟨e1, e2, e3⟩ := HEY.out
    obtain ⟨g, e, _⟩ := Own.at_ ho (by show 0 < y4.yn; omega)
    exact ⟨g, e1.symm.trans e⟩
  have HYO : Hid (y4.yO = some ⟨g, 0, none⟩) := HEY.out.1.trans hg
  subst hg
  have HN1 : Hid (∀ z, Lk w z x y4 k ly → Calls Tryz.prog 173 #[.slice (x.ly k).n1.O (x.ly k).n1.n (x.ly k).n1.c] z fun e w' => ∃ u c, e = .returned (.slice u (x.ly k).n1.n c) ∧ OwS w w' { (x.ly k).n1 with O := u, c := c } ∧ Lk w w' x y4 k ly ∧ Below z.heap.size z w') := fun z hz => (cloneB_any ((HW.out.yr k hlt).n1.rd.fresh hz.q.cp.low) (fun _ _ => rfl) (HB.out.y1 k hlt)).mono fun e w' ⟨u, c, h1, h2, h3⟩ => ⟨u, c, h1, h2.weaken hz.q.cp.big, hz.fresh h3, h3⟩
  have HN2 : Hid (∀ z, Lk w z x y4 k ly → Calls Tryz.prog 173 #[.slice (x.ly k).n2.O (x.ly k).n2.n (x.ly k).n2.c] z fun e w' => ∃ u c, e = .returned (.slice u (x.ly k).n2.n c) ∧ OwS w w' { (x.ly k).n2 with O := u, c := c } ∧ Lk w w' x y4 k ly ∧ Below z.heap.size z w') := fun z hz => (cloneB_any ((HW.out.yr k hlt).n2.rd.fresh hz.q.cp.low) (fun _ _ => rfl) (HB.out.y2 k hlt)).mono fun e w' ⟨u, c, h1, h2, h3⟩ => ⟨u, c, h1, h2.weaken hz.q.cp.big, hz.fresh h3, h3⟩
  have HLC : Hid (∀ z, Lk w z x y4 k ly → z.cell? ⟨g, k * 30, none⟩ = some (.slice (x.ly k).n1.O (x.ly k).n1.n (x.ly k).n1.c) ∧ z.cell? ⟨g, k * 30 + 1, none⟩ = some (.slice (x.ly k).n2.O (x.ly k).n2.n (x.ly k).n2.c) ∧ (∀ j, z.frozen? ⟨g, j, none⟩ = false) ∧ z.cell? ⟨w.heap.size, 12, none⟩ = some (.slice (some ⟨g, 0, none⟩) x.yn cY)) := fun z hz => by
    obtain ⟨e1, e2, e3⟩ := HEY.out
    obtain ⟨c1, c2, c3⟩ := hz.q.lcell (g := g) (n := x.yn) (c := cY) HYO.out e2 e3 hlt
    have e4 := hz.td k (Nat.le_refl _)
    have q0 := c1 0 (by decide)
    have q1 := c1 1 (by decide)
    have e5 : ({ y4 with ly := ly } : WtD).ly k = x.ly k := e4
    rw [e5] at q0 q1
    exact ⟨q0, q1, c2, c3⟩
  obtain ⟨u, e1, e2, e50, e51, rfl⟩ := ha
  rw [e1, e2, e50, e51]
  clear e1 e2 e50 e51
  have i0 : (0 : Int) ≤ (k : Int) := by omega
  have i1 : (k : Int) < (x.yn : Int) := by omega
  have hd := HL.out.fresh ((Below.refl _ _).drew)
  obtain ⟨d0, d1, d2, d3⟩ := HLC.out _ HL.out
  go_upto_region 13 with fail
  clear d0 d1 d2 d3
  obtain ⟨d0, d1, d2, d3⟩ := HLC.out _ hd
  go_cut [58, 59, 60, 61, 62, 63, 64, 65, 66, 67, 68, 69, 70, 71, 72, 73] from 58 to 73 (fun _ _ _ _ _ _ _ _ _ _ _ _ _ _ _ _ wx => ∃ l, Hid (Li w wx x y4 k ly l 0))
  case first =>
    go_region_with (first
      | (go_at_call 173; (with_reducible refine (HN1.out _ hd).mono ?_); rintro e wE ⟨u1, c1, rfl, o1, g1, k1⟩; obtain ⟨b0, b1, b2, b3⟩ := HLC.out _ g1)
      | (go_at_call 173; (with_reducible refine (HN2.out _ hd).mono ?_); rintro e wQ ⟨u2, c2, rfl, o2, g2, k2⟩; obtain ⟨b0, b1, b2, b3⟩ := HLC.out _ g2)
      | (go_at_call 173; (with_reducible refine (HN2.out _ g1).mono ?_); rintro e wF ⟨u2, c2, rfl, o2', gF, k2⟩; (have o1' : OwS w wF { (x.ly k).n1 with O := u1, c := c1 } := Own.kept o1 k2); obtain ⟨r0, r1, r2, r3⟩ := HLC.out _ gF)
      | (go_at_call 173; (with_reducible refine (HN1.out _ g2).mono ?_); rintro e wF ⟨u1, c1, rfl, o1', gF, k1⟩; (have o2' : OwS w wF { (x.ly k).n2 with O := u2, c := c2 } := Own.kept o2 k1); obtain ⟨r0, r1, r2, r3⟩ := HLC.out _ gF))
    all_goals
      go_wp2
      go_meet
      case rel => first
        | exact ⟨_, gF.inner HYO.out o1' o2' ⟨rfl, rfl⟩ ⟨rfl, rfl⟩⟩
        | exact ⟨_, gF.inner' HYO.out o1' o2' ⟨rfl, rfl⟩ ⟨rfl, rfl⟩⟩
  case rest =>
    obtain ⟨l0, HI0⟩ := hcut
    clear hd d0 d1 d2 d3 HN1 HN2 HLC HL
    go_wp2_with fail
    refine (matsOf_any _ g (k * 30)).mono ?_
    rintro e w14 ⟨rfl, f14⟩
    have HI1 := hidd (HI0.out.fresh f14)
    clear HI0 f14
    have HCI : Hid (∀ (z : World) (l : LyD) (r : Nat), r < 7 → Li w z x y4 k ly l r → Calls Tryz.prog 171 #[.agg #[.int .i64 (mtI (x.ly k) r).R, .int .i64 (mtI (x.ly k) r).C, .slice (mtI (x.ly k) r).O (mtI (x.ly k) r).n (mtI (x.ly k) r).c]] z fun e w' => ∃ u c, e = .returned (.agg #[.int .i64 (mtI (x.ly k) r).R, .int .i64 (mtI (x.ly k) r).C, .slice u (mtI (x.ly k) r).n c]) ∧ Own w' (w.heap.size + 2) 295 1 (.slice u (mtI (x.ly k) r).n c) (mtI (x.ly k) r).n (fun j => .int .i8 ((mtI (x.ly k) r).f j)) ∧ Li w w' x y4 k ly l r) := fun z l r hr hz => (cpmat_any (((HW.out.yr k hlt).mat r).fresh hz.q.cp.low) ((HB.out.ym k hlt).mat r)).mono fun e w' ⟨u, c, h1, h2, h3⟩ => ⟨u, c, h1, h2.weaken hz.q.cp.big, hz.fresh h3⟩
    have HLI : Hid (∀ (z : World) (l : LyD) (r : Nat), r < 7 → Li w z x y4 k ly l r → z.cell? ⟨g, k * 30 + (2 + 3 * r), none⟩ = some (.int .i64 (mtI (x.ly k) r).R) ∧ z.cell? ⟨g, k * 30 + (2 + 3 * r) + 1, none⟩ = some (.int .i64 (mtI (x.ly k) r).C) ∧ z.cell? ⟨g, k * 30 + (2 + 3 * r) + 2, none⟩ = some (.slice (mtI (x.ly k) r).O (mtI (x.ly k) r).n (mtI (x.ly k) r).c) ∧ ∀ j, z.frozen? ⟨g, j, none⟩ = false) := fun z l r hr hz => by
      obtain ⟨e1, e2, e3⟩ := HEY.out
      obtain ⟨c1, c2, c3⟩ := hz.q.lcell (g := g) (n := x.yn) (c := cY) HYO.out e2 e3 hlt
      have e5 : ({ y4 with ly := updY ly k l } : WtD).ly k = l := updY_at ly k l
      rw [e5] at c1
      obtain ⟨m0, m1, m2⟩ := lyL_mt l r hr
      rw [hz.tm r (Nat.le_refl _) hr] at m0 m1 m2
      have q0 := c1 (2 + 3 * r) (by omega)
      have q1 := c1 (2 + 3 * r + 1) (by omega)
      have q2 := c1 (2 + 3 * r + 2) (by omega)
      rw [m0] at q0
      rw [m1] at q1
      rw [m2] at q2
      exact ⟨q0, q1, q2, c2⟩
    go_wp2
    go_loopw [8, 76] (fun _ j wq => ∃ (r : Nat) (l : LyD), r ≤ 7 ∧ j = .int .i64 (r : Int) ∧ Hid (Li w wq x y4 k ly l r)) (fun _ j _ => 7 - (intOf j).toNat)
    case atStart => exact ⟨0, l0, by omega, by simp, HI1.out⟩
    case round =>
      clear HI1
      obtain ⟨r, l, hr, rfl, HI⟩ := hrel
      by_cases hr7 : r < 7
      · have hpm := pm7_at g (k * 30) r hr7
        as_aux_lemma =>
          obtain ⟨q0, q1, q2, q3⟩ := HLI.out _ l r hr7 HI.out
          have j0 : (0 : Int) ≤ (r : Int) := by omega
          have j1 : (r : Int) < 7 := by omega
          go_wp2_with fail
          refine (HCI.out _ l r hr7 HI.out).mono ?_
          rintro e w17 ⟨u, c, rfl, o17, HI17⟩
          clear q0 q1 q2 q3
          obtain ⟨q0, q1, q2, q3⟩ := HLI.out _ l r hr7 HI17
          go_wp2
          go_roundw
          case rel => exact ⟨r + 1, _, by omega, by go_num, HI17.step HYO.out hr7 o17⟩
          case measure => simp [intOf]; omega
      · obtain rfl : r = 7 := by omega
        go_wp2
        exact HR.out _ _ _ (LF2.of rfl rfl rfl rfl (by first | rfl | simp)) HI.out.done
end Go.Proofs.YtmhjpfjhppcfoaaGreatDoor
