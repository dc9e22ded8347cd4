import Derived.Test.YtmhjpfjhppcfoaaGreatDoorMH
namespace Go.Proofs.YtmhjpfjhppcfoaaGreatDoor
open Go.RowKit
/-! copied: a round of its first loop. -/
set_option maxRecDepth 100000 in
set_option maxHeartbeats 40000000 in
theorem roundM {w wr : World} {x y3 : WtD} {uM uY : Option Addr} {cM cY k : Nat} {md : Nat → MtD} (HW : Hid (WtR w x)) (HB : Hid (WtB x)) (HS : Hid (y3.mn = x.mn ∧ y3.mO = uM ∧ y3.mc = cM ∧ y3.yn = x.yn ∧ y3.yO = uY ∧ y3.yc = cY ∧ y3.ly = x.ly)) (hmb : x.mn ≤ 1048576) (hlt : k < x.mn) (HL : Hid (Lm w wr x y3 k md))
    (a : Act) (ha : LF1 w.heap.size uM x.mn cM k a) (R : Act → World → Prop) (HR : Hid (∀ a' w' md', LF1 w.heap.size uM x.mn cM (k + 1) a' → Lm w w' x y3 (k + 1) md' → R a' w')) :
    loopM.wp Tryz.prog (Exit.then R (fun _ _ _ => False)) a wr := by
  conv => arg 2; whnf
  have HCM : Hid (∀ (z : World) (k : Nat) (md : Nat → MtD), k < x.mn → Lm w z x y3 k md → Calls Tryz.prog 171 #[.agg #[.int .i64 (x.md k).R, .int .i64 (x.md k).C, .slice (x.md k).O (x.md k).n (x.md k).c]] z fun e w' => ∃ u c, e = .returned (.agg #[.int .i64 (x.md k).R, .int .i64 (x.md k).C, .slice u (x.md k).n c]) ∧ Own w' (w.heap.size + 2) 295 1 (.slice u (x.md k).n c) (x.md k).n (fun i => .int .i8 ((x.md k).f i)) ∧ Lm w w' x y3 k md) := fun z k md hk hz => (cpmat_any ((HW.out.mr k hk).fresh hz.q.cp.low) (HB.out.m k hk)).mono fun e w' ⟨u, c, h1, h2, h3⟩ => ⟨u, c, h1, h2.weaken hz.q.cp.big, hz.fresh h3⟩
  have HLC : Hid (∀ (z : World) (k : Nat) (md : Nat → MtD), k < x.mn → Lm w z x y3 k md → ∃ g, uM = some ⟨g, 0, none⟩ ∧ z.cell? ⟨g, k * 3, none⟩ = some (.int .i64 (x.md k).R) ∧ z.cell? ⟨g, k * 3 + 1, none⟩ = some (.int .i64 (x.md k).C) ∧ z.cell? ⟨g, k * 3 + 2, none⟩ = some (.slice (x.md k).O (x.md k).n (x.md k).c) ∧ (∀ j, z.frozen? ⟨g, j, none⟩ = false) ∧ z.cell? ⟨w.heap.size, 17, none⟩ = some (.slice uM x.mn cM)) := fun z k md hk hz => by
    have ho := hz.q.oM
    obtain ⟨s1, s2, s3, _⟩ := HS.out
    have ho' : Own z (w.heap.size + 2) 26 3 (.slice uM x.mn cM) x.mn (mtc md) := by
      have := ho
      simp only [s1, s2, s3] at this
      exact this
    obtain ⟨g, e, _, _, hc, hf⟩ := Own.at_ ho' (by omega)
    have hmk := hz.td k (Nat.le_refl _)
    have k0 := hc (k * 3) (by omega)
    have k1 := hc (k * 3 + 1) (by omega)
    have k2 := hc (k * 3 + 2) (by omega)
    unfold mtc at k0 k1 k2
    rw [show k * 3 / 3 = k by omega, show k * 3 % 3 = 0 by omega, hmk] at k0
    rw [show (k * 3 + 1) / 3 = k by omega, show (k * 3 + 1) % 3 = 1 by omega, hmk] at k1
    rw [show (k * 3 + 2) / 3 = k by omega, show (k * 3 + 2) % 3 = 2 by omega, hmk] at k2
    have k17 : z.cell? ⟨w.heap.size, 17, none⟩ = some (.slice y3.mO y3.mn y3.mc) := hz.q.cp.box.cell (i := 17) (by decide)
    rw [s1, s2, s3] at k17
    exact ⟨g, e, k0, k1, k2, hf, k17⟩
  have HST : Hid (∀ (z : World) (k : Nat) (md : Nat → MtD) (g : Nat) (u : Option Addr) (c : Nat), uM = some ⟨g, 0, none⟩ → Lm w z x y3 k md → Own z (w.heap.size + 2) 295 1 (.slice u (x.md k).n c) (x.md k).n (fun i => .int .i8 ((x.md k).f i)) → Lm w (((z.setCell ⟨g, k * 3, none⟩ (.int .i64 (x.md k).R)).setCell ⟨g, k * 3 + 1, none⟩ (.int .i64 (x.md k).C)).setCell ⟨g, k * 3 + 2, none⟩ (.slice u (x.md k).n c)) x y3 (k + 1) (updM md k { x.md k with O := u, c := c })) := fun z k md g u c e hz ho => hz.step (HS.out.2.1.trans e) ho
  obtain ⟨g, rfl, d0, d1, d2, fz, d17⟩ := HLC.out _ _ _ hlt HL.out
  obtain ⟨u, e1, e2, e34, e35, e36, rfl⟩ := ha
  rw [e1, e2, e34, e35, e36]
  clear e1 e2 e34 e35 e36
  have i0 : (0 : Int) ≤ (k : Int) := by omega
  have i1 : (k : Int) < (x.mn : Int) := by omega
  have HLC2 : Hid (∀ z, Lm w z x y3 k md → z.cell? ⟨g, k * 3, none⟩ = some (.int .i64 (x.md k).R) ∧ z.cell? ⟨g, k * 3 + 1, none⟩ = some (.int .i64 (x.md k).C) ∧ z.cell? ⟨g, k * 3 + 2, none⟩ = some (.slice (x.md k).O (x.md k).n (x.md k).c) ∧ (∀ j, z.frozen? ⟨g, j, none⟩ = false) ∧ z.cell? ⟨w.heap.size, 17, none⟩ = some (.slice (some ⟨g, 0, none⟩) x.mn cM)) := fun z hz => by
    obtain ⟨g', e', r⟩ := HLC.out z k md hlt hz
    cases e'
    exact r
  have fa := fresh_trans (fresh_alloc wr (.cells #[.int .i64 (x.md k).R, .int .i64 (x.md k).C, .slice (x.md k).O (x.md k).n (x.md k).c] 26)) ((Below.refl _ _).drew)
  have hd := HL.out.fresh fa
  go_upto_region 7 with fail
  clear d0 d1 d2 fz d17
  obtain ⟨d0, d1, d2, fz, d17⟩ := HLC2.out _ hd
  go_region_with (go_at_call 171; with_reducible refine (HCM.out _ k md hlt hd).mono ?_; rintro e w7 ⟨u', c, rfl, o7, g7⟩; obtain ⟨p0, p1, p2, pf, p17⟩ := HLC2.out _ g7)
  all_goals
    go_wp2
    exact HR.out _ _ _ (LF1.of rfl rfl rfl rfl rfl (by first | rfl | simp)) (HST.out _ k md g u' c rfl g7 o7)
end Go.Proofs.YtmhjpfjhppcfoaaGreatDoor
