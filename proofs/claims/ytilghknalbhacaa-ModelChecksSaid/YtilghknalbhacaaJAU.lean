import Derived.Test.YtilghknalbhacaaDcZ
import Derived.Test.YtilghknalbhacaaJAS
namespace Go.Proofs.Ytilghknalbhacaa
open Go.RowKit
/-! Load. -/
def wt0 : WtD := ⟨0, 0, 0, 0, 0, 0, 0, 0, mtO0, none, 0, 0, fun _ => 0, fun _ => 0, none, 0, 0, fun _ => lyO0, ⟨none, 0, 0, fun _ => 0⟩, mtO0, none, 0, 0, fun _ => mtO0⟩
/-- bytes that are the file of no weights -/
def NoFile (B : List Int) : Prop := ∀ y, y.may → WtP y → WtI y → B ≠ fileL y
/-- weights that were read, in memory of one's own -/
structure Got (w' : World) (b0 : Nat) (B : List Int) (x : WtD) : Prop where
  own : WtO w' b0 x
  i : WtI x
  may : x.may
  fit : WtP x
  file : B = fileL x
theorem Got.fresh {w w' : World} {b0 : Nat} {B : List Int} {x : WtD} (h : Got w b0 B x) (f : Below w.heap.size w w') : Got w' b0 B x := ⟨h.own.fresh f, h.i, h.may, h.fit, h.file⟩
theorem DecP.one {w w' : World} {B : List Int} {e : Ending} (h : DecP w w' B e) : ∃ x er, e = .returned (.tuple #[.agg (wtA x), .int .i64 er]) ∧ Below w.heap.size w w' ∧ ((er = 0 ∧ Got w' w.heap.size B x) ∨ (er = 42 ∧ x = wt0 ∧ NoFile B)) := by
  obtain ⟨f, ⟨x, e1, ho, hi, hm, hp, he⟩ | ⟨e1, hn⟩⟩ := h
  · exact ⟨x, 0, e1, f, .inl ⟨rfl, ho, hi, hm, hp, he⟩⟩
  · exact ⟨wt0, 42, e1, f, .inr ⟨rfl, rfl, hn⟩⟩
def LoadP (w w' : World) (B : List Int) (e : Ending) : Prop := Below w.heap.size w w' ∧ ((∃ x g, e = .returned (.tuple #[.pointer (some ⟨g, 0, none⟩), .int .i64 0]) ∧ w.heap.size ≤ g ∧ w'.rowIs g 76 18 (wtc x) ∧ Got w' w.heap.size B x) ∨ (e = .returned (.tuple #[.pointer none, .int .i64 42]) ∧ NoFile B))
set_option maxRecDepth 100000 in
set_option maxHeartbeats 8000000 in
theorem load_any {w : World} {ao : Option Addr} {cap : Nat} {B : List Int} (h : RdA w ao 1 B.length cap (bV B)) (hB : Byt B) :
    Calls Try.prog 14 #[.slice ao B.length cap] w fun e w' => LoadP w w' B e := by
  have HDE := hidd (decode_any h hB)
  obtain ⟨nB, hnB⟩ : ∃ n, n = B.length := ⟨_, rfl⟩
  rw [← hnB] at HDE ⊢
  clear h hB hnB
  go_enter Try.func14, Try.ntmps14
  go_upto_region 2 with (go_at_call 13; refine HDE.out.mono ?_; rintro e w1 hq; obtain ⟨x, er, rfl, f1, hor⟩ := hq.one; have HOR := hidd hor; have F1 := hidd f1; clear hq hor f1; rw [show wtA x = #[.int .i64 x.V, .int .i64 x.W, .int .i64 x.H, .int .i64 x.K, .int .i64 x.L, .int .i64 x.D, .int .i64 x.N, .int .i64 x.M, .int .i64 x.E.R, .int .i64 x.E.C, .slice x.E.O x.E.n x.E.c, .slice x.tO x.tn x.tc, .slice x.yO x.yn x.yc, .slice x.F.O x.F.n x.F.c, .int .i64 x.Q.R, .int .i64 x.Q.C, .slice x.Q.O x.Q.n x.Q.c, .slice x.mO x.mn x.mc] from rfl])
  rcases HOR.out with ⟨rfl, hg⟩ | ⟨rfl, _, hn⟩
  · have HG := hidd hg
    have RG : Hid ((w1.alloc (.cells #[.int .i64 x.V, .int .i64 x.W, .int .i64 x.H, .int .i64 x.K, .int .i64 x.L, .int .i64 x.D, .int .i64 x.N, .int .i64 x.M, .int .i64 x.E.R, .int .i64 x.E.C, .slice x.E.O x.E.n x.E.c, .slice x.tO x.tn x.tc, .slice x.yO x.yn x.yc, .slice x.F.O x.F.n x.F.c, .int .i64 x.Q.R, .int .i64 x.Q.C, .slice x.Q.O x.Q.n x.Q.c, .slice x.mO x.mn x.mc] 34)).rangeAt w1.heap.size 0 [.int .i64 x.V, .int .i64 x.W, .int .i64 x.H, .int .i64 x.K, .int .i64 x.L, .int .i64 x.D, .int .i64 x.N, .int .i64 x.M, .int .i64 x.E.R, .int .i64 x.E.C, .slice x.E.O x.E.n x.E.c, .slice x.tO x.tn x.tc, .slice x.yO x.yn x.yc, .slice x.F.O x.F.n x.F.c, .int .i64 x.Q.R, .int .i64 x.Q.C, .slice x.Q.O x.Q.n x.Q.c, .slice x.mO x.mn x.mc]) := row_range (L := wtL x) (World.rowIs_list w1 (wtL x) 34) rfl
    have f2 := fresh_alloc w1 (.cells #[.int .i64 x.V, .int .i64 x.W, .int .i64 x.H, .int .i64 x.K, .int .i64 x.L, .int .i64 x.D, .int .i64 x.N, .int .i64 x.M, .int .i64 x.E.R, .int .i64 x.E.C, .slice x.E.O x.E.n x.E.c, .slice x.tO x.tn x.tc, .slice x.yO x.yn x.yc, .slice x.F.O x.F.n x.F.c, .int .i64 x.Q.R, .int .i64 x.Q.C, .slice x.Q.O x.Q.n x.Q.c, .slice x.mO x.mn x.mc] 34)
    have F2 := hidd (fresh_trans F1.out f2)
    have HG2 := hidd (HG.out.fresh f2)
    clear hg HG HOR F1 f2 HDE
    generalize (w1.alloc (.cells #[.int .i64 x.V, .int .i64 x.W, .int .i64 x.H, .int .i64 x.K, .int .i64 x.L, .int .i64 x.D, .int .i64 x.N, .int .i64 x.M, .int .i64 x.E.R, .int .i64 x.E.C, .slice x.E.O x.E.n x.E.c, .slice x.tO x.tn x.tc, .slice x.yO x.yn x.yc, .slice x.F.O x.F.n x.F.c, .int .i64 x.Q.R, .int .i64 x.Q.C, .slice x.Q.O x.Q.n x.Q.c, .slice x.mO x.mn x.mc] 34)) = w2 at *
    go_wp2_with (refine wpList_load_mid rfl 34 _ rfl w1.heap.size 0 rfl _ _ RG.out Try.underlying34 rfl sizeW ?_)
    go_ret2
    have f3 := fresh_alloc w2 (.cells #[.int .i64 x.V, .int .i64 x.W, .int .i64 x.H, .int .i64 x.K, .int .i64 x.L, .int .i64 x.D, .int .i64 x.N, .int .i64 x.M, .int .i64 x.E.R, .int .i64 x.E.C, .slice x.E.O x.E.n x.E.c, .slice x.tO x.tn x.tc, .slice x.yO x.yn x.yc, .slice x.F.O x.F.n x.F.c, .int .i64 x.Q.R, .int .i64 x.Q.C, .slice x.Q.O x.Q.n x.Q.c, .slice x.mO x.mn x.mc] 76)
    exact ⟨fresh_trans F2.out f3, .inl ⟨x, w2.heap.size, rfl, F2.out.size, World.rowIs_list w2 (wtL x) 76, HG2.out.fresh f3⟩⟩
  · have HN := hidd hn
    have F2 := hidd (fresh_trans F1.out (fresh_alloc w1 (.cells #[.int .i64 x.V, .int .i64 x.W, .int .i64 x.H, .int .i64 x.K, .int .i64 x.L, .int .i64 x.D, .int .i64 x.N, .int .i64 x.M, .int .i64 x.E.R, .int .i64 x.E.C, .slice x.E.O x.E.n x.E.c, .slice x.tO x.tn x.tc, .slice x.yO x.yn x.yc, .slice x.F.O x.F.n x.F.c, .int .i64 x.Q.R, .int .i64 x.Q.C, .slice x.Q.O x.Q.n x.Q.c, .slice x.mO x.mn x.mc] 34)))
    clear hn HOR F1 HDE
    generalize (w1.alloc (.cells #[.int .i64 x.V, .int .i64 x.W, .int .i64 x.H, .int .i64 x.K, .int .i64 x.L, .int .i64 x.D, .int .i64 x.N, .int .i64 x.M, .int .i64 x.E.R, .int .i64 x.E.C, .slice x.E.O x.E.n x.E.c, .slice x.tO x.tn x.tc, .slice x.yO x.yn x.yc, .slice x.F.O x.F.n x.F.c, .int .i64 x.Q.R, .int .i64 x.Q.C, .slice x.Q.O x.Q.n x.Q.c, .slice x.mO x.mn x.mc] 34)) = w2 at *
    go_wp2
    go_ret2
    exact ⟨F2.out, .inr ⟨rfl, HN.out⟩⟩
end Go.Proofs.Ytilghknalbhacaa
namespace Go.Proofs.Ytilghknalbhacaa
open Go.RowKit
/-! copied: a round of its first loop. -/
set_option maxRecDepth 100000 in
set_option maxHeartbeats 40000000 in
theorem roundM {w wr : World} {x y3 : WtD} {uM uY : Option Addr} {cM cY k : Nat} {md : Nat → MtD} (HW : Hid (WtR w x)) (HB : Hid (WtB x)) (HS : Hid (y3.mn = x.mn ∧ y3.mO = uM ∧ y3.mc = cM ∧ y3.yn = x.yn ∧ y3.yO = uY ∧ y3.yc = cY ∧ y3.ly = x.ly)) (hmb : x.mn ≤ 1048576) (hlt : k < x.mn) (HL : Hid (Lm w wr x y3 k md))
    (a : Act) (ha : LF1 w.heap.size uM x.mn cM k a) (R : Act → World → Prop) (HR : Hid (∀ a' w' md', LF1 w.heap.size uM x.mn cM (k + 1) a' → Lm w w' x y3 (k + 1) md' → R a' w')) :
    loopM.wp Try.prog (Exit.then R (fun _ _ _ => False)) a wr := by
  conv => arg 2; whnf
  have HCM : Hid (∀ (z : World) (k : Nat) (md : Nat → MtD), k < x.mn → Lm w z x y3 k md → Calls Try.prog 72 #[.agg #[.int .i64 (x.md k).R, .int .i64 (x.md k).C, .slice (x.md k).O (x.md k).n (x.md k).c]] z fun e w' => ∃ u c, e = .returned (.agg #[.int .i64 (x.md k).R, .int .i64 (x.md k).C, .slice u (x.md k).n c]) ∧ Own w' (w.heap.size + 2) 84 1 (.slice u (x.md k).n c) (x.md k).n (fun i => .int .i8 ((x.md k).f i)) ∧ Lm w w' x y3 k md) := fun z k md hk hz => (cpmat_any ((HW.out.mr k hk).fresh hz.q.cp.low) (HB.out.m k hk)).mono fun e w' ⟨u, c, h1, h2, h3⟩ => ⟨u, c, h1, h2.weaken hz.q.cp.big, hz.fresh h3⟩
  have HLC : Hid (∀ (z : World) (k : Nat) (md : Nat → MtD), k < x.mn → Lm w z x y3 k md → ∃ g, uM = some ⟨g, 0, none⟩ ∧ z.cell? ⟨g, k * 3, none⟩ = some (.int .i64 (x.md k).R) ∧ z.cell? ⟨g, k * 3 + 1, none⟩ = some (.int .i64 (x.md k).C) ∧ z.cell? ⟨g, k * 3 + 2, none⟩ = some (.slice (x.md k).O (x.md k).n (x.md k).c) ∧ (∀ j, z.frozen? ⟨g, j, none⟩ = false) ∧ z.cell? ⟨w.heap.size, 17, none⟩ = some (.slice uM x.mn cM)) := fun z k md hk hz => by
    have ho := hz.q.oM
    obtain ⟨s1, s2, s3, _⟩ := HS.out
    have ho' : Own z (w.heap.size + 2) 29 3 (.slice uM x.mn cM) x.mn (mtc md) := by
      have := ho
      simp only [s1, s2, s3] at this
      exact this
    obtain ⟨g, e, _, _, hc, hf⟩ := Own.at_ ho' (by omega)
    have hmk := hz.td k (Nat.le_refl _)
    have k0 := hc (k * 3) (by omega)
    have k1 := hc (k * 3 + 1) (by omega)
    have k2 := hc (k * 3 + 2) (by omega)
    unfold mtc at k0 k1 k2
    rw [show k * 3 / 3 = k by omega, show k * 3 % 3 = 0 by omega, hmk] at k0
    rw [show (k * 3 + 1) / 3 = k by omega, show (k * 3 + 1) % 3 = 1 by omega, hmk] at k1
    rw [show (k * 3 + 2) / 3 = k by omega, show (k * 3 + 2) % 3 = 2 by omega, hmk] at k2
    have k17 : z.cell? ⟨w.heap.size, 17, none⟩ = some (.slice y3.mO y3.mn y3.mc) := hz.q.cp.box.cell (i := 17) (by decide)
    rw [s1, s2, s3] at k17
    exact ⟨g, e, k0, k1, k2, hf, k17⟩
  have HST : Hid (∀ (z : World) (k : Nat) (md : Nat → MtD) (g : Nat) (u : Option Addr) (c : Nat), uM = some ⟨g, 0, none⟩ → Lm w z x y3 k md → Own z (w.heap.size + 2) 84 1 (.slice u (x.md k).n c) (x.md k).n (fun i => .int .i8 ((x.md k).f i)) → Lm w (((z.setCell ⟨g, k * 3, none⟩ (.int .i64 (x.md k).R)).setCell ⟨g, k * 3 + 1, none⟩ (.int .i64 (x.md k).C)).setCell ⟨g, k * 3 + 2, none⟩ (.slice u (x.md k).n c)) x y3 (k + 1) (updM md k { x.md k with O := u, c := c })) := fun z k md g u c e hz ho => hz.step (HS.out.2.1.trans e) ho
  obtain ⟨g, rfl, d0, d1, d2, fz, d17⟩ := HLC.out _ _ _ hlt HL.out
  obtain ⟨u, e1, e2, e34, e35, e36, rfl⟩ := ha
  rw [e1, e2, e34, e35, e36]
  clear e1 e2 e34 e35 e36
  have i0 : (0 : Int) ≤ (k : Int) := by omega
  have i1 : (k : Int) < (x.mn : Int) := by omega
  have HLC2 : Hid (∀ z, Lm w z x y3 k md → z.cell? ⟨g, k * 3, none⟩ = some (.int .i64 (x.md k).R) ∧ z.cell? ⟨g, k * 3 + 1, none⟩ = some (.int .i64 (x.md k).C) ∧ z.cell? ⟨g, k * 3 + 2, none⟩ = some (.slice (x.md k).O (x.md k).n (x.md k).c) ∧ (∀ j, z.frozen? ⟨g, j, none⟩ = false) ∧ z.cell? ⟨w.heap.size, 17, none⟩ = some (.slice (some ⟨g, 0, none⟩) x.mn cM)) := fun z hz => by
    obtain ⟨g', e', r⟩ := HLC.out z k md hlt hz
    cases e'
    exact r
  have fa := fresh_trans (fresh_alloc wr (.cells #[.int .i64 (x.md k).R, .int .i64 (x.md k).C, .slice (x.md k).O (x.md k).n (x.md k).c] 29)) ((Below.refl _ _).drew)
  have hd := HL.out.fresh fa
  go_upto_region 7 with fail
  clear d0 d1 d2 fz d17
  obtain ⟨d0, d1, d2, fz, d17⟩ := HLC2.out _ hd
  go_region_with (go_at_call 72; with_reducible refine (HCM.out _ k md hlt hd).mono ?_; rintro e w7 ⟨u', c, rfl, o7, g7⟩; obtain ⟨p0, p1, p2, pf, p17⟩ := HLC2.out _ g7)
  all_goals
    go_wp2
    exact HR.out _ _ _ (LF1.of rfl rfl rfl rfl rfl (by first | rfl | simp)) (HST.out _ k md g u' c rfl g7 o7)
end Go.Proofs.Ytilghknalbhacaa
namespace Go.Proofs.Ytilghknalbhacaa
open Go.RowKit
/-! copied: a round of its second loop. -/
set_option maxRecDepth 100000 in
set_option maxHeartbeats 40000000 in
theorem roundY {w wr : World} {x y4 : WtD} {uY : Option Addr} {cY k : Nat} {ly : Nat → LyD} (HW : Hid (WtR w x)) (HB : Hid (WtB x)) (HEY : Hid (y4.yO = uY ∧ y4.yn = x.yn ∧ y4.yc = cY)) (hyb : x.yn ≤ 1048576) (hlt : k < x.yn) (HL : Hid (Lk w wr x y4 k ly))
    (a : Act) (ha : LF2 w.heap.size x.yn k a) (R : Act → World → Prop) (HR : Hid (∀ a' w' ly', LF2 w.heap.size x.yn (k + 1) a' → Lk w w' x y4 (k + 1) ly' → R a' w')) :
    loopY.wp Try.prog (Exit.then R (fun _ _ _ => False)) a wr := by
  conv => arg 2; whnf
  obtain ⟨g, hg⟩ : ∃ g, uY = some ⟨g, 0, none⟩ := by
    have ho := HL.out.q.oY
    obtain ⟨e1, e2, e3⟩ := HEY.out
    obtain ⟨g, e, _⟩ := Own.at_ ho (by show 0 < y4.yn; omega)
    exact ⟨g, e1.symm.trans e⟩
  have HYO : Hid (y4.yO = some ⟨g, 0, none⟩) := HEY.out.1.trans hg
  subst hg
  have HN1 : Hid (∀ z, Lk w z x y4 k ly → Calls Try.prog 74 #[.slice (x.ly k).n1.O (x.ly k).n1.n (x.ly k).n1.c] z fun e w' => ∃ u c, e = .returned (.slice u (x.ly k).n1.n c) ∧ OwS w w' { (x.ly k).n1 with O := u, c := c } ∧ Lk w w' x y4 k ly ∧ Below z.heap.size z w') := fun z hz => (cloneB_any ((HW.out.yr k hlt).n1.rd.fresh hz.q.cp.low) (fun _ _ => rfl) (HB.out.y1 k hlt)).mono fun e w' ⟨u, c, h1, h2, h3⟩ => ⟨u, c, h1, h2.weaken hz.q.cp.big, hz.fresh h3, h3⟩
  have HN2 : Hid (∀ z, Lk w z x y4 k ly → Calls Try.prog 74 #[.slice (x.ly k).n2.O (x.ly k).n2.n (x.ly k).n2.c] z fun e w' => ∃ u c, e = .returned (.slice u (x.ly k).n2.n c) ∧ OwS w w' { (x.ly k).n2 with O := u, c := c } ∧ Lk w w' x y4 k ly ∧ Below z.heap.size z w') := fun z hz => (cloneB_any ((HW.out.yr k hlt).n2.rd.fresh hz.q.cp.low) (fun _ _ => rfl) (HB.out.y2 k hlt)).mono fun e w' ⟨u, c, h1, h2, h3⟩ => ⟨u, c, h1, h2.weaken hz.q.cp.big, hz.fresh h3, h3⟩
  have HLC : Hid (∀ z, Lk w z x y4 k ly → z.cell? ⟨g, k * 30, none⟩ = some (.slice (x.ly k).n1.O (x.ly k).n1.n (x.ly k).n1.c) ∧ z.cell? ⟨g, k * 30 + 1, none⟩ = some (.slice (x.ly k).n2.O (x.ly k).n2.n (x.ly k).n2.c) ∧ (∀ j, z.frozen? ⟨g, j, none⟩ = false) ∧ z.cell? ⟨w.heap.size, 12, none⟩ = some (.slice (some ⟨g, 0, none⟩) x.yn cY)) := fun z hz => by
    obtain ⟨e1, e2, e3⟩ := HEY.out
    obtain ⟨c1, c2, c3⟩ := hz.q.lcell (g := g) (n := x.yn) (c := cY) HYO.out e2 e3 hlt
    have e4 := hz.td k (Nat.le_refl _)
    have q0 := c1 0 (by decide)
    have q1 := c1 1 (by decide)
    have e5 : ({ y4 with ly := ly } : WtD).ly k = x.ly k := e4
    rw [e5] at q0 q1
    exact ⟨q0, q1, c2, c3⟩
  obtain ⟨u, e1, e2, e50, e51, rfl⟩ := ha
  rw [e1, e2, e50, e51]
  clear e1 e2 e50 e51
  have i0 : (0 : Int) ≤ (k : Int) := by omega
  have i1 : (k : Int) < (x.yn : Int) := by omega
  have hd := HL.out.fresh ((Below.refl _ _).drew)
  obtain ⟨d0, d1, d2, d3⟩ := HLC.out _ HL.out
  go_upto_region 13 with fail
  clear d0 d1 d2 d3
  obtain ⟨d0, d1, d2, d3⟩ := HLC.out _ hd
  go_cut [58, 59, 60, 61, 62, 63, 64, 65, 66, 67, 68, 69, 70, 71, 72, 73] from 58 to 73 (fun _ _ _ _ _ _ _ _ _ _ _ _ _ _ _ _ wx => ∃ l, Hid (Li w wx x y4 k ly l 0))
  case first =>
    go_region_with (first
      | (go_at_call 74; (with_reducible refine (HN1.out _ hd).mono ?_); rintro e wE ⟨u1, c1, rfl, o1, g1, k1⟩; obtain ⟨b0, b1, b2, b3⟩ := HLC.out _ g1)
      | (go_at_call 74; (with_reducible refine (HN2.out _ hd).mono ?_); rintro e wQ ⟨u2, c2, rfl, o2, g2, k2⟩; obtain ⟨b0, b1, b2, b3⟩ := HLC.out _ g2)
      | (go_at_call 74; (with_reducible refine (HN2.out _ g1).mono ?_); rintro e wF ⟨u2, c2, rfl, o2', gF, k2⟩; (have o1' : OwS w wF { (x.ly k).n1 with O := u1, c := c1 } := Own.kept o1 k2); obtain ⟨r0, r1, r2, r3⟩ := HLC.out _ gF)
      | (go_at_call 74; (with_reducible refine (HN1.out _ g2).mono ?_); rintro e wF ⟨u1, c1, rfl, o1', gF, k1⟩; (have o2' : OwS w wF { (x.ly k).n2 with O := u2, c := c2 } := Own.kept o2 k1); obtain ⟨r0, r1, r2, r3⟩ := HLC.out _ gF))
    all_goals
      go_wp2
      go_meet
      case rel => first
        | exact ⟨_, gF.inner HYO.out o1' o2' ⟨rfl, rfl⟩ ⟨rfl, rfl⟩⟩
        | exact ⟨_, gF.inner' HYO.out o1' o2' ⟨rfl, rfl⟩ ⟨rfl, rfl⟩⟩
  case rest =>
    obtain ⟨l0, HI0⟩ := hcut
    clear hd d0 d1 d2 d3 HN1 HN2 HLC HL
    go_wp2_with fail
    refine (matsOf_any _ g (k * 30)).mono ?_
    rintro e w14 ⟨rfl, f14⟩
    have HI1 := hidd (HI0.out.fresh f14)
    clear HI0 f14
    have HCI : Hid (∀ (z : World) (l : LyD) (r : Nat), r < 7 → Li w z x y4 k ly l r → Calls Try.prog 72 #[.agg #[.int .i64 (mtI (x.ly k) r).R, .int .i64 (mtI (x.ly k) r).C, .slice (mtI (x.ly k) r).O (mtI (x.ly k) r).n (mtI (x.ly k) r).c]] z fun e w' => ∃ u c, e = .returned (.agg #[.int .i64 (mtI (x.ly k) r).R, .int .i64 (mtI (x.ly k) r).C, .slice u (mtI (x.ly k) r).n c]) ∧ Own w' (w.heap.size + 2) 84 1 (.slice u (mtI (x.ly k) r).n c) (mtI (x.ly k) r).n (fun j => .int .i8 ((mtI (x.ly k) r).f j)) ∧ Li w w' x y4 k ly l r) := fun z l r hr hz => (cpmat_any (((HW.out.yr k hlt).mat r).fresh hz.q.cp.low) ((HB.out.ym k hlt).mat r)).mono fun e w' ⟨u, c, h1, h2, h3⟩ => ⟨u, c, h1, h2.weaken hz.q.cp.big, hz.fresh h3⟩
    have HLI : Hid (∀ (z : World) (l : LyD) (r : Nat), r < 7 → Li w z x y4 k ly l r → z.cell? ⟨g, k * 30 + (2 + 3 * r), none⟩ = some (.int .i64 (mtI (x.ly k) r).R) ∧ z.cell? ⟨g, k * 30 + (2 + 3 * r) + 1, none⟩ = some (.int .i64 (mtI (x.ly k) r).C) ∧ z.cell? ⟨g, k * 30 + (2 + 3 * r) + 2, none⟩ = some (.slice (mtI (x.ly k) r).O (mtI (x.ly k) r).n (mtI (x.ly k) r).c) ∧ ∀ j, z.frozen? ⟨g, j, none⟩ = false) := fun z l r hr hz => by
      obtain ⟨e1, e2, e3⟩ := HEY.out
      obtain ⟨c1, c2, c3⟩ := hz.q.lcell (g := g) (n := x.yn) (c := cY) HYO.out e2 e3 hlt
      have e5 : ({ y4 with ly := updY ly k l } : WtD).ly k = l := updY_at ly k l
      rw [e5] at c1
      obtain ⟨m0, m1, m2⟩ := lyL_mt l r hr
      rw [hz.tm r (Nat.le_refl _) hr] at m0 m1 m2
      have q0 := c1 (2 + 3 * r) (by omega)
      have q1 := c1 (2 + 3 * r + 1) (by omega)
      have q2 := c1 (2 + 3 * r + 2) (by omega)
      rw [m0] at q0
      rw [m1] at q1
      rw [m2] at q2
      exact ⟨q0, q1, q2, c2⟩
    go_wp2
    go_loopw [8, 76] (fun _ j wq => ∃ (r : Nat) (l : LyD), r ≤ 7 ∧ j = .int .i64 (r : Int) ∧ Hid (Li w wq x y4 k ly l r)) (fun _ j _ => 7 - (intOf j).toNat)
    case atStart => exact ⟨0, l0, by omega, by simp, HI1.out⟩
    case round =>
      clear HI1
      obtain ⟨r, l, hr, rfl, HI⟩ := hrel
      by_cases hr7 : r < 7
      · have hpm := pm7_at g (k * 30) r hr7
        as_aux_lemma =>
          obtain ⟨q0, q1, q2, q3⟩ := HLI.out _ l r hr7 HI.out
          have j0 : (0 : Int) ≤ (r : Int) := by omega
          have j1 : (r : Int) < 7 := by omega
          go_wp2_with fail
          refine (HCI.out _ l r hr7 HI.out).mono ?_
          rintro e w17 ⟨u, c, rfl, o17, HI17⟩
          clear q0 q1 q2 q3
          obtain ⟨q0, q1, q2, q3⟩ := HLI.out _ l r hr7 HI17
          go_wp2
          go_roundw
          case rel => exact ⟨r + 1, _, by omega, by go_num, HI17.step HYO.out hr7 o17⟩
          case measure => simp [intOf]; omega
      · obtain rfl : r = 7 := by omega
        go_wp2
        exact HR.out _ _ _ (LF2.of rfl rfl rfl rfl (by first | rfl | simp)) HI.out.done
end Go.Proofs.Ytilghknalbhacaa
