import Derived.Test.YtilghknalbhacaaCpH
import Derived.Test.YtilghknalbhacaaJAS
import Derived.Great.BuildSlice
namespace Go.Proofs.Ytilghknalbhacaa
open Go.RowKit
/-! CopyWeights: what its walk keeps. -/
theorem putw_E {w : World} {B : Nat} {x : WtD} (h : w.rowIs B 34 18 (wtc x)) (m : MtD) : (((w.setCell ⟨B, 8, none⟩ (.int .i64 m.R)).setCell ⟨B, 9, none⟩ (.int .i64 m.C)).setCell ⟨B, 10, none⟩ (.slice m.O m.n m.c)).rowIs B 34 18 (wtc { x with E := m }) :=
  World.rowIs.congr (((h.set 8 (.int .i64 m.R)).set 9 (.int .i64 m.C)).set 10 (.slice m.O m.n m.c)) (fun i hi => by
    match i, hi with
    | 0, _ => rfl
    | 1, _ => rfl
    | 2, _ => rfl
    | 3, _ => rfl
    | 4, _ => rfl
    | 5, _ => rfl
    | 6, _ => rfl
    | 7, _ => rfl
    | 8, _ => rfl
    | 9, _ => rfl
    | 10, _ => rfl
    | 11, _ => rfl
    | 12, _ => rfl
    | 13, _ => rfl
    | 14, _ => rfl
    | 15, _ => rfl
    | 16, _ => rfl
    | 17, _ => rfl
    | i + 18, hi => exact absurd hi (by omega))
theorem putw_Q {w : World} {B : Nat} {x : WtD} (h : w.rowIs B 34 18 (wtc x)) (m : MtD) : (((w.setCell ⟨B, 14, none⟩ (.int .i64 m.R)).setCell ⟨B, 15, none⟩ (.int .i64 m.C)).setCell ⟨B, 16, none⟩ (.slice m.O m.n m.c)).rowIs B 34 18 (wtc { x with Q := m }) :=
  World.rowIs.congr (((h.set 14 (.int .i64 m.R)).set 15 (.int .i64 m.C)).set 16 (.slice m.O m.n m.c)) (fun i hi => by
    match i, hi with
    | 0, _ => rfl
    | 1, _ => rfl
    | 2, _ => rfl
    | 3, _ => rfl
    | 4, _ => rfl
    | 5, _ => rfl
    | 6, _ => rfl
    | 7, _ => rfl
    | 8, _ => rfl
    | 9, _ => rfl
    | 10, _ => rfl
    | 11, _ => rfl
    | 12, _ => rfl
    | 13, _ => rfl
    | 14, _ => rfl
    | 15, _ => rfl
    | 16, _ => rfl
    | 17, _ => rfl
    | i + 18, hi => exact absurd hi (by omega))
theorem putw_T {w : World} {B : Nat} {x : WtD} (h : w.rowIs B 34 18 (wtc x)) (u : Option Addr) (n c : Nat) (C S : Nat → Int) : (w.setCell ⟨B, 11, none⟩ (.slice u n c)).rowIs B 34 18 (wtc { x with tO := u, tn := n, tc := c, tC := C, tS := S }) :=
  World.rowIs.congr (h.set 11 (.slice u n c)) (fun i hi => by
    match i, hi with
    | 0, _ => rfl
    | 1, _ => rfl
    | 2, _ => rfl
    | 3, _ => rfl
    | 4, _ => rfl
    | 5, _ => rfl
    | 6, _ => rfl
    | 7, _ => rfl
    | 8, _ => rfl
    | 9, _ => rfl
    | 10, _ => rfl
    | 11, _ => rfl
    | 12, _ => rfl
    | 13, _ => rfl
    | 14, _ => rfl
    | 15, _ => rfl
    | 16, _ => rfl
    | 17, _ => rfl
    | i + 18, hi => exact absurd hi (by omega))
theorem putw_F {w : World} {B : Nat} {x : WtD} (h : w.rowIs B 34 18 (wtc x)) (f : LsD) : (w.setCell ⟨B, 13, none⟩ (.slice f.O f.n f.c)).rowIs B 34 18 (wtc { x with F := f }) :=
  World.rowIs.congr (h.set 13 (.slice f.O f.n f.c)) (fun i hi => by
    match i, hi with
    | 0, _ => rfl
    | 1, _ => rfl
    | 2, _ => rfl
    | 3, _ => rfl
    | 4, _ => rfl
    | 5, _ => rfl
    | 6, _ => rfl
    | 7, _ => rfl
    | 8, _ => rfl
    | 9, _ => rfl
    | 10, _ => rfl
    | 11, _ => rfl
    | 12, _ => rfl
    | 13, _ => rfl
    | 14, _ => rfl
    | 15, _ => rfl
    | 16, _ => rfl
    | 17, _ => rfl
    | i + 18, hi => exact absurd hi (by omega))
theorem putw_Y {w : World} {B : Nat} {x : WtD} (h : w.rowIs B 34 18 (wtc x)) (u : Option Addr) (n c : Nat) (ly : Nat → LyD) : (w.setCell ⟨B, 12, none⟩ (.slice u n c)).rowIs B 34 18 (wtc { x with yO := u, yn := n, yc := c, ly := ly }) :=
  World.rowIs.congr (h.set 12 (.slice u n c)) (fun i hi => by
    match i, hi with
    | 0, _ => rfl
    | 1, _ => rfl
    | 2, _ => rfl
    | 3, _ => rfl
    | 4, _ => rfl
    | 5, _ => rfl
    | 6, _ => rfl
    | 7, _ => rfl
    | 8, _ => rfl
    | 9, _ => rfl
    | 10, _ => rfl
    | 11, _ => rfl
    | 12, _ => rfl
    | 13, _ => rfl
    | 14, _ => rfl
    | 15, _ => rfl
    | 16, _ => rfl
    | 17, _ => rfl
    | i + 18, hi => exact absurd hi (by omega))
theorem putw_M {w : World} {B : Nat} {x : WtD} (h : w.rowIs B 34 18 (wtc x)) (u : Option Addr) (n c : Nat) (md : Nat → MtD) : (w.setCell ⟨B, 17, none⟩ (.slice u n c)).rowIs B 34 18 (wtc { x with mO := u, mn := n, mc := c, md := md }) :=
  World.rowIs.congr (h.set 17 (.slice u n c)) (fun i hi => by
    match i, hi with
    | 0, _ => rfl
    | 1, _ => rfl
    | 2, _ => rfl
    | 3, _ => rfl
    | 4, _ => rfl
    | 5, _ => rfl
    | 6, _ => rfl
    | 7, _ => rfl
    | 8, _ => rfl
    | 9, _ => rfl
    | 10, _ => rfl
    | 11, _ => rfl
    | 12, _ => rfl
    | 13, _ => rfl
    | 14, _ => rfl
    | 15, _ => rfl
    | 16, _ => rfl
    | 17, _ => rfl
    | i + 18, hi => exact absurd hi (by omega))
structure Cw (w wx : World) (x y : WtD) : Prop where
  box : wx.rowIs w.heap.size 34 18 (wtc x)
  res : wx.rowIs (w.heap.size + 1) 34 18 (fun i => wtZ.getD i undef)
  loc : wx.rowIs (w.heap.size + 2) 34 18 (wtc y)
  low : Below w.heap.size w wx
theorem Cw.fresh {w wx wy : World} {x y : WtD} (h : Cw w wx x y) (f : Below wx.heap.size wx wy) : Cw w wy x y :=
  ⟨row_fresh h.box f, row_fresh h.res f, row_fresh h.loc f, fresh_trans h.low f⟩
theorem Cw.big {w wx : World} {x y : WtD} (h : Cw w wx x y) : w.heap.size + 3 ≤ wx.heap.size := by have := h.loc.lt; omega
theorem Cw.start (w : World) (x : WtD) : Cw w (((w.alloc (.cells #[.int .i64 x.V, .int .i64 x.W, .int .i64 x.H, .int .i64 x.K, .int .i64 x.L, .int .i64 x.D, .int .i64 x.N, .int .i64 x.M, .int .i64 x.E.R, .int .i64 x.E.C, .slice x.E.O x.E.n x.E.c, .slice x.tO x.tn x.tc, .slice x.yO x.yn x.yc, .slice x.F.O x.F.n x.F.c, .int .i64 x.Q.R, .int .i64 x.Q.C, .slice x.Q.O x.Q.n x.Q.c, .slice x.mO x.mn x.mc] 34)).alloc (.cells #[.int .i64 0, .int .i64 0, .int .i64 0, .int .i64 0, .int .i64 0, .int .i64 0, .int .i64 0, .int .i64 0, .int .i64 0, .int .i64 0, .slice none 0 0, .slice none 0 0, .slice none 0 0, .slice none 0 0, .int .i64 0, .int .i64 0, .slice none 0 0, .slice none 0 0] 34)).alloc (.cells (wtA x) 34)) x x := by
  have h1 : (w.alloc (.cells #[.int .i64 x.V, .int .i64 x.W, .int .i64 x.H, .int .i64 x.K, .int .i64 x.L, .int .i64 x.D, .int .i64 x.N, .int .i64 x.M, .int .i64 x.E.R, .int .i64 x.E.C, .slice x.E.O x.E.n x.E.c, .slice x.tO x.tn x.tc, .slice x.yO x.yn x.yc, .slice x.F.O x.F.n x.F.c, .int .i64 x.Q.R, .int .i64 x.Q.C, .slice x.Q.O x.Q.n x.Q.c, .slice x.mO x.mn x.mc] 34)).heap.size = w.heap.size + 1 := by simp
  have h2 : ((w.alloc (.cells #[.int .i64 x.V, .int .i64 x.W, .int .i64 x.H, .int .i64 x.K, .int .i64 x.L, .int .i64 x.D, .int .i64 x.N, .int .i64 x.M, .int .i64 x.E.R, .int .i64 x.E.C, .slice x.E.O x.E.n x.E.c, .slice x.tO x.tn x.tc, .slice x.yO x.yn x.yc, .slice x.F.O x.F.n x.F.c, .int .i64 x.Q.R, .int .i64 x.Q.C, .slice x.Q.O x.Q.n x.Q.c, .slice x.mO x.mn x.mc] 34)).alloc (.cells #[.int .i64 0, .int .i64 0, .int .i64 0, .int .i64 0, .int .i64 0, .int .i64 0, .int .i64 0, .int .i64 0, .int .i64 0, .int .i64 0, .slice none 0 0, .slice none 0 0, .slice none 0 0, .slice none 0 0, .int .i64 0, .int .i64 0, .slice none 0 0, .slice none 0 0] 34)).heap.size = w.heap.size + 2 := by simp
  have r1 := World.rowIs_list w (wtL x) 34
  have r2 := World.rowIs_list (w.alloc (.cells #[.int .i64 x.V, .int .i64 x.W, .int .i64 x.H, .int .i64 x.K, .int .i64 x.L, .int .i64 x.D, .int .i64 x.N, .int .i64 x.M, .int .i64 x.E.R, .int .i64 x.E.C, .slice x.E.O x.E.n x.E.c, .slice x.tO x.tn x.tc, .slice x.yO x.yn x.yc, .slice x.F.O x.F.n x.F.c, .int .i64 x.Q.R, .int .i64 x.Q.C, .slice x.Q.O x.Q.n x.Q.c, .slice x.mO x.mn x.mc] 34)) wtZ 34
  have r3 := World.rowIs_list ((w.alloc (.cells #[.int .i64 x.V, .int .i64 x.W, .int .i64 x.H, .int .i64 x.K, .int .i64 x.L, .int .i64 x.D, .int .i64 x.N, .int .i64 x.M, .int .i64 x.E.R, .int .i64 x.E.C, .slice x.E.O x.E.n x.E.c, .slice x.tO x.tn x.tc, .slice x.yO x.yn x.yc, .slice x.F.O x.F.n x.F.c, .int .i64 x.Q.R, .int .i64 x.Q.C, .slice x.Q.O x.Q.n x.Q.c, .slice x.mO x.mn x.mc] 34)).alloc (.cells #[.int .i64 0, .int .i64 0, .int .i64 0, .int .i64 0, .int .i64 0, .int .i64 0, .int .i64 0, .int .i64 0, .int .i64 0, .int .i64 0, .slice none 0 0, .slice none 0 0, .slice none 0 0, .slice none 0 0, .int .i64 0, .int .i64 0, .slice none 0 0, .slice none 0 0] 34)) (wtL x) 34
  rw [h1] at r2
  rw [h2] at r3
  exact ⟨(r1.alloc _).alloc _, r2.alloc _, r3, fresh_trans (fresh_trans (fresh_alloc _ _) (fresh_alloc _ _)) (fresh_alloc _ _)⟩
theorem Cw.range (w : World) (x : WtD) : ((w.alloc (.cells #[.int .i64 x.V, .int .i64 x.W, .int .i64 x.H, .int .i64 x.K, .int .i64 x.L, .int .i64 x.D, .int .i64 x.N, .int .i64 x.M, .int .i64 x.E.R, .int .i64 x.E.C, .slice x.E.O x.E.n x.E.c, .slice x.tO x.tn x.tc, .slice x.yO x.yn x.yc, .slice x.F.O x.F.n x.F.c, .int .i64 x.Q.R, .int .i64 x.Q.C, .slice x.Q.O x.Q.n x.Q.c, .slice x.mO x.mn x.mc] 34)).alloc (.cells #[.int .i64 0, .int .i64 0, .int .i64 0, .int .i64 0, .int .i64 0, .int .i64 0, .int .i64 0, .int .i64 0, .int .i64 0, .int .i64 0, .slice none 0 0, .slice none 0 0, .slice none 0 0, .slice none 0 0, .int .i64 0, .int .i64 0, .slice none 0 0, .slice none 0 0] 34)).rangeAt w.heap.size 0 (wtL x) := row_range ((World.rowIs_list w (wtL x) 34).alloc _) rfl
theorem Cw.size (w : World) (x : WtD) : ((w.alloc (.cells #[.int .i64 x.V, .int .i64 x.W, .int .i64 x.H, .int .i64 x.K, .int .i64 x.L, .int .i64 x.D, .int .i64 x.N, .int .i64 x.M, .int .i64 x.E.R, .int .i64 x.E.C, .slice x.E.O x.E.n x.E.c, .slice x.tO x.tn x.tc, .slice x.yO x.yn x.yc, .slice x.F.O x.F.n x.F.c, .int .i64 x.Q.R, .int .i64 x.Q.C, .slice x.Q.O x.Q.n x.Q.c, .slice x.mO x.mn x.mc] 34)).alloc (.cells #[.int .i64 0, .int .i64 0, .int .i64 0, .int .i64 0, .int .i64 0, .int .i64 0, .int .i64 0, .int .i64 0, .int .i64 0, .int .i64 0, .slice none 0 0, .slice none 0 0, .slice none 0 0, .slice none 0 0, .int .i64 0, .int .i64 0, .slice none 0 0, .slice none 0 0] 34)).heap.size = w.heap.size + 2 := by simp
theorem Cw.E {w wx : World} {x y : WtD} (h : Cw w wx x y) (m : MtD) : Cw w (((wx.setCell ⟨w.heap.size + 2, 8, none⟩ (.int .i64 m.R)).setCell ⟨w.heap.size + 2, 9, none⟩ (.int .i64 m.C)).setCell ⟨w.heap.size + 2, 10, none⟩ (.slice m.O m.n m.c)) x { y with E := m } :=
  ⟨(((h.box.setOther (by show w.heap.size ≠ w.heap.size + 2; omega) _).setOther (by show w.heap.size ≠ w.heap.size + 2; omega) _).setOther (by show w.heap.size ≠ w.heap.size + 2; omega) _), (((h.res.setOther (by show w.heap.size + 1 ≠ w.heap.size + 2; omega) _).setOther (by show w.heap.size + 1 ≠ w.heap.size + 2; omega) _).setOther (by show w.heap.size + 1 ≠ w.heap.size + 2; omega) _), putw_E h.loc m, (((h.low.setCell (by show w.heap.size ≤ w.heap.size + 2; omega) _).setCell (by show w.heap.size ≤ w.heap.size + 2; omega) _).setCell (by show w.heap.size ≤ w.heap.size + 2; omega) _)⟩
theorem Cw.Q {w wx : World} {x y : WtD} (h : Cw w wx x y) (m : MtD) : Cw w (((wx.setCell ⟨w.heap.size + 2, 14, none⟩ (.int .i64 m.R)).setCell ⟨w.heap.size + 2, 15, none⟩ (.int .i64 m.C)).setCell ⟨w.heap.size + 2, 16, none⟩ (.slice m.O m.n m.c)) x { y with Q := m } :=
  ⟨(((h.box.setOther (by show w.heap.size ≠ w.heap.size + 2; omega) _).setOther (by show w.heap.size ≠ w.heap.size + 2; omega) _).setOther (by show w.heap.size ≠ w.heap.size + 2; omega) _), (((h.res.setOther (by show w.heap.size + 1 ≠ w.heap.size + 2; omega) _).setOther (by show w.heap.size + 1 ≠ w.heap.size + 2; omega) _).setOther (by show w.heap.size + 1 ≠ w.heap.size + 2; omega) _), putw_Q h.loc m, (((h.low.setCell (by show w.heap.size ≤ w.heap.size + 2; omega) _).setCell (by show w.heap.size ≤ w.heap.size + 2; omega) _).setCell (by show w.heap.size ≤ w.heap.size + 2; omega) _)⟩
theorem Cw.T {w wx : World} {x y : WtD} (h : Cw w wx x y) (u : Option Addr) (n c : Nat) (C S : Nat → Int) : Cw w (wx.setCell ⟨w.heap.size + 2, 11, none⟩ (.slice u n c)) x { y with tO := u, tn := n, tc := c, tC := C, tS := S } :=
  ⟨(h.box.setOther (by show w.heap.size ≠ w.heap.size + 2; omega) _), (h.res.setOther (by show w.heap.size + 1 ≠ w.heap.size + 2; omega) _), putw_T h.loc u n c C S, (h.low.setCell (by show w.heap.size ≤ w.heap.size + 2; omega) _)⟩
theorem Cw.F {w wx : World} {x y : WtD} (h : Cw w wx x y) (f : LsD) : Cw w (wx.setCell ⟨w.heap.size + 2, 13, none⟩ (.slice f.O f.n f.c)) x { y with F := f } :=
  ⟨(h.box.setOther (by show w.heap.size ≠ w.heap.size + 2; omega) _), (h.res.setOther (by show w.heap.size + 1 ≠ w.heap.size + 2; omega) _), putw_F h.loc f, (h.low.setCell (by show w.heap.size ≤ w.heap.size + 2; omega) _)⟩
theorem Cw.Y {w wx : World} {x y : WtD} (h : Cw w wx x y) (u : Option Addr) (n c : Nat) (ly : Nat → LyD) : Cw w (wx.setCell ⟨w.heap.size + 2, 12, none⟩ (.slice u n c)) x { y with yO := u, yn := n, yc := c, ly := ly } :=
  ⟨(h.box.setOther (by show w.heap.size ≠ w.heap.size + 2; omega) _), (h.res.setOther (by show w.heap.size + 1 ≠ w.heap.size + 2; omega) _), putw_Y h.loc u n c ly, (h.low.setCell (by show w.heap.size ≤ w.heap.size + 2; omega) _)⟩
theorem Cw.M {w wx : World} {x y : WtD} (h : Cw w wx x y) (u : Option Addr) (n c : Nat) (md : Nat → MtD) : Cw w (wx.setCell ⟨w.heap.size + 2, 17, none⟩ (.slice u n c)) x { y with mO := u, mn := n, mc := c, md := md } :=
  ⟨(h.box.setOther (by show w.heap.size ≠ w.heap.size + 2; omega) _), (h.res.setOther (by show w.heap.size + 1 ≠ w.heap.size + 2; omega) _), putw_M h.loc u n c md, (h.low.setCell (by show w.heap.size ≤ w.heap.size + 2; omega) _)⟩
/-- an append leaves the three rows -/
theorem Cw.app {w wx wy : World} {x y : WtD} (h : Cw w wx x y) {v v' : Value} {e : TypeId} {sz n : Nat} {cs : Nat → Value} (ho : Own wx (w.heap.size + 2) e sz v n cs) (hne : e ≠ 34) (ha : App wx wy v v') : Cw w wy x y := by
  have b := h.big
  have k : ∀ z, z < w.heap.size + 3 → (∀ {m : Nat} {G : Nat → Value}, wx.rowIs z 34 m G → wy.rowIs z 34 m G) := fun z hz {m G} hr => hr.of_block (ha.grown.block z (by omega) (fun e => Own.apart ho hr hne e.symm))
  exact ⟨k _ (by omega) h.box, k _ (by omega) h.res, k _ (by omega) h.loc, ha.below h.low ho (by omega) (by omega)⟩
def cfgs (x y : WtD) : Prop := y.V = x.V ∧ y.W = x.W ∧ y.H = x.H ∧ y.K = x.K ∧ y.L = x.L ∧ y.D = x.D ∧ y.N = x.N ∧ y.M = x.M
/-- what is copied ahead of the layers -/
structure Ce (w wx : World) (x y : WtD) : Prop where
  cw : Cw w wx x y
  cfg : cfgs x y
  E : OwM w wx y.E
  sE : SmM x.E y.E
  T : Own wx (w.heap.size + 2) 97 2 (.slice y.tO y.tn y.tc) y.tn (tcs y.tC y.tS)
  sT : y.tn = x.tn ∧ y.tC = x.tC ∧ y.tS = x.tS
theorem Ce.fresh {w wx wy : World} {x y : WtD} (h : Ce w wx x y) (f : Below wx.heap.size wx wy) : Ce w wy x y :=
  ⟨h.cw.fresh f, h.cfg, Own.kept h.E f, h.sE, h.T.kept f, h.sT⟩
/-- k layers are copied -/
structure Lw (w wx : World) (x y : WtD) (k : Nat) : Prop where
  ce : Ce w wx x y
  Y : Own wx (w.heap.size + 2) 67 30 (.slice y.yO y.yn y.yc) y.yn (lyc y.ly)
  yn : y.yn = k
  yy : ∀ j, j < k → LyO w wx (y.ly j) ∧ SmL (x.ly j) (y.ly j)
theorem Lw.fresh {w wx wy : World} {x y : WtD} {k : Nat} (h : Lw w wx x y k) (f : Below wx.heap.size wx wy) : Lw w wy x y k :=
  ⟨h.ce.fresh f, h.Y.kept f, h.yn, fun j hj => ⟨(h.yy j hj).1.fresh f, (h.yy j hj).2⟩⟩
theorem own_apart {w wx : World} {x y : WtD} (h : Cw w wx x y) {e : TypeId} {sz n : Nat} {v : Value} {cs : Nat → Value} {base : Nat} (ho : Own wx base e sz v n cs) (hne : e ≠ 34) : v.ownBlock ≠ some (w.heap.size + 2) := Own.apart ho h.loc hne
theorem Lw.step {w wx wy : World} {x y : WtD} {k : Nat} (h : Lw w wx x y k) {p : Option Addr} {uc : Nat} {l : LyD} (ha : App wx wy (.slice y.yO k y.yc) (.slice p (k + 1) uc)) (ho : Own wy (w.heap.size + 2) 67 30 (.slice p (k + 1) uc) (k + 1) (lyc (updY y.ly k l))) (hl : LyO w wx l) (hs : SmL (x.ly k) l) :
    Lw w (wy.setCell ⟨w.heap.size + 2, 12, none⟩ (.slice p (k + 1) uc)) x { y with yO := p, yn := k + 1, yc := uc, ly := updY y.ly k l } (k + 1) := by
  have hY := h.Y
  rw [h.yn] at hY
  have hc := h.ce.cw.app hY (by decide) ha
  have s8 : ∀ {b n : Nat} {v : Value} {cs : Nat → Value}, Own wx b 84 1 v n cs → Own (wy.setCell ⟨w.heap.size + 2, 12, none⟩ (.slice p (k + 1) uc)) b 84 1 v n cs := fun hz => by
    have h1 := ha.own hz (hY.offT hz (by decide))
    exact h1.set (own_apart hc h1 (by decide))
  have h2 := ha.own h.ce.T (hY.offT h.ce.T (by decide))
  refine ⟨⟨hc.Y p (k + 1) uc _, h.ce.cfg, s8 h.ce.E, h.ce.sE, h2.set (own_apart hc h2 (by decide)), h.ce.sT⟩, ho.set (own_apart hc ho (by decide)), rfl, fun j hj => ?_⟩
  by_cases e : j = k
  · subst e
    show LyO w _ (updY y.ly j l j) ∧ SmL (x.ly j) (updY y.ly j l j)
    rw [updY_at]
    exact ⟨⟨s8 hl.1, s8 hl.2.1, fun q hq => s8 (hl.2.2 q hq)⟩, hs⟩
  · show LyO w _ (updY y.ly k l j) ∧ SmL (x.ly j) (updY y.ly k l j)
    rw [show updY y.ly k l j = y.ly j from if_neg e]
    obtain ⟨h3, h4⟩ := h.yy j (by omega)
    exact ⟨⟨s8 h3.1, s8 h3.2.1, fun q hq => s8 (h3.2.2 q hq)⟩, h4⟩
/-- no other list lies in the block of Head's numbers -/
structure NoQ (x y : WtD) (k : Nat) : Prop where
  E : Off (.slice y.Q.O y.Q.n y.Q.c) (.slice y.E.O y.E.n y.E.c)
  F : Off (.slice y.Q.O y.Q.n y.Q.c) (.slice y.F.O y.F.n y.F.c)
  n1 : ∀ j, j < x.yn → Off (.slice y.Q.O y.Q.n y.Q.c) (.slice (y.ly j).n1.O (y.ly j).n1.n (y.ly j).n1.c)
  n2 : ∀ j, j < x.yn → Off (.slice y.Q.O y.Q.n y.Q.c) (.slice (y.ly j).n2.O (y.ly j).n2.n (y.ly j).n2.c)
  ms : ∀ j, j < x.yn → ∀ q, q < 7 → Off (.slice y.Q.O y.Q.n y.Q.c) (.slice (mtI (y.ly j) q).O (mtI (y.ly j) q).n (mtI (y.ly j) q).c)
  md : ∀ j, j < k → Off (.slice y.Q.O y.Q.n y.Q.c) (.slice (y.md j).O (y.md j).n (y.md j).c)
/-- of two lists one is made behind the other -/
theorem off_late {w w1 w2 : World} {b s1 s2 n1 n2 : Nat} {e1 e2 : TypeId} {v u : Value} {c1 c2 : Nat → Value} (h : Own w1 w.heap.size e1 s1 v n1 c1) (k : Own w2 b e2 s2 u n2 c2) (hs : w2.heap.size ≤ w.heap.size) : Off v u := fun g h1 h2 => by
  have := (h.lt g h1).1
  have := (k.lt g h2).2
  omega
/-- k of Medusa's are copied -/
structure Mw (w wx : World) (x y : WtD) (k : Nat) : Prop where
  lw : Lw w wx x y x.yn
  F : OwS w wx y.F
  sF : SmS x.F y.F
  Q : OwM w wx y.Q
  sQ : SmM x.Q y.Q
  M : Own wx (w.heap.size + 2) 29 3 (.slice y.mO y.mn y.mc) y.mn (mtc y.md)
  mn : y.mn = k
  mm : ∀ j, j < k → OwM w wx (y.md j) ∧ SmM (x.md j) (y.md j)
  nq : NoQ x y k
theorem Mw.fresh {w wx wy : World} {x y : WtD} {k : Nat} (h : Mw w wx x y k) (f : Below wx.heap.size wx wy) : Mw w wy x y k :=
  ⟨h.lw.fresh f, Own.kept h.F f, h.sF, Own.kept h.Q f, h.sQ, h.M.kept f, h.mn, fun j hj => ⟨Own.kept (h.mm j hj).1 f, (h.mm j hj).2⟩, h.nq⟩
theorem Mw.step {w wx wy : World} {x y : WtD} {k : Nat} (h : Mw w wx x y k) {p : Option Addr} {uc : Nat} {m : MtD} (ha : App wx wy (.slice y.mO k y.mc) (.slice p (k + 1) uc)) (ho : Own wy (w.heap.size + 2) 29 3 (.slice p (k + 1) uc) (k + 1) (mtc (updM y.md k m))) (hl : OwM w wx m) (hs : SmM (x.md k) m) (hq : Off (.slice y.Q.O y.Q.n y.Q.c) (.slice m.O m.n m.c)) :
    Mw w (wy.setCell ⟨w.heap.size + 2, 17, none⟩ (.slice p (k + 1) uc)) x { y with mO := p, mn := k + 1, mc := uc, md := updM y.md k m } (k + 1) := by
  have hM := h.M
  rw [h.mn] at hM
  have hc := h.lw.ce.cw.app hM (by decide) ha
  have s : ∀ {e : TypeId} {sz b n : Nat} {v : Value} {cs : Nat → Value}, e ≠ 29 → e ≠ 34 → Own wx b e sz v n cs → Own (wy.setCell ⟨w.heap.size + 2, 17, none⟩ (.slice p (k + 1) uc)) b e sz v n cs := fun n1 n2 hz => by
    have h1 := ha.own hz (hM.offT hz (fun e => n1 e.symm))
    exact h1.set (own_apart hc h1 n2)
  have s8 : ∀ {b n : Nat} {v : Value} {cs : Nat → Value}, Own wx b 84 1 v n cs → Own (wy.setCell ⟨w.heap.size + 2, 17, none⟩ (.slice p (k + 1) uc)) b 84 1 v n cs := fun hz => s (by decide) (by decide) hz
  refine ⟨⟨⟨hc.M p (k + 1) uc _, h.lw.ce.cfg, s8 h.lw.ce.E, h.lw.ce.sE, s (by decide) (by decide) h.lw.ce.T, h.lw.ce.sT⟩, s (by decide) (by decide) h.lw.Y, h.lw.yn, fun j hj => ⟨⟨s8 (h.lw.yy j hj).1.1, s8 (h.lw.yy j hj).1.2.1, fun q hq => s8 ((h.lw.yy j hj).1.2.2 q hq)⟩, (h.lw.yy j hj).2⟩⟩, s8 h.F, h.sF, s8 h.Q, h.sQ, ho.set (own_apart hc ho (by decide)), rfl, fun j hj => ?_, ⟨h.nq.E, h.nq.F, h.nq.n1, h.nq.n2, h.nq.ms, fun j hj => ?_⟩⟩
  rotate_left
  · by_cases e : j = k
    · subst e
      show Off _ (.slice (updM y.md j m j).O (updM y.md j m j).n (updM y.md j m j).c)
      rw [show updM y.md j m j = m from if_pos rfl]
      exact hq
    · show Off _ (.slice (updM y.md k m j).O (updM y.md k m j).n (updM y.md k m j).c)
      rw [show updM y.md k m j = y.md j from if_neg e]
      exact h.nq.md j (by omega)
  by_cases e : j = k
  · subst e
    show OwM w _ (updM y.md j m j) ∧ SmM (x.md j) (updM y.md j m j)
    rw [show updM y.md j m j = m from if_pos rfl]
    exact ⟨s8 hl, hs⟩
  · show OwM w _ (updM y.md k m j) ∧ SmM (x.md j) (updM y.md k m j)
    rw [show updM y.md k m j = y.md j from if_neg e]
    exact ⟨s8 (h.mm j (by omega)).1, (h.mm j (by omega)).2⟩
theorem Mw.ends {w wx : World} {x y : WtD} (h : Mw w wx x y x.mn) (cs : Array Value) : Cpy w (wx.setRow (w.heap.size + 1) cs) x y := by
  have s : ∀ {e : TypeId} {sz b n : Nat} {v : Value} {c9 : Nat → Value}, e ≠ 34 → Own wx b e sz v n c9 → Own (wx.setRow (w.heap.size + 1) cs) b e sz v n c9 := fun n2 hz => hz.setRow (Own.apart hz h.lw.ce.cw.res n2)
  have s8 : ∀ {b n : Nat} {v : Value} {c9 : Nat → Value}, Own wx b 84 1 v n c9 → Own (wx.setRow (w.heap.size + 1) cs) b 84 1 v n c9 := fun hz => s (by decide) hz
  exact ⟨⟨h.lw.ce.cfg, h.lw.ce.sE, h.sQ, h.sF, h.lw.ce.sT, h.lw.yn, h.mn⟩, s8 h.lw.ce.E, s8 h.Q, s8 h.F, s (by decide) h.lw.ce.T, s (by decide) h.lw.Y, s (by decide) h.M, fun j hj => ⟨⟨s8 (h.lw.yy j hj).1.1, s8 (h.lw.yy j hj).1.2.1, fun q hq => s8 ((h.lw.yy j hj).1.2.2 q hq)⟩, (h.lw.yy j hj).2⟩, fun j hj => ⟨s8 (h.mm j hj).1, (h.mm j hj).2⟩, below_setRow h.lw.ce.cw.low (by omega) cs⟩
def LF3 (B k : Nat) (a : Act) : Prop := ∃ u : Nat → Value, u 1 = .pointer (some ⟨B, 0, none⟩) ∧ u 2 = .pointer (some ⟨B + 1, 0, none⟩) ∧ u 3 = .pointer (some ⟨B + 2, 0, none⟩) ∧ u 4 = .int .i64 (k : Int) ∧ a = { tmps := #[u 0, u 1, u 2, u 3, u 4, u 5, u 6, u 7, u 8, u 9, u 10, u 11, u 12, u 13, u 14, u 15, u 16, u 17, u 18, u 19, u 20, u 21, u 22, u 23, u 24, u 25, u 26, u 27, u 28, u 29, u 30, u 31, u 32, u 33, u 34, u 35, u 36, u 37, u 38, u 39, u 40, u 41, u 42, u 43, u 44, u 45, u 46, u 47, u 48, u 49, u 50, u 51, u 52, u 53, u 54, u 55, u 56, u 57, u 58, u 59, u 60, u 61, u 62, u 63, u 64, u 65], defers := [] }
set_option maxRecDepth 10000 in
theorem LF3.of {B k : Nat} {t : Array Value} (h : t.size = 66) (h1 : t.getD 1 undef = .pointer (some ⟨B, 0, none⟩)) (h2 : t.getD 2 undef = .pointer (some ⟨B + 1, 0, none⟩)) (h3 : t.getD 3 undef = .pointer (some ⟨B + 2, 0, none⟩)) (h4 : t.getD 4 undef = .int .i64 (k : Int)) : LF3 B k { tmps := t, defers := [] } :=
  ⟨fun i => t.getD i undef, h1, h2, h3, h4, congrArg (fun x => Act.mk x []) (arr_lit t 66 h)⟩
def LF4 (B k : Nat) (a : Act) : Prop := ∃ u : Nat → Value, u 1 = .pointer (some ⟨B, 0, none⟩) ∧ u 2 = .pointer (some ⟨B + 1, 0, none⟩) ∧ u 3 = .pointer (some ⟨B + 2, 0, none⟩) ∧ u 6 = .int .i64 (k : Int) ∧ a = { tmps := #[u 0, u 1, u 2, u 3, u 4, u 5, u 6, u 7, u 8, u 9, u 10, u 11, u 12, u 13, u 14, u 15, u 16, u 17, u 18, u 19, u 20, u 21, u 22, u 23, u 24, u 25, u 26, u 27, u 28, u 29, u 30, u 31, u 32, u 33, u 34, u 35, u 36, u 37, u 38, u 39, u 40, u 41, u 42, u 43, u 44, u 45, u 46, u 47, u 48, u 49, u 50, u 51, u 52, u 53, u 54, u 55, u 56, u 57, u 58, u 59, u 60, u 61, u 62, u 63, u 64, u 65], defers := [] }
set_option maxRecDepth 10000 in
theorem LF4.of {B k : Nat} {t : Array Value} (h : t.size = 66) (h1 : t.getD 1 undef = .pointer (some ⟨B, 0, none⟩)) (h2 : t.getD 2 undef = .pointer (some ⟨B + 1, 0, none⟩)) (h3 : t.getD 3 undef = .pointer (some ⟨B + 2, 0, none⟩)) (h6 : t.getD 6 undef = .int .i64 (k : Int)) : LF4 B k { tmps := t, defers := [] } :=
  ⟨fun i => t.getD i undef, h1, h2, h3, h6, congrArg (fun x => Act.mk x []) (arr_lit t 66 h)⟩
noncomputable def loopL : Code := (loopsOf (Try.f18.body.getD .skip)).headD .skip
noncomputable def loopN : Code := ((loopsOf (Try.f18.body.getD .skip)).drop 1).headD .skip
theorem fill30 (l : LyD) : Instr.fill (fun i => some (i * 30, 30)) ((Array.range (1 * 30)).map (zLy.cells[· % zLy.cells.size]!)) [(0, .agg (lyA l))] = some (lyA l) := by kernel_rfl
/-- a slice literal of one layer -/
theorem wpList_buildLy {ops : Array Oper} {rest : List Oper} {o : Oper} {a : Act} {w : World} {Q : Exit → Act → World → Prop} (hg : o.guard = none) (x : Operand) (ho : o.op = .buildSlice 31 1 #[(0, x)]) (l : LyD) (hx : a.eval x = .agg (lyA l))
    (h : wpList Try.prog ops Q rest (a.put o.dst (.slice (some ⟨w.heap.size, 0, none⟩) 1 1)) (w.alloc (.cells (lyA l) 67))) : wpList Try.prog ops Q (o :: rest) a w := by
  obtain ⟨i, hi, hz0, hz1, hz2⟩ := info_parts infoLy
  refine wpList_buildSlice hg 31 67 1 #[(0, x)] ho (lyA l) i _ Try.underlying31 hi hz0 (by rw [hz1]; decide) (by rw [hz1]; decide) ?_ h
  rw [hz1]
  simp only [List.map_toArray, List.map_cons, List.map_nil, hx]
  exact fill30 l
end Go.Proofs.Ytilghknalbhacaa
namespace Go.Proofs.Ytilghknalbhacaa
open Go.RowKit
/-! CopyWeights: a round of its loop over layers. -/
theorem lyc_last (ly : Nat → LyD) (k : Nat) (l : LyD) (j : Nat) (hj : j < 30) : lyc (updY ly k l) (k * 30 + j) = (lyL l).getD j undef := by
  unfold lyc
  rw [show (k * 30 + j) / 30 = k by omega, show (k * 30 + j) % 30 = j by omega, updY_at]
theorem lyc_prev (ly : Nat → LyD) (k : Nat) (l : LyD) (j : Nat) (hj : j < k * 30) : lyc ly j = lyc (updY ly k l) j := by
  unfold lyc
  rw [show updY ly k l (j / 30) = ly (j / 30) from if_neg (by omega)]
set_option maxRecDepth 100000 in
set_option maxHeartbeats 40000000 in
theorem roundL {w wr : World} {x y : WtD} {k : Nat} (HW : Hid (WtR w x)) (HB : Hid (WtB x)) (hb : x.yn ≤ 1048576) (hlt : k < x.yn) (HL : Hid (Lw w wr x y k))
    (a : Act) (ha : LF3 w.heap.size k a) (R : Act → World → Prop) (HR : Hid (∀ a' w' y', LF3 w.heap.size (k + 1) a' → Lw w w' x y' (k + 1) → R a' w')) :
    loopL.wp Try.prog (Exit.then R (fun _ _ _ => False)) a wr := by
  conv => arg 2; whnf
  obtain ⟨u, e1, e2, e3, e4, rfl⟩ := ha
  rw [e1, e2, e3, e4]
  clear e1 e2 e3 e4
  have i0 : (0 : Int) ≤ (k : Int) := by omega
  have i1 : (k : Int) < (x.yn : Int) := by omega
  have HCL : Hid (∀ z, Lw w z x y k → z.cell? ⟨w.heap.size + 2, 12, none⟩ = some (.slice y.yO k y.yc) ∧ ∀ j, z.frozen? ⟨w.heap.size + 2, j, none⟩ = false) := fun z h => by
    have h1 : z.cell? ⟨w.heap.size + 2, 12, none⟩ = some (.slice y.yO y.yn y.yc) := h.ce.cw.loc.cell (i := 12) (by decide)
    rw [h.yn] at h1
    exact ⟨h1, h.ce.cw.loc.frozen⟩
  have b1 : wr.cell? ⟨w.heap.size, 12, none⟩ = some (.slice x.yO x.yn x.yc) := HL.out.ce.cw.box.cell (i := 12) (by decide)
  obtain ⟨yb, yf, ey, hyc⟩ := HW.out.yat (by omega)
  have RG' : wr.rangeAt yb (yf + k * 30) (lyL (x.ly k)) := fun j v h => fresh_cell HL.out.ce.cw.low ((hyc k hlt).range j v h)
  have htop := HW.out.ytop
  have hle := HW.out.yle
  unfold maxLen at htop
  rw [ey] at b1
  obtain ⟨T, hT⟩ : ∃ T, T = lyA (x.ly k) := ⟨_, rfl⟩
  have RG : Hid (wr.rangeAt yb (yf + k * 30) T.toList) := by rw [hT]; exact RG'
  have SL : Hid ((Try.prog.info? 67).map (·.size) = some T.toList.length) := by rw [hT]; exact sizeL
  have HC : Hid (Calls Try.prog 47 #[.agg T] wr fun e w' => ∃ l', e = .returned (.agg (lyA l')) ∧ LyO w w' l' ∧ SmL (x.ly k) l' ∧ Below wr.heap.size wr w') := by
    have hm := HB.out.ym k hlt
    rw [hT]
    exact (copyL_any ((HW.out.yr k hlt).fresh HL.out.ce.cw.low) hm (HB.out.y1 k hlt) (HB.out.y2 k hlt)).mono fun e w' ⟨l', h1, h2, h3, h4⟩ => ⟨l', h1, ⟨Own.weaken h2.1 (by have := HL.out.ce.cw.big; omega), Own.weaken h2.2.1 (by have := HL.out.ce.cw.big; omega), fun q hq => Own.weaken (h2.2.2 q hq) (by have := HL.out.ce.cw.big; omega)⟩, h3, h4⟩
  clear RG' hT hyc
  go_wp2_with (refine wpList_load_mid rfl 67 _ rfl yb (yf + k * 30) rfl T.toList _ RG.out Try.underlying67 rfl SL.out ?_)
  refine HC.out.mono ?_
  rintro e w1 ⟨l, rfl, hO, hS, f1⟩
  have HL1 := hidd (HL.out.fresh f1)
  have HO := hidd hO
  have HS := hidd hS
  clear hO hS HC HL f1 b1 RG SL
  obtain ⟨T9, hT9⟩ : ∃ T9, T9 = lyA l := ⟨_, rfl⟩
  rw [← hT9]
  have S30 : Hid ((Try.prog.info? 67).map (·.size) = some T9.size) := by rw [hT9]; exact sizeL
  have SL : Hid ((Try.prog.info? 67).map (·.size) = some T9.toList.length) := by rw [hT9]; exact sizeL
  have H1 : Hid (T9.all (·.oneCell') = true) := by rw [hT9]; exact lyA_one l
  have HOZ : Hid ((#[.slice none 0 0, .slice none 0 0, .int .i64 0, .int .i64 0, .slice none 0 0, .int .i64 0, .int .i64 0, .slice none 0 0, .int .i64 0, .int .i64 0, .slice none 0 0, .int .i64 0, .int .i64 0, .slice none 0 0, .int .i64 0, .int .i64 0, .slice none 0 0, .int .i64 0, .int .i64 0, .slice none 0 0, .int .i64 0, .int .i64 0, .slice none 0 0, .int .i64 0, .int .i64 0, .int .i64 0, .int .i64 0, .int .i64 0, .int .i64 0, .int .i64 0] : Array Value).size = T9.size) := by rw [hT9]; rfl
  have HZH : Hid ((w1.alloc (.cells #[.slice none 0 0, .slice none 0 0, .int .i64 0, .int .i64 0, .slice none 0 0, .int .i64 0, .int .i64 0, .slice none 0 0, .int .i64 0, .int .i64 0, .slice none 0 0, .int .i64 0, .int .i64 0, .slice none 0 0, .int .i64 0, .int .i64 0, .slice none 0 0, .int .i64 0, .int .i64 0, .slice none 0 0, .int .i64 0, .int .i64 0, .slice none 0 0, .int .i64 0, .int .i64 0, .int .i64 0, .int .i64 0, .int .i64 0, .int .i64 0, .int .i64 0] 67)).heap[w1.heap.size]? = some (.cells #[.slice none 0 0, .slice none 0 0, .int .i64 0, .int .i64 0, .slice none 0 0, .int .i64 0, .int .i64 0, .slice none 0 0, .int .i64 0, .int .i64 0, .slice none 0 0, .int .i64 0, .int .i64 0, .slice none 0 0, .int .i64 0, .int .i64 0, .slice none 0 0, .int .i64 0, .int .i64 0, .slice none 0 0, .int .i64 0, .int .i64 0, .slice none 0 0, .int .i64 0, .int .i64 0, .int .i64 0, .int .i64 0, .int .i64 0, .int .i64 0, .int .i64 0] 67 (0, 0))) := heap_new _ _
  have HEQ : Hid ((w1.alloc (.cells #[.slice none 0 0, .slice none 0 0, .int .i64 0, .int .i64 0, .slice none 0 0, .int .i64 0, .int .i64 0, .slice none 0 0, .int .i64 0, .int .i64 0, .slice none 0 0, .int .i64 0, .int .i64 0, .slice none 0 0, .int .i64 0, .int .i64 0, .slice none 0 0, .int .i64 0, .int .i64 0, .slice none 0 0, .int .i64 0, .int .i64 0, .slice none 0 0, .int .i64 0, .int .i64 0, .int .i64 0, .int .i64 0, .int .i64 0, .int .i64 0, .int .i64 0] 67)).setRow w1.heap.size T9 = w1.alloc (.cells T9 67)) := World.setRow_alloc_new _ _ _ _
  have RG : Hid ((w1.alloc (.cells T9 67)).rangeAt w1.heap.size 0 T9.toList) := by rw [hT9]; exact row_range (World.rowIs_list w1 (lyL l) 67) rfl
  have HT9 := hidd hT9
  clear hT9
  go_upto_region 9 with (refine wpList_store_row rfl 67 _ _ rfl w1.heap.size T9 rfl rfl 67 _ HZH.out S30.out HOZ.out H1.out ?_)
  rw [HEQ.out]
  have f2 := fresh_alloc w1 (.cells T9 67)
  have HL2 := hidd (HL1.out.fresh f2)
  have HO2 := hidd (HO.out.fresh f2)
  clear HL1 HO HEQ HZH HOZ H1 S30 f2
  generalize hw2 : w1.alloc (.cells T9 67) = w2 at *
  clear hw2
  obtain ⟨c12, fz⟩ := HCL.out w2 HL2.out
  have f3 := fresh_alloc w2 (.cells (lyA l) 67)
  have HL3 := hidd (HL2.out.fresh f3)
  have HO3 := hidd (HO2.out.fresh f3)
  have HOY : Hid (Own (w2.alloc (.cells (lyA l) 67)) (w.heap.size + 2) 67 30 (.slice y.yO k y.yc) k (lyc (updY y.ly k l))) := by
    have h1 := HL3.out.Y
    rw [HL3.out.yn] at h1
    exact h1.congr (fun j hj => lyc_prev y.ly k l j hj)
  have HNC : Hid (∀ j, j < 1 * 30 → (w2.alloc (.cells (lyA l) 67)).cell? ⟨w2.heap.size, j, none⟩ = some (lyc (updY y.ly k l) (k * 30 + j))) := fun j hj => by
    rw [lyc_last _ _ _ _ (by omega)]
    exact (World.rowIs_list w2 (lyL l) 67).cell (i := j) (by show j < 30; omega)
  have HN1 : Hid (∀ j, j < 1 * 30 → (lyc (updY y.ly k l) (k * 30 + j)).oneCell' = true) := fun j _ => lyc_one _ (k * 30 + j + 1) _ (by omega)
  have hbig : w.heap.size + 2 ≤ (w2.alloc (.cells (lyA l) 67)).heap.size := by have := HL3.out.ce.cw.big; omega
  have HBG := hidd hbig
  clear hbig f3
  go_wp2_with (first
    | refine wpList_load_mid rfl 67 _ rfl w1.heap.size 0 rfl T9.toList _ RG.out Try.underlying67 rfl SL.out ?_
    | refine wpList_buildLy rfl _ rfl l (by rw [← HT9.out]; rfl) ?_
    | (at_builtin; refine wpList_app (w2.alloc (.cells (lyA l) 67)) rfl _ _ 31 rfl (w.heap.size + 2) 67 zLy 30 384 Try.underlying31 infoLy rfl (by decide) _ k (lyc (updY y.ly k l)) rfl HOY.out w2.heap.size 1 1 rfl HNC.out HN1.out (by decide) (by unfold maxLen; omega) (by omega) HBG.out ?_))
  rintro v' w4 hown happ
  obtain ⟨p, uc, rfl, hrd⟩ := hown.rd
  have hc4 := HL3.out.ce.cw.app (by have h1 := HL3.out.Y; rw [HL3.out.yn] at h1; exact h1) (by decide) happ
  have fz4 : ∀ j, w4.frozen? ⟨w.heap.size + 2, j, none⟩ = false := hc4.loc.frozen
  have l4 : ∃ v, w4.cell? ⟨w.heap.size + 2, 12, none⟩ = some v := ⟨_, hc4.loc.cell (i := 12) (by decide)⟩
  obtain ⟨v4, l4⟩ := l4
  have HAP := hidd happ
  have HOW := hidd hown
  clear happ hown hrd hc4
  go_wp2
  exact HR.out _ _ _ (LF3.of rfl rfl rfl rfl (by first | rfl | simp)) (HL3.out.step HAP.out HOW.out HO3.out HS.out)
end Go.Proofs.Ytilghknalbhacaa
namespace Go.Proofs.Ytilghknalbhacaa
open Go.RowKit
/-! CopyWeights: a round of its loop over Medusa's. -/
theorem mtc_last (md : Nat → MtD) (k : Nat) (m : MtD) (j : Nat) (hj : j < 3) : mtc (updM md k m) (k * 3 + j) = (mtL m).getD j undef := by
  unfold mtc
  rw [show (k * 3 + j) / 3 = k by omega, show (k * 3 + j) % 3 = j by omega, show updM md k m k = m from if_pos rfl]
theorem mtc_prev (md : Nat → MtD) (k : Nat) (m : MtD) (j : Nat) (hj : j < k * 3) : mtc md j = mtc (updM md k m) j := by
  unfold mtc
  rw [show updM md k m (j / 3) = md (j / 3) from if_neg (by omega)]
set_option maxRecDepth 100000 in
set_option maxHeartbeats 40000000 in
theorem roundN {w wr : World} {x y : WtD} {k : Nat} (HW : Hid (WtR w x)) (HB : Hid (WtB x)) (hb : x.mn ≤ 1048576) (hlt : k < x.mn) (HL : Hid (Mw w wr x y k))
    (a : Act) (ha : LF4 w.heap.size k a) (R : Act → World → Prop) (HR : Hid (∀ a' w' y', LF4 w.heap.size (k + 1) a' → Mw w w' x y' (k + 1) → R a' w')) :
    loopN.wp Try.prog (Exit.then R (fun _ _ _ => False)) a wr := by
  conv => arg 2; whnf
  obtain ⟨u, e1, e2, e3, e6, rfl⟩ := ha
  rw [e1, e2, e3, e6]
  clear e1 e2 e3 e6
  have i0 : (0 : Int) ≤ (k : Int) := by omega
  have i1 : (k : Int) < (x.mn : Int) := by omega
  have HCL : Hid (∀ z, Mw w z x y k → z.cell? ⟨w.heap.size + 2, 17, none⟩ = some (.slice y.mO k y.mc) ∧ ∀ j, z.frozen? ⟨w.heap.size + 2, j, none⟩ = false) := fun z h => by
    have h1 : z.cell? ⟨w.heap.size + 2, 17, none⟩ = some (.slice y.mO y.mn y.mc) := h.lw.ce.cw.loc.cell (i := 17) (by decide)
    rw [h.mn] at h1
    exact ⟨h1, h.lw.ce.cw.loc.frozen⟩
  have b1 : wr.cell? ⟨w.heap.size, 17, none⟩ = some (.slice x.mO x.mn x.mc) := HL.out.lw.ce.cw.box.cell (i := 17) (by decide)
  obtain ⟨yb, yf, ey, hyc⟩ := HW.out.mat (by omega)
  obtain ⟨d0, d1, d2⟩ := hyc k hlt
  replace d0 := fresh_cell HL.out.lw.ce.cw.low d0
  replace d1 := fresh_cell HL.out.lw.ce.cw.low d1
  replace d2 := fresh_cell HL.out.lw.ce.cw.low d2
  have htop := HW.out.mtop
  have hle := HW.out.mle
  unfold maxLen at htop
  rw [ey] at b1
  have HC : Hid (Calls Try.prog 45 #[.agg #[.int .i64 (x.md k).R, .int .i64 (x.md k).C, .slice (x.md k).O (x.md k).n (x.md k).c]] wr fun e w' => ∃ p c, e = .returned (.agg #[.int .i64 (x.md k).R, .int .i64 (x.md k).C, .slice p (x.md k).n c]) ∧ (OwM w w' { x.md k with O := p, c := c } ∧ Off (.slice y.Q.O y.Q.n y.Q.c) (.slice p (x.md k).n c)) ∧ Below wr.heap.size wr w') := (copyM_any ((HW.out.mr k hlt).fresh HL.out.lw.ce.cw.low) (HB.out.m k hlt)).mono fun e w' ⟨p, c, h1, h2, h3⟩ => ⟨p, c, h1, ⟨h2.weaken (by have := HL.out.lw.ce.cw.big; omega), (off_late h2 HL.out.Q (Nat.le_refl _)).symm⟩, h3⟩
  clear hyc
  go_wp2_with fail
  refine HC.out.mono ?_
  rintro e w1 ⟨mp, mc, rfl, ⟨hO, hOff⟩, f1⟩
  have HL1 := hidd (HL.out.fresh f1)
  have HO := hidd hO
  have HOF := hidd hOff
  clear hOff
  clear hO HC HL f1 b1 d0 d1 d2
  obtain ⟨m, hm⟩ : ∃ m : MtD, m = { x.md k with O := mp, c := mc } := ⟨_, rfl⟩
  have hmR : (x.md k).R = m.R := by rw [hm]
  have hmC : (x.md k).C = m.C := by rw [hm]
  have hmS : Value.slice mp (x.md k).n mc = .slice m.O m.n m.c := by rw [hm]
  have HS : Hid (SmM (x.md k) m) := by rw [hm]; exact ⟨rfl, rfl, rfl, rfl⟩
  rw [← hm] at HO
  rw [hmS] at HOF
  rw [hmR, hmC, hmS]
  clear hm hmR hmC hmS
  go_upto_region 17 with fail
  have f2 := fresh_alloc w1 (.cells #[.int .i64 m.R, .int .i64 m.C, .slice m.O m.n m.c] 29)
  have HL2 := hidd (HL1.out.fresh f2)
  have HO2 : Hid (OwM w (w1.alloc (.cells #[.int .i64 m.R, .int .i64 m.C, .slice m.O m.n m.c] 29)) m) := Own.kept HO.out f2
  have g0 : (w1.alloc (.cells #[.int .i64 m.R, .int .i64 m.C, .slice m.O m.n m.c] 29)).cell? ⟨w1.heap.size, 0, none⟩ = some (.int .i64 m.R) := (World.rowIs_list w1 (mtL m) 29).cell (i := 0) (by show 0 < 3; decide)
  have g1 : (w1.alloc (.cells #[.int .i64 m.R, .int .i64 m.C, .slice m.O m.n m.c] 29)).cell? ⟨w1.heap.size, 1, none⟩ = some (.int .i64 m.C) := (World.rowIs_list w1 (mtL m) 29).cell (i := 1) (by show 1 < 3; decide)
  have g2 : (w1.alloc (.cells #[.int .i64 m.R, .int .i64 m.C, .slice m.O m.n m.c] 29)).cell? ⟨w1.heap.size, 2, none⟩ = some (.slice m.O m.n m.c) := (World.rowIs_list w1 (mtL m) 29).cell (i := 2) (by show 2 < 3; decide)
  clear HL1 HO f2
  generalize hw2 : w1.alloc (.cells #[.int .i64 m.R, .int .i64 m.C, .slice m.O m.n m.c] 29) = w2 at *
  clear hw2
  obtain ⟨c17, fz⟩ := HCL.out w2 HL2.out
  have f3 := fresh_alloc w2 (.cells #[.int .i64 m.R, .int .i64 m.C, .slice m.O m.n m.c] 29)
  have HL3 := hidd (HL2.out.fresh f3)
  have HO3 : Hid (OwM w (w2.alloc (.cells #[.int .i64 m.R, .int .i64 m.C, .slice m.O m.n m.c] 29)) m) := Own.kept HO2.out f3
  have HOY : Hid (Own (w2.alloc (.cells #[.int .i64 m.R, .int .i64 m.C, .slice m.O m.n m.c] 29)) (w.heap.size + 2) 29 3 (.slice y.mO k y.mc) k (mtc (updM y.md k m))) := by
    have h1 := HL3.out.M
    rw [HL3.out.mn] at h1
    exact h1.congr (fun j hj => mtc_prev y.md k m j hj)
  have HNC : Hid (∀ j, j < 1 * 3 → (w2.alloc (.cells #[.int .i64 m.R, .int .i64 m.C, .slice m.O m.n m.c] 29)).cell? ⟨w2.heap.size, j, none⟩ = some (mtc (updM y.md k m) (k * 3 + j))) := fun j hj => by
    rw [mtc_last _ _ _ _ (by omega)]
    exact (World.rowIs_list w2 (mtL m) 29).cell (i := j) (by show j < 3; omega)
  have HN1 : Hid (∀ j, j < 1 * 3 → (mtc (updM y.md k m) (k * 3 + j)).oneCell' = true) := fun j _ => mtc_one _ (k * 3 + j + 1) _ (by omega)
  have hbig : w.heap.size + 2 ≤ (w2.alloc (.cells #[.int .i64 m.R, .int .i64 m.C, .slice m.O m.n m.c] 29)).heap.size := by have := HL3.out.lw.ce.cw.big; omega
  have HBG := hidd hbig
  clear hbig f3
  go_wp2_with (at_builtin; refine wpList_app (w2.alloc (.cells #[.int .i64 m.R, .int .i64 m.C, .slice m.O m.n m.c] 29)) rfl _ _ 32 rfl (w.heap.size + 2) 29 zMt 3 40 Try.underlying32 infoMa rfl (by decide) _ k (mtc (updM y.md k m)) rfl HOY.out w2.heap.size 1 1 rfl HNC.out HN1.out (by decide) (by unfold maxLen; omega) (by omega) HBG.out ?_)
  rintro v' w4 hown happ
  obtain ⟨p, uc, rfl, hrd⟩ := hown.rd
  have hc4 := HL3.out.lw.ce.cw.app (by have h1 := HL3.out.M; rw [HL3.out.mn] at h1; exact h1) (by decide) happ
  have fz4 : ∀ j, w4.frozen? ⟨w.heap.size + 2, j, none⟩ = false := hc4.loc.frozen
  have l4 : ∃ v, w4.cell? ⟨w.heap.size + 2, 17, none⟩ = some v := ⟨_, hc4.loc.cell (i := 17) (by decide)⟩
  obtain ⟨v4, l4⟩ := l4
  have HAP := hidd happ
  have HOW := hidd hown
  clear happ hown hrd hc4
  go_wp2
  exact HR.out _ _ _ (LF4.of rfl rfl rfl rfl (by first | rfl | simp)) (HL3.out.step HAP.out HOW.out HO3.out HS.out HOF.out)
end Go.Proofs.Ytilghknalbhacaa
namespace Go.Proofs.Ytilghknalbhacaa
open Go.RowKit
/-! CopyWeights. -/
set_option maxRecDepth 100000 in
set_option maxHeartbeats 40000000 in
theorem copyW_off {w : World} {x : WtD} (h : WtR w x) (hB : WtB x) :
    Calls Try.prog 18 #[.agg #[.int .i64 x.V, .int .i64 x.W, .int .i64 x.H, .int .i64 x.K, .int .i64 x.L, .int .i64 x.D, .int .i64 x.N, .int .i64 x.M, .int .i64 x.E.R, .int .i64 x.E.C, .slice x.E.O x.E.n x.E.c, .slice x.tO x.tn x.tc, .slice x.yO x.yn x.yc, .slice x.F.O x.F.n x.F.c, .int .i64 x.Q.R, .int .i64 x.Q.C, .slice x.Q.O x.Q.n x.Q.c, .slice x.mO x.mn x.mc]] w fun e w' => ∃ y, e = .returned (.agg (wtA y)) ∧ Cpy w w' x y ∧ NoQ x y x.mn := by
  have HK0' := Cw.start w x
  have RG' := Cw.range w x
  have hsz := Cw.size w x
  have HW := hidd h
  have HB := hidd hB
  have HCE : Hid (∀ (z : World) (y : WtD), Cw w z x y → Calls Try.prog 45 #[.agg #[.int .i64 x.E.R, .int .i64 x.E.C, .slice x.E.O x.E.n x.E.c]] z fun e w' => ∃ u c, e = .returned (.agg #[.int .i64 x.E.R, .int .i64 x.E.C, .slice u x.E.n c]) ∧ OwM w w' { x.E with O := u, c := c } ∧ Below z.heap.size z w') := fun z y hz => (copyM_any (h.E.fresh hz.low) hB.E).mono fun e w' ⟨u, c, h1, h2, h3⟩ => ⟨u, c, h1, h2.weaken (by have := hz.big; omega), h3⟩
  have HCQ : Hid (∀ (z : World) (y : WtD), Cw w z x y → Calls Try.prog 45 #[.agg #[.int .i64 x.Q.R, .int .i64 x.Q.C, .slice x.Q.O x.Q.n x.Q.c]] z fun e w' => ∃ u c, e = .returned (.agg #[.int .i64 x.Q.R, .int .i64 x.Q.C, .slice u x.Q.n c]) ∧ Own w' z.heap.size 84 1 (.slice u x.Q.n c) x.Q.n (fun i => .int .i8 (x.Q.f i)) ∧ Below z.heap.size z w') := fun z y hz => copyM_any (h.Q.fresh hz.low) hB.Q
  have HCT : Hid (∀ (z : World) (y : WtD), Cw w z x y → Calls Try.prog 46 #[.slice x.tO x.tn x.tc] z fun e w' => ∃ u c, e = .returned (.slice u x.tn c) ∧ Own w' (w.heap.size + 2) 97 2 (.slice u x.tn c) x.tn (tcs x.tC x.tS) ∧ Below z.heap.size z w') := fun z y hz => (copyT_any (h.T.fresh hz.low) hB.T).mono fun e w' ⟨u, c, h1, h2, h3⟩ => ⟨u, c, h1, h2.weaken (by have := hz.big; omega), h3⟩
  have HCF : Hid (∀ (z : World) (y : WtD), Cw w z x y → Calls Try.prog 48 #[.slice x.F.O x.F.n x.F.c] z fun e w' => ∃ u c, e = .returned (.slice u x.F.n c) ∧ OwS w w' { x.F with O := u, c := c } ∧ Below z.heap.size z w') := fun z y hz => (copyN_any (h.F.rd.fresh hz.low) hB.F).mono fun e w' ⟨u, c, h1, h2, h3⟩ => ⟨u, c, h1, h2.weaken (by have := hz.big; omega), h3⟩
  clear h hB
  go_enter Try.func18, Try.ntmps18
  go_upto_region 1 with fail
  generalize hwb : (w.alloc (.cells #[.int .i64 x.V, .int .i64 x.W, .int .i64 x.H, .int .i64 x.K, .int .i64 x.L, .int .i64 x.D, .int .i64 x.N, .int .i64 x.M, .int .i64 x.E.R, .int .i64 x.E.C, .slice x.E.O x.E.n x.E.c, .slice x.tO x.tn x.tc, .slice x.yO x.yn x.yc, .slice x.F.O x.F.n x.F.c, .int .i64 x.Q.R, .int .i64 x.Q.C, .slice x.Q.O x.Q.n x.Q.c, .slice x.mO x.mn x.mc] 34)).alloc (.cells #[.int .i64 0, .int .i64 0, .int .i64 0, .int .i64 0, .int .i64 0, .int .i64 0, .int .i64 0, .int .i64 0, .int .i64 0, .int .i64 0, .slice none 0 0, .slice none 0 0, .slice none 0 0, .slice none 0 0, .int .i64 0, .int .i64 0, .slice none 0 0, .slice none 0 0] 34) = wb at *
  clear hwb
  obtain ⟨T, hT⟩ : ∃ T, T = wtA x := ⟨_, rfl⟩
  rw [← hT] at HK0'
  have RG : Hid (wb.rangeAt w.heap.size 0 T.toList) := by rw [hT]; exact RG'
  have SL : Hid ((Try.prog.info? 34).map (·.size) = some T.toList.length) := by rw [hT]; exact sizeW
  have S18 : Hid ((Try.prog.info? 34).map (·.size) = some T.size) := by rw [hT]; exact sizeW
  have H1 : Hid (T.all (·.oneCell') = true) := by rw [hT]; exact wtA_one x
  have HOZ : Hid ((#[.int .i64 0, .int .i64 0, .int .i64 0, .int .i64 0, .int .i64 0, .int .i64 0, .int .i64 0, .int .i64 0, .int .i64 0, .int .i64 0, .slice none 0 0, .slice none 0 0, .slice none 0 0, .slice none 0 0, .int .i64 0, .int .i64 0, .slice none 0 0, .slice none 0 0] : Array Value).size = T.size) := by rw [hT]; rfl
  have HZH : Hid ((wb.alloc (.cells #[.int .i64 0, .int .i64 0, .int .i64 0, .int .i64 0, .int .i64 0, .int .i64 0, .int .i64 0, .int .i64 0, .int .i64 0, .int .i64 0, .slice none 0 0, .slice none 0 0, .slice none 0 0, .slice none 0 0, .int .i64 0, .int .i64 0, .slice none 0 0, .slice none 0 0] 34)).heap[w.heap.size + 2]? = some (.cells #[.int .i64 0, .int .i64 0, .int .i64 0, .int .i64 0, .int .i64 0, .int .i64 0, .int .i64 0, .int .i64 0, .int .i64 0, .int .i64 0, .slice none 0 0, .slice none 0 0, .slice none 0 0, .slice none 0 0, .int .i64 0, .int .i64 0, .slice none 0 0, .slice none 0 0] 34 (0, 0))) := by show _ = _; rw [← hsz]; exact heap_new _ _
  have HEQ : Hid ((wb.alloc (.cells #[.int .i64 0, .int .i64 0, .int .i64 0, .int .i64 0, .int .i64 0, .int .i64 0, .int .i64 0, .int .i64 0, .int .i64 0, .int .i64 0, .slice none 0 0, .slice none 0 0, .slice none 0 0, .slice none 0 0, .int .i64 0, .int .i64 0, .slice none 0 0, .slice none 0 0] 34)).setRow (w.heap.size + 2) T = wb.alloc (.cells T 34)) := by show _ = _; rw [← hsz]; exact World.setRow_alloc_new _ _ _ _
  have HK0 := hidd HK0'
  clear HK0' RG' hT
  go_upto_region 2 with (first | refine wpList_load_mid rfl 34 _ rfl w.heap.size 0 rfl T.toList _ RG.out Try.underlying34 rfl SL.out ?_ | refine wpList_store_row rfl 34 _ _ rfl (w.heap.size + 2) T rfl rfl 34 _ HZH.out S18.out HOZ.out H1.out ?_)
  rw [HEQ.out]
  clear HEQ HZH HOZ H1 S18 SL RG
  generalize wb.alloc (.cells T 34) = wa at *
  clear hsz
  have t8 : wa.cell? ⟨w.heap.size, 8, none⟩ = some (.int .i64 x.E.R) := HK0.out.box.cell (i := 8) (by decide)
  have t9 : wa.cell? ⟨w.heap.size, 9, none⟩ = some (.int .i64 x.E.C) := HK0.out.box.cell (i := 9) (by decide)
  have t10 : wa.cell? ⟨w.heap.size, 10, none⟩ = some (.slice x.E.O x.E.n x.E.c) := HK0.out.box.cell (i := 10) (by decide)
  go_wp2_with fail
  clear t8 t9 t10
  refine (HCE.out _ _ HK0.out).mono ?_
  rintro e w1 ⟨u1, c1, rfl, o1, f1⟩
  have O1 := hidd o1
  have G1 := hidd (HK0.out.fresh f1)
  clear o1 f1 HK0 HCE
  have s8 : w1.cell? ⟨w.heap.size + 2, 8, none⟩ = some (.int .i64 x.E.R) := G1.out.loc.cell (i := 8) (by decide)
  have s9 : w1.cell? ⟨w.heap.size + 2, 9, none⟩ = some (.int .i64 x.E.C) := G1.out.loc.cell (i := 9) (by decide)
  have s10 : w1.cell? ⟨w.heap.size + 2, 10, none⟩ = some (.slice x.E.O x.E.n x.E.c) := G1.out.loc.cell (i := 10) (by decide)
  have fz : ∀ j, w1.frozen? ⟨w.heap.size + 2, j, none⟩ = false := G1.out.loc.frozen
  have t11 : w1.cell? ⟨w.heap.size, 11, none⟩ = some (.slice x.tO x.tn x.tc) := G1.out.box.cell (i := 11) (by decide)
  go_wp2_with fail
  clear s8 s9 s10 fz t11
  have G2 := hidd (G1.out.E { x.E with O := u1, c := c1 })
  have O2 : Hid (OwM w (((w1.setCell ⟨w.heap.size + 2, 8, none⟩ (.int .i64 x.E.R)).setCell ⟨w.heap.size + 2, 9, none⟩ (.int .i64 x.E.C)).setCell ⟨w.heap.size + 2, 10, none⟩ (.slice u1 x.E.n c1)) { x.E with O := u1, c := c1 }) := Own.set3 O1.out (own_apart G1.out O1.out (by decide))
  clear O1 G1
  generalize ((w1.setCell ⟨w.heap.size + 2, 8, none⟩ (.int .i64 x.E.R)).setCell ⟨w.heap.size + 2, 9, none⟩ (.int .i64 x.E.C)).setCell ⟨w.heap.size + 2, 10, none⟩ (.slice u1 x.E.n c1) = w2 at *
  refine (HCT.out _ _ G2.out).mono ?_
  rintro e w3 ⟨u3, c3, rfl, o3, f3⟩
  have O3 := hidd o3
  have G3 := hidd (G2.out.fresh f3)
  replace O2 : Hid (OwM w w3 { x.E with O := u1, c := c1 }) := Own.kept O2.out f3
  clear o3 f3 G2 HCT
  have s11 : ∃ v, w3.cell? ⟨w.heap.size + 2, 11, none⟩ = some v := ⟨_, G3.out.loc.cell (i := 11) (by decide)⟩
  have s12 : ∃ v, w3.cell? ⟨w.heap.size + 2, 12, none⟩ = some v := ⟨_, G3.out.loc.cell (i := 12) (by decide)⟩
  have fz : ∀ j, w3.frozen? ⟨w.heap.size + 2, j, none⟩ = false := G3.out.loc.frozen
  obtain ⟨v11, s11⟩ := s11
  obtain ⟨v12, s12⟩ := s12
  have hb := HB.out.Y
  have hm := HB.out.M
  have G4 := hidd ((G3.out.T u3 x.tn c3 x.tC x.tS).Y none 0 0 x.ly)
  have HL0 : Hid (Lw w ((w3.setCell ⟨w.heap.size + 2, 11, none⟩ (.slice u3 x.tn c3)).setCell ⟨w.heap.size + 2, 12, none⟩ (.slice none 0 0)) x { x with E := { x.E with O := u1, c := c1 }, tO := u3, tn := x.tn, tc := c3, tC := x.tC, tS := x.tS, yO := none, yn := 0, yc := 0, ly := x.ly } 0) :=
    ⟨⟨G4.out, ⟨rfl, rfl, rfl, rfl, rfl, rfl, rfl, rfl⟩, Own.set2 O2.out (own_apart G3.out O2.out (by decide)), ⟨rfl, rfl, rfl, rfl⟩, Own.set2 O3.out (own_apart G3.out O3.out (by decide)), rfl, rfl, rfl⟩, own_nil _ _ _ _ _, rfl, fun j hj => absurd hj (by omega)⟩
  clear G3 G4 O2 O3
  go_wp2
  refine loop_invP (c := loopL) (fun q a wz => ∃ (k : Nat) (y : WtD), q + k = x.yn ∧ LF3 w.heap.size k a ∧ Hid (Lw w wz x y k)) x.yn ⟨0, _, by omega, LF3.of rfl rfl rfl rfl (by first | rfl | simp), HL0.out⟩ ?_
  clear HL0 fz s11 s12
  rintro q a wr ⟨k, y, hq, ha, HL⟩
  by_cases hlt : k < x.yn
  · refine then_only (fun _ _ h => h) (roundL HW HB hb hlt HL a ha _ (hidd fun a' w' y' h1 h2 => ?_))
    exact ⟨q - 1, by omega, k + 1, y', by omega, h1, h2⟩
  · obtain rfl : k = x.yn := by omega
    obtain ⟨u, e1, e2, e3, e4, rfl⟩ := ha
    rw [e1, e2, e3, e4]
    clear e1 e2 e3 e4 hq
    conv => arg 2; whnf
    have hnl : ¬ ((x.yn : Int) < (x.yn : Int)) := by omega
    have b12 : wr.cell? ⟨w.heap.size, 12, none⟩ = some (.slice x.yO x.yn x.yc) := HL.out.ce.cw.box.cell (i := 12) (by decide)
    have b13 : wr.cell? ⟨w.heap.size, 13, none⟩ = some (.slice x.F.O x.F.n x.F.c) := HL.out.ce.cw.box.cell (i := 13) (by decide)
    go_wp2_with fail
    clear b12 b13
    refine (HCF.out _ _ HL.out.ce.cw).mono ?_
    rintro e w5 ⟨u5, c5, rfl, o5, f5⟩
    have O5 := hidd o5
    have G5 := hidd (HL.out.fresh f5)
    clear o5 f5 HL HCF
    have s13 : ∃ v, w5.cell? ⟨w.heap.size + 2, 13, none⟩ = some v := ⟨_, G5.out.ce.cw.loc.cell (i := 13) (by decide)⟩
    obtain ⟨v13, s13⟩ := s13
    have fz : ∀ j, w5.frozen? ⟨w.heap.size + 2, j, none⟩ = false := G5.out.ce.cw.loc.frozen
    have t14 : w5.cell? ⟨w.heap.size, 14, none⟩ = some (.int .i64 x.Q.R) := G5.out.ce.cw.box.cell (i := 14) (by decide)
    have t15 : w5.cell? ⟨w.heap.size, 15, none⟩ = some (.int .i64 x.Q.C) := G5.out.ce.cw.box.cell (i := 15) (by decide)
    have t16 : w5.cell? ⟨w.heap.size, 16, none⟩ = some (.slice x.Q.O x.Q.n x.Q.c) := G5.out.ce.cw.box.cell (i := 16) (by decide)
    go_wp2_with fail
    clear s13 fz t14 t15 t16
    have S5 : Hid (∀ {e : TypeId} {sz b n : Nat} {v : Value} {cs : Nat → Value}, e ≠ 34 → Own w5 b e sz v n cs → Own (w5.setCell ⟨w.heap.size + 2, 13, none⟩ (.slice u5 x.F.n c5)) b e sz v n cs) := fun n2 hz => hz.set (own_apart G5.out.ce.cw hz n2)
    have G6 := hidd (G5.out.ce.cw.F { x.F with O := u5, c := c5 })
    have O6 : Hid (OwS w (w5.setCell ⟨w.heap.size + 2, 13, none⟩ (.slice u5 x.F.n c5)) { x.F with O := u5, c := c5 }) := S5.out (by decide) O5.out
    have L6 : Hid (Lw w (w5.setCell ⟨w.heap.size + 2, 13, none⟩ (.slice u5 x.F.n c5)) x { y with F := { x.F with O := u5, c := c5 } } x.yn) :=
      ⟨⟨G6.out, G5.out.ce.cfg, S5.out (by decide) G5.out.ce.E, G5.out.ce.sE, S5.out (by decide) G5.out.ce.T, G5.out.ce.sT⟩, S5.out (by decide) G5.out.Y, G5.out.yn, fun j hj => ⟨⟨S5.out (by decide) (G5.out.yy j hj).1.1, S5.out (by decide) (G5.out.yy j hj).1.2.1, fun q hq => S5.out (by decide) ((G5.out.yy j hj).1.2.2 q hq)⟩, (G5.out.yy j hj).2⟩⟩
    clear S5 G5 O5 G6
    generalize w5.setCell ⟨w.heap.size + 2, 13, none⟩ (.slice u5 x.F.n c5) = w6 at *
    refine (HCQ.out _ _ L6.out.ce.cw).mono ?_
    rintro e w7 ⟨u7, c7, rfl, o7, f7⟩
    have NQ : Hid (NoQ x { y with F := { x.F with O := u5, c := c5 }, Q := { x.Q with O := u7, c := c7 }, mO := none, mn := 0, mc := 0, md := x.md } 0) :=
      ⟨off_late o7 L6.out.ce.E (Nat.le_refl _), off_late o7 O6.out (Nat.le_refl _), fun j hj => off_late o7 (L6.out.yy j hj).1.1 (Nat.le_refl _), fun j hj => off_late o7 (L6.out.yy j hj).1.2.1 (Nat.le_refl _), fun j hj q hq => off_late o7 ((L6.out.yy j hj).1.2.2 q hq) (Nat.le_refl _), fun j hj => absurd hj (by omega)⟩
    have O7 : Hid (OwM w w7 { x.Q with O := u7, c := c7 }) := o7.weaken (by have := L6.out.ce.cw.big; omega)
    have G7 := hidd (L6.out.fresh f7)
    replace O6 : Hid (OwS w w7 { x.F with O := u5, c := c5 }) := Own.kept O6.out f7
    clear o7 f7 L6 HCQ
    have s14 : ∃ v, w7.cell? ⟨w.heap.size + 2, 14, none⟩ = some v := ⟨_, G7.out.ce.cw.loc.cell (i := 14) (by decide)⟩
    have s15 : ∃ v, w7.cell? ⟨w.heap.size + 2, 15, none⟩ = some v := ⟨_, G7.out.ce.cw.loc.cell (i := 15) (by decide)⟩
    have s16 : ∃ v, w7.cell? ⟨w.heap.size + 2, 16, none⟩ = some v := ⟨_, G7.out.ce.cw.loc.cell (i := 16) (by decide)⟩
    have s17 : ∃ v, w7.cell? ⟨w.heap.size + 2, 17, none⟩ = some v := ⟨_, G7.out.ce.cw.loc.cell (i := 17) (by decide)⟩
    obtain ⟨v14, s14⟩ := s14
    obtain ⟨v15, s15⟩ := s15
    obtain ⟨v16, s16⟩ := s16
    obtain ⟨v17, s17⟩ := s17
    have fz : ∀ j, w7.frozen? ⟨w.heap.size + 2, j, none⟩ = false := G7.out.ce.cw.loc.frozen
    have S7 : Hid (∀ {e : TypeId} {sz b n : Nat} {v : Value} {cs : Nat → Value}, e ≠ 34 → Own w7 b e sz v n cs → Own ((((w7.setCell ⟨w.heap.size + 2, 14, none⟩ (.int .i64 x.Q.R)).setCell ⟨w.heap.size + 2, 15, none⟩ (.int .i64 x.Q.C)).setCell ⟨w.heap.size + 2, 16, none⟩ (.slice u7 x.Q.n c7)).setCell ⟨w.heap.size + 2, 17, none⟩ (.slice none 0 0)) b e sz v n cs) := fun n2 hz => by
      have h9 := own_apart G7.out.ce.cw hz n2
      exact (((hz.set h9).set h9).set h9).set h9
    have G8 := hidd ((G7.out.ce.cw.Q { x.Q with O := u7, c := c7 }).M none 0 0 x.md)
    have HM0 : Hid (Mw w ((((w7.setCell ⟨w.heap.size + 2, 14, none⟩ (.int .i64 x.Q.R)).setCell ⟨w.heap.size + 2, 15, none⟩ (.int .i64 x.Q.C)).setCell ⟨w.heap.size + 2, 16, none⟩ (.slice u7 x.Q.n c7)).setCell ⟨w.heap.size + 2, 17, none⟩ (.slice none 0 0)) x { y with F := { x.F with O := u5, c := c5 }, Q := { x.Q with O := u7, c := c7 }, mO := none, mn := 0, mc := 0, md := x.md } 0) :=
      ⟨⟨⟨G8.out, G7.out.ce.cfg, S7.out (by decide) G7.out.ce.E, G7.out.ce.sE, S7.out (by decide) G7.out.ce.T, G7.out.ce.sT⟩, S7.out (by decide) G7.out.Y, G7.out.yn, fun j hj => ⟨⟨S7.out (by decide) (G7.out.yy j hj).1.1, S7.out (by decide) (G7.out.yy j hj).1.2.1, fun q hq => S7.out (by decide) ((G7.out.yy j hj).1.2.2 q hq)⟩, (G7.out.yy j hj).2⟩⟩, S7.out (by decide) O6.out, ⟨rfl, rfl⟩, S7.out (by decide) O7.out, ⟨rfl, rfl, rfl, rfl⟩, own_nil _ _ _ _ _, rfl, fun j hj => absurd hj (by omega), NQ.out⟩
    clear S7 G7 G8 O6 O7 NQ
    go_wp2
    refine loop_invP (c := loopN) (fun q a wz => ∃ (k : Nat) (y : WtD), q + k = x.mn ∧ LF4 w.heap.size k a ∧ Hid (Mw w wz x y k)) x.mn ⟨0, _, by omega, LF4.of rfl rfl rfl rfl (by first | rfl | simp), HM0.out⟩ ?_
    clear HM0 fz s14 s15 s16 s17
    rintro q a wr ⟨k, y, hq, ha, HL⟩
    by_cases hlt : k < x.mn
    · refine then_only (fun _ _ h => h) (roundN HW HB hm hlt HL a ha _ (hidd fun a' w' y' h1 h2 => ?_))
      exact ⟨q - 1, by omega, k + 1, y', by omega, h1, h2⟩
    · obtain rfl : k = x.mn := by omega
      obtain ⟨u, e1, e2, e3, e6, rfl⟩ := ha
      rw [e1, e2, e3, e6]
      clear e1 e2 e3 e6 hq
      conv => arg 2; whnf
      have hnl2 : ¬ ((x.mn : Int) < (x.mn : Int)) := by omega
      have b17 : wr.cell? ⟨w.heap.size, 17, none⟩ = some (.slice x.mO x.mn x.mc) := HL.out.lw.ce.cw.box.cell (i := 17) (by decide)
      have RG' : wr.rangeAt (w.heap.size + 2) 0 (wtL y) := row_range HL.out.lw.ce.cw.loc rfl
      obtain ⟨T9, hT⟩ : ∃ T9, T9 = wtA y := ⟨_, rfl⟩
      have RG : Hid (wr.rangeAt (w.heap.size + 2) 0 T9.toList) := by rw [hT]; exact RG'
      have SL : Hid ((Try.prog.info? 34).map (·.size) = some T9.toList.length) := by rw [hT]; exact sizeW
      have S18 : Hid ((Try.prog.info? 34).map (·.size) = some T9.size) := by rw [hT]; exact sizeW
      have H1 : Hid (T9.all (·.oneCell') = true) := by rw [hT]; exact wtA_one y
      obtain ⟨old, hold, hosz, _⟩ := HL.out.lw.ce.cw.res
      have HOLD := hidd hold
      have HOSZ : Hid (old.size = T9.size) := by rw [hT]; exact hosz
      have HTT := hidd hT
      clear hold hosz hT RG'
      go_wp2_with (refine wpList_load_mid rfl 34 _ rfl (w.heap.size + 2) 0 rfl T9.toList _ RG.out Try.underlying34 rfl SL.out (wpList_store_row rfl 34 _ _ rfl (w.heap.size + 1) T9 rfl rfl 34 old HOLD.out S18.out HOSZ.out H1.out ?_))
      refine bodyPost_ret (v := .agg T9) ?_ ?_ ?_
      · exact results_cell_row Try.results18 _ _ (w.heap.size + 1) 34 _ (0, 0) _ rfl (setRow_heap _ _ _ _ _ _ HOLD.out) Try.underlying34 rfl S18.out
      · rfl
      · exact ⟨y, by rw [HTT.out], HL.out.ends T9, HL.out.nq⟩
theorem copyW_any {w : World} {x : WtD} (h : WtR w x) (hB : WtB x) :
    Calls Try.prog 18 #[.agg #[.int .i64 x.V, .int .i64 x.W, .int .i64 x.H, .int .i64 x.K, .int .i64 x.L, .int .i64 x.D, .int .i64 x.N, .int .i64 x.M, .int .i64 x.E.R, .int .i64 x.E.C, .slice x.E.O x.E.n x.E.c, .slice x.tO x.tn x.tc, .slice x.yO x.yn x.yc, .slice x.F.O x.F.n x.F.c, .int .i64 x.Q.R, .int .i64 x.Q.C, .slice x.Q.O x.Q.n x.Q.c, .slice x.mO x.mn x.mc]] w fun e w' => ∃ y, e = .returned (.agg (wtA y)) ∧ Cpy w w' x y := (copyW_off h hB).mono fun _ _ ⟨y, h1, h2, _⟩ => ⟨y, h1, h2⟩
end Go.Proofs.Ytilghknalbhacaa
