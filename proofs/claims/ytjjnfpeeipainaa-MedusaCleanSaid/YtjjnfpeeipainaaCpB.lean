import Derived.Test.YtjjnfpeeipainaaCpA
import Derived.Deep.DeepCutAuto
namespace Go.Proofs.Ytjjnfpeeipainaa
open Go.RowKit
/-! copied: the box; Embed and Head. -/
def wtL (x : WtD) : List Value := [.int .i64 x.V, .int .i64 x.W, .int .i64 x.H, .int .i64 x.K, .int .i64 x.L, .int .i64 x.D, .int .i64 x.N, .int .i64 x.M, .int .i64 x.E.R, .int .i64 x.E.C, .slice x.E.O x.E.n x.E.c, .slice x.tO x.tn x.tc, .slice x.yO x.yn x.yc, .slice x.F.O x.F.n x.F.c, .int .i64 x.Q.R, .int .i64 x.Q.C, .slice x.Q.O x.Q.n x.Q.c, .slice x.mO x.mn x.mc]
def wtc (x : WtD) : Nat → Value := fun i => (wtL x).getD i undef
def wtZ : List Value := [.int .i64 0, .int .i64 0, .int .i64 0, .int .i64 0, .int .i64 0, .int .i64 0, .int .i64 0, .int .i64 0, .int .i64 0, .int .i64 0, .slice none 0 0, .slice none 0 0, .slice none 0 0, .slice none 0 0, .int .i64 0, .int .i64 0, .slice none 0 0, .slice none 0 0]
theorem World.rowIs_list (w : World) (l : List Value) (t : TypeId) : (w.alloc (.cells l.toArray t)).rowIs w.heap.size t l.length (fun i => l.getD i undef) := by
  refine World.rowIs_alloc w l.toArray t _ (fun i hi => ?_)
  rw [List.getElem?_toArray, List.getD_eq_getElem?_getD, List.getElem?_eq_getElem (by simpa using hi)]
  rfl
theorem put_E {w : World} {B : Nat} {x : WtD} (u : Option Addr) (c : Nat) (h : w.rowIs B 31 18 (wtc x)) : (((w.setCell ⟨B, 8, none⟩ (.int .i64 x.E.R)).setCell ⟨B, 9, none⟩ (.int .i64 x.E.C)).setCell ⟨B, 10, none⟩ (.slice u x.E.n c)).rowIs B 31 18 (wtc { x with E := { x.E with O := u, c := c } }) :=
  World.rowIs.congr (((h.set 8 (.int .i64 x.E.R)).set 9 (.int .i64 x.E.C)).set 10 (.slice u x.E.n c)) (fun i hi => by
    match i, hi with
    | 0, _ => rfl
    | 1, _ => rfl
    | 2, _ => rfl
    | 3, _ => rfl
    | 4, _ => rfl
    | 5, _ => rfl
    | 6, _ => rfl
    | 7, _ => rfl
    | 8, _ => rfl
    | 9, _ => rfl
    | 10, _ => rfl
    | 11, _ => rfl
    | 12, _ => rfl
    | 13, _ => rfl
    | 14, _ => rfl
    | 15, _ => rfl
    | 16, _ => rfl
    | 17, _ => rfl
    | i + 18, hi => exact absurd hi (by omega))
theorem put_Q {w : World} {B : Nat} {x : WtD} (u : Option Addr) (c : Nat) (h : w.rowIs B 31 18 (wtc x)) : (((w.setCell ⟨B, 14, none⟩ (.int .i64 x.Q.R)).setCell ⟨B, 15, none⟩ (.int .i64 x.Q.C)).setCell ⟨B, 16, none⟩ (.slice u x.Q.n c)).rowIs B 31 18 (wtc { x with Q := { x.Q with O := u, c := c } }) :=
  World.rowIs.congr (((h.set 14 (.int .i64 x.Q.R)).set 15 (.int .i64 x.Q.C)).set 16 (.slice u x.Q.n c)) (fun i hi => by
    match i, hi with
    | 0, _ => rfl
    | 1, _ => rfl
    | 2, _ => rfl
    | 3, _ => rfl
    | 4, _ => rfl
    | 5, _ => rfl
    | 6, _ => rfl
    | 7, _ => rfl
    | 8, _ => rfl
    | 9, _ => rfl
    | 10, _ => rfl
    | 11, _ => rfl
    | 12, _ => rfl
    | 13, _ => rfl
    | 14, _ => rfl
    | 15, _ => rfl
    | 16, _ => rfl
    | 17, _ => rfl
    | i + 18, hi => exact absurd hi (by omega))
theorem put_T {w : World} {B : Nat} {x : WtD} (u : Option Addr) (c : Nat) (h : w.rowIs B 31 18 (wtc x)) : (w.setCell ⟨B, 11, none⟩ (.slice u x.tn c)).rowIs B 31 18 (wtc { x with tO := u, tc := c }) :=
  World.rowIs.congr (h.set 11 (.slice u x.tn c)) (fun i hi => by
    match i, hi with
    | 0, _ => rfl
    | 1, _ => rfl
    | 2, _ => rfl
    | 3, _ => rfl
    | 4, _ => rfl
    | 5, _ => rfl
    | 6, _ => rfl
    | 7, _ => rfl
    | 8, _ => rfl
    | 9, _ => rfl
    | 10, _ => rfl
    | 11, _ => rfl
    | 12, _ => rfl
    | 13, _ => rfl
    | 14, _ => rfl
    | 15, _ => rfl
    | 16, _ => rfl
    | 17, _ => rfl
    | i + 18, hi => exact absurd hi (by omega))
theorem put_F {w : World} {B : Nat} {x : WtD} (u : Option Addr) (c : Nat) (h : w.rowIs B 31 18 (wtc x)) : (w.setCell ⟨B, 13, none⟩ (.slice u x.F.n c)).rowIs B 31 18 (wtc { x with F := { x.F with O := u, c := c } }) :=
  World.rowIs.congr (h.set 13 (.slice u x.F.n c)) (fun i hi => by
    match i, hi with
    | 0, _ => rfl
    | 1, _ => rfl
    | 2, _ => rfl
    | 3, _ => rfl
    | 4, _ => rfl
    | 5, _ => rfl
    | 6, _ => rfl
    | 7, _ => rfl
    | 8, _ => rfl
    | 9, _ => rfl
    | 10, _ => rfl
    | 11, _ => rfl
    | 12, _ => rfl
    | 13, _ => rfl
    | 14, _ => rfl
    | 15, _ => rfl
    | 16, _ => rfl
    | 17, _ => rfl
    | i + 18, hi => exact absurd hi (by omega))
theorem put_Y {w : World} {B : Nat} {x : WtD} (u : Option Addr) (c : Nat) (h : w.rowIs B 31 18 (wtc x)) : (w.setCell ⟨B, 12, none⟩ (.slice u x.yn c)).rowIs B 31 18 (wtc { x with yO := u, yc := c }) :=
  World.rowIs.congr (h.set 12 (.slice u x.yn c)) (fun i hi => by
    match i, hi with
    | 0, _ => rfl
    | 1, _ => rfl
    | 2, _ => rfl
    | 3, _ => rfl
    | 4, _ => rfl
    | 5, _ => rfl
    | 6, _ => rfl
    | 7, _ => rfl
    | 8, _ => rfl
    | 9, _ => rfl
    | 10, _ => rfl
    | 11, _ => rfl
    | 12, _ => rfl
    | 13, _ => rfl
    | 14, _ => rfl
    | 15, _ => rfl
    | 16, _ => rfl
    | 17, _ => rfl
    | i + 18, hi => exact absurd hi (by omega))
theorem put_M {w : World} {B : Nat} {x : WtD} (u : Option Addr) (c : Nat) (h : w.rowIs B 31 18 (wtc x)) : (w.setCell ⟨B, 17, none⟩ (.slice u x.mn c)).rowIs B 31 18 (wtc { x with mO := u, mc := c }) :=
  World.rowIs.congr (h.set 17 (.slice u x.mn c)) (fun i hi => by
    match i, hi with
    | 0, _ => rfl
    | 1, _ => rfl
    | 2, _ => rfl
    | 3, _ => rfl
    | 4, _ => rfl
    | 5, _ => rfl
    | 6, _ => rfl
    | 7, _ => rfl
    | 8, _ => rfl
    | 9, _ => rfl
    | 10, _ => rfl
    | 11, _ => rfl
    | 12, _ => rfl
    | 13, _ => rfl
    | 14, _ => rfl
    | 15, _ => rfl
    | 16, _ => rfl
    | 17, _ => rfl
    | i + 18, hi => exact absurd hi (by omega))
/-- what copied's walk keeps: the box, the place of the answer, all that was there -/
structure Cp (w wx : World) (x : WtD) : Prop where
  box : wx.rowIs w.heap.size 31 18 (wtc x)
  res : wx.rowIs (w.heap.size + 1) 31 18 (fun i => wtZ.getD i undef)
  low : Below w.heap.size w wx
theorem Cp.fresh {w wx wy : World} {x : WtD} (h : Cp w wx x) (f : Below wx.heap.size wx wy) : Cp w wy x :=
  ⟨row_fresh h.box f, row_fresh h.res f, fresh_trans h.low f⟩
theorem Cp.big {w wx : World} {x : WtD} (h : Cp w wx x) : w.heap.size + 2 ≤ wx.heap.size := by have := h.res.lt; omega
theorem Cp.start (w : World) (x : WtD) : Cp w ((w.alloc (.cells #[.int .i64 x.V, .int .i64 x.W, .int .i64 x.H, .int .i64 x.K, .int .i64 x.L, .int .i64 x.D, .int .i64 x.N, .int .i64 x.M, .int .i64 x.E.R, .int .i64 x.E.C, .slice x.E.O x.E.n x.E.c, .slice x.tO x.tn x.tc, .slice x.yO x.yn x.yc, .slice x.F.O x.F.n x.F.c, .int .i64 x.Q.R, .int .i64 x.Q.C, .slice x.Q.O x.Q.n x.Q.c, .slice x.mO x.mn x.mc] 31)).alloc (.cells #[.int .i64 0, .int .i64 0, .int .i64 0, .int .i64 0, .int .i64 0, .int .i64 0, .int .i64 0, .int .i64 0, .int .i64 0, .int .i64 0, .slice none 0 0, .slice none 0 0, .slice none 0 0, .slice none 0 0, .int .i64 0, .int .i64 0, .slice none 0 0, .slice none 0 0] 31)) x := by
  refine ⟨(World.rowIs_list w (wtL x) 31).alloc _, ?_, fresh_trans (fresh_alloc _ _) (fresh_alloc _ _)⟩
  have hs : (w.alloc (.cells #[.int .i64 x.V, .int .i64 x.W, .int .i64 x.H, .int .i64 x.K, .int .i64 x.L, .int .i64 x.D, .int .i64 x.N, .int .i64 x.M, .int .i64 x.E.R, .int .i64 x.E.C, .slice x.E.O x.E.n x.E.c, .slice x.tO x.tn x.tc, .slice x.yO x.yn x.yc, .slice x.F.O x.F.n x.F.c, .int .i64 x.Q.R, .int .i64 x.Q.C, .slice x.Q.O x.Q.n x.Q.c, .slice x.mO x.mn x.mc] 31)).heap.size = w.heap.size + 1 := by simp
  have := World.rowIs_list (w.alloc (.cells #[.int .i64 x.V, .int .i64 x.W, .int .i64 x.H, .int .i64 x.K, .int .i64 x.L, .int .i64 x.D, .int .i64 x.N, .int .i64 x.M, .int .i64 x.E.R, .int .i64 x.E.C, .slice x.E.O x.E.n x.E.c, .slice x.tO x.tn x.tc, .slice x.yO x.yn x.yc, .slice x.F.O x.F.n x.F.c, .int .i64 x.Q.R, .int .i64 x.Q.C, .slice x.Q.O x.Q.n x.Q.c, .slice x.mO x.mn x.mc] 31)) wtZ 31
  rw [hs] at this
  exact this
theorem Own.setB {w wy : World} {base : Nat} (hb : w.heap.size + 2 ≤ base) {e : TypeId} {sz : Nat} {v : Value} {n : Nat} {cs : Nat → Value} (ho : Own wy base e sz v n cs) (j : Nat) (y : Value) : Own (wy.setCell ⟨w.heap.size, j, none⟩ y) base e sz v n cs :=
  ho.set (fun e => by have := (ho.lt _ e).1; omega)
theorem res_set {z : World} {B : Nat} {F : Nat → Value} (h : z.rowIs (B + 1) 31 18 F) (j : Nat) (y : Value) : (z.setCell ⟨B, j, none⟩ y).rowIs (B + 1) 31 18 F := h.setOther (by show B + 1 ≠ B; omega) _
theorem low_set {w z : World} (h : Below w.heap.size w z) (j : Nat) (y : Value) : Below w.heap.size w (z.setCell ⟨w.heap.size, j, none⟩ y) := h.setCell (Nat.le_refl _) _
theorem Cp.EQ {w z : World} {x : WtD} (g : Cp w z x) (u1 u2 : Option Addr) (c1 c2 : Nat) : Cp w ((((((z.setCell ⟨w.heap.size, 8, none⟩ (.int .i64 x.E.R)).setCell ⟨w.heap.size, 9, none⟩ (.int .i64 x.E.C)).setCell ⟨w.heap.size, 10, none⟩ (.slice u1 x.E.n c1)).setCell ⟨w.heap.size, 14, none⟩ (.int .i64 x.Q.R)).setCell ⟨w.heap.size, 15, none⟩ (.int .i64 x.Q.C)).setCell ⟨w.heap.size, 16, none⟩ (.slice u2 x.Q.n c2)) { x with E := { x.E with O := u1, c := c1 }, Q := { x.Q with O := u2, c := c2 } } :=
  ⟨put_Q (x := _) _ _ (put_E _ _ g.box), (res_set (res_set (res_set (res_set (res_set (res_set g.res _ _) _ _) _ _) _ _) _ _) _ _), (low_set (low_set (low_set (low_set (low_set (low_set g.low _ _) _ _) _ _) _ _) _ _) _ _)⟩
theorem Cp.QE {w z : World} {x : WtD} (g : Cp w z x) (u1 u2 : Option Addr) (c1 c2 : Nat) : Cp w ((((((z.setCell ⟨w.heap.size, 14, none⟩ (.int .i64 x.Q.R)).setCell ⟨w.heap.size, 15, none⟩ (.int .i64 x.Q.C)).setCell ⟨w.heap.size, 16, none⟩ (.slice u2 x.Q.n c2)).setCell ⟨w.heap.size, 8, none⟩ (.int .i64 x.E.R)).setCell ⟨w.heap.size, 9, none⟩ (.int .i64 x.E.C)).setCell ⟨w.heap.size, 10, none⟩ (.slice u1 x.E.n c1)) { x with E := { x.E with O := u1, c := c1 }, Q := { x.Q with O := u2, c := c2 } } :=
  ⟨put_E (x := _) _ _ (put_Q _ _ g.box), (res_set (res_set (res_set (res_set (res_set (res_set g.res _ _) _ _) _ _) _ _) _ _) _ _), (low_set (low_set (low_set (low_set (low_set (low_set g.low _ _) _ _) _ _) _ _) _ _) _ _)⟩
theorem Cp.TF {w z : World} {x : WtD} (g : Cp w z x) (u1 u2 : Option Addr) (c1 c2 : Nat) : Cp w ((z.setCell ⟨w.heap.size, 11, none⟩ (.slice u1 x.tn c1)).setCell ⟨w.heap.size, 13, none⟩ (.slice u2 x.F.n c2)) { x with tO := u1, tc := c1, F := { x.F with O := u2, c := c2 } } :=
  ⟨put_F (x := _) _ _ (put_T _ _ g.box), (res_set (res_set g.res _ _) _ _), (low_set (low_set g.low _ _) _ _)⟩
theorem Cp.FT {w z : World} {x : WtD} (g : Cp w z x) (u1 u2 : Option Addr) (c1 c2 : Nat) : Cp w ((z.setCell ⟨w.heap.size, 13, none⟩ (.slice u2 x.F.n c2)).setCell ⟨w.heap.size, 11, none⟩ (.slice u1 x.tn c1)) { x with tO := u1, tc := c1, F := { x.F with O := u2, c := c2 } } :=
  ⟨put_T (x := _) _ _ (put_F _ _ g.box), (res_set (res_set g.res _ _) _ _), (low_set (low_set g.low _ _) _ _)⟩
theorem Cp.YM {w z : World} {x : WtD} (g : Cp w z x) (u1 u2 : Option Addr) (c1 c2 : Nat) : Cp w ((z.setCell ⟨w.heap.size, 12, none⟩ (.slice u1 x.yn c1)).setCell ⟨w.heap.size, 17, none⟩ (.slice u2 x.mn c2)) { x with yO := u1, yc := c1, mO := u2, mc := c2 } :=
  ⟨put_M (x := _) _ _ (put_Y _ _ g.box), (res_set (res_set g.res _ _) _ _), (low_set (low_set g.low _ _) _ _)⟩
theorem Cp.MY {w z : World} {x : WtD} (g : Cp w z x) (u1 u2 : Option Addr) (c1 c2 : Nat) : Cp w ((z.setCell ⟨w.heap.size, 17, none⟩ (.slice u2 x.mn c2)).setCell ⟨w.heap.size, 12, none⟩ (.slice u1 x.yn c1)) { x with yO := u1, yc := c1, mO := u2, mc := c2 } :=
  ⟨put_Y (x := _) _ _ (put_M _ _ g.box), (res_set (res_set g.res _ _) _ _), (low_set (low_set g.low _ _) _ _)⟩
theorem Own.six {w wy : World} {base : Nat} (hb : w.heap.size + 2 ≤ base) {e : TypeId} {sz : Nat} {v : Value} {n : Nat} {cs : Nat → Value} (ho : Own wy base e sz v n cs) {j0 j1 j2 j3 j4 j5 : Nat} {y0 y1 y2 y3 y4 y5 : Value} : Own ((((((wy.setCell ⟨w.heap.size, j0, none⟩ y0).setCell ⟨w.heap.size, j1, none⟩ y1).setCell ⟨w.heap.size, j2, none⟩ y2).setCell ⟨w.heap.size, j3, none⟩ y3).setCell ⟨w.heap.size, j4, none⟩ y4).setCell ⟨w.heap.size, j5, none⟩ y5) base e sz v n cs := (Own.setB (w := w) hb (Own.setB (w := w) hb (Own.setB (w := w) hb (Own.setB (w := w) hb (Own.setB (w := w) hb (Own.setB (w := w) hb ho _ _) _ _) _ _) _ _) _ _) _ _)
theorem Own.two {w wy : World} {base : Nat} (hb : w.heap.size + 2 ≤ base) {e : TypeId} {sz : Nat} {v : Value} {n : Nat} {cs : Nat → Value} (ho : Own wy base e sz v n cs) {j0 j1 : Nat} {y0 y1 : Value} : Own ((wy.setCell ⟨w.heap.size, j0, none⟩ y0).setCell ⟨w.heap.size, j1, none⟩ y1) base e sz v n cs := (Own.setB (w := w) hb (Own.setB (w := w) hb ho _ _) _ _)
end Go.Proofs.Ytjjnfpeeipainaa
