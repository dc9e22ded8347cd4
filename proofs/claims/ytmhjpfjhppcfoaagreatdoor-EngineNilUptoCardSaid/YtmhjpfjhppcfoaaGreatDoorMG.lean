import Derived.Test.YtmhjpfjhppcfoaaGreatDoorCpA
import Derived.Deep.DeepCutAuto
namespace Go.Proofs.YtmhjpfjhppcfoaaGreatDoor
open Go.RowKit
/-! copied: the box; Embed and Head. -/
def wtL (x : WtD) : List Value := [.int .i64 x.V, .int .i64 x.W, .int .i64 x.H, .int .i64 x.K, .int .i64 x.L, .int .i64 x.D, .int .i64 x.N, .int .i64 x.M, .int .i64 x.E.R, .int .i64 x.E.C, .slice x.E.O x.E.n x.E.c, .slice x.tO x.tn x.tc, .slice x.yO x.yn x.yc, .slice x.F.O x.F.n x.F.c, .int .i64 x.Q.R, .int .i64 x.Q.C, .slice x.Q.O x.Q.n x.Q.c, .slice x.mO x.mn x.mc]
def wtc (x : WtD) : Nat → Value := fun i => (wtL x).getD i undef
def wtZ : List Value := [.int .i64 0, .int .i64 0, .int .i64 0, .int .i64 0, .int .i64 0, .int .i64 0, .int .i64 0, .int .i64 0, .int .i64 0, .int .i64 0, .slice none 0 0, .slice none 0 0, .slice none 0 0, .slice none 0 0, .int .i64 0, .int .i64 0, .slice none 0 0, .slice none 0 0]
theorem World.rowIs_list (w : World) (l : List Value) (t : TypeId) : (w.alloc (.cells l.toArray t)).rowIs w.heap.size t l.length (fun i => l.getD i undef) := by
  refine World.rowIs_alloc w l.toArray t _ (fun i hi => ?_)
  rw [List.getElem?_toArray, List.getD_eq_getElem?_getD, List.getElem?_eq_getElem (by simpa using hi)]
  rfl
theorem put_E {w : World} {B : Nat} {x : WtD} (u : Option Addr) (c : Nat) (h : w.rowIs B 31 18 (wtc x)) : (((w.setCell ⟨B, 8, none⟩ (.int .i64 x.E.R)).setCell ⟨B, 9, none⟩ (.int .i64 x.E.C)).setCell ⟨B, 10, none⟩ (.slice u x.E.n c)).rowIs B 31 18 (wtc { x with E := { x.E with O := u, c := c } }) :=
  World.rowIs.congr (((h.set 8 (.int .i64 x.E.R)).set 9 (.int .i64 x.E.C)).set 10 (.slice u x.E.n c)) (fun i hi => by
    match i, hi with
    | 0, _ => rfl
    | 1, _ => rfl
    | 2, _ => rfl
    | 3, _ => rfl
    | 4, _ => rfl
    | 5, _ => rfl
    | 6, _ => rfl
    | 7, _ => rfl
    | 8, _ => rfl
    | 9, _ => rfl
    | 10, _ => rfl
    | 11, _ => rfl
    | 12, _ => rfl
    | 13, _ => rfl
    | 14, _ => rfl
    | 15, _ => rfl
    | 16, _ => rfl
    | 17, _ => rfl
    | i + 18, hi => exact absurd hi (by omega))
theorem put_Q {w : World} {B : Nat} {x : WtD} (u : Option Addr) (c : Nat) (h : w.rowIs B 31 18 (wtc x)) : (((w.setCell ⟨B, 14, none⟩ (.int .i64 x.Q.R)).setCell ⟨B, 15, none⟩ (.int .i64 x.Q.C)).setCell ⟨B, 16, none⟩ (.slice u x.Q.n c)).rowIs B 31 18 (wtc { x with Q := { x.Q with O := u, c := c } }) :=
  World.rowIs.congr (((h.set 14 (.int .i64 x.Q.R)).set 15 (.int .i64 x.Q.C)).set 16 (.slice u x.Q.n c)) (fun i hi => by
    match i, hi with
    | 0, _ => rfl
    | 1, _ => rfl
    | 2, _ => rfl
    | 3, _ => rfl
    | 4, _ => rfl
    | 5, _ => rfl
    | 6, _ => rfl
    | 7, _ => rfl
    | 8, _ => rfl
    | 9, _ => rfl
    | 10, _ => rfl
    | 11, _ => rfl
    | 12, _ => rfl
    | 13, _ => rfl
    | 14, _ => rfl
    | 15, _ => rfl
    | 16, _ => rfl
    | 17, _ => rfl
    | i + 18, hi => exact absurd hi (by omega))
theorem put_T {w : World} {B : Nat} {x : WtD} (u : Option Addr) (c : Nat) (h : w.rowIs B 31 18 (wtc x)) : (w.setCell ⟨B, 11, none⟩ (.slice u x.tn c)).rowIs B 31 18 (wtc { x with tO := u, tc := c }) :=
  World.rowIs.congr (h.set 11 (.slice u x.tn c)) (fun i hi => by
    match i, hi with
    | 0, _ => rfl
    | 1, _ => rfl
    | 2, _ => rfl
    | 3, _ => rfl
    | 4, _ => rfl
    | 5, _ => rfl
    | 6, _ => rfl
    | 7, _ => rfl
    | 8, _ => rfl
    | 9, _ => rfl
    | 10, _ => rfl
    | 11, _ => rfl
    | 12, _ => rfl
    | 13, _ => rfl
    | 14, _ => rfl
    | 15, _ => rfl
    | 16, _ => rfl
    | 17, _ => rfl
    | i + 18, hi => exact absurd hi (by omega))
theorem put_F {w : World} {B : Nat} {x : WtD} (u : Option Addr) (c : Nat) (h : w.rowIs B 31 18 (wtc x)) : (w.setCell ⟨B, 13, none⟩ (.slice u x.F.n c)).rowIs B 31 18 (wtc { x with F := { x.F with O := u, c := c } }) :=
  World.rowIs.congr (h.set 13 (.slice u x.F.n c)) (fun i hi => by
    match i, hi with
    | 0, _ => rfl
    | 1, _ => rfl
    | 2, _ => rfl
    | 3, _ => rfl
    | 4, _ => rfl
    | 5, _ => rfl
    | 6, _ => rfl
    | 7, _ => rfl
    | 8, _ => rfl
    | 9, _ => rfl
    | 10, _ => rfl
    | 11, _ => rfl
    | 12, _ => rfl
    | 13, _ => rfl
    | 14, _ => rfl
    | 15, _ => rfl
    | 16, _ => rfl
    | 17, _ => rfl
    | i + 18, hi => exact absurd hi (by omega))
theorem put_Y {w : World} {B : Nat} {x : WtD} (u : Option Addr) (c : Nat) (h : w.rowIs B 31 18 (wtc x)) : (w.setCell ⟨B, 12, none⟩ (.slice u x.yn c)).rowIs B 31 18 (wtc { x with yO := u, yc := c }) :=
  World.rowIs.congr (h.set 12 (.slice u x.yn c)) (fun i hi => by
    match i, hi with
    | 0, _ => rfl
    | 1, _ => rfl
    | 2, _ => rfl
    | 3, _ => rfl
    | 4, _ => rfl
    | 5, _ => rfl
    | 6, _ => rfl
    | 7, _ => rfl
    | 8, _ => rfl
    | 9, _ => rfl
    | 10, _ => rfl
    | 11, _ => rfl
    | 12, _ => rfl
    | 13, _ => rfl
    | 14, _ => rfl
    | 15, _ => rfl
    | 16, _ => rfl
    | 17, _ => rfl
    | i + 18, hi => exact absurd hi (by omega))
theorem put_M {w : World} {B : Nat} {x : WtD} (u : Option Addr) (c : Nat) (h : w.rowIs B 31 18 (wtc x)) : (w.setCell ⟨B, 17, none⟩ (.slice u x.mn c)).rowIs B 31 18 (wtc { x with mO := u, mc := c }) :=
  World.rowIs.congr (h.set 17 (.slice u x.mn c)) (fun i hi => by
    match i, hi with
    | 0, _ => rfl
    | 1, _ => rfl
    | 2, _ => rfl
    | 3, _ => rfl
    | 4, _ => rfl
    | 5, _ => rfl
    | 6, _ => rfl
    | 7, _ => rfl
    | 8, _ => rfl
    | 9, _ => rfl
    | 10, _ => rfl
    | 11, _ => rfl
    | 12, _ => rfl
    | 13, _ => rfl
    | 14, _ => rfl
    | 15, _ => rfl
    | 16, _ => rfl
    | 17, _ => rfl
    | i + 18, hi => exact absurd hi (by omega))
/-- what copied's walk keeps: the box, the place of the answer, all that was there -/
structure Cp (w wx : World) (x : WtD) : Prop where
  box : wx.rowIs w.heap.size 31 18 (wtc x)
  res : wx.rowIs (w.heap.size + 1) 31 18 (fun i => wtZ.getD i undef)
  low : Below w.heap.size w wx
theorem Cp.fresh {w wx wy : World} {x : WtD} (h : Cp w wx x) (f : Below wx.heap.size wx wy) : Cp w wy x :=
  ⟨row_fresh h.box f, row_fresh h.res f, fresh_trans h.low f⟩
theorem Cp.big {w wx : World} {x : WtD} (h : Cp w wx x) : w.heap.size + 2 ≤ wx.heap.size := by have := h.res.lt; omega
theorem Cp.start (w : World) (x : WtD) : Cp w ((w.alloc (.cells #[.int .i64 x.V, .int .i64 x.W, .int .i64 x.H, .int .i64 x.K, .int .i64 x.L, .int .i64 x.D, .int .i64 x.N, .int .i64 x.M, .int .i64 x.E.R, .int .i64 x.E.C, .slice x.E.O x.E.n x.E.c, .slice x.tO x.tn x.tc, .slice x.yO x.yn x.yc, .slice x.F.O x.F.n x.F.c, .int .i64 x.Q.R, .int .i64 x.Q.C, .slice x.Q.O x.Q.n x.Q.c, .slice x.mO x.mn x.mc] 31)).alloc (.cells #[.int .i64 0, .int .i64 0, .int .i64 0, .int .i64 0, .int .i64 0, .int .i64 0, .int .i64 0, .int .i64 0, .int .i64 0, .int .i64 0, .slice none 0 0, .slice none 0 0, .slice none 0 0, .slice none 0 0, .int .i64 0, .int .i64 0, .slice none 0 0, .slice none 0 0] 31)) x := by
  refine ⟨(World.rowIs_list w (wtL x) 31).alloc _, ?_, fresh_trans (fresh_alloc _ _) (fresh_alloc _ _)⟩
  have hs : (w.alloc (.cells #[.int .i64 x.V, .int .i64 x.W, .int .i64 x.H, .int .i64 x.K, .int .i64 x.L, .int .i64 x.D, .int .i64 x.N, .int .i64 x.M, .int .i64 x.E.R, .int .i64 x.E.C, .slice x.E.O x.E.n x.E.c, .slice x.tO x.tn x.tc, .slice x.yO x.yn x.yc, .slice x.F.O x.F.n x.F.c, .int .i64 x.Q.R, .int .i64 x.Q.C, .slice x.Q.O x.Q.n x.Q.c, .slice x.mO x.mn x.mc] 31)).heap.size = w.heap.size + 1 := by simp
  have := World.rowIs_list (w.alloc (.cells #[.int .i64 x.V, .int .i64 x.W, .int .i64 x.H, .int .i64 x.K, .int .i64 x.L, .int .i64 x.D, .int .i64 x.N, .int .i64 x.M, .int .i64 x.E.R, .int .i64 x.E.C, .slice x.E.O x.E.n x.E.c, .slice x.tO x.tn x.tc, .slice x.yO x.yn x.yc, .slice x.F.O x.F.n x.F.c, .int .i64 x.Q.R, .int .i64 x.Q.C, .slice x.Q.O x.Q.n x.Q.c, .slice x.mO x.mn x.mc] 31)) wtZ 31
  rw [hs] at this
  exact this
theorem Own.setB {w wy : World} {base : Nat} (hb : w.heap.size + 2 ≤ base) {e : TypeId} {sz : Nat} {v : Value} {n : Nat} {cs : Nat → Value} (ho : Own wy base e sz v n cs) (j : Nat) (y : Value) : Own (wy.setCell ⟨w.heap.size, j, none⟩ y) base e sz v n cs :=
  ho.set (fun e => by have := (ho.lt _ e).1; omega)
theorem res_set {z : World} {B : Nat} {F : Nat → Value} (h : z.rowIs (B + 1) 31 18 F) (j : Nat) (y : Value) : (z.setCell ⟨B, j, none⟩ y).rowIs (B + 1) 31 18 F := h.setOther (by show B + 1 ≠ B; omega) _
theorem low_set {w z : World} (h : Below w.heap.size w z) (j : Nat) (y : Value) : Below w.heap.size w (z.setCell ⟨w.heap.size, j, none⟩ y) := h.setCell (Nat.le_refl _) _
theorem Cp.EQ {w z : World} {x : WtD} (g : Cp w z x) (u1 u2 : Option Addr) (c1 c2 : Nat) : Cp w ((((((z.setCell ⟨w.heap.size, 8, none⟩ (.int .i64 x.E.R)).setCell ⟨w.heap.size, 9, none⟩ (.int .i64 x.E.C)).setCell ⟨w.heap.size, 10, none⟩ (.slice u1 x.E.n c1)).setCell ⟨w.heap.size, 14, none⟩ (.int .i64 x.Q.R)).setCell ⟨w.heap.size, 15, none⟩ (.int .i64 x.Q.C)).setCell ⟨w.heap.size, 16, none⟩ (.slice u2 x.Q.n c2)) { x with E := { x.E with O := u1, c := c1 }, Q := { x.Q with O := u2, c := c2 } } :=
  ⟨put_Q (x := _) _ _ (put_E _ _ g.box), (res_set (res_set (res_set (res_set (res_set (res_set g.res _ _) _ _) _ _) _ _) _ _) _ _), (low_set (low_set (low_set (low_set (low_set (low_set g.low _ _) _ _) _ _) _ _) _ _) _ _)⟩
theorem Cp.QE {w z : World} {x : WtD} (g : Cp w z x) (u1 u2 : Option Addr) (c1 c2 : Nat) : Cp w ((((((z.setCell ⟨w.heap.size, 14, none⟩ (.int .i64 x.Q.R)).setCell ⟨w.heap.size, 15, none⟩ (.int .i64 x.Q.C)).setCell ⟨w.heap.size, 16, none⟩ (.slice u2 x.Q.n c2)).setCell ⟨w.heap.size, 8, none⟩ (.int .i64 x.E.R)).setCell ⟨w.heap.size, 9, none⟩ (.int .i64 x.E.C)).setCell ⟨w.heap.size, 10, none⟩ (.slice u1 x.E.n c1)) { x with E := { x.E with O := u1, c := c1 }, Q := { x.Q with O := u2, c := c2 } } :=
  ⟨put_E (x := _) _ _ (put_Q _ _ g.box), (res_set (res_set (res_set (res_set (res_set (res_set g.res _ _) _ _) _ _) _ _) _ _) _ _), (low_set (low_set (low_set (low_set (low_set (low_set g.low _ _) _ _) _ _) _ _) _ _) _ _)⟩
theorem Cp.TF {w z : World} {x : WtD} (g : Cp w z x) (u1 u2 : Option Addr) (c1 c2 : Nat) : Cp w ((z.setCell ⟨w.heap.size, 11, none⟩ (.slice u1 x.tn c1)).setCell ⟨w.heap.size, 13, none⟩ (.slice u2 x.F.n c2)) { x with tO := u1, tc := c1, F := { x.F with O := u2, c := c2 } } :=
  ⟨put_F (x := _) _ _ (put_T _ _ g.box), (res_set (res_set g.res _ _) _ _), (low_set (low_set g.low _ _) _ _)⟩
theorem Cp.FT {w z : World} {x : WtD} (g : Cp w z x) (u1 u2 : Option Addr) (c1 c2 : Nat) : Cp w ((z.setCell ⟨w.heap.size, 13, none⟩ (.slice u2 x.F.n c2)).setCell ⟨w.heap.size, 11, none⟩ (.slice u1 x.tn c1)) { x with tO := u1, tc := c1, F := { x.F with O := u2, c := c2 } } :=
  ⟨put_T (x := _) _ _ (put_F _ _ g.box), (res_set (res_set g.res _ _) _ _), (low_set (low_set g.low _ _) _ _)⟩
theorem Cp.YM {w z : World} {x : WtD} (g : Cp w z x) (u1 u2 : Option Addr) (c1 c2 : Nat) : Cp w ((z.setCell ⟨w.heap.size, 12, none⟩ (.slice u1 x.yn c1)).setCell ⟨w.heap.size, 17, none⟩ (.slice u2 x.mn c2)) { x with yO := u1, yc := c1, mO := u2, mc := c2 } :=
  ⟨put_M (x := _) _ _ (put_Y _ _ g.box), (res_set (res_set g.res _ _) _ _), (low_set (low_set g.low _ _) _ _)⟩
theorem Cp.MY {w z : World} {x : WtD} (g : Cp w z x) (u1 u2 : Option Addr) (c1 c2 : Nat) : Cp w ((z.setCell ⟨w.heap.size, 17, none⟩ (.slice u2 x.mn c2)).setCell ⟨w.heap.size, 12, none⟩ (.slice u1 x.yn c1)) { x with yO := u1, yc := c1, mO := u2, mc := c2 } :=
  ⟨put_Y (x := _) _ _ (put_M _ _ g.box), (res_set (res_set g.res _ _) _ _), (low_set (low_set g.low _ _) _ _)⟩
theorem Own.six {w wy : World} {base : Nat} (hb : w.heap.size + 2 ≤ base) {e : TypeId} {sz : Nat} {v : Value} {n : Nat} {cs : Nat → Value} (ho : Own wy base e sz v n cs) {j0 j1 j2 j3 j4 j5 : Nat} {y0 y1 y2 y3 y4 y5 : Value} : Own ((((((wy.setCell ⟨w.heap.size, j0, none⟩ y0).setCell ⟨w.heap.size, j1, none⟩ y1).setCell ⟨w.heap.size, j2, none⟩ y2).setCell ⟨w.heap.size, j3, none⟩ y3).setCell ⟨w.heap.size, j4, none⟩ y4).setCell ⟨w.heap.size, j5, none⟩ y5) base e sz v n cs := (Own.setB (w := w) hb (Own.setB (w := w) hb (Own.setB (w := w) hb (Own.setB (w := w) hb (Own.setB (w := w) hb (Own.setB (w := w) hb ho _ _) _ _) _ _) _ _) _ _) _ _)
theorem Own.two {w wy : World} {base : Nat} (hb : w.heap.size + 2 ≤ base) {e : TypeId} {sz : Nat} {v : Value} {n : Nat} {cs : Nat → Value} (ho : Own wy base e sz v n cs) {j0 j1 : Nat} {y0 y1 : Value} : Own ((wy.setCell ⟨w.heap.size, j0, none⟩ y0).setCell ⟨w.heap.size, j1, none⟩ y1) base e sz v n cs := (Own.setB (w := w) hb (Own.setB (w := w) hb ho _ _) _ _)
end Go.Proofs.YtmhjpfjhppcfoaaGreatDoor
namespace Go.Proofs.YtmhjpfjhppcfoaaGreatDoor
open Go.RowKit
/-! What copied's loops keep. -/
theorem Own.put {w : World} {base : Nat} {e : TypeId} {sz g cap n : Nat} {cs : Nat → Value} (h : Own w base e sz (.slice (some ⟨g, 0, none⟩) n cap) n cs) (j : Nat) (x : Value) : Own (w.setCell ⟨g, j, none⟩ x) base e sz (.slice (some ⟨g, 0, none⟩) n cap) n (fun i => if i = j then x else cs i) := by
  have := (World.ownsRow.stored h j x).1
  unfold Own
  have e1 : (List.range (n * sz)).map (fun i => if i = j then x else cs i) = ((List.range (n * sz)).map cs).set j x := by
    refine List.ext_getElem? (fun i => ?_)
    rw [List.getElem?_set]
    by_cases hi : i < n * sz
    · by_cases e : j = i
      · subst e
        simp [hi]
      · rw [if_neg e]
        simp [hi]
        exact fun q => absurd q.symm e
    · simp [hi]
      omega
  rw [e1]
  exact this
theorem Own.at_ {w : World} {base : Nat} {e : TypeId} {sz n c : Nat} {u : Option Addr} {cs : Nat → Value} (h : Own w base e sz (.slice u n c) n cs) (hn : 0 < n) : ∃ g, u = some ⟨g, 0, none⟩ ∧ base ≤ g ∧ g < w.heap.size ∧ (∀ j, j < n * sz → w.cell? ⟨g, j, none⟩ = some (cs j)) ∧ (∀ j, w.frozen? ⟨g, j, none⟩ = false) := by
  obtain ⟨ao, cap, e1, hr⟩ := h.rd
  injection e1 with e2 _ e3
  subst e2 e3
  obtain ⟨b, off, rfl, hc⟩ := hr.at_ hn
  rcases h.2 with ⟨e4, _⟩ | ⟨g, cap', cur, e4, hb, hgg, _⟩
  · cases e4
  · injection e4 with e5 _ e6
    injection e5 with e5
    injection e5 with e7 e8
    subst e7 e8
    refine ⟨_, rfl, hb, (Array.getElem?_eq_some_iff.1 hgg).1, fun j hj => by simpa using hc j hj, fun j => by simp [World.frozen?, hgg]⟩
theorem Own.offT {w : World} {b1 b2 s1 s2 n1 n2 : Nat} {e1 e2 : TypeId} {v u : Value} {c1 c2 : Nat → Value} (h : Own w b1 e1 s1 v n1 c1) (k : Own w b2 e2 s2 u n2 c2) (hne : e1 ≠ e2) : Off v u := fun x hx hy => by
  rcases h.2 with ⟨rfl, rfl⟩ | ⟨g, cap, cur, rfl, _, hg, _⟩
  · simp [Value.ownBlock] at hx
  · rcases k.2 with ⟨rfl, rfl⟩ | ⟨g', cap', cur', rfl, _, hg', _⟩
    · simp [Value.ownBlock] at hy
    · obtain rfl : g = x := by simpa [Value.ownBlock] using hx
      obtain rfl : g' = g := by simpa [Value.ownBlock] using hy
      rw [hg] at hg'
      cases hg'
      exact hne rfl
def lyc (ly : Nat → LyD) : Nat → Value := fun j => (lyL (ly (j / 30))).getD (j % 30) undef
def mtL (m : MtD) : List Value := [.int .i64 m.R, .int .i64 m.C, .slice m.O m.n m.c]
def mtc (md : Nat → MtD) : Nat → Value := fun j => (mtL (md (j / 3))).getD (j % 3) undef
theorem tcs_one (C S : Nat → Int) (n : Nat) : ∀ j, j < n → (tcs C S j).oneCell' = true := fun j _ => by
  unfold tcs
  split <;> rfl
theorem mtc_one (md : Nat → MtD) (n : Nat) : ∀ j, j < n → (mtc md j).oneCell' = true := fun j _ => by
  unfold mtc
  have : j % 3 < 3 := Nat.mod_lt _ (by decide)
  match j % 3, this with
  | 0, _ => rfl
  | 1, _ => rfl
  | 2, _ => rfl
theorem lyc_one (ly : Nat → LyD) (n : Nat) : ∀ j, j < n → (lyc ly j).oneCell' = true := fun j _ => by
  unfold lyc
  have : j % 30 < 30 := Nat.mod_lt _ (by decide)
  match j % 30, this with
  | 0, _ => rfl
  | 1, _ => rfl
  | 2, _ => rfl
  | 3, _ => rfl
  | 4, _ => rfl
  | 5, _ => rfl
  | 6, _ => rfl
  | 7, _ => rfl
  | 8, _ => rfl
  | 9, _ => rfl
  | 10, _ => rfl
  | 11, _ => rfl
  | 12, _ => rfl
  | 13, _ => rfl
  | 14, _ => rfl
  | 15, _ => rfl
  | 16, _ => rfl
  | 17, _ => rfl
  | 18, _ => rfl
  | 19, _ => rfl
  | 20, _ => rfl
  | 21, _ => rfl
  | 22, _ => rfl
  | 23, _ => rfl
  | 24, _ => rfl
  | 25, _ => rfl
  | 26, _ => rfl
  | 27, _ => rfl
  | 28, _ => rfl
  | 29, _ => rfl
  | i + 30, hi => exact absurd hi (by omega)
theorem WtR.yrd {w : World} {x : WtD} (h : WtR w x) : RdA w x.yO 30 x.yn x.yc (lyc x.ly) := by
  refine ⟨h.yle, h.ytop, fun h0 => ?_⟩
  obtain ⟨b, off, e, hc⟩ := h.yat h0
  refine ⟨b, off, e, fun j hj => ?_⟩
  have hk : j / 30 < x.yn := by omega
  have hr := (hc (j / 30) hk).range (j % 30) (lyc x.ly j) (by
    unfold lyc
    have hl : (lyL (x.ly (j / 30))).length = 30 := rfl
    rw [List.getD_eq_getElem?_getD, List.getElem?_eq_getElem (by rw [hl]; exact Nat.mod_lt _ (by decide))]
    rfl)
  rw [← hr]
  congr 2
  omega
theorem WtR.mrd {w : World} {x : WtD} (h : WtR w x) : RdA w x.mO 3 x.mn x.mc (mtc x.md) := by
  refine ⟨h.mle, h.mtop, fun h0 => ?_⟩
  obtain ⟨b, off, e, hc⟩ := h.mat h0
  refine ⟨b, off, e, fun j hj => ?_⟩
  obtain ⟨h1, h2, h3⟩ := hc (j / 3) (by omega)
  have hj3 : j % 3 < 3 := Nat.mod_lt _ (by decide)
  have e9 : off + j = off + j / 3 * 3 + j % 3 := by omega
  rw [e9]
  unfold mtc
  match j % 3, hj3 with
  | 0, _ => exact h1
  | 1, _ => exact h2
  | 2, _ => exact h3
structure LyB (l : LyD) : Prop where
  q : l.q.n ≤ 1048576
  k : l.k.n ≤ 1048576
  v : l.v.n ≤ 1048576
  o : l.o.n ≤ 1048576
  g : l.g.n ≤ 1048576
  u : l.u.n ≤ 1048576
  d : l.d.n ≤ 1048576
/-- how long the lists may be -/
structure WtB (x : WtD) : Prop where
  E : x.E.n ≤ 1048576
  Q : x.Q.n ≤ 1048576
  T : x.tn ≤ 1048576
  F : x.F.n ≤ 1048576
  Y : x.yn ≤ 1048576
  M : x.mn ≤ 1048576
  m : ∀ k, k < x.mn → (x.md k).n ≤ 1048576
  y1 : ∀ k, k < x.yn → (x.ly k).n1.n ≤ 1048576
  y2 : ∀ k, k < x.yn → (x.ly k).n2.n ≤ 1048576
  ym : ∀ k, k < x.yn → LyB (x.ly k)
/-- the box and the lists of its own -/
structure Cq (w wx : World) (y : WtD) : Prop where
  cp : Cp w wx y
  oE : Own wx (w.heap.size + 2) 295 1 (.slice y.E.O y.E.n y.E.c) y.E.n (fun i => .int .i8 (y.E.f i))
  oQ : Own wx (w.heap.size + 2) 295 1 (.slice y.Q.O y.Q.n y.Q.c) y.Q.n (fun i => .int .i8 (y.Q.f i))
  oT : Own wx (w.heap.size + 2) 294 2 (.slice y.tO y.tn y.tc) y.tn (tcs y.tC y.tS)
  oF : Own wx (w.heap.size + 2) 295 1 (.slice y.F.O y.F.n y.F.c) y.F.n (fun i => .int .i8 (y.F.f i))
  oY : Own wx (w.heap.size + 2) 205 30 (.slice y.yO y.yn y.yc) y.yn (lyc y.ly)
  oM : Own wx (w.heap.size + 2) 26 3 (.slice y.mO y.mn y.mc) y.mn (mtc y.md)
theorem Cq.fresh {w wx wy : World} {y : WtD} (h : Cq w wx y) (f : Below wx.heap.size wx wy) : Cq w wy y :=
  ⟨h.cp.fresh f, h.oE.kept f, h.oQ.kept f, h.oT.kept f, h.oF.kept f, h.oY.kept f, h.oM.kept f⟩
/-- a matrix's numbers, a list's, in memory of their own -/
def OwM (w wx : World) (m : MtD) : Prop := Own wx (w.heap.size + 2) 295 1 (.slice m.O m.n m.c) m.n (fun i => .int .i8 (m.f i))
def OwS (w wx : World) (l : LsD) : Prop := Own wx (w.heap.size + 2) 295 1 (.slice l.O l.n l.c) l.n (fun i => .int .i8 (l.f i))
def SmM (m m' : MtD) : Prop := m'.R = m.R ∧ m'.C = m.C ∧ m'.n = m.n ∧ m'.f = m.f
def SmS (l l' : LsD) : Prop := l'.n = l.n ∧ l'.f = l.f
def updM (md : Nat → MtD) (k : Nat) (m : MtD) : Nat → MtD := fun j => if j = k then m else md j
theorem ne_of_T {w : World} {b1 b2 s1 s2 n1 n2 g c : Nat} {e1 e2 : TypeId} {v : Value} {c1 c2 : Nat → Value} (h : Own w b1 e1 s1 v n1 c1) (k : Own w b2 e2 s2 (.slice (some ⟨g, 0, none⟩) n2 c) n2 c2) (hne : e1 ≠ e2) : v.ownBlock ≠ some g := fun e => (h.offT k hne) g e (by simp [Value.ownBlock])
theorem Own.set3 {w : World} {base : Nat} {e : TypeId} {sz : Nat} {v : Value} {n : Nat} {cs : Nat → Value} (h : Own w base e sz v n cs) {g j0 j1 j2 : Nat} {x0 x1 x2 : Value} (hg : v.ownBlock ≠ some g) : Own (((w.setCell ⟨g, j0, none⟩ x0).setCell ⟨g, j1, none⟩ x1).setCell ⟨g, j2, none⟩ x2) base e sz v n cs := ((h.set hg).set hg).set hg
theorem mtc_upd (md : Nat → MtD) (k : Nat) (m : MtD) (j : Nat) : (if j = k * 3 + 2 then Value.slice m.O m.n m.c else if j = k * 3 + 1 then .int .i64 m.C else if j = k * 3 then .int .i64 m.R else mtc md j) = mtc (updM md k m) j := by
  by_cases hjk : j / 3 = k
  · have : j = k * 3 ∨ j = k * 3 + 1 ∨ j = k * 3 + 2 := by omega
    rcases this with rfl | rfl | rfl
    · rw [if_neg (by omega), if_neg (by omega), if_pos rfl]
      unfold mtc updM
      rw [if_pos hjk, show k * 3 % 3 = 0 by omega]; rfl
    · rw [if_neg (by omega), if_pos rfl]
      unfold mtc updM
      rw [if_pos hjk, show (k * 3 + 1) % 3 = 1 by omega]; rfl
    · rw [if_pos rfl]
      unfold mtc updM
      rw [if_pos hjk, show (k * 3 + 2) % 3 = 2 by omega]; rfl
  · rw [if_neg (by omega), if_neg (by omega), if_neg (by omega)]
    unfold mtc updM
    rw [if_neg hjk]
theorem Cq.setM {w wx : World} {y : WtD} (h : Cq w wx y) {g : Nat} (hg : y.mO = some ⟨g, 0, none⟩) (k : Nat) (m : MtD) :
    Cq w (((wx.setCell ⟨g, k * 3, none⟩ (.int .i64 m.R)).setCell ⟨g, k * 3 + 1, none⟩ (.int .i64 m.C)).setCell ⟨g, k * 3 + 2, none⟩ (.slice m.O m.n m.c)) { y with md := updM y.md k m } := by
  have hm := h.oM
  rw [hg] at hm
  have hb : w.heap.size + 2 ≤ g := (hm.lt g (by simp [Value.ownBlock])).1
  have hb2 : w.heap.size ≤ g := by omega
  refine ⟨⟨?_, ?_, ?_⟩, h.oE.set3 (ne_of_T h.oE hm (by decide)), h.oQ.set3 (ne_of_T h.oQ hm (by decide)), h.oT.set3 (ne_of_T h.oT hm (by decide)), h.oF.set3 (ne_of_T h.oF hm (by decide)), h.oY.set3 (ne_of_T h.oY hm (by decide)), ?_⟩
  · exact ((h.cp.box.setOther (by show w.heap.size ≠ g; omega) _).setOther (by show w.heap.size ≠ g; omega) _).setOther (by show w.heap.size ≠ g; omega) _
  · exact ((h.cp.res.setOther (by show w.heap.size + 1 ≠ g; omega) _).setOther (by show w.heap.size + 1 ≠ g; omega) _).setOther (by show w.heap.size + 1 ≠ g; omega) _
  · exact ((h.cp.low.setCell hb2 _).setCell hb2 _).setCell hb2 _
  · show Own _ _ _ _ (.slice y.mO y.mn y.mc) _ _
    rw [hg]
    exact (((hm.put (k * 3) (.int .i64 m.R)).put (k * 3 + 1) (.int .i64 m.C)).put (k * 3 + 2) (.slice m.O m.n m.c)).congr (fun j _ => mtc_upd y.md k m j)
theorem OwM.set3 {w wx : World} {m9 : MtD} (ho : OwM w wx m9) {y : WtD} (h : Cq w wx y) {g : Nat} (hg : y.mO = some ⟨g, 0, none⟩) {j0 j1 j2 : Nat} {x0 x1 x2 : Value} : OwM w (((wx.setCell ⟨g, j0, none⟩ x0).setCell ⟨g, j1, none⟩ x1).setCell ⟨g, j2, none⟩ x2) m9 := by
  have hm := h.oM
  rw [hg] at hm
  exact Own.set3 ho (ne_of_T ho hm (by decide))
/-- loop 1: the first k of Medusa's are copied -/
structure Lm (w wx : World) (x y : WtD) (k : Nat) (md : Nat → MtD) : Prop where
  q : Cq w wx { y with md := md }
  dn : ∀ j, j < k → OwM w wx (md j) ∧ SmM (x.md j) (md j)
  td : ∀ j, k ≤ j → md j = x.md j
theorem Lm.fresh {w wx wy : World} {x y : WtD} {k : Nat} {md : Nat → MtD} (h : Lm w wx x y k md) (f : Below wx.heap.size wx wy) : Lm w wy x y k md := ⟨h.q.fresh f, fun j hj => ⟨Own.kept (h.dn j hj).1 f, (h.dn j hj).2⟩, h.td⟩
theorem Lm.step {w wx : World} {x y : WtD} {k : Nat} {md : Nat → MtD} (h : Lm w wx x y k md) {g : Nat} (hg : y.mO = some ⟨g, 0, none⟩) {u : Option Addr} {c : Nat} (ho : Own wx (w.heap.size + 2) 295 1 (.slice u (x.md k).n c) (x.md k).n (fun i => .int .i8 ((x.md k).f i))) :
    Lm w (((wx.setCell ⟨g, k * 3, none⟩ (.int .i64 (x.md k).R)).setCell ⟨g, k * 3 + 1, none⟩ (.int .i64 (x.md k).C)).setCell ⟨g, k * 3 + 2, none⟩ (.slice u (x.md k).n c)) x y (k + 1) (updM md k { x.md k with O := u, c := c }) := by
  refine ⟨Cq.setM (y := { y with md := md }) h.q hg k { x.md k with O := u, c := c }, fun j hj => ?_, fun j hj => ?_⟩
  · by_cases e : j = k
    · subst e
      have : updM md j { x.md j with O := u, c := c } j = { x.md j with O := u, c := c } := if_pos rfl
      rw [this]
      exact ⟨OwM.set3 (m9 := { x.md j with O := u, c := c }) ho h.q hg, rfl, rfl, rfl, rfl⟩
    · have : updM md k { x.md k with O := u, c := c } j = md j := if_neg e
      rw [this]
      exact ⟨(h.dn j (by omega)).1.set3 h.q hg, (h.dn j (by omega)).2⟩
  · have : updM md k { x.md k with O := u, c := c } j = md j := if_neg (by omega)
    rw [this]
    exact h.td j (by omega)
end Go.Proofs.YtmhjpfjhppcfoaaGreatDoor
