import Derived.Test.YtilghknalbhacaaCpG
namespace Go.Proofs.Ytilghknalbhacaa
open Go.RowKit
/-! CopyLayer. -/
theorem Own.apart {w : World} {base b m sz : Nat} {e u : TypeId} {v : Value} {n : Nat} {cs G : Nat → Value} (h : Own w base e sz v n cs) (k : w.rowIs b u m G) (hne : e ≠ u) : v.ownBlock ≠ some b := fun hb => by
  rcases h.2 with ⟨rfl, rfl⟩ | ⟨g, cap, cur, rfl, _, hg, _⟩
  · simp [Value.ownBlock] at hb
  · obtain rfl : g = b := by simpa [Value.ownBlock] using hb
    obtain ⟨d, hd, _, _⟩ := k
    rw [hg] at hd
    cases hd
    exact hne rfl
def lyr (l : LyD) : Nat → Value := fun i => (lyL l).getD i undef
def lyZ : List Value := [.slice none 0 0, .slice none 0 0, .int .i64 0, .int .i64 0, .slice none 0 0, .int .i64 0, .int .i64 0, .slice none 0 0, .int .i64 0, .int .i64 0, .slice none 0 0, .int .i64 0, .int .i64 0, .slice none 0 0, .int .i64 0, .int .i64 0, .slice none 0 0, .int .i64 0, .int .i64 0, .slice none 0 0, .int .i64 0, .int .i64 0, .slice none 0 0, .int .i64 0, .int .i64 0, .int .i64 0, .int .i64 0, .int .i64 0, .int .i64 0, .int .i64 0]
def lyA (l : LyD) : Array Value := (lyL l).toArray
theorem lyA_one (l : LyD) : (lyA l).all (·.oneCell') = true := by kernel_rfl
theorem sizeL : (Try.prog.info? 67).map (·.size) = some 30 := by kernel_rfl
theorem lyL_n1 (l : LyD) (a : LsD) (t : Nat) (ht : t < 30) : (if t = 0 then Value.slice a.O a.n a.c else (lyL l).getD t undef) = (lyL { l with n1 := a }).getD t undef := by
  match t, ht with
  | 0, _ => rfl
  | 1, _ => rfl
  | 2, _ => rfl
  | 3, _ => rfl
  | 4, _ => rfl
  | 5, _ => rfl
  | 6, _ => rfl
  | 7, _ => rfl
  | 8, _ => rfl
  | 9, _ => rfl
  | 10, _ => rfl
  | 11, _ => rfl
  | 12, _ => rfl
  | 13, _ => rfl
  | 14, _ => rfl
  | 15, _ => rfl
  | 16, _ => rfl
  | 17, _ => rfl
  | 18, _ => rfl
  | 19, _ => rfl
  | 20, _ => rfl
  | 21, _ => rfl
  | 22, _ => rfl
  | 23, _ => rfl
  | 24, _ => rfl
  | 25, _ => rfl
  | 26, _ => rfl
  | 27, _ => rfl
  | 28, _ => rfl
  | 29, _ => rfl
  | j + 30, h => exact absurd h (by omega)
theorem lyL_n2 (l : LyD) (a : LsD) (t : Nat) (ht : t < 30) : (if t = 1 then Value.slice a.O a.n a.c else (lyL l).getD t undef) = (lyL { l with n2 := a }).getD t undef := by
  match t, ht with
  | 0, _ => rfl
  | 1, _ => rfl
  | 2, _ => rfl
  | 3, _ => rfl
  | 4, _ => rfl
  | 5, _ => rfl
  | 6, _ => rfl
  | 7, _ => rfl
  | 8, _ => rfl
  | 9, _ => rfl
  | 10, _ => rfl
  | 11, _ => rfl
  | 12, _ => rfl
  | 13, _ => rfl
  | 14, _ => rfl
  | 15, _ => rfl
  | 16, _ => rfl
  | 17, _ => rfl
  | 18, _ => rfl
  | 19, _ => rfl
  | 20, _ => rfl
  | 21, _ => rfl
  | 22, _ => rfl
  | 23, _ => rfl
  | 24, _ => rfl
  | 25, _ => rfl
  | 26, _ => rfl
  | 27, _ => rfl
  | 28, _ => rfl
  | 29, _ => rfl
  | j + 30, h => exact absurd h (by omega)
/-- what CopyLayer's walk keeps -/
structure Cl (w wx : World) (l l' : LyD) : Prop where
  box : wx.rowIs w.heap.size 67 30 (lyr l)
  res : wx.rowIs (w.heap.size + 1) 67 30 (fun i => lyZ.getD i undef)
  loc : wx.rowIs (w.heap.size + 2) 67 30 (lyr l')
  low : Below w.heap.size w wx
theorem Cl.fresh {w wx wy : World} {l l' : LyD} (h : Cl w wx l l') (f : Below wx.heap.size wx wy) : Cl w wy l l' :=
  ⟨row_fresh h.box f, row_fresh h.res f, row_fresh h.loc f, fresh_trans h.low f⟩
theorem Cl.big {w wx : World} {l l' : LyD} (h : Cl w wx l l') : w.heap.size + 2 ≤ wx.heap.size := by have := h.loc.lt; omega
theorem Own.loc {w wx : World} {l l' : LyD} (h : Cl w wx l l') {base : Nat} {v : Value} {n : Nat} {cs : Nat → Value} (ho : Own wx base 84 1 v n cs) : v.ownBlock ≠ some (w.heap.size + 2) := ho.apart h.loc (by decide)
theorem Cl.n1 {w wx : World} {l l' : LyD} (h : Cl w wx l l') (a : LsD) : Cl w (wx.setCell ⟨w.heap.size + 2, 0, none⟩ (.slice a.O a.n a.c)) l { l' with n1 := a } :=
  ⟨(h.box.setOther (by show w.heap.size ≠ w.heap.size + 2; omega) _), (h.res.setOther (by show w.heap.size + 1 ≠ w.heap.size + 2; omega) _), World.rowIs.congr (h.loc.set 0 (.slice a.O a.n a.c)) (fun i hi => lyL_n1 l' a i hi), (h.low.setCell (by show w.heap.size ≤ w.heap.size + 2; omega) _)⟩
theorem Cl.n2 {w wx : World} {l l' : LyD} (h : Cl w wx l l') (a : LsD) : Cl w (wx.setCell ⟨w.heap.size + 2, 1, none⟩ (.slice a.O a.n a.c)) l { l' with n2 := a } :=
  ⟨(h.box.setOther (by show w.heap.size ≠ w.heap.size + 2; omega) _), (h.res.setOther (by show w.heap.size + 1 ≠ w.heap.size + 2; omega) _), World.rowIs.congr (h.loc.set 1 (.slice a.O a.n a.c)) (fun i hi => lyL_n2 l' a i hi), (h.low.setCell (by show w.heap.size ≤ w.heap.size + 2; omega) _)⟩
theorem Cl.m0 {w wx : World} {l l' : LyD} (h : Cl w wx l l') (m : MtD) : Cl w (((wx.setCell ⟨w.heap.size + 2, 2, none⟩ (.int .i64 m.R)).setCell ⟨w.heap.size + 2, 3, none⟩ (.int .i64 m.C)).setCell ⟨w.heap.size + 2, 4, none⟩ (.slice m.O m.n m.c)) l (setMI l' 0 m) :=
  ⟨(((h.box.setOther (by show w.heap.size ≠ w.heap.size + 2; omega) _).setOther (by show w.heap.size ≠ w.heap.size + 2; omega) _).setOther (by show w.heap.size ≠ w.heap.size + 2; omega) _), (((h.res.setOther (by show w.heap.size + 1 ≠ w.heap.size + 2; omega) _).setOther (by show w.heap.size + 1 ≠ w.heap.size + 2; omega) _).setOther (by show w.heap.size + 1 ≠ w.heap.size + 2; omega) _), World.rowIs.congr (((h.loc.set 2 (.int .i64 m.R)).set 3 (.int .i64 m.C)).set 4 (.slice m.O m.n m.c)) (fun i hi => (lyL_set l' 0 i m (by decide) hi).symm), (((h.low.setCell (by show w.heap.size ≤ w.heap.size + 2; omega) _).setCell (by show w.heap.size ≤ w.heap.size + 2; omega) _).setCell (by show w.heap.size ≤ w.heap.size + 2; omega) _)⟩
theorem Cl.m1 {w wx : World} {l l' : LyD} (h : Cl w wx l l') (m : MtD) : Cl w (((wx.setCell ⟨w.heap.size + 2, 5, none⟩ (.int .i64 m.R)).setCell ⟨w.heap.size + 2, 6, none⟩ (.int .i64 m.C)).setCell ⟨w.heap.size + 2, 7, none⟩ (.slice m.O m.n m.c)) l (setMI l' 1 m) :=
  ⟨(((h.box.setOther (by show w.heap.size ≠ w.heap.size + 2; omega) _).setOther (by show w.heap.size ≠ w.heap.size + 2; omega) _).setOther (by show w.heap.size ≠ w.heap.size + 2; omega) _), (((h.res.setOther (by show w.heap.size + 1 ≠ w.heap.size + 2; omega) _).setOther (by show w.heap.size + 1 ≠ w.heap.size + 2; omega) _).setOther (by show w.heap.size + 1 ≠ w.heap.size + 2; omega) _), World.rowIs.congr (((h.loc.set 5 (.int .i64 m.R)).set 6 (.int .i64 m.C)).set 7 (.slice m.O m.n m.c)) (fun i hi => (lyL_set l' 1 i m (by decide) hi).symm), (((h.low.setCell (by show w.heap.size ≤ w.heap.size + 2; omega) _).setCell (by show w.heap.size ≤ w.heap.size + 2; omega) _).setCell (by show w.heap.size ≤ w.heap.size + 2; omega) _)⟩
theorem Cl.m2 {w wx : World} {l l' : LyD} (h : Cl w wx l l') (m : MtD) : Cl w (((wx.setCell ⟨w.heap.size + 2, 8, none⟩ (.int .i64 m.R)).setCell ⟨w.heap.size + 2, 9, none⟩ (.int .i64 m.C)).setCell ⟨w.heap.size + 2, 10, none⟩ (.slice m.O m.n m.c)) l (setMI l' 2 m) :=
  ⟨(((h.box.setOther (by show w.heap.size ≠ w.heap.size + 2; omega) _).setOther (by show w.heap.size ≠ w.heap.size + 2; omega) _).setOther (by show w.heap.size ≠ w.heap.size + 2; omega) _), (((h.res.setOther (by show w.heap.size + 1 ≠ w.heap.size + 2; omega) _).setOther (by show w.heap.size + 1 ≠ w.heap.size + 2; omega) _).setOther (by show w.heap.size + 1 ≠ w.heap.size + 2; omega) _), World.rowIs.congr (((h.loc.set 8 (.int .i64 m.R)).set 9 (.int .i64 m.C)).set 10 (.slice m.O m.n m.c)) (fun i hi => (lyL_set l' 2 i m (by decide) hi).symm), (((h.low.setCell (by show w.heap.size ≤ w.heap.size + 2; omega) _).setCell (by show w.heap.size ≤ w.heap.size + 2; omega) _).setCell (by show w.heap.size ≤ w.heap.size + 2; omega) _)⟩
theorem Cl.m3 {w wx : World} {l l' : LyD} (h : Cl w wx l l') (m : MtD) : Cl w (((wx.setCell ⟨w.heap.size + 2, 11, none⟩ (.int .i64 m.R)).setCell ⟨w.heap.size + 2, 12, none⟩ (.int .i64 m.C)).setCell ⟨w.heap.size + 2, 13, none⟩ (.slice m.O m.n m.c)) l (setMI l' 3 m) :=
  ⟨(((h.box.setOther (by show w.heap.size ≠ w.heap.size + 2; omega) _).setOther (by show w.heap.size ≠ w.heap.size + 2; omega) _).setOther (by show w.heap.size ≠ w.heap.size + 2; omega) _), (((h.res.setOther (by show w.heap.size + 1 ≠ w.heap.size + 2; omega) _).setOther (by show w.heap.size + 1 ≠ w.heap.size + 2; omega) _).setOther (by show w.heap.size + 1 ≠ w.heap.size + 2; omega) _), World.rowIs.congr (((h.loc.set 11 (.int .i64 m.R)).set 12 (.int .i64 m.C)).set 13 (.slice m.O m.n m.c)) (fun i hi => (lyL_set l' 3 i m (by decide) hi).symm), (((h.low.setCell (by show w.heap.size ≤ w.heap.size + 2; omega) _).setCell (by show w.heap.size ≤ w.heap.size + 2; omega) _).setCell (by show w.heap.size ≤ w.heap.size + 2; omega) _)⟩
theorem Cl.m4 {w wx : World} {l l' : LyD} (h : Cl w wx l l') (m : MtD) : Cl w (((wx.setCell ⟨w.heap.size + 2, 14, none⟩ (.int .i64 m.R)).setCell ⟨w.heap.size + 2, 15, none⟩ (.int .i64 m.C)).setCell ⟨w.heap.size + 2, 16, none⟩ (.slice m.O m.n m.c)) l (setMI l' 4 m) :=
  ⟨(((h.box.setOther (by show w.heap.size ≠ w.heap.size + 2; omega) _).setOther (by show w.heap.size ≠ w.heap.size + 2; omega) _).setOther (by show w.heap.size ≠ w.heap.size + 2; omega) _), (((h.res.setOther (by show w.heap.size + 1 ≠ w.heap.size + 2; omega) _).setOther (by show w.heap.size + 1 ≠ w.heap.size + 2; omega) _).setOther (by show w.heap.size + 1 ≠ w.heap.size + 2; omega) _), World.rowIs.congr (((h.loc.set 14 (.int .i64 m.R)).set 15 (.int .i64 m.C)).set 16 (.slice m.O m.n m.c)) (fun i hi => (lyL_set l' 4 i m (by decide) hi).symm), (((h.low.setCell (by show w.heap.size ≤ w.heap.size + 2; omega) _).setCell (by show w.heap.size ≤ w.heap.size + 2; omega) _).setCell (by show w.heap.size ≤ w.heap.size + 2; omega) _)⟩
theorem Cl.m5 {w wx : World} {l l' : LyD} (h : Cl w wx l l') (m : MtD) : Cl w (((wx.setCell ⟨w.heap.size + 2, 17, none⟩ (.int .i64 m.R)).setCell ⟨w.heap.size + 2, 18, none⟩ (.int .i64 m.C)).setCell ⟨w.heap.size + 2, 19, none⟩ (.slice m.O m.n m.c)) l (setMI l' 5 m) :=
  ⟨(((h.box.setOther (by show w.heap.size ≠ w.heap.size + 2; omega) _).setOther (by show w.heap.size ≠ w.heap.size + 2; omega) _).setOther (by show w.heap.size ≠ w.heap.size + 2; omega) _), (((h.res.setOther (by show w.heap.size + 1 ≠ w.heap.size + 2; omega) _).setOther (by show w.heap.size + 1 ≠ w.heap.size + 2; omega) _).setOther (by show w.heap.size + 1 ≠ w.heap.size + 2; omega) _), World.rowIs.congr (((h.loc.set 17 (.int .i64 m.R)).set 18 (.int .i64 m.C)).set 19 (.slice m.O m.n m.c)) (fun i hi => (lyL_set l' 5 i m (by decide) hi).symm), (((h.low.setCell (by show w.heap.size ≤ w.heap.size + 2; omega) _).setCell (by show w.heap.size ≤ w.heap.size + 2; omega) _).setCell (by show w.heap.size ≤ w.heap.size + 2; omega) _)⟩
theorem Cl.m6 {w wx : World} {l l' : LyD} (h : Cl w wx l l') (m : MtD) : Cl w (((wx.setCell ⟨w.heap.size + 2, 20, none⟩ (.int .i64 m.R)).setCell ⟨w.heap.size + 2, 21, none⟩ (.int .i64 m.C)).setCell ⟨w.heap.size + 2, 22, none⟩ (.slice m.O m.n m.c)) l (setMI l' 6 m) :=
  ⟨(((h.box.setOther (by show w.heap.size ≠ w.heap.size + 2; omega) _).setOther (by show w.heap.size ≠ w.heap.size + 2; omega) _).setOther (by show w.heap.size ≠ w.heap.size + 2; omega) _), (((h.res.setOther (by show w.heap.size + 1 ≠ w.heap.size + 2; omega) _).setOther (by show w.heap.size + 1 ≠ w.heap.size + 2; omega) _).setOther (by show w.heap.size + 1 ≠ w.heap.size + 2; omega) _), World.rowIs.congr (((h.loc.set 20 (.int .i64 m.R)).set 21 (.int .i64 m.C)).set 22 (.slice m.O m.n m.c)) (fun i hi => (lyL_set l' 6 i m (by decide) hi).symm), (((h.low.setCell (by show w.heap.size ≤ w.heap.size + 2; omega) _).setCell (by show w.heap.size ≤ w.heap.size + 2; omega) _).setCell (by show w.heap.size ≤ w.heap.size + 2; omega) _)⟩
theorem Cl.start (w : World) (l : LyD) : Cl w (((w.alloc (.cells #[.slice l.n1.O l.n1.n l.n1.c, .slice l.n2.O l.n2.n l.n2.c, .int .i64 l.q.R, .int .i64 l.q.C, .slice l.q.O l.q.n l.q.c, .int .i64 l.k.R, .int .i64 l.k.C, .slice l.k.O l.k.n l.k.c, .int .i64 l.v.R, .int .i64 l.v.C, .slice l.v.O l.v.n l.v.c, .int .i64 l.o.R, .int .i64 l.o.C, .slice l.o.O l.o.n l.o.c, .int .i64 l.g.R, .int .i64 l.g.C, .slice l.g.O l.g.n l.g.c, .int .i64 l.u.R, .int .i64 l.u.C, .slice l.u.O l.u.n l.u.c, .int .i64 l.d.R, .int .i64 l.d.C, .slice l.d.O l.d.n l.d.c, .int .i64 (l.sh 0), .int .i64 (l.sh 1), .int .i64 (l.sh 2), .int .i64 (l.sh 3), .int .i64 (l.sh 4), .int .i64 (l.sh 5), .int .i64 (l.sh 6)] 67)).alloc (.cells #[.slice none 0 0, .slice none 0 0, .int .i64 0, .int .i64 0, .slice none 0 0, .int .i64 0, .int .i64 0, .slice none 0 0, .int .i64 0, .int .i64 0, .slice none 0 0, .int .i64 0, .int .i64 0, .slice none 0 0, .int .i64 0, .int .i64 0, .slice none 0 0, .int .i64 0, .int .i64 0, .slice none 0 0, .int .i64 0, .int .i64 0, .slice none 0 0, .int .i64 0, .int .i64 0, .int .i64 0, .int .i64 0, .int .i64 0, .int .i64 0, .int .i64 0] 67)).alloc (.cells (lyA l) 67)) l l := by
  have h1 : (w.alloc (.cells #[.slice l.n1.O l.n1.n l.n1.c, .slice l.n2.O l.n2.n l.n2.c, .int .i64 l.q.R, .int .i64 l.q.C, .slice l.q.O l.q.n l.q.c, .int .i64 l.k.R, .int .i64 l.k.C, .slice l.k.O l.k.n l.k.c, .int .i64 l.v.R, .int .i64 l.v.C, .slice l.v.O l.v.n l.v.c, .int .i64 l.o.R, .int .i64 l.o.C, .slice l.o.O l.o.n l.o.c, .int .i64 l.g.R, .int .i64 l.g.C, .slice l.g.O l.g.n l.g.c, .int .i64 l.u.R, .int .i64 l.u.C, .slice l.u.O l.u.n l.u.c, .int .i64 l.d.R, .int .i64 l.d.C, .slice l.d.O l.d.n l.d.c, .int .i64 (l.sh 0), .int .i64 (l.sh 1), .int .i64 (l.sh 2), .int .i64 (l.sh 3), .int .i64 (l.sh 4), .int .i64 (l.sh 5), .int .i64 (l.sh 6)] 67)).heap.size = w.heap.size + 1 := by simp
  have h2 : ((w.alloc (.cells #[.slice l.n1.O l.n1.n l.n1.c, .slice l.n2.O l.n2.n l.n2.c, .int .i64 l.q.R, .int .i64 l.q.C, .slice l.q.O l.q.n l.q.c, .int .i64 l.k.R, .int .i64 l.k.C, .slice l.k.O l.k.n l.k.c, .int .i64 l.v.R, .int .i64 l.v.C, .slice l.v.O l.v.n l.v.c, .int .i64 l.o.R, .int .i64 l.o.C, .slice l.o.O l.o.n l.o.c, .int .i64 l.g.R, .int .i64 l.g.C, .slice l.g.O l.g.n l.g.c, .int .i64 l.u.R, .int .i64 l.u.C, .slice l.u.O l.u.n l.u.c, .int .i64 l.d.R, .int .i64 l.d.C, .slice l.d.O l.d.n l.d.c, .int .i64 (l.sh 0), .int .i64 (l.sh 1), .int .i64 (l.sh 2), .int .i64 (l.sh 3), .int .i64 (l.sh 4), .int .i64 (l.sh 5), .int .i64 (l.sh 6)] 67)).alloc (.cells #[.slice none 0 0, .slice none 0 0, .int .i64 0, .int .i64 0, .slice none 0 0, .int .i64 0, .int .i64 0, .slice none 0 0, .int .i64 0, .int .i64 0, .slice none 0 0, .int .i64 0, .int .i64 0, .slice none 0 0, .int .i64 0, .int .i64 0, .slice none 0 0, .int .i64 0, .int .i64 0, .slice none 0 0, .int .i64 0, .int .i64 0, .slice none 0 0, .int .i64 0, .int .i64 0, .int .i64 0, .int .i64 0, .int .i64 0, .int .i64 0, .int .i64 0] 67)).heap.size = w.heap.size + 2 := by simp
  have r1 := World.rowIs_list w (lyL l) 67
  have r2 := World.rowIs_list (w.alloc (.cells #[.slice l.n1.O l.n1.n l.n1.c, .slice l.n2.O l.n2.n l.n2.c, .int .i64 l.q.R, .int .i64 l.q.C, .slice l.q.O l.q.n l.q.c, .int .i64 l.k.R, .int .i64 l.k.C, .slice l.k.O l.k.n l.k.c, .int .i64 l.v.R, .int .i64 l.v.C, .slice l.v.O l.v.n l.v.c, .int .i64 l.o.R, .int .i64 l.o.C, .slice l.o.O l.o.n l.o.c, .int .i64 l.g.R, .int .i64 l.g.C, .slice l.g.O l.g.n l.g.c, .int .i64 l.u.R, .int .i64 l.u.C, .slice l.u.O l.u.n l.u.c, .int .i64 l.d.R, .int .i64 l.d.C, .slice l.d.O l.d.n l.d.c, .int .i64 (l.sh 0), .int .i64 (l.sh 1), .int .i64 (l.sh 2), .int .i64 (l.sh 3), .int .i64 (l.sh 4), .int .i64 (l.sh 5), .int .i64 (l.sh 6)] 67)) lyZ 67
  have r3 := World.rowIs_list ((w.alloc (.cells #[.slice l.n1.O l.n1.n l.n1.c, .slice l.n2.O l.n2.n l.n2.c, .int .i64 l.q.R, .int .i64 l.q.C, .slice l.q.O l.q.n l.q.c, .int .i64 l.k.R, .int .i64 l.k.C, .slice l.k.O l.k.n l.k.c, .int .i64 l.v.R, .int .i64 l.v.C, .slice l.v.O l.v.n l.v.c, .int .i64 l.o.R, .int .i64 l.o.C, .slice l.o.O l.o.n l.o.c, .int .i64 l.g.R, .int .i64 l.g.C, .slice l.g.O l.g.n l.g.c, .int .i64 l.u.R, .int .i64 l.u.C, .slice l.u.O l.u.n l.u.c, .int .i64 l.d.R, .int .i64 l.d.C, .slice l.d.O l.d.n l.d.c, .int .i64 (l.sh 0), .int .i64 (l.sh 1), .int .i64 (l.sh 2), .int .i64 (l.sh 3), .int .i64 (l.sh 4), .int .i64 (l.sh 5), .int .i64 (l.sh 6)] 67)).alloc (.cells #[.slice none 0 0, .slice none 0 0, .int .i64 0, .int .i64 0, .slice none 0 0, .int .i64 0, .int .i64 0, .slice none 0 0, .int .i64 0, .int .i64 0, .slice none 0 0, .int .i64 0, .int .i64 0, .slice none 0 0, .int .i64 0, .int .i64 0, .slice none 0 0, .int .i64 0, .int .i64 0, .slice none 0 0, .int .i64 0, .int .i64 0, .slice none 0 0, .int .i64 0, .int .i64 0, .int .i64 0, .int .i64 0, .int .i64 0, .int .i64 0, .int .i64 0] 67)) (lyL l) 67
  rw [h1] at r2
  rw [h2] at r3
  exact ⟨(r1.alloc _).alloc _, r2.alloc _, r3, fresh_trans (fresh_trans (fresh_alloc _ _) (fresh_alloc _ _)) (fresh_alloc _ _)⟩
theorem row_range {w : World} {b n : Nat} {t : TypeId} {L : List Value} (h : w.rowIs b t n (fun i => L.getD i undef)) (hl : L.length = n) : w.rangeAt b 0 L := fun j v hj => by
  have hj2 : j < n := by
    rcases Nat.lt_or_ge j n with h | h
    · exact h
    · rw [List.getElem?_eq_none (by omega)] at hj; cases hj
  rw [Nat.zero_add, h.cell (i := j) hj2]
  rw [List.getD_eq_getElem?_getD, hj]
  rfl
theorem Cl.range (w : World) (l : LyD) : ((w.alloc (.cells #[.slice l.n1.O l.n1.n l.n1.c, .slice l.n2.O l.n2.n l.n2.c, .int .i64 l.q.R, .int .i64 l.q.C, .slice l.q.O l.q.n l.q.c, .int .i64 l.k.R, .int .i64 l.k.C, .slice l.k.O l.k.n l.k.c, .int .i64 l.v.R, .int .i64 l.v.C, .slice l.v.O l.v.n l.v.c, .int .i64 l.o.R, .int .i64 l.o.C, .slice l.o.O l.o.n l.o.c, .int .i64 l.g.R, .int .i64 l.g.C, .slice l.g.O l.g.n l.g.c, .int .i64 l.u.R, .int .i64 l.u.C, .slice l.u.O l.u.n l.u.c, .int .i64 l.d.R, .int .i64 l.d.C, .slice l.d.O l.d.n l.d.c, .int .i64 (l.sh 0), .int .i64 (l.sh 1), .int .i64 (l.sh 2), .int .i64 (l.sh 3), .int .i64 (l.sh 4), .int .i64 (l.sh 5), .int .i64 (l.sh 6)] 67)).alloc (.cells #[.slice none 0 0, .slice none 0 0, .int .i64 0, .int .i64 0, .slice none 0 0, .int .i64 0, .int .i64 0, .slice none 0 0, .int .i64 0, .int .i64 0, .slice none 0 0, .int .i64 0, .int .i64 0, .slice none 0 0, .int .i64 0, .int .i64 0, .slice none 0 0, .int .i64 0, .int .i64 0, .slice none 0 0, .int .i64 0, .int .i64 0, .slice none 0 0, .int .i64 0, .int .i64 0, .int .i64 0, .int .i64 0, .int .i64 0, .int .i64 0, .int .i64 0] 67)).rangeAt w.heap.size 0 (lyL l) := row_range ((World.rowIs_list w (lyL l) 67).alloc _) rfl
theorem Cl.size (w : World) (l : LyD) : ((w.alloc (.cells #[.slice l.n1.O l.n1.n l.n1.c, .slice l.n2.O l.n2.n l.n2.c, .int .i64 l.q.R, .int .i64 l.q.C, .slice l.q.O l.q.n l.q.c, .int .i64 l.k.R, .int .i64 l.k.C, .slice l.k.O l.k.n l.k.c, .int .i64 l.v.R, .int .i64 l.v.C, .slice l.v.O l.v.n l.v.c, .int .i64 l.o.R, .int .i64 l.o.C, .slice l.o.O l.o.n l.o.c, .int .i64 l.g.R, .int .i64 l.g.C, .slice l.g.O l.g.n l.g.c, .int .i64 l.u.R, .int .i64 l.u.C, .slice l.u.O l.u.n l.u.c, .int .i64 l.d.R, .int .i64 l.d.C, .slice l.d.O l.d.n l.d.c, .int .i64 (l.sh 0), .int .i64 (l.sh 1), .int .i64 (l.sh 2), .int .i64 (l.sh 3), .int .i64 (l.sh 4), .int .i64 (l.sh 5), .int .i64 (l.sh 6)] 67)).alloc (.cells #[.slice none 0 0, .slice none 0 0, .int .i64 0, .int .i64 0, .slice none 0 0, .int .i64 0, .int .i64 0, .slice none 0 0, .int .i64 0, .int .i64 0, .slice none 0 0, .int .i64 0, .int .i64 0, .slice none 0 0, .int .i64 0, .int .i64 0, .slice none 0 0, .int .i64 0, .int .i64 0, .slice none 0 0, .int .i64 0, .int .i64 0, .slice none 0 0, .int .i64 0, .int .i64 0, .int .i64 0, .int .i64 0, .int .i64 0, .int .i64 0, .int .i64 0] 67)).heap.size = w.heap.size + 2 := by simp
set_option maxRecDepth 100000 in
set_option maxHeartbeats 80000000 in
theorem copyL_any {w : World} {l : LyD} (h : LyR w l) (hB : LyB l) (b1 : l.n1.n ≤ 1048576) (b2 : l.n2.n ≤ 1048576) :
    Calls Try.prog 47 #[.agg #[.slice l.n1.O l.n1.n l.n1.c, .slice l.n2.O l.n2.n l.n2.c, .int .i64 l.q.R, .int .i64 l.q.C, .slice l.q.O l.q.n l.q.c, .int .i64 l.k.R, .int .i64 l.k.C, .slice l.k.O l.k.n l.k.c, .int .i64 l.v.R, .int .i64 l.v.C, .slice l.v.O l.v.n l.v.c, .int .i64 l.o.R, .int .i64 l.o.C, .slice l.o.O l.o.n l.o.c, .int .i64 l.g.R, .int .i64 l.g.C, .slice l.g.O l.g.n l.g.c, .int .i64 l.u.R, .int .i64 l.u.C, .slice l.u.O l.u.n l.u.c, .int .i64 l.d.R, .int .i64 l.d.C, .slice l.d.O l.d.n l.d.c, .int .i64 (l.sh 0), .int .i64 (l.sh 1), .int .i64 (l.sh 2), .int .i64 (l.sh 3), .int .i64 (l.sh 4), .int .i64 (l.sh 5), .int .i64 (l.sh 6)]] w fun e w' => ∃ l', e = .returned (.agg (lyA l')) ∧ LyO w w' l' ∧ SmL l l' ∧ Below w.heap.size w w' := by
  have HK0' := Cl.start w l
  have RG' := Cl.range w l
  have hsz := Cl.size w l
  have Hn1 : Hid (∀ (z : World) (l' : LyD), Cl w z l l' → Calls Try.prog 48 #[.slice l.n1.O l.n1.n l.n1.c] z fun e w' => ∃ u c, e = .returned (.slice u l.n1.n c) ∧ Own w' (w.heap.size + 2) 84 1 (.slice u l.n1.n c) l.n1.n (fun i => .int .i8 (l.n1.f i)) ∧ Cl w w' l l' ∧ Below z.heap.size z w') := fun z l' hz => (copyN_any (h.n1.rd.fresh hz.low) b1).mono fun e w' ⟨u, c, h1, h2, h3⟩ => ⟨u, c, h1, h2.weaken hz.big, hz.fresh h3, h3⟩
  have Hn2 : Hid (∀ (z : World) (l' : LyD), Cl w z l l' → Calls Try.prog 48 #[.slice l.n2.O l.n2.n l.n2.c] z fun e w' => ∃ u c, e = .returned (.slice u l.n2.n c) ∧ Own w' (w.heap.size + 2) 84 1 (.slice u l.n2.n c) l.n2.n (fun i => .int .i8 (l.n2.f i)) ∧ Cl w w' l l' ∧ Below z.heap.size z w') := fun z l' hz => (copyN_any (h.n2.rd.fresh hz.low) b2).mono fun e w' ⟨u, c, h1, h2, h3⟩ => ⟨u, c, h1, h2.weaken hz.big, hz.fresh h3, h3⟩
  have Hm0 : Hid (∀ (z : World) (l' : LyD), Cl w z l l' → Calls Try.prog 45 #[.agg #[.int .i64 l.q.R, .int .i64 l.q.C, .slice l.q.O l.q.n l.q.c]] z fun e w' => ∃ u c, e = .returned (.agg #[.int .i64 l.q.R, .int .i64 l.q.C, .slice u l.q.n c]) ∧ Own w' (w.heap.size + 2) 84 1 (.slice u l.q.n c) l.q.n (fun i => .int .i8 (l.q.f i)) ∧ Cl w w' l l' ∧ Below z.heap.size z w') := fun z l' hz => (copyM_any (h.q.fresh hz.low) hB.q).mono fun e w' ⟨u, c, h1, h2, h3⟩ => ⟨u, c, h1, h2.weaken hz.big, hz.fresh h3, h3⟩
  have Hm1 : Hid (∀ (z : World) (l' : LyD), Cl w z l l' → Calls Try.prog 45 #[.agg #[.int .i64 l.k.R, .int .i64 l.k.C, .slice l.k.O l.k.n l.k.c]] z fun e w' => ∃ u c, e = .returned (.agg #[.int .i64 l.k.R, .int .i64 l.k.C, .slice u l.k.n c]) ∧ Own w' (w.heap.size + 2) 84 1 (.slice u l.k.n c) l.k.n (fun i => .int .i8 (l.k.f i)) ∧ Cl w w' l l' ∧ Below z.heap.size z w') := fun z l' hz => (copyM_any (h.k.fresh hz.low) hB.k).mono fun e w' ⟨u, c, h1, h2, h3⟩ => ⟨u, c, h1, h2.weaken hz.big, hz.fresh h3, h3⟩
  have Hm2 : Hid (∀ (z : World) (l' : LyD), Cl w z l l' → Calls Try.prog 45 #[.agg #[.int .i64 l.v.R, .int .i64 l.v.C, .slice l.v.O l.v.n l.v.c]] z fun e w' => ∃ u c, e = .returned (.agg #[.int .i64 l.v.R, .int .i64 l.v.C, .slice u l.v.n c]) ∧ Own w' (w.heap.size + 2) 84 1 (.slice u l.v.n c) l.v.n (fun i => .int .i8 (l.v.f i)) ∧ Cl w w' l l' ∧ Below z.heap.size z w') := fun z l' hz => (copyM_any (h.v.fresh hz.low) hB.v).mono fun e w' ⟨u, c, h1, h2, h3⟩ => ⟨u, c, h1, h2.weaken hz.big, hz.fresh h3, h3⟩
  have Hm3 : Hid (∀ (z : World) (l' : LyD), Cl w z l l' → Calls Try.prog 45 #[.agg #[.int .i64 l.o.R, .int .i64 l.o.C, .slice l.o.O l.o.n l.o.c]] z fun e w' => ∃ u c, e = .returned (.agg #[.int .i64 l.o.R, .int .i64 l.o.C, .slice u l.o.n c]) ∧ Own w' (w.heap.size + 2) 84 1 (.slice u l.o.n c) l.o.n (fun i => .int .i8 (l.o.f i)) ∧ Cl w w' l l' ∧ Below z.heap.size z w') := fun z l' hz => (copyM_any (h.o.fresh hz.low) hB.o).mono fun e w' ⟨u, c, h1, h2, h3⟩ => ⟨u, c, h1, h2.weaken hz.big, hz.fresh h3, h3⟩
  have Hm4 : Hid (∀ (z : World) (l' : LyD), Cl w z l l' → Calls Try.prog 45 #[.agg #[.int .i64 l.g.R, .int .i64 l.g.C, .slice l.g.O l.g.n l.g.c]] z fun e w' => ∃ u c, e = .returned (.agg #[.int .i64 l.g.R, .int .i64 l.g.C, .slice u l.g.n c]) ∧ Own w' (w.heap.size + 2) 84 1 (.slice u l.g.n c) l.g.n (fun i => .int .i8 (l.g.f i)) ∧ Cl w w' l l' ∧ Below z.heap.size z w') := fun z l' hz => (copyM_any (h.g.fresh hz.low) hB.g).mono fun e w' ⟨u, c, h1, h2, h3⟩ => ⟨u, c, h1, h2.weaken hz.big, hz.fresh h3, h3⟩
  have Hm5 : Hid (∀ (z : World) (l' : LyD), Cl w z l l' → Calls Try.prog 45 #[.agg #[.int .i64 l.u.R, .int .i64 l.u.C, .slice l.u.O l.u.n l.u.c]] z fun e w' => ∃ u c, e = .returned (.agg #[.int .i64 l.u.R, .int .i64 l.u.C, .slice u l.u.n c]) ∧ Own w' (w.heap.size + 2) 84 1 (.slice u l.u.n c) l.u.n (fun i => .int .i8 (l.u.f i)) ∧ Cl w w' l l' ∧ Below z.heap.size z w') := fun z l' hz => (copyM_any (h.u.fresh hz.low) hB.u).mono fun e w' ⟨u, c, h1, h2, h3⟩ => ⟨u, c, h1, h2.weaken hz.big, hz.fresh h3, h3⟩
  have Hm6 : Hid (∀ (z : World) (l' : LyD), Cl w z l l' → Calls Try.prog 45 #[.agg #[.int .i64 l.d.R, .int .i64 l.d.C, .slice l.d.O l.d.n l.d.c]] z fun e w' => ∃ u c, e = .returned (.agg #[.int .i64 l.d.R, .int .i64 l.d.C, .slice u l.d.n c]) ∧ Own w' (w.heap.size + 2) 84 1 (.slice u l.d.n c) l.d.n (fun i => .int .i8 (l.d.f i)) ∧ Cl w w' l l' ∧ Below z.heap.size z w') := fun z l' hz => (copyM_any (h.d.fresh hz.low) hB.d).mono fun e w' ⟨u, c, h1, h2, h3⟩ => ⟨u, c, h1, h2.weaken hz.big, hz.fresh h3, h3⟩
  clear h hB b1 b2
  go_enter Try.func47, Try.ntmps47
  go_upto_region 1 with fail
  generalize hwb : (w.alloc (.cells #[.slice l.n1.O l.n1.n l.n1.c, .slice l.n2.O l.n2.n l.n2.c, .int .i64 l.q.R, .int .i64 l.q.C, .slice l.q.O l.q.n l.q.c, .int .i64 l.k.R, .int .i64 l.k.C, .slice l.k.O l.k.n l.k.c, .int .i64 l.v.R, .int .i64 l.v.C, .slice l.v.O l.v.n l.v.c, .int .i64 l.o.R, .int .i64 l.o.C, .slice l.o.O l.o.n l.o.c, .int .i64 l.g.R, .int .i64 l.g.C, .slice l.g.O l.g.n l.g.c, .int .i64 l.u.R, .int .i64 l.u.C, .slice l.u.O l.u.n l.u.c, .int .i64 l.d.R, .int .i64 l.d.C, .slice l.d.O l.d.n l.d.c, .int .i64 (l.sh 0), .int .i64 (l.sh 1), .int .i64 (l.sh 2), .int .i64 (l.sh 3), .int .i64 (l.sh 4), .int .i64 (l.sh 5), .int .i64 (l.sh 6)] 67)).alloc (.cells #[.slice none 0 0, .slice none 0 0, .int .i64 0, .int .i64 0, .slice none 0 0, .int .i64 0, .int .i64 0, .slice none 0 0, .int .i64 0, .int .i64 0, .slice none 0 0, .int .i64 0, .int .i64 0, .slice none 0 0, .int .i64 0, .int .i64 0, .slice none 0 0, .int .i64 0, .int .i64 0, .slice none 0 0, .int .i64 0, .int .i64 0, .slice none 0 0, .int .i64 0, .int .i64 0, .int .i64 0, .int .i64 0, .int .i64 0, .int .i64 0, .int .i64 0] 67) = wb at *
  clear hwb
  obtain ⟨T, hT⟩ : ∃ T, T = lyA l := ⟨_, rfl⟩
  rw [← hT] at HK0'
  have RG : Hid (wb.rangeAt w.heap.size 0 T.toList) := by rw [hT]; exact RG'
  have SL : Hid ((Try.prog.info? 67).map (·.size) = some T.toList.length) := by rw [hT]; exact sizeL
  have S30 : Hid ((Try.prog.info? 67).map (·.size) = some T.size) := by rw [hT]; exact sizeL
  have H1 : Hid (T.all (·.oneCell') = true) := by rw [hT]; exact lyA_one l
  have HOZ : Hid ((#[.slice none 0 0, .slice none 0 0, .int .i64 0, .int .i64 0, .slice none 0 0, .int .i64 0, .int .i64 0, .slice none 0 0, .int .i64 0, .int .i64 0, .slice none 0 0, .int .i64 0, .int .i64 0, .slice none 0 0, .int .i64 0, .int .i64 0, .slice none 0 0, .int .i64 0, .int .i64 0, .slice none 0 0, .int .i64 0, .int .i64 0, .slice none 0 0, .int .i64 0, .int .i64 0, .int .i64 0, .int .i64 0, .int .i64 0, .int .i64 0, .int .i64 0] : Array Value).size = T.size) := by rw [hT]; rfl
  have HZH : Hid ((wb.alloc (.cells #[.slice none 0 0, .slice none 0 0, .int .i64 0, .int .i64 0, .slice none 0 0, .int .i64 0, .int .i64 0, .slice none 0 0, .int .i64 0, .int .i64 0, .slice none 0 0, .int .i64 0, .int .i64 0, .slice none 0 0, .int .i64 0, .int .i64 0, .slice none 0 0, .int .i64 0, .int .i64 0, .slice none 0 0, .int .i64 0, .int .i64 0, .slice none 0 0, .int .i64 0, .int .i64 0, .int .i64 0, .int .i64 0, .int .i64 0, .int .i64 0, .int .i64 0] 67)).heap[w.heap.size + 2]? = some (.cells #[.slice none 0 0, .slice none 0 0, .int .i64 0, .int .i64 0, .slice none 0 0, .int .i64 0, .int .i64 0, .slice none 0 0, .int .i64 0, .int .i64 0, .slice none 0 0, .int .i64 0, .int .i64 0, .slice none 0 0, .int .i64 0, .int .i64 0, .slice none 0 0, .int .i64 0, .int .i64 0, .slice none 0 0, .int .i64 0, .int .i64 0, .slice none 0 0, .int .i64 0, .int .i64 0, .int .i64 0, .int .i64 0, .int .i64 0, .int .i64 0, .int .i64 0] 67 (0, 0))) := by show _ = _; rw [← hsz]; exact heap_new _ _
  have HEQ : Hid ((wb.alloc (.cells #[.slice none 0 0, .slice none 0 0, .int .i64 0, .int .i64 0, .slice none 0 0, .int .i64 0, .int .i64 0, .slice none 0 0, .int .i64 0, .int .i64 0, .slice none 0 0, .int .i64 0, .int .i64 0, .slice none 0 0, .int .i64 0, .int .i64 0, .slice none 0 0, .int .i64 0, .int .i64 0, .slice none 0 0, .int .i64 0, .int .i64 0, .slice none 0 0, .int .i64 0, .int .i64 0, .int .i64 0, .int .i64 0, .int .i64 0, .int .i64 0, .int .i64 0] 67)).setRow (w.heap.size + 2) T = wb.alloc (.cells T 67)) := by show _ = _; rw [← hsz]; exact World.setRow_alloc_new _ _ _ _
  have HK0 := hidd HK0'
  clear HK0' RG' hT
  go_upto_region 2 with (first | refine wpList_load_mid rfl 67 _ rfl w.heap.size 0 rfl T.toList _ RG.out Try.underlying67 rfl SL.out ?_ | refine wpList_store_row rfl 67 _ _ rfl (w.heap.size + 2) T rfl rfl 67 _ HZH.out S30.out HOZ.out H1.out ?_)
  rw [HEQ.out]
  clear HEQ HZH HOZ H1 S30 SL RG
  generalize wb.alloc (.cells T 67) = wa at *
  clear hsz
  have t0 : wa.cell? ⟨w.heap.size, 0, none⟩ = some (.slice l.n1.O l.n1.n l.n1.c) := HK0.out.box.cell (i := 0) (by decide)
  go_wp2_with fail
  clear t0
  refine (Hn1.out _ _ HK0.out).mono ?_
  rintro e w1 ⟨u1, c1, rfl, o1, g1, k1⟩
  clear Hn1
  have O1 := hidd o1
  have G1 := hidd g1
  clear o1 k1 g1 HK0
  as_aux_lemma =>
    have s0 : w1.cell? ⟨w.heap.size + 2, 0, none⟩ = some (.slice l.n1.O l.n1.n l.n1.c) := G1.out.loc.cell (i := 0) (by decide)
    have fz : ∀ j, w1.frozen? ⟨w.heap.size + 2, j, none⟩ = false := G1.out.loc.frozen
    have t1 : w1.cell? ⟨w.heap.size, 1, none⟩ = some (.slice l.n2.O l.n2.n l.n2.c) := G1.out.box.cell (i := 1) (by decide)
    go_wp2_with fail
    clear s0 fz t1
    replace O1 := hidd (Own.set (j := 0) (x := .slice u1 l.n1.n c1) O1.out (Own.loc G1.out O1.out))
    refine (Hn2.out _ _ (Cl.n1 G1.out { l.n1 with O := u1, c := c1 })).mono ?_
    rintro e w2 ⟨u2, c2, rfl, o2, g2, k2⟩
    clear Hn2
    replace O1 := hidd ((O1.out).kept k2)
    have O2 := hidd o2
    have G2 := hidd g2
    clear o2 k2 g2 G1
    as_aux_lemma =>
      have s1 : w2.cell? ⟨w.heap.size + 2, 1, none⟩ = some (.slice l.n2.O l.n2.n l.n2.c) := G2.out.loc.cell (i := 1) (by decide)
      have fz : ∀ j, w2.frozen? ⟨w.heap.size + 2, j, none⟩ = false := G2.out.loc.frozen
      have t2 : w2.cell? ⟨w.heap.size, 2, none⟩ = some (.int .i64 l.q.R) := G2.out.box.cell (i := 2) (by decide)
      have t3 : w2.cell? ⟨w.heap.size, 3, none⟩ = some (.int .i64 l.q.C) := G2.out.box.cell (i := 3) (by decide)
      have t4 : w2.cell? ⟨w.heap.size, 4, none⟩ = some (.slice l.q.O l.q.n l.q.c) := G2.out.box.cell (i := 4) (by decide)
      go_wp2_with fail
      clear s1 fz t2 t3 t4
      replace O1 := hidd (Own.set (j := 1) (x := .slice u2 l.n2.n c2) O1.out (Own.loc G2.out O1.out))
      replace O2 := hidd (Own.set (j := 1) (x := .slice u2 l.n2.n c2) O2.out (Own.loc G2.out O2.out))
      refine (Hm0.out _ _ (Cl.n2 G2.out { l.n2 with O := u2, c := c2 })).mono ?_
      rintro e w3 ⟨u3, c3, rfl, o3, g3, k3⟩
      clear Hm0
      replace O1 := hidd ((O1.out).kept k3)
      replace O2 := hidd ((O2.out).kept k3)
      have O3 := hidd o3
      have G3 := hidd g3
      clear o3 k3 g3 G2
      as_aux_lemma =>
        have s2 : w3.cell? ⟨w.heap.size + 2, 2, none⟩ = some (.int .i64 l.q.R) := G3.out.loc.cell (i := 2) (by decide)
        have s3 : w3.cell? ⟨w.heap.size + 2, 3, none⟩ = some (.int .i64 l.q.C) := G3.out.loc.cell (i := 3) (by decide)
        have s4 : w3.cell? ⟨w.heap.size + 2, 4, none⟩ = some (.slice l.q.O l.q.n l.q.c) := G3.out.loc.cell (i := 4) (by decide)
        have fz : ∀ j, w3.frozen? ⟨w.heap.size + 2, j, none⟩ = false := G3.out.loc.frozen
        have t5 : w3.cell? ⟨w.heap.size, 5, none⟩ = some (.int .i64 l.k.R) := G3.out.box.cell (i := 5) (by decide)
        have t6 : w3.cell? ⟨w.heap.size, 6, none⟩ = some (.int .i64 l.k.C) := G3.out.box.cell (i := 6) (by decide)
        have t7 : w3.cell? ⟨w.heap.size, 7, none⟩ = some (.slice l.k.O l.k.n l.k.c) := G3.out.box.cell (i := 7) (by decide)
        go_wp2_with fail
        clear s2 s3 s4 fz t5 t6 t7
        replace O1 := hidd (Own.set (j := 4) (x := .slice u3 l.q.n c3) (Own.set (j := 3) (x := .int .i64 l.q.C) (Own.set (j := 2) (x := .int .i64 l.q.R) O1.out (Own.loc G3.out O1.out)) (Own.loc G3.out O1.out)) (Own.loc G3.out O1.out))
        replace O2 := hidd (Own.set (j := 4) (x := .slice u3 l.q.n c3) (Own.set (j := 3) (x := .int .i64 l.q.C) (Own.set (j := 2) (x := .int .i64 l.q.R) O2.out (Own.loc G3.out O2.out)) (Own.loc G3.out O2.out)) (Own.loc G3.out O2.out))
        replace O3 := hidd (Own.set (j := 4) (x := .slice u3 l.q.n c3) (Own.set (j := 3) (x := .int .i64 l.q.C) (Own.set (j := 2) (x := .int .i64 l.q.R) O3.out (Own.loc G3.out O3.out)) (Own.loc G3.out O3.out)) (Own.loc G3.out O3.out))
        refine (Hm1.out _ _ (Cl.m0 G3.out { l.q with O := u3, c := c3 })).mono ?_
        rintro e w4 ⟨u4, c4, rfl, o4, g4, k4⟩
        clear Hm1
        replace O1 := hidd ((O1.out).kept k4)
        replace O2 := hidd ((O2.out).kept k4)
        replace O3 := hidd ((O3.out).kept k4)
        have O4 := hidd o4
        have G4 := hidd g4
        clear o4 k4 g4 G3
        as_aux_lemma =>
          have s5 : w4.cell? ⟨w.heap.size + 2, 5, none⟩ = some (.int .i64 l.k.R) := G4.out.loc.cell (i := 5) (by decide)
          have s6 : w4.cell? ⟨w.heap.size + 2, 6, none⟩ = some (.int .i64 l.k.C) := G4.out.loc.cell (i := 6) (by decide)
          have s7 : w4.cell? ⟨w.heap.size + 2, 7, none⟩ = some (.slice l.k.O l.k.n l.k.c) := G4.out.loc.cell (i := 7) (by decide)
          have fz : ∀ j, w4.frozen? ⟨w.heap.size + 2, j, none⟩ = false := G4.out.loc.frozen
          have t8 : w4.cell? ⟨w.heap.size, 8, none⟩ = some (.int .i64 l.v.R) := G4.out.box.cell (i := 8) (by decide)
          have t9 : w4.cell? ⟨w.heap.size, 9, none⟩ = some (.int .i64 l.v.C) := G4.out.box.cell (i := 9) (by decide)
          have t10 : w4.cell? ⟨w.heap.size, 10, none⟩ = some (.slice l.v.O l.v.n l.v.c) := G4.out.box.cell (i := 10) (by decide)
          go_wp2_with fail
          clear s5 s6 s7 fz t8 t9 t10
          replace O1 := hidd (Own.set (j := 7) (x := .slice u4 l.k.n c4) (Own.set (j := 6) (x := .int .i64 l.k.C) (Own.set (j := 5) (x := .int .i64 l.k.R) O1.out (Own.loc G4.out O1.out)) (Own.loc G4.out O1.out)) (Own.loc G4.out O1.out))
          replace O2 := hidd (Own.set (j := 7) (x := .slice u4 l.k.n c4) (Own.set (j := 6) (x := .int .i64 l.k.C) (Own.set (j := 5) (x := .int .i64 l.k.R) O2.out (Own.loc G4.out O2.out)) (Own.loc G4.out O2.out)) (Own.loc G4.out O2.out))
          replace O3 := hidd (Own.set (j := 7) (x := .slice u4 l.k.n c4) (Own.set (j := 6) (x := .int .i64 l.k.C) (Own.set (j := 5) (x := .int .i64 l.k.R) O3.out (Own.loc G4.out O3.out)) (Own.loc G4.out O3.out)) (Own.loc G4.out O3.out))
          replace O4 := hidd (Own.set (j := 7) (x := .slice u4 l.k.n c4) (Own.set (j := 6) (x := .int .i64 l.k.C) (Own.set (j := 5) (x := .int .i64 l.k.R) O4.out (Own.loc G4.out O4.out)) (Own.loc G4.out O4.out)) (Own.loc G4.out O4.out))
          refine (Hm2.out _ _ (Cl.m1 G4.out { l.k with O := u4, c := c4 })).mono ?_
          rintro e w5 ⟨u5, c5, rfl, o5, g5, k5⟩
          clear Hm2
          replace O1 := hidd ((O1.out).kept k5)
          replace O2 := hidd ((O2.out).kept k5)
          replace O3 := hidd ((O3.out).kept k5)
          replace O4 := hidd ((O4.out).kept k5)
          have O5 := hidd o5
          have G5 := hidd g5
          clear o5 k5 g5 G4
          as_aux_lemma =>
            have s8 : w5.cell? ⟨w.heap.size + 2, 8, none⟩ = some (.int .i64 l.v.R) := G5.out.loc.cell (i := 8) (by decide)
            have s9 : w5.cell? ⟨w.heap.size + 2, 9, none⟩ = some (.int .i64 l.v.C) := G5.out.loc.cell (i := 9) (by decide)
            have s10 : w5.cell? ⟨w.heap.size + 2, 10, none⟩ = some (.slice l.v.O l.v.n l.v.c) := G5.out.loc.cell (i := 10) (by decide)
            have fz : ∀ j, w5.frozen? ⟨w.heap.size + 2, j, none⟩ = false := G5.out.loc.frozen
            have t11 : w5.cell? ⟨w.heap.size, 11, none⟩ = some (.int .i64 l.o.R) := G5.out.box.cell (i := 11) (by decide)
            have t12 : w5.cell? ⟨w.heap.size, 12, none⟩ = some (.int .i64 l.o.C) := G5.out.box.cell (i := 12) (by decide)
            have t13 : w5.cell? ⟨w.heap.size, 13, none⟩ = some (.slice l.o.O l.o.n l.o.c) := G5.out.box.cell (i := 13) (by decide)
            go_wp2_with fail
            clear s8 s9 s10 fz t11 t12 t13
            replace O1 := hidd (Own.set (j := 10) (x := .slice u5 l.v.n c5) (Own.set (j := 9) (x := .int .i64 l.v.C) (Own.set (j := 8) (x := .int .i64 l.v.R) O1.out (Own.loc G5.out O1.out)) (Own.loc G5.out O1.out)) (Own.loc G5.out O1.out))
            replace O2 := hidd (Own.set (j := 10) (x := .slice u5 l.v.n c5) (Own.set (j := 9) (x := .int .i64 l.v.C) (Own.set (j := 8) (x := .int .i64 l.v.R) O2.out (Own.loc G5.out O2.out)) (Own.loc G5.out O2.out)) (Own.loc G5.out O2.out))
            replace O3 := hidd (Own.set (j := 10) (x := .slice u5 l.v.n c5) (Own.set (j := 9) (x := .int .i64 l.v.C) (Own.set (j := 8) (x := .int .i64 l.v.R) O3.out (Own.loc G5.out O3.out)) (Own.loc G5.out O3.out)) (Own.loc G5.out O3.out))
            replace O4 := hidd (Own.set (j := 10) (x := .slice u5 l.v.n c5) (Own.set (j := 9) (x := .int .i64 l.v.C) (Own.set (j := 8) (x := .int .i64 l.v.R) O4.out (Own.loc G5.out O4.out)) (Own.loc G5.out O4.out)) (Own.loc G5.out O4.out))
            replace O5 := hidd (Own.set (j := 10) (x := .slice u5 l.v.n c5) (Own.set (j := 9) (x := .int .i64 l.v.C) (Own.set (j := 8) (x := .int .i64 l.v.R) O5.out (Own.loc G5.out O5.out)) (Own.loc G5.out O5.out)) (Own.loc G5.out O5.out))
            refine (Hm3.out _ _ (Cl.m2 G5.out { l.v with O := u5, c := c5 })).mono ?_
            rintro e w6 ⟨u6, c6, rfl, o6, g6, k6⟩
            clear Hm3
            replace O1 := hidd ((O1.out).kept k6)
            replace O2 := hidd ((O2.out).kept k6)
            replace O3 := hidd ((O3.out).kept k6)
            replace O4 := hidd ((O4.out).kept k6)
            replace O5 := hidd ((O5.out).kept k6)
            have O6 := hidd o6
            have G6 := hidd g6
            clear o6 k6 g6 G5
            as_aux_lemma =>
              have s11 : w6.cell? ⟨w.heap.size + 2, 11, none⟩ = some (.int .i64 l.o.R) := G6.out.loc.cell (i := 11) (by decide)
              have s12 : w6.cell? ⟨w.heap.size + 2, 12, none⟩ = some (.int .i64 l.o.C) := G6.out.loc.cell (i := 12) (by decide)
              have s13 : w6.cell? ⟨w.heap.size + 2, 13, none⟩ = some (.slice l.o.O l.o.n l.o.c) := G6.out.loc.cell (i := 13) (by decide)
              have fz : ∀ j, w6.frozen? ⟨w.heap.size + 2, j, none⟩ = false := G6.out.loc.frozen
              have t14 : w6.cell? ⟨w.heap.size, 14, none⟩ = some (.int .i64 l.g.R) := G6.out.box.cell (i := 14) (by decide)
              have t15 : w6.cell? ⟨w.heap.size, 15, none⟩ = some (.int .i64 l.g.C) := G6.out.box.cell (i := 15) (by decide)
              have t16 : w6.cell? ⟨w.heap.size, 16, none⟩ = some (.slice l.g.O l.g.n l.g.c) := G6.out.box.cell (i := 16) (by decide)
              go_wp2_with fail
              clear s11 s12 s13 fz t14 t15 t16
              replace O1 := hidd (Own.set (j := 13) (x := .slice u6 l.o.n c6) (Own.set (j := 12) (x := .int .i64 l.o.C) (Own.set (j := 11) (x := .int .i64 l.o.R) O1.out (Own.loc G6.out O1.out)) (Own.loc G6.out O1.out)) (Own.loc G6.out O1.out))
              replace O2 := hidd (Own.set (j := 13) (x := .slice u6 l.o.n c6) (Own.set (j := 12) (x := .int .i64 l.o.C) (Own.set (j := 11) (x := .int .i64 l.o.R) O2.out (Own.loc G6.out O2.out)) (Own.loc G6.out O2.out)) (Own.loc G6.out O2.out))
              replace O3 := hidd (Own.set (j := 13) (x := .slice u6 l.o.n c6) (Own.set (j := 12) (x := .int .i64 l.o.C) (Own.set (j := 11) (x := .int .i64 l.o.R) O3.out (Own.loc G6.out O3.out)) (Own.loc G6.out O3.out)) (Own.loc G6.out O3.out))
              replace O4 := hidd (Own.set (j := 13) (x := .slice u6 l.o.n c6) (Own.set (j := 12) (x := .int .i64 l.o.C) (Own.set (j := 11) (x := .int .i64 l.o.R) O4.out (Own.loc G6.out O4.out)) (Own.loc G6.out O4.out)) (Own.loc G6.out O4.out))
              replace O5 := hidd (Own.set (j := 13) (x := .slice u6 l.o.n c6) (Own.set (j := 12) (x := .int .i64 l.o.C) (Own.set (j := 11) (x := .int .i64 l.o.R) O5.out (Own.loc G6.out O5.out)) (Own.loc G6.out O5.out)) (Own.loc G6.out O5.out))
              replace O6 := hidd (Own.set (j := 13) (x := .slice u6 l.o.n c6) (Own.set (j := 12) (x := .int .i64 l.o.C) (Own.set (j := 11) (x := .int .i64 l.o.R) O6.out (Own.loc G6.out O6.out)) (Own.loc G6.out O6.out)) (Own.loc G6.out O6.out))
              refine (Hm4.out _ _ (Cl.m3 G6.out { l.o with O := u6, c := c6 })).mono ?_
              rintro e w7 ⟨u7, c7, rfl, o7, g7, k7⟩
              clear Hm4
              replace O1 := hidd ((O1.out).kept k7)
              replace O2 := hidd ((O2.out).kept k7)
              replace O3 := hidd ((O3.out).kept k7)
              replace O4 := hidd ((O4.out).kept k7)
              replace O5 := hidd ((O5.out).kept k7)
              replace O6 := hidd ((O6.out).kept k7)
              have O7 := hidd o7
              have G7 := hidd g7
              clear o7 k7 g7 G6
              as_aux_lemma =>
                have s14 : w7.cell? ⟨w.heap.size + 2, 14, none⟩ = some (.int .i64 l.g.R) := G7.out.loc.cell (i := 14) (by decide)
                have s15 : w7.cell? ⟨w.heap.size + 2, 15, none⟩ = some (.int .i64 l.g.C) := G7.out.loc.cell (i := 15) (by decide)
                have s16 : w7.cell? ⟨w.heap.size + 2, 16, none⟩ = some (.slice l.g.O l.g.n l.g.c) := G7.out.loc.cell (i := 16) (by decide)
                have fz : ∀ j, w7.frozen? ⟨w.heap.size + 2, j, none⟩ = false := G7.out.loc.frozen
                have t17 : w7.cell? ⟨w.heap.size, 17, none⟩ = some (.int .i64 l.u.R) := G7.out.box.cell (i := 17) (by decide)
                have t18 : w7.cell? ⟨w.heap.size, 18, none⟩ = some (.int .i64 l.u.C) := G7.out.box.cell (i := 18) (by decide)
                have t19 : w7.cell? ⟨w.heap.size, 19, none⟩ = some (.slice l.u.O l.u.n l.u.c) := G7.out.box.cell (i := 19) (by decide)
                go_wp2_with fail
                clear s14 s15 s16 fz t17 t18 t19
                replace O1 := hidd (Own.set (j := 16) (x := .slice u7 l.g.n c7) (Own.set (j := 15) (x := .int .i64 l.g.C) (Own.set (j := 14) (x := .int .i64 l.g.R) O1.out (Own.loc G7.out O1.out)) (Own.loc G7.out O1.out)) (Own.loc G7.out O1.out))
                replace O2 := hidd (Own.set (j := 16) (x := .slice u7 l.g.n c7) (Own.set (j := 15) (x := .int .i64 l.g.C) (Own.set (j := 14) (x := .int .i64 l.g.R) O2.out (Own.loc G7.out O2.out)) (Own.loc G7.out O2.out)) (Own.loc G7.out O2.out))
                replace O3 := hidd (Own.set (j := 16) (x := .slice u7 l.g.n c7) (Own.set (j := 15) (x := .int .i64 l.g.C) (Own.set (j := 14) (x := .int .i64 l.g.R) O3.out (Own.loc G7.out O3.out)) (Own.loc G7.out O3.out)) (Own.loc G7.out O3.out))
                replace O4 := hidd (Own.set (j := 16) (x := .slice u7 l.g.n c7) (Own.set (j := 15) (x := .int .i64 l.g.C) (Own.set (j := 14) (x := .int .i64 l.g.R) O4.out (Own.loc G7.out O4.out)) (Own.loc G7.out O4.out)) (Own.loc G7.out O4.out))
                replace O5 := hidd (Own.set (j := 16) (x := .slice u7 l.g.n c7) (Own.set (j := 15) (x := .int .i64 l.g.C) (Own.set (j := 14) (x := .int .i64 l.g.R) O5.out (Own.loc G7.out O5.out)) (Own.loc G7.out O5.out)) (Own.loc G7.out O5.out))
                replace O6 := hidd (Own.set (j := 16) (x := .slice u7 l.g.n c7) (Own.set (j := 15) (x := .int .i64 l.g.C) (Own.set (j := 14) (x := .int .i64 l.g.R) O6.out (Own.loc G7.out O6.out)) (Own.loc G7.out O6.out)) (Own.loc G7.out O6.out))
                replace O7 := hidd (Own.set (j := 16) (x := .slice u7 l.g.n c7) (Own.set (j := 15) (x := .int .i64 l.g.C) (Own.set (j := 14) (x := .int .i64 l.g.R) O7.out (Own.loc G7.out O7.out)) (Own.loc G7.out O7.out)) (Own.loc G7.out O7.out))
                refine (Hm5.out _ _ (Cl.m4 G7.out { l.g with O := u7, c := c7 })).mono ?_
                rintro e w8 ⟨u8, c8, rfl, o8, g8, k8⟩
                clear Hm5
                replace O1 := hidd ((O1.out).kept k8)
                replace O2 := hidd ((O2.out).kept k8)
                replace O3 := hidd ((O3.out).kept k8)
                replace O4 := hidd ((O4.out).kept k8)
                replace O5 := hidd ((O5.out).kept k8)
                replace O6 := hidd ((O6.out).kept k8)
                replace O7 := hidd ((O7.out).kept k8)
                have O8 := hidd o8
                have G8 := hidd g8
                clear o8 k8 g8 G7
                as_aux_lemma =>
                  have s17 : w8.cell? ⟨w.heap.size + 2, 17, none⟩ = some (.int .i64 l.u.R) := G8.out.loc.cell (i := 17) (by decide)
                  have s18 : w8.cell? ⟨w.heap.size + 2, 18, none⟩ = some (.int .i64 l.u.C) := G8.out.loc.cell (i := 18) (by decide)
                  have s19 : w8.cell? ⟨w.heap.size + 2, 19, none⟩ = some (.slice l.u.O l.u.n l.u.c) := G8.out.loc.cell (i := 19) (by decide)
                  have fz : ∀ j, w8.frozen? ⟨w.heap.size + 2, j, none⟩ = false := G8.out.loc.frozen
                  have t20 : w8.cell? ⟨w.heap.size, 20, none⟩ = some (.int .i64 l.d.R) := G8.out.box.cell (i := 20) (by decide)
                  have t21 : w8.cell? ⟨w.heap.size, 21, none⟩ = some (.int .i64 l.d.C) := G8.out.box.cell (i := 21) (by decide)
                  have t22 : w8.cell? ⟨w.heap.size, 22, none⟩ = some (.slice l.d.O l.d.n l.d.c) := G8.out.box.cell (i := 22) (by decide)
                  go_wp2_with fail
                  clear s17 s18 s19 fz t20 t21 t22
                  replace O1 := hidd (Own.set (j := 19) (x := .slice u8 l.u.n c8) (Own.set (j := 18) (x := .int .i64 l.u.C) (Own.set (j := 17) (x := .int .i64 l.u.R) O1.out (Own.loc G8.out O1.out)) (Own.loc G8.out O1.out)) (Own.loc G8.out O1.out))
                  replace O2 := hidd (Own.set (j := 19) (x := .slice u8 l.u.n c8) (Own.set (j := 18) (x := .int .i64 l.u.C) (Own.set (j := 17) (x := .int .i64 l.u.R) O2.out (Own.loc G8.out O2.out)) (Own.loc G8.out O2.out)) (Own.loc G8.out O2.out))
                  replace O3 := hidd (Own.set (j := 19) (x := .slice u8 l.u.n c8) (Own.set (j := 18) (x := .int .i64 l.u.C) (Own.set (j := 17) (x := .int .i64 l.u.R) O3.out (Own.loc G8.out O3.out)) (Own.loc G8.out O3.out)) (Own.loc G8.out O3.out))
                  replace O4 := hidd (Own.set (j := 19) (x := .slice u8 l.u.n c8) (Own.set (j := 18) (x := .int .i64 l.u.C) (Own.set (j := 17) (x := .int .i64 l.u.R) O4.out (Own.loc G8.out O4.out)) (Own.loc G8.out O4.out)) (Own.loc G8.out O4.out))
                  replace O5 := hidd (Own.set (j := 19) (x := .slice u8 l.u.n c8) (Own.set (j := 18) (x := .int .i64 l.u.C) (Own.set (j := 17) (x := .int .i64 l.u.R) O5.out (Own.loc G8.out O5.out)) (Own.loc G8.out O5.out)) (Own.loc G8.out O5.out))
                  replace O6 := hidd (Own.set (j := 19) (x := .slice u8 l.u.n c8) (Own.set (j := 18) (x := .int .i64 l.u.C) (Own.set (j := 17) (x := .int .i64 l.u.R) O6.out (Own.loc G8.out O6.out)) (Own.loc G8.out O6.out)) (Own.loc G8.out O6.out))
                  replace O7 := hidd (Own.set (j := 19) (x := .slice u8 l.u.n c8) (Own.set (j := 18) (x := .int .i64 l.u.C) (Own.set (j := 17) (x := .int .i64 l.u.R) O7.out (Own.loc G8.out O7.out)) (Own.loc G8.out O7.out)) (Own.loc G8.out O7.out))
                  replace O8 := hidd (Own.set (j := 19) (x := .slice u8 l.u.n c8) (Own.set (j := 18) (x := .int .i64 l.u.C) (Own.set (j := 17) (x := .int .i64 l.u.R) O8.out (Own.loc G8.out O8.out)) (Own.loc G8.out O8.out)) (Own.loc G8.out O8.out))
                  refine (Hm6.out _ _ (Cl.m5 G8.out { l.u with O := u8, c := c8 })).mono ?_
                  rintro e w9 ⟨u9, c9, rfl, o9, g9, k9⟩
                  clear Hm6
                  replace O1 := hidd ((O1.out).kept k9)
                  replace O2 := hidd ((O2.out).kept k9)
                  replace O3 := hidd ((O3.out).kept k9)
                  replace O4 := hidd ((O4.out).kept k9)
                  replace O5 := hidd ((O5.out).kept k9)
                  replace O6 := hidd ((O6.out).kept k9)
                  replace O7 := hidd ((O7.out).kept k9)
                  replace O8 := hidd ((O8.out).kept k9)
                  have O9 := hidd o9
                  have G9 := hidd g9
                  clear o9 k9 g9 G8
                  as_aux_lemma =>
                    have s20 : w9.cell? ⟨w.heap.size + 2, 20, none⟩ = some (.int .i64 l.d.R) := G9.out.loc.cell (i := 20) (by decide)
                    have s21 : w9.cell? ⟨w.heap.size + 2, 21, none⟩ = some (.int .i64 l.d.C) := G9.out.loc.cell (i := 21) (by decide)
                    have s22 : w9.cell? ⟨w.heap.size + 2, 22, none⟩ = some (.slice l.d.O l.d.n l.d.c) := G9.out.loc.cell (i := 22) (by decide)
                    have fz : ∀ j, w9.frozen? ⟨w.heap.size + 2, j, none⟩ = false := G9.out.loc.frozen
                    go_upto_region 11 with fail
                    clear s20 s21 s22 fz
                    replace O1 := hidd (Own.set (j := 22) (x := .slice u9 l.d.n c9) (Own.set (j := 21) (x := .int .i64 l.d.C) (Own.set (j := 20) (x := .int .i64 l.d.R) O1.out (Own.loc G9.out O1.out)) (Own.loc G9.out O1.out)) (Own.loc G9.out O1.out))
                    replace O2 := hidd (Own.set (j := 22) (x := .slice u9 l.d.n c9) (Own.set (j := 21) (x := .int .i64 l.d.C) (Own.set (j := 20) (x := .int .i64 l.d.R) O2.out (Own.loc G9.out O2.out)) (Own.loc G9.out O2.out)) (Own.loc G9.out O2.out))
                    replace O3 := hidd (Own.set (j := 22) (x := .slice u9 l.d.n c9) (Own.set (j := 21) (x := .int .i64 l.d.C) (Own.set (j := 20) (x := .int .i64 l.d.R) O3.out (Own.loc G9.out O3.out)) (Own.loc G9.out O3.out)) (Own.loc G9.out O3.out))
                    replace O4 := hidd (Own.set (j := 22) (x := .slice u9 l.d.n c9) (Own.set (j := 21) (x := .int .i64 l.d.C) (Own.set (j := 20) (x := .int .i64 l.d.R) O4.out (Own.loc G9.out O4.out)) (Own.loc G9.out O4.out)) (Own.loc G9.out O4.out))
                    replace O5 := hidd (Own.set (j := 22) (x := .slice u9 l.d.n c9) (Own.set (j := 21) (x := .int .i64 l.d.C) (Own.set (j := 20) (x := .int .i64 l.d.R) O5.out (Own.loc G9.out O5.out)) (Own.loc G9.out O5.out)) (Own.loc G9.out O5.out))
                    replace O6 := hidd (Own.set (j := 22) (x := .slice u9 l.d.n c9) (Own.set (j := 21) (x := .int .i64 l.d.C) (Own.set (j := 20) (x := .int .i64 l.d.R) O6.out (Own.loc G9.out O6.out)) (Own.loc G9.out O6.out)) (Own.loc G9.out O6.out))
                    replace O7 := hidd (Own.set (j := 22) (x := .slice u9 l.d.n c9) (Own.set (j := 21) (x := .int .i64 l.d.C) (Own.set (j := 20) (x := .int .i64 l.d.R) O7.out (Own.loc G9.out O7.out)) (Own.loc G9.out O7.out)) (Own.loc G9.out O7.out))
                    replace O8 := hidd (Own.set (j := 22) (x := .slice u9 l.d.n c9) (Own.set (j := 21) (x := .int .i64 l.d.C) (Own.set (j := 20) (x := .int .i64 l.d.R) O8.out (Own.loc G9.out O8.out)) (Own.loc G9.out O8.out)) (Own.loc G9.out O8.out))
                    replace O9 := hidd (Own.set (j := 22) (x := .slice u9 l.d.n c9) (Own.set (j := 21) (x := .int .i64 l.d.C) (Own.set (j := 20) (x := .int .i64 l.d.R) O9.out (Own.loc G9.out O9.out)) (Own.loc G9.out O9.out)) (Own.loc G9.out O9.out))
                    have HZ := hidd (Cl.m6 G9.out { l.d with O := u9, c := c9 })
                    clear G9
                    generalize hwz : (((w9.setCell ⟨w.heap.size + 2, 20, none⟩ (.int .i64 l.d.R)).setCell ⟨w.heap.size + 2, 21, none⟩ (.int .i64 l.d.C)).setCell ⟨w.heap.size + 2, 22, none⟩ (.slice u9 l.d.n c9)) = wz at *
                    clear hwz
                    have RG' := row_range HZ.out.loc rfl
                    obtain ⟨T9, hT⟩ : ∃ T9, T9 = lyA { n1 := { l.n1 with O := u1, c := c1 }, n2 := { l.n2 with O := u2, c := c2 }, q := { l.q with O := u3, c := c3 }, k := { l.k with O := u4, c := c4 }, v := { l.v with O := u5, c := c5 }, o := { l.o with O := u6, c := c6 }, g := { l.g with O := u7, c := c7 }, u := { l.u with O := u8, c := c8 }, d := { l.d with O := u9, c := c9 }, sh := l.sh } := ⟨_, rfl⟩
                    have RG : Hid (wz.rangeAt (w.heap.size + 2) 0 T9.toList) := by rw [hT]; exact RG'
                    have SL : Hid ((Try.prog.info? 67).map (·.size) = some T9.toList.length) := by rw [hT]; exact sizeL
                    have S30 : Hid ((Try.prog.info? 67).map (·.size) = some T9.size) := by rw [hT]; exact sizeL
                    have H1 : Hid (T9.all (·.oneCell') = true) := by rw [hT]; exact lyA_one _
                    obtain ⟨old, hold, hosz, _⟩ := HZ.out.res
                    have HOLD := hidd hold
                    have HOSZ : Hid (old.size = T9.size) := by rw [hT]; exact hosz
                    have HTT := hidd hT
                    clear hold hosz hT RG'
                    go_wp2_with (refine wpList_load_mid rfl 67 _ rfl (w.heap.size + 2) 0 rfl T9.toList _ RG.out Try.underlying67 rfl SL.out (wpList_store_row rfl 67 _ _ rfl (w.heap.size + 1) T9 rfl rfl 67 old HOLD.out S30.out HOSZ.out H1.out ?_))
                    have s : ∀ {n9 : Nat} {v9 : Value} {cs9 : Nat → Value} (cs : Array Value), Own wz (w.heap.size + 2) 84 1 v9 n9 cs9 → Own (wz.setRow (w.heap.size + 1) cs) (w.heap.size + 2) 84 1 v9 n9 cs9 := fun cs ho => ho.setRow (fun e => by have := (ho.lt _ e).1; omega)
                    refine bodyPost_ret (v := .agg T9) ?_ ?_ ?_
                    · exact results_cell_row Try.results47 _ _ (w.heap.size + 1) 67 _ (0, 0) _ rfl (setRow_heap _ _ _ _ _ _ HOLD.out) Try.underlying67 rfl S30.out
                    · rfl
                    · refine ⟨{ n1 := { l.n1 with O := u1, c := c1 }, n2 := { l.n2 with O := u2, c := c2 }, q := { l.q with O := u3, c := c3 }, k := { l.k with O := u4, c := c4 }, v := { l.v with O := u5, c := c5 }, o := { l.o with O := u6, c := c6 }, g := { l.g with O := u7, c := c7 }, u := { l.u with O := u8, c := c8 }, d := { l.d with O := u9, c := c9 }, sh := l.sh }, by rw [HTT.out], ⟨s _ O1.out, s _ O2.out, fun q hq => ?_⟩, ⟨⟨rfl, rfl⟩, ⟨rfl, rfl⟩, fun q hq => ?_, rfl⟩, below_setRow HZ.out.low (by omega) _⟩
                      · match q, hq with
                        | 0, _ => exact s _ O3.out
                        | 1, _ => exact s _ O4.out
                        | 2, _ => exact s _ O5.out
                        | 3, _ => exact s _ O6.out
                        | 4, _ => exact s _ O7.out
                        | 5, _ => exact s _ O8.out
                        | 6, _ => exact s _ O9.out
                      · match q, hq with
                        | 0, _ => exact ⟨rfl, rfl, rfl, rfl⟩
                        | 1, _ => exact ⟨rfl, rfl, rfl, rfl⟩
                        | 2, _ => exact ⟨rfl, rfl, rfl, rfl⟩
                        | 3, _ => exact ⟨rfl, rfl, rfl, rfl⟩
                        | 4, _ => exact ⟨rfl, rfl, rfl, rfl⟩
                        | 5, _ => exact ⟨rfl, rfl, rfl, rfl⟩
                        | 6, _ => exact ⟨rfl, rfl, rfl, rfl⟩
end Go.Proofs.Ytilghknalbhacaa
