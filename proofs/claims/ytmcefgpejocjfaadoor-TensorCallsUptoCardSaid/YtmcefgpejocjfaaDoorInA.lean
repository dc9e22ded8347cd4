import Derived.Test.YtmcefgpejocjfaaDoorOpd
import Derived.Test.YtmcefgpejocjfaaDoorHeld
import Derived.Laws.Tables
import Derived.Laws.CopyOwn
namespace Go.Proofs.YtmcefgpejocjfaaDoor
open Go.RowKit
/-! The twin of an operation's lists. -/
theorem heap_new (w : World) (o : Obj) : (w.alloc o).heap[w.heap.size]? = some o := by
  show (w.heap.push o)[w.heap.size]? = _
  simp
theorem heap_new2 (w : World) (o1 o2 : Obj) : ((w.alloc o1).alloc o2).heap[w.heap.size + 1]? = some o2 := by
  have := heap_new (w.alloc o1) o2; simpa using this
theorem sin_next {w1 wa wb : World} {g : Nat} {v3 v4 v5 v6 v8 : Value} (h : Below w1.heap.size w1 wa ∧ wa.cell? ⟨g, 3, none⟩ = some v3 ∧ wa.cell? ⟨g, 4, none⟩ = some v4 ∧ wa.cell? ⟨g, 5, none⟩ = some v5 ∧ wa.cell? ⟨g, 6, none⟩ = some v6 ∧ wa.cell? ⟨g, 8, none⟩ = some v8) (f : Below wa.heap.size wa wb) :
    Below w1.heap.size w1 wb ∧ wb.cell? ⟨g, 3, none⟩ = some v3 ∧ wb.cell? ⟨g, 4, none⟩ = some v4 ∧ wb.cell? ⟨g, 5, none⟩ = some v5 ∧ wb.cell? ⟨g, 6, none⟩ = some v6 ∧ wb.cell? ⟨g, 8, none⟩ = some v8 :=
  ⟨fresh_trans h.1 f, fresh_cell f h.2.1, fresh_cell f h.2.2.1, fresh_cell f h.2.2.2.1, fresh_cell f h.2.2.2.2.1, fresh_cell f h.2.2.2.2.2⟩
/-- the struct that is made: six cells, not written yet -/
def Blk (w : World) (g : Nat) : Prop := w.rowIs g 41 6 (fun _ => .slice none 0 0)
theorem blk_new {X w' : World} (f : Below (X.alloc (.cells #[.slice none 0 0, .slice none 0 0, .slice none 0 0, .slice none 0 0, .slice none 0 0, .slice none 0 0] 41)).heap.size (X.alloc (.cells #[.slice none 0 0, .slice none 0 0, .slice none 0 0, .slice none 0 0, .slice none 0 0, .slice none 0 0] 41)) w') : Blk w' X.heap.size := by
  have r := World.rowIs_alloc X #[.slice none 0 0, .slice none 0 0, .slice none 0 0, .slice none 0 0, .slice none 0 0, .slice none 0 0] 41 (fun _ => .slice none 0 0) (fun i hi => by
    have hi : i < 6 := hi
    obtain rfl | rfl | rfl | rfl | rfl | rfl : i = 0 ∨ i = 1 ∨ i = 2 ∨ i = 3 ∨ i = 4 ∨ i = 5 := by omega
    all_goals rfl)
  exact r.of_block (f.block _ r.lt)
theorem blk_kept {w w' : World} {g : Nat} (h : Blk w g) (f : Below w.heap.size w w') : Blk w' g := World.rowIs.of_block h (f.block _ (World.rowIs.lt h))
theorem with_blk {w w' : World} {g : Nat} {G : Prop} (f : Below w.heap.size w w') (h : Blk w g) (k : Blk w' g → G) : G := k (blk_kept h f)
theorem blk_cells {w : World} {g : Nat} (h : Blk w g) : w.cell? ⟨g, 0, none⟩ = some (.slice none 0 0) ∧ w.cell? ⟨g, 1, none⟩ = some (.slice none 0 0) ∧ w.cell? ⟨g, 2, none⟩ = some (.slice none 0 0) ∧ w.cell? ⟨g, 3, none⟩ = some (.slice none 0 0) ∧ w.cell? ⟨g, 4, none⟩ = some (.slice none 0 0) ∧ w.cell? ⟨g, 5, none⟩ = some (.slice none 0 0) ∧ ∀ j, w.frozen? ⟨g, j, none⟩ = false :=
  ⟨World.rowIs.cell h (by decide), World.rowIs.cell h (by decide), World.rowIs.cell h (by decide), World.rowIs.cell h (by decide), World.rowIs.cell h (by decide), World.rowIs.cell h (by decide), World.rowIs.frozen h⟩
theorem sin_set {w1 wa : World} {g0 g j : Nat} {x v3 v4 v5 v6 v8 : Value} (h : Below w1.heap.size w1 wa ∧ wa.cell? ⟨g0, 3, none⟩ = some v3 ∧ wa.cell? ⟨g0, 4, none⟩ = some v4 ∧ wa.cell? ⟨g0, 5, none⟩ = some v5 ∧ wa.cell? ⟨g0, 6, none⟩ = some v6 ∧ wa.cell? ⟨g0, 8, none⟩ = some v8) (hg : w1.heap.size ≤ g) (h0 : g0 < w1.heap.size) :
    Below w1.heap.size w1 (wa.setCell ⟨g, j, none⟩ x) ∧ (wa.setCell ⟨g, j, none⟩ x).cell? ⟨g0, 3, none⟩ = some v3 ∧ (wa.setCell ⟨g, j, none⟩ x).cell? ⟨g0, 4, none⟩ = some v4 ∧ (wa.setCell ⟨g, j, none⟩ x).cell? ⟨g0, 5, none⟩ = some v5 ∧ (wa.setCell ⟨g, j, none⟩ x).cell? ⟨g0, 6, none⟩ = some v6 ∧ (wa.setCell ⟨g, j, none⟩ x).cell? ⟨g0, 8, none⟩ = some v8 := by
  have e : (wa.setCell ⟨g, j, none⟩ x).heap[g0]? = wa.heap[g0]? := Below.heap_setCell _ _ _ _ (by show g0 ≠ g; omega)
  exact ⟨h.1.setCell hg _, by rw [World.cell?_of_block e]; exact h.2.1, by rw [World.cell?_of_block e]; exact h.2.2.1, by rw [World.cell?_of_block e]; exact h.2.2.2.1, by rw [World.cell?_of_block e]; exact h.2.2.2.2.1, by rw [World.cell?_of_block e]; exact h.2.2.2.2.2⟩
def set6 (w : World) (g : Nat) (x0 x1 x2 x3 x4 x5 : Value) : World := (((((w.setCell ⟨g, 0, none⟩ x0).setCell ⟨g, 1, none⟩ x1).setCell ⟨g, 2, none⟩ x2).setCell ⟨g, 3, none⟩ x3).setCell ⟨g, 4, none⟩ x4).setCell ⟨g, 5, none⟩ x5
theorem sin_set6 {w1 wa : World} {g0 g : Nat} {x0 x1 x2 x3 x4 x5 v3 v4 v5 v6 v8 : Value} (h : Below w1.heap.size w1 wa ∧ wa.cell? ⟨g0, 3, none⟩ = some v3 ∧ wa.cell? ⟨g0, 4, none⟩ = some v4 ∧ wa.cell? ⟨g0, 5, none⟩ = some v5 ∧ wa.cell? ⟨g0, 6, none⟩ = some v6 ∧ wa.cell? ⟨g0, 8, none⟩ = some v8) (hg : w1.heap.size ≤ g) (h0 : g0 < w1.heap.size) :
    Below w1.heap.size w1 ((((((wa.setCell ⟨g, 0, none⟩ x0).setCell ⟨g, 1, none⟩ x1).setCell ⟨g, 2, none⟩ x2).setCell ⟨g, 3, none⟩ x3).setCell ⟨g, 4, none⟩ x4).setCell ⟨g, 5, none⟩ x5) ∧ ((((((wa.setCell ⟨g, 0, none⟩ x0).setCell ⟨g, 1, none⟩ x1).setCell ⟨g, 2, none⟩ x2).setCell ⟨g, 3, none⟩ x3).setCell ⟨g, 4, none⟩ x4).setCell ⟨g, 5, none⟩ x5).cell? ⟨g0, 3, none⟩ = some v3 ∧ ((((((wa.setCell ⟨g, 0, none⟩ x0).setCell ⟨g, 1, none⟩ x1).setCell ⟨g, 2, none⟩ x2).setCell ⟨g, 3, none⟩ x3).setCell ⟨g, 4, none⟩ x4).setCell ⟨g, 5, none⟩ x5).cell? ⟨g0, 4, none⟩ = some v4 ∧ ((((((wa.setCell ⟨g, 0, none⟩ x0).setCell ⟨g, 1, none⟩ x1).setCell ⟨g, 2, none⟩ x2).setCell ⟨g, 3, none⟩ x3).setCell ⟨g, 4, none⟩ x4).setCell ⟨g, 5, none⟩ x5).cell? ⟨g0, 5, none⟩ = some v5 ∧ ((((((wa.setCell ⟨g, 0, none⟩ x0).setCell ⟨g, 1, none⟩ x1).setCell ⟨g, 2, none⟩ x2).setCell ⟨g, 3, none⟩ x3).setCell ⟨g, 4, none⟩ x4).setCell ⟨g, 5, none⟩ x5).cell? ⟨g0, 6, none⟩ = some v6 ∧ ((((((wa.setCell ⟨g, 0, none⟩ x0).setCell ⟨g, 1, none⟩ x1).setCell ⟨g, 2, none⟩ x2).setCell ⟨g, 3, none⟩ x3).setCell ⟨g, 4, none⟩ x4).setCell ⟨g, 5, none⟩ x5).cell? ⟨g0, 8, none⟩ = some v8 :=
  sin_set (sin_set (sin_set (sin_set (sin_set (sin_set h hg h0) hg h0) hg h0) hg h0) hg h0) hg h0
theorem Own.set {w : World} {base : Nat} {e : TypeId} {sz : Nat} {v : Value} {n : Nat} {cs : Nat → Value} (h : Own w base e sz v n cs) {g j : Nat} {x : Value} (hg : v.ownBlock ≠ some g) : Own (w.setCell ⟨g, j, none⟩ x) base e sz v n cs := by
  refine ⟨h.1, ?_⟩
  rcases h.2 with hn | ⟨k, cap, cur, rfl, hb, hgg, rest⟩
  · exact .inl hn
  · refine .inr ⟨k, cap, cur, rfl, hb, ?_, rest⟩
    have hk : k ≠ g := fun e => hg (by simp [Value.ownBlock, e])
    rw [Below.heap_setCell _ _ _ _ hk]; exact hgg
theorem infoIN : (Tryd.prog.info? 41).map (·.size) = some 6 := by kernel_rfl
theorem store_blk {w : World} {g : Nat} {a0 a1 a2 a3 a4 a5 : Option Addr} {n0 n1 n2 n3 n4 n5 c0 c1 c2 c3 c4 c5 : Nat} [h : Nonempty (Blk w g)] :
    (storeVar 41 ⟨g, 0, none⟩ (.agg #[.slice a0 n0 c0, .slice a1 n1 c1, .slice a2 n2 c2, .slice a3 n3 c3, .slice a4 n4 c4, .slice a5 n5 c5])).run Tryd.prog w = .ok () (w.setRow g #[.slice a0 n0 c0, .slice a1 n1 c1, .slice a2 n2 c2, .slice a3 n3 c3, .slice a4 n4 c4, .slice a5 n5 c5]) := by
  obtain ⟨⟨cur, hg, hcs, _⟩⟩ := h
  exact run_storeVar_row w g 41 41 cur _ hg infoIN (by simpa using hcs) (by kernel_rfl)
theorem storeAt_blk {w : World} {g : Nat} {a0 a1 a2 a3 a4 a5 : Option Addr} {n0 n1 n2 n3 n4 n5 c0 c1 c2 c3 c4 c5 : Nat} [h : Nonempty (Blk w g)] :
    (Instr.storeAt 41 (.pointer (some ⟨g, 0, none⟩)) (.agg #[.slice a0 n0 c0, .slice a1 n1 c1, .slice a2 n2 c2, .slice a3 n3 c3, .slice a4 n4 c4, .slice a5 n5 c5])).run Tryd.prog w = .ok () (w.setRow g #[.slice a0 n0 c0, .slice a1 n1 c1, .slice a2 n2 c2, .slice a3 n3 c3, .slice a4 n4 c4, .slice a5 n5 c5]) := by
  have e := store_blk (w := w) (g := g) (a0 := a0) (a1 := a1) (a2 := a2) (a3 := a3) (a4 := a4) (a5 := a5) (n0 := n0) (n1 := n1) (n2 := n2) (n3 := n3) (n4 := n4) (n5 := n5) (c0 := c0) (c1 := c1) (c2 := c2) (c3 := c3) (c4 := c4) (c5 := c5)
  simp only [Instr.storeAt, Instr.sureAddr, Sem.run_bind, Sem.run_pure, Result.andThen_ok, e]
theorem sin_row {w1 wa : World} {g0 g : Nat} {cs : Array Value} {v3 v4 v5 v6 v8 : Value} (h : Below w1.heap.size w1 wa ∧ wa.cell? ⟨g0, 3, none⟩ = some v3 ∧ wa.cell? ⟨g0, 4, none⟩ = some v4 ∧ wa.cell? ⟨g0, 5, none⟩ = some v5 ∧ wa.cell? ⟨g0, 6, none⟩ = some v6 ∧ wa.cell? ⟨g0, 8, none⟩ = some v8) (hg : w1.heap.size ≤ g) (h0 : g0 < w1.heap.size) :
    Below w1.heap.size w1 (wa.setRow g cs) ∧ (wa.setRow g cs).cell? ⟨g0, 3, none⟩ = some v3 ∧ (wa.setRow g cs).cell? ⟨g0, 4, none⟩ = some v4 ∧ (wa.setRow g cs).cell? ⟨g0, 5, none⟩ = some v5 ∧ (wa.setRow g cs).cell? ⟨g0, 6, none⟩ = some v6 ∧ (wa.setRow g cs).cell? ⟨g0, 8, none⟩ = some v8 := by
  have e : (wa.setRow g cs).heap[g0]? = wa.heap[g0]? := setRow_other _ _ _ _ (by omega)
  exact ⟨below_setRow h.1 hg _, by rw [World.cell?_of_block e]; exact h.2.1, by rw [World.cell?_of_block e]; exact h.2.2.1, by rw [World.cell?_of_block e]; exact h.2.2.2.1, by rw [World.cell?_of_block e]; exact h.2.2.2.2.1, by rw [World.cell?_of_block e]; exact h.2.2.2.2.2⟩
theorem Own.setRow {w : World} {base : Nat} {e : TypeId} {sz : Nat} {v : Value} {n : Nat} {cs : Nat → Value} (h : Own w base e sz v n cs) {g : Nat} {xs : Array Value} (hg : v.ownBlock ≠ some g) : Own (w.setRow g xs) base e sz v n cs := by
  refine ⟨h.1, ?_⟩
  rcases h.2 with hn | ⟨k, cap, cur, rfl, hb, hgg, rest⟩
  · exact .inl hn
  · refine .inr ⟨k, cap, cur, rfl, hb, ?_, rest⟩
    have hk : k ≠ g := fun e => hg (by simp [Value.ownBlock, e])
    rw [setRow_other _ _ _ _ hk]; exact hgg
/-- the five lists are made, and the struct that holds them -/
structure InM (w1 wx : World) (o : OpD) (g : Nat) (aA aB aD aX aT : Option Addr) (cA cB cD cX cT : Nat) : Prop where
  low : Below w1.heap.size w1 wx
  big : w1.heap.size ≤ g
  row : wx.rowIs g 41 6 (fun j => #[Value.slice aA (o.nA + 64) cA, .slice aB (o.nB + 64) cB, .slice aD (o.nD + 64) cD, .slice aX (o.nX + 64) cX, .slice aT (o.nT + 64) cT, .slice none 0 0].getD j undef)
  a : Own wx w1.heap.size 48 1 (.slice aA (o.nA + 64) cA) (o.nA + 64) (fun j => .int .i8 (mkd o.nA o.A j))
  b : Own wx w1.heap.size 48 1 (.slice aB (o.nB + 64) cB) (o.nB + 64) (fun j => .int .i8 (mkd o.nB o.B j))
  d : Own wx w1.heap.size 48 1 (.slice aD (o.nD + 64) cD) (o.nD + 64) (fun j => .int .i8 (mkd o.nD o.D j))
  x : Own wx w1.heap.size 2 1 (.slice aX (o.nX + 64) cX) (o.nX + 64) (fun j => .int .i64 (mkd o.nX o.X j))
  t : Own wx w1.heap.size 79 2 (.slice aT (o.nT + 64) cT) (o.nT + 64) (tcs (mkd o.nT o.Tc) (mkz o.nT o.Ts))
  ga : (Value.slice aA (o.nA + 64) cA).ownBlock ≠ some g
  gb : (Value.slice aB (o.nB + 64) cB).ownBlock ≠ some g
  gd : (Value.slice aD (o.nD + 64) cD).ownBlock ≠ some g
  gx : (Value.slice aX (o.nX + 64) cX).ownBlock ≠ some g
  gt : (Value.slice aT (o.nT + 64) cT).ownBlock ≠ some g
theorem inm_alloc {w1 w : World} {o : OpD} {aA : Option Addr} {cA : Nat} {aB : Option Addr} {cB : Nat} {aD : Option Addr} {cD : Nat} {aX : Option Addr} {cX : Nat} {aT : Option Addr} {cT : Nat} (low : Below w1.heap.size w1 w) (OA : Own w w1.heap.size 48 1 (.slice aA (o.nA + 64) cA) (o.nA + 64) (fun j => .int .i8 (mkd o.nA o.A j))) (OB : Own w w1.heap.size 48 1 (.slice aB (o.nB + 64) cB) (o.nB + 64) (fun j => .int .i8 (mkd o.nB o.B j))) (OD : Own w w1.heap.size 48 1 (.slice aD (o.nD + 64) cD) (o.nD + 64) (fun j => .int .i8 (mkd o.nD o.D j))) (OX : Own w w1.heap.size 2 1 (.slice aX (o.nX + 64) cX) (o.nX + 64) (fun j => .int .i64 (mkd o.nX o.X j))) (OT : Own w w1.heap.size 79 2 (.slice aT (o.nT + 64) cT) (o.nT + 64) (tcs (mkd o.nT o.Tc) (mkz o.nT o.Ts))) :
    InM w1 (w.alloc (.cells #[.slice aA (o.nA + 64) cA, .slice aB (o.nB + 64) cB, .slice aD (o.nD + 64) cD, .slice aX (o.nX + 64) cX, .slice aT (o.nT + 64) cT, .slice none 0 0] 41)) o w.heap.size aA aB aD aX aT cA cB cD cX cT := by
  have f := fresh_alloc w (.cells #[.slice aA (o.nA + 64) cA, .slice aB (o.nB + 64) cB, .slice aD (o.nD + 64) cD, .slice aX (o.nX + 64) cX, .slice aT (o.nT + 64) cT, .slice none 0 0] 41)
  refine ⟨fresh_trans low f, low.size, World.rowIs_alloc w #[.slice aA (o.nA + 64) cA, .slice aB (o.nB + 64) cB, .slice aD (o.nD + 64) cD, .slice aX (o.nX + 64) cX, .slice aT (o.nT + 64) cT, .slice none 0 0] 41 _ (fun i hi => ?_), OA.kept f, OB.kept f, OD.kept f, OX.kept f, OT.kept f, fun h => ?_, fun h => ?_, fun h => ?_, fun h => ?_, fun h => ?_⟩
  · have hi : i < 6 := hi
    obtain rfl | rfl | rfl | rfl | rfl | rfl : i = 0 ∨ i = 1 ∨ i = 2 ∨ i = 3 ∨ i = 4 ∨ i = 5 := by omega
    all_goals rfl
  · have := (OA.lt _ h).2; omega
  · have := (OB.lt _ h).2; omega
  · have := (OD.lt _ h).2; omega
  · have := (OX.lt _ h).2; omega
  · have := (OT.lt _ h).2; omega
theorem inm_set {w1 w : World} {o : OpD} {g : Nat} {aA : Option Addr} {cA : Nat} {aB : Option Addr} {cB : Nat} {aD : Option Addr} {cD : Nat} {aX : Option Addr} {cX : Nat} {aT : Option Addr} {cT : Nat} (low : Below w1.heap.size w1 w) (hb : Blk w g) (big : w1.heap.size ≤ g) (OA : Own w w1.heap.size 48 1 (.slice aA (o.nA + 64) cA) (o.nA + 64) (fun j => .int .i8 (mkd o.nA o.A j))) (OB : Own w w1.heap.size 48 1 (.slice aB (o.nB + 64) cB) (o.nB + 64) (fun j => .int .i8 (mkd o.nB o.B j))) (OD : Own w w1.heap.size 48 1 (.slice aD (o.nD + 64) cD) (o.nD + 64) (fun j => .int .i8 (mkd o.nD o.D j))) (OX : Own w w1.heap.size 2 1 (.slice aX (o.nX + 64) cX) (o.nX + 64) (fun j => .int .i64 (mkd o.nX o.X j))) (OT : Own w w1.heap.size 79 2 (.slice aT (o.nT + 64) cT) (o.nT + 64) (tcs (mkd o.nT o.Tc) (mkz o.nT o.Ts))) (nA : (Value.slice aA (o.nA + 64) cA).ownBlock ≠ some g) (nB : (Value.slice aB (o.nB + 64) cB).ownBlock ≠ some g) (nD : (Value.slice aD (o.nD + 64) cD).ownBlock ≠ some g) (nX : (Value.slice aX (o.nX + 64) cX).ownBlock ≠ some g) (nT : (Value.slice aT (o.nT + 64) cT).ownBlock ≠ some g) :
    InM w1 ((((((w.setCell ⟨g, 0, none⟩ (.slice aA (o.nA + 64) cA)).setCell ⟨g, 1, none⟩ (.slice aB (o.nB + 64) cB)).setCell ⟨g, 2, none⟩ (.slice aD (o.nD + 64) cD)).setCell ⟨g, 3, none⟩ (.slice aX (o.nX + 64) cX)).setCell ⟨g, 4, none⟩ (.slice aT (o.nT + 64) cT)).setCell ⟨g, 5, none⟩ (.slice none 0 0)) o g aA aB aD aX aT cA cB cD cX cT := by
  refine ⟨(((((low.setCell big _).setCell big _).setCell big _).setCell big _).setCell big _).setCell big _, big, ?_, (((((((OA.set (g := g) (j := 0) (x := (.slice aA (o.nA + 64) cA)) nA).set (j := 1) (x := (.slice aB (o.nB + 64) cB)) nA).set (j := 2) (x := (.slice aD (o.nD + 64) cD)) nA).set (j := 3) (x := (.slice aX (o.nX + 64) cX)) nA).set (j := 4) (x := (.slice aT (o.nT + 64) cT)) nA).set (j := 5) (x := (.slice none 0 0)) nA)), (((((((OB.set (g := g) (j := 0) (x := (.slice aA (o.nA + 64) cA)) nB).set (j := 1) (x := (.slice aB (o.nB + 64) cB)) nB).set (j := 2) (x := (.slice aD (o.nD + 64) cD)) nB).set (j := 3) (x := (.slice aX (o.nX + 64) cX)) nB).set (j := 4) (x := (.slice aT (o.nT + 64) cT)) nB).set (j := 5) (x := (.slice none 0 0)) nB)), (((((((OD.set (g := g) (j := 0) (x := (.slice aA (o.nA + 64) cA)) nD).set (j := 1) (x := (.slice aB (o.nB + 64) cB)) nD).set (j := 2) (x := (.slice aD (o.nD + 64) cD)) nD).set (j := 3) (x := (.slice aX (o.nX + 64) cX)) nD).set (j := 4) (x := (.slice aT (o.nT + 64) cT)) nD).set (j := 5) (x := (.slice none 0 0)) nD)), (((((((OX.set (g := g) (j := 0) (x := (.slice aA (o.nA + 64) cA)) nX).set (j := 1) (x := (.slice aB (o.nB + 64) cB)) nX).set (j := 2) (x := (.slice aD (o.nD + 64) cD)) nX).set (j := 3) (x := (.slice aX (o.nX + 64) cX)) nX).set (j := 4) (x := (.slice aT (o.nT + 64) cT)) nX).set (j := 5) (x := (.slice none 0 0)) nX)), (((((((OT.set (g := g) (j := 0) (x := (.slice aA (o.nA + 64) cA)) nT).set (j := 1) (x := (.slice aB (o.nB + 64) cB)) nT).set (j := 2) (x := (.slice aD (o.nD + 64) cD)) nT).set (j := 3) (x := (.slice aX (o.nX + 64) cX)) nT).set (j := 4) (x := (.slice aT (o.nT + 64) cT)) nT).set (j := 5) (x := (.slice none 0 0)) nT)), nA, nB, nD, nX, nT⟩
  have r := (((((World.rowIs.set hb 0 (.slice aA (o.nA + 64) cA)).set 1 (.slice aB (o.nB + 64) cB)).set 2 (.slice aD (o.nD + 64) cD)).set 3 (.slice aX (o.nX + 64) cX)).set 4 (.slice aT (o.nT + 64) cT)).set 5 (.slice none 0 0)
  refine r.congr (fun i hi => ?_)
  obtain rfl | rfl | rfl | rfl | rfl | rfl : i = 0 ∨ i = 1 ∨ i = 2 ∨ i = 3 ∨ i = 4 ∨ i = 5 := by omega
  all_goals rfl
end Go.Proofs.YtmcefgpejocjfaaDoor
