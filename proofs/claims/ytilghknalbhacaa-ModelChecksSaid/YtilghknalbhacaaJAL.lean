import Derived.Test.YtilghknalbhacaaJAK
import Derived.Test.YtilghknalbhacaaCpA
import Derived.Deep.DeepCutAuto
namespace Go.Proofs.Ytilghknalbhacaa
open Go.RowKit
/-! configOf, numberOf16. -/
set_option maxRecDepth 20000 in
set_option maxHeartbeats 1600000 in
theorem cfgof_any {w : World} {ao : Option Addr} {k : Nat} {M : List Int} (h : RdA w ao 1 8 k (bV M)) (hM : Byt M) :
    Calls Try.prog 36 #[.slice ao 8 k] w fun e w' => e = .returned (.agg #[.int .i64 (M.getD 0 0), .int .i64 (M.getD 1 0), .int .i64 (M.getD 2 0), .int .i64 (M.getD 3 0), .int .i64 (M.getD 4 0), .int .i64 (M.getD 5 0), .int .i64 (M.getD 6 0), .int .i64 (M.getD 7 0)]) ∧ Below w.heap.size w w' := by
  obtain ⟨b, o, rfl, hc⟩ := h.one (by decide)
  have n1 := h.le
  have n2 := h.top
  unfold maxLen at n2
  have hbl : b < w.heap.size := lt_of_cell (hc 0 (by decide))
  have f0 := fresh_alloc w (.cells #[.int .i64 0, .int .i64 0, .int .i64 0, .int .i64 0, .int .i64 0, .int .i64 0, .int .i64 0, .int .i64 0] 23)
  have HR : Hid ((w.alloc (.cells #[.int .i64 0, .int .i64 0, .int .i64 0, .int .i64 0, .int .i64 0, .int .i64 0, .int .i64 0, .int .i64 0] 23)).rowIs w.heap.size 23 8 (fun _ => .int .i64 0)) := by
    refine ⟨_, Go.Deep.blk_alloc_new _ _, rfl, fun j hj => ?_⟩
    match j, hj with
    | 0, _ | 1, _ | 2, _ | 3, _ | 4, _ | 5, _ | 6, _ | 7, _ => rfl
  have c0 := fresh_cell f0 (hc 0 (by decide))
  have c1 := fresh_cell f0 (hc 1 (by decide))
  have c2 := fresh_cell f0 (hc 2 (by decide))
  have c3 := fresh_cell f0 (hc 3 (by decide))
  have c4 := fresh_cell f0 (hc 4 (by decide))
  have c5 := fresh_cell f0 (hc 5 (by decide))
  have c6 := fresh_cell f0 (hc 6 (by decide))
  have c7 := fresh_cell f0 (hc 7 (by decide))
  unfold bV at c0 c1 c2 c3 c4 c5 c6 c7
  rw [Nat.add_zero] at c0
  have HF0 := hidd f0
  obtain ⟨x0, h0⟩ : ∃ x, x = M.getD 0 0 := ⟨_, rfl⟩
  obtain ⟨x1, h1⟩ : ∃ x, x = M.getD 1 0 := ⟨_, rfl⟩
  obtain ⟨x2, h2⟩ : ∃ x, x = M.getD 2 0 := ⟨_, rfl⟩
  obtain ⟨x3, h3⟩ : ∃ x, x = M.getD 3 0 := ⟨_, rfl⟩
  obtain ⟨x4, h4⟩ : ∃ x, x = M.getD 4 0 := ⟨_, rfl⟩
  obtain ⟨x5, h5⟩ : ∃ x, x = M.getD 5 0 := ⟨_, rfl⟩
  obtain ⟨x6, h6⟩ : ∃ x, x = M.getD 6 0 := ⟨_, rfl⟩
  obtain ⟨x7, h7⟩ : ∃ x, x = M.getD 7 0 := ⟨_, rfl⟩
  have b0 := hM.at_ 0
  have b1 := hM.at_ 1
  have b2 := hM.at_ 2
  have b3 := hM.at_ 3
  have b4 := hM.at_ 4
  have b5 := hM.at_ 5
  have b6 := hM.at_ 6
  have b7 := hM.at_ 7
  rw [← h0] at c0 b0 ⊢
  rw [← h1] at c1 b1 ⊢
  rw [← h2] at c2 b2 ⊢
  rw [← h3] at c3 b3 ⊢
  rw [← h4] at c4 b4 ⊢
  rw [← h5] at c5 b5 ⊢
  rw [← h6] at c6 b6 ⊢
  rw [← h7] at c7 b7 ⊢
  have w0 : IntKind.i64.wrap x0 = x0 := wrap_small _ (by omega) (by omega)
  have w1' : IntKind.i64.wrap x1 = x1 := wrap_small _ (by omega) (by omega)
  have w2' : IntKind.i64.wrap x2 = x2 := wrap_small _ (by omega) (by omega)
  have w3' : IntKind.i64.wrap x3 = x3 := wrap_small _ (by omega) (by omega)
  have w4' : IntKind.i64.wrap x4 = x4 := wrap_small _ (by omega) (by omega)
  have w5' : IntKind.i64.wrap x5 = x5 := wrap_small _ (by omega) (by omega)
  have w6' : IntKind.i64.wrap x6 = x6 := wrap_small _ (by omega) (by omega)
  have w7' : IntKind.i64.wrap x7 = x7 := wrap_small _ (by omega) (by omega)
  have hne : ¬ b = w.heap.size := by omega
  clear h0 h1 h2 h3 h4 h5 h6 h7 h hc hM f0
  go_enter Try.func36, Try.ntmps36
  go_upto_region 1 with fail
  generalize (w.alloc (.cells #[.int .i64 0, .int .i64 0, .int .i64 0, .int .i64 0, .int .i64 0, .int .i64 0, .int .i64 0, .int .i64 0] 23)) = z at *
  have l0 := later_cell c0
  have l1 := later_cell c1
  have l2 := later_cell c2
  have l3 := later_cell c3
  have l4 := later_cell c4
  have l5 := later_cell c5
  have l6 := later_cell c6
  have l7 := later_cell c7
  have ne := later_some z
  refine wp_region_lastL (C := fun w' => ∃ x : Later z, w' = x.val) (by simp) (by kernel_rfl) (by kernel_rfl) (by kernel_rfl) ⟨⟨z.drew, (Below.refl _ _).drew⟩, rfl⟩ ?_
  simp only [List.dropLast_cons_cons, List.dropLast_singleton, List.getLast_cons_cons, List.getLast_singleton]
  repeat (go_big_quiet_step (fail))
  refine wpQuiet_nil ?_
  rintro _ ⟨y, rfl⟩
  have HR1 := hidd (HR.out.of_block (y.fresh.block _ HR.out.lt))
  have HF1 := hidd (fresh_trans HF0.out y.fresh)
  clear l0 c0 l1 c1 l2 c2 l3 c3 l4 c4 l5 c5 l6 c6 l7 c7 ne w0 w1' w2' w3' w4' w5' w6' w7'
  generalize y.val = z1 at *
  have r0 : z1.cell? ⟨w.heap.size, 0, none⟩ = some (.int .i64 0) := HR1.out.cell (i := 0) (by decide)
  have r1 : z1.cell? ⟨w.heap.size, 1, none⟩ = some (.int .i64 0) := HR1.out.cell (i := 1) (by decide)
  have r2 : z1.cell? ⟨w.heap.size, 2, none⟩ = some (.int .i64 0) := HR1.out.cell (i := 2) (by decide)
  have r3 : z1.cell? ⟨w.heap.size, 3, none⟩ = some (.int .i64 0) := HR1.out.cell (i := 3) (by decide)
  have r4 : z1.cell? ⟨w.heap.size, 4, none⟩ = some (.int .i64 0) := HR1.out.cell (i := 4) (by decide)
  have r5 : z1.cell? ⟨w.heap.size, 5, none⟩ = some (.int .i64 0) := HR1.out.cell (i := 5) (by decide)
  have r6 : z1.cell? ⟨w.heap.size, 6, none⟩ = some (.int .i64 0) := HR1.out.cell (i := 6) (by decide)
  have r7 : z1.cell? ⟨w.heap.size, 7, none⟩ = some (.int .i64 0) := HR1.out.cell (i := 7) (by decide)
  have fz := HR1.out.frozen
  have HQ := hidd (((((((((HR1.out.set 0 (.int .i64 x0)).set 1 (.int .i64 x1)).set 2 (.int .i64 x2)).set 3 (.int .i64 x3)).set 4 (.int .i64 x4)).set 5 (.int .i64 x5)).set 6 (.int .i64 x6)).set 7 (.int .i64 x7)))
  go_wp2
  refine bodyPost_ret (v := .agg #[.int .i64 x0, .int .i64 x1, .int .i64 x2, .int .i64 x3, .int .i64 x4, .int .i64 x5, .int .i64 x6, .int .i64 x7]) ?_ ?_ ?_
  · refine results_cell_mid Try.results36 _ _ w.heap.size [.int .i64 x0, .int .i64 x1, .int .i64 x2, .int .i64 x3, .int .i64 x4, .int .i64 x5, .int .i64 x6, .int .i64 x7] _ rfl ?_ Try.underlying23 rfl (by kernel_rfl)
    intro j v hv
    match j, hv with
    | 0, hv => rw [← Option.some.inj hv]; exact HQ.out.cell (i := 0) (by decide)
    | 1, hv => rw [← Option.some.inj hv]; exact HQ.out.cell (i := 1) (by decide)
    | 2, hv => rw [← Option.some.inj hv]; exact HQ.out.cell (i := 2) (by decide)
    | 3, hv => rw [← Option.some.inj hv]; exact HQ.out.cell (i := 3) (by decide)
    | 4, hv => rw [← Option.some.inj hv]; exact HQ.out.cell (i := 4) (by decide)
    | 5, hv => rw [← Option.some.inj hv]; exact HQ.out.cell (i := 5) (by decide)
    | 6, hv => rw [← Option.some.inj hv]; exact HQ.out.cell (i := 6) (by decide)
    | 7, hv => rw [← Option.some.inj hv]; exact HQ.out.cell (i := 7) (by decide)
    | j + 8, hv => cases hv
  · rfl
  · refine ⟨rfl, ?_⟩
    exact ((((((((HF1.out.setCell (Nat.le_refl _) _).setCell (Nat.le_refl _) _).setCell (Nat.le_refl _) _).setCell (Nat.le_refl _) _).setCell (Nat.le_refl _) _).setCell (Nat.le_refl _) _).setCell (Nat.le_refl _) _).setCell (Nat.le_refl _) _)
end Go.Proofs.Ytilghknalbhacaa
namespace Go.Proofs.Ytilghknalbhacaa
open Go.RowKit
/-! numberOf16. -/
/-- 16 bits with a sign -/
def i16v (x : Int) : Int := if x < 32768 then x else x - 65536
theorem or_16 {x : Nat} (y : Nat) (hx : x < 256) : x ||| y * 256 = x + 256 * y := by
  have h := Nat.shiftLeft_add_eq_or_of_lt (i := 8) (b := x) (by simpa using hx) y
  rw [Nat.shiftLeft_eq] at h
  rw [Nat.or_comm, show y * 256 = y * 2 ^ 8 from rfl, ← h]
  omega
theorem bits_16 {a b : Int} (ha : 0 ≤ a ∧ a < 256) (hb : 0 ≤ b ∧ b < 256) : bits BinOp.or IntKind.u16 a (b * 256) = a + 256 * b := by
  obtain ⟨x, rfl⟩ : ∃ x : Nat, a = (x : Int) := ⟨a.toNat, by omega⟩
  obtain ⟨y, rfl⟩ : ∃ y : Nat, b = (y : Int) := ⟨b.toNat, by omega⟩
  have e3 := or_16 (x := x) y (by omega)
  have e4 : ((y : Int) * 256) = ((y * 256 : Nat) : Int) := by omega
  rw [e4]
  have h1 : (BitVec.ofInt 16 (x : Int)).toNat = x := by
    rw [BitVec.ofInt_natCast, BitVec.toNat_ofNat]; exact Nat.mod_eq_of_lt (by omega)
  have h2 : (BitVec.ofInt 16 ((y * 256 : Nat) : Int)).toNat = y * 256 := by
    rw [BitVec.ofInt_natCast, BitVec.toNat_ofNat]; exact Nat.mod_eq_of_lt (by omega)
  have hw : ∀ n : Int, IntKind.u16.wrap n = n % 65536 := fun n => by simp [IntKind.wrap, IntKind.bits, IntKind.signed]
  show IntKind.u16.wrap ((BitVec.ofInt 16 (x : Int) ||| BitVec.ofInt 16 ((y * 256 : Nat) : Int)).toNat : Int) = _
  rw [BitVec.toNat_or, h1, h2, e3, hw]
  omega
set_option maxRecDepth 20000 in
set_option maxHeartbeats 1600000 in
theorem n16_any (w : World) {a b : Int} (ha : 0 ≤ a ∧ a < 256) (hb : 0 ≤ b ∧ b < 256) :
    Calls Try.prog 93 #[.int .u8 a, .int .u8 b] w fun e w' => e = .returned (.int .i64 (i16v (a + 256 * b))) ∧ w' = w := by
  have hbt := bits_16 ha hb
  have hwi : IntKind.i16.wrap (a + 256 * b) = i16v (a + 256 * b) := by
    have e1 : IntKind.i16.wrap (a + 256 * b) = (if (a + 256 * b) % 65536 ≥ 32768 then (a + 256 * b) % 65536 - 65536 else (a + 256 * b) % 65536) := by
      simp [IntKind.wrap, IntKind.bits, IntKind.signed]
    rw [e1]
    unfold i16v
    split <;> split <;> omega
  have hw6 : wrap64 (i16v (a + 256 * b)) = i16v (a + 256 * b) := by
    have hbd : -32768 ≤ i16v (a + 256 * b) ∧ i16v (a + 256 * b) ≤ 32767 := by
      unfold i16v
      split <;> omega
    unfold wrap64
    omega
  go_enter Try.func93, Try.ntmps93
  go_wp2
  go_ret
  refine ⟨?_, rfl⟩
  show Ending.returned (.int .i64 (wrap64 _)) = _
  rw [hw6]
end Go.Proofs.Ytilghknalbhacaa
namespace Go.Proofs.Ytilghknalbhacaa
open Go.RowKit
/-! copied: the box; Embed and Head. -/
def wtL (x : WtD) : List Value := [.int .i64 x.V, .int .i64 x.W, .int .i64 x.H, .int .i64 x.K, .int .i64 x.L, .int .i64 x.D, .int .i64 x.N, .int .i64 x.M, .int .i64 x.E.R, .int .i64 x.E.C, .slice x.E.O x.E.n x.E.c, .slice x.tO x.tn x.tc, .slice x.yO x.yn x.yc, .slice x.F.O x.F.n x.F.c, .int .i64 x.Q.R, .int .i64 x.Q.C, .slice x.Q.O x.Q.n x.Q.c, .slice x.mO x.mn x.mc]
def wtc (x : WtD) : Nat → Value := fun i => (wtL x).getD i undef
def wtZ : List Value := [.int .i64 0, .int .i64 0, .int .i64 0, .int .i64 0, .int .i64 0, .int .i64 0, .int .i64 0, .int .i64 0, .int .i64 0, .int .i64 0, .slice none 0 0, .slice none 0 0, .slice none 0 0, .slice none 0 0, .int .i64 0, .int .i64 0, .slice none 0 0, .slice none 0 0]
theorem World.rowIs_list (w : World) (l : List Value) (t : TypeId) : (w.alloc (.cells l.toArray t)).rowIs w.heap.size t l.length (fun i => l.getD i undef) := by
  refine World.rowIs_alloc w l.toArray t _ (fun i hi => ?_)
  rw [List.getElem?_toArray, List.getD_eq_getElem?_getD, List.getElem?_eq_getElem (by simpa using hi)]
  rfl
theorem put_E {w : World} {B : Nat} {x : WtD} (u : Option Addr) (c : Nat) (h : w.rowIs B 34 18 (wtc x)) : (((w.setCell ⟨B, 8, none⟩ (.int .i64 x.E.R)).setCell ⟨B, 9, none⟩ (.int .i64 x.E.C)).setCell ⟨B, 10, none⟩ (.slice u x.E.n c)).rowIs B 34 18 (wtc { x with E := { x.E with O := u, c := c } }) :=
  World.rowIs.congr (((h.set 8 (.int .i64 x.E.R)).set 9 (.int .i64 x.E.C)).set 10 (.slice u x.E.n c)) (fun i hi => by
    match i, hi with
    | 0, _ => rfl
    | 1, _ => rfl
    | 2, _ => rfl
    | 3, _ => rfl
    | 4, _ => rfl
    | 5, _ => rfl
    | 6, _ => rfl
    | 7, _ => rfl
    | 8, _ => rfl
    | 9, _ => rfl
    | 10, _ => rfl
    | 11, _ => rfl
    | 12, _ => rfl
    | 13, _ => rfl
    | 14, _ => rfl
    | 15, _ => rfl
    | 16, _ => rfl
    | 17, _ => rfl
    | i + 18, hi => exact absurd hi (by omega))
theorem put_Q {w : World} {B : Nat} {x : WtD} (u : Option Addr) (c : Nat) (h : w.rowIs B 34 18 (wtc x)) : (((w.setCell ⟨B, 14, none⟩ (.int .i64 x.Q.R)).setCell ⟨B, 15, none⟩ (.int .i64 x.Q.C)).setCell ⟨B, 16, none⟩ (.slice u x.Q.n c)).rowIs B 34 18 (wtc { x with Q := { x.Q with O := u, c := c } }) :=
  World.rowIs.congr (((h.set 14 (.int .i64 x.Q.R)).set 15 (.int .i64 x.Q.C)).set 16 (.slice u x.Q.n c)) (fun i hi => by
    match i, hi with
    | 0, _ => rfl
    | 1, _ => rfl
    | 2, _ => rfl
    | 3, _ => rfl
    | 4, _ => rfl
    | 5, _ => rfl
    | 6, _ => rfl
    | 7, _ => rfl
    | 8, _ => rfl
    | 9, _ => rfl
    | 10, _ => rfl
    | 11, _ => rfl
    | 12, _ => rfl
    | 13, _ => rfl
    | 14, _ => rfl
    | 15, _ => rfl
    | 16, _ => rfl
    | 17, _ => rfl
    | i + 18, hi => exact absurd hi (by omega))
theorem put_T {w : World} {B : Nat} {x : WtD} (u : Option Addr) (c : Nat) (h : w.rowIs B 34 18 (wtc x)) : (w.setCell ⟨B, 11, none⟩ (.slice u x.tn c)).rowIs B 34 18 (wtc { x with tO := u, tc := c }) :=
  World.rowIs.congr (h.set 11 (.slice u x.tn c)) (fun i hi => by
    match i, hi with
    | 0, _ => rfl
    | 1, _ => rfl
    | 2, _ => rfl
    | 3, _ => rfl
    | 4, _ => rfl
    | 5, _ => rfl
    | 6, _ => rfl
    | 7, _ => rfl
    | 8, _ => rfl
    | 9, _ => rfl
    | 10, _ => rfl
    | 11, _ => rfl
    | 12, _ => rfl
    | 13, _ => rfl
    | 14, _ => rfl
    | 15, _ => rfl
    | 16, _ => rfl
    | 17, _ => rfl
    | i + 18, hi => exact absurd hi (by omega))
theorem put_F {w : World} {B : Nat} {x : WtD} (u : Option Addr) (c : Nat) (h : w.rowIs B 34 18 (wtc x)) : (w.setCell ⟨B, 13, none⟩ (.slice u x.F.n c)).rowIs B 34 18 (wtc { x with F := { x.F with O := u, c := c } }) :=
  World.rowIs.congr (h.set 13 (.slice u x.F.n c)) (fun i hi => by
    match i, hi with
    | 0, _ => rfl
    | 1, _ => rfl
    | 2, _ => rfl
    | 3, _ => rfl
    | 4, _ => rfl
    | 5, _ => rfl
    | 6, _ => rfl
    | 7, _ => rfl
    | 8, _ => rfl
    | 9, _ => rfl
    | 10, _ => rfl
    | 11, _ => rfl
    | 12, _ => rfl
    | 13, _ => rfl
    | 14, _ => rfl
    | 15, _ => rfl
    | 16, _ => rfl
    | 17, _ => rfl
    | i + 18, hi => exact absurd hi (by omega))
theorem put_Y {w : World} {B : Nat} {x : WtD} (u : Option Addr) (c : Nat) (h : w.rowIs B 34 18 (wtc x)) : (w.setCell ⟨B, 12, none⟩ (.slice u x.yn c)).rowIs B 34 18 (wtc { x with yO := u, yc := c }) :=
  World.rowIs.congr (h.set 12 (.slice u x.yn c)) (fun i hi => by
    match i, hi with
    | 0, _ => rfl
    | 1, _ => rfl
    | 2, _ => rfl
    | 3, _ => rfl
    | 4, _ => rfl
    | 5, _ => rfl
    | 6, _ => rfl
    | 7, _ => rfl
    | 8, _ => rfl
    | 9, _ => rfl
    | 10, _ => rfl
    | 11, _ => rfl
    | 12, _ => rfl
    | 13, _ => rfl
    | 14, _ => rfl
    | 15, _ => rfl
    | 16, _ => rfl
    | 17, _ => rfl
    | i + 18, hi => exact absurd hi (by omega))
theorem put_M {w : World} {B : Nat} {x : WtD} (u : Option Addr) (c : Nat) (h : w.rowIs B 34 18 (wtc x)) : (w.setCell ⟨B, 17, none⟩ (.slice u x.mn c)).rowIs B 34 18 (wtc { x with mO := u, mc := c }) :=
  World.rowIs.congr (h.set 17 (.slice u x.mn c)) (fun i hi => by
    match i, hi with
    | 0, _ => rfl
    | 1, _ => rfl
    | 2, _ => rfl
    | 3, _ => rfl
    | 4, _ => rfl
    | 5, _ => rfl
    | 6, _ => rfl
    | 7, _ => rfl
    | 8, _ => rfl
    | 9, _ => rfl
    | 10, _ => rfl
    | 11, _ => rfl
    | 12, _ => rfl
    | 13, _ => rfl
    | 14, _ => rfl
    | 15, _ => rfl
    | 16, _ => rfl
    | 17, _ => rfl
    | i + 18, hi => exact absurd hi (by omega))
/-- what copied's walk keeps: the box, the place of the answer, all that was there -/
structure Cp (w wx : World) (x : WtD) : Prop where
  box : wx.rowIs w.heap.size 34 18 (wtc x)
  res : wx.rowIs (w.heap.size + 1) 34 18 (fun i => wtZ.getD i undef)
  low : Below w.heap.size w wx
theorem Cp.fresh {w wx wy : World} {x : WtD} (h : Cp w wx x) (f : Below wx.heap.size wx wy) : Cp w wy x :=
  ⟨row_fresh h.box f, row_fresh h.res f, fresh_trans h.low f⟩
theorem Cp.big {w wx : World} {x : WtD} (h : Cp w wx x) : w.heap.size + 2 ≤ wx.heap.size := by have := h.res.lt; omega
theorem Cp.start (w : World) (x : WtD) : Cp w ((w.alloc (.cells #[.int .i64 x.V, .int .i64 x.W, .int .i64 x.H, .int .i64 x.K, .int .i64 x.L, .int .i64 x.D, .int .i64 x.N, .int .i64 x.M, .int .i64 x.E.R, .int .i64 x.E.C, .slice x.E.O x.E.n x.E.c, .slice x.tO x.tn x.tc, .slice x.yO x.yn x.yc, .slice x.F.O x.F.n x.F.c, .int .i64 x.Q.R, .int .i64 x.Q.C, .slice x.Q.O x.Q.n x.Q.c, .slice x.mO x.mn x.mc] 34)).alloc (.cells #[.int .i64 0, .int .i64 0, .int .i64 0, .int .i64 0, .int .i64 0, .int .i64 0, .int .i64 0, .int .i64 0, .int .i64 0, .int .i64 0, .slice none 0 0, .slice none 0 0, .slice none 0 0, .slice none 0 0, .int .i64 0, .int .i64 0, .slice none 0 0, .slice none 0 0] 34)) x := by
  refine ⟨(World.rowIs_list w (wtL x) 34).alloc _, ?_, fresh_trans (fresh_alloc _ _) (fresh_alloc _ _)⟩
  have hs : (w.alloc (.cells #[.int .i64 x.V, .int .i64 x.W, .int .i64 x.H, .int .i64 x.K, .int .i64 x.L, .int .i64 x.D, .int .i64 x.N, .int .i64 x.M, .int .i64 x.E.R, .int .i64 x.E.C, .slice x.E.O x.E.n x.E.c, .slice x.tO x.tn x.tc, .slice x.yO x.yn x.yc, .slice x.F.O x.F.n x.F.c, .int .i64 x.Q.R, .int .i64 x.Q.C, .slice x.Q.O x.Q.n x.Q.c, .slice x.mO x.mn x.mc] 34)).heap.size = w.heap.size + 1 := by simp
  have := World.rowIs_list (w.alloc (.cells #[.int .i64 x.V, .int .i64 x.W, .int .i64 x.H, .int .i64 x.K, .int .i64 x.L, .int .i64 x.D, .int .i64 x.N, .int .i64 x.M, .int .i64 x.E.R, .int .i64 x.E.C, .slice x.E.O x.E.n x.E.c, .slice x.tO x.tn x.tc, .slice x.yO x.yn x.yc, .slice x.F.O x.F.n x.F.c, .int .i64 x.Q.R, .int .i64 x.Q.C, .slice x.Q.O x.Q.n x.Q.c, .slice x.mO x.mn x.mc] 34)) wtZ 34
  rw [hs] at this
  exact this
theorem Own.setB {w wy : World} {base : Nat} (hb : w.heap.size + 2 ≤ base) {e : TypeId} {sz : Nat} {v : Value} {n : Nat} {cs : Nat → Value} (ho : Own wy base e sz v n cs) (j : Nat) (y : Value) : Own (wy.setCell ⟨w.heap.size, j, none⟩ y) base e sz v n cs :=
  ho.set (fun e => by have := (ho.lt _ e).1; omega)
theorem res_set {z : World} {B : Nat} {F : Nat → Value} (h : z.rowIs (B + 1) 34 18 F) (j : Nat) (y : Value) : (z.setCell ⟨B, j, none⟩ y).rowIs (B + 1) 34 18 F := h.setOther (by show B + 1 ≠ B; omega) _
theorem low_set {w z : World} (h : Below w.heap.size w z) (j : Nat) (y : Value) : Below w.heap.size w (z.setCell ⟨w.heap.size, j, none⟩ y) := h.setCell (Nat.le_refl _) _
theorem Cp.EQ {w z : World} {x : WtD} (g : Cp w z x) (u1 u2 : Option Addr) (c1 c2 : Nat) : Cp w ((((((z.setCell ⟨w.heap.size, 8, none⟩ (.int .i64 x.E.R)).setCell ⟨w.heap.size, 9, none⟩ (.int .i64 x.E.C)).setCell ⟨w.heap.size, 10, none⟩ (.slice u1 x.E.n c1)).setCell ⟨w.heap.size, 14, none⟩ (.int .i64 x.Q.R)).setCell ⟨w.heap.size, 15, none⟩ (.int .i64 x.Q.C)).setCell ⟨w.heap.size, 16, none⟩ (.slice u2 x.Q.n c2)) { x with E := { x.E with O := u1, c := c1 }, Q := { x.Q with O := u2, c := c2 } } :=
  ⟨put_Q (x := _) _ _ (put_E _ _ g.box), (res_set (res_set (res_set (res_set (res_set (res_set g.res _ _) _ _) _ _) _ _) _ _) _ _), (low_set (low_set (low_set (low_set (low_set (low_set g.low _ _) _ _) _ _) _ _) _ _) _ _)⟩
theorem Cp.QE {w z : World} {x : WtD} (g : Cp w z x) (u1 u2 : Option Addr) (c1 c2 : Nat) : Cp w ((((((z.setCell ⟨w.heap.size, 14, none⟩ (.int .i64 x.Q.R)).setCell ⟨w.heap.size, 15, none⟩ (.int .i64 x.Q.C)).setCell ⟨w.heap.size, 16, none⟩ (.slice u2 x.Q.n c2)).setCell ⟨w.heap.size, 8, none⟩ (.int .i64 x.E.R)).setCell ⟨w.heap.size, 9, none⟩ (.int .i64 x.E.C)).setCell ⟨w.heap.size, 10, none⟩ (.slice u1 x.E.n c1)) { x with E := { x.E with O := u1, c := c1 }, Q := { x.Q with O := u2, c := c2 } } :=
  ⟨put_E (x := _) _ _ (put_Q _ _ g.box), (res_set (res_set (res_set (res_set (res_set (res_set g.res _ _) _ _) _ _) _ _) _ _) _ _), (low_set (low_set (low_set (low_set (low_set (low_set g.low _ _) _ _) _ _) _ _) _ _) _ _)⟩
theorem Cp.TF {w z : World} {x : WtD} (g : Cp w z x) (u1 u2 : Option Addr) (c1 c2 : Nat) : Cp w ((z.setCell ⟨w.heap.size, 11, none⟩ (.slice u1 x.tn c1)).setCell ⟨w.heap.size, 13, none⟩ (.slice u2 x.F.n c2)) { x with tO := u1, tc := c1, F := { x.F with O := u2, c := c2 } } :=
  ⟨put_F (x := _) _ _ (put_T _ _ g.box), (res_set (res_set g.res _ _) _ _), (low_set (low_set g.low _ _) _ _)⟩
theorem Cp.FT {w z : World} {x : WtD} (g : Cp w z x) (u1 u2 : Option Addr) (c1 c2 : Nat) : Cp w ((z.setCell ⟨w.heap.size, 13, none⟩ (.slice u2 x.F.n c2)).setCell ⟨w.heap.size, 11, none⟩ (.slice u1 x.tn c1)) { x with tO := u1, tc := c1, F := { x.F with O := u2, c := c2 } } :=
  ⟨put_T (x := _) _ _ (put_F _ _ g.box), (res_set (res_set g.res _ _) _ _), (low_set (low_set g.low _ _) _ _)⟩
theorem Cp.YM {w z : World} {x : WtD} (g : Cp w z x) (u1 u2 : Option Addr) (c1 c2 : Nat) : Cp w ((z.setCell ⟨w.heap.size, 12, none⟩ (.slice u1 x.yn c1)).setCell ⟨w.heap.size, 17, none⟩ (.slice u2 x.mn c2)) { x with yO := u1, yc := c1, mO := u2, mc := c2 } :=
  ⟨put_M (x := _) _ _ (put_Y _ _ g.box), (res_set (res_set g.res _ _) _ _), (low_set (low_set g.low _ _) _ _)⟩
theorem Cp.MY {w z : World} {x : WtD} (g : Cp w z x) (u1 u2 : Option Addr) (c1 c2 : Nat) : Cp w ((z.setCell ⟨w.heap.size, 17, none⟩ (.slice u2 x.mn c2)).setCell ⟨w.heap.size, 12, none⟩ (.slice u1 x.yn c1)) { x with yO := u1, yc := c1, mO := u2, mc := c2 } :=
  ⟨put_Y (x := _) _ _ (put_M _ _ g.box), (res_set (res_set g.res _ _) _ _), (low_set (low_set g.low _ _) _ _)⟩
theorem Own.six {w wy : World} {base : Nat} (hb : w.heap.size + 2 ≤ base) {e : TypeId} {sz : Nat} {v : Value} {n : Nat} {cs : Nat → Value} (ho : Own wy base e sz v n cs) {j0 j1 j2 j3 j4 j5 : Nat} {y0 y1 y2 y3 y4 y5 : Value} : Own ((((((wy.setCell ⟨w.heap.size, j0, none⟩ y0).setCell ⟨w.heap.size, j1, none⟩ y1).setCell ⟨w.heap.size, j2, none⟩ y2).setCell ⟨w.heap.size, j3, none⟩ y3).setCell ⟨w.heap.size, j4, none⟩ y4).setCell ⟨w.heap.size, j5, none⟩ y5) base e sz v n cs := (Own.setB (w := w) hb (Own.setB (w := w) hb (Own.setB (w := w) hb (Own.setB (w := w) hb (Own.setB (w := w) hb (Own.setB (w := w) hb ho _ _) _ _) _ _) _ _) _ _) _ _)
theorem Own.two {w wy : World} {base : Nat} (hb : w.heap.size + 2 ≤ base) {e : TypeId} {sz : Nat} {v : Value} {n : Nat} {cs : Nat → Value} (ho : Own wy base e sz v n cs) {j0 j1 : Nat} {y0 y1 : Value} : Own ((wy.setCell ⟨w.heap.size, j0, none⟩ y0).setCell ⟨w.heap.size, j1, none⟩ y1) base e sz v n cs := (Own.setB (w := w) hb (Own.setB (w := w) hb ho _ _) _ _)
end Go.Proofs.Ytilghknalbhacaa
