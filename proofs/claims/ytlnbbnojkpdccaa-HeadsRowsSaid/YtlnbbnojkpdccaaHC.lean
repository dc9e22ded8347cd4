import Derived.Shelf.SlSortCmp.NoneTotal
import Derived.Shelf.SlicesG.Cmp
import Derived.Shelf.Lay
import Derived.Ground.SlsfProg
import Derived.Ground.SlgcProg
import Derived.Deep.RegionHeld3
import Derived.Test.YtlnbbnojkpdccaaHOrd
import Derived.Test.YtlnbbnojkpdccaaHA
namespace Go.Proofs
open Go.Shelf Go.RowKit Go.Lib Go.Sort
shelf_lay_g SlLaysF0.n6 Slsf 6 at Try 36 as Ytlnbbnojkpdccaa.sortC
shelf_lay_g SlLaysC2.n5 Slgc 5 at Try 39 as Ytlnbbnojkpdccaa.cmpW
shelf_lay_g SlLaysC2.n5 Slgc 5 at Try 40 as Ytlnbbnojkpdccaa.cmpI
end Go.Proofs
namespace Go.Proofs.Ytlnbbnojkpdccaa
open Go.Shelf Go.RowKit Go.Lib Go.Sort
/-! The order's comparison. -/
theorem cmpW_any (x y : Int) (w : World) : Calls Try.prog 39 #[.int .i64 x, .int .i64 y] w fun e w' => e = .returned (.int .i64 (Lib.compareInt x y)) ∧ w' = w := AnyG.cmp_Compare_int Ytlnbbnojkpdccaa.cmpW x y w
theorem cmpI_any (x y : Int) (w : World) : Calls Try.prog 40 #[.int .i64 x, .int .i64 y] w fun e w' => e = .returned (.int .i64 (Lib.compareInt x y)) ∧ w' = w := AnyG.cmp_Compare_int Ytlnbbnojkpdccaa.cmpI x y w
def Gr (W z : World) : Prop := ∃ q os, z = grow (W.drewN q) os
theorem Gr.alloc {W z : World} (h : Gr W z) (o : Obj) : Gr W (z.alloc o) := by
  obtain ⟨q, os, rfl⟩ := h
  exact ⟨q, os ++ #[o], by rw [alloc_eq_grow, grow_grow]⟩
theorem Gr.drewN {W z : World} (h : Gr W z) (k : Nat) : Gr W (z.drewN k) := by
  obtain ⟨q, os, rfl⟩ := h
  exact ⟨q + k, os, by simp [grow, World.drewN, Nat.add_assoc]⟩
theorem Gr.refl (W : World) : Gr W W := ⟨0, #[], by rw [grow_empty]; rfl⟩
theorem cfH_eq (x y : Int × Int) : (if Lib.compareInt y.2 x.2 = 0 then Lib.compareInt x.1 y.1 else Lib.compareInt y.2 x.2) = cfH x y := rfl
set_option maxRecDepth 20000 in
set_option maxHeartbeats 1600000 in
theorem cmp_any (x y : Int × Int) (W : World) : Calls Try.prog 37 #[.agg #[.int .i64 x.1, .int .i64 x.2], .agg #[.int .i64 y.1, .int .i64 y.2]] W fun e w' => e = .returned (.int .i64 (cfH x y)) ∧ Gr W w' := by
  have HW := hidd (fun W' => cmpW_any y.2 x.2 W')
  have HI := hidd (fun W' => cmpI_any x.1 y.1 W')
  rw [← cfH_eq]
  obtain ⟨a, b⟩ := x
  obtain ⟨c, d⟩ := y
  simp only at *
  generalize Lib.compareInt d b = r at *
  generalize Lib.compareInt a c = s at *
  have HO : Hid (∀ (w1 w2 : World), w2 = (w1.alloc (.cells #[.int .i64 r, .int .i64 s] 3)).drew → Calls Try.prog 38 #[.slice (some ⟨w1.heap.size, 0, none⟩) 2 2] w2 fun e w' => e = .returned (.int .i64 (if r = 0 then s else r)) ∧ w' = w2) := fun w1 w2 e => by
    subst e
    exact or_any (by simp) (by simp)
  generalize (if r = 0 then s else r) = t at *
  go_enter Try.func37, Try.ntmps37
  go_wp2
  have q0 : ((W.alloc (.cells #[.int .i64 a, .int .i64 b] 71)).alloc (.cells #[.int .i64 c, .int .i64 d] 71)).cell? ⟨W.heap.size, 0, none⟩ = some (.int .i64 a) := by simp
  have q1 : ((W.alloc (.cells #[.int .i64 a, .int .i64 b] 71)).alloc (.cells #[.int .i64 c, .int .i64 d] 71)).cell? ⟨W.heap.size, 1, none⟩ = some (.int .i64 b) := by simp
  have q2 : ((W.alloc (.cells #[.int .i64 a, .int .i64 b] 71)).alloc (.cells #[.int .i64 c, .int .i64 d] 71)).cell? ⟨W.heap.size + 1, 0, none⟩ = some (.int .i64 c) := by simp
  have q3 : ((W.alloc (.cells #[.int .i64 a, .int .i64 b] 71)).alloc (.cells #[.int .i64 c, .int .i64 d] 71)).cell? ⟨W.heap.size + 1, 1, none⟩ = some (.int .i64 d) := by simp
  have HG := hidd (((Gr.refl W).alloc (.cells #[.int .i64 a, .int .i64 b] 71)).alloc (.cells #[.int .i64 c, .int .i64 d] 71))
  generalize (W.alloc (.cells #[.int .i64 a, .int .i64 b] 71)).alloc (.cells #[.int .i64 c, .int .i64 d] 71) = W2 at *
  go_region_held3 (fun z => z.cell? ⟨W.heap.size, 0, none⟩ = some (.int .i64 a) ∧ z.cell? ⟨W.heap.size, 1, none⟩ = some (.int .i64 b) ∧ z.cell? ⟨W.heap.size + 1, 0, none⟩ = some (.int .i64 c) ∧ z.cell? ⟨W.heap.size + 1, 1, none⟩ = some (.int .i64 d))
    (first | (with_reducible exact ⟨q0, q1, q2, q3⟩) | go_keep)
    (first
    | (go_at_call 39; with_reducible refine (HW.out _).mono ?_; rintro e w1 ⟨rfl, h1⟩; rw [h1]; clear h1)
    | (go_at_call 40; with_reducible refine (HI.out _).mono ?_; rintro e w1 ⟨rfl, h1⟩; rw [h1]; clear h1)
    | (go_at_call 38; with_reducible refine (HO.out _ _ rfl).mono ?_; rintro e w1 ⟨rfl, h1⟩; rw [h1]; clear h1))
  all_goals
    go_wp2
    go_ret
    exact ⟨rfl, (HG.out.alloc _).drewN 1⟩
end Go.Proofs.Ytlnbbnojkpdccaa
