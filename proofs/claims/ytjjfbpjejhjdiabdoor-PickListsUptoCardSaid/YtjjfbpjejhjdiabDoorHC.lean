import Derived.Shelf.SlSortCmp.NoneTotal
import Derived.Shelf.SlicesG.Cmp
import Derived.Ground.SlsfProg
import Derived.Ground.SlgcProg
import Derived.Deep.RegionHeld3
import Derived.Test.YtjjfbpjejhjdiabDoorHOrd
import Derived.Test.YtjjfbpjejhjdiabDoorHA
namespace Go.Proofs
open Go.Shelf Go.RowKit Go.Lib Go.Sort
def YtjjfbpjejhjdiabDoor.sortC_ren : Go.Shelf.Ren := ⟨fun | 6 => 66 | 15 => 73 | 14 => 72 | 28 => 84 | 29 => 85 | 20 => 76 | 21 => 77 | 22 => 78 | 23 => 79 | 24 => 80 | 25 => 81 | 26 => 82 | 27 => 83 | 46 => 86 | 47 => 87 | 48 => 88 | 49 => 89 | 50 => 90 | 57 => 91 | n => n, fun | 22 => 83 | 24 => 87 | 25 => 96 | 3 => 3 | 39 => 91 | 0 => 0 | 53 => 110 | 55 => 22 | 4 => 4 | 46 => 103 | 45 => 102 | 50 => 107 | 5 => 5 | 9 => 9 | 66 => 112 | 70 => 116 | 76 => 118 | 77 => 119 | n => n, fun | n => n⟩
theorem YtjjfbpjejhjdiabDoor.sortC : Go.Proofs.SlLaysF0.n6 Tryd.prog YtjjfbpjejhjdiabDoor.sortC_ren := {
  mixed := by kernel_rfl
  f6 := ⟨Tryd.f66.name, by decide, Tryd.func66.trans (congrArg some (by kernel_rfl))⟩
  f14 := ⟨Tryd.f72.name, by decide, Tryd.func72.trans (congrArg some (by kernel_rfl))⟩
  f15 := Tryd.func73.trans (congrArg some (by kernel_rfl))
  f20 := ⟨Tryd.f76.name, by decide, Tryd.func76.trans (congrArg some (by kernel_rfl))⟩
  f21 := ⟨Tryd.f77.name, by decide, Tryd.func77.trans (congrArg some (by kernel_rfl))⟩
  f22 := ⟨Tryd.f78.name, by decide, Tryd.func78.trans (congrArg some (by kernel_rfl))⟩
  f23 := ⟨Tryd.f79.name, by decide, Tryd.func79.trans (congrArg some (by kernel_rfl))⟩
  f24 := ⟨Tryd.f80.name, by decide, Tryd.func80.trans (congrArg some (by kernel_rfl))⟩
  f25 := ⟨Tryd.f81.name, by decide, Tryd.func81.trans (congrArg some (by kernel_rfl))⟩
  f26 := ⟨Tryd.f82.name, by decide, Tryd.func82.trans (congrArg some (by kernel_rfl))⟩
  f27 := ⟨Tryd.f83.name, by decide, Tryd.func83.trans (congrArg some (by kernel_rfl))⟩
  f28 := Tryd.func84.trans (congrArg some (by kernel_rfl))
  f29 := Tryd.func85.trans (congrArg some (by kernel_rfl))
  f46 := ⟨Tryd.f86.name, by decide, Tryd.func86.trans (congrArg some (by kernel_rfl))⟩
  f47 := Tryd.func87.trans (congrArg some (by kernel_rfl))
  f48 := Tryd.func88.trans (congrArg some (by kernel_rfl))
  f49 := ⟨Tryd.f89.name, by decide, Tryd.func89.trans (congrArg some (by kernel_rfl))⟩
  f50 := ⟨Tryd.f90.name, by decide, Tryd.func90.trans (congrArg some (by kernel_rfl))⟩
  f57 := ⟨Tryd.f91.name, by decide, Tryd.func91.trans (congrArg some (by kernel_rfl))⟩
  t0 := Tryd.underlying0
  a0 := Tryd.isAgg0
  z0 := Tryd.sizeOf0
  v0 := Tryd.zeroValue0
  t3 := Tryd.underlying3
  a3 := Tryd.isAgg3
  z3 := Tryd.sizeOf3
  v3 := Tryd.zeroValue3
  t4 := Tryd.underlying4
  a4 := Tryd.isAgg4
  z4 := Tryd.sizeOf4
  v4 := Tryd.zeroValue4
  t5 := Tryd.underlying5
  a5 := Tryd.isAgg5
  z5 := Tryd.sizeOf5
  v5 := Tryd.zeroValue5
  t9 := Tryd.underlying9
  a9 := Tryd.isAgg9
  z9 := Tryd.sizeOf9
  v9 := Tryd.zeroValue9
  t22 := Tryd.underlying83
  a22 := Tryd.isAgg83
  z22 := Tryd.sizeOf83
  v22 := Tryd.zeroValue83
  t25 := Tryd.underlying96
  a25 := Tryd.isAgg96
  z25 := Tryd.sizeOf96
  v25 := Tryd.zeroValue96
  t39 := Tryd.underlying91
  a39 := Tryd.isAgg91
  z39 := Tryd.sizeOf91
  v39 := Tryd.zeroValue91
  t45 := Tryd.underlying102
  a45 := Tryd.isAgg102
  z45 := Tryd.sizeOf102
  v45 := Tryd.zeroValue102
  t46 := Tryd.underlying103
  a46 := Tryd.isAgg103
  z46 := Tryd.sizeOf103
  v46 := Tryd.zeroValue103
  t50 := Tryd.underlying107
  a50 := Tryd.isAgg107
  z50 := Tryd.sizeOf107
  v50 := Tryd.zeroValue107
  t53 := Tryd.underlying110
  a53 := Tryd.isAgg110
  z53 := Tryd.sizeOf110
  v53 := Tryd.zeroValue110
  t55 := Tryd.underlying22
  a55 := Tryd.isAgg22
  z55 := Tryd.sizeOf22
  v55 := Tryd.zeroValue22
  t66 := Tryd.underlying112
  a66 := Tryd.isAgg112
  z66 := Tryd.sizeOf112
  v66 := Tryd.zeroValue112
  t70 := Tryd.underlying116
  a70 := Tryd.isAgg116
  z70 := Tryd.sizeOf116
  v70 := Tryd.zeroValue116
  t76 := Tryd.underlying118
  a76 := Tryd.isAgg118
  z76 := Tryd.sizeOf118
  v76 := Tryd.zeroValue118
  t77 := Tryd.underlying119
  a77 := Tryd.isAgg119
  z77 := Tryd.sizeOf119
  v77 := Tryd.zeroValue119 }
def YtjjfbpjejhjdiabDoor.cmpW_ren : Go.Shelf.Ren := ⟨fun | 5 => 69 | 7 => 74 | n => n, fun | 22 => 2 | 3 => 3 | 4 => 4 | n => n, fun | n => n⟩
theorem YtjjfbpjejhjdiabDoor.cmpW : Go.Proofs.SlLaysC2.n5 Tryd.prog YtjjfbpjejhjdiabDoor.cmpW_ren := {
  mixed := by kernel_rfl
  f5 := ⟨Tryd.f69.name, by decide, Tryd.func69.trans (congrArg some (by kernel_rfl))⟩
  f7 := ⟨Tryd.f74.name, by decide, Tryd.func74.trans (congrArg some (by kernel_rfl))⟩
  t3 := Tryd.underlying3
  a3 := Tryd.isAgg3
  z3 := Tryd.sizeOf3
  v3 := Tryd.zeroValue3
  t4 := Tryd.underlying4
  a4 := Tryd.isAgg4
  z4 := Tryd.sizeOf4
  v4 := Tryd.zeroValue4
  t22 := Tryd.underlying2
  a22 := Tryd.isAgg2
  z22 := Tryd.sizeOf2
  v22 := Tryd.zeroValue2 }
def YtjjfbpjejhjdiabDoor.cmpI_ren : Go.Shelf.Ren := ⟨fun | 5 => 70 | 7 => 75 | n => n, fun | 22 => 3 | 3 => 3 | 4 => 4 | n => n, fun | n => n⟩
theorem YtjjfbpjejhjdiabDoor.cmpI : Go.Proofs.SlLaysC2.n5 Tryd.prog YtjjfbpjejhjdiabDoor.cmpI_ren := {
  mixed := by kernel_rfl
  f5 := ⟨Tryd.f70.name, by decide, Tryd.func70.trans (congrArg some (by kernel_rfl))⟩
  f7 := ⟨Tryd.f75.name, by decide, Tryd.func75.trans (congrArg some (by kernel_rfl))⟩
  t3 := Tryd.underlying3
  a3 := Tryd.isAgg3
  z3 := Tryd.sizeOf3
  v3 := Tryd.zeroValue3
  t4 := Tryd.underlying4
  a4 := Tryd.isAgg4
  z4 := Tryd.sizeOf4
  v4 := Tryd.zeroValue4
  t22 := Tryd.underlying3
  a22 := Tryd.isAgg3
  z22 := Tryd.sizeOf3
  v22 := Tryd.zeroValue3 }
end Go.Proofs
namespace Go.Proofs.YtjjfbpjejhjdiabDoor
open Go.Shelf Go.RowKit Go.Lib Go.Sort
/-! The order's comparison. -/
theorem cmpW_any (x y : Int) (w : World) : Calls Tryd.prog 69 #[.int .i64 x, .int .i64 y] w fun e w' => e = .returned (.int .i64 (Lib.compareInt x y)) ∧ w' = w := AnyG.cmp_Compare_int YtjjfbpjejhjdiabDoor.cmpW x y w
theorem cmpI_any (x y : Int) (w : World) : Calls Tryd.prog 70 #[.int .i64 x, .int .i64 y] w fun e w' => e = .returned (.int .i64 (Lib.compareInt x y)) ∧ w' = w := AnyG.cmp_Compare_int YtjjfbpjejhjdiabDoor.cmpI x y w
def Gr (W z : World) : Prop := ∃ q os, z = grow (W.drewN q) os
theorem Gr.alloc {W z : World} (h : Gr W z) (o : Obj) : Gr W (z.alloc o) := by
  obtain ⟨q, os, rfl⟩ := h
  exact ⟨q, os ++ #[o], by rw [alloc_eq_grow, grow_grow]⟩
theorem Gr.drewN {W z : World} (h : Gr W z) (k : Nat) : Gr W (z.drewN k) := by
  obtain ⟨q, os, rfl⟩ := h
  exact ⟨q + k, os, by simp [grow, World.drewN, Nat.add_assoc]⟩
theorem Gr.refl (W : World) : Gr W W := ⟨0, #[], by rw [grow_empty]; rfl⟩
theorem cfH_eq (x y : Int × Int) : (if Lib.compareInt y.2 x.2 = 0 then Lib.compareInt x.1 y.1 else Lib.compareInt y.2 x.2) = cfH x y := rfl
set_option maxRecDepth 20000 in
set_option maxHeartbeats 1600000 in
theorem cmp_any (x y : Int × Int) (W : World) : Calls Tryd.prog 67 #[.agg #[.int .i64 x.1, .int .i64 x.2], .agg #[.int .i64 y.1, .int .i64 y.2]] W fun e w' => e = .returned (.int .i64 (cfH x y)) ∧ Gr W w' := by
  have HW := hidd (fun W' => cmpW_any y.2 x.2 W')
  have HI := hidd (fun W' => cmpI_any x.1 y.1 W')
  rw [← cfH_eq]
  obtain ⟨a, b⟩ := x
  obtain ⟨c, d⟩ := y
  simp only at *
  generalize Lib.compareInt d b = r at *
  generalize Lib.compareInt a c = s at *
  have HO : Hid (∀ (w1 w2 : World), w2 = (w1.alloc (.cells #[.int .i64 r, .int .i64 s] 3)).drew → Calls Tryd.prog 68 #[.slice (some ⟨w1.heap.size, 0, none⟩) 2 2] w2 fun e w' => e = .returned (.int .i64 (if r = 0 then s else r)) ∧ w' = w2) := fun w1 w2 e => by
    subst e
    exact or_any (by simp) (by simp)
  generalize (if r = 0 then s else r) = t at *
  go_enter Tryd.func67, Tryd.ntmps67
  go_wp2
  have q0 : ((W.alloc (.cells #[.int .i64 a, .int .i64 b] 87)).alloc (.cells #[.int .i64 c, .int .i64 d] 87)).cell? ⟨W.heap.size, 0, none⟩ = some (.int .i64 a) := by simp
  have q1 : ((W.alloc (.cells #[.int .i64 a, .int .i64 b] 87)).alloc (.cells #[.int .i64 c, .int .i64 d] 87)).cell? ⟨W.heap.size, 1, none⟩ = some (.int .i64 b) := by simp
  have q2 : ((W.alloc (.cells #[.int .i64 a, .int .i64 b] 87)).alloc (.cells #[.int .i64 c, .int .i64 d] 87)).cell? ⟨W.heap.size + 1, 0, none⟩ = some (.int .i64 c) := by simp
  have q3 : ((W.alloc (.cells #[.int .i64 a, .int .i64 b] 87)).alloc (.cells #[.int .i64 c, .int .i64 d] 87)).cell? ⟨W.heap.size + 1, 1, none⟩ = some (.int .i64 d) := by simp
  have HG := hidd (((Gr.refl W).alloc (.cells #[.int .i64 a, .int .i64 b] 87)).alloc (.cells #[.int .i64 c, .int .i64 d] 87))
  generalize (W.alloc (.cells #[.int .i64 a, .int .i64 b] 87)).alloc (.cells #[.int .i64 c, .int .i64 d] 87) = W2 at *
  go_region_held3 (fun z => z.cell? ⟨W.heap.size, 0, none⟩ = some (.int .i64 a) ∧ z.cell? ⟨W.heap.size, 1, none⟩ = some (.int .i64 b) ∧ z.cell? ⟨W.heap.size + 1, 0, none⟩ = some (.int .i64 c) ∧ z.cell? ⟨W.heap.size + 1, 1, none⟩ = some (.int .i64 d))
    (first | (with_reducible exact ⟨q0, q1, q2, q3⟩) | go_keep)
    (first
    | (go_at_call 69; with_reducible refine (HW.out _).mono ?_; rintro e w1 ⟨rfl, h1⟩; rw [h1]; clear h1)
    | (go_at_call 70; with_reducible refine (HI.out _).mono ?_; rintro e w1 ⟨rfl, h1⟩; rw [h1]; clear h1)
    | (go_at_call 68; with_reducible refine (HO.out _ _ rfl).mono ?_; rintro e w1 ⟨rfl, h1⟩; rw [h1]; clear h1))
  all_goals
    go_wp2
    go_ret
    exact ⟨rfl, (HG.out.alloc _).drewN 1⟩
end Go.Proofs.YtjjfbpjejhjdiabDoor
