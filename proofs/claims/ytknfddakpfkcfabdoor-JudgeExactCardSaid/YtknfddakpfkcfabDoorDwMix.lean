import Derived.Test.YtknfddakpfkcfabDoorDwLater
import Derived.Test.YtknfddakpfkcfabDoorDwNums
import Derived.Laws.Rows
namespace Go.Proofs.YtknfddakpfkcfabDoor.Dw
open Go.RowKit
/-! draw.Mix, in a world that holds the table of the rounds. -/
def tab : Array Value := #[.int .i64 30, .int .u64 13787848793156543929, .int .i64 27, .int .u64 10723151780598845931, .int .i64 31, .int .u64 1]
def Holds (w : World) : Prop := ∃ t fr, w.heap[0]? = some (.cells tab t fr)
theorem Holds.later {w w' : World} (h : Holds w) (f : Fresh w w') : Holds w' := by
  obtain ⟨t, fr, e⟩ := h
  exact ⟨t, fr, f.row e⟩
theorem at0 (w : World) : (Instr.index 67 (.agg tab) (.int .i64 0)).run Tryd.prog w = .ok (.agg #[.int .i64 30, .int .u64 13787848793156543929]) w := by kernel_rfl
theorem at1 (w : World) : (Instr.index 67 (.agg tab) (.int .i64 1)).run Tryd.prog w = .ok (.agg #[.int .i64 27, .int .u64 10723151780598845931]) w := by kernel_rfl
theorem at2 (w : World) : (Instr.index 67 (.agg tab) (.int .i64 2)).run Tryd.prog w = .ok (.agg #[.int .i64 31, .int .u64 1]) w := by kernel_rfl
set_option maxHeartbeats 1000000 in
theorem mix_any (x : Nat) (w : World) (hw : Holds w) (hx : x < 18446744073709551616) :
    Calls Tryd.prog 19 #[.int .u64 (x : Int)] w fun e w' => e = .returned (.int .u64 ((mix x : Nat) : Int)) ∧ Fresh w w' := by
  obtain ⟨t, fr, hg⟩ := hw
  have HG := hidd hg
  clear hg
  have i0 := at0
  have i1 := at1
  have i2 := at2
  go_enter Tryd.func19, Tryd.ntmps19
  go_wp2_with (refine wpList_load_row rfl 67 _ rfl 0 rfl t _ fr _ HG.out Tryd.underlying67 rfl (by kernel_rfl) ?_)
  refine wp_loop_rounds 4 ?_
  rw [rounds_succ]
  go_wp2
  go_quiet (fail)
  go_wp2
  rw [xor30 x hx, nmul1]
  have f1 : Fresh w ((w.alloc (.cells #[.int .i64 30, .int .u64 13787848793156543929] 66)).drewN nq) := ((Fresh.refl w).alloc _ _).drewN _
  generalize ((w.alloc (.cells #[.int .i64 30, .int .u64 13787848793156543929] 66)).drewN nq) = w1 at f1
  have hy := mod_lt64 (xs 30 x * 13787848793156543929)
  obtain ⟨y, ey⟩ : ∃ y, y = xs 30 x * 13787848793156543929 % 18446744073709551616 := ⟨_, rfl⟩
  rw [← ey] at hy ⊢
  have EY := hidd ey
  clear ey
  rw [rounds_succ]
  go_wp2
  go_quiet (fail)
  go_wp2
  rw [xor27 y hy, nmul2]
  have f2 : Fresh w1 ((w1.alloc (.cells #[.int .i64 27, .int .u64 10723151780598845931] 66)).drewN nq) := ((Fresh.refl w1).alloc _ _).drewN _
  generalize ((w1.alloc (.cells #[.int .i64 27, .int .u64 10723151780598845931] 66)).drewN nq) = w2 at f2
  have hz := mod_lt64 (xs 27 y * 10723151780598845931)
  obtain ⟨z, ez⟩ : ∃ z, z = xs 27 y * 10723151780598845931 % 18446744073709551616 := ⟨_, rfl⟩
  rw [← ez] at hz ⊢
  have EZ := hidd ez
  clear ez
  rw [rounds_succ]
  go_wp2
  go_quiet (fail)
  go_wp2
  rw [xor31 z hz, nwrap _ (xs_lt hz)]
  have f3 : Fresh w2 ((w2.alloc (.cells #[.int .i64 31, .int .u64 1] 66)).drewN nq) := ((Fresh.refl w2).alloc _ _).drewN _
  generalize ((w2.alloc (.cells #[.int .i64 31, .int .u64 1] 66)).drewN nq) = w3 at f3
  rw [rounds_succ]
  go_wp2
  go_ret
  exact ⟨ret_int (by unfold mix; rw [← EY.out, ← EZ.out]), (f1.trans f2).trans f3⟩
end Go.Proofs.YtknfddakpfkcfabDoor.Dw
