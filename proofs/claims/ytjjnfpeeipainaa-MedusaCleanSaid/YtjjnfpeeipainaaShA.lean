import Derived.Deep.MidRow
import Derived.Deep.WholeRow
import Derived.Laws.Tables
import Derived.Test.YtjjnfpeeipainaaShp
import Derived.Test.YtjjnfpeeipainaaCut7
namespace Go.Proofs.Ytjjnfpeeipainaa
open Go.RowKit
/-! shapes, matsOf, cutShifts. -/
def fv (n : Nat) : Value := .func (.func n) #[] #[]
def tab8 : Array Value := #[.func (.func 94) #[] #[], .func (.func 94) #[] #[], .func (.func 96) #[] #[], .func (.func 94) #[] #[], .func (.func 96) #[] #[], .func (.func 94) #[] #[], .func (.func 94) #[] #[], .func (.func 94) #[] #[], .func (.func 95) #[] #[], .func (.func 94) #[] #[], .func (.func 95) #[] #[], .func (.func 94) #[] #[], .func (.func 94) #[] #[], .func (.func 95) #[] #[], .func (.func 93) #[] #[], .func (.func 94) #[] #[]]
theorem size8 : (Try.prog.info? 142).map (·.size) = some 16 := by kernel_rfl
set_option maxRecDepth 20000 in
set_option maxHeartbeats 1600000 in
theorem shapes_any (w : World) : Calls Try.prog 82 #[] w fun e w' => e = .returned (.agg tab8) ∧ Below w.heap.size w w' := by
  go_enter Try.func82, Try.ntmps82
  go_wp2_with (refine wpList_store_row rfl 142 _ _ rfl w.heap.size tab8 rfl rfl 142 _ (heap_new _ _) size8 rfl (by kernel_rfl) ?_)
  refine bodyPost_ret (v := .agg tab8) ?_ ?_ ?_
  · exact results_cell_row Try.results82 _ _ w.heap.size 142 _ (0, 0) _ rfl (setRow_heap _ _ _ _ _ _ (heap_new _ _)) Try.underlying142 rfl (by kernel_rfl)
  · rfl
  · exact ⟨rfl, below_setRow (fresh_alloc _ _) (Nat.le_refl _) _⟩
end Go.Proofs.Ytjjnfpeeipainaa
