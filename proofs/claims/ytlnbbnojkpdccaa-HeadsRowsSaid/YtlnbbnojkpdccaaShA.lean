import Derived.Deep.MidRow
import Derived.Deep.WholeRow
import Derived.Laws.Tables
import Derived.Test.YtlnbbnojkpdccaaShp
import Derived.Test.YtlnbbnojkpdccaaCut7
namespace Go.Proofs.Ytlnbbnojkpdccaa
open Go.RowKit
/-! shapes, matsOf, cutShifts. -/
def fv (n : Nat) : Value := .func (.func n) #[] #[]
def tab8 : Array Value := #[.func (.func 79) #[] #[], .func (.func 79) #[] #[], .func (.func 81) #[] #[], .func (.func 79) #[] #[], .func (.func 81) #[] #[], .func (.func 79) #[] #[], .func (.func 79) #[] #[], .func (.func 79) #[] #[], .func (.func 80) #[] #[], .func (.func 79) #[] #[], .func (.func 80) #[] #[], .func (.func 79) #[] #[], .func (.func 79) #[] #[], .func (.func 80) #[] #[], .func (.func 78) #[] #[], .func (.func 79) #[] #[]]
theorem size8 : (Try.prog.info? 118).map (·.size) = some 16 := by kernel_rfl
set_option maxRecDepth 20000 in
set_option maxHeartbeats 1600000 in
theorem shapes_any (w : World) : Calls Try.prog 63 #[] w fun e w' => e = .returned (.agg tab8) ∧ Below w.heap.size w w' := by
  go_enter Try.func63, Try.ntmps63
  go_wp2_with (refine wpList_store_row rfl 118 _ _ rfl w.heap.size tab8 rfl rfl 118 _ (heap_new _ _) size8 rfl (by kernel_rfl) ?_)
  refine bodyPost_ret (v := .agg tab8) ?_ ?_ ?_
  · exact results_cell_row Try.results63 _ _ w.heap.size 118 _ (0, 0) _ rfl (setRow_heap _ _ _ _ _ _ (heap_new _ _)) Try.underlying118 rfl (by kernel_rfl)
  · rfl
  · exact ⟨rfl, below_setRow (fresh_alloc _ _) (Nat.le_refl _) _⟩
end Go.Proofs.Ytlnbbnojkpdccaa
