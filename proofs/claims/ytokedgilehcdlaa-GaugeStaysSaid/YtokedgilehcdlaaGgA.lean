import Derived.Test.YtokedgilehcdlaaRows
import Derived.Test.YtokedgilehcdlaaOwn
import Derived.Laws.Rows
import Derived.Laws.ResultCell
namespace Go.Proofs.Ytokedgilehcdlaa
open Go.RowKit
/-! Gauges: bounded. -/
def bM (m : Int) : Int := min (max m 1) 32
def bS (s m : Int) : Int := min (max s 1) (bM m)
def bR (r : Int) : Int := min (max r 0) 3
theorem agg3 {a b c a' b' c' : Int} (h1 : a = a') (h2 : b = b') (h3 : c = c') : Ending.returned (.agg #[.int .i64 a, .int .i64 b, .int .i64 c]) = .returned (.agg #[.int .i64 a', .int .i64 b', .int .i64 c']) := by rw [h1, h2, h3]
theorem box3 (w : World) (p t d : Int) (ty : TypeId) : (w.alloc (.cells #[.int .i64 p, .int .i64 t, .int .i64 d] ty)).cell? ⟨w.heap.size, 0, none⟩ = some (.int .i64 p) ∧ (w.alloc (.cells #[.int .i64 p, .int .i64 t, .int .i64 d] ty)).cell? ⟨w.heap.size, 1, none⟩ = some (.int .i64 t) ∧ (w.alloc (.cells #[.int .i64 p, .int .i64 t, .int .i64 d] ty)).cell? ⟨w.heap.size, 2, none⟩ = some (.int .i64 d) := by
  refine ⟨?_, ?_, ?_⟩ <;> (unfold World.cell?; rw [heap_alloc_new]; rfl)
set_option maxRecDepth 20000 in
set_option maxHeartbeats 1600000 in
theorem bounded_any (w : World) (s m r : Int) :
    Calls Try.prog 17 #[.agg #[.int .i64 s, .int .i64 m, .int .i64 r]] w fun e w' => e = .returned (.agg #[.int .i64 (bS s m), .int .i64 (bM m), .int .i64 (bR r)]) ∧ Below w.heap.size w w' := by
  go_enter Try.func17, Try.ntmps17
  go_wp2
  all_goals
    refine bodyPost_ret (results_cell_row rfl _ _ (w.heap.size + 1) 23 _ (0, 0) _ rfl (heap_alloc2_new _ _ _) Try.underlying23 rfl (by kernel_rfl)) rfl ?_
    exact ⟨agg3 (by unfold bS bM; omega) (by unfold bM; omega) (by unfold bR; omega), (fresh_alloc w _).alloc (by simp) _⟩
end Go.Proofs.Ytokedgilehcdlaa
