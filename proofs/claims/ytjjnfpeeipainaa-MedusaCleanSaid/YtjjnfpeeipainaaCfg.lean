import Derived.Test.YtjjnfpeeipainaaCfgRef
import Derived.Laws.Rows
import Derived.Laws.Tables
import Derived.Laws.CopyOwn
namespace Go.Proofs.Ytjjnfpeeipainaa
open Go.RowKit
/-! CheckConfig: the program's. -/
theorem heap_new (w : World) (o : Obj) : (w.alloc o).heap[w.heap.size]? = some o := by
  show (w.heap.push o)[w.heap.size]? = _
  simp
theorem heap_new2 (w : World) (o1 o2 : Obj) : ((w.alloc o1).alloc o2).heap[w.heap.size + 1]? = some o2 := by
  have := heap_new (w.alloc o1) o2; simpa using this
theorem cell_heap {w : World} {b : Nat} {cs : Array Value} {t : TypeId} {fr : Nat × Nat} (h : w.heap[b]? = some (.cells cs t fr)) (j : Nat) : w.cell? ⟨b, j, none⟩ = cs[j]? := by
  unfold World.cell?; simp [h]
def bIs (V W H K L D N M : Int) : Nat → Int
  | 0 => V | 1 => W | 2 => H | 3 => K | 4 => L | 5 => D | 6 => N | _ => M
def bLo : Nat → Int
  | 0 => 2 | 1 => 2 | 2 => 1 | 3 => 1 | 4 => 1 | 5 => 1 | 6 => 1 | _ => 0
def bHi (H : Int) : Nat → Int
  | 0 => 64 | 1 => 32 | 2 => 4 | 3 => H | 4 => 4 | 5 => 64 | 6 => 64 | _ => 4
def tabC (V W H K L D N M : Int) : Array Value := #[.int .i64 V, .int .i64 2, .int .i64 64, .int .i64 W, .int .i64 2, .int .i64 32, .int .i64 H, .int .i64 1, .int .i64 4, .int .i64 K, .int .i64 1, .int .i64 H, .int .i64 L, .int .i64 1, .int .i64 4, .int .i64 D, .int .i64 1, .int .i64 64, .int .i64 N, .int .i64 1, .int .i64 64, .int .i64 M, .int .i64 0, .int .i64 4]
def zeroC : Array Value := #[.int .i64 0, .int .i64 0, .int .i64 0, .int .i64 0, .int .i64 0, .int .i64 0, .int .i64 0, .int .i64 0, .int .i64 0, .int .i64 0, .int .i64 0, .int .i64 0, .int .i64 0, .int .i64 0, .int .i64 0, .int .i64 0, .int .i64 0, .int .i64 0, .int .i64 0, .int .i64 0, .int .i64 0, .int .i64 0, .int .i64 0, .int .i64 0]
theorem tabC_0 (V W H K L D N M : Int) (w : World) : (Instr.index 139 (.agg (tabC V W H K L D N M)) (.int .i64 0)).run Try.prog w = .ok (.agg #[.int .i64 (bIs V W H K L D N M 0), .int .i64 (bLo 0), .int .i64 (bHi H 0)]) w := by kernel_rfl
theorem tabC_1 (V W H K L D N M : Int) (w : World) : (Instr.index 139 (.agg (tabC V W H K L D N M)) (.int .i64 1)).run Try.prog w = .ok (.agg #[.int .i64 (bIs V W H K L D N M 1), .int .i64 (bLo 1), .int .i64 (bHi H 1)]) w := by kernel_rfl
theorem tabC_2 (V W H K L D N M : Int) (w : World) : (Instr.index 139 (.agg (tabC V W H K L D N M)) (.int .i64 2)).run Try.prog w = .ok (.agg #[.int .i64 (bIs V W H K L D N M 2), .int .i64 (bLo 2), .int .i64 (bHi H 2)]) w := by kernel_rfl
theorem tabC_3 (V W H K L D N M : Int) (w : World) : (Instr.index 139 (.agg (tabC V W H K L D N M)) (.int .i64 3)).run Try.prog w = .ok (.agg #[.int .i64 (bIs V W H K L D N M 3), .int .i64 (bLo 3), .int .i64 (bHi H 3)]) w := by kernel_rfl
theorem tabC_4 (V W H K L D N M : Int) (w : World) : (Instr.index 139 (.agg (tabC V W H K L D N M)) (.int .i64 4)).run Try.prog w = .ok (.agg #[.int .i64 (bIs V W H K L D N M 4), .int .i64 (bLo 4), .int .i64 (bHi H 4)]) w := by kernel_rfl
theorem tabC_5 (V W H K L D N M : Int) (w : World) : (Instr.index 139 (.agg (tabC V W H K L D N M)) (.int .i64 5)).run Try.prog w = .ok (.agg #[.int .i64 (bIs V W H K L D N M 5), .int .i64 (bLo 5), .int .i64 (bHi H 5)]) w := by kernel_rfl
theorem tabC_6 (V W H K L D N M : Int) (w : World) : (Instr.index 139 (.agg (tabC V W H K L D N M)) (.int .i64 6)).run Try.prog w = .ok (.agg #[.int .i64 (bIs V W H K L D N M 6), .int .i64 (bLo 6), .int .i64 (bHi H 6)]) w := by kernel_rfl
theorem tabC_7 (V W H K L D N M : Int) (w : World) : (Instr.index 139 (.agg (tabC V W H K L D N M)) (.int .i64 7)).run Try.prog w = .ok (.agg #[.int .i64 (bIs V W H K L D N M 7), .int .i64 (bLo 7), .int .i64 (bHi H 7)]) w := by kernel_rfl
theorem tabC_at (V W H K L D N M : Int) (k : Nat) (h : k < 8) (w : World) : (Instr.index 139 (.agg (tabC V W H K L D N M)) (.int .i64 (k : Int))).run Try.prog w = .ok (.agg #[.int .i64 (bIs V W H K L D N M k), .int .i64 (bLo k), .int .i64 (bHi H k)]) w := by
  match k, h with
  | 0, _ => exact tabC_0 V W H K L D N M w
  | 1, _ => exact tabC_1 V W H K L D N M w
  | 2, _ => exact tabC_2 V W H K L D N M w
  | 3, _ => exact tabC_3 V W H K L D N M w
  | 4, _ => exact tabC_4 V W H K L D N M w
  | 5, _ => exact tabC_5 V W H K L D N M w
  | 6, _ => exact tabC_6 V W H K L D N M w
  | 7, _ => exact tabC_7 V W H K L D N M w
/-- What the walk keeps of the world behind the table. -/
structure CW (w w2 : World) (V W H K L D N M : Int) : Prop where
  tab : ∃ t, w2.heap[w.heap.size + 1]? = some (.cells (tabC V W H K L D N M) t (0, 0))
  c1 : w2.cell? ⟨w.heap.size, 1, none⟩ = some (.int .i64 W)
  c2 : w2.cell? ⟨w.heap.size, 2, none⟩ = some (.int .i64 H)
  c3 : w2.cell? ⟨w.heap.size, 3, none⟩ = some (.int .i64 K)
  sz : w.heap.size + 2 ≤ w2.heap.size
  low : Below w.heap.size w w2
theorem cw_mk (w : World) (V W H K L D N M : Int) (t1 t2 : TypeId) : CW w (((w.alloc (.cells #[.int .i64 V, .int .i64 W, .int .i64 H, .int .i64 K, .int .i64 L, .int .i64 D, .int .i64 N, .int .i64 M] t1)).alloc (.cells zeroC t2)).setRow (w.heap.size + 1) (tabC V W H K L D N M)) V W H K L D N M := by
  have h0 := heap_new w (.cells #[.int .i64 V, .int .i64 W, .int .i64 H, .int .i64 K, .int .i64 L, .int .i64 D, .int .i64 N, .int .i64 M] t1)
  have h1 : ((w.alloc (.cells #[.int .i64 V, .int .i64 W, .int .i64 H, .int .i64 K, .int .i64 L, .int .i64 D, .int .i64 N, .int .i64 M] t1)).alloc (.cells zeroC t2)).heap[w.heap.size]? = some (.cells #[.int .i64 V, .int .i64 W, .int .i64 H, .int .i64 K, .int .i64 L, .int .i64 D, .int .i64 N, .int .i64 M] t1) := by
    rw [(fresh_alloc _ (.cells zeroC t2)).block w.heap.size (by simp), h0]
  have h2 := heap_new2 w (.cells #[.int .i64 V, .int .i64 W, .int .i64 H, .int .i64 K, .int .i64 L, .int .i64 D, .int .i64 N, .int .i64 M] t1) (.cells zeroC t2)
  have h3 := setRow_other _ (w.heap.size + 1) w.heap.size (tabC V W H K L D N M) (by omega) ▸ h1
  exact ⟨⟨t2, setRow_heap _ _ _ _ _ _ h2⟩, cell_heap h3 1, cell_heap h3 2, cell_heap h3 3, by simp, below_setRow (fresh_trans (fresh_alloc _ _) (fresh_alloc _ _)) (by omega) _⟩
theorem store_tab {ops : Array Oper} {rest : List Oper} {o : Oper} {a : Act} {Q : Exit → Act → World → Prop} (w : World) (V W H K L D N M : Int) (hgd : o.guard = none) (x y : Operand) (ho : o.op = .store 139 x y)
    (hx : a.eval x = .pointer (some ⟨w.heap.size + 1, 0, none⟩)) (hy : a.eval y = .agg (tabC V W H K L D N M)) (t1 t2 : TypeId)
    (h : ∀ w2, CW w w2 V W H K L D N M → wpList Try.prog ops Q rest (a.put o.dst undef) w2) :
    wpList Try.prog ops Q (o :: rest) a ((w.alloc (.cells #[.int .i64 V, .int .i64 W, .int .i64 H, .int .i64 K, .int .i64 L, .int .i64 D, .int .i64 N, .int .i64 M] t1)).alloc (.cells #[.int .i64 0, .int .i64 0, .int .i64 0, .int .i64 0, .int .i64 0, .int .i64 0, .int .i64 0, .int .i64 0, .int .i64 0, .int .i64 0, .int .i64 0, .int .i64 0, .int .i64 0, .int .i64 0, .int .i64 0, .int .i64 0, .int .i64 0, .int .i64 0, .int .i64 0, .int .i64 0, .int .i64 0, .int .i64 0, .int .i64 0, .int .i64 0] t2)) :=
  wpList_store_row hgd 139 x y ho (w.heap.size + 1) (tabC V W H K L D N M) hx hy t2 zeroC (heap_new2 _ _ _) (by kernel_rfl) rfl (by kernel_rfl) (h _ (cw_mk w V W H K L D N M t1 t2))
end Go.Proofs.Ytjjnfpeeipainaa
