import Derived.Test.YtmhjpfjhppcfoaaGreatDoorCfgRef
import Derived.Laws.Rows
import Derived.Laws.Tables
import Derived.Laws.CopyOwn
namespace Go.Proofs.YtmhjpfjhppcfoaaGreatDoor
open Go.RowKit
/-! CheckConfig: the program's. -/
theorem heap_new (w : World) (o : Obj) : (w.alloc o).heap[w.heap.size]? = some o := by
  show (w.heap.push o)[w.heap.size]? = _
  simp
theorem heap_new2 (w : World) (o1 o2 : Obj) : ((w.alloc o1).alloc o2).heap[w.heap.size + 1]? = some o2 := by
  have := heap_new (w.alloc o1) o2; simpa using this
theorem cell_heap {w : World} {b : Nat} {cs : Array Value} {t : TypeId} {fr : Nat × Nat} (h : w.heap[b]? = some (.cells cs t fr)) (j : Nat) : w.cell? ⟨b, j, none⟩ = cs[j]? := by
  unfold World.cell?; simp [h]
def bIs (V W H K L D N M : Int) : Nat → Int
  | 0 => V | 1 => W | 2 => H | 3 => K | 4 => L | 5 => D | 6 => N | _ => M
def bLo : Nat → Int
  | 0 => 2 | 1 => 2 | 2 => 1 | 3 => 1 | 4 => 1 | 5 => 1 | 6 => 1 | _ => 0
def bHi (H : Int) : Nat → Int
  | 0 => 64 | 1 => 32 | 2 => 4 | 3 => H | 4 => 4 | 5 => 64 | 6 => 64 | _ => 4
def tabC (V W H K L D N M : Int) : Array Value := #[.int .i64 V, .int .i64 2, .int .i64 64, .int .i64 W, .int .i64 2, .int .i64 32, .int .i64 H, .int .i64 1, .int .i64 4, .int .i64 K, .int .i64 1, .int .i64 H, .int .i64 L, .int .i64 1, .int .i64 4, .int .i64 D, .int .i64 1, .int .i64 64, .int .i64 N, .int .i64 1, .int .i64 64, .int .i64 M, .int .i64 0, .int .i64 4]
def zeroC : Array Value := #[.int .i64 0, .int .i64 0, .int .i64 0, .int .i64 0, .int .i64 0, .int .i64 0, .int .i64 0, .int .i64 0, .int .i64 0, .int .i64 0, .int .i64 0, .int .i64 0, .int .i64 0, .int .i64 0, .int .i64 0, .int .i64 0, .int .i64 0, .int .i64 0, .int .i64 0, .int .i64 0, .int .i64 0, .int .i64 0, .int .i64 0, .int .i64 0]
theorem tabC_0 (V W H K L D N M : Int) (w : World) : (Instr.index 369 (.agg (tabC V W H K L D N M)) (.int .i64 0)).run Tryz.prog w = .ok (.agg #[.int .i64 (bIs V W H K L D N M 0), .int .i64 (bLo 0), .int .i64 (bHi H 0)]) w := by kernel_rfl
theorem tabC_1 (V W H K L D N M : Int) (w : World) : (Instr.index 369 (.agg (tabC V W H K L D N M)) (.int .i64 1)).run Tryz.prog w = .ok (.agg #[.int .i64 (bIs V W H K L D N M 1), .int .i64 (bLo 1), .int .i64 (bHi H 1)]) w := by kernel_rfl
theorem tabC_2 (V W H K L D N M : Int) (w : World) : (Instr.index 369 (.agg (tabC V W H K L D N M)) (.int .i64 2)).run Tryz.prog w = .ok (.agg #[.int .i64 (bIs V W H K L D N M 2), .int .i64 (bLo 2), .int .i64 (bHi H 2)]) w := by kernel_rfl
theorem tabC_3 (V W H K L D N M : Int) (w : World) : (Instr.index 369 (.agg (tabC V W H K L D N M)) (.int .i64 3)).run Tryz.prog w = .ok (.agg #[.int .i64 (bIs V W H K L D N M 3), .int .i64 (bLo 3), .int .i64 (bHi H 3)]) w := by kernel_rfl
theorem tabC_4 (V W H K L D N M : Int) (w : World) : (Instr.index 369 (.agg (tabC V W H K L D N M)) (.int .i64 4)).run Tryz.prog w = .ok (.agg #[.int .i64 (bIs V W H K L D N M 4), .int .i64 (bLo 4), .int .i64 (bHi H 4)]) w := by kernel_rfl
theorem tabC_5 (V W H K L D N M : Int) (w : World) : (Instr.index 369 (.agg (tabC V W H K L D N M)) (.int .i64 5)).run Tryz.prog w = .ok (.agg #[.int .i64 (bIs V W H K L D N M 5), .int .i64 (bLo 5), .int .i64 (bHi H 5)]) w := by kernel_rfl
theorem tabC_6 (V W H K L D N M : Int) (w : World) : (Instr.index 369 (.agg (tabC V W H K L D N M)) (.int .i64 6)).run Tryz.prog w = .ok (.agg #[.int .i64 (bIs V W H K L D N M 6), .int .i64 (bLo 6), .int .i64 (bHi H 6)]) w := by kernel_rfl
theorem tabC_7 (V W H K L D N M : Int) (w : World) : (Instr.index 369 (.agg (tabC V W H K L D N M)) (.int .i64 7)).run Tryz.prog w = .ok (.agg #[.int .i64 (bIs V W H K L D N M 7), .int .i64 (bLo 7), .int .i64 (bHi H 7)]) w := by kernel_rfl
theorem tabC_at (V W H K L D N M : Int) (k : Nat) (h : k < 8) (w : World) : (Instr.index 369 (.agg (tabC V W H K L D N M)) (.int .i64 (k : Int))).run Tryz.prog w = .ok (.agg #[.int .i64 (bIs V W H K L D N M k), .int .i64 (bLo k), .int .i64 (bHi H k)]) w := by
  match k, h with
  | 0, _ => exact tabC_0 V W H K L D N M w
  | 1, _ => exact tabC_1 V W H K L D N M w
  | 2, _ => exact tabC_2 V W H K L D N M w
  | 3, _ => exact tabC_3 V W H K L D N M w
  | 4, _ => exact tabC_4 V W H K L D N M w
  | 5, _ => exact tabC_5 V W H K L D N M w
  | 6, _ => exact tabC_6 V W H K L D N M w
  | 7, _ => exact tabC_7 V W H K L D N M w
/-- What the walk keeps of the world behind the table. -/
structure CW (w w2 : World) (V W H K L D N M : Int) : Prop where
  tab : ∃ t, w2.heap[w.heap.size + 1]? = some (.cells (tabC V W H K L D N M) t (0, 0))
  c1 : w2.cell? ⟨w.heap.size, 1, none⟩ = some (.int .i64 W)
  c2 : w2.cell? ⟨w.heap.size, 2, none⟩ = some (.int .i64 H)
  c3 : w2.cell? ⟨w.heap.size, 3, none⟩ = some (.int .i64 K)
  sz : w.heap.size + 2 ≤ w2.heap.size
  low : Below w.heap.size w w2
theorem cw_mk (w : World) (V W H K L D N M : Int) (t1 t2 : TypeId) : CW w (((w.alloc (.cells #[.int .i64 V, .int .i64 W, .int .i64 H, .int .i64 K, .int .i64 L, .int .i64 D, .int .i64 N, .int .i64 M] t1)).alloc (.cells zeroC t2)).setRow (w.heap.size + 1) (tabC V W H K L D N M)) V W H K L D N M := by
  have h0 := heap_new w (.cells #[.int .i64 V, .int .i64 W, .int .i64 H, .int .i64 K, .int .i64 L, .int .i64 D, .int .i64 N, .int .i64 M] t1)
  have h1 : ((w.alloc (.cells #[.int .i64 V, .int .i64 W, .int .i64 H, .int .i64 K, .int .i64 L, .int .i64 D, .int .i64 N, .int .i64 M] t1)).alloc (.cells zeroC t2)).heap[w.heap.size]? = some (.cells #[.int .i64 V, .int .i64 W, .int .i64 H, .int .i64 K, .int .i64 L, .int .i64 D, .int .i64 N, .int .i64 M] t1) := by
    rw [(fresh_alloc _ (.cells zeroC t2)).block w.heap.size (by simp), h0]
  have h2 := heap_new2 w (.cells #[.int .i64 V, .int .i64 W, .int .i64 H, .int .i64 K, .int .i64 L, .int .i64 D, .int .i64 N, .int .i64 M] t1) (.cells zeroC t2)
  have h3 := setRow_other _ (w.heap.size + 1) w.heap.size (tabC V W H K L D N M) (by omega) ▸ h1
  exact ⟨⟨t2, setRow_heap _ _ _ _ _ _ h2⟩, cell_heap h3 1, cell_heap h3 2, cell_heap h3 3, by simp, below_setRow (fresh_trans (fresh_alloc _ _) (fresh_alloc _ _)) (by omega) _⟩
theorem store_tab {ops : Array Oper} {rest : List Oper} {o : Oper} {a : Act} {Q : Exit → Act → World → Prop} (w : World) (V W H K L D N M : Int) (hgd : o.guard = none) (x y : Operand) (ho : o.op = .store 369 x y)
    (hx : a.eval x = .pointer (some ⟨w.heap.size + 1, 0, none⟩)) (hy : a.eval y = .agg (tabC V W H K L D N M)) (t1 t2 : TypeId)
    (h : ∀ w2, CW w w2 V W H K L D N M → wpList Tryz.prog ops Q rest (a.put o.dst undef) w2) :
    wpList Tryz.prog ops Q (o :: rest) a ((w.alloc (.cells #[.int .i64 V, .int .i64 W, .int .i64 H, .int .i64 K, .int .i64 L, .int .i64 D, .int .i64 N, .int .i64 M] t1)).alloc (.cells #[.int .i64 0, .int .i64 0, .int .i64 0, .int .i64 0, .int .i64 0, .int .i64 0, .int .i64 0, .int .i64 0, .int .i64 0, .int .i64 0, .int .i64 0, .int .i64 0, .int .i64 0, .int .i64 0, .int .i64 0, .int .i64 0, .int .i64 0, .int .i64 0, .int .i64 0, .int .i64 0, .int .i64 0, .int .i64 0, .int .i64 0, .int .i64 0] t2)) :=
  wpList_store_row hgd 369 x y ho (w.heap.size + 1) (tabC V W H K L D N M) hx hy t2 zeroC (heap_new2 _ _ _) (by kernel_rfl) rfl (by kernel_rfl) (h _ (cw_mk w V W H K L D N M t1 t2))
end Go.Proofs.YtmhjpfjhppcfoaaGreatDoor
namespace Go.Proofs.YtmhjpfjhppcfoaaGreatDoor
open Go.RowKit
theorem CW.fresh {w w2 w3 : World} {V W H K L D N M : Int} (h : CW w w2 V W H K L D N M) (f : Below w2.heap.size w2 w3) : CW w w3 V W H K L D N M := by
  obtain ⟨t, ht⟩ := h.tab
  have hl := (Array.getElem?_eq_some_iff.1 ht).1
  exact ⟨⟨t, by rw [f.block _ hl, ht]⟩, fresh_cell f h.c1, fresh_cell f h.c2, fresh_cell f h.c3, Nat.le_trans h.sz f.size, h.low.trans (f.mono h.low.size)⟩
theorem all8 {V W H K L D N M : Int} (h : ∀ j, j < 8 → bLo j ≤ bIs V W H K L D N M j ∧ bIs V W H K L D N M j ≤ bHi H j) (h1 : W % (2 * H) = 0) (h2 : H % K = 0) : may V W H K L D N M :=
  ⟨h 0 (by decide), h 1 (by decide), h 2 (by decide), h1, h 3 (by decide), h2, h 4 (by decide), h 5 (by decide), h 6 (by decide), h 7 (by decide)⟩
theorem may8 {V W H K L D N M : Int} (h : may V W H K L D N M) (j : Nat) (hj : j < 8) : bLo j ≤ bIs V W H K L D N M j ∧ bIs V W H K L D N M j ≤ bHi H j := by
  obtain ⟨h0, h1, h2, _, h3, _, h4, h5, h6, h7⟩ := h
  match j, hj with
  | 0, _ => exact h0
  | 1, _ => exact h1
  | 2, _ => exact h2
  | 3, _ => exact h3
  | 4, _ => exact h4
  | 5, _ => exact h5
  | 6, _ => exact h6
  | 7, _ => exact h7
set_option maxHeartbeats 1000000 in
set_option maxRecDepth 100000 in
theorem config_any (V W H K L D N M : Int) (w : World) :
    Calls Tryz.prog 169 #[.agg #[.int .i64 V, .int .i64 W, .int .i64 H, .int .i64 K, .int .i64 L, .int .i64 D, .int .i64 N, .int .i64 M]] w fun e w' => e = .returned (.int .i64 (mayE V W H K L D N M)) ∧ Below w.heap.size w w' := by
  go_enter Tryz.func169, Tryz.ntmps169
  go_wp2_with (refine store_tab w V W H K L D N M rfl _ _ rfl rfl rfl _ _ ?_)
  intro w2 hcw
  obtain ⟨t9, htab⟩ := hcw.tab
  have HT := hidd htab
  have HC := hidd hcw
  clear htab hcw
  go_wp2_with (refine wpList_load_row rfl 369 _ rfl (w.heap.size + 1) rfl t9 _ (0, 0) _ HT.out Tryz.underlying369 rfl (by kernel_rfl) ?_)
  clear HT
  have AT := hidd (tabC_at V W H K L D N M)
  generalize tabC V W H K L D N M = tb at *
  go_loopw [34] (fun i wr => ∃ k : Nat, k ≤ 8 ∧ i = .int .i64 k ∧ Hid (∀ j, j < k → bLo j ≤ bIs V W H K L D N M j ∧ bIs V W H K L D N M j ≤ bHi H j) ∧ Hid (CW w wr V W H K L D N M)) (fun i _ => 8 - (intOf i).toNat)
  case atStart => exact ⟨0, by omega, rfl, fun j hj => absurd hj (by omega), HC⟩
  case round =>
    clear HC
    obtain ⟨k, hk, rfl, hall, hcw⟩ := hrel
    by_cases hlt : k < 8
    · have hi := AT.out k hlt
      by_cases c1 : bIs V W H K L D N M k < bLo k
      · have d1 : decide (bIs V W H K L D N M k < bLo k) = true := by simp; omega
        have HE := hidd (mayE_no (V := V) (W := W) (H := H) (K := K) (L := L) (D := D) (N := N) (M := M) (fun h => by have := may8 h k hlt; omega))
        generalize bIs V W H K L D N M k = x at *
        generalize bLo k = lo at *
        generalize bHi H k = up at *
        clear c1
        go_wp2
        go_ret
        exact ⟨ret_int HE.out.symm, (hcw.out.fresh (fresh_alloc _ _)).low⟩
      · have d1 : decide (bIs V W H K L D N M k < bLo k) = false := by simp; omega
        by_cases c2 : bHi H k < bIs V W H K L D N M k
        · have d2 : decide (bHi H k < bIs V W H K L D N M k) = true := by simp; omega
          have HE := hidd (mayE_no (V := V) (W := W) (H := H) (K := K) (L := L) (D := D) (N := N) (M := M) (fun h => by have := may8 h k hlt; omega))
          generalize bIs V W H K L D N M k = x at *
          generalize bLo k = lo at *
          generalize bHi H k = up at *
          clear c1 c2
          go_wp2
          go_ret
          exact ⟨ret_int HE.out.symm, (hcw.out.fresh (fresh_alloc _ _)).low⟩
        · have d2 : decide (bHi H k < bIs V W H K L D N M k) = false := by simp; omega
          have hnew : Hid (∀ j, j < k + 1 → bLo j ≤ bIs V W H K L D N M j ∧ bIs V W H K L D N M j ≤ bHi H j) := fun j hj => by
            by_cases e : j = k
            · subst e; omega
            · exact hall.out j (by omega)
          generalize bIs V W H K L D N M k = x at *
          generalize bLo k = lo at *
          generalize bHi H k = up at *
          clear c1 c2
          go_wp2
          go_roundw
          case rel => exact ⟨k + 1, by omega, by go_num, hnew, hcw.out.fresh (fresh_alloc _ _)⟩
          case measure => simp [intOf]; omega
    · obtain rfl : k = 8 := by omega
      have k1 := hcw.out.c1
      have k2 := hcw.out.c2
      have k3 := hcw.out.c3
      have h1 := hall.out 1 (by decide)
      have h2 := hall.out 2 (by decide)
      have h3 := hall.out 3 (by decide)
      have hW : 2 ≤ W := h1.1
      have hH : 1 ≤ H := h2.1
      have hH4 : H ≤ 4 := h2.2
      have hK : 1 ≤ K := h3.1
      have hz : ¬ 2 * H = 0 := by omega
      have hzK : ¬ K = 0 := by omega
      have e1 : W.tmod (2 * H) = W % (2 * H) := Int.tmod_eq_emod_of_nonneg (by omega)
      have e2 : H.tmod K = H % K := Int.tmod_eq_emod_of_nonneg (by omega)
      clear h1 h2 h3
      by_cases q1 : W % (2 * H) = 0
      · have d1 : (W % (2 * H) != 0) = false := by simp [q1]
        by_cases q2 : H % K = 0
        · have d2 : (H % K != 0) = false := by simp [q2]
          have HE := hidd (mayE_ok (all8 hall.out q1 q2))
          clear q1 q2
          go_wp2
          go_ret
          exact ⟨ret_int HE.out.symm, hcw.out.low⟩
        · have d2 : (H % K != 0) = true := by simp [q2]
          have HE := hidd (mayE_no (V := V) (W := W) (H := H) (K := K) (L := L) (D := D) (N := N) (M := M) (fun h => q2 h.2.2.2.2.2.1))
          clear q1 q2
          go_wp2
          go_ret
          exact ⟨ret_int HE.out.symm, hcw.out.low⟩
      · have d1 : (W % (2 * H) != 0) = true := by simp [q1]
        have HE := hidd (mayE_no (V := V) (W := W) (H := H) (K := K) (L := L) (D := D) (N := N) (M := M) (fun h => q1 h.2.2.2.1))
        clear q1
        go_wp2
        go_ret
        exact ⟨ret_int HE.out.symm, hcw.out.low⟩
end Go.Proofs.YtmhjpfjhppcfoaaGreatDoor
