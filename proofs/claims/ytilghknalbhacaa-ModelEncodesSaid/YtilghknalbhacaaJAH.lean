import Derived.Test.YtilghknalbhacaaJAG
import Derived.Laws.Rows
import Derived.Laws.Tables
import Derived.Laws.CopyOwn
namespace Go.Proofs.Ytilghknalbhacaa
open Go.RowKit
/-! CheckConfig: the program's. -/
theorem heap_new (w : World) (o : Obj) : (w.alloc o).heap[w.heap.size]? = some o := by
  show (w.heap.push o)[w.heap.size]? = _
  simp
theorem heap_new2 (w : World) (o1 o2 : Obj) : ((w.alloc o1).alloc o2).heap[w.heap.size + 1]? = some o2 := by
  have := heap_new (w.alloc o1) o2; simpa using this
theorem cell_heap {w : World} {b : Nat} {cs : Array Value} {t : TypeId} {fr : Nat × Nat} (h : w.heap[b]? = some (.cells cs t fr)) (j : Nat) : w.cell? ⟨b, j, none⟩ = cs[j]? := by
  unfold World.cell?; simp [h]
def bIs (V W H K L D N M : Int) : Nat → Int
  | 0 => V | 1 => W | 2 => H | 3 => K | 4 => L | 5 => D | 6 => N | _ => M
def bLo : Nat → Int
  | 0 => 2 | 1 => 2 | 2 => 1 | 3 => 1 | 4 => 1 | 5 => 1 | 6 => 1 | _ => 0
def bHi (H : Int) : Nat → Int
  | 0 => 64 | 1 => 32 | 2 => 4 | 3 => H | 4 => 4 | 5 => 64 | 6 => 64 | _ => 4
def tabC (V W H K L D N M : Int) : Array Value := #[.int .i64 V, .int .i64 2, .int .i64 64, .int .i64 W, .int .i64 2, .int .i64 32, .int .i64 H, .int .i64 1, .int .i64 4, .int .i64 K, .int .i64 1, .int .i64 H, .int .i64 L, .int .i64 1, .int .i64 4, .int .i64 D, .int .i64 1, .int .i64 64, .int .i64 N, .int .i64 1, .int .i64 64, .int .i64 M, .int .i64 0, .int .i64 4]
def zeroC : Array Value := #[.int .i64 0, .int .i64 0, .int .i64 0, .int .i64 0, .int .i64 0, .int .i64 0, .int .i64 0, .int .i64 0, .int .i64 0, .int .i64 0, .int .i64 0, .int .i64 0, .int .i64 0, .int .i64 0, .int .i64 0, .int .i64 0, .int .i64 0, .int .i64 0, .int .i64 0, .int .i64 0, .int .i64 0, .int .i64 0, .int .i64 0, .int .i64 0]
theorem tabC_0 (V W H K L D N M : Int) (w : World) : (Instr.index 59 (.agg (tabC V W H K L D N M)) (.int .i64 0)).run Try.prog w = .ok (.agg #[.int .i64 (bIs V W H K L D N M 0), .int .i64 (bLo 0), .int .i64 (bHi H 0)]) w := by kernel_rfl
theorem tabC_1 (V W H K L D N M : Int) (w : World) : (Instr.index 59 (.agg (tabC V W H K L D N M)) (.int .i64 1)).run Try.prog w = .ok (.agg #[.int .i64 (bIs V W H K L D N M 1), .int .i64 (bLo 1), .int .i64 (bHi H 1)]) w := by kernel_rfl
theorem tabC_2 (V W H K L D N M : Int) (w : World) : (Instr.index 59 (.agg (tabC V W H K L D N M)) (.int .i64 2)).run Try.prog w = .ok (.agg #[.int .i64 (bIs V W H K L D N M 2), .int .i64 (bLo 2), .int .i64 (bHi H 2)]) w := by kernel_rfl
theorem tabC_3 (V W H K L D N M : Int) (w : World) : (Instr.index 59 (.agg (tabC V W H K L D N M)) (.int .i64 3)).run Try.prog w = .ok (.agg #[.int .i64 (bIs V W H K L D N M 3), .int .i64 (bLo 3), .int .i64 (bHi H 3)]) w := by kernel_rfl
theorem tabC_4 (V W H K L D N M : Int) (w : World) : (Instr.index 59 (.agg (tabC V W H K L D N M)) (.int .i64 4)).run Try.prog w = .ok (.agg #[.int .i64 (bIs V W H K L D N M 4), .int .i64 (bLo 4), .int .i64 (bHi H 4)]) w := by kernel_rfl
theorem tabC_5 (V W H K L D N M : Int) (w : World) : (Instr.index 59 (.agg (tabC V W H K L D N M)) (.int .i64 5)).run Try.prog w = .ok (.agg #[.int .i64 (bIs V W H K L D N M 5), .int .i64 (bLo 5), .int .i64 (bHi H 5)]) w := by kernel_rfl
theorem tabC_6 (V W H K L D N M : Int) (w : World) : (Instr.index 59 (.agg (tabC V W H K L D N M)) (.int .i64 6)).run Try.prog w = .ok (.agg #[.int .i64 (bIs V W H K L D N M 6), .int .i64 (bLo 6), .int .i64 (bHi H 6)]) w := by kernel_rfl
theorem tabC_7 (V W H K L D N M : Int) (w : World) : (Instr.index 59 (.agg (tabC V W H K L D N M)) (.int .i64 7)).run Try.prog w = .ok (.agg #[.int .i64 (bIs V W H K L D N M 7), .int .i64 (bLo 7), .int .i64 (bHi H 7)]) w := by kernel_rfl
theorem tabC_at (V W H K L D N M : Int) (k : Nat) (h : k < 8) (w : World) : (Instr.index 59 (.agg (tabC V W H K L D N M)) (.int .i64 (k : Int))).run Try.prog w = .ok (.agg #[.int .i64 (bIs V W H K L D N M k), .int .i64 (bLo k), .int .i64 (bHi H k)]) w := by
  match k, h with
  | 0, _ => exact tabC_0 V W H K L D N M w
  | 1, _ => exact tabC_1 V W H K L D N M w
  | 2, _ => exact tabC_2 V W H K L D N M w
  | 3, _ => exact tabC_3 V W H K L D N M w
  | 4, _ => exact tabC_4 V W H K L D N M w
  | 5, _ => exact tabC_5 V W H K L D N M w
  | 6, _ => exact tabC_6 V W H K L D N M w
  | 7, _ => exact tabC_7 V W H K L D N M w
/-- What the walk keeps of the world behind the table. -/
structure CW (w w2 : World) (V W H K L D N M : Int) : Prop where
  tab : ∃ t, w2.heap[w.heap.size + 1]? = some (.cells (tabC V W H K L D N M) t (0, 0))
  c1 : w2.cell? ⟨w.heap.size, 1, none⟩ = some (.int .i64 W)
  c2 : w2.cell? ⟨w.heap.size, 2, none⟩ = some (.int .i64 H)
  c3 : w2.cell? ⟨w.heap.size, 3, none⟩ = some (.int .i64 K)
  sz : w.heap.size + 2 ≤ w2.heap.size
  low : Below w.heap.size w w2
theorem cw_mk (w : World) (V W H K L D N M : Int) (t1 t2 : TypeId) : CW w (((w.alloc (.cells #[.int .i64 V, .int .i64 W, .int .i64 H, .int .i64 K, .int .i64 L, .int .i64 D, .int .i64 N, .int .i64 M] t1)).alloc (.cells zeroC t2)).setRow (w.heap.size + 1) (tabC V W H K L D N M)) V W H K L D N M := by
  have h0 := heap_new w (.cells #[.int .i64 V, .int .i64 W, .int .i64 H, .int .i64 K, .int .i64 L, .int .i64 D, .int .i64 N, .int .i64 M] t1)
  have h1 : ((w.alloc (.cells #[.int .i64 V, .int .i64 W, .int .i64 H, .int .i64 K, .int .i64 L, .int .i64 D, .int .i64 N, .int .i64 M] t1)).alloc (.cells zeroC t2)).heap[w.heap.size]? = some (.cells #[.int .i64 V, .int .i64 W, .int .i64 H, .int .i64 K, .int .i64 L, .int .i64 D, .int .i64 N, .int .i64 M] t1) := by
    rw [(fresh_alloc _ (.cells zeroC t2)).block w.heap.size (by simp), h0]
  have h2 := heap_new2 w (.cells #[.int .i64 V, .int .i64 W, .int .i64 H, .int .i64 K, .int .i64 L, .int .i64 D, .int .i64 N, .int .i64 M] t1) (.cells zeroC t2)
  have h3 := setRow_other _ (w.heap.size + 1) w.heap.size (tabC V W H K L D N M) (by omega) ▸ h1
  exact ⟨⟨t2, setRow_heap _ _ _ _ _ _ h2⟩, cell_heap h3 1, cell_heap h3 2, cell_heap h3 3, by simp, below_setRow (fresh_trans (fresh_alloc _ _) (fresh_alloc _ _)) (by omega) _⟩
theorem store_tab {ops : Array Oper} {rest : List Oper} {o : Oper} {a : Act} {Q : Exit → Act → World → Prop} (w : World) (V W H K L D N M : Int) (hgd : o.guard = none) (x y : Operand) (ho : o.op = .store 59 x y)
    (hx : a.eval x = .pointer (some ⟨w.heap.size + 1, 0, none⟩)) (hy : a.eval y = .agg (tabC V W H K L D N M)) (t1 t2 : TypeId)
    (h : ∀ w2, CW w w2 V W H K L D N M → wpList Try.prog ops Q rest (a.put o.dst undef) w2) :
    wpList Try.prog ops Q (o :: rest) a ((w.alloc (.cells #[.int .i64 V, .int .i64 W, .int .i64 H, .int .i64 K, .int .i64 L, .int .i64 D, .int .i64 N, .int .i64 M] t1)).alloc (.cells #[.int .i64 0, .int .i64 0, .int .i64 0, .int .i64 0, .int .i64 0, .int .i64 0, .int .i64 0, .int .i64 0, .int .i64 0, .int .i64 0, .int .i64 0, .int .i64 0, .int .i64 0, .int .i64 0, .int .i64 0, .int .i64 0, .int .i64 0, .int .i64 0, .int .i64 0, .int .i64 0, .int .i64 0, .int .i64 0, .int .i64 0, .int .i64 0] t2)) :=
  wpList_store_row hgd 59 x y ho (w.heap.size + 1) (tabC V W H K L D N M) hx hy t2 zeroC (heap_new2 _ _ _) (by kernel_rfl) rfl (by kernel_rfl) (h _ (cw_mk w V W H K L D N M t1 t2))
end Go.Proofs.Ytilghknalbhacaa
namespace Go.Proofs.Ytilghknalbhacaa
open Go.RowKit
theorem CW.fresh {w w2 w3 : World} {V W H K L D N M : Int} (h : CW w w2 V W H K L D N M) (f : Below w2.heap.size w2 w3) : CW w w3 V W H K L D N M := by
  obtain ⟨t, ht⟩ := h.tab
  have hl := (Array.getElem?_eq_some_iff.1 ht).1
  exact ⟨⟨t, by rw [f.block _ hl, ht]⟩, fresh_cell f h.c1, fresh_cell f h.c2, fresh_cell f h.c3, Nat.le_trans h.sz f.size, h.low.trans (f.mono h.low.size)⟩
theorem all8 {V W H K L D N M : Int} (h : ∀ j, j < 8 → bLo j ≤ bIs V W H K L D N M j ∧ bIs V W H K L D N M j ≤ bHi H j) (h1 : W % (2 * H) = 0) (h2 : H % K = 0) : may V W H K L D N M :=
  ⟨h 0 (by decide), h 1 (by decide), h 2 (by decide), h1, h 3 (by decide), h2, h 4 (by decide), h 5 (by decide), h 6 (by decide), h 7 (by decide)⟩
theorem may8 {V W H K L D N M : Int} (h : may V W H K L D N M) (j : Nat) (hj : j < 8) : bLo j ≤ bIs V W H K L D N M j ∧ bIs V W H K L D N M j ≤ bHi H j := by
  obtain ⟨h0, h1, h2, _, h3, _, h4, h5, h6, h7⟩ := h
  match j, hj with
  | 0, _ => exact h0
  | 1, _ => exact h1
  | 2, _ => exact h2
  | 3, _ => exact h3
  | 4, _ => exact h4
  | 5, _ => exact h5
  | 6, _ => exact h6
  | 7, _ => exact h7
set_option maxHeartbeats 1000000 in
set_option maxRecDepth 100000 in
theorem config_any (V W H K L D N M : Int) (w : World) :
    Calls Try.prog 9 #[.agg #[.int .i64 V, .int .i64 W, .int .i64 H, .int .i64 K, .int .i64 L, .int .i64 D, .int .i64 N, .int .i64 M]] w fun e w' => e = .returned (.int .i64 (mayE V W H K L D N M)) ∧ Below w.heap.size w w' := by
  go_enter Try.func9, Try.ntmps9
  go_wp2_with (refine store_tab w V W H K L D N M rfl _ _ rfl rfl rfl _ _ ?_)
  intro w2 hcw
  obtain ⟨t9, htab⟩ := hcw.tab
  have HT := hidd htab
  have HC := hidd hcw
  clear htab hcw
  go_wp2_with (refine wpList_load_row rfl 59 _ rfl (w.heap.size + 1) rfl t9 _ (0, 0) _ HT.out Try.underlying59 rfl (by kernel_rfl) ?_)
  clear HT
  have AT := hidd (tabC_at V W H K L D N M)
  generalize tabC V W H K L D N M = tb at *
  go_loopw [34] (fun i wr => ∃ k : Nat, k ≤ 8 ∧ i = .int .i64 k ∧ Hid (∀ j, j < k → bLo j ≤ bIs V W H K L D N M j ∧ bIs V W H K L D N M j ≤ bHi H j) ∧ Hid (CW w wr V W H K L D N M)) (fun i _ => 8 - (intOf i).toNat)
  case atStart => exact ⟨0, by omega, rfl, fun j hj => absurd hj (by omega), HC⟩
  case round =>
    clear HC
    obtain ⟨k, hk, rfl, hall, hcw⟩ := hrel
    by_cases hlt : k < 8
    · have hi := AT.out k hlt
      by_cases c1 : bIs V W H K L D N M k < bLo k
      · have d1 : decide (bIs V W H K L D N M k < bLo k) = true := by simp; omega
        have HE := hidd (mayE_no (V := V) (W := W) (H := H) (K := K) (L := L) (D := D) (N := N) (M := M) (fun h => by have := may8 h k hlt; omega))
        generalize bIs V W H K L D N M k = x at *
        generalize bLo k = lo at *
        generalize bHi H k = up at *
        clear c1
        go_wp2
        go_ret
        exact ⟨ret_int HE.out.symm, (hcw.out.fresh (fresh_alloc _ _)).low⟩
      · have d1 : decide (bIs V W H K L D N M k < bLo k) = false := by simp; omega
        by_cases c2 : bHi H k < bIs V W H K L D N M k
        · have d2 : decide (bHi H k < bIs V W H K L D N M k) = true := by simp; omega
          have HE := hidd (mayE_no (V := V) (W := W) (H := H) (K := K) (L := L) (D := D) (N := N) (M := M) (fun h => by have := may8 h k hlt; omega))
          generalize bIs V W H K L D N M k = x at *
          generalize bLo k = lo at *
          generalize bHi H k = up at *
          clear c1 c2
          go_wp2
          go_ret
          exact ⟨ret_int HE.out.symm, (hcw.out.fresh (fresh_alloc _ _)).low⟩
        · have d2 : decide (bHi H k < bIs V W H K L D N M k) = false := by simp; omega
          have hnew : Hid (∀ j, j < k + 1 → bLo j ≤ bIs V W H K L D N M j ∧ bIs V W H K L D N M j ≤ bHi H j) := fun j hj => by
            by_cases e : j = k
            · subst e; omega
            · exact hall.out j (by omega)
          generalize bIs V W H K L D N M k = x at *
          generalize bLo k = lo at *
          generalize bHi H k = up at *
          clear c1 c2
          go_wp2
          go_roundw
          case rel => exact ⟨k + 1, by omega, by go_num, hnew, hcw.out.fresh (fresh_alloc _ _)⟩
          case measure => simp [intOf]; omega
    · obtain rfl : k = 8 := by omega
      have k1 := hcw.out.c1
      have k2 := hcw.out.c2
      have k3 := hcw.out.c3
      have h1 := hall.out 1 (by decide)
      have h2 := hall.out 2 (by decide)
      have h3 := hall.out 3 (by decide)
      have hW : 2 ≤ W := h1.1
      have hH : 1 ≤ H := h2.1
      have hH4 : H ≤ 4 := h2.2
      have hK : 1 ≤ K := h3.1
      have hz : ¬ 2 * H = 0 := by omega
      have hzK : ¬ K = 0 := by omega
      have e1 : W.tmod (2 * H) = W % (2 * H) := Int.tmod_eq_emod_of_nonneg (by omega)
      have e2 : H.tmod K = H % K := Int.tmod_eq_emod_of_nonneg (by omega)
      clear h1 h2 h3
      by_cases q1 : W % (2 * H) = 0
      · have d1 : (W % (2 * H) != 0) = false := by simp [q1]
        by_cases q2 : H % K = 0
        · have d2 : (H % K != 0) = false := by simp [q2]
          have HE := hidd (mayE_ok (all8 hall.out q1 q2))
          clear q1 q2
          go_wp2
          go_ret
          exact ⟨ret_int HE.out.symm, hcw.out.low⟩
        · have d2 : (H % K != 0) = true := by simp [q2]
          have HE := hidd (mayE_no (V := V) (W := W) (H := H) (K := K) (L := L) (D := D) (N := N) (M := M) (fun h => q2 h.2.2.2.2.2.1))
          clear q1 q2
          go_wp2
          go_ret
          exact ⟨ret_int HE.out.symm, hcw.out.low⟩
      · have d1 : (W % (2 * H) != 0) = true := by simp [q1]
        have HE := hidd (mayE_no (V := V) (W := W) (H := H) (K := K) (L := L) (D := D) (N := N) (M := M) (fun h => q1 h.2.2.2.1))
        clear q1
        go_wp2
        go_ret
        exact ⟨ret_int HE.out.symm, hcw.out.low⟩
end Go.Proofs.Ytilghknalbhacaa
namespace Go.Proofs.Ytilghknalbhacaa
open Go.RowKit
/-! Pieces of Check: the document's and the program's. -/
/-- W narrow numbers above -128 -/
def GnP (n : Nat) (f : Nat → Int) (W : Int) : Prop := (n : Int) = W ∧ ∀ i, i < n → -127 ≤ f i
/-- turns within Unit -/
def TnP (n : Nat) (C S : Nat → Int) (k : Int) : Prop := (n : Int) = k ∧ ∀ i, i < n → (-16384 ≤ C i ∧ C i ≤ 16384) ∧ (-16384 ≤ S i ∧ S i ≤ 16384)
/-- a matrix of that shape -/
def MtP (R C : Int) (n : Nat) (f : Nat → Int) (r c : Int) : Prop := (shp R C n = true ∧ ∀ i, i < n → -127 ≤ f i) ∧ R = r ∧ C = c
theorem some_low {n : Nat} {f : Nat → Int} (h : ¬ ∀ i, i < n → -127 ≤ f i) : ∃ i, i < n ∧ f i < -127 := by
  by_cases h2 : ∃ i, i < n ∧ f i < -127
  · exact h2
  · exact absurd (fun i hi => by
      by_cases h3 : f i < -127
      · exact absurd ⟨i, hi, h3⟩ h2
      · omega) h
set_option maxHeartbeats 1000000 in
theorem gains_ref {w : World} {ao : Option Addr} {n ca : Nat} {f : Nat → Int} (ha : RdA w ao 1 n ca (fun i => .int .i8 (f i))) (bf : ∀ i, i < n → -128 ≤ f i ∧ f i ≤ 127) (W : Int) (b : Bool) (hb : b = true ↔ GnP n f W) :
    Calls Try.prog 52 #[.slice ao n ca, .int .i64 W] w fun e w' => e = .returned (.bool b) ∧ Below w.heap.size w w' := by
  have hn : n ≤ 9223372036854775807 := by have := ha.le; have := ha.top; unfold maxLen at this; omega
  by_cases hW : (n : Int) = W
  · subst hW
    have hne : ((n : Int) != (n : Int)) = false := by simp
    have BF := hidd bf
    have HB := hidd hb
    clear bf hb
    go_enter Try.func52, Try.ntmps52
    go_wp2
    clear hne
    go_loopw [5] (fun i wr => ∃ k : Nat, k ≤ n ∧ i = .int .i64 k ∧ Hid (∀ j, j < k → -127 ≤ f j) ∧ Below w.heap.size w wr) (fun i _ => n - (intOf i).toNat)
    case atStart => exact ⟨0, by omega, rfl, fun j hj => absurd hj (by omega), Below.refl _ _⟩
    case round =>
      obtain ⟨k, hk, rfl, HK, hf⟩ := hrel
      by_cases hlt : k < n
      · obtain ⟨b1, o1, rfl, h1⟩ := (ha.fresh hf).one (by omega)
        have c1 := h1 k hlt
        have d1 := BF.out k hlt
        clear h1
        by_cases q : f k = -128
        · have e1 : (f k == -128) = true := by simp [q]
          have HE : Hid (b = false) := by
            show b = false
            cases hbb : b with
            | false => rfl
            | true => have := (HB.out.1 hbb).2 k hlt; omega
          clear q
          go_wp2
          go_ret
          exact ⟨ret_bool HE.out.symm, hf⟩
        · have e1 : (f k == -128) = false := by simp [q]
          have HK' : Hid (∀ j, j < k + 1 → -127 ≤ f j) := fun j hj => by
            by_cases e : j = k
            · subst e; omega
            · exact HK.out j (by omega)
          clear q
          go_wp2
          go_roundw
          case rel => exact ⟨k + 1, by omega, by go_num, HK', hf⟩
          case measure => simp [intOf]; omega
      · have HE : Hid (b = true) := HB.out.2 ⟨rfl, fun i hi => HK.out i (by omega)⟩
        go_wp2
        go_ret
        exact ⟨ret_bool HE.out.symm, hf⟩
  · have hne : ((n : Int) != W) = true := by simp [hW]
    have HE : Hid (b = false) := by
      show b = false
      cases hbb : b with
      | false => rfl
      | true => exact absurd (hb.1 hbb).1 hW
    clear hW hb bf
    go_enter Try.func52, Try.ntmps52
    go_wp2
    go_ret
    exact ⟨ret_bool HE.out.symm, Below.refl _ _⟩
set_option maxHeartbeats 1000000 in
theorem is_ref {w : World} {R C r c : Int} {ao : Option Addr} {n cap : Nat} {f : Nat → Int} (ha : RdA w ao 1 n cap (fun i => .int .i8 (f i))) (bf : ∀ i, i < n → -128 ≤ f i ∧ f i ≤ 127) (b : Bool) (hb : b = true ↔ MtP R C n f r c) :
    Calls Try.prog 51 #[.agg #[.int .i64 R, .int .i64 C, .slice ao n cap], .int .i64 r, .int .i64 c] w fun e w' => e = .returned (.bool b) ∧ Below w.heap.size w w' := by
  have hn : n ≤ 9223372036854775807 := by have := ha.le; have := ha.top; unfold maxLen at this; omega
  have hf0 := fresh_alloc w (.cells #[.int .i64 R, .int .i64 C, .slice ao n cap] 29)
  by_cases hg : shp R C n = true ∧ ∀ i, i < n → -127 ≤ f i
  · have hc := check_rdata (ha.fresh hf0) hg.1 bf true ⟨fun _ => hg.2, fun _ => rfl⟩
    by_cases hr : R = r
    · by_cases hcc : C = c
      · subst hr hcc
        have HE : Hid (b = true) := hb.2 ⟨hg, rfl, rfl⟩
        clear hb hg
        go_enter Try.func51, Try.ntmps51
        go_wp2_with fail
        refine hc.mono ?_
        rintro e w1 ⟨rfl, hf1⟩
        have c0 := fresh_cell hf1 (show (w.alloc (.cells #[.int .i64 R, .int .i64 C, .slice ao n cap] 29)).cell? ⟨w.heap.size, 0, none⟩ = some (.int .i64 R) by simp)
        have c1 := fresh_cell hf1 (show (w.alloc (.cells #[.int .i64 R, .int .i64 C, .slice ao n cap] 29)).cell? ⟨w.heap.size, 1, none⟩ = some (.int .i64 C) by simp)
        go_wp2
        go_ret
        exact ⟨ret_bool (by rw [HE.out]), fresh_trans hf0 hf1⟩
      · have e2 : (C == c) = false := by simp [hcc]
        have HE : Hid (b = false) := by
          show b = false
          cases hbb : b with
          | false => rfl
          | true => exact absurd (hb.1 hbb).2.2 hcc
        subst hr
        clear hb hg hcc
        go_enter Try.func51, Try.ntmps51
        go_wp2_with fail
        refine hc.mono ?_
        rintro e w1 ⟨rfl, hf1⟩
        have c0 := fresh_cell hf1 (show (w.alloc (.cells #[.int .i64 R, .int .i64 C, .slice ao n cap] 29)).cell? ⟨w.heap.size, 0, none⟩ = some (.int .i64 R) by simp)
        have c1 := fresh_cell hf1 (show (w.alloc (.cells #[.int .i64 R, .int .i64 C, .slice ao n cap] 29)).cell? ⟨w.heap.size, 1, none⟩ = some (.int .i64 C) by simp)
        go_wp2
        go_ret
        exact ⟨ret_bool (by rw [HE.out]), fresh_trans hf0 hf1⟩
    · have e2 : (R == r) = false := by simp [hr]
      have HE : Hid (b = false) := by
        show b = false
        cases hbb : b with
        | false => rfl
        | true => exact absurd (hb.1 hbb).2.1 hr
      clear hb hg hr
      go_enter Try.func51, Try.ntmps51
      go_wp2_with fail
      refine hc.mono ?_
      rintro e w1 ⟨rfl, hf1⟩
      have c0 := fresh_cell hf1 (show (w.alloc (.cells #[.int .i64 R, .int .i64 C, .slice ao n cap] 29)).cell? ⟨w.heap.size, 0, none⟩ = some (.int .i64 R) by simp)
      have c1 := fresh_cell hf1 (show (w.alloc (.cells #[.int .i64 R, .int .i64 C, .slice ao n cap] 29)).cell? ⟨w.heap.size, 1, none⟩ = some (.int .i64 C) by simp)
      go_wp2
      go_ret
      exact ⟨ret_bool (by rw [HE.out]), fresh_trans hf0 hf1⟩
  · have HE : Hid (b = false) := by
      show b = false
      cases hbb : b with
      | false => rfl
      | true => exact absurd (hb.1 hbb).1 hg
    have hc : Calls Try.prog 89 #[.agg #[.int .i64 R, .int .i64 C, .slice ao n cap]] (w.alloc (.cells #[.int .i64 R, .int .i64 C, .slice ao n cap] 29)) fun e w' => e = .returned (.int .i64 30) ∧ Below (w.alloc (.cells #[.int .i64 R, .int .i64 C, .slice ao n cap] 29)).heap.size (w.alloc (.cells #[.int .i64 R, .int .i64 C, .slice ao n cap] 29)) w' := by
      cases hs : shp R C n with
      | false => exact check_rshape hn hs
      | true => exact check_rdata (ha.fresh hf0) hs bf false ⟨fun h => by simp at h, fun h => absurd ⟨hs, h⟩ hg⟩
    clear hb hg
    go_enter Try.func51, Try.ntmps51
    go_wp2_with fail
    refine hc.mono ?_
    rintro e w1 ⟨rfl, hf1⟩
    go_wp2
    go_ret
    exact ⟨ret_bool (by rw [HE.out]), fresh_trans hf0 hf1⟩
end Go.Proofs.Ytilghknalbhacaa
namespace Go.Proofs.Ytilghknalbhacaa
open Go.RowKit
/-! More pieces of Check. -/
set_option maxHeartbeats 400000 in
theorem head_ref (V W H K L D N M : Int) (w : World) (hH : 1 ≤ H) (hH4 : H ≤ 4) (hW : 2 ≤ W) (hW2 : W ≤ 32) :
    Calls Try.prog 54 #[.agg #[.int .i64 V, .int .i64 W, .int .i64 H, .int .i64 K, .int .i64 L, .int .i64 D, .int .i64 N, .int .i64 M]] w fun e w' => e = .returned (.int .i64 (W / H)) ∧ Below w.heap.size w w' := by
  have hz : ¬ H = 0 := by omega
  have e1 : W.tdiv H = W / H := Int.tdiv_eq_ediv_of_nonneg (by omega)
  have hq0 : 0 ≤ W / H := Int.ediv_nonneg (by omega) (by omega)
  have hq1 : W / H ≤ W := Int.ediv_le_self _ (by omega)
  go_enter Try.func54, Try.ntmps54
  go_wp2
  go_ret
  exact ⟨rfl, fresh_alloc _ _⟩
set_option maxHeartbeats 400000 in
theorem headSize_any (V W H K L D N M : Int) (w : World) (hH : 1 ≤ H) (hH4 : H ≤ 4) (hW : 2 ≤ W) (hW2 : W ≤ 32) :
    Calls Try.prog 69 #[.agg #[.int .i64 V, .int .i64 W, .int .i64 H, .int .i64 K, .int .i64 L, .int .i64 D, .int .i64 N, .int .i64 M]] w fun e w' => e = .returned (.int .i64 (W / H)) ∧ Below w.heap.size w w' := by
  have hz : ¬ H = 0 := by omega
  have e1 : W.tdiv H = W / H := Int.tdiv_eq_ediv_of_nonneg (by omega)
  have hq0 : 0 ≤ W / H := Int.ediv_nonneg (by omega) (by omega)
  have hq1 : W / H ≤ W := Int.ediv_le_self _ (by omega)
  go_enter Try.func69, Try.ntmps69
  go_wp2
  go_ret
  exact ⟨rfl, fresh_alloc _ _⟩
/-- the least of a list -/
def imn (f : Nat → Int) : Nat → Int
  | 0 => f 0
  | n + 1 => min (imn f n) (f (n + 1))
theorem imn_iff {f : Nat → Int} {m : Int} : ∀ {n : Nat}, m ≤ imn f n ↔ ∀ i, i ≤ n → m ≤ f i
  | 0 => ⟨fun h i hi => by obtain rfl : i = 0 := by omega
                           exact h, fun h => h 0 (by omega)⟩
  | n + 1 => by
    show m ≤ min (imn f n) (f (n + 1)) ↔ _
    have ih := imn_iff (f := f) (m := m) (n := n)
    constructor
    · intro h i hi
      by_cases e : i = n + 1
      · rw [e]; omega
      · exact ih.1 (by omega) i (by omega)
    · intro h
      have h1 := ih.2 (fun i hi => h i (by omega))
      have h2 := h (n + 1) (by omega)
      omega
theorem imn_bd {f : Nat → Int} {n : Nat} (h : ∀ i, i < n + 1 → -128 ≤ f i ∧ f i ≤ 127) : ∀ k, k ≤ n → -128 ≤ imn f k ∧ imn f k ≤ 127
  | 0, _ => h 0 (by omega)
  | k + 1, hk => by
    have := imn_bd h k (by omega)
    have := h (k + 1) (by omega)
    show -128 ≤ min (imn f k) (f (k + 1)) ∧ min (imn f k) (f (k + 1)) ≤ 127
    omega
theorem imn_step (f : Nat → Int) (k : Nat) : (if f (k + 1) < imn f k then f (k + 1) else imn f k) = imn f (k + 1) := by
  show _ = min (imn f k) (f (k + 1))
  split <;> omega
set_option maxHeartbeats 1000000 in
theorem min8_any {w : World} {ao : Option Addr} {n ca : Nat} {f : Nat → Int} (ha : RdA w ao 1 (n + 1) ca (fun i => .int .i8 (f i))) :
    Calls Try.prog 101 #[.slice ao (n + 1) ca] w fun e w' => e = .returned (.int .i8 (imn f n)) ∧ w' = w := by
  have hn : n + 1 ≤ 9223372036854775807 := by have := ha.le; have := ha.top; unfold maxLen at this; omega
  obtain ⟨b1, o1, rfl, h1⟩ := ha.one (by omega)
  have c0 := h1 0 (by omega)
  simp only [Nat.add_zero] at c0
  have HH := hidd h1
  clear h1
  generalize hN : n + 1 = N at *
  have hN0 : ¬ (N : Int) < 1 := by omega
  have HN := hidd hN
  clear hN
  go_enter Try.func101, Try.ntmps101
  go_wp2
  clear c0
  go_loop [3, 4] (fun m i => ∃ k : Nat, k + 1 ≤ N ∧ i = .int .i64 ((k : Int) + 1) ∧ m = .int .i8 (imn f k)) (fun _ i => N - (intOf i).toNat)
  case atStart => exact ⟨0, by omega, rfl, rfl⟩
  case round =>
    obtain ⟨k, hk, rfl, rfl⟩ := hrel
    by_cases hlt : k + 1 < N
    · have c1 := HH.out (k + 1) hlt
      go_wp2
      go_round
      case rel => exact ⟨k + 1, by omega, by go_num, by rw [imn_step]⟩
      case measure => simp [intOf]; omega
    · go_wp2
      go_ret
      exact ⟨ret_int (by have := HN.out; rw [show k = n by omega]), rfl⟩
set_option maxHeartbeats 1000000 in
theorem gainsFit_any {w : World} (V W H K L D N M : Int) {ao : Option Addr} {n ca : Nat} {f : Nat → Int} (ha : RdA w ao 1 n ca (fun i => .int .i8 (f i))) (hW : 2 ≤ W) (b : Bool) (hb : b = true ↔ GnP n f W) :
    Calls Try.prog 87 #[.agg #[.int .i64 V, .int .i64 W, .int .i64 H, .int .i64 K, .int .i64 L, .int .i64 D, .int .i64 N, .int .i64 M], .slice ao n ca] w fun e w' => e = .returned (.bool b) ∧ Below w.heap.size w w' := by
  have hf0 := fresh_alloc w (.cells #[.int .i64 V, .int .i64 W, .int .i64 H, .int .i64 K, .int .i64 L, .int .i64 D, .int .i64 N, .int .i64 M] 23)
  by_cases q : (n : Int) = W
  · obtain ⟨m, rfl⟩ : ∃ m, n = m + 1 := ⟨n - 1, by omega⟩
    have hc := min8_any (ha.fresh hf0)
    have HE : Hid (decide (-127 ≤ imn f m) = b) := by
      show decide (-127 ≤ imn f m) = b
      cases hbb : b with
      | true => simp only [decide_eq_true_eq]; exact imn_iff.2 (fun i hi => (hb.1 hbb).2 i (by omega))
      | false =>
        simp only [decide_eq_false_iff_not]
        intro h
        have := hb.2 ⟨q, fun i hi => imn_iff.1 h i (by omega)⟩
        rw [hbb] at this
        cases this
    have e1 : (((m + 1 : Nat) : Int) == W) = true := by simp; omega
    generalize hN : m + 1 = N at *
    clear hN hb q
    go_enter Try.func87, Try.ntmps87
    go_wp2_with fail
    refine hc.mono ?_
    rintro e w1 ⟨rfl, hw1⟩
    rw [hw1]
    clear hw1 hc
    go_wp2
    go_ret
    exact ⟨ret_bool HE.out, hf0⟩
  · have e1 : ((n : Int) == W) = false := by simp [q]
    have HE : Hid (b = false) := by
      show b = false
      cases hbb : b with
      | false => rfl
      | true => exact absurd (hb.1 hbb).1 q
    clear hb q
    go_enter Try.func87, Try.ntmps87
    go_wp2
    go_ret
    exact ⟨ret_bool HE.out.symm, hf0⟩
end Go.Proofs.Ytilghknalbhacaa
