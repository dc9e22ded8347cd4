import Derived.Test.YtnpdkiljhdagjaaDoorAt
import Derived.Test.YtnpdkiljhdagjaaDoorAtRef
namespace Go.Proofs.YtnpdkiljhdagjaaDoor
open Go.RowKit
/-! The law DrawAts: its walk. -/
theorem cells_one (w : World) (a0 a1 a2 : Value) (t : TypeId) :
    (w.alloc (.cells #[a0, a1, a2] t)).cell? ⟨w.heap.size, 0, none⟩ = some a0 ∧ (w.alloc (.cells #[a0, a1, a2] t)).cell? ⟨w.heap.size, 1, none⟩ = some a1 ∧ (w.alloc (.cells #[a0, a1, a2] t)).cell? ⟨w.heap.size, 2, none⟩ = some a2 := by
  have h0 : (w.alloc (.cells #[a0, a1, a2] t)).heap[w.heap.size]? = some (.cells #[a0, a1, a2] t) := heap_alloc_new w _
  refine ⟨?_, ?_, ?_⟩
  · unfold World.cell?; rw [h0]; rfl
  · unfold World.cell?; rw [h0]; rfl
  · unfold World.cell?; rw [h0]; rfl
set_option maxHeartbeats 1000000 in
theorem ats_great (a : Option Addr) (len cap : Nat) (w : World) (h0 : 4611686018427387904 ≤ len) (h1 : len ≤ 9223372036854775807) :
    Calls Tryd.prog 6 #[.slice a len cap] w fun e w' => e = .returned (.bool true) ∧ w' = w := by
  have hn : ¬ (0 < wrap64 (2 * (len : Int))) := by unfold wrap64; omega
  go_enter Tryd.func6, Tryd.ntmps6
  go_wp2
  refine wp_loop_rounds 1 ?_
  rw [rounds_succ]
  go_wp2
  go_ret
  exact ⟨rfl, rfl⟩
set_option maxHeartbeats 1000000 in
theorem ats_empty (v : Option Addr) (cap : Nat) (w : World) :
    Calls Tryd.prog 6 #[.slice v 0 cap] w fun e w' => e = .returned (.bool true) ∧ w' = w := by
  go_enter Tryd.func6, Tryd.ntmps6
  go_wp2
  refine wp_loop_rounds 1 ?_
  rw [rounds_succ]
  go_wp2
  go_ret
  exact ⟨rfl, rfl⟩
set_option maxHeartbeats 1000000 in
theorem ats_full (b off len cap : Nat) (S : Nat → Nat) (U V : Nat → Int) (w : World) (hw : Holds w) (h0 : 0 < len) (h1 : len < 4611686018427387904)
    (hc : ∀ i, i < len → w.cell? ⟨b, off + i * 3, none⟩ = some (.int .u64 (S i : Int)) ∧ w.cell? ⟨b, off + i * 3 + 1, none⟩ = some (.int .i64 (U i)) ∧ w.cell? ⟨b, off + i * 3 + 2, none⟩ = some (.int .i64 (V i))) :
    Calls Tryd.prog 6 #[.slice (some ⟨b, off, none⟩) len cap] w fun e w' => e = .returned (.bool true) ∧ Fresh w w' := by
  have HC := hidd hc
  clear hc
  go_enter Tryd.func6, Tryd.ntmps6
  go_wp2
  go_loopw [3] (fun i wr => ∃ k : Nat, k ≤ 2 * len ∧ i = .int .i64 (k : Int) ∧ Fresh w wr) (fun i _ => 2 * len - (intOf i).toNat)
  case atStart => exact ⟨0, by omega, rfl, Fresh.refl w⟩
  case round =>
    obtain ⟨k, hk, rfl, hf⟩ := hrel
    by_cases c1 : k < 2 * len
    · have hm : k % len < len := Nat.mod_lt _ h0
      obtain ⟨c0, c1, c2⟩ := HC.out _ hm
      replace c0 := hf.cell c0; replace c1 := hf.cell c1; replace c2 := hf.cell c2
      have e1 : (k : Int).tmod (len : Int) = ((k % len : Nat) : Int) := rfl
      generalize k % len = m at *
      go_wp2
      have d := cells_one wr (.int .u64 (S m : Int)) (.int .i64 (U m)) (.int .i64 (V m)) 26
      have hf1 := hf.alloc #[.int .u64 (S m : Int), .int .i64 (U m), .int .i64 (V m)] 26
      generalize (wr.alloc (.cells #[.int .u64 (S m : Int), .int .i64 (U m), .int .i64 (V m)] 26)) = w1 at d hf1
      obtain ⟨d0, d1, d2⟩ := d
      replace d0 := later_cell d0; replace d1 := later_cell d1; replace d2 := later_cell d2
      have ne := later_some w1
      refine wp_region_later (by kernel_rfl) (by kernel_rfl) ?_
      repeat (go_big_quiet_step (first | (refine later_of (at_any _ _ _ _ ?_); exact hw.later (hf1.trans (Later.fresh _))) | exact later_same (at_ref _ _ _ _)))
      refine wpQuiet_nil ?_
      rintro _ ⟨x, rfl⟩
      have hf2 := hf1.trans x.fresh
      clear d0 d1 d2 c0 c1 c2
      go_wp2
      go_roundw
      case rel => exact ⟨k + 1, by omega, by go_num, hf2⟩
      case measure => simp [intOf]; omega
    · obtain rfl : k = 2 * len := by omega
      go_wp2
      go_ret
      exact ⟨rfl, hf⟩
end Go.Proofs.YtnpdkiljhdagjaaDoor
