import Derived.BigQuiet
import Derived.Test.YtilghknalbhacaaJAO
import Derived.Test.YtilghknalbhacaaLfA
namespace Go.Proofs.Ytilghknalbhacaa
open Go.RowKit
/-! layerSize. -/
theorem sizeSh : (Try.prog.info? 117).map (·.size) = some 2 := by kernel_rfl
/-- how many bytes the first k matrices have, and all that is no matrix -/
def szN (W : Int) (a b c : Nat) : Nat → Int
  | 0 => 2 * W + 7
  | 1 => 2 * W + 7 + a
  | 2 => 2 * W + 7 + a + b
  | 3 => 2 * W + 7 + a + b + b
  | 4 => 2 * W + 7 + a + b + b + a
  | 5 => 2 * W + 7 + a + b + b + a + c
  | 6 => 2 * W + 7 + a + b + b + a + c + c
  | _ => 2 * W + 7 + a + b + b + a + c + c + c
theorem szN_bd {W : Int} {a b c : Nat} (hW : 2 ≤ W) (hW2 : W ≤ 32) (ha : a ≤ 1048576) (hb : b ≤ 1048576) (hc : c ≤ 1048576) : ∀ k, 0 ≤ szN W a b c k ∧ szN W a b c k ≤ 8000000
  | 0 | 1 | 2 | 3 | 4 | 5 | 6 | _ + 7 => by
    simp only [szN]
    omega
set_option maxRecDepth 20000 in
set_option maxHeartbeats 4000000 in
theorem lysz_any (w : World) (V W H K L D N M kv : Int) (hH : 1 ≤ H) (hH4 : H ≤ 4) (hW : 2 ≤ W) (hW2 : W ≤ 32) (hkv : K * (W / H) = kv) (kv0 : 0 ≤ kv) (kv1 : kv ≤ 128) {a b c : Nat} (pa : W * W = (a : Int)) (pb : kv * W = (b : Int)) (pc : D * W = (c : Int)) (pd : W * D = (c : Int)) (ba : a ≤ 1048576) (bb : b ≤ 1048576) (bc : c ≤ 1048576) :
    Calls Try.prog 94 #[.agg #[.int .i64 V, .int .i64 W, .int .i64 H, .int .i64 K, .int .i64 L, .int .i64 D, .int .i64 N, .int .i64 M]] w fun e w' => e = .returned (.int .i64 (szN W a b c 7)) ∧ Below w.heap.size w w' := by
  have HSZ := hidd (szN_bd hW hW2 ba bb bc)
  have HF1 := hidd (fresh_alloc w (.cells #[.int .i64 V, .int .i64 W, .int .i64 H, .int .i64 K, .int .i64 L, .int .i64 D, .int .i64 N, .int .i64 M] 23))
  have HG1 := hidd (heap_new w (.cells #[.int .i64 V, .int .i64 W, .int .i64 H, .int .i64 K, .int .i64 L, .int .i64 D, .int .i64 N, .int .i64 M] 23))
  have g1 := cell_heap HG1.out 1
  have hs1 : (w.alloc (.cells #[.int .i64 V, .int .i64 W, .int .i64 H, .int .i64 K, .int .i64 L, .int .i64 D, .int .i64 N, .int .i64 M] 23)).heap.size = w.heap.size + 1 := by simp
  have hw1 : IntKind.i64.wrap (2 * W) = 2 * W := wrap_small _ (by omega) (by omega)
  have hw2 : IntKind.i64.wrap (2 * W + 7) = 2 * W + 7 := wrap_small _ (by omega) (by omega)
  go_enter Try.func94, Try.ntmps94
  go_upto_region 1 with fail
  generalize (w.alloc (.cells #[.int .i64 V, .int .i64 W, .int .i64 H, .int .i64 K, .int .i64 L, .int .i64 D, .int .i64 N, .int .i64 M] 23)) = w1 at *
  have d1 : w1.cell? ⟨w.heap.size, 1, none⟩ = some (.int .i64 W) := g1
  clear g1
  go_upto_region 2 with fail
  clear d1 hw1 hw2
  have HSH := hidd (shapes_any w1)
  go_upto_region 3 with (first
    | (go_at_call 84; refine HSH.out.mono ?_; rintro e w2 ⟨rfl, h2⟩; have H2 := hidd h2; clear h2)
    | (refine wpList_store_row rfl 118 _ _ rfl w2.heap.size tab8 rfl rfl 118 _ (heap_new _ _) size8 rfl (by kernel_rfl) ?_))
  rw [World.setRow_alloc_new]
  have HF3 := hidd (fresh_trans (fresh_trans HF1.out H2.out) (fresh_alloc w2 (.cells tab8 118)))
  have H13 := hidd (fresh_trans H2.out (fresh_alloc w2 (.cells tab8 118)))
  have HT3 := hidd (heap_new w2 (.cells tab8 118))
  have hs3 : (w2.alloc (.cells tab8 118)).heap.size = w2.heap.size + 1 := by simp
  have HG3 : Hid ((w2.alloc (.cells tab8 118)).heap[w.heap.size]? = some (.cells #[.int .i64 V, .int .i64 W, .int .i64 H, .int .i64 K, .int .i64 L, .int .i64 D, .int .i64 N, .int .i64 M] 23)) := (H13.out.block _ (by omega)).trans HG1.out
  generalize w2.alloc (.cells tab8 118) = w3 at *
  have TA := hidd (tab8_at HT3.out)
  have CL := hidd (fun j => cell_heap HG3.out j)
  generalize w2.heap.size = g2 at *
  generalize tab8 = t8 at *
  clear HF1 HG1 HG3 H2 H13 HT3 HSH
  go_wp2
  go_loopw [3, 14] (fun v i wr => ∃ (k : Nat) (s : Int), k ≤ 7 ∧ i = .int .i64 k ∧ v = .int .i64 s ∧ Hid (s = szN W a b c k) ∧ Below w3.heap.size w3 wr) (fun _ i _ => 7 - (intOf i).toNat)
  case atStart => exact ⟨0, _, by omega, rfl, rfl, rfl, Below.refl _ _⟩
  case round =>
    obtain ⟨k, s, hk, rfl, rfl, HS, hC⟩ := hrel
    have hs9 : 0 ≤ s ∧ s ≤ 8000000 := by rw [HS.out]; exact HSZ.out k
    by_cases hlt : k < 7
    · have hk7 : k = 0 ∨ k = 1 ∨ k = 2 ∨ k = 3 ∨ k = 4 ∨ k = 5 ∨ k = 6 := by omega
      have d0 := fresh_cell hC (CL.out 0)
      have d1 := fresh_cell hC (CL.out 1)
      have d2 := fresh_cell hC (CL.out 2)
      have d3 := fresh_cell hC (CL.out 3)
      have d4 := fresh_cell hC (CL.out 4)
      have d5 := fresh_cell hC (CL.out 5)
      have d6 := fresh_cell hC (CL.out 6)
      have d7 := fresh_cell hC (CL.out 7)
      rcases hk7 with rfl | rfl | rfl | rfl | rfl | rfl | rfl
      · have a0 : wr.cell? ⟨g2, 0, none⟩ = some (.func (.func 96) #[] #[]) := fresh_cell hC (TA.out 0 (by decide)).1
        have a1 : wr.cell? ⟨g2, 1, none⟩ = some (.func (.func 96) #[] #[]) := fresh_cell hC (TA.out 0 (by decide)).2
        have hm : IntKind.i64.wrap ((a : Nat) : Int) = ((a : Nat) : Int) := wrap_small _ (by omega) (by omega)
        have hm2 : IntKind.i64.wrap (s + ((a : Nat) : Int)) = s + ((a : Nat) : Int) := wrap_small _ (by omega) (by omega)
        have HS2 : Hid (s + ((a : Nat) : Int) = szN W a b c 1) := by rw [HS.out]; rfl
        go_upto_region 6 with (first | refine wpList_store_row rfl 117 _ _ rfl wr.heap.size #[.func (.func 96) #[] #[], .func (.func 96) #[] #[]] rfl rfl 117 _ (heap_new _ _) sizeSh rfl (by kernel_rfl) ?_ | fail)
        rw [World.setRow_alloc_new]
        have fq := fresh_alloc wr (.cells #[.func (.func 96) #[] #[], .func (.func 96) #[] #[]] 117)
        have q0 : (wr.alloc (.cells #[.func (.func 96) #[] #[], .func (.func 96) #[] #[]] 117)).cell? ⟨wr.heap.size, 0, none⟩ = some (.func (.func 96) #[] #[]) := by simp
        have q1 : (wr.alloc (.cells #[.func (.func 96) #[] #[], .func (.func 96) #[] #[]] 117)).cell? ⟨wr.heap.size, 1, none⟩ = some (.func (.func 96) #[] #[]) := by simp
        replace d0 := fresh_cell fq d0
        replace d1 := fresh_cell fq d1
        replace d2 := fresh_cell fq d2
        replace d3 := fresh_cell fq d3
        replace d4 := fresh_cell fq d4
        replace d5 := fresh_cell fq d5
        replace d6 := fresh_cell fq d6
        replace d7 := fresh_cell fq d7
        have hCq := fresh_trans hC fq
        clear a0 a1 fq
        generalize (wr.alloc (.cells #[.func (.func 96) #[] #[], .func (.func 96) #[] #[]] 117)) = wq at *
        replace d0 := later_cell d0
        replace d1 := later_cell d1
        replace d2 := later_cell d2
        replace d3 := later_cell d3
        replace d4 := later_cell d4
        replace d5 := later_cell d5
        replace d6 := later_cell d6
        replace d7 := later_cell d7
        replace q0 := later_cell q0
        replace q1 := later_cell q1
        have ne := later_some wq
        simp only [Act.put]
        refine wp_region_later (by kernel_rfl) (by kernel_rfl) ?_
        repeat (go_big_quiet_step (fail))
        go_big_quiet_step (exact later_of (shWidth _ _ _ _ _ _ _ _ _))
        repeat (go_big_quiet_step (fail))
        go_big_quiet_step (exact later_of (shWidth _ _ _ _ _ _ _ _ _))
        repeat (go_big_quiet_step (fail))
        refine wpQuiet_nil ?_
        rintro _ ⟨z, rfl⟩
        have hz := z.fresh
        clear ne d0 d1 d2 d3 d4 d5 d6 d7 q0 q1
        generalize z.val = wz at *
        go_wp2
        go_roundw
        case rel => exact ⟨1, _, by omega, by go_num, rfl, HS2, fresh_trans hCq hz⟩
        case measure => simp [intOf]
      · have a0 : wr.cell? ⟨g2, 2, none⟩ = some (.func (.func 98) #[] #[]) := fresh_cell hC (TA.out 1 (by decide)).1
        have a1 : wr.cell? ⟨g2, 3, none⟩ = some (.func (.func 96) #[] #[]) := fresh_cell hC (TA.out 1 (by decide)).2
        have hm : IntKind.i64.wrap ((b : Nat) : Int) = ((b : Nat) : Int) := wrap_small _ (by omega) (by omega)
        have hm2 : IntKind.i64.wrap (s + ((b : Nat) : Int)) = s + ((b : Nat) : Int) := wrap_small _ (by omega) (by omega)
        have HS2 : Hid (s + ((b : Nat) : Int) = szN W a b c 2) := by rw [HS.out]; rfl
        go_upto_region 6 with (first | refine wpList_store_row rfl 117 _ _ rfl wr.heap.size #[.func (.func 98) #[] #[], .func (.func 96) #[] #[]] rfl rfl 117 _ (heap_new _ _) sizeSh rfl (by kernel_rfl) ?_ | fail)
        rw [World.setRow_alloc_new]
        have fq := fresh_alloc wr (.cells #[.func (.func 98) #[] #[], .func (.func 96) #[] #[]] 117)
        have q0 : (wr.alloc (.cells #[.func (.func 98) #[] #[], .func (.func 96) #[] #[]] 117)).cell? ⟨wr.heap.size, 0, none⟩ = some (.func (.func 98) #[] #[]) := by simp
        have q1 : (wr.alloc (.cells #[.func (.func 98) #[] #[], .func (.func 96) #[] #[]] 117)).cell? ⟨wr.heap.size, 1, none⟩ = some (.func (.func 96) #[] #[]) := by simp
        replace d0 := fresh_cell fq d0
        replace d1 := fresh_cell fq d1
        replace d2 := fresh_cell fq d2
        replace d3 := fresh_cell fq d3
        replace d4 := fresh_cell fq d4
        replace d5 := fresh_cell fq d5
        replace d6 := fresh_cell fq d6
        replace d7 := fresh_cell fq d7
        have hCq := fresh_trans hC fq
        clear a0 a1 fq
        generalize (wr.alloc (.cells #[.func (.func 98) #[] #[], .func (.func 96) #[] #[]] 117)) = wq at *
        replace d0 := later_cell d0
        replace d1 := later_cell d1
        replace d2 := later_cell d2
        replace d3 := later_cell d3
        replace d4 := later_cell d4
        replace d5 := later_cell d5
        replace d6 := later_cell d6
        replace d7 := later_cell d7
        replace q0 := later_cell q0
        replace q1 := later_cell q1
        have ne := later_some wq
        simp only [Act.put]
        refine wp_region_later (by kernel_rfl) (by kernel_rfl) ?_
        repeat (go_big_quiet_step (fail))
        go_big_quiet_step (exact later_of (shKeys _ _ _ _ _ _ _ _ kv _ hH hH4 hW hW2 hkv kv0 kv1))
        repeat (go_big_quiet_step (fail))
        go_big_quiet_step (exact later_of (shWidth _ _ _ _ _ _ _ _ _))
        repeat (go_big_quiet_step (fail))
        refine wpQuiet_nil ?_
        rintro _ ⟨z, rfl⟩
        have hz := z.fresh
        clear ne d0 d1 d2 d3 d4 d5 d6 d7 q0 q1
        generalize z.val = wz at *
        go_wp2
        go_roundw
        case rel => exact ⟨2, _, by omega, by go_num, rfl, HS2, fresh_trans hCq hz⟩
        case measure => simp [intOf]
      · have a0 : wr.cell? ⟨g2, 4, none⟩ = some (.func (.func 98) #[] #[]) := fresh_cell hC (TA.out 2 (by decide)).1
        have a1 : wr.cell? ⟨g2, 5, none⟩ = some (.func (.func 96) #[] #[]) := fresh_cell hC (TA.out 2 (by decide)).2
        have hm : IntKind.i64.wrap ((b : Nat) : Int) = ((b : Nat) : Int) := wrap_small _ (by omega) (by omega)
        have hm2 : IntKind.i64.wrap (s + ((b : Nat) : Int)) = s + ((b : Nat) : Int) := wrap_small _ (by omega) (by omega)
        have HS2 : Hid (s + ((b : Nat) : Int) = szN W a b c 3) := by rw [HS.out]; rfl
        go_upto_region 6 with (first | refine wpList_store_row rfl 117 _ _ rfl wr.heap.size #[.func (.func 98) #[] #[], .func (.func 96) #[] #[]] rfl rfl 117 _ (heap_new _ _) sizeSh rfl (by kernel_rfl) ?_ | fail)
        rw [World.setRow_alloc_new]
        have fq := fresh_alloc wr (.cells #[.func (.func 98) #[] #[], .func (.func 96) #[] #[]] 117)
        have q0 : (wr.alloc (.cells #[.func (.func 98) #[] #[], .func (.func 96) #[] #[]] 117)).cell? ⟨wr.heap.size, 0, none⟩ = some (.func (.func 98) #[] #[]) := by simp
        have q1 : (wr.alloc (.cells #[.func (.func 98) #[] #[], .func (.func 96) #[] #[]] 117)).cell? ⟨wr.heap.size, 1, none⟩ = some (.func (.func 96) #[] #[]) := by simp
        replace d0 := fresh_cell fq d0
        replace d1 := fresh_cell fq d1
        replace d2 := fresh_cell fq d2
        replace d3 := fresh_cell fq d3
        replace d4 := fresh_cell fq d4
        replace d5 := fresh_cell fq d5
        replace d6 := fresh_cell fq d6
        replace d7 := fresh_cell fq d7
        have hCq := fresh_trans hC fq
        clear a0 a1 fq
        generalize (wr.alloc (.cells #[.func (.func 98) #[] #[], .func (.func 96) #[] #[]] 117)) = wq at *
        replace d0 := later_cell d0
        replace d1 := later_cell d1
        replace d2 := later_cell d2
        replace d3 := later_cell d3
        replace d4 := later_cell d4
        replace d5 := later_cell d5
        replace d6 := later_cell d6
        replace d7 := later_cell d7
        replace q0 := later_cell q0
        replace q1 := later_cell q1
        have ne := later_some wq
        simp only [Act.put]
        refine wp_region_later (by kernel_rfl) (by kernel_rfl) ?_
        repeat (go_big_quiet_step (fail))
        go_big_quiet_step (exact later_of (shKeys _ _ _ _ _ _ _ _ kv _ hH hH4 hW hW2 hkv kv0 kv1))
        repeat (go_big_quiet_step (fail))
        go_big_quiet_step (exact later_of (shWidth _ _ _ _ _ _ _ _ _))
        repeat (go_big_quiet_step (fail))
        refine wpQuiet_nil ?_
        rintro _ ⟨z, rfl⟩
        have hz := z.fresh
        clear ne d0 d1 d2 d3 d4 d5 d6 d7 q0 q1
        generalize z.val = wz at *
        go_wp2
        go_roundw
        case rel => exact ⟨3, _, by omega, by go_num, rfl, HS2, fresh_trans hCq hz⟩
        case measure => simp [intOf]
      · have a0 : wr.cell? ⟨g2, 6, none⟩ = some (.func (.func 96) #[] #[]) := fresh_cell hC (TA.out 3 (by decide)).1
        have a1 : wr.cell? ⟨g2, 7, none⟩ = some (.func (.func 96) #[] #[]) := fresh_cell hC (TA.out 3 (by decide)).2
        have hm : IntKind.i64.wrap ((a : Nat) : Int) = ((a : Nat) : Int) := wrap_small _ (by omega) (by omega)
        have hm2 : IntKind.i64.wrap (s + ((a : Nat) : Int)) = s + ((a : Nat) : Int) := wrap_small _ (by omega) (by omega)
        have HS2 : Hid (s + ((a : Nat) : Int) = szN W a b c 4) := by rw [HS.out]; rfl
        go_upto_region 6 with (first | refine wpList_store_row rfl 117 _ _ rfl wr.heap.size #[.func (.func 96) #[] #[], .func (.func 96) #[] #[]] rfl rfl 117 _ (heap_new _ _) sizeSh rfl (by kernel_rfl) ?_ | fail)
        rw [World.setRow_alloc_new]
        have fq := fresh_alloc wr (.cells #[.func (.func 96) #[] #[], .func (.func 96) #[] #[]] 117)
        have q0 : (wr.alloc (.cells #[.func (.func 96) #[] #[], .func (.func 96) #[] #[]] 117)).cell? ⟨wr.heap.size, 0, none⟩ = some (.func (.func 96) #[] #[]) := by simp
        have q1 : (wr.alloc (.cells #[.func (.func 96) #[] #[], .func (.func 96) #[] #[]] 117)).cell? ⟨wr.heap.size, 1, none⟩ = some (.func (.func 96) #[] #[]) := by simp
        replace d0 := fresh_cell fq d0
        replace d1 := fresh_cell fq d1
        replace d2 := fresh_cell fq d2
        replace d3 := fresh_cell fq d3
        replace d4 := fresh_cell fq d4
        replace d5 := fresh_cell fq d5
        replace d6 := fresh_cell fq d6
        replace d7 := fresh_cell fq d7
        have hCq := fresh_trans hC fq
        clear a0 a1 fq
        generalize (wr.alloc (.cells #[.func (.func 96) #[] #[], .func (.func 96) #[] #[]] 117)) = wq at *
        replace d0 := later_cell d0
        replace d1 := later_cell d1
        replace d2 := later_cell d2
        replace d3 := later_cell d3
        replace d4 := later_cell d4
        replace d5 := later_cell d5
        replace d6 := later_cell d6
        replace d7 := later_cell d7
        replace q0 := later_cell q0
        replace q1 := later_cell q1
        have ne := later_some wq
        simp only [Act.put]
        refine wp_region_later (by kernel_rfl) (by kernel_rfl) ?_
        repeat (go_big_quiet_step (fail))
        go_big_quiet_step (exact later_of (shWidth _ _ _ _ _ _ _ _ _))
        repeat (go_big_quiet_step (fail))
        go_big_quiet_step (exact later_of (shWidth _ _ _ _ _ _ _ _ _))
        repeat (go_big_quiet_step (fail))
        refine wpQuiet_nil ?_
        rintro _ ⟨z, rfl⟩
        have hz := z.fresh
        clear ne d0 d1 d2 d3 d4 d5 d6 d7 q0 q1
        generalize z.val = wz at *
        go_wp2
        go_roundw
        case rel => exact ⟨4, _, by omega, by go_num, rfl, HS2, fresh_trans hCq hz⟩
        case measure => simp [intOf]
      · have a0 : wr.cell? ⟨g2, 8, none⟩ = some (.func (.func 97) #[] #[]) := fresh_cell hC (TA.out 4 (by decide)).1
        have a1 : wr.cell? ⟨g2, 9, none⟩ = some (.func (.func 96) #[] #[]) := fresh_cell hC (TA.out 4 (by decide)).2
        have hm : IntKind.i64.wrap ((c : Nat) : Int) = ((c : Nat) : Int) := wrap_small _ (by omega) (by omega)
        have hm2 : IntKind.i64.wrap (s + ((c : Nat) : Int)) = s + ((c : Nat) : Int) := wrap_small _ (by omega) (by omega)
        have HS2 : Hid (s + ((c : Nat) : Int) = szN W a b c 5) := by rw [HS.out]; rfl
        go_upto_region 6 with (first | refine wpList_store_row rfl 117 _ _ rfl wr.heap.size #[.func (.func 97) #[] #[], .func (.func 96) #[] #[]] rfl rfl 117 _ (heap_new _ _) sizeSh rfl (by kernel_rfl) ?_ | fail)
        rw [World.setRow_alloc_new]
        have fq := fresh_alloc wr (.cells #[.func (.func 97) #[] #[], .func (.func 96) #[] #[]] 117)
        have q0 : (wr.alloc (.cells #[.func (.func 97) #[] #[], .func (.func 96) #[] #[]] 117)).cell? ⟨wr.heap.size, 0, none⟩ = some (.func (.func 97) #[] #[]) := by simp
        have q1 : (wr.alloc (.cells #[.func (.func 97) #[] #[], .func (.func 96) #[] #[]] 117)).cell? ⟨wr.heap.size, 1, none⟩ = some (.func (.func 96) #[] #[]) := by simp
        replace d0 := fresh_cell fq d0
        replace d1 := fresh_cell fq d1
        replace d2 := fresh_cell fq d2
        replace d3 := fresh_cell fq d3
        replace d4 := fresh_cell fq d4
        replace d5 := fresh_cell fq d5
        replace d6 := fresh_cell fq d6
        replace d7 := fresh_cell fq d7
        have hCq := fresh_trans hC fq
        clear a0 a1 fq
        generalize (wr.alloc (.cells #[.func (.func 97) #[] #[], .func (.func 96) #[] #[]] 117)) = wq at *
        replace d0 := later_cell d0
        replace d1 := later_cell d1
        replace d2 := later_cell d2
        replace d3 := later_cell d3
        replace d4 := later_cell d4
        replace d5 := later_cell d5
        replace d6 := later_cell d6
        replace d7 := later_cell d7
        replace q0 := later_cell q0
        replace q1 := later_cell q1
        have ne := later_some wq
        simp only [Act.put]
        refine wp_region_later (by kernel_rfl) (by kernel_rfl) ?_
        repeat (go_big_quiet_step (fail))
        go_big_quiet_step (exact later_of (shHidden _ _ _ _ _ _ _ _ _))
        repeat (go_big_quiet_step (fail))
        go_big_quiet_step (exact later_of (shWidth _ _ _ _ _ _ _ _ _))
        repeat (go_big_quiet_step (fail))
        refine wpQuiet_nil ?_
        rintro _ ⟨z, rfl⟩
        have hz := z.fresh
        clear ne d0 d1 d2 d3 d4 d5 d6 d7 q0 q1
        generalize z.val = wz at *
        go_wp2
        go_roundw
        case rel => exact ⟨5, _, by omega, by go_num, rfl, HS2, fresh_trans hCq hz⟩
        case measure => simp [intOf]
      · have a0 : wr.cell? ⟨g2, 10, none⟩ = some (.func (.func 97) #[] #[]) := fresh_cell hC (TA.out 5 (by decide)).1
        have a1 : wr.cell? ⟨g2, 11, none⟩ = some (.func (.func 96) #[] #[]) := fresh_cell hC (TA.out 5 (by decide)).2
        have hm : IntKind.i64.wrap ((c : Nat) : Int) = ((c : Nat) : Int) := wrap_small _ (by omega) (by omega)
        have hm2 : IntKind.i64.wrap (s + ((c : Nat) : Int)) = s + ((c : Nat) : Int) := wrap_small _ (by omega) (by omega)
        have HS2 : Hid (s + ((c : Nat) : Int) = szN W a b c 6) := by rw [HS.out]; rfl
        go_upto_region 6 with (first | refine wpList_store_row rfl 117 _ _ rfl wr.heap.size #[.func (.func 97) #[] #[], .func (.func 96) #[] #[]] rfl rfl 117 _ (heap_new _ _) sizeSh rfl (by kernel_rfl) ?_ | fail)
        rw [World.setRow_alloc_new]
        have fq := fresh_alloc wr (.cells #[.func (.func 97) #[] #[], .func (.func 96) #[] #[]] 117)
        have q0 : (wr.alloc (.cells #[.func (.func 97) #[] #[], .func (.func 96) #[] #[]] 117)).cell? ⟨wr.heap.size, 0, none⟩ = some (.func (.func 97) #[] #[]) := by simp
        have q1 : (wr.alloc (.cells #[.func (.func 97) #[] #[], .func (.func 96) #[] #[]] 117)).cell? ⟨wr.heap.size, 1, none⟩ = some (.func (.func 96) #[] #[]) := by simp
        replace d0 := fresh_cell fq d0
        replace d1 := fresh_cell fq d1
        replace d2 := fresh_cell fq d2
        replace d3 := fresh_cell fq d3
        replace d4 := fresh_cell fq d4
        replace d5 := fresh_cell fq d5
        replace d6 := fresh_cell fq d6
        replace d7 := fresh_cell fq d7
        have hCq := fresh_trans hC fq
        clear a0 a1 fq
        generalize (wr.alloc (.cells #[.func (.func 97) #[] #[], .func (.func 96) #[] #[]] 117)) = wq at *
        replace d0 := later_cell d0
        replace d1 := later_cell d1
        replace d2 := later_cell d2
        replace d3 := later_cell d3
        replace d4 := later_cell d4
        replace d5 := later_cell d5
        replace d6 := later_cell d6
        replace d7 := later_cell d7
        replace q0 := later_cell q0
        replace q1 := later_cell q1
        have ne := later_some wq
        simp only [Act.put]
        refine wp_region_later (by kernel_rfl) (by kernel_rfl) ?_
        repeat (go_big_quiet_step (fail))
        go_big_quiet_step (exact later_of (shHidden _ _ _ _ _ _ _ _ _))
        repeat (go_big_quiet_step (fail))
        go_big_quiet_step (exact later_of (shWidth _ _ _ _ _ _ _ _ _))
        repeat (go_big_quiet_step (fail))
        refine wpQuiet_nil ?_
        rintro _ ⟨z, rfl⟩
        have hz := z.fresh
        clear ne d0 d1 d2 d3 d4 d5 d6 d7 q0 q1
        generalize z.val = wz at *
        go_wp2
        go_roundw
        case rel => exact ⟨6, _, by omega, by go_num, rfl, HS2, fresh_trans hCq hz⟩
        case measure => simp [intOf]
      · have a0 : wr.cell? ⟨g2, 12, none⟩ = some (.func (.func 96) #[] #[]) := fresh_cell hC (TA.out 6 (by decide)).1
        have a1 : wr.cell? ⟨g2, 13, none⟩ = some (.func (.func 97) #[] #[]) := fresh_cell hC (TA.out 6 (by decide)).2
        have hm : IntKind.i64.wrap ((c : Nat) : Int) = ((c : Nat) : Int) := wrap_small _ (by omega) (by omega)
        have hm2 : IntKind.i64.wrap (s + ((c : Nat) : Int)) = s + ((c : Nat) : Int) := wrap_small _ (by omega) (by omega)
        have HS2 : Hid (s + ((c : Nat) : Int) = szN W a b c 7) := by rw [HS.out]; rfl
        go_upto_region 6 with (first | refine wpList_store_row rfl 117 _ _ rfl wr.heap.size #[.func (.func 96) #[] #[], .func (.func 97) #[] #[]] rfl rfl 117 _ (heap_new _ _) sizeSh rfl (by kernel_rfl) ?_ | fail)
        rw [World.setRow_alloc_new]
        have fq := fresh_alloc wr (.cells #[.func (.func 96) #[] #[], .func (.func 97) #[] #[]] 117)
        have q0 : (wr.alloc (.cells #[.func (.func 96) #[] #[], .func (.func 97) #[] #[]] 117)).cell? ⟨wr.heap.size, 0, none⟩ = some (.func (.func 96) #[] #[]) := by simp
        have q1 : (wr.alloc (.cells #[.func (.func 96) #[] #[], .func (.func 97) #[] #[]] 117)).cell? ⟨wr.heap.size, 1, none⟩ = some (.func (.func 97) #[] #[]) := by simp
        replace d0 := fresh_cell fq d0
        replace d1 := fresh_cell fq d1
        replace d2 := fresh_cell fq d2
        replace d3 := fresh_cell fq d3
        replace d4 := fresh_cell fq d4
        replace d5 := fresh_cell fq d5
        replace d6 := fresh_cell fq d6
        replace d7 := fresh_cell fq d7
        have hCq := fresh_trans hC fq
        clear a0 a1 fq
        generalize (wr.alloc (.cells #[.func (.func 96) #[] #[], .func (.func 97) #[] #[]] 117)) = wq at *
        replace d0 := later_cell d0
        replace d1 := later_cell d1
        replace d2 := later_cell d2
        replace d3 := later_cell d3
        replace d4 := later_cell d4
        replace d5 := later_cell d5
        replace d6 := later_cell d6
        replace d7 := later_cell d7
        replace q0 := later_cell q0
        replace q1 := later_cell q1
        have ne := later_some wq
        simp only [Act.put]
        refine wp_region_later (by kernel_rfl) (by kernel_rfl) ?_
        repeat (go_big_quiet_step (fail))
        go_big_quiet_step (exact later_of (shWidth _ _ _ _ _ _ _ _ _))
        repeat (go_big_quiet_step (fail))
        go_big_quiet_step (exact later_of (shHidden _ _ _ _ _ _ _ _ _))
        repeat (go_big_quiet_step (fail))
        refine wpQuiet_nil ?_
        rintro _ ⟨z, rfl⟩
        have hz := z.fresh
        clear ne d0 d1 d2 d3 d4 d5 d6 d7 q0 q1
        generalize z.val = wz at *
        go_wp2
        go_roundw
        case rel => exact ⟨7, _, by omega, by go_num, rfl, HS2, fresh_trans hCq hz⟩
        case measure => simp [intOf]
    · have ek : k = 7 := by omega
      subst ek
      go_wp2
      go_ret
      exact ⟨by rw [HS.out]; rfl, fresh_trans HF3.out hC⟩
end Go.Proofs.Ytilghknalbhacaa
