import Derived.Test.YtmhjpfjhppcfoaaGreatDoorRows
import Derived.Test.YtmhjpfjhppcfoaaGreatDoorMA
namespace Go.Proofs.YtmhjpfjhppcfoaaGreatDoor
open Go.RowKit
/-! CheckConfig: the document's answer. -/
/-- the measures may be -/
def may (V W H K L D N M : Int) : Prop := (2 ≤ V ∧ V ≤ 64) ∧ (2 ≤ W ∧ W ≤ 32) ∧ (1 ≤ H ∧ H ≤ 4) ∧ W % (2 * H) = 0 ∧ (1 ≤ K ∧ K ≤ H) ∧ H % K = 0 ∧ (1 ≤ L ∧ L ≤ 4) ∧ (1 ≤ D ∧ D ≤ 64) ∧ (1 ≤ N ∧ N ≤ 64) ∧ (0 ≤ M ∧ M ≤ 4)
noncomputable def mayE (V W H K L D N M : Int) : Int := @ite Int (may V W H K L D N M) (Classical.propDecidable _) 0 40
theorem mayE_no {V W H K L D N M : Int} (h : ¬ may V W H K L D N M) : mayE V W H K L D N M = 40 := by unfold mayE; rw [if_neg h]
theorem mayE_ok {V W H K L D N M : Int} (h : may V W H K L D N M) : mayE V W H K L D N M = 0 := by unfold mayE; rw [if_pos h]
set_option maxHeartbeats 4000000 in
theorem config_ref (V W H K L D N M : Int) (w : World) :
    Calls Tryz.prog 102 #[.agg #[.int .i64 V, .int .i64 W, .int .i64 H, .int .i64 K, .int .i64 L, .int .i64 D, .int .i64 N, .int .i64 M]] w fun e w' => e = .returned (.int .i64 (mayE V W H K L D N M)) ∧ Below w.heap.size w w' := by
  by_cases q0 : V < 2
  · have d0 : decide (V < 2) = true := by simp; omega
    have HE := hidd (mayE_no (V := V) (W := W) (H := H) (K := K) (L := L) (D := D) (N := N) (M := M) (by unfold may; omega))
    clear q0
    go_enter Tryz.func102, Tryz.ntmps102
    go_wp2_with fail
    go_ret
    exact ⟨ret_int HE.out.symm, fresh_alloc _ _⟩
  have d0 : decide (V < 2) = false := by simp; omega
  by_cases q1 : 64 < V
  · have d1 : decide (64 < V) = true := by simp; omega
    have HE := hidd (mayE_no (V := V) (W := W) (H := H) (K := K) (L := L) (D := D) (N := N) (M := M) (by unfold may; omega))
    clear q0 q1
    go_enter Tryz.func102, Tryz.ntmps102
    go_wp2_with fail
    go_ret
    exact ⟨ret_int HE.out.symm, fresh_alloc _ _⟩
  have d1 : decide (64 < V) = false := by simp; omega
  by_cases q2 : W < 2
  · have d2 : decide (W < 2) = true := by simp; omega
    have HE := hidd (mayE_no (V := V) (W := W) (H := H) (K := K) (L := L) (D := D) (N := N) (M := M) (by unfold may; omega))
    clear q0 q1 q2
    go_enter Tryz.func102, Tryz.ntmps102
    go_wp2_with fail
    go_ret
    exact ⟨ret_int HE.out.symm, fresh_alloc _ _⟩
  have d2 : decide (W < 2) = false := by simp; omega
  by_cases q3 : 32 < W
  · have d3 : decide (32 < W) = true := by simp; omega
    have HE := hidd (mayE_no (V := V) (W := W) (H := H) (K := K) (L := L) (D := D) (N := N) (M := M) (by unfold may; omega))
    clear q0 q1 q2 q3
    go_enter Tryz.func102, Tryz.ntmps102
    go_wp2_with fail
    go_ret
    exact ⟨ret_int HE.out.symm, fresh_alloc _ _⟩
  have d3 : decide (32 < W) = false := by simp; omega
  by_cases q4 : H < 1
  · have d4 : decide (H < 1) = true := by simp; omega
    have HE := hidd (mayE_no (V := V) (W := W) (H := H) (K := K) (L := L) (D := D) (N := N) (M := M) (by unfold may; omega))
    clear q0 q1 q2 q3 q4
    go_enter Tryz.func102, Tryz.ntmps102
    go_wp2_with fail
    go_ret
    exact ⟨ret_int HE.out.symm, fresh_alloc _ _⟩
  have d4 : decide (H < 1) = false := by simp; omega
  by_cases q5 : 4 < H
  · have d5 : decide (4 < H) = true := by simp; omega
    have HE := hidd (mayE_no (V := V) (W := W) (H := H) (K := K) (L := L) (D := D) (N := N) (M := M) (by unfold may; omega))
    clear q0 q1 q2 q3 q4 q5
    go_enter Tryz.func102, Tryz.ntmps102
    go_wp2_with fail
    go_ret
    exact ⟨ret_int HE.out.symm, fresh_alloc _ _⟩
  have d5 : decide (4 < H) = false := by simp; omega
  have hW : 2 ≤ W := by simpa using d2
  have hH : 1 ≤ H := by simpa using d4
  have hH4 : H ≤ 4 := by simpa using d5
  have hz : ¬ 2 * H = 0 := by omega
  have e1 : W.tmod (2 * H) = W % (2 * H) := Int.tmod_eq_emod_of_nonneg (by omega)
  by_cases q6 : ¬ W % (2 * H) = 0
  · have d6 : (W % (2 * H) != 0) = true := by simp [q6]
    have HE := hidd (mayE_no (V := V) (W := W) (H := H) (K := K) (L := L) (D := D) (N := N) (M := M) (by unfold may; omega))
    clear q0 q1 q2 q3 q4 q5 q6
    go_enter Tryz.func102, Tryz.ntmps102
    go_wp2_with fail
    go_ret
    exact ⟨ret_int HE.out.symm, fresh_alloc _ _⟩
  have d6 : (W % (2 * H) != 0) = false := by simp; omega
  by_cases q7 : K < 1
  · have d7 : decide (K < 1) = true := by simp; omega
    have HE := hidd (mayE_no (V := V) (W := W) (H := H) (K := K) (L := L) (D := D) (N := N) (M := M) (by unfold may; omega))
    clear q0 q1 q2 q3 q4 q5 q6 q7
    go_enter Tryz.func102, Tryz.ntmps102
    go_wp2_with fail
    go_ret
    exact ⟨ret_int HE.out.symm, fresh_alloc _ _⟩
  have d7 : decide (K < 1) = false := by simp; omega
  by_cases q8 : H < K
  · have d8 : decide (H < K) = true := by simp; omega
    have HE := hidd (mayE_no (V := V) (W := W) (H := H) (K := K) (L := L) (D := D) (N := N) (M := M) (by unfold may; omega))
    clear q0 q1 q2 q3 q4 q5 q6 q7 q8
    go_enter Tryz.func102, Tryz.ntmps102
    go_wp2_with fail
    go_ret
    exact ⟨ret_int HE.out.symm, fresh_alloc _ _⟩
  have d8 : decide (H < K) = false := by simp; omega
  have hK : 1 ≤ K := by simpa using d7
  have hzK : ¬ K = 0 := by omega
  have e2 : H.tmod K = H % K := Int.tmod_eq_emod_of_nonneg (by omega)
  by_cases q9 : ¬ H % K = 0
  · have d9 : (H % K != 0) = true := by simp [q9]
    have HE := hidd (mayE_no (V := V) (W := W) (H := H) (K := K) (L := L) (D := D) (N := N) (M := M) (by unfold may; omega))
    clear q0 q1 q2 q3 q4 q5 q6 q7 q8 q9
    go_enter Tryz.func102, Tryz.ntmps102
    go_wp2_with fail
    go_ret
    exact ⟨ret_int HE.out.symm, fresh_alloc _ _⟩
  have d9 : (H % K != 0) = false := by simp; omega
  by_cases q10 : L < 1
  · have d10 : decide (L < 1) = true := by simp; omega
    have HE := hidd (mayE_no (V := V) (W := W) (H := H) (K := K) (L := L) (D := D) (N := N) (M := M) (by unfold may; omega))
    clear q0 q1 q2 q3 q4 q5 q6 q7 q8 q9 q10
    go_enter Tryz.func102, Tryz.ntmps102
    go_wp2_with fail
    go_ret
    exact ⟨ret_int HE.out.symm, fresh_alloc _ _⟩
  have d10 : decide (L < 1) = false := by simp; omega
  by_cases q11 : 4 < L
  · have d11 : decide (4 < L) = true := by simp; omega
    have HE := hidd (mayE_no (V := V) (W := W) (H := H) (K := K) (L := L) (D := D) (N := N) (M := M) (by unfold may; omega))
    clear q0 q1 q2 q3 q4 q5 q6 q7 q8 q9 q10 q11
    go_enter Tryz.func102, Tryz.ntmps102
    go_wp2_with fail
    go_ret
    exact ⟨ret_int HE.out.symm, fresh_alloc _ _⟩
  have d11 : decide (4 < L) = false := by simp; omega
  by_cases q12 : D < 1
  · have d12 : decide (D < 1) = true := by simp; omega
    have HE := hidd (mayE_no (V := V) (W := W) (H := H) (K := K) (L := L) (D := D) (N := N) (M := M) (by unfold may; omega))
    clear q0 q1 q2 q3 q4 q5 q6 q7 q8 q9 q10 q11 q12
    go_enter Tryz.func102, Tryz.ntmps102
    go_wp2_with fail
    go_ret
    exact ⟨ret_int HE.out.symm, fresh_alloc _ _⟩
  have d12 : decide (D < 1) = false := by simp; omega
  by_cases q13 : 64 < D
  · have d13 : decide (64 < D) = true := by simp; omega
    have HE := hidd (mayE_no (V := V) (W := W) (H := H) (K := K) (L := L) (D := D) (N := N) (M := M) (by unfold may; omega))
    clear q0 q1 q2 q3 q4 q5 q6 q7 q8 q9 q10 q11 q12 q13
    go_enter Tryz.func102, Tryz.ntmps102
    go_wp2_with fail
    go_ret
    exact ⟨ret_int HE.out.symm, fresh_alloc _ _⟩
  have d13 : decide (64 < D) = false := by simp; omega
  by_cases q14 : N < 1
  · have d14 : decide (N < 1) = true := by simp; omega
    have HE := hidd (mayE_no (V := V) (W := W) (H := H) (K := K) (L := L) (D := D) (N := N) (M := M) (by unfold may; omega))
    clear q0 q1 q2 q3 q4 q5 q6 q7 q8 q9 q10 q11 q12 q13 q14
    go_enter Tryz.func102, Tryz.ntmps102
    go_wp2_with fail
    go_ret
    exact ⟨ret_int HE.out.symm, fresh_alloc _ _⟩
  have d14 : decide (N < 1) = false := by simp; omega
  by_cases q15 : 64 < N
  · have d15 : decide (64 < N) = true := by simp; omega
    have HE := hidd (mayE_no (V := V) (W := W) (H := H) (K := K) (L := L) (D := D) (N := N) (M := M) (by unfold may; omega))
    clear q0 q1 q2 q3 q4 q5 q6 q7 q8 q9 q10 q11 q12 q13 q14 q15
    go_enter Tryz.func102, Tryz.ntmps102
    go_wp2_with fail
    go_ret
    exact ⟨ret_int HE.out.symm, fresh_alloc _ _⟩
  have d15 : decide (64 < N) = false := by simp; omega
  by_cases q16 : M < 0
  · have d16 : decide (M < 0) = true := by simp; omega
    have HE := hidd (mayE_no (V := V) (W := W) (H := H) (K := K) (L := L) (D := D) (N := N) (M := M) (by unfold may; omega))
    clear q0 q1 q2 q3 q4 q5 q6 q7 q8 q9 q10 q11 q12 q13 q14 q15 q16
    go_enter Tryz.func102, Tryz.ntmps102
    go_wp2_with fail
    go_ret
    exact ⟨ret_int HE.out.symm, fresh_alloc _ _⟩
  have d16 : decide (M < 0) = false := by simp; omega
  by_cases q17 : 4 < M
  · have d17 : decide (4 < M) = true := by simp; omega
    have HE := hidd (mayE_no (V := V) (W := W) (H := H) (K := K) (L := L) (D := D) (N := N) (M := M) (by unfold may; omega))
    clear q0 q1 q2 q3 q4 q5 q6 q7 q8 q9 q10 q11 q12 q13 q14 q15 q16 q17
    go_enter Tryz.func102, Tryz.ntmps102
    go_wp2_with fail
    go_ret
    exact ⟨ret_int HE.out.symm, fresh_alloc _ _⟩
  have d17 : decide (4 < M) = false := by simp; omega
  have HE := hidd (mayE_ok (V := V) (W := W) (H := H) (K := K) (L := L) (D := D) (N := N) (M := M) (by unfold may; omega))
  clear q0 q1 q2 q3 q4 q5 q6 q7 q8 q9 q10 q11 q12 q13 q14 q15 q16 q17
  go_enter Tryz.func102, Tryz.ntmps102
  go_wp2_with fail
  go_ret
  exact ⟨ret_int HE.out.symm, fresh_alloc _ _⟩
end Go.Proofs.YtmhjpfjhppcfoaaGreatDoor
