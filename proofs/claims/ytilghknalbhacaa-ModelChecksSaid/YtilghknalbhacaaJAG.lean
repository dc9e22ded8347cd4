import Derived.Test.YtilghknalbhacaaJAF
import Derived.Test.YtilghknalbhacaaRows
import Derived.Test.YtilghknalbhacaaJAA
namespace Go.Proofs.Ytilghknalbhacaa
open Go.RowKit
/-! The reference's Check. -/
set_option maxHeartbeats 4000000 in
theorem check_rshape {w : World} {R C : Int} {ao : Option Addr} {n cap : Nat} (hn : n ≤ 9223372036854775807) (hs : shp R C n = false) :
    Calls Try.prog 89 #[.agg #[.int .i64 R, .int .i64 C, .slice ao n cap]] w fun e w' => e = .returned (.int .i64 30) ∧ Below w.heap.size w w' := by
  by_cases r : R < 1
  · have d1 : decide (R < 1) = true := by simp; omega
    clear hs
    go_enter Try.func89, Try.ntmps89
    go_wp2
    go_quiet (fail)
    go_wp2
    go_ret
    exact ⟨rfl, below_drewN (fresh_alloc _ _) _⟩
  · have d1 : decide (R < 1) = false := by simp; omega
    by_cases c : C < 1
    · have d2 : decide (C < 1) = true := by simp; omega
      clear hs
      go_enter Try.func89, Try.ntmps89
      go_wp2
      go_quiet (fail)
      go_wp2
      go_ret
      exact ⟨rfl, below_drewN (fresh_alloc _ _) _⟩
    · obtain ⟨c', rfl⟩ := Int.eq_ofNat_of_zero_le (show 0 ≤ C by omega)
      have d2 : decide ((c' : Int) < 1) = false := by simp; omega
      have hz : ¬ (c' : Int) = 0 := by omega
      have e1 : (n : Int).tmod (c' : Int) = (n : Int) % (c' : Int) := rfl
      have e2 : (n : Int).tdiv (c' : Int) = (n : Int) / (c' : Int) := rfl
      have hq := Int.ediv_nonneg (show 0 ≤ (n : Int) by omega) (show 0 ≤ (c' : Int) by omega)
      have hq2 := Int.ediv_le_self (c' : Int) (show 0 ≤ (n : Int) by omega)
      cases hm : ((n : Int) % (c' : Int) == 0) with
      | false =>
        have hm' : ((n : Int) % (c' : Int) != 0) = true := by rw [bne, hm]; rfl
        clear hm hs
        go_enter Try.func89, Try.ntmps89
        go_wp2
        go_quiet (fail)
        go_wp2
        go_ret
        exact ⟨rfl, below_drewN (fresh_alloc _ _) _⟩
      | true =>
        have hm' : ((n : Int) % (c' : Int) != 0) = false := by rw [bne, hm]; rfl
        have e : shp R c' n = ((n : Int) / c' == R) := by unfold shp; rw [hm, decide_eq_true (by omega), decide_eq_true (by omega)]; simp
        rw [e] at hs
        have hr' : ((n : Int) / (c' : Int) != R) = true := by rw [bne, hs]; rfl
        clear e hm hs
        go_enter Try.func89, Try.ntmps89
        go_wp2
        go_quiet (fail)
        go_wp2
        go_ret
        exact ⟨rfl, below_drewN (fresh_alloc _ _) _⟩
end Go.Proofs.Ytilghknalbhacaa
namespace Go.Proofs.Ytilghknalbhacaa
open Go.RowKit
/-! The reference's Check: a matrix of its shape. -/
theorem shp_parts {R C : Int} {n : Nat} (h : shp R C n = true) : 1 ≤ R ∧ 1 ≤ C ∧ ((n : Int) % C == 0) = true ∧ ((n : Int) / C == R) = true := by
  unfold shp at h
  simp only [Bool.and_eq_true, decide_eq_true_eq] at h
  exact ⟨h.1, h.2.1, h.2.2.1, h.2.2.2⟩
set_option maxHeartbeats 4000000 in
theorem check_rdata {w : World} {R C : Int} {ao : Option Addr} {n cap : Nat} {f : Nat → Int} (ha : RdA w ao 1 n cap (fun i => .int .i8 (f i))) (hs : shp R C n = true) (bf : ∀ i, i < n → -128 ≤ f i ∧ f i ≤ 127) (b : Bool) (hb : b = true ↔ ∀ i, i < n → -127 ≤ f i) :
    Calls Try.prog 89 #[.agg #[.int .i64 R, .int .i64 C, .slice ao n cap]] w fun e w' => e = .returned (.int .i64 (if b then 0 else 30)) ∧ Below w.heap.size w w' := by
  have hn : n ≤ 9223372036854775807 := by have := ha.le; have := ha.top; unfold maxLen at this; omega
  obtain ⟨r, c, hm, hr⟩ := shp_parts hs
  have HB := hidd hb
  have BF := hidd bf
  have d1 : decide (R < 1) = false := by simp; omega
  obtain ⟨c', rfl⟩ := Int.eq_ofNat_of_zero_le (show 0 ≤ C by omega)
  have d2 : decide ((c' : Int) < 1) = false := by simp; omega
  have hz : ¬ (c' : Int) = 0 := by omega
  have e1 : (n : Int).tmod (c' : Int) = (n : Int) % (c' : Int) := rfl
  have e2 : (n : Int).tdiv (c' : Int) = (n : Int) / (c' : Int) := rfl
  have hq := Int.ediv_nonneg (show 0 ≤ (n : Int) by omega) (show 0 ≤ (c' : Int) by omega)
  have hq2 := Int.ediv_le_self (c' : Int) (show 0 ≤ (n : Int) by omega)
  have hm' : ((n : Int) % (c' : Int) != 0) = false := by rw [bne, hm]; rfl
  have hr' : ((n : Int) / (c' : Int) != R) = false := by rw [bne, hr]; rfl
  have c0 : (w.alloc (.cells #[.int .i64 R, .int .i64 (c' : Int), .slice ao n cap] 29)).cell? ⟨w.heap.size, 2, none⟩ = some (.slice ao n cap) := by simp
  have C0 := hidd c0
  have hfa := fresh_alloc w (.cells #[.int .i64 R, .int .i64 (c' : Int), .slice ao n cap] 29)
  clear hs bf hb hm hr c0
  go_enter Try.func89, Try.ntmps89
  go_wp2
  go_quiet (fail)
  go_wp2
  clear d1 d2 hz e1 e2 hq hq2 hm' hr' r c
  generalize w.alloc (.cells #[.int .i64 R, .int .i64 (c' : Int), .slice ao n cap] 29) = w0 at *
  go_loopw [3] (fun i wr => ∃ k : Nat, k ≤ n ∧ i = .int .i64 k ∧ Hid (∀ j, j < k → -127 ≤ f j) ∧ Below w0.heap.size w0 wr) (fun i _ => n - (intOf i).toNat)
  case atStart => exact ⟨0, by omega, rfl, fun j hj => absurd hj (by omega), below_drewN (Below.refl _ _) _⟩
  case round =>
    obtain ⟨k, hk, rfl, HK, hf1⟩ := hrel
    have z0 := fresh_cell hf1 C0.out
    by_cases hlt : k < n
    · obtain ⟨b1, o1, rfl, h1⟩ := ((ha.fresh hfa).fresh hf1).one (by omega)
      have c1 := h1 k hlt
      have bk := BF.out k hlt
      clear h1
      by_cases hv : f k = -128
      · have hbf : b = false := by
          cases hbb : b with
          | false => rfl
          | true => have := HB.out.1 hbb k hlt; omega
        rw [hv] at c1
        clear hv bk
        go_wp2
        all_goals go_ret
        all_goals exact ⟨ret_int (by first | rfl | (rw [hbf]; rfl) | simp), fresh_trans hfa hf1⟩
      · have HK' : Hid (∀ j, j < k + 1 → -127 ≤ f j) := fun j hj => by
          by_cases e : j = k
          · rw [e]; omega
          · exact HK.out j (by omega)
        have hd : (f k == -128) = false := by simp; omega
        clear HK hv
        go_wp2
        go_roundw
        case rel => exact ⟨k + 1, by omega, by go_num, HK', hf1⟩
        case measure => simp [intOf]; omega
    · have hbt : b = true := HB.out.2 (fun i hi => HK.out i (by omega))
      go_wp2
      go_ret
      exact ⟨ret_int (by first | rfl | (rw [hbt]; rfl) | simp), fresh_trans hfa hf1⟩
end Go.Proofs.Ytilghknalbhacaa
namespace Go.Proofs.Ytilghknalbhacaa
open Go.RowKit
/-! CheckConfig: the document's answer. -/
/-- the measures may be -/
def may (V W H K L D N M : Int) : Prop := (2 ≤ V ∧ V ≤ 64) ∧ (2 ≤ W ∧ W ≤ 32) ∧ (1 ≤ H ∧ H ≤ 4) ∧ W % (2 * H) = 0 ∧ (1 ≤ K ∧ K ≤ H) ∧ H % K = 0 ∧ (1 ≤ L ∧ L ≤ 4) ∧ (1 ≤ D ∧ D ≤ 64) ∧ (1 ≤ N ∧ N ≤ 64) ∧ (0 ≤ M ∧ M ≤ 4)
noncomputable def mayE (V W H K L D N M : Int) : Int := @ite Int (may V W H K L D N M) (Classical.propDecidable _) 0 40
theorem mayE_no {V W H K L D N M : Int} (h : ¬ may V W H K L D N M) : mayE V W H K L D N M = 40 := by unfold mayE; rw [if_neg h]
theorem mayE_ok {V W H K L D N M : Int} (h : may V W H K L D N M) : mayE V W H K L D N M = 0 := by unfold mayE; rw [if_pos h]
set_option maxHeartbeats 4000000 in
theorem config_ref (V W H K L D N M : Int) (w : World) :
    Calls Try.prog 10 #[.agg #[.int .i64 V, .int .i64 W, .int .i64 H, .int .i64 K, .int .i64 L, .int .i64 D, .int .i64 N, .int .i64 M]] w fun e w' => e = .returned (.int .i64 (mayE V W H K L D N M)) ∧ Below w.heap.size w w' := by
  by_cases q0 : V < 2
  · have d0 : decide (V < 2) = true := by simp; omega
    have HE := hidd (mayE_no (V := V) (W := W) (H := H) (K := K) (L := L) (D := D) (N := N) (M := M) (by unfold may; omega))
    clear q0
    go_enter Try.func10, Try.ntmps10
    go_wp2_with fail
    go_ret
    exact ⟨ret_int HE.out.symm, fresh_alloc _ _⟩
  have d0 : decide (V < 2) = false := by simp; omega
  by_cases q1 : 64 < V
  · have d1 : decide (64 < V) = true := by simp; omega
    have HE := hidd (mayE_no (V := V) (W := W) (H := H) (K := K) (L := L) (D := D) (N := N) (M := M) (by unfold may; omega))
    clear q0 q1
    go_enter Try.func10, Try.ntmps10
    go_wp2_with fail
    go_ret
    exact ⟨ret_int HE.out.symm, fresh_alloc _ _⟩
  have d1 : decide (64 < V) = false := by simp; omega
  by_cases q2 : W < 2
  · have d2 : decide (W < 2) = true := by simp; omega
    have HE := hidd (mayE_no (V := V) (W := W) (H := H) (K := K) (L := L) (D := D) (N := N) (M := M) (by unfold may; omega))
    clear q0 q1 q2
    go_enter Try.func10, Try.ntmps10
    go_wp2_with fail
    go_ret
    exact ⟨ret_int HE.out.symm, fresh_alloc _ _⟩
  have d2 : decide (W < 2) = false := by simp; omega
  by_cases q3 : 32 < W
  · have d3 : decide (32 < W) = true := by simp; omega
    have HE := hidd (mayE_no (V := V) (W := W) (H := H) (K := K) (L := L) (D := D) (N := N) (M := M) (by unfold may; omega))
    clear q0 q1 q2 q3
    go_enter Try.func10, Try.ntmps10
    go_wp2_with fail
    go_ret
    exact ⟨ret_int HE.out.symm, fresh_alloc _ _⟩
  have d3 : decide (32 < W) = false := by simp; omega
  by_cases q4 : H < 1
  · have d4 : decide (H < 1) = true := by simp; omega
    have HE := hidd (mayE_no (V := V) (W := W) (H := H) (K := K) (L := L) (D := D) (N := N) (M := M) (by unfold may; omega))
    clear q0 q1 q2 q3 q4
    go_enter Try.func10, Try.ntmps10
    go_wp2_with fail
    go_ret
    exact ⟨ret_int HE.out.symm, fresh_alloc _ _⟩
  have d4 : decide (H < 1) = false := by simp; omega
  by_cases q5 : 4 < H
  · have d5 : decide (4 < H) = true := by simp; omega
    have HE := hidd (mayE_no (V := V) (W := W) (H := H) (K := K) (L := L) (D := D) (N := N) (M := M) (by unfold may; omega))
    clear q0 q1 q2 q3 q4 q5
    go_enter Try.func10, Try.ntmps10
    go_wp2_with fail
    go_ret
    exact ⟨ret_int HE.out.symm, fresh_alloc _ _⟩
  have d5 : decide (4 < H) = false := by simp; omega
  have hW : 2 ≤ W := by simpa using d2
  have hH : 1 ≤ H := by simpa using d4
  have hH4 : H ≤ 4 := by simpa using d5
  have hz : ¬ 2 * H = 0 := by omega
  have e1 : W.tmod (2 * H) = W % (2 * H) := Int.tmod_eq_emod_of_nonneg (by omega)
  by_cases q6 : ¬ W % (2 * H) = 0
  · have d6 : (W % (2 * H) != 0) = true := by simp [q6]
    have HE := hidd (mayE_no (V := V) (W := W) (H := H) (K := K) (L := L) (D := D) (N := N) (M := M) (by unfold may; omega))
    clear q0 q1 q2 q3 q4 q5 q6
    go_enter Try.func10, Try.ntmps10
    go_wp2_with fail
    go_ret
    exact ⟨ret_int HE.out.symm, fresh_alloc _ _⟩
  have d6 : (W % (2 * H) != 0) = false := by simp; omega
  by_cases q7 : K < 1
  · have d7 : decide (K < 1) = true := by simp; omega
    have HE := hidd (mayE_no (V := V) (W := W) (H := H) (K := K) (L := L) (D := D) (N := N) (M := M) (by unfold may; omega))
    clear q0 q1 q2 q3 q4 q5 q6 q7
    go_enter Try.func10, Try.ntmps10
    go_wp2_with fail
    go_ret
    exact ⟨ret_int HE.out.symm, fresh_alloc _ _⟩
  have d7 : decide (K < 1) = false := by simp; omega
  by_cases q8 : H < K
  · have d8 : decide (H < K) = true := by simp; omega
    have HE := hidd (mayE_no (V := V) (W := W) (H := H) (K := K) (L := L) (D := D) (N := N) (M := M) (by unfold may; omega))
    clear q0 q1 q2 q3 q4 q5 q6 q7 q8
    go_enter Try.func10, Try.ntmps10
    go_wp2_with fail
    go_ret
    exact ⟨ret_int HE.out.symm, fresh_alloc _ _⟩
  have d8 : decide (H < K) = false := by simp; omega
  have hK : 1 ≤ K := by simpa using d7
  have hzK : ¬ K = 0 := by omega
  have e2 : H.tmod K = H % K := Int.tmod_eq_emod_of_nonneg (by omega)
  by_cases q9 : ¬ H % K = 0
  · have d9 : (H % K != 0) = true := by simp [q9]
    have HE := hidd (mayE_no (V := V) (W := W) (H := H) (K := K) (L := L) (D := D) (N := N) (M := M) (by unfold may; omega))
    clear q0 q1 q2 q3 q4 q5 q6 q7 q8 q9
    go_enter Try.func10, Try.ntmps10
    go_wp2_with fail
    go_ret
    exact ⟨ret_int HE.out.symm, fresh_alloc _ _⟩
  have d9 : (H % K != 0) = false := by simp; omega
  by_cases q10 : L < 1
  · have d10 : decide (L < 1) = true := by simp; omega
    have HE := hidd (mayE_no (V := V) (W := W) (H := H) (K := K) (L := L) (D := D) (N := N) (M := M) (by unfold may; omega))
    clear q0 q1 q2 q3 q4 q5 q6 q7 q8 q9 q10
    go_enter Try.func10, Try.ntmps10
    go_wp2_with fail
    go_ret
    exact ⟨ret_int HE.out.symm, fresh_alloc _ _⟩
  have d10 : decide (L < 1) = false := by simp; omega
  by_cases q11 : 4 < L
  · have d11 : decide (4 < L) = true := by simp; omega
    have HE := hidd (mayE_no (V := V) (W := W) (H := H) (K := K) (L := L) (D := D) (N := N) (M := M) (by unfold may; omega))
    clear q0 q1 q2 q3 q4 q5 q6 q7 q8 q9 q10 q11
    go_enter Try.func10, Try.ntmps10
    go_wp2_with fail
    go_ret
    exact ⟨ret_int HE.out.symm, fresh_alloc _ _⟩
  have d11 : decide (4 < L) = false := by simp; omega
  by_cases q12 : D < 1
  · have d12 : decide (D < 1) = true := by simp; omega
    have HE := hidd (mayE_no (V := V) (W := W) (H := H) (K := K) (L := L) (D := D) (N := N) (M := M) (by unfold may; omega))
    clear q0 q1 q2 q3 q4 q5 q6 q7 q8 q9 q10 q11 q12
    go_enter Try.func10, Try.ntmps10
    go_wp2_with fail
    go_ret
    exact ⟨ret_int HE.out.symm, fresh_alloc _ _⟩
  have d12 : decide (D < 1) = false := by simp; omega
  by_cases q13 : 64 < D
  · have d13 : decide (64 < D) = true := by simp; omega
    have HE := hidd (mayE_no (V := V) (W := W) (H := H) (K := K) (L := L) (D := D) (N := N) (M := M) (by unfold may; omega))
    clear q0 q1 q2 q3 q4 q5 q6 q7 q8 q9 q10 q11 q12 q13
    go_enter Try.func10, Try.ntmps10
    go_wp2_with fail
    go_ret
    exact ⟨ret_int HE.out.symm, fresh_alloc _ _⟩
  have d13 : decide (64 < D) = false := by simp; omega
  by_cases q14 : N < 1
  · have d14 : decide (N < 1) = true := by simp; omega
    have HE := hidd (mayE_no (V := V) (W := W) (H := H) (K := K) (L := L) (D := D) (N := N) (M := M) (by unfold may; omega))
    clear q0 q1 q2 q3 q4 q5 q6 q7 q8 q9 q10 q11 q12 q13 q14
    go_enter Try.func10, Try.ntmps10
    go_wp2_with fail
    go_ret
    exact ⟨ret_int HE.out.symm, fresh_alloc _ _⟩
  have d14 : decide (N < 1) = false := by simp; omega
  by_cases q15 : 64 < N
  · have d15 : decide (64 < N) = true := by simp; omega
    have HE := hidd (mayE_no (V := V) (W := W) (H := H) (K := K) (L := L) (D := D) (N := N) (M := M) (by unfold may; omega))
    clear q0 q1 q2 q3 q4 q5 q6 q7 q8 q9 q10 q11 q12 q13 q14 q15
    go_enter Try.func10, Try.ntmps10
    go_wp2_with fail
    go_ret
    exact ⟨ret_int HE.out.symm, fresh_alloc _ _⟩
  have d15 : decide (64 < N) = false := by simp; omega
  by_cases q16 : M < 0
  · have d16 : decide (M < 0) = true := by simp; omega
    have HE := hidd (mayE_no (V := V) (W := W) (H := H) (K := K) (L := L) (D := D) (N := N) (M := M) (by unfold may; omega))
    clear q0 q1 q2 q3 q4 q5 q6 q7 q8 q9 q10 q11 q12 q13 q14 q15 q16
    go_enter Try.func10, Try.ntmps10
    go_wp2_with fail
    go_ret
    exact ⟨ret_int HE.out.symm, fresh_alloc _ _⟩
  have d16 : decide (M < 0) = false := by simp; omega
  by_cases q17 : 4 < M
  · have d17 : decide (4 < M) = true := by simp; omega
    have HE := hidd (mayE_no (V := V) (W := W) (H := H) (K := K) (L := L) (D := D) (N := N) (M := M) (by unfold may; omega))
    clear q0 q1 q2 q3 q4 q5 q6 q7 q8 q9 q10 q11 q12 q13 q14 q15 q16 q17
    go_enter Try.func10, Try.ntmps10
    go_wp2_with fail
    go_ret
    exact ⟨ret_int HE.out.symm, fresh_alloc _ _⟩
  have d17 : decide (4 < M) = false := by simp; omega
  have HE := hidd (mayE_ok (V := V) (W := W) (H := H) (K := K) (L := L) (D := D) (N := N) (M := M) (by unfold may; omega))
  clear q0 q1 q2 q3 q4 q5 q6 q7 q8 q9 q10 q11 q12 q13 q14 q15 q16 q17
  go_enter Try.func10, Try.ntmps10
  go_wp2_with fail
  go_ret
  exact ⟨ret_int HE.out.symm, fresh_alloc _ _⟩
end Go.Proofs.Ytilghknalbhacaa
