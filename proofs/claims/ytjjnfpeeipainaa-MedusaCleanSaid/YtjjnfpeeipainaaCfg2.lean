import Derived.Test.YtjjnfpeeipainaaCfg
namespace Go.Proofs.Ytjjnfpeeipainaa
open Go.RowKit
theorem CW.fresh {w w2 w3 : World} {V W H K L D N M : Int} (h : CW w w2 V W H K L D N M) (f : Below w2.heap.size w2 w3) : CW w w3 V W H K L D N M := by
  obtain ⟨t, ht⟩ := h.tab
  have hl := (Array.getElem?_eq_some_iff.1 ht).1
  exact ⟨⟨t, by rw [f.block _ hl, ht]⟩, fresh_cell f h.c1, fresh_cell f h.c2, fresh_cell f h.c3, Nat.le_trans h.sz f.size, h.low.trans (f.mono h.low.size)⟩
theorem all8 {V W H K L D N M : Int} (h : ∀ j, j < 8 → bLo j ≤ bIs V W H K L D N M j ∧ bIs V W H K L D N M j ≤ bHi H j) (h1 : W % (2 * H) = 0) (h2 : H % K = 0) : may V W H K L D N M :=
  ⟨h 0 (by decide), h 1 (by decide), h 2 (by decide), h1, h 3 (by decide), h2, h 4 (by decide), h 5 (by decide), h 6 (by decide), h 7 (by decide)⟩
theorem may8 {V W H K L D N M : Int} (h : may V W H K L D N M) (j : Nat) (hj : j < 8) : bLo j ≤ bIs V W H K L D N M j ∧ bIs V W H K L D N M j ≤ bHi H j := by
  obtain ⟨h0, h1, h2, _, h3, _, h4, h5, h6, h7⟩ := h
  match j, hj with
  | 0, _ => exact h0
  | 1, _ => exact h1
  | 2, _ => exact h2
  | 3, _ => exact h3
  | 4, _ => exact h4
  | 5, _ => exact h5
  | 6, _ => exact h6
  | 7, _ => exact h7
set_option maxHeartbeats 1000000 in
set_option maxRecDepth 100000 in
theorem config_any (V W H K L D N M : Int) (w : World) :
    Calls Try.prog 66 #[.agg #[.int .i64 V, .int .i64 W, .int .i64 H, .int .i64 K, .int .i64 L, .int .i64 D, .int .i64 N, .int .i64 M]] w fun e w' => e = .returned (.int .i64 (mayE V W H K L D N M)) ∧ Below w.heap.size w w' := by
  go_enter Try.func66, Try.ntmps66
  go_wp2_with (refine store_tab w V W H K L D N M rfl _ _ rfl rfl rfl _ _ ?_)
  intro w2 hcw
  obtain ⟨t9, htab⟩ := hcw.tab
  have HT := hidd htab
  have HC := hidd hcw
  clear htab hcw
  go_wp2_with (refine wpList_load_row rfl 139 _ rfl (w.heap.size + 1) rfl t9 _ (0, 0) _ HT.out Try.underlying139 rfl (by kernel_rfl) ?_)
  clear HT
  have AT := hidd (tabC_at V W H K L D N M)
  generalize tabC V W H K L D N M = tb at *
  go_loopw [34] (fun i wr => ∃ k : Nat, k ≤ 8 ∧ i = .int .i64 k ∧ Hid (∀ j, j < k → bLo j ≤ bIs V W H K L D N M j ∧ bIs V W H K L D N M j ≤ bHi H j) ∧ Hid (CW w wr V W H K L D N M)) (fun i _ => 8 - (intOf i).toNat)
  case atStart => exact ⟨0, by omega, rfl, fun j hj => absurd hj (by omega), HC⟩
  case round =>
    clear HC
    obtain ⟨k, hk, rfl, hall, hcw⟩ := hrel
    by_cases hlt : k < 8
    · have hi := AT.out k hlt
      by_cases c1 : bIs V W H K L D N M k < bLo k
      · have d1 : decide (bIs V W H K L D N M k < bLo k) = true := by simp; omega
        have HE := hidd (mayE_no (V := V) (W := W) (H := H) (K := K) (L := L) (D := D) (N := N) (M := M) (fun h => by have := may8 h k hlt; omega))
        generalize bIs V W H K L D N M k = x at *
        generalize bLo k = lo at *
        generalize bHi H k = up at *
        clear c1
        go_wp2
        go_ret
        exact ⟨ret_int HE.out.symm, (hcw.out.fresh (fresh_alloc _ _)).low⟩
      · have d1 : decide (bIs V W H K L D N M k < bLo k) = false := by simp; omega
        by_cases c2 : bHi H k < bIs V W H K L D N M k
        · have d2 : decide (bHi H k < bIs V W H K L D N M k) = true := by simp; omega
          have HE := hidd (mayE_no (V := V) (W := W) (H := H) (K := K) (L := L) (D := D) (N := N) (M := M) (fun h => by have := may8 h k hlt; omega))
          generalize bIs V W H K L D N M k = x at *
          generalize bLo k = lo at *
          generalize bHi H k = up at *
          clear c1 c2
          go_wp2
          go_ret
          exact ⟨ret_int HE.out.symm, (hcw.out.fresh (fresh_alloc _ _)).low⟩
        · have d2 : decide (bHi H k < bIs V W H K L D N M k) = false := by simp; omega
          have hnew : Hid (∀ j, j < k + 1 → bLo j ≤ bIs V W H K L D N M j ∧ bIs V W H K L D N M j ≤ bHi H j) := fun j hj => by
            by_cases e : j = k
            · subst e; omega
            · exact hall.out j (by omega)
          generalize bIs V W H K L D N M k = x at *
          generalize bLo k = lo at *
          generalize bHi H k = up at *
          clear c1 c2
          go_wp2
          go_roundw
          case rel => exact ⟨k + 1, by omega, by go_num, hnew, hcw.out.fresh (fresh_alloc _ _)⟩
          case measure => simp [intOf]; omega
    · obtain rfl : k = 8 := by omega
      have k1 := hcw.out.c1
      have k2 := hcw.out.c2
      have k3 := hcw.out.c3
      have h1 := hall.out 1 (by decide)
      have h2 := hall.out 2 (by decide)
      have h3 := hall.out 3 (by decide)
      have hW : 2 ≤ W := h1.1
      have hH : 1 ≤ H := h2.1
      have hH4 : H ≤ 4 := h2.2
      have hK : 1 ≤ K := h3.1
      have hz : ¬ 2 * H = 0 := by omega
      have hzK : ¬ K = 0 := by omega
      have e1 : W.tmod (2 * H) = W % (2 * H) := Int.tmod_eq_emod_of_nonneg (by omega)
      have e2 : H.tmod K = H % K := Int.tmod_eq_emod_of_nonneg (by omega)
      clear h1 h2 h3
      by_cases q1 : W % (2 * H) = 0
      · have d1 : (W % (2 * H) != 0) = false := by simp [q1]
        by_cases q2 : H % K = 0
        · have d2 : (H % K != 0) = false := by simp [q2]
          have HE := hidd (mayE_ok (all8 hall.out q1 q2))
          clear q1 q2
          go_wp2
          go_ret
          exact ⟨ret_int HE.out.symm, hcw.out.low⟩
        · have d2 : (H % K != 0) = true := by simp [q2]
          have HE := hidd (mayE_no (V := V) (W := W) (H := H) (K := K) (L := L) (D := D) (N := N) (M := M) (fun h => q2 h.2.2.2.2.2.1))
          clear q1 q2
          go_wp2
          go_ret
          exact ⟨ret_int HE.out.symm, hcw.out.low⟩
      · have d1 : (W % (2 * H) != 0) = true := by simp [q1]
        have HE := hidd (mayE_no (V := V) (W := W) (H := H) (K := K) (L := L) (D := D) (N := N) (M := M) (fun h => q1 h.2.2.2.1))
        clear q1
        go_wp2
        go_ret
        exact ⟨ret_int HE.out.symm, hcw.out.low⟩
end Go.Proofs.Ytjjnfpeeipainaa
