import Derived.Test.YtmcefgpejocjfaaDoorStepRef
import Derived.Test.YtmcefgpejocjfaaDoorTns
namespace Go.Proofs.YtmcefgpejocjfaaDoor
open Go.RowKit
/-! Turns' refusals: the program's, the reference's. -/
def OkT (C S : Nat → Int) (i : Nat) : Prop := (-16384 ≤ C i ∧ C i ≤ 16384) ∧ (-16384 ≤ S i ∧ S i ≤ 16384)
set_option maxHeartbeats 400000 in
theorem turns_arg {w : World} {ao : Option Addr} {n ca : Nat} (N : Int) (h : N < 0 ∨ 64 < N) :
    Calls Tryd.prog 27 #[.slice ao n ca, .int .i64 N] w fun e w' => e = .returned (.tuple #[.slice none 0 0, .int .i64 1]) ∧ w' = w := by
  by_cases h0 : N < 0
  · clear h
    go_enter Tryd.func27, Tryd.ntmps27
    go_wp2
    go_ret2
    exact ⟨rfl, rfl⟩
  · have h1 : 64 < N := by omega
    clear h
    go_enter Tryd.func27, Tryd.ntmps27
    go_wp2
    go_ret2
    exact ⟨rfl, rfl⟩
set_option maxHeartbeats 400000 in
theorem turns_rarg {w : World} {ao : Option Addr} {n ca : Nat} (N : Int) (h : N < 0 ∨ 64 < N) :
    Calls Tryd.prog 53 #[.slice ao n ca, .int .i64 N] w fun e w' => e = .returned (.tuple #[.slice none 0 0, .int .i64 1]) ∧ w' = w := by
  by_cases h0 : N < 0
  · clear h
    go_enter Tryd.func53, Tryd.ntmps53
    go_wp2
    go_ret2
    exact ⟨rfl, rfl⟩
  · have h1 : 64 < N := by omega
    clear h
    go_enter Tryd.func53, Tryd.ntmps53
    go_wp2
    go_ret2
    exact ⟨rfl, rfl⟩
set_option maxHeartbeats 1000000 in
theorem turns_shape {w : World} {ao : Option Addr} {n ca N : Nat} {C S : Nat → Int} (ha : RdA w ao 2 n ca (tcs C S)) (hN : N ≤ 64) (hb : ¬ ∀ i, i < n → OkT C S i) :
    Calls Tryd.prog 27 #[.slice ao n ca, .int .i64 (N : Int)] w fun e w' => e = .returned (.tuple #[.slice none 0 0, .int .i64 30]) ∧ Below w.heap.size w w' := by
  have hn : n ≤ 9223372036854775807 := by have := ha.le; have := ha.top; unfold maxLen at this; omega
  have HB := hidd hb
  clear hb
  go_enter Tryd.func27, Tryd.ntmps27
  go_wp2
  go_loopw [20] (fun i wr => ∃ k : Nat, k ≤ n ∧ i = .int .i64 k ∧ Hid (∀ j, j < k → OkT C S j) ∧ Below w.heap.size w wr) (fun i _ => n - (intOf i).toNat)
  case atStart => exact ⟨0, by omega, rfl, fun j hj => absurd hj (by omega), Below.refl _ _⟩
  case round =>
    obtain ⟨k, hk, rfl, HK, hf⟩ := hrel
    by_cases hlt : k < n
    · obtain ⟨b1, o1, rfl, h1⟩ := (ha.fresh hf).two (by omega)
      obtain ⟨c1, c2⟩ := h1 k hlt
      clear h1
      by_cases d1 : -16384 ≤ C k ∧ C k ≤ 16384
      · by_cases d2 : -16384 ≤ S k ∧ S k ≤ 16384
        · have HK' : Hid (∀ j, j < k + 1 → OkT C S j) := fun j hj => by
            by_cases e : j = k
            · subst e; exact ⟨d1, d2⟩
            · exact HK.out j (by omega)
          go_wp2_with fail
          refine (beyond_ok _ _ d1.1 d1.2).mono ?_
          rintro e w1 ⟨rfl, hw1⟩
          rw [hw1]
          clear hw1
          go_wp2_with fail
          refine (beyond_ok _ _ d2.1 d2.2).mono ?_
          rintro e w2 ⟨rfl, hw2⟩
          rw [hw2]
          clear hw2
          go_wp2
          go_roundw
          case rel => exact ⟨k + 1, hlt, by go_num, HK', fresh_trans hf (fresh_alloc _ _)⟩
          case measure => simp [intOf]; omega
        · have d2' : S k < -16384 ∨ 16384 < S k := by omega
          have D2 := hidd d2'
          clear d2 d2'
          go_wp2_with fail
          refine (beyond_ok _ _ d1.1 d1.2).mono ?_
          rintro e w1 ⟨rfl, hw1⟩
          rw [hw1]
          clear hw1
          go_wp2_with fail
          refine (beyond_bad _ _ D2.out).mono ?_
          rintro e w2 ⟨rfl, hw2⟩
          rw [hw2]
          clear hw2
          go_wp2
          go_ret2
          exact ⟨rfl, fresh_trans hf (fresh_alloc _ _)⟩
      · have d1' : C k < -16384 ∨ 16384 < C k := by omega
        have D1 := hidd d1'
        clear d1 d1'
        go_wp2_with fail
        refine (beyond_bad _ _ D1.out).mono ?_
        rintro e w1 ⟨rfl, hw1⟩
        rw [hw1]
        clear hw1
        go_wp2
        go_ret2
        exact ⟨rfl, fresh_trans hf (fresh_alloc _ _)⟩
    · exact absurd (fun j hj => HK.out j (by omega)) HB.out
set_option maxHeartbeats 1000000 in
theorem turns_rshape {w : World} {ao : Option Addr} {n ca N : Nat} {C S : Nat → Int} (ha : RdA w ao 2 n ca (tcs C S)) (hN : N ≤ 64) (hb : ¬ ∀ i, i < n → OkT C S i) :
    Calls Tryd.prog 53 #[.slice ao n ca, .int .i64 (N : Int)] w fun e w' => e = .returned (.tuple #[.slice none 0 0, .int .i64 30]) ∧ Below w.heap.size w w' := by
  have hn : n ≤ 9223372036854775807 := by have := ha.le; have := ha.top; unfold maxLen at this; omega
  have HB := hidd hb
  clear hb
  go_enter Tryd.func53, Tryd.ntmps53
  go_wp2
  go_loopw [6] (fun i wr => ∃ k : Nat, k ≤ n ∧ i = .int .i64 k ∧ Hid (∀ j, j < k → OkT C S j) ∧ Below w.heap.size w wr) (fun i _ => n - (intOf i).toNat)
  case atStart => exact ⟨0, by omega, rfl, fun j hj => absurd hj (by omega), Below.refl _ _⟩
  case round =>
    obtain ⟨k, hk, rfl, HK, hf⟩ := hrel
    by_cases hlt : k < n
    · obtain ⟨b1, o1, rfl, h1⟩ := (ha.fresh hf).two (by omega)
      obtain ⟨c1, c2⟩ := h1 k hlt
      clear h1
      by_cases d1 : -16384 ≤ C k ∧ C k ≤ 16384
      · by_cases d2 : -16384 ≤ S k ∧ S k ≤ 16384
        · have HK' : Hid (∀ j, j < k + 1 → OkT C S j) := fun j hj => by
            by_cases e : j = k
            · subst e; exact ⟨d1, d2⟩
            · exact HK.out j (by omega)
          go_wp2_with fail
          refine (small_ok _ _ d1.1 d1.2).mono ?_
          rintro e w1 ⟨rfl, hw1⟩
          rw [hw1]
          clear hw1
          go_wp2_with fail
          refine (small_ok _ _ d2.1 d2.2).mono ?_
          rintro e w2 ⟨rfl, hw2⟩
          rw [hw2]
          clear hw2
          go_wp2
          go_roundw
          case rel => exact ⟨k + 1, hlt, by go_num, HK', hf⟩
          case measure => simp [intOf]; omega
        · have d2' : S k < -16384 ∨ 16384 < S k := by omega
          have D2 := hidd d2'
          clear d2 d2'
          go_wp2_with fail
          refine (small_ok _ _ d1.1 d1.2).mono ?_
          rintro e w1 ⟨rfl, hw1⟩
          rw [hw1]
          clear hw1
          go_wp2_with fail
          refine (small_bad _ _ D2.out).mono ?_
          rintro e w2 ⟨rfl, hw2⟩
          rw [hw2]
          clear hw2
          go_wp2
          go_ret2
          exact ⟨rfl, hf⟩
      · have d1' : C k < -16384 ∨ 16384 < C k := by omega
        have D1 := hidd d1'
        clear d1 d1'
        by_cases d2 : -16384 ≤ S k ∧ S k ≤ 16384
        · go_wp2_with fail
          refine (small_bad _ _ D1.out).mono ?_
          rintro e w1 ⟨rfl, hw1⟩
          rw [hw1]
          clear hw1
          go_wp2_with fail
          refine (small_ok _ _ d2.1 d2.2).mono ?_
          rintro e w2 ⟨rfl, hw2⟩
          rw [hw2]
          clear hw2
          go_wp2
          go_ret2
          exact ⟨rfl, hf⟩
        · have d2' : S k < -16384 ∨ 16384 < S k := by omega
          have D2 := hidd d2'
          clear d2 d2'
          go_wp2_with fail
          refine (small_bad _ _ D1.out).mono ?_
          rintro e w1 ⟨rfl, hw1⟩
          rw [hw1]
          clear hw1
          go_wp2_with fail
          refine (small_bad _ _ D2.out).mono ?_
          rintro e w2 ⟨rfl, hw2⟩
          rw [hw2]
          clear hw2
          go_wp2
          go_ret2
          exact ⟨rfl, hf⟩
    · exact absurd (fun j hj => HK.out j (by omega)) HB.out
end Go.Proofs.YtmcefgpejocjfaaDoor
