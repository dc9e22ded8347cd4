import Derived.Test.YtmcefgpejocjfaaDoorEqs
import Derived.Test.YtmcefgpejocjfaaDoorSmall
import Derived.Test.YtmcefgpejocjfaaDoorTns
namespace Go.Proofs.YtmcefgpejocjfaaDoor
open Go.RowKit
/-! Copies, and copies with marks behind them. -/
/-- the list, and marks behind it -/
def mkd (n : Nat) (f : Nat → Int) (j : Nat) : Int := if j < n then f j else ((j - n : Nat) : Int)
def mkz (n : Nat) (f : Nat → Int) (j : Nat) : Int := if j < n then f j else 0
theorem mkd_lo (n : Nat) (f : Nat → Int) {j : Nat} (h : j < n) : mkd n f j = f j := if_pos h
theorem mkd_hi (n : Nat) (f : Nat → Int) (k : Nat) : mkd n f (n + k) = (k : Int) := by unfold mkd; rw [if_neg (by omega), show n + k - n = k by omega]
theorem mkz_lo (n : Nat) (f : Nat → Int) {j : Nat} (h : j < n) : mkz n f j = f j := if_pos h
theorem mkz_hi (n : Nat) (f : Nat → Int) (k : Nat) : mkz n f (n + k) = 0 := by unfold mkz; rw [if_neg (by omega)]
set_option maxHeartbeats 1000000 in
theorem copyN_any {w : World} {ao : Option Addr} {n ca : Nat} {f : Nat → Int} (ha : RdA w ao 1 n ca (fun i => .int .i8 (f i))) (hn : n ≤ 1073741824) :
    Calls Tryd.prog 35 #[.slice ao n ca] w fun e w' => ∃ v, e = .returned v ∧ Own w' w.heap.size 48 1 v n (fun j => .int .i8 (f j)) ∧ Below w.heap.size w w' := by
  go_enter Tryd.func35, Tryd.ntmps35
  go_wp2
  go_loopw [3, 4] (fun v i wr => ∃ k : Nat, k ≤ n ∧ i = .int .i64 k ∧ Own wr w.heap.size 48 1 v k (fun j => .int .i8 (f j)) ∧ Below w.heap.size w wr) (fun _ i _ => n - (intOf i).toNat)
  case atStart => exact ⟨0, by omega, rfl, own_nil _ _ _ _ _, Below.refl _ _⟩
  case round =>
    obtain ⟨k, hk, rfl, hown, hf1⟩ := hrel
    have hsz := hf1.size
    by_cases hlt : k < n
    · obtain ⟨b1, o1, rfl, h1⟩ := (ha.fresh hf1).one (by omega)
      have c1 := h1 k hlt
      clear h1
      go_wp2_with (at_builtin; refine wpList_app1 _ rfl _ _ 26 rfl _ 48 (.int .i8 0) 1 Tryd.underlying26 infoI8 rfl _ k _ rfl (hown.kept (fresh_alloc _ _)) _ 1 rfl (new_cell _ _ _) rfl (by omega) (by omega) (by simp; omega) ?_)
      intro v' w6 hown' happ
      have hf6 := happ.below (hf1.alloc hsz _) (hown.kept (fresh_alloc _ _)) (Nat.le_refl _) (by simp; omega)
      clear happ hown hf1 c1
      go_wp2
      go_roundw
      case rel => exact ⟨k + 1, by omega, by go_num, hown', hf6⟩
      case measure => simp [intOf]; omega
    · obtain rfl : k = n := by omega
      go_wp2
      go_ret
      exact ⟨_, rfl, hown, hf1⟩
set_option maxHeartbeats 1000000 in
theorem copyW_any {w : World} {ao : Option Addr} {n ca : Nat} {f : Nat → Int} (ha : RdA w ao 1 n ca (fun i => .int .i64 (f i))) (hn : n ≤ 1073741824) :
    Calls Tryd.prog 36 #[.slice ao n ca] w fun e w' => ∃ v, e = .returned v ∧ Own w' w.heap.size 2 1 v n (fun j => .int .i64 (f j)) ∧ Below w.heap.size w w' := by
  go_enter Tryd.func36, Tryd.ntmps36
  go_wp2
  go_loopw [3, 4] (fun v i wr => ∃ k : Nat, k ≤ n ∧ i = .int .i64 k ∧ Own wr w.heap.size 2 1 v k (fun j => .int .i64 (f j)) ∧ Below w.heap.size w wr) (fun _ i _ => n - (intOf i).toNat)
  case atStart => exact ⟨0, by omega, rfl, own_nil _ _ _ _ _, Below.refl _ _⟩
  case round =>
    obtain ⟨k, hk, rfl, hown, hf1⟩ := hrel
    have hsz := hf1.size
    by_cases hlt : k < n
    · obtain ⟨b1, o1, rfl, h1⟩ := (ha.fresh hf1).one (by omega)
      have c1 := h1 k hlt
      clear h1
      go_wp2_with (at_builtin; refine wpList_app1 _ rfl _ _ 29 rfl _ 2 (.int .i64 0) 8 Tryd.underlying29 infoI64 rfl _ k _ rfl (hown.kept (fresh_alloc _ _)) _ 1 rfl (new_cell _ _ _) rfl (by omega) (by omega) (by simp; omega) ?_)
      intro v' w6 hown' happ
      have hf6 := happ.below (hf1.alloc hsz _) (hown.kept (fresh_alloc _ _)) (Nat.le_refl _) (by simp; omega)
      clear happ hown hf1 c1
      go_wp2
      go_roundw
      case rel => exact ⟨k + 1, by omega, by go_num, hown', hf6⟩
      case measure => simp [intOf]; omega
    · obtain rfl : k = n := by omega
      go_wp2
      go_ret
      exact ⟨_, rfl, hown, hf1⟩
set_option maxHeartbeats 1000000 in
theorem narrowed_any {w : World} {ao : Option Addr} {n ca : Nat} {f : Nat → Int} (ha : RdA w ao 1 n ca (fun i => .int .i8 (f i))) (hn : n ≤ 1073741824) :
    Calls Tryd.prog 18 #[.slice ao n ca] w fun e w' => ∃ v, e = .returned v ∧ Own w' w.heap.size 48 1 v (n + 64) (fun j => .int .i8 (mkd n f j)) ∧ Below w.heap.size w w' := by
  go_enter Tryd.func18, Tryd.ntmps18
  go_wp2_with fail
  refine (copyN_any ha hn).mono ?_
  rintro e w1 ⟨v1, rfl, hown1, hf1⟩
  have hown0 : Own w1 w.heap.size 48 1 v1 (n + 0) (fun j => .int .i8 (mkd n f j)) := hown1.congr (fun j hj => by rw [mkd_lo n f (by omega)])
  clear hown1 ha
  go_wp2
  go_loopw [3, 4] (fun v i wr => ∃ k : Nat, k ≤ 64 ∧ i = .int .i64 k ∧ Own wr w.heap.size 48 1 v (n + k) (fun j => .int .i8 (mkd n f j)) ∧ Below w.heap.size w wr) (fun _ i _ => 64 - (intOf i).toNat)
  case atStart => exact ⟨0, by omega, rfl, hown0, hf1⟩
  case round =>
    clear hown0 hf1
    obtain ⟨k, hk, rfl, hown, hf1⟩ := hrel
    have hsz := hf1.size
    by_cases hlt : k < 64
    · have E := hidd (mkd_hi n f k)
      go_wp2_with (at_builtin; refine wpList_app1 _ rfl _ _ 26 rfl _ 48 (.int .i8 0) 1 Tryd.underlying26 infoI8 rfl _ (n + k) _ rfl (hown.kept (fresh_alloc _ _)) _ 1 rfl (new_int _ _ E.out) rfl (by omega) (by omega) (by simp; omega) ?_)
      intro v' w6 hown' happ
      have hf6 := happ.below (hf1.alloc hsz _) (hown.kept (fresh_alloc _ _)) (Nat.le_refl _) (by simp; omega)
      clear happ hown hf1
      go_wp2
      go_roundw
      case rel => exact ⟨k + 1, by omega, by go_num, hown', hf6⟩
      case measure => simp [intOf]; omega
    · obtain rfl : k = 64 := by omega
      go_wp2
      go_ret
      exact ⟨_, rfl, hown, hf1⟩
set_option maxHeartbeats 1000000 in
theorem widened_any {w : World} {ao : Option Addr} {n ca : Nat} {f : Nat → Int} (ha : RdA w ao 1 n ca (fun i => .int .i64 (f i))) (hn : n ≤ 1073741824) :
    Calls Tryd.prog 19 #[.slice ao n ca] w fun e w' => ∃ v, e = .returned v ∧ Own w' w.heap.size 2 1 v (n + 64) (fun j => .int .i64 (mkd n f j)) ∧ Below w.heap.size w w' := by
  go_enter Tryd.func19, Tryd.ntmps19
  go_wp2_with fail
  refine (copyW_any ha hn).mono ?_
  rintro e w1 ⟨v1, rfl, hown1, hf1⟩
  have hown0 : Own w1 w.heap.size 2 1 v1 (n + 0) (fun j => .int .i64 (mkd n f j)) := hown1.congr (fun j hj => by rw [mkd_lo n f (by omega)])
  clear hown1 ha
  go_wp2
  go_loopw [3, 4] (fun v i wr => ∃ k : Nat, k ≤ 64 ∧ i = .int .i64 k ∧ Own wr w.heap.size 2 1 v (n + k) (fun j => .int .i64 (mkd n f j)) ∧ Below w.heap.size w wr) (fun _ i _ => 64 - (intOf i).toNat)
  case atStart => exact ⟨0, by omega, rfl, hown0, hf1⟩
  case round =>
    clear hown0 hf1
    obtain ⟨k, hk, rfl, hown, hf1⟩ := hrel
    have hsz := hf1.size
    by_cases hlt : k < 64
    · have E := hidd (mkd_hi n f k)
      go_wp2_with (at_builtin; refine wpList_app1 _ rfl _ _ 29 rfl _ 2 (.int .i64 0) 8 Tryd.underlying29 infoI64 rfl _ (n + k) _ rfl (hown.kept (fresh_alloc _ _)) _ 1 rfl (new_int _ _ E.out) rfl (by omega) (by omega) (by simp; omega) ?_)
      intro v' w6 hown' happ
      have hf6 := happ.below (hf1.alloc hsz _) (hown.kept (fresh_alloc _ _)) (Nat.le_refl _) (by simp; omega)
      clear happ hown hf1
      go_wp2
      go_roundw
      case rel => exact ⟨k + 1, by omega, by go_num, hown', hf6⟩
      case measure => simp [intOf]; omega
    · obtain rfl : k = 64 := by omega
      go_wp2
      go_ret
      exact ⟨_, rfl, hown, hf1⟩
theorem new_two (w : World) {x y : Int} (t : TypeId) {C S : Nat → Int} {k : Nat} (h0 : C k = x) (h1 : S k = y) : ∀ j, j < 1 * 2 → (w.alloc (.cells #[.int .i64 x, .int .i64 y] t)).cell? ⟨w.heap.size, j, none⟩ = some (tcs C S (k * 2 + j)) := fun j hj => by
  obtain rfl | rfl : j = 0 ∨ j = 1 := by omega
  · simp [tcs0, h0]
  · simp [tcs1, h1]
theorem tcs_one (C S : Nat → Int) (j : Nat) : (tcs C S j).oneCell' = true := by unfold tcs; split <;> rfl
set_option maxHeartbeats 1000000 in
theorem copyT_any {w : World} {ao : Option Addr} {n ca : Nat} {C S : Nat → Int} (ha : RdA w ao 2 n ca (tcs C S)) (hn : n ≤ 1073741824) :
    Calls Tryd.prog 37 #[.slice ao n ca] w fun e w' => ∃ v, e = .returned v ∧ Own w' w.heap.size 79 2 v n (tcs C S) ∧ Below w.heap.size w w' := by
  go_enter Tryd.func37, Tryd.ntmps37
  go_wp2
  go_loopw [3, 4] (fun v i wr => ∃ k : Nat, k ≤ n ∧ i = .int .i64 k ∧ Own wr w.heap.size 79 2 v k (tcs C S) ∧ Below w.heap.size w wr) (fun _ i _ => n - (intOf i).toNat)
  case atStart => exact ⟨0, by omega, rfl, own_nil _ _ _ _ _, Below.refl _ _⟩
  case round =>
    obtain ⟨k, hk, rfl, hown, hf1⟩ := hrel
    have hsz := hf1.size
    by_cases hlt : k < n
    · obtain ⟨b1, o1, rfl, h1⟩ := (ha.fresh hf1).two (by omega)
      obtain ⟨c1, c2⟩ := h1 k hlt
      clear h1
      go_wp2_with (at_builtin; refine wpList_app _ rfl _ _ 31 rfl w.heap.size 79 (.agg #[.int .i64 0, .int .i64 0]) 2 16 Tryd.underlying31 infoT rfl (by decide) _ k (tcs C S) rfl (hown.kept (fresh_alloc _ _)) _ 1 1 rfl (new_two _ _ rfl rfl) (fun _ _ => tcs_one _ _ _) (by decide) (by unfold maxLen; omega) (by omega) (by simp; omega) ?_)
      intro v' w6 hown' happ
      have hf6 := happ.below (hf1.alloc hsz _) (hown.kept (fresh_alloc _ _)) (Nat.le_refl _) (by simp; omega)
      clear happ hown hf1 c1
      go_wp2
      go_roundw
      case rel => exact ⟨k + 1, by omega, by go_num, hown', hf6⟩
      case measure => simp [intOf]; omega
    · obtain rfl : k = n := by omega
      go_wp2
      go_ret
      exact ⟨_, rfl, hown, hf1⟩
theorem tcs_mkd {n : Nat} {C S : Nat → Int} {j : Nat} (h : j < n * 2) : tcs C S j = tcs (mkd n C) (mkz n S) j := by
  unfold tcs; rw [mkd_lo n C (by omega), mkz_lo n S (by omega)]
set_option maxHeartbeats 1000000 in
theorem mturned_any {w : World} {ao : Option Addr} {n ca : Nat} {C S : Nat → Int} (ha : RdA w ao 2 n ca (tcs C S)) (hn : n ≤ 1073741824) :
    Calls Tryd.prog 20 #[.slice ao n ca] w fun e w' => ∃ v, e = .returned v ∧ Own w' w.heap.size 79 2 v (n + 64) (tcs (mkd n C) (mkz n S)) ∧ Below w.heap.size w w' := by
  go_enter Tryd.func20, Tryd.ntmps20
  go_wp2_with fail
  refine (copyT_any ha hn).mono ?_
  rintro e w1 ⟨v1, rfl, hown1, hf1⟩
  have hown0 : Own w1 w.heap.size 79 2 v1 (n + 0) (tcs (mkd n C) (mkz n S)) := hown1.congr (fun j hj => tcs_mkd hj)
  clear hown1 ha
  go_wp2
  go_loopw [3, 4] (fun v i wr => ∃ k : Nat, k ≤ 64 ∧ i = .int .i64 k ∧ Own wr w.heap.size 79 2 v (n + k) (tcs (mkd n C) (mkz n S)) ∧ Below w.heap.size w wr) (fun _ i _ => 64 - (intOf i).toNat)
  case atStart => exact ⟨0, by omega, rfl, hown0, hf1⟩
  case round =>
    clear hown0 hf1
    obtain ⟨k, hk, rfl, hown, hf1⟩ := hrel
    have hsz := hf1.size
    by_cases hlt : k < 64
    · have E := hidd (mkd_hi n C k)
      have E2 := hidd (mkz_hi n S k)
      go_wp2_with (at_builtin; refine wpList_app _ rfl _ _ 31 rfl w.heap.size 79 (.agg #[.int .i64 0, .int .i64 0]) 2 16 Tryd.underlying31 infoT rfl (by decide) _ (n + k) (tcs (mkd n C) (mkz n S)) rfl (hown.kept (fresh_alloc _ _)) _ 1 1 rfl (new_two _ _ E.out E2.out) (fun _ _ => tcs_one _ _ _) (by decide) (by unfold maxLen; omega) (by omega) (by simp; omega) ?_)
      intro v' w6 hown' happ
      have hf6 := happ.below (hf1.alloc hsz _) (hown.kept (fresh_alloc _ _)) (Nat.le_refl _) (by simp; omega)
      clear happ hown hf1
      go_wp2
      go_roundw
      case rel => exact ⟨k + 1, by omega, by go_num, hown', hf6⟩
      case measure => simp [intOf]; omega
    · obtain rfl : k = 64 := by omega
      go_wp2
      go_ret
      exact ⟨_, rfl, hown, hf1⟩
end Go.Proofs.YtmcefgpejocjfaaDoor
