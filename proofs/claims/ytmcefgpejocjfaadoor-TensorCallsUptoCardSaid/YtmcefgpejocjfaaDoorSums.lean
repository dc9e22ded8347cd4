import Derived.Test.YtmcefgpejocjfaaDoorBase
import Derived.Test.YtmcefgpejocjfaaDoorTens
namespace Go.Proofs.YtmcefgpejocjfaaDoor
open Go.RowKit
/-! Sums of products, and sums. -/
def tot (f : Nat → Int) (n : Nat) : Int := wrap64 (isum f n)
theorem tot_zero (f : Nat → Int) : tot f 0 = 0 := by unfold tot isum wrap64; omega
theorem tot_succ (f : Nat → Int) (n : Nat) : wrap64 (tot f n + f n) = tot f (n + 1) := by unfold tot; rw [waddr]; rfl
theorem tot_bd (f : Nat → Int) (n : Nat) : -9223372036854775808 ≤ tot f n ∧ tot f n ≤ 9223372036854775807 := wbd _
set_option maxHeartbeats 1000000 in
theorem sop88_any {w : World} {ao bo : Option Addr} {n ca cb : Nat} {f g : Nat → Int} (ha : RdA w ao 1 n ca (fun i => .int .i8 (f i))) (hb : RdA w bo 1 n cb (fun i => .int .i8 (g i))) (bf : ∀ i, i < n → -128 ≤ f i ∧ f i ≤ 127) (bg : ∀ i, i < n → -128 ≤ g i ∧ g i ≤ 127) :
    Calls Tryd.prog 44 #[.slice ao n ca, .slice bo n cb] w fun e w' => e = .returned (.int .i64 (dot f g n)) ∧ w' = w := by
  have hn : n ≤ 9223372036854775807 := by have := ha.le; have := ha.top; unfold maxLen at this; omega
  go_enter Tryd.func44, Tryd.ntmps44
  go_wp2
  go_loop [5, 10] (fun s i => ∃ k : Nat, k ≤ n ∧ i = .int .i64 k ∧ s = .int .i64 (dot f g k)) (fun _ i => n - (intOf i).toNat)
  case atStart => exact ⟨0, by omega, rfl, by rw [dot_zero]⟩
  case round =>
    obtain ⟨k, hk, rfl, rfl⟩ := hrel
    by_cases hlt : k < n
    · obtain ⟨b1, o1, rfl, h1⟩ := ha.one (by omega)
      obtain ⟨b2, o2, rfl, h2⟩ := hb.one (by omega)
      have c1 := h1 k hlt
      have c2 := h2 k hlt
      have d1 := bf k hlt
      have d2 := bg k hlt
      have E := hidd (dot_succ f g k)
      have E' := hidd (dot_succ' f g k)
      clear h1 h2
      go_wp2
      go_round
      case rel => exact ⟨k + 1, by omega, by go_num, by first | rw [E.out] | rw [E'.out]⟩
      case measure => simp [intOf]; omega
    · obtain rfl : k = n := by omega
      go_wp2
      go_ret
      exact ⟨rfl, rfl⟩
set_option maxHeartbeats 1000000 in
theorem sop68_any {w : World} {ao bo : Option Addr} {n ca cb : Nat} {f g : Nat → Int} (ha : RdA w ao 1 n ca (fun i => .int .i64 (f i))) (hb : RdA w bo 1 n cb (fun i => .int .i8 (g i))) (bf : ∀ i, i < n → -9223372036854775808 ≤ f i ∧ f i ≤ 9223372036854775807) (bg : ∀ i, i < n → -128 ≤ g i ∧ g i ≤ 127) :
    Calls Tryd.prog 66 #[.slice ao n ca, .slice bo n cb] w fun e w' => e = .returned (.int .i64 (dot f g n)) ∧ w' = w := by
  have hn : n ≤ 9223372036854775807 := by have := ha.le; have := ha.top; unfold maxLen at this; omega
  go_enter Tryd.func66, Tryd.ntmps66
  go_wp2
  go_loop [5, 10] (fun s i => ∃ k : Nat, k ≤ n ∧ i = .int .i64 k ∧ s = .int .i64 (dot f g k)) (fun _ i => n - (intOf i).toNat)
  case atStart => exact ⟨0, by omega, rfl, by rw [dot_zero]⟩
  case round =>
    obtain ⟨k, hk, rfl, rfl⟩ := hrel
    by_cases hlt : k < n
    · obtain ⟨b1, o1, rfl, h1⟩ := ha.one (by omega)
      obtain ⟨b2, o2, rfl, h2⟩ := hb.one (by omega)
      have c1 := h1 k hlt
      have c2 := h2 k hlt
      have d1 := bf k hlt
      have d2 := bg k hlt
      have E := hidd (dot_succ f g k)
      have E' := hidd (dot_succ' f g k)
      clear h1 h2
      go_wp2
      go_round
      case rel => exact ⟨k + 1, by omega, by go_num, by first | rw [E.out] | rw [E'.out]⟩
      case measure => simp [intOf]; omega
    · obtain rfl : k = n := by omega
      go_wp2
      go_ret
      exact ⟨rfl, rfl⟩
set_option maxHeartbeats 1000000 in
theorem sop66_any {w : World} {ao bo : Option Addr} {n ca cb : Nat} {f g : Nat → Int} (ha : RdA w ao 1 n ca (fun i => .int .i64 (f i))) (hb : RdA w bo 1 n cb (fun i => .int .i64 (g i))) (bf : ∀ i, i < n → -9223372036854775808 ≤ f i ∧ f i ≤ 9223372036854775807) (bg : ∀ i, i < n → -9223372036854775808 ≤ g i ∧ g i ≤ 9223372036854775807) :
    Calls Tryd.prog 61 #[.slice ao n ca, .slice bo n cb] w fun e w' => e = .returned (.int .i64 (dot f g n)) ∧ w' = w := by
  have hn : n ≤ 9223372036854775807 := by have := ha.le; have := ha.top; unfold maxLen at this; omega
  go_enter Tryd.func61, Tryd.ntmps61
  go_wp2
  go_loop [5, 10] (fun s i => ∃ k : Nat, k ≤ n ∧ i = .int .i64 k ∧ s = .int .i64 (dot f g k)) (fun _ i => n - (intOf i).toNat)
  case atStart => exact ⟨0, by omega, rfl, by rw [dot_zero]⟩
  case round =>
    obtain ⟨k, hk, rfl, rfl⟩ := hrel
    by_cases hlt : k < n
    · obtain ⟨b1, o1, rfl, h1⟩ := ha.one (by omega)
      obtain ⟨b2, o2, rfl, h2⟩ := hb.one (by omega)
      have c1 := h1 k hlt
      have c2 := h2 k hlt
      have d1 := bf k hlt
      have d2 := bg k hlt
      have E := hidd (dot_succ f g k)
      have E' := hidd (dot_succ' f g k)
      clear h1 h2
      go_wp2
      go_round
      case rel => exact ⟨k + 1, by omega, by go_num, by first | rw [E.out] | rw [E'.out]⟩
      case measure => simp [intOf]; omega
    · obtain rfl : k = n := by omega
      go_wp2
      go_ret
      exact ⟨rfl, rfl⟩
set_option maxHeartbeats 1000000 in
theorem total_any {w : World} {ao : Option Addr} {n ca : Nat} {f : Nat → Int} (ha : RdA w ao 1 n ca (fun i => .int .i64 (f i))) :
    Calls Tryd.prog 64 #[.slice ao n ca] w fun e w' => e = .returned (.int .i64 (tot f n)) ∧ w' = w := by
  have hn : n ≤ 9223372036854775807 := by have := ha.le; have := ha.top; unfold maxLen at this; omega
  go_enter Tryd.func64, Tryd.ntmps64
  go_wp2
  go_loop [3, 8] (fun s i => ∃ k : Nat, k ≤ n ∧ i = .int .i64 k ∧ s = .int .i64 (tot f k)) (fun _ i => n - (intOf i).toNat)
  case atStart => exact ⟨0, by omega, rfl, by rw [tot_zero]⟩
  case round =>
    obtain ⟨k, hk, rfl, rfl⟩ := hrel
    by_cases hlt : k < n
    · obtain ⟨b1, o1, rfl, h1⟩ := ha.one (by omega)
      have c1 := h1 k hlt
      have E := hidd (tot_succ f k)
      clear h1
      go_wp2
      go_round
      case rel => exact ⟨k + 1, by omega, by go_num, by rw [E.out]⟩
      case measure => simp [intOf]; omega
    · obtain rfl : k = n := by omega
      go_wp2
      go_ret
      exact ⟨rfl, rfl⟩
end Go.Proofs.YtmcefgpejocjfaaDoor
