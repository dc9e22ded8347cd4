import Derived.Test.YtmcefgpejocjfaaDoorTens
import Derived.Test.YtmcefgpejocjfaaDoorEqs
import Derived.Test.YtmcefgpejocjfaaDoorSmall
namespace Go.Proofs.YtmcefgpejocjfaaDoor
open Go.RowKit
/-! The reference's Dot. -/
set_option maxHeartbeats 400000 in
theorem dot_rbad {w : World} {ao bo : Option Addr} {n m ca cb : Nat} (h : n ≠ m) :
    Calls Tryd.prog 50 #[.slice ao n ca, .slice bo m cb] w fun e w' => e = .returned (.tuple #[.int .i64 0, .int .i64 30]) ∧ w' = w := by
  have hne : ((n : Int) != (m : Int)) = true := by simp; omega
  go_enter Tryd.func50, Tryd.ntmps50
  go_wp2
  go_ret2
  exact ⟨rfl, rfl⟩
set_option maxHeartbeats 1000000 in
theorem dot_rok {w : World} {ao bo : Option Addr} {n ca cb : Nat} {f g : Nat → Int} (ha : RdA w ao 1 n ca (fun i => .int .i8 (f i))) (hb : RdA w bo 1 n cb (fun i => .int .i8 (g i)))
    (hf : ∀ i, i < n → -128 ≤ f i ∧ f i ≤ 127) (hg : ∀ i, i < n → -128 ≤ g i ∧ g i ≤ 127) :
    Calls Tryd.prog 50 #[.slice ao n ca, .slice bo n cb] w fun e w' => e = .returned (.tuple #[.int .i64 (dot f g n), .int .i64 0]) ∧ Below w.heap.size w w' := by
  have hn : n ≤ 9223372036854775807 := by have := ha.le; have := ha.top; unfold maxLen at this; omega
  have hne : ((n : Int) != (n : Int)) = false := by simp
  have HF0 := hidd hf
  have HG0 := hidd hg
  clear hf hg
  go_enter Tryd.func50, Tryd.ntmps50
  go_wp2
  clear hne
  go_loopw [6, 7] (fun s i wr => ∃ k : Nat, k ≤ n ∧ i = .int .i64 k ∧ s = .int .i64 (dot f g k) ∧ Below w.heap.size w wr) (fun _ i _ => n - (intOf i).toNat)
  case atStart => exact ⟨0, by omega, rfl, by rw [dot_zero], Below.refl _ _⟩
  case round =>
    obtain ⟨k, hk, rfl, rfl, hf1⟩ := hrel
    by_cases hlt : k < n
    · obtain ⟨b1, o1, rfl, h1⟩ := (ha.fresh hf1).one (by omega)
      obtain ⟨b2, o2, rfl, h2⟩ := (hb.fresh hf1).one (by omega)
      have c1 := h1 k hlt
      have c2 := h2 k hlt
      have bf := HF0.out k hlt
      have bg := HG0.out k hlt
      have ES := hidd (dot_succ' f g k)
      have ES2 := hidd (dot_succ f g k)
      clear h1 h2
      go_wp2
      go_quiet (fail)
      go_wp2
      go_roundw
      case rel => exact ⟨k + 1, by omega, by go_num, by first | rw [ES2.out] | rw [ES.out], below_drewN hf1 _⟩
      case measure => simp [intOf]; omega
    · obtain rfl : k = n := by omega
      go_wp2
      go_ret2
      exact ⟨rfl, hf1⟩
end Go.Proofs.YtmcefgpejocjfaaDoor
