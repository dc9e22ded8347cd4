import Derived.Test.YtmcefgpejocjfaaDoorBld
import Derived.Test.YtmcefgpejocjfaaDoorDivRef
import Derived.Test.YtmcefgpejocjfaaDoorClamp8Ref
namespace Go.Proofs.YtmcefgpejocjfaaDoor
open Go.RowKit
/-! The reference's Blend. -/
set_option maxHeartbeats 1000000 in
theorem blends_ok {w : World} {ao vo : Option Addr} {n ca cv : Nat} {f : Nat → Int} {A : Nat → Option Addr} {L K : Nat → Nat} {X : Nat → Nat → Int} (ha : RdA w ao 1 n ca (fun i => .int .i64 (f i))) (hv : Vs w vo n cv A L K X) (h : Fit f n L)
    (bf : ∀ i, i < n → -9223372036854775808 ≤ f i ∧ f i ≤ 9223372036854775807) :
    Calls Tryd.prog 77 #[.slice ao n ca, .slice vo n cv] w fun e w' => e = .returned (.tuple #[.bool true, .int .i64 (tot f n)]) ∧ Below w.heap.size w w' := by
  have hn : n ≤ 9223372036854775807 := by have := ha.le; have := ha.top; unfold maxLen at this; omega
  obtain ⟨h0, hL, hlow, hsum⟩ := h
  have HL := hidd hL
  have HW := hidd hlow
  have BF := hidd bf
  have hz : ((n : Int) == 0) = false := by simp; omega
  have hne : ((n : Int) != (n : Int)) = false := by simp
  clear hL hlow bf
  go_enter Tryd.func77, Tryd.ntmps77
  go_wp2
  clear hz hne
  go_loopw [6, 7] (fun s i wr => ∃ k : Nat, k ≤ n ∧ i = .int .i64 k ∧ s = .int .i64 (tot f k) ∧ Below w.heap.size w wr) (fun _ i _ => n - (intOf i).toNat)
  case atStart => exact ⟨0, by omega, rfl, by rw [tot_zero], Below.refl _ _⟩
  case round =>
    obtain ⟨k, hk, rfl, rfl, hf1⟩ := hrel
    by_cases hlt : k < n
    · obtain ⟨b1, o1, rfl, h1⟩ := (ha.fresh hf1).one (by omega)
      obtain ⟨b2, o2, rfl, h2⟩ := (hv.top.fresh hf1).one (by omega)
      have c1 := h1 k hlt
      have c2 := h2 k hlt
      have c3 := h2 0 h0
      simp only [Nat.add_zero] at c3
      rw [HL.out k hlt] at c2
      have bw := HW.out k hlt
      have bk := BF.out k hlt
      have hne : ((L 0 : Int) != (L 0 : Int)) = false := by simp
      have ES := hidd (tot_succ f k)
      clear h1 h2
      go_wp2
      go_quiet (fail)
      go_wp2
      go_roundw
      case rel => exact ⟨k + 1, by omega, by go_num, by rw [ES.out], below_drewN hf1 _⟩
      case measure => simp [intOf]; omega
    · obtain rfl : k = n := by omega
      go_wp2
      go_ret2
      exact ⟨rfl, hf1⟩
end Go.Proofs.YtmcefgpejocjfaaDoor
