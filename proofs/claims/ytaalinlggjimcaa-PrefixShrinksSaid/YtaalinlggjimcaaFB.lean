import Derived.Test.YtaalinlggjimcaaFA
import Derived.BigQuiet
namespace Go.Proofs.Ytaalinlggjimcaa
open Go.RowKit
/-! common, longest, owner. -/
set_option maxRecDepth 20000 in
set_option maxHeartbeats 1600000 in
theorem common_any {w : World} {ao bo : Option Addr} {n ca m cb : Nat} {f g : Nat → Int} (ha : RdA w ao 1 n ca (fun i => .int .i64 (f i))) (hb : RdA w bo 1 m cb (fun i => .int .i64 (g i))) :
    Calls Try.prog 49 #[.slice ao n ca, .slice bo m cb] w fun e w' => (∃ k : Nat, e = .returned (.int .i64 (k : Int)) ∧ Com f g n m k) ∧ Below w.heap.size w w' := by
  have hn : n ≤ 9223372036854775807 := by have := ha.le; have := ha.top; unfold maxLen at this; omega
  have hm : m ≤ 9223372036854775807 := by have := hb.le; have := hb.top; unfold maxLen at this; omega
  go_enter Try.func49, Try.ntmps49
  go_wp2
  go_loopw [5] (fun v wr => ∃ k : Nat, k ≤ n ∧ k ≤ m ∧ v = .int .i64 k ∧ Hid (∀ j, j < k → f j = g j) ∧ Below w.heap.size w wr) (fun v _ => n - (intOf v).toNat)
  case atStart => exact ⟨0, by omega, by omega, rfl, fun j hj => absurd hj (by omega), Below.refl _ _⟩
  case round =>
    obtain ⟨k, hk1, hk2, rfl, HE, hf⟩ := hrel
    by_cases h1 : k < n
    · have x1 : decide ((k : Int) < (n : Int)) = true := decide_eq_true (by omega)
      have k0 : (0 : Int) ≤ (k : Int) := by omega
      have k1 : (k : Int) < (n : Int) := by omega
      by_cases h2 : k < m
      · have x2 : decide ((k : Int) < (m : Int)) = true := decide_eq_true (by omega)
        have k2 : (k : Int) < (m : Int) := by omega
        obtain ⟨b1, o1, rfl, c1⟩ := (ha.fresh hf).one (by omega)
        obtain ⟨b2, o2, rfl, c2⟩ := (hb.fresh hf).one (by omega)
        have d1 := c1 k h1
        have d2 := c2 k h2
        clear c1 c2 ha hb
        by_cases h3 : f k = g k
        · rw [← h3] at d2
          have HE3 := hidd h3
          clear h3
          go_wp2
          go_quiet (fail)
          go_wp2
          go_roundw
          case rel => exact ⟨k + 1, by omega, by omega, by go_num, fun j hj => (by
            by_cases e : j = k
            · rw [e]; exact HE3.out
            · exact HE.out j (by omega)), below_drewN hf _⟩
          case measure => simp [intOf]; omega
        · have x3 : decide (f k = g k) = false := decide_eq_false h3
          have HE3 := hidd h3
          go_wp2
          go_quiet (fail)
          go_wp2
          go_ret
          exact ⟨⟨k, rfl, by omega, by omega, HE.out, fun _ _ => HE3.out⟩, below_drewN hf _⟩
      · have x2 : decide ((k : Int) < (m : Int)) = false := decide_eq_false (by omega)
        have k2 : ¬ (k : Int) < (m : Int) := by omega
        go_wp2
        go_quiet (fail)
        go_wp2
        go_ret
        exact ⟨⟨k, rfl, by omega, by omega, HE.out, fun _ h => absurd h (by omega)⟩, below_drewN hf _⟩
    · have x1 : decide ((k : Int) < (n : Int)) = false := decide_eq_false (by omega)
      have k1 : ¬ (k : Int) < (n : Int) := by omega
      go_wp2
      go_quiet (fail)
      go_wp2
      go_ret
      exact ⟨⟨k, rfl, by omega, by omega, HE.out, fun h => absurd h (by omega)⟩, below_drewN hf _⟩
end Go.Proofs.Ytaalinlggjimcaa
