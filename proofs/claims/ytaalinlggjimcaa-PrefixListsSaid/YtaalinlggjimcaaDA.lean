import Derived.Test.YtaalinlggjimcaaFA
import Derived.BigQuiet
namespace Go.Proofs.Ytaalinlggjimcaa
open Go.RowKit
/-! The reference's cache: EqInts, among, the list of what is known, at. -/
set_option maxRecDepth 20000 in
set_option maxHeartbeats 1600000 in
theorem eqInts_any {w : World} {ao bo : Option Addr} {n m ca cb : Nat} {f g : Nat → Int} (ha : RdA w ao 1 n ca (fun i => .int .i64 (f i))) (hb : RdA w bo 1 m cb (fun i => .int .i64 (g i))) :
    Calls Try.prog 29 #[.slice ao n ca, .slice bo m cb] w fun e w' => (∃ r : Bool, e = .returned (.bool r) ∧ (r = true ↔ n = m ∧ ∀ i, i < n → f i = g i)) ∧ Below w.heap.size w w' := by
  have hn : n ≤ 9223372036854775807 := by have := ha.le; have := ha.top; unfold maxLen at this; omega
  have hm : m ≤ 9223372036854775807 := by have := hb.le; have := hb.top; unfold maxLen at this; omega
  by_cases hnm : n = m
  · subst hnm
    go_enter Try.func29, Try.ntmps29
    go_wp2
    go_loopw [5] (fun i wr => ∃ k : Nat, k ≤ n ∧ i = .int .i64 k ∧ Hid (∀ j, j < k → f j = g j) ∧ Below w.heap.size w wr) (fun i _ => n - (intOf i).toNat)
    case atStart => exact ⟨0, by omega, rfl, fun j hj => absurd hj (by omega), Below.refl _ _⟩
    case round =>
      obtain ⟨k, hk, rfl, HE, hf⟩ := hrel
      by_cases hlt : k < n
      · obtain ⟨b1, o1, rfl, h1⟩ := (ha.fresh hf).one (by omega)
        obtain ⟨b2, o2, rfl, h2⟩ := (hb.fresh hf).one (by omega)
        have c1 := h1 k hlt
        have c2 := h2 k hlt
        clear h1 h2
        by_cases e : f k = g k
        · rw [← e] at c2
          have HE3 := hidd e
          clear e
          go_wp2
          go_quiet (fail)
          go_wp2
          go_roundw
          case rel => exact ⟨k + 1, by omega, by go_num, fun j hj => (by
            by_cases q : j = k
            · rw [q]; exact HE3.out
            · exact HE.out j (by omega)), below_drewN hf _⟩
          case measure => simp [intOf]; omega
        · have x3 : decide (f k = g k) = false := decide_eq_false e
          have HE3 := hidd e
          go_wp2
          go_quiet (fail)
          go_wp2
          go_ret
          exact ⟨⟨false, rfl, ⟨fun q => (by cases q), fun q => absurd (q.2 k hlt) HE3.out⟩⟩, below_drewN hf _⟩
      · obtain rfl : n = k := by omega
        go_wp2
        go_ret
        exact ⟨⟨true, rfl, ⟨fun _ => ⟨(by first | rfl | trivial), HE.out⟩, fun _ => rfl⟩⟩, hf⟩
  · have hne : ¬ (n : Int) = (m : Int) := by omega
    go_enter Try.func29, Try.ntmps29
    go_wp2
    go_ret
    exact ⟨⟨false, rfl, ⟨fun q => (by cases q), fun q => absurd q.1 hnm⟩⟩, Below.refl _ _⟩
set_option maxRecDepth 20000 in
set_option maxHeartbeats 1600000 in
theorem among_any {w : World} {ao : Option Addr} {n ca : Nat} {f : Nat → Int} (ha : RdA w ao 1 n ca (fun i => .int .i64 (f i))) (x : Int) :
    Calls Try.prog 61 #[.slice ao n ca, .int .i64 x] w fun e w' => (∃ r : Bool, e = .returned (.bool r) ∧ (r = true ↔ ∃ i, i < n ∧ f i = x)) ∧ w' = w := by
  have hn : n ≤ 9223372036854775807 := by have := ha.le; have := ha.top; unfold maxLen at this; omega
  go_enter Try.func61, Try.ntmps61
  go_wp2
  go_loopw [5] (fun i wr => ∃ k : Nat, k ≤ n ∧ i = .int .i64 k ∧ Hid (∀ j, j < k → f j ≠ x) ∧ w = wr) (fun i _ => n - (intOf i).toNat)
  case atStart => exact ⟨0, by omega, rfl, fun j hj => absurd hj (by omega), rfl⟩
  case round =>
    obtain ⟨k, hk, rfl, HE, rfl⟩ := hrel
    by_cases hlt : k < n
    · obtain ⟨b1, o1, rfl, h1⟩ := ha.one (by omega)
      have c1 := h1 k hlt
      have i0 : (0 : Int) ≤ (k : Int) := by omega
      have i1 : (k : Int) < (n : Int) := by omega
      clear h1
      by_cases e : f k = x
      · have HE3 := hidd e
        go_wp2
        go_ret
        exact ⟨⟨true, rfl, ⟨fun _ => ⟨k, hlt, HE3.out⟩, fun _ => rfl⟩⟩, rfl⟩
      · have HE3 := hidd e
        go_wp2
        go_roundw
        case rel => exact ⟨k + 1, by omega, by go_num, fun j hj => (by
          by_cases q : j = k
          · rw [q]; exact HE3.out
          · exact HE.out j (by omega)), (by first | rfl | trivial)⟩
        case measure => simp [intOf]; omega
    · obtain rfl : n = k := by omega
      go_wp2
      go_ret
      exact ⟨⟨false, rfl, ⟨fun q => (by cases q), fun ⟨i, hi, q⟩ => absurd q (HE.out i hi)⟩⟩, rfl⟩
end Go.Proofs.Ytaalinlggjimcaa
