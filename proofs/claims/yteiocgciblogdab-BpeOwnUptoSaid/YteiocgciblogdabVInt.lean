import Derived.Test.YteiocgciblogdabVTwin
namespace Go.Proofs.Yteiocgciblogdab
open Go.RowKit
/-! Lists of ints: copies and comparisons. -/
set_option maxHeartbeats 1000000 in
theorem eqInts_same {w : World} {ao bo : Option Addr} {n ca cb : Nat} {f g : Nat → Int} (ha : RdA w ao 1 n ca (fun i => .int .i64 (f i))) (hb : RdA w bo 1 n cb (fun i => .int .i64 (g i))) (hfg : ∀ i, i < n → f i = g i) :
    Calls Try.prog 9 #[.slice ao n ca, .slice bo n cb] w fun e w' => e = .returned (.bool true) ∧ Below w.heap.size w w' := by
  have hn : n ≤ 9223372036854775807 := by have := ha.le; have := ha.top; unfold maxLen at this; omega
  go_enter Try.func9, Try.ntmps9
  go_wp2
  go_loopw [5] (fun i wr => ∃ k : Nat, k ≤ n ∧ i = .int .i64 k ∧ Below w.heap.size w wr) (fun i _ => n - (intOf i).toNat)
  case atStart => exact ⟨0, by omega, rfl, Below.refl _ _⟩
  case round =>
    obtain ⟨k, hk, rfl, hf⟩ := hrel
    by_cases hlt : k < n
    · obtain ⟨b1, o1, rfl, h1⟩ := (ha.fresh hf).one (by omega)
      obtain ⟨b2, o2, rfl, h2⟩ := (hb.fresh hf).one (by omega)
      have c1 := h1 k hlt
      have c2 := h2 k hlt
      have e := hfg k hlt
      rw [← e] at c2
      clear h1 h2 e
      go_wp2
      go_quiet (fail)
      go_wp2
      go_roundw
      case rel => exact ⟨k + 1, by omega, by go_num, below_drewN hf _⟩
      case measure => simp [intOf]; omega
    · go_wp2
      go_ret
      exact ⟨rfl, hf⟩
def mk2 (n : Nat) (f : Nat → Int) (x y : Int) (j : Nat) : Int := if j < n then f j else if j = n then x else y
theorem mk2_lo {n : Nat} {f : Nat → Int} {x y : Int} {j : Nat} (h : j < n) : mk2 n f x y j = f j := if_pos h
theorem mk2_0 (n : Nat) (f : Nat → Int) (x y : Int) : mk2 n f x y n = x := by unfold mk2; rw [if_neg (by omega), if_pos rfl]
theorem mk2_1 (n : Nat) (f : Nat → Int) (x y : Int) : mk2 n f x y (n + 1) = y := by unfold mk2; rw [if_neg (by omega), if_neg (by omega)]
theorem two_marks (w : World) (k : IntKind) (t : TypeId) (n : Nat) (f : Nat → Int) (x y : Int) : ∀ j, j < 2 * 1 → (w.alloc (.cells #[.int k x, .int k y] t)).cell? ⟨w.heap.size, j, none⟩ = some ((fun i => Value.int k (mk2 n f x y i)) (n * 1 + j)) := fun j hj => by
  obtain rfl | rfl : j = 0 ∨ j = 1 := by omega
  · simp [mk2_0]
  · simp [mk2_1]
end Go.Proofs.Yteiocgciblogdab
