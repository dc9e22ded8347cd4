import Derived.Test.YteiocgciblogdaaVTwin
namespace Go.Proofs.Yteiocgciblogdaa
open Go.RowKit
/-! Lists of ints: copies and comparisons. -/
set_option maxHeartbeats 1000000 in
theorem eqInts_same {w : World} {ao bo : Option Addr} {n ca cb : Nat} {f g : Nat → Int} (ha : RdA w ao 1 n ca (fun i => .int .i64 (f i))) (hb : RdA w bo 1 n cb (fun i => .int .i64 (g i))) (hfg : ∀ i, i < n → f i = g i) :
    Calls Try.prog 24 #[.slice ao n ca, .slice bo n cb] w fun e w' => e = .returned (.bool true) ∧ Below w.heap.size w w' := by
  have hn : n ≤ 9223372036854775807 := by have := ha.le; have := ha.top; unfold maxLen at this; omega
  go_enter Try.func24, Try.ntmps24
  go_wp2
  go_loopw [5] (fun i wr => ∃ k : Nat, k ≤ n ∧ i = .int .i64 k ∧ Below w.heap.size w wr) (fun i _ => n - (intOf i).toNat)
  case atStart => exact ⟨0, by omega, rfl, Below.refl _ _⟩
  case round =>
    obtain ⟨k, hk, rfl, hf⟩ := hrel
    by_cases hlt : k < n
    · obtain ⟨b1, o1, rfl, h1⟩ := (ha.fresh hf).one (by omega)
      obtain ⟨b2, o2, rfl, h2⟩ := (hb.fresh hf).one (by omega)
      have c1 := h1 k hlt
      have c2 := h2 k hlt
      have e := hfg k hlt
      rw [← e] at c2
      clear h1 h2 e
      go_wp2
      go_quiet (fail)
      go_wp2
      go_roundw
      case rel => exact ⟨k + 1, by omega, by go_num, below_drewN hf _⟩
      case measure => simp [intOf]; omega
    · go_wp2
      go_ret
      exact ⟨rfl, hf⟩
set_option maxHeartbeats 1000000 in
theorem copyI_any {w : World} {ao : Option Addr} {n ca : Nat} {f : Nat → Int} (ha : RdA w ao 1 n ca (fun i => .int .i64 (f i))) (hn : n ≤ 1073741824) :
    Calls Try.prog 26 #[.slice ao n ca] w fun e w' => ∃ v, e = .returned v ∧ Own w' w.heap.size 3 1 v n (fun j => .int .i64 (f j)) ∧ Below w.heap.size w w' := by
  go_enter Try.func26, Try.ntmps26
  go_wp2
  go_loopw [3, 4] (fun v i wr => ∃ k : Nat, k ≤ n ∧ i = .int .i64 k ∧ Own wr w.heap.size 3 1 v k (fun j => .int .i64 (f j)) ∧ Below w.heap.size w wr) (fun _ i _ => n - (intOf i).toNat)
  case atStart => exact ⟨0, by omega, rfl, own_nil _ _ _ _ _, Below.refl _ _⟩
  case round =>
    obtain ⟨k, hk, rfl, hown, hf1⟩ := hrel
    have hsz := hf1.size
    by_cases hlt : k < n
    · obtain ⟨b1, o1, rfl, h1⟩ := (ha.fresh hf1).one (by omega)
      have c1 := h1 k hlt
      clear h1
      go_wp2_with (at_builtin; refine wpList_app1 _ rfl _ _ 40 rfl _ 3 (.int .i64 0) 8 Try.underlying40 infoI rfl _ k _ rfl (hown.kept (fresh_alloc _ _)) _ 1 rfl (new_cell _ _ _) rfl (by omega) (by omega) (by simp; omega) ?_)
      intro v' w6 hown' happ
      have hf6 := happ.below (hf1.alloc hsz _) (hown.kept (fresh_alloc _ _)) (Nat.le_refl _) (by simp; omega)
      clear happ hown hf1 c1
      go_wp2
      go_roundw
      case rel => exact ⟨k + 1, by omega, by go_num, hown', hf6⟩
      case measure => simp [intOf]; omega
    · obtain rfl : k = n := by omega
      go_wp2
      go_ret
      exact ⟨_, rfl, hown, hf1⟩
/-- a list, and two marks behind it -/
def mk2 (n : Nat) (f : Nat → Int) (x y : Int) (j : Nat) : Int := if j < n then f j else if j = n then x else y
theorem mk2_lo {n : Nat} {f : Nat → Int} {x y : Int} {j : Nat} (h : j < n) : mk2 n f x y j = f j := if_pos h
theorem mk2_0 (n : Nat) (f : Nat → Int) (x y : Int) : mk2 n f x y n = x := by unfold mk2; rw [if_neg (by omega), if_pos rfl]
theorem mk2_1 (n : Nat) (f : Nat → Int) (x y : Int) : mk2 n f x y (n + 1) = y := by unfold mk2; rw [if_neg (by omega), if_neg (by omega)]
theorem two_marks (w : World) (k : IntKind) (t : TypeId) (n : Nat) (f : Nat → Int) (x y : Int) : ∀ j, j < 2 * 1 → (w.alloc (.cells #[.int k x, .int k y] t)).cell? ⟨w.heap.size, j, none⟩ = some ((fun i => Value.int k (mk2 n f x y i)) (n * 1 + j)) := fun j hj => by
  obtain rfl | rfl : j = 0 ∨ j = 1 := by omega
  · simp [mk2_0]
  · simp [mk2_1]
end Go.Proofs.Yteiocgciblogdaa
