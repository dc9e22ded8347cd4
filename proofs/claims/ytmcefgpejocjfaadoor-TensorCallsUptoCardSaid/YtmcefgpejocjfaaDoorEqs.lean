import Derived.Test.YtmcefgpejocjfaaDoorRows
import Derived.Test.YtmcefgpejocjfaaDoorOwn
namespace Go.Proofs.YtmcefgpejocjfaaDoor
open Go.RowKit
/-! Comparing two lists that are alike. -/
set_option maxHeartbeats 1000000 in
theorem eqNarrow_same {w : World} {ao bo : Option Addr} {n ca cb : Nat} {f g : Nat → Int} (ha : RdA w ao 1 n ca (fun i => .int .i8 (f i))) (hb : RdA w bo 1 n cb (fun i => .int .i8 (g i))) (hfg : ∀ i, i < n → f i = g i) :
    Calls Tryd.prog 30 #[.slice ao n ca, .slice bo n cb] w fun e w' => e = .returned (.bool true) ∧ Below w.heap.size w w' := by
  have hn : n ≤ 9223372036854775807 := by have := ha.le; have := ha.top; unfold maxLen at this; omega
  go_enter Tryd.func30, Tryd.ntmps30
  go_wp2
  go_loopw [5] (fun i wr => ∃ k : Nat, k ≤ n ∧ i = .int .i64 k ∧ Below w.heap.size w wr) (fun i _ => n - (intOf i).toNat)
  case atStart => exact ⟨0, by omega, rfl, Below.refl _ _⟩
  case round =>
    obtain ⟨k, hk, rfl, hf⟩ := hrel
    by_cases hlt : k < n
    · obtain ⟨b1, o1, rfl, h1⟩ := (ha.fresh hf).one (by omega)
      obtain ⟨b2, o2, rfl, h2⟩ := (hb.fresh hf).one (by omega)
      have c1 := h1 k hlt
      have c2 := h2 k hlt
      have e := hfg k hlt
      rw [← e] at c2
      clear h1 h2 e
      go_wp2
      go_quiet (fail)
      go_wp2
      go_roundw
      case rel => exact ⟨k + 1, by omega, by go_num, below_drewN hf _⟩
      case measure => simp [intOf]; omega
    · go_wp2
      go_ret
      exact ⟨rfl, hf⟩
set_option maxHeartbeats 1000000 in
theorem eqWide_same {w : World} {ao bo : Option Addr} {n ca cb : Nat} {f g : Nat → Int} (ha : RdA w ao 1 n ca (fun i => .int .i64 (f i))) (hb : RdA w bo 1 n cb (fun i => .int .i64 (g i))) (hfg : ∀ i, i < n → f i = g i) :
    Calls Tryd.prog 31 #[.slice ao n ca, .slice bo n cb] w fun e w' => e = .returned (.bool true) ∧ Below w.heap.size w w' := by
  have hn : n ≤ 9223372036854775807 := by have := ha.le; have := ha.top; unfold maxLen at this; omega
  go_enter Tryd.func31, Tryd.ntmps31
  go_wp2
  go_loopw [5] (fun i wr => ∃ k : Nat, k ≤ n ∧ i = .int .i64 k ∧ Below w.heap.size w wr) (fun i _ => n - (intOf i).toNat)
  case atStart => exact ⟨0, by omega, rfl, Below.refl _ _⟩
  case round =>
    obtain ⟨k, hk, rfl, hf⟩ := hrel
    by_cases hlt : k < n
    · obtain ⟨b1, o1, rfl, h1⟩ := (ha.fresh hf).one (by omega)
      obtain ⟨b2, o2, rfl, h2⟩ := (hb.fresh hf).one (by omega)
      have c1 := h1 k hlt
      have c2 := h2 k hlt
      have e := hfg k hlt
      rw [← e] at c2
      clear h1 h2 e
      go_wp2
      go_quiet (fail)
      go_wp2
      go_roundw
      case rel => exact ⟨k + 1, by omega, by go_num, below_drewN hf _⟩
      case measure => simp [intOf]; omega
    · go_wp2
      go_ret
      exact ⟨rfl, hf⟩
/-- The cells of a list of turns. -/
def tcs (C S : Nat → Int) : Nat → Value := fun j => if j % 2 = 0 then .int .i64 (C (j / 2)) else .int .i64 (S (j / 2))
theorem tcs0 (C S : Nat → Int) (i : Nat) : tcs C S (i * 2) = .int .i64 (C i) := by
  unfold tcs; rw [if_pos (by omega), show i * 2 / 2 = i by omega]
theorem tcs1 (C S : Nat → Int) (i : Nat) : tcs C S (i * 2 + 1) = .int .i64 (S i) := by
  unfold tcs; rw [if_neg (by omega), show (i * 2 + 1) / 2 = i by omega]
theorem RdA.two {w : World} {ao : Option Addr} {n cap : Nat} {C S : Nat → Int} (h : RdA w ao 2 n cap (tcs C S)) (hn : 0 < n) : ∃ b off, ao = some ⟨b, off, none⟩ ∧ ∀ i, i < n → w.cell? ⟨b, off + i * 2, none⟩ = some (.int .i64 (C i)) ∧ w.cell? ⟨b, off + i * 2 + 1, none⟩ = some (.int .i64 (S i)) := by
  obtain ⟨b, off, rfl, hc⟩ := h.at_ hn
  refine ⟨b, off, rfl, fun i hi => ⟨?_, ?_⟩⟩
  · rw [hc (i * 2) (by omega), tcs0]
  · rw [show off + i * 2 + 1 = off + (i * 2 + 1) by omega, hc (i * 2 + 1) (by omega), tcs1]
set_option maxHeartbeats 1000000 in
theorem eqTurns_same {w : World} {ao bo : Option Addr} {n ca cb : Nat} {C S C' S' : Nat → Int} (ha : RdA w ao 2 n ca (tcs C S)) (hb : RdA w bo 2 n cb (tcs C' S')) (hC : ∀ i, i < n → C i = C' i) (hS : ∀ i, i < n → S i = S' i) :
    Calls Tryd.prog 32 #[.slice ao n ca, .slice bo n cb] w fun e w' => e = .returned (.bool true) ∧ Below w.heap.size w w' := by
  have hn : n ≤ 9223372036854775807 := by have := ha.le; have := ha.top; unfold maxLen at this; omega
  go_enter Tryd.func32, Tryd.ntmps32
  go_wp2
  go_loopw [5] (fun i wr => ∃ k : Nat, k ≤ n ∧ i = .int .i64 k ∧ Below w.heap.size w wr) (fun i _ => n - (intOf i).toNat)
  case atStart => exact ⟨0, by omega, rfl, Below.refl _ _⟩
  case round =>
    obtain ⟨k, hk, rfl, hf⟩ := hrel
    by_cases hlt : k < n
    · obtain ⟨b1, o1, rfl, h1⟩ := (ha.fresh hf).two (by omega)
      obtain ⟨b2, o2, rfl, h2⟩ := (hb.fresh hf).two (by omega)
      obtain ⟨c1, s1⟩ := h1 k hlt
      obtain ⟨c2, s2⟩ := h2 k hlt
      have e := hC k hlt
      rw [← e] at c2
      have e' := hS k hlt
      rw [← e'] at s2
      clear h1 h2 e e'
      go_wp2
      go_quiet (fail)
      go_wp2
      go_roundw
      case rel => exact ⟨k + 1, by omega, by go_num, below_drewN hf _⟩
      case measure => simp [intOf]; omega
    · go_wp2
      go_ret
      exact ⟨rfl, hf⟩
end Go.Proofs.YtmcefgpejocjfaaDoor
