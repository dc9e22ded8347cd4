import Derived.Test.YtknfddakpfkcfaaJdB
namespace Go.Proofs.Ytknfddakpfkcfaa
open Go.RowKit
set_option maxRecDepth 20000 in
set_option maxHeartbeats 1600000 in
theorem child_any {w : World} {ao : Option Addr} {n cap a : Nat} {t : Int} {P T D : Nat → Int} (h : RdA w ao 3 n cap (nds P T D)) (hn : n ≤ 1048576) :
    Calls Try.prog 38 #[.slice ao n cap, .int .i64 (a : Int), .int .i64 t] w fun e w' => ((∃ i, Kd n P T a t i ∧ e = .returned (.int .i64 (i : Int))) ∨ ((∀ i, i < n → ¬ (P i = (a : Int) ∧ T i = t)) ∧ e = .returned (.int .i64 (-1)))) ∧ Below w.heap.size w w' := by
  go_enter Try.func38, Try.ntmps38
  go_wp2
  go_loopw [7] (fun i wr => ∃ k : Nat, k ≤ n ∧ i = .int .i64 k ∧ Hid (∀ i, i < k → ¬ (P i = (a : Int) ∧ T i = t)) ∧ Below w.heap.size w wr) (fun i _ => n - (intOf i).toNat)
  case atStart => exact ⟨0, by omega, rfl, fun i hi => absurd hi (by omega), Below.refl _ _⟩
  case round =>
    obtain ⟨k, hk, rfl, HN, hf⟩ := hrel
    by_cases hlt : k < n
    · obtain ⟨b1, o1, rfl, h1⟩ := (h.fresh hf).node (by omega)
      obtain ⟨c1, c2, _⟩ := h1 k hlt
      have k0 : (0 : Int) ≤ (k : Int) := by omega
      have k1 : (k : Int) < (n : Int) := by omega
      clear h1
      obtain ⟨p, HP⟩ : ∃ p, Hid (p = P k) := ⟨_, rfl⟩
      obtain ⟨q, HQ⟩ : ∃ p, Hid (p = T k) := ⟨_, rfl⟩
      rw [← HP.out] at c1
      rw [← HQ.out] at c2
      by_cases e1 : p = (a : Int)
      · by_cases e2 : q = t
        · have HK : Hid (Kd n P T a t k) := ⟨hlt, by rw [← HP.out, e1], by rw [← HQ.out, e2]⟩
          rw [e1] at c1
          rw [e2] at c2
          clear e1 e2 HP HQ
          go_wp2
          go_ret
          exact ⟨.inl ⟨k, HK.out, rfl⟩, hf⟩
        · have d2 : decide (q = t) = false := decide_eq_false e2
          have HE := hidd e2
          rw [e1] at c1
          clear e1
          go_wp2
          go_roundw
          case rel => exact ⟨k + 1, by omega, by go_num, fun i hi => (by
            by_cases e : i = k
            · rw [e]; exact fun h => HE.out (by rw [HQ.out]; exact h.2)
            · exact HN.out i (by omega)), hf⟩
          case measure => simp [intOf]; omega
      · have d1 : decide (p = (a : Int)) = false := decide_eq_false e1
        have HE := hidd e1
        go_wp2
        go_roundw
        case rel => exact ⟨k + 1, by omega, by go_num, fun i hi => (by
            by_cases e : i = k
            · rw [e]; exact fun h => HE.out (by rw [HP.out]; exact h.1)
            · exact HN.out i (by omega)), hf⟩
        case measure => simp [intOf]; omega
    · obtain rfl : n = k := by omega
      go_wp2
      go_ret
      exact ⟨.inr ⟨HN.out, rfl⟩, hf⟩
end Go.Proofs.Ytknfddakpfkcfaa
