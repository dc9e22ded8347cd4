import Derived.Test.YtmcefgpejocjfaaDoorBld
namespace Go.Proofs.YtmcefgpejocjfaaDoor
open Go.RowKit
/-! Blend's refusals. -/
set_option maxHeartbeats 1000000 in
theorem blendable_ne {w : World} {ao vo : Option Addr} {n m ca cv : Nat} (h : n = 0 ∨ n ≠ m) :
    Calls Tryd.prog 65 #[.slice ao n ca, .slice vo m cv] w fun e w' => e = .returned (.bool false) ∧ w' = w := by
  by_cases h0 : n = 0
  · have hz : ((n : Int) == 0) = true := by simp [h0]
    clear h0 h
    go_enter Tryd.func65, Tryd.ntmps65
    go_wp2
    go_ret
    exact ⟨rfl, rfl⟩
  · have hz : ((n : Int) == 0) = false := by simp; omega
    have hne : ((n : Int) != (m : Int)) = true := by simp; omega
    clear h0 h
    go_enter Tryd.func65, Tryd.ntmps65
    go_wp2
    go_ret
    exact ⟨rfl, rfl⟩
set_option maxHeartbeats 1000000 in
theorem blendable_bad {w : World} {ao vo : Option Addr} {n ca cv : Nat} {f : Nat → Int} {A : Nat → Option Addr} {L K : Nat → Nat} {X : Nat → Nat → Int} (ha : RdA w ao 1 n ca (fun i => .int .i64 (f i))) (hv : Vs w vo n cv A L K X) (h0 : 0 < n) (h : ¬ Fit f n L) :
    Calls Tryd.prog 65 #[.slice ao n ca, .slice vo n cv] w fun e w' => e = .returned (.bool false) ∧ w' = w := by
  have hn : n ≤ 9223372036854775807 := by have := ha.le; have := ha.top; unfold maxLen at this; omega
  obtain ⟨m, rfl⟩ : ∃ m, n = m + 1 := ⟨n - 1, by omega⟩
  have hout : Hid ((∀ i, i < m + 1 → L i = L 0) → 0 ≤ imin f m → ¬ 1 ≤ tot f (m + 1)) := fun a b c => h ⟨h0, a, fun i hi => Int.le_trans b (imin_le (by omega)), c⟩
  have qm := min_any ha
  have qt := total_any ha
  clear h
  generalize hN : m + 1 = N at *
  obtain ⟨b1, o1, rfl, h1⟩ := hv.top.one (by omega)
  have k0 := h1 0 (by omega)
  simp only [Nat.add_zero] at k0
  have HH := hidd h1
  have hz : ((N : Int) == 0) = false := by simp; omega
  have hne : ((N : Int) != (N : Int)) = false := by simp
  clear h1 hN
  go_enter Tryd.func65, Tryd.ntmps65
  go_wp2
  clear hz hne
  go_loop [19] (fun i => ∃ k : Nat, k ≤ N ∧ i = .int .i64 k ∧ Hid (∀ j, j < k → L j = L 0)) (fun i => N - (intOf i).toNat)
  case atStart => exact ⟨0, by omega, rfl, fun j hj => absurd hj (by omega)⟩
  case round =>
    obtain ⟨k, hk, rfl, HK⟩ := hrel
    by_cases hlt : k < N
    · have c1 := HH.out k hlt
      by_cases hL : L k = L 0
      · have HK' : Hid (∀ j, j < k + 1 → L j = L 0) := fun j hj => by
          by_cases e : j = k
          · rw [e]; exact hL
          · exact HK.out j (by omega)
        rw [hL] at c1
        have hne : ((L 0 : Int) != (L 0 : Int)) = false := by simp
        clear hL HK
        go_wp2
        go_round
        case rel => exact ⟨k + 1, by omega, by go_num, HK'⟩
        case measure => simp [intOf]; omega
      · have hne : ((L k : Int) != (L 0 : Int)) = true := by simp; omega
        clear hL
        go_wp2
        go_ret
        exact ⟨rfl, rfl⟩
    · have hk' : k = N := by omega
      have hq := hout.out (fun i hi => HK.out i (by omega))
      by_cases hm0 : 0 ≤ imin f m
      · have ht := hq hm0
        clear hq
        go_wp2_with fail
        refine qm.mono ?_
        rintro e w1 ⟨rfl, hw1⟩
        rw [hw1]
        clear hw1 qm
        go_wp2_with fail
        refine qt.mono ?_
        rintro e w2 ⟨rfl, hw2⟩
        rw [hw2]
        clear hw2 qt
        go_wp2
        go_ret
        exact ⟨ret_bool (by simp; try omega), rfl⟩
      · clear hq
        go_wp2_with fail
        refine qm.mono ?_
        rintro e w1 ⟨rfl, hw1⟩
        rw [hw1]
        clear hw1 qm
        go_wp2
        go_ret
        exact ⟨ret_bool (by simp; try omega), rfl⟩
set_option maxHeartbeats 1000000 in
theorem blend_bad {w : World} {ao vo : Option Addr} {n m ca cv : Nat} {f : Nat → Int} {A : Nat → Option Addr} {L K : Nat → Nat} {X : Nat → Nat → Int} (ha : RdA w ao 1 n ca (fun i => .int .i64 (f i))) (hv : Vs w vo m cv A L K X) (h : n = 0 ∨ n ≠ m ∨ ¬ Fit f n L) :
    Calls Tryd.prog 26 #[.slice ao n ca, .slice vo m cv] w fun e w' => e = .returned (.tuple #[.slice none 0 0, .int .i64 30]) ∧ w' = w := by
  have hbo : Calls Tryd.prog 65 #[.slice ao n ca, .slice vo m cv] w fun e w' => e = .returned (.bool false) ∧ w' = w := by
    by_cases h1 : n = 0 ∨ n ≠ m
    · exact blendable_ne h1
    · have e : n = m := by omega
      have hF : ¬ Fit f n L := by
        rcases h with h | h | h
        · exact absurd (Or.inl h) h1
        · exact absurd (Or.inr h) h1
        · exact h
      subst e
      exact blendable_bad ha hv (by omega) hF
  go_enter Tryd.func26, Tryd.ntmps26
  go_wp2_with fail
  refine hbo.mono ?_
  rintro e w1 ⟨rfl, hw1⟩
  rw [hw1]
  clear hw1 hbo
  go_wp2
  go_ret2
  exact ⟨rfl, rfl⟩
end Go.Proofs.YtmcefgpejocjfaaDoor
