import Derived.Test.YtmcefgpejocjfaaDoorBldRef2
namespace Go.Proofs.YtmcefgpejocjfaaDoor
open Go.RowKit
/-! The reference's Blend: its refusals. -/
set_option maxHeartbeats 1000000 in
theorem blends_ne {w : World} {ao vo : Option Addr} {n m ca cv : Nat} (h : n = 0 ∨ n ≠ m) :
    Calls Tryd.prog 77 #[.slice ao n ca, .slice vo m cv] w fun e w' => (∃ x, e = .returned (.tuple #[.bool false, .int .i64 x])) ∧ Below w.heap.size w w' := by
  by_cases h0 : n = 0
  · have hz : ((n : Int) == 0) = true := by simp [h0]
    clear h0 h
    go_enter Tryd.func77, Tryd.ntmps77
    go_wp2
    go_ret2
    exact ⟨⟨_, rfl⟩, Below.refl _ _⟩
  · have hz : ((n : Int) == 0) = false := by simp; omega
    have hne : ((n : Int) != (m : Int)) = true := by simp; omega
    clear h0 h
    go_enter Tryd.func77, Tryd.ntmps77
    go_wp2
    go_ret2
    exact ⟨⟨_, rfl⟩, Below.refl _ _⟩
set_option maxHeartbeats 1000000 in
theorem blends_bad {w : World} {ao vo : Option Addr} {n ca cv : Nat} {f : Nat → Int} {A : Nat → Option Addr} {L K : Nat → Nat} {X : Nat → Nat → Int} (ha : RdA w ao 1 n ca (fun i => .int .i64 (f i))) (hv : Vs w vo n cv A L K X) (h0 : 0 < n) (h : ¬ Fit f n L)
    (bf : ∀ i, i < n → -9223372036854775808 ≤ f i ∧ f i ≤ 9223372036854775807) :
    Calls Tryd.prog 77 #[.slice ao n ca, .slice vo n cv] w fun e w' => (∃ x, e = .returned (.tuple #[.bool false, .int .i64 x])) ∧ Below w.heap.size w w' := by
  have hn : n ≤ 9223372036854775807 := by have := ha.le; have := ha.top; unfold maxLen at this; omega
  have hout : Hid ((∀ i, i < n → L i = L 0 ∧ 0 ≤ f i) → ¬ 1 ≤ tot f n) := fun a c => h ⟨h0, fun i hi => (a i hi).1, fun i hi => (a i hi).2, c⟩
  have BF := hidd bf
  have hz : ((n : Int) == 0) = false := by simp; omega
  have hne : ((n : Int) != (n : Int)) = false := by simp
  clear bf h
  go_enter Tryd.func77, Tryd.ntmps77
  go_wp2
  clear hz hne
  go_loopw [6, 7] (fun s i wr => ∃ k : Nat, k ≤ n ∧ i = .int .i64 k ∧ s = .int .i64 (tot f k) ∧ Hid (∀ i, i < k → L i = L 0 ∧ 0 ≤ f i) ∧ Below w.heap.size w wr) (fun _ i _ => n - (intOf i).toNat)
  case atStart => exact ⟨0, by omega, rfl, by rw [tot_zero], fun j hj => absurd hj (by omega), Below.refl _ _⟩
  case round =>
    obtain ⟨k, hk, rfl, rfl, HK, hf1⟩ := hrel
    by_cases hlt : k < n
    · obtain ⟨b1, o1, rfl, h1⟩ := (ha.fresh hf1).one (by omega)
      obtain ⟨b2, o2, rfl, h2⟩ := (hv.top.fresh hf1).one (by omega)
      have c1 := h1 k hlt
      have c2 := h2 k hlt
      have c3 := h2 0 h0
      simp only [Nat.add_zero] at c3
      have bk := BF.out k hlt
      have ES := hidd (tot_succ f k)
      clear h1 h2
      by_cases hw : f k < 0
      · go_wp2
        go_quiet (fail)
        go_wp2
        go_ret2
        exact ⟨⟨_, rfl⟩, below_drewN hf1 _⟩
      · by_cases hL : L k = L 0
        · have HK' : Hid (∀ j, j < k + 1 → L j = L 0 ∧ 0 ≤ f j) := fun j hj => by
            by_cases e : j = k
            · rw [e]; exact ⟨hL, by omega⟩
            · exact HK.out j (by omega)
          rw [hL] at c2
          have hne : ((L 0 : Int) != (L 0 : Int)) = false := by simp
          clear hL HK
          go_wp2
          go_quiet (fail)
          go_wp2
          go_roundw
          case rel => exact ⟨k + 1, by omega, by go_num, by rw [ES.out], HK', below_drewN hf1 _⟩
          case measure => simp [intOf]; omega
        · have hne : ((L k : Int) != (L 0 : Int)) = true := by simp; omega
          clear hL
          go_wp2
          go_quiet (fail)
          go_wp2
          go_ret2
          exact ⟨⟨_, rfl⟩, below_drewN hf1 _⟩
    · have hkn : k = n := by omega
      subst hkn
      have hq := hout.out HK.out
      have hd : decide (1 ≤ tot f k) = false := by simp; omega
      go_wp2
      go_ret2
      exact ⟨⟨_, rfl⟩, hf1⟩
set_option maxHeartbeats 1000000 in
theorem blend_rbad {w : World} {ao vo : Option Addr} {n m ca cv : Nat} {f : Nat → Int} {A : Nat → Option Addr} {L K : Nat → Nat} {X : Nat → Nat → Int} (ha : RdA w ao 1 n ca (fun i => .int .i64 (f i))) (hv : Vs w vo m cv A L K X) (h : n = 0 ∨ n ≠ m ∨ ¬ Fit f n L)
    (bf : ∀ i, i < n → -9223372036854775808 ≤ f i ∧ f i ≤ 9223372036854775807) :
    Calls Tryd.prog 52 #[.slice ao n ca, .slice vo m cv] w fun e w' => e = .returned (.tuple #[.slice none 0 0, .int .i64 30]) ∧ Below w.heap.size w w' := by
  have hbo : Calls Tryd.prog 77 #[.slice ao n ca, .slice vo m cv] w fun e w' => (∃ x, e = .returned (.tuple #[.bool false, .int .i64 x])) ∧ Below w.heap.size w w' := by
    by_cases h1 : n = 0 ∨ n ≠ m
    · exact blends_ne h1
    · have e : n = m := by omega
      have hF : ¬ Fit f n L := by
        rcases h with h | h | h
        · exact absurd (Or.inl h) h1
        · exact absurd (Or.inr h) h1
        · exact h
      subst e
      exact blends_bad ha hv (by omega) hF bf
  go_enter Tryd.func52, Tryd.ntmps52
  go_wp2_with fail
  refine hbo.mono ?_
  rintro e w1 ⟨⟨x, rfl⟩, hf1⟩
  clear hbo
  go_wp2
  go_ret2
  exact ⟨rfl, hf1⟩
end Go.Proofs.YtmcefgpejocjfaaDoor
