import Derived.Test.YtonhnlahpfkalaaBld
import Derived.Test.YtonhnlahpfkalaaMv
import Derived.Test.YtonhnlahpfkalaaEqs
namespace Go.Proofs.Ytonhnlahpfkalaa
open Go.RowKit
/-! The law TensorBlend: its walk. -/
theorem infoS8 : (Try.prog.info? 23).map (fun i => (i.zero, i.size, i.bytes)) = some (some (.slice none 0 0), 1, 24) := by kernel_rfl
set_option maxHeartbeats 1000000 in
/-- Blend of weights whose sum is below 1, or of none. -/
theorem blendable_low {w : World} {ao vo : Option Addr} {n ca cv : Nat} {f : Nat → Int} {A : Nat → Option Addr} {L K : Nat → Nat} {X : Nat → Nat → Int} (ha : RdA w ao 1 n ca (fun i => .int .i64 (f i))) (hv : Vs w vo n cv A L K X)
    (hL : ∀ i, i < n → L i = L 0) (hlow : ∀ i, i < n → 0 ≤ f i) (hsum : tot f n < 1) :
    Calls Try.prog 28 #[.slice ao n ca, .slice vo n cv] w fun e w' => e = .returned (.bool false) ∧ w' = w := by
  have hn : n ≤ 9223372036854775807 := by have := ha.le; have := ha.top; unfold maxLen at this; omega
  by_cases h0 : n = 0
  · have hz : ((n : Int) == 0) = true := by simp [h0]
    clear h0
    go_enter Try.func28, Try.ntmps28
    go_wp2
    go_ret
    exact ⟨rfl, rfl⟩
  · obtain ⟨m, rfl⟩ : ∃ m, n = m + 1 := ⟨n - 1, by omega⟩
    have hmin : Hid (0 ≤ imin f m) := by
      obtain ⟨i, hi, e⟩ := imin_ex (f := f) m
      show 0 ≤ imin f m
      rw [e]; exact hlow i (by omega)
    have qm := min_any ha
    have qt := total_any ha
    generalize hN : m + 1 = N at *
    obtain ⟨b1, o1, rfl, h1⟩ := hv.top.one (by omega)
    have k0 := h1 0 (by omega)
    simp only [Nat.add_zero] at k0
    have HH := hidd h1
    have HL := hidd hL
    have hz : ((N : Int) == 0) = false := by simp; omega
    have hne : ((N : Int) != (N : Int)) = false := by simp
    clear h1 hN hL hlow h0
    go_enter Try.func28, Try.ntmps28
    go_wp2
    clear hz hne
    go_loop [19] (fun i => ∃ k : Nat, k ≤ N ∧ i = .int .i64 k) (fun i => N - (intOf i).toNat)
    case atStart => exact ⟨0, by omega, rfl⟩
    case round =>
      obtain ⟨k, hk, rfl⟩ := hrel
      by_cases hlt : k < N
      · have c1 := HH.out k hlt
        have d1 := HL.out k hlt
        rw [d1] at c1
        have hne : ((L 0 : Int) != (L 0 : Int)) = false := by simp
        clear d1
        go_wp2
        go_round
        case rel => exact ⟨k + 1, by omega, by go_num⟩
        case measure => simp [intOf]; omega
      · have hm0 := hmin.out
        go_wp2_with fail
        refine qm.mono ?_
        rintro e w1 ⟨rfl, hw1⟩
        rw [hw1]
        clear hw1 qm
        go_wp2_with fail
        refine qt.mono ?_
        rintro e w2 ⟨rfl, hw2⟩
        rw [hw2]
        clear hw2 qt
        go_wp2
        go_ret
        exact ⟨ret_bool (by simp; try omega), rfl⟩
set_option maxHeartbeats 1000000 in
theorem blend_low {w : World} {ao vo : Option Addr} {n ca cv : Nat} {f : Nat → Int} {A : Nat → Option Addr} {L K : Nat → Nat} {X : Nat → Nat → Int} (ha : RdA w ao 1 n ca (fun i => .int .i64 (f i))) (hv : Vs w vo n cv A L K X)
    (hL : ∀ i, i < n → L i = L 0) (hlow : ∀ i, i < n → 0 ≤ f i) (hsum : tot f n < 1) :
    Calls Try.prog 20 #[.slice ao n ca, .slice vo n cv] w fun e w' => e = .returned (.tuple #[.slice none 0 0, .int .i64 30]) ∧ w' = w := by
  have hbo := blendable_low ha hv hL hlow hsum
  go_enter Try.func20, Try.ntmps20
  go_wp2_with fail
  refine hbo.mono ?_
  rintro e w1 ⟨rfl, hw1⟩
  rw [hw1]
  clear hw1 hbo
  go_wp2
  go_ret2
  exact ⟨rfl, rfl⟩
/-- the weights of the law -/
def wgt (nw : Nat) (g : Nat → Int) (i : Nat) : Int := if i < nw then (if (g i).tmod 1099511627776 < 0 then -((g i).tmod 1099511627776) else (g i).tmod 1099511627776) else 1
theorem wmod_bd (x : Int) : -1099511627776 < x.tmod 1099511627776 ∧ x.tmod 1099511627776 < 1099511627776 := by
  have h1 := Int.lt_tmod_of_pos x (show (0 : Int) < 1099511627776 by decide)
  have h2 := Int.tmod_lt_of_pos x (show (0 : Int) < 1099511627776 by decide)
  omega
theorem wgt_bd (nw : Nat) (g : Nat → Int) (i : Nat) : 0 ≤ wgt nw g i ∧ wgt nw g i < 1099511627776 := by
  unfold wgt
  have := wmod_bd (g i)
  split
  · split <;> omega
  · omega
theorem isum_wgt (nw : Nat) (g : Nat → Int) : ∀ n : Nat, 0 ≤ isum (wgt nw g) n ∧ isum (wgt nw g) n ≤ n * 1099511627776
  | 0 => by simp [isum]
  | n + 1 => by
    have h1 := isum_wgt nw g n
    have h2 := wgt_bd nw g n
    show 0 ≤ isum (wgt nw g) n + wgt nw g n ∧ isum (wgt nw g) n + wgt nw g n ≤ _
    omega
theorem tot_wgt {nw : Nat} {g : Nat → Int} {n : Nat} (h : n ≤ 100) : tot (wgt nw g) n = isum (wgt nw g) n := by
  unfold tot
  have := isum_wgt nw g n
  exact wid _ (by omega) (by omega)
/-- a sum of products lies between -/
theorem isum_between {f x : Nat → Int} {lo hi : Int} : ∀ {n : Nat}, (∀ i, i < n → 0 ≤ f i) → (∀ i, i < n → lo ≤ x i ∧ x i ≤ hi) → lo * isum f n ≤ isum (fun i => f i * x i) n ∧ isum (fun i => f i * x i) n ≤ hi * isum f n
  | 0, _, _ => by simp [isum]
  | n + 1, hf, hx => by
    have ih := isum_between (n := n) (fun i hi => hf i (by omega)) (fun i hi => hx i (by omega))
    have h1 := Int.mul_le_mul_of_nonneg_left (hx n (by omega)).1 (hf n (by omega))
    have h2 := Int.mul_le_mul_of_nonneg_left (hx n (by omega)).2 (hf n (by omega))
    show lo * (isum f n + f n) ≤ isum (fun i => f i * x i) n + f n * x n ∧ isum (fun i => f i * x i) n + f n * x n ≤ hi * (isum f n + f n)
    rw [Int.mul_add, Int.mul_add, Int.mul_comm lo (f n), Int.mul_comm hi (f n)]
    omega
theorem sum3 (f x : Nat → Int) : ∀ n, isum (fun i => 3 * f i * x i) n = 3 * isum (fun i => f i * x i) n
  | 0 => rfl
  | n + 1 => by
    show isum (fun i => 3 * f i * x i) n + 3 * f n * x n = 3 * (isum (fun i => f i * x i) n + f n * x n)
    rw [sum3 f x n, Int.mul_assoc]; omega
end Go.Proofs.Ytonhnlahpfkalaa
