import Derived.Test.YtmcefgpejocjfaaDoorNrm
import Derived.Test.YtmcefgpejocjfaaDoorExp
namespace Go.Proofs.YtmcefgpejocjfaaDoor
open Go.RowKit
/-! Max, Softmax. -/
theorem Holds.fresh {w w' : World} (h : Holds w) (f : Below w.heap.size w w') : Holds w' := by
  obtain ⟨t, fr, e⟩ := h
  exact ⟨t, fr, by rw [f.block 0 (Array.getElem?_eq_some_iff.1 e).1, e]⟩
/-- the greatest of a list -/
def imax (f : Nat → Int) : Nat → Int
  | 0 => f 0
  | n + 1 => max (imax f n) (f (n + 1))
theorem le_imax {f : Nat → Int} : ∀ {n i : Nat}, i ≤ n → f i ≤ imax f n
  | 0, i, h => by obtain rfl : i = 0 := by omega
                  exact Int.le_refl _
  | n + 1, i, h => by
    show f i ≤ max (imax f n) (f (n + 1))
    by_cases e : i = n + 1
    · rw [e]; exact Int.le_max_right _ _
    · exact Int.le_trans (le_imax (by omega)) (Int.le_max_left _ _)
theorem imax_ex {f : Nat → Int} : ∀ n : Nat, ∃ i, i ≤ n ∧ imax f n = f i
  | 0 => ⟨0, by omega, rfl⟩
  | n + 1 => by
    obtain ⟨i, hi, e⟩ := imax_ex (f := f) n
    by_cases h : f (n + 1) ≤ imax f n
    · exact ⟨i, by omega, by show max _ _ = _; rw [Int.max_eq_left h, e]⟩
    · exact ⟨n + 1, by omega, by show max _ _ = _; rw [Int.max_eq_right (by omega)]⟩
theorem imax_step (f : Nat → Int) (k : Nat) : (if imax f k < f (k + 1) then f (k + 1) else imax f k) = imax f (k + 1) := by
  show _ = max (imax f k) (f (k + 1))
  split
  · rw [Int.max_eq_right (by omega)]
  · rw [Int.max_eq_left (by omega)]
set_option maxHeartbeats 1000000 in
theorem max_any {w : World} {ao : Option Addr} {n ca : Nat} {f : Nat → Int} (ha : RdA w ao 1 (n + 1) ca (fun i => .int .i64 (f i))) :
    Calls Tryd.prog 62 #[.slice ao (n + 1) ca] w fun e w' => e = .returned (.int .i64 (imax f n)) ∧ w' = w := by
  have hn : n + 1 ≤ 9223372036854775807 := by have := ha.le; have := ha.top; unfold maxLen at this; omega
  obtain ⟨b1, o1, rfl, h1⟩ := ha.one (by omega)
  have c0 := h1 0 (by omega)
  simp only [Nat.add_zero] at c0
  have HH := hidd h1
  clear h1
  generalize hN : n + 1 = N at *
  have hN0 : ¬ (N : Int) < 1 := by omega
  have HN := hidd hN
  clear hN
  go_enter Tryd.func62, Tryd.ntmps62
  go_wp2
  clear c0
  go_loop [3, 4] (fun m i => ∃ k : Nat, k + 1 ≤ N ∧ i = .int .i64 ((k : Int) + 1) ∧ m = .int .i64 (imax f k)) (fun _ i => N - (intOf i).toNat)
  case atStart => exact ⟨0, by omega, rfl, rfl⟩
  case round =>
    obtain ⟨k, hk, rfl, rfl⟩ := hrel
    by_cases hlt : k + 1 < N
    · have c1 := HH.out (k + 1) hlt
      go_wp2
      go_round
      case rel => exact ⟨k + 1, by omega, by go_num, by rw [imax_step]⟩
      case measure => simp [intOf]; omega
    · go_wp2
      go_ret
      exact ⟨ret_int (by have := HN.out; rw [show k = n by omega]), rfl⟩
/-- the weight of score i among n -/
def sw (f : Nat → Int) (n i : Nat) : Int := Fix.ex (64 * (ncl f i - imax (ncl f) (n - 1)))
set_option maxHeartbeats 2000000 in
theorem softmax_ok {w : World} {ao : Option Addr} {n ca : Nat} {f : Nat → Int} (hw : Holds w) (ha : RdA w ao 1 n ca (fun i => .int .i64 (f i))) (bf : ∀ i, i < n → -9223372036854775808 ≤ f i ∧ f i ≤ 9223372036854775807) (h0 : 0 < n) (hn : 8 * n ≤ 281474976710656) :
    Calls Tryd.prog 25 #[.slice ao n ca] w fun e w' => ∃ b F, e = .returned (.tuple #[.slice (some ⟨b, 0, none⟩) n n, .int .i64 (tot (sw f n) n)]) ∧ w.heap.size ≤ b ∧ w'.rowIs b 2 n F ∧ (∀ j, j < n → F j = .int .i64 (sw f n j)) ∧ Below w.heap.size w w' := by
  have hz : ((n : Int) == 0) = false := by simp; omega
  go_enter Tryd.func25, Tryd.ntmps25
  go_wp2_with fail
  refine (clamped_any ha bf hn).mono ?_
  rintro e w1 ⟨b, F, rfl, hb1, hrow, hF, hf1⟩
  have hc : RdA w1 (some ⟨b, 0, none⟩) 1 n n (fun i => .int .i64 (ncl f i)) := (rowIs_rd hrow (by unfold maxLen; omega)).congr (fun j hj => hF j (by omega))
  have qm : Calls Tryd.prog 62 #[.slice (some ⟨b, 0, none⟩) n n] w1 fun e w' => e = .returned (.int .i64 (imax (ncl f) (n - 1))) ∧ w' = w1 := by
    obtain ⟨m, rfl⟩ : ∃ m, n = m + 1 := ⟨n - 1, by omega⟩
    exact max_any hc
  have hmb : -16777216 ≤ imax (ncl f) (n - 1) ∧ imax (ncl f) (n - 1) ≤ 16777216 := by
    obtain ⟨i, _, e⟩ := imax_ex (f := ncl f) (n - 1)
    rw [e]; exact ncl_bd f i
  have hsw : ∀ j, Fix.ex (64 * (ncl f j - imax (ncl f) (n - 1))) = sw f n j := fun _ => rfl
  have HSW := hidd hsw
  clear hsw
  generalize imax (ncl f) (n - 1) = best at *
  go_wp2_with fail
  refine qm.mono ?_
  rintro e w2 ⟨rfl, hw2⟩
  rw [hw2]
  clear hw2 qm hc w2
  have hH := hw.fresh hf1
  go_wp2
  clear hz
  go_loopw [17] (fun i wr => ∃ (k : Nat) (F : Nat → Value), k ≤ n ∧ i = .int .i64 k ∧ wr.rowIs b 2 n F ∧ Hid (∀ j, j < k → F j = .int .i64 (sw f n j)) ∧ Hid (∀ j, k ≤ j → j < n → F j = .int .i64 (ncl f j)) ∧ Below w.heap.size w wr) (fun i _ => n - (intOf i).toNat)
  case atStart => exact ⟨0, F, by omega, rfl, hrow, fun j hj => absurd hj (by omega), fun j _ hj => hF j hj, hf1⟩
  case round =>
    clear hrow hF
    obtain ⟨k, F, hk, rfl, hrow, HF, HG, hf⟩ := hrel
    by_cases hlt : k < n
    · have cc := hrow.cell (i := k) hlt
      rw [HG.out k (Nat.le_refl _) hlt] at cc
      have fa := hrow.frozen
      have hcb := ncl_bd f k
      have hH := hw.fresh hf
      go_wp2_with fail
      refine (exp_any _ _ hH).mono ?_
      rintro e w2 ⟨rfl, hw2⟩
      rw [hw2]
      clear hw2 w2
      go_wp2
      go_roundw
      case rel => exact ⟨k + 1, _, hlt, by go_num, hrow.set k _, set_next (G := fun j => .int .i64 (sw f n j)) HF.out (by rw [HSW.out k]), fun j h1 h2 => by rw [if_neg (by omega)]; exact HG.out j (by omega) h2, hf.setCell hb1 _⟩
      case measure => simp [intOf]; omega
    · obtain rfl : k = n := by omega
      have hr : RdA wr (some ⟨b, 0, none⟩) 1 k k (fun i => .int .i64 (sw f k i)) := (rowIs_rd hrow (by unfold maxLen; omega)).congr (fun j hj => HF.out j (by omega))
      go_wp2_with fail
      refine (total_any hr).mono ?_
      rintro e w2 ⟨rfl, hw2⟩
      rw [hw2]
      clear hw2 w2
      go_wp2
      go_ret2
      exact ⟨b, F, rfl, hb1, hrow, HF.out, hf⟩
set_option maxHeartbeats 1000000 in
theorem softmax_none {w : World} {ao : Option Addr} {ca : Nat} : Calls Tryd.prog 25 #[.slice ao 0 ca] w fun e w' => e = .returned (.tuple #[.slice none 0 0, .int .i64 0]) ∧ w' = w := by
  go_enter Tryd.func25, Tryd.ntmps25
  go_wp2
  go_ret2
  exact ⟨rfl, rfl⟩
end Go.Proofs.YtmcefgpejocjfaaDoor
