import Derived.Test.YtjjnfpeeipainaaChkA
namespace Go.Proofs.Ytjjnfpeeipainaa
open Go.RowKit
/-! More pieces of Check. -/
set_option maxHeartbeats 400000 in
theorem head_ref (V W H K L D N M : Int) (w : World) (hH : 1 ≤ H) (hH4 : H ≤ 4) (hW : 2 ≤ W) (hW2 : W ≤ 32) :
    Calls Try.prog 47 #[.agg #[.int .i64 V, .int .i64 W, .int .i64 H, .int .i64 K, .int .i64 L, .int .i64 D, .int .i64 N, .int .i64 M]] w fun e w' => e = .returned (.int .i64 (W / H)) ∧ Below w.heap.size w w' := by
  have hz : ¬ H = 0 := by omega
  have e1 : W.tdiv H = W / H := Int.tdiv_eq_ediv_of_nonneg (by omega)
  have hq0 : 0 ≤ W / H := Int.ediv_nonneg (by omega) (by omega)
  have hq1 : W / H ≤ W := Int.ediv_le_self _ (by omega)
  go_enter Try.func47, Try.ntmps47
  go_wp2
  go_ret
  exact ⟨rfl, fresh_alloc _ _⟩
set_option maxHeartbeats 400000 in
theorem headSize_any (V W H K L D N M : Int) (w : World) (hH : 1 ≤ H) (hH4 : H ≤ 4) (hW : 2 ≤ W) (hW2 : W ≤ 32) :
    Calls Try.prog 97 #[.agg #[.int .i64 V, .int .i64 W, .int .i64 H, .int .i64 K, .int .i64 L, .int .i64 D, .int .i64 N, .int .i64 M]] w fun e w' => e = .returned (.int .i64 (W / H)) ∧ Below w.heap.size w w' := by
  have hz : ¬ H = 0 := by omega
  have e1 : W.tdiv H = W / H := Int.tdiv_eq_ediv_of_nonneg (by omega)
  have hq0 : 0 ≤ W / H := Int.ediv_nonneg (by omega) (by omega)
  have hq1 : W / H ≤ W := Int.ediv_le_self _ (by omega)
  go_enter Try.func97, Try.ntmps97
  go_wp2
  go_ret
  exact ⟨rfl, fresh_alloc _ _⟩
/-- the least of a list -/
def imn (f : Nat → Int) : Nat → Int
  | 0 => f 0
  | n + 1 => min (imn f n) (f (n + 1))
theorem imn_iff {f : Nat → Int} {m : Int} : ∀ {n : Nat}, m ≤ imn f n ↔ ∀ i, i ≤ n → m ≤ f i
  | 0 => ⟨fun h i hi => by obtain rfl : i = 0 := by omega
                           exact h, fun h => h 0 (by omega)⟩
  | n + 1 => by
    show m ≤ min (imn f n) (f (n + 1)) ↔ _
    have ih := imn_iff (f := f) (m := m) (n := n)
    constructor
    · intro h i hi
      by_cases e : i = n + 1
      · rw [e]; omega
      · exact ih.1 (by omega) i (by omega)
    · intro h
      have h1 := ih.2 (fun i hi => h i (by omega))
      have h2 := h (n + 1) (by omega)
      omega
theorem imn_bd {f : Nat → Int} {n : Nat} (h : ∀ i, i < n + 1 → -128 ≤ f i ∧ f i ≤ 127) : ∀ k, k ≤ n → -128 ≤ imn f k ∧ imn f k ≤ 127
  | 0, _ => h 0 (by omega)
  | k + 1, hk => by
    have := imn_bd h k (by omega)
    have := h (k + 1) (by omega)
    show -128 ≤ min (imn f k) (f (k + 1)) ∧ min (imn f k) (f (k + 1)) ≤ 127
    omega
theorem imn_step (f : Nat → Int) (k : Nat) : (if f (k + 1) < imn f k then f (k + 1) else imn f k) = imn f (k + 1) := by
  show _ = min (imn f k) (f (k + 1))
  split <;> omega
set_option maxHeartbeats 1000000 in
theorem min8_any {w : World} {ao : Option Addr} {n ca : Nat} {f : Nat → Int} (ha : RdA w ao 1 (n + 1) ca (fun i => .int .i8 (f i))) :
    Calls Try.prog 99 #[.slice ao (n + 1) ca] w fun e w' => e = .returned (.int .i8 (imn f n)) ∧ w' = w := by
  have hn : n + 1 ≤ 9223372036854775807 := by have := ha.le; have := ha.top; unfold maxLen at this; omega
  obtain ⟨b1, o1, rfl, h1⟩ := ha.one (by omega)
  have c0 := h1 0 (by omega)
  simp only [Nat.add_zero] at c0
  have HH := hidd h1
  clear h1
  generalize hN : n + 1 = N at *
  have hN0 : ¬ (N : Int) < 1 := by omega
  have HN := hidd hN
  clear hN
  go_enter Try.func99, Try.ntmps99
  go_wp2
  clear c0
  go_loop [3, 4] (fun m i => ∃ k : Nat, k + 1 ≤ N ∧ i = .int .i64 ((k : Int) + 1) ∧ m = .int .i8 (imn f k)) (fun _ i => N - (intOf i).toNat)
  case atStart => exact ⟨0, by omega, rfl, rfl⟩
  case round =>
    obtain ⟨k, hk, rfl, rfl⟩ := hrel
    by_cases hlt : k + 1 < N
    · have c1 := HH.out (k + 1) hlt
      go_wp2
      go_round
      case rel => exact ⟨k + 1, by omega, by go_num, by rw [imn_step]⟩
      case measure => simp [intOf]; omega
    · go_wp2
      go_ret
      exact ⟨ret_int (by have := HN.out; rw [show k = n by omega]), rfl⟩
set_option maxHeartbeats 1000000 in
theorem gainsFit_any {w : World} (V W H K L D N M : Int) {ao : Option Addr} {n ca : Nat} {f : Nat → Int} (ha : RdA w ao 1 n ca (fun i => .int .i8 (f i))) (hW : 2 ≤ W) (b : Bool) (hb : b = true ↔ GnP n f W) :
    Calls Try.prog 85 #[.agg #[.int .i64 V, .int .i64 W, .int .i64 H, .int .i64 K, .int .i64 L, .int .i64 D, .int .i64 N, .int .i64 M], .slice ao n ca] w fun e w' => e = .returned (.bool b) ∧ Below w.heap.size w w' := by
  have hf0 := fresh_alloc w (.cells #[.int .i64 V, .int .i64 W, .int .i64 H, .int .i64 K, .int .i64 L, .int .i64 D, .int .i64 N, .int .i64 M] 23)
  by_cases q : (n : Int) = W
  · obtain ⟨m, rfl⟩ : ∃ m, n = m + 1 := ⟨n - 1, by omega⟩
    have hc := min8_any (ha.fresh hf0)
    have HE : Hid (decide (-127 ≤ imn f m) = b) := by
      show decide (-127 ≤ imn f m) = b
      cases hbb : b with
      | true => simp only [decide_eq_true_eq]; exact imn_iff.2 (fun i hi => (hb.1 hbb).2 i (by omega))
      | false =>
        simp only [decide_eq_false_iff_not]
        intro h
        have := hb.2 ⟨q, fun i hi => imn_iff.1 h i (by omega)⟩
        rw [hbb] at this
        cases this
    have e1 : (((m + 1 : Nat) : Int) == W) = true := by simp; omega
    generalize hN : m + 1 = N at *
    clear hN hb q
    go_enter Try.func85, Try.ntmps85
    go_wp2_with fail
    refine hc.mono ?_
    rintro e w1 ⟨rfl, hw1⟩
    rw [hw1]
    clear hw1 hc
    go_wp2
    go_ret
    exact ⟨ret_bool HE.out, hf0⟩
  · have e1 : ((n : Int) == W) = false := by simp [q]
    have HE : Hid (b = false) := by
      show b = false
      cases hbb : b with
      | false => rfl
      | true => exact absurd (hb.1 hbb).1 q
    clear hb q
    go_enter Try.func85, Try.ntmps85
    go_wp2
    go_ret
    exact ⟨ret_bool HE.out.symm, hf0⟩
end Go.Proofs.Ytjjnfpeeipainaa
