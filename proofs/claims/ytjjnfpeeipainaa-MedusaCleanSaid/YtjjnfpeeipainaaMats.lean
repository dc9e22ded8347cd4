import Derived.Test.YtjjnfpeeipainaaBase
import Derived.Test.YtjjnfpeeipainaaSmall
namespace Go.Proofs.Ytjjnfpeeipainaa
open Go.RowKit
/-! Matrices: hasShape, Check, MatVec, Dot. -/
def shp (R C : Int) (n : Nat) : Bool := decide (1 ≤ R) && (decide (1 ≤ C) && (((n : Int) % C == 0) && ((n : Int) / C == R)))
set_option maxHeartbeats 1000000 in
theorem hasShape_any (R C : Int) (ao : Option Addr) (n cap : Nat) (w : World) (hn : n ≤ 9223372036854775807) :
    Calls Try.prog 74 #[.agg #[.int .i64 R, .int .i64 C, .slice ao n cap]] w fun e w' => e = .returned (.bool (shp R C n)) ∧ Below w.heap.size w w' := by
  by_cases r : R < 1
  · have e : shp R C n = false := by unfold shp; simp; omega
    rw [e]
    go_enter Try.func74, Try.ntmps74
    go_wp2
    go_ret
    exact ⟨rfl, fresh_alloc _ _⟩
  · by_cases c : C < 1
    · have e : shp R C n = false := by unfold shp; simp; omega
      rw [e]
      go_enter Try.func74, Try.ntmps74
      go_wp2
      go_ret
      exact ⟨rfl, fresh_alloc _ _⟩
    · obtain ⟨c', rfl⟩ := Int.eq_ofNat_of_zero_le (show 0 ≤ C by omega)
      have hz : ¬ (c' : Int) = 0 := by omega
      have e1 : (n : Int).tmod (c' : Int) = (n : Int) % (c' : Int) := rfl
      have e2 : (n : Int).tdiv (c' : Int) = (n : Int) / (c' : Int) := rfl
      have hq := Int.ediv_nonneg (show 0 ≤ (n : Int) by omega) (show 0 ≤ (c' : Int) by omega)
      have hq2 := Int.ediv_le_self (c' : Int) (show 0 ≤ (n : Int) by omega)
      cases hm : ((n : Int) % (c' : Int) == 0) with
      | false =>
        have e : shp R c' n = false := by unfold shp; rw [hm]; simp
        rw [e]
        go_enter Try.func74, Try.ntmps74
        go_wp2
        go_quiet (fail)
        go_wp2
        go_ret
        exact ⟨rfl, below_drewN (fresh_alloc _ _) _⟩
      | true =>
        have e : shp R c' n = ((n : Int) / c' == R) := by unfold shp; rw [hm, decide_eq_true (by omega), decide_eq_true (by omega)]; simp
        rw [e]
        clear e
        go_enter Try.func74, Try.ntmps74
        go_wp2
        go_quiet (fail)
        go_wp2
        go_ret
        exact ⟨rfl, below_drewN (fresh_alloc _ _) _⟩
set_option maxHeartbeats 1000000 in
theorem check_ok {w : World} {R C : Int} {ao : Option Addr} {n cap : Nat} {f : Nat → Int} (ha : RdA w ao 1 n cap (fun i => .int .i8 (f i))) (hs : shp R C n = true) (hf : ∀ i, i < n → -127 ≤ f i) :
    Calls Try.prog 55 #[.agg #[.int .i64 R, .int .i64 C, .slice ao n cap]] w fun e w' => e = .returned (.int .i64 0) ∧ Below w.heap.size w w' := by
  have hn : n ≤ 9223372036854775807 := by have := ha.le; have := ha.top; unfold maxLen at this; omega
  go_enter Try.func55, Try.ntmps55
  go_wp2_with fail
  refine (hasShape_any R C ao n cap _ hn).mono ?_
  rintro e w' ⟨rfl, hb⟩
  have HF := fresh_trans (fresh_alloc w _) hb
  have c0 : (w.alloc (.cells #[.int .i64 R, .int .i64 C, .slice ao n cap] 26)).cell? ⟨w.heap.size, 2, none⟩ = some (.slice ao n cap) := by simp
  have c1 := fresh_cell hb c0
  clear c0 hb
  rw [hs]
  go_wp2
  go_loop [11] (fun i => ∃ k : Nat, k ≤ n ∧ i = .int .i64 k) (fun i => n - (intOf i).toNat)
  case atStart => exact ⟨0, by omega, rfl⟩
  case round =>
    obtain ⟨k, hk, rfl⟩ := hrel
    by_cases hlt : k < n
    · obtain ⟨b1, o1, rfl, h1⟩ := (ha.fresh HF).one (by omega)
      have c1 := h1 k hlt
      have d1 : ¬ f k < -127 := by have := hf k hlt; omega
      clear h1
      go_wp2
      go_round
      case rel => exact ⟨k + 1, by omega, by go_num⟩
      case measure => simp [intOf]; omega
    · go_wp2
      go_ret
      exact ⟨rfl, HF⟩
set_option maxHeartbeats 1000000 in
theorem check_bad {w : World} {R C : Int} {ao : Option Addr} {n cap : Nat} {f : Nat → Int} (ha : RdA w ao 1 n cap (fun i => .int .i8 (f i))) (hs : shp R C n = false ∨ ∃ i, i < n ∧ f i < -127) :
    Calls Try.prog 55 #[.agg #[.int .i64 R, .int .i64 C, .slice ao n cap]] w fun e w' => e = .returned (.int .i64 30) ∧ Below w.heap.size w w' := by
  have hn : n ≤ 9223372036854775807 := by have := ha.le; have := ha.top; unfold maxLen at this; omega
  go_enter Try.func55, Try.ntmps55
  go_wp2_with fail
  refine (hasShape_any R C ao n cap _ hn).mono ?_
  rintro e w' ⟨rfl, hb⟩
  have HF := fresh_trans (fresh_alloc w _) hb
  have c0 : (w.alloc (.cells #[.int .i64 R, .int .i64 C, .slice ao n cap] 26)).cell? ⟨w.heap.size, 2, none⟩ = some (.slice ao n cap) := by simp
  have c1 := fresh_cell hb c0
  clear c0 hb
  cases hsb : shp R C n with
  | false =>
    go_wp2
    go_ret
    exact ⟨rfl, HF⟩
  | true =>
    have hs2 : ∃ i, i < n ∧ f i < -127 := by rcases hs with h | h; · rw [hsb] at h; cases h
                                             · exact h
    clear hs hsb
    have HS := hidd hs2
    clear hs2
    go_wp2
    go_loop [11] (fun i => ∃ k : Nat, k ≤ n ∧ i = .int .i64 k ∧ Hid (∀ j, j < k → -127 ≤ f j)) (fun i => n - (intOf i).toNat)
    case atStart => exact ⟨0, by omega, rfl, fun j hj => by omega⟩
    case round =>
      obtain ⟨k, hk, rfl, hall⟩ := hrel
      by_cases hlt : k < n
      · obtain ⟨b1, o1, rfl, h1⟩ := (ha.fresh HF).one (by omega)
        have c1 := h1 k hlt
        clear h1
        by_cases d1 : f k < -127
        · go_wp2
          go_ret
          exact ⟨rfl, HF⟩
        · go_wp2
          go_round
          case rel => exact ⟨k + 1, by omega, by go_num, fun j hj => by by_cases e : j = k; · rw [e]; omega
                                                                        · exact hall.out j (by omega)⟩
          case measure => simp [intOf]; omega
      · exfalso
        obtain ⟨i, hi, hlow⟩ := HS.out
        have := hall.out i (by omega)
        omega
theorem RdA.cut {w : World} {b off n cap : Nat} {cs : Nat → Value} (h : RdA w (some ⟨b, off, none⟩) 1 n cap cs) {lo m : Nat} (hh : lo + m ≤ n) : RdA w (some ⟨b, off + lo, none⟩) 1 m (cap - lo) (fun j => cs (lo + j)) := by
  refine ⟨by have := h.le; omega, by have := h.top; omega, fun hm => ⟨b, off + lo, rfl, fun j hj => ?_⟩⟩
  obtain ⟨b', o', e, hc⟩ := h.at_ (by omega)
  simp only [Option.some.injEq, Addr.mk.injEq, and_true] at e
  obtain ⟨rfl, rfl⟩ := e
  rw [Nat.add_assoc]
  exact hc _ (by omega)
end Go.Proofs.Ytjjnfpeeipainaa
