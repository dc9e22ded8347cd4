import Derived.Test.YtmhjpfjhppcfoaaGreatDoorMA
namespace Go.Proofs.YtmhjpfjhppcfoaaGreatDoor
open Go.RowKit
/-! Matrices: hasShape, Check, MatVec, Dot. -/
def shp (R C : Int) (n : Nat) : Bool := decide (1 ≤ R) && (decide (1 ≤ C) && (((n : Int) % C == 0) && ((n : Int) / C == R)))
set_option maxHeartbeats 1000000 in
theorem hasShape_any (R C : Int) (ao : Option Addr) (n cap : Nat) (w : World) (hn : n ≤ 9223372036854775807) :
    Calls Tryz.prog 345 #[.agg #[.int .i64 R, .int .i64 C, .slice ao n cap]] w fun e w' => e = .returned (.bool (shp R C n)) ∧ Below w.heap.size w w' := by
  by_cases r : R < 1
  · have e : shp R C n = false := by unfold shp; simp; omega
    rw [e]
    go_enter Tryz.func345, Tryz.ntmps345
    go_wp2
    go_ret
    exact ⟨rfl, fresh_alloc _ _⟩
  · by_cases c : C < 1
    · have e : shp R C n = false := by unfold shp; simp; omega
      rw [e]
      go_enter Tryz.func345, Tryz.ntmps345
      go_wp2
      go_ret
      exact ⟨rfl, fresh_alloc _ _⟩
    · obtain ⟨c', rfl⟩ := Int.eq_ofNat_of_zero_le (show 0 ≤ C by omega)
      have hz : ¬ (c' : Int) = 0 := by omega
      have e1 : (n : Int).tmod (c' : Int) = (n : Int) % (c' : Int) := rfl
      have e2 : (n : Int).tdiv (c' : Int) = (n : Int) / (c' : Int) := rfl
      have hq := Int.ediv_nonneg (show 0 ≤ (n : Int) by omega) (show 0 ≤ (c' : Int) by omega)
      have hq2 := Int.ediv_le_self (c' : Int) (show 0 ≤ (n : Int) by omega)
      cases hm : ((n : Int) % (c' : Int) == 0) with
      | false =>
        have e : shp R c' n = false := by unfold shp; rw [hm]; simp
        rw [e]
        go_enter Tryz.func345, Tryz.ntmps345
        go_wp2
        go_quiet (fail)
        go_wp2
        go_ret
        exact ⟨rfl, below_drewN (fresh_alloc _ _) _⟩
      | true =>
        have e : shp R c' n = ((n : Int) / c' == R) := by unfold shp; rw [hm, decide_eq_true (by omega), decide_eq_true (by omega)]; simp
        rw [e]
        clear e
        go_enter Tryz.func345, Tryz.ntmps345
        go_wp2
        go_quiet (fail)
        go_wp2
        go_ret
        exact ⟨rfl, below_drewN (fresh_alloc _ _) _⟩
set_option maxHeartbeats 1000000 in
theorem check_ok {w : World} {R C : Int} {ao : Option Addr} {n cap : Nat} {f : Nat → Int} (ha : RdA w ao 1 n cap (fun i => .int .i8 (f i))) (hs : shp R C n = true) (hf : ∀ i, i < n → -127 ≤ f i) :
    Calls Tryz.prog 294 #[.agg #[.int .i64 R, .int .i64 C, .slice ao n cap]] w fun e w' => e = .returned (.int .i64 0) ∧ Below w.heap.size w w' := by
  have hn : n ≤ 9223372036854775807 := by have := ha.le; have := ha.top; unfold maxLen at this; omega
  go_enter Tryz.func294, Tryz.ntmps294
  go_wp2_with fail
  refine (hasShape_any R C ao n cap _ hn).mono ?_
  rintro e w' ⟨rfl, hb⟩
  have HF := fresh_trans (fresh_alloc w _) hb
  have c0 : (w.alloc (.cells #[.int .i64 R, .int .i64 C, .slice ao n cap] 26)).cell? ⟨w.heap.size, 2, none⟩ = some (.slice ao n cap) := by simp
  have c1 := fresh_cell hb c0
  clear c0 hb
  rw [hs]
  go_wp2
  go_loop [11] (fun i => ∃ k : Nat, k ≤ n ∧ i = .int .i64 k) (fun i => n - (intOf i).toNat)
  case atStart => exact ⟨0, by omega, rfl⟩
  case round =>
    obtain ⟨k, hk, rfl⟩ := hrel
    by_cases hlt : k < n
    · obtain ⟨b1, o1, rfl, h1⟩ := (ha.fresh HF).one (by omega)
      have c1 := h1 k hlt
      have d1 : ¬ f k < -127 := by have := hf k hlt; omega
      clear h1
      go_wp2
      go_round
      case rel => exact ⟨k + 1, by omega, by go_num⟩
      case measure => simp [intOf]; omega
    · go_wp2
      go_ret
      exact ⟨rfl, HF⟩
set_option maxHeartbeats 1000000 in
theorem check_bad {w : World} {R C : Int} {ao : Option Addr} {n cap : Nat} {f : Nat → Int} (ha : RdA w ao 1 n cap (fun i => .int .i8 (f i))) (hs : shp R C n = false ∨ ∃ i, i < n ∧ f i < -127) :
    Calls Tryz.prog 294 #[.agg #[.int .i64 R, .int .i64 C, .slice ao n cap]] w fun e w' => e = .returned (.int .i64 30) ∧ Below w.heap.size w w' := by
  have hn : n ≤ 9223372036854775807 := by have := ha.le; have := ha.top; unfold maxLen at this; omega
  go_enter Tryz.func294, Tryz.ntmps294
  go_wp2_with fail
  refine (hasShape_any R C ao n cap _ hn).mono ?_
  rintro e w' ⟨rfl, hb⟩
  have HF := fresh_trans (fresh_alloc w _) hb
  have c0 : (w.alloc (.cells #[.int .i64 R, .int .i64 C, .slice ao n cap] 26)).cell? ⟨w.heap.size, 2, none⟩ = some (.slice ao n cap) := by simp
  have c1 := fresh_cell hb c0
  clear c0 hb
  cases hsb : shp R C n with
  | false =>
    go_wp2
    go_ret
    exact ⟨rfl, HF⟩
  | true =>
    have hs2 : ∃ i, i < n ∧ f i < -127 := by rcases hs with h | h; · rw [hsb] at h; cases h
                                             · exact h
    clear hs hsb
    have HS := hidd hs2
    clear hs2
    go_wp2
    go_loop [11] (fun i => ∃ k : Nat, k ≤ n ∧ i = .int .i64 k ∧ Hid (∀ j, j < k → -127 ≤ f j)) (fun i => n - (intOf i).toNat)
    case atStart => exact ⟨0, by omega, rfl, fun j hj => by omega⟩
    case round =>
      obtain ⟨k, hk, rfl, hall⟩ := hrel
      by_cases hlt : k < n
      · obtain ⟨b1, o1, rfl, h1⟩ := (ha.fresh HF).one (by omega)
        have c1 := h1 k hlt
        clear h1
        by_cases d1 : f k < -127
        · go_wp2
          go_ret
          exact ⟨rfl, HF⟩
        · go_wp2
          go_round
          case rel => exact ⟨k + 1, by omega, by go_num, fun j hj => by by_cases e : j = k; · rw [e]; omega
                                                                        · exact hall.out j (by omega)⟩
          case measure => simp [intOf]; omega
      · exfalso
        obtain ⟨i, hi, hlow⟩ := HS.out
        have := hall.out i (by omega)
        omega
theorem RdA.cut {w : World} {b off n cap : Nat} {cs : Nat → Value} (h : RdA w (some ⟨b, off, none⟩) 1 n cap cs) {lo m : Nat} (hh : lo + m ≤ n) : RdA w (some ⟨b, off + lo, none⟩) 1 m (cap - lo) (fun j => cs (lo + j)) := by
  refine ⟨by have := h.le; omega, by have := h.top; omega, fun hm => ⟨b, off + lo, rfl, fun j hj => ?_⟩⟩
  obtain ⟨b', o', e, hc⟩ := h.at_ (by omega)
  simp only [Option.some.injEq, Addr.mk.injEq, and_true] at e
  obtain ⟨rfl, rfl⟩ := e
  rw [Nat.add_assoc]
  exact hc _ (by omega)
end Go.Proofs.YtmhjpfjhppcfoaaGreatDoor
namespace Go.Proofs.YtmhjpfjhppcfoaaGreatDoor
open Go.RowKit
/-! The reference's Check. -/
set_option maxHeartbeats 4000000 in
theorem check_rshape {w : World} {R C : Int} {ao : Option Addr} {n cap : Nat} (hn : n ≤ 9223372036854775807) (hs : shp R C n = false) :
    Calls Tryz.prog 177 #[.agg #[.int .i64 R, .int .i64 C, .slice ao n cap]] w fun e w' => e = .returned (.int .i64 30) ∧ Below w.heap.size w w' := by
  by_cases r : R < 1
  · have d1 : decide (R < 1) = true := by simp; omega
    clear hs
    go_enter Tryz.func177, Tryz.ntmps177
    go_wp2
    go_quiet (fail)
    go_wp2
    go_ret
    exact ⟨rfl, below_drewN (fresh_alloc _ _) _⟩
  · have d1 : decide (R < 1) = false := by simp; omega
    by_cases c : C < 1
    · have d2 : decide (C < 1) = true := by simp; omega
      clear hs
      go_enter Tryz.func177, Tryz.ntmps177
      go_wp2
      go_quiet (fail)
      go_wp2
      go_ret
      exact ⟨rfl, below_drewN (fresh_alloc _ _) _⟩
    · obtain ⟨c', rfl⟩ := Int.eq_ofNat_of_zero_le (show 0 ≤ C by omega)
      have d2 : decide ((c' : Int) < 1) = false := by simp; omega
      have hz : ¬ (c' : Int) = 0 := by omega
      have e1 : (n : Int).tmod (c' : Int) = (n : Int) % (c' : Int) := rfl
      have e2 : (n : Int).tdiv (c' : Int) = (n : Int) / (c' : Int) := rfl
      have hq := Int.ediv_nonneg (show 0 ≤ (n : Int) by omega) (show 0 ≤ (c' : Int) by omega)
      have hq2 := Int.ediv_le_self (c' : Int) (show 0 ≤ (n : Int) by omega)
      cases hm : ((n : Int) % (c' : Int) == 0) with
      | false =>
        have hm' : ((n : Int) % (c' : Int) != 0) = true := by rw [bne, hm]; rfl
        clear hm hs
        go_enter Tryz.func177, Tryz.ntmps177
        go_wp2
        go_quiet (fail)
        go_wp2
        go_ret
        exact ⟨rfl, below_drewN (fresh_alloc _ _) _⟩
      | true =>
        have hm' : ((n : Int) % (c' : Int) != 0) = false := by rw [bne, hm]; rfl
        have e : shp R c' n = ((n : Int) / c' == R) := by unfold shp; rw [hm, decide_eq_true (by omega), decide_eq_true (by omega)]; simp
        rw [e] at hs
        have hr' : ((n : Int) / (c' : Int) != R) = true := by rw [bne, hs]; rfl
        clear e hm hs
        go_enter Tryz.func177, Tryz.ntmps177
        go_wp2
        go_quiet (fail)
        go_wp2
        go_ret
        exact ⟨rfl, below_drewN (fresh_alloc _ _) _⟩
end Go.Proofs.YtmhjpfjhppcfoaaGreatDoor
namespace Go.Proofs.YtmhjpfjhppcfoaaGreatDoor
open Go.RowKit
/-! The reference's Check: a matrix of its shape. -/
theorem shp_parts {R C : Int} {n : Nat} (h : shp R C n = true) : 1 ≤ R ∧ 1 ≤ C ∧ ((n : Int) % C == 0) = true ∧ ((n : Int) / C == R) = true := by
  unfold shp at h
  simp only [Bool.and_eq_true, decide_eq_true_eq] at h
  exact ⟨h.1, h.2.1, h.2.2.1, h.2.2.2⟩
set_option maxHeartbeats 4000000 in
theorem check_rdata {w : World} {R C : Int} {ao : Option Addr} {n cap : Nat} {f : Nat → Int} (ha : RdA w ao 1 n cap (fun i => .int .i8 (f i))) (hs : shp R C n = true) (bf : ∀ i, i < n → -128 ≤ f i ∧ f i ≤ 127) (b : Bool) (hb : b = true ↔ ∀ i, i < n → -127 ≤ f i) :
    Calls Tryz.prog 177 #[.agg #[.int .i64 R, .int .i64 C, .slice ao n cap]] w fun e w' => e = .returned (.int .i64 (if b then 0 else 30)) ∧ Below w.heap.size w w' := by
  have hn : n ≤ 9223372036854775807 := by have := ha.le; have := ha.top; unfold maxLen at this; omega
  obtain ⟨r, c, hm, hr⟩ := shp_parts hs
  have HB := hidd hb
  have BF := hidd bf
  have d1 : decide (R < 1) = false := by simp; omega
  obtain ⟨c', rfl⟩ := Int.eq_ofNat_of_zero_le (show 0 ≤ C by omega)
  have d2 : decide ((c' : Int) < 1) = false := by simp; omega
  have hz : ¬ (c' : Int) = 0 := by omega
  have e1 : (n : Int).tmod (c' : Int) = (n : Int) % (c' : Int) := rfl
  have e2 : (n : Int).tdiv (c' : Int) = (n : Int) / (c' : Int) := rfl
  have hq := Int.ediv_nonneg (show 0 ≤ (n : Int) by omega) (show 0 ≤ (c' : Int) by omega)
  have hq2 := Int.ediv_le_self (c' : Int) (show 0 ≤ (n : Int) by omega)
  have hm' : ((n : Int) % (c' : Int) != 0) = false := by rw [bne, hm]; rfl
  have hr' : ((n : Int) / (c' : Int) != R) = false := by rw [bne, hr]; rfl
  have c0 : (w.alloc (.cells #[.int .i64 R, .int .i64 (c' : Int), .slice ao n cap] 26)).cell? ⟨w.heap.size, 2, none⟩ = some (.slice ao n cap) := by simp
  have C0 := hidd c0
  have hfa := fresh_alloc w (.cells #[.int .i64 R, .int .i64 (c' : Int), .slice ao n cap] 26)
  clear hs bf hb hm hr c0
  go_enter Tryz.func177, Tryz.ntmps177
  go_wp2
  go_quiet (fail)
  go_wp2
  clear d1 d2 hz e1 e2 hq hq2 hm' hr' r c
  generalize w.alloc (.cells #[.int .i64 R, .int .i64 (c' : Int), .slice ao n cap] 26) = w0 at *
  go_loopw [3] (fun i wr => ∃ k : Nat, k ≤ n ∧ i = .int .i64 k ∧ Hid (∀ j, j < k → -127 ≤ f j) ∧ Below w0.heap.size w0 wr) (fun i _ => n - (intOf i).toNat)
  case atStart => exact ⟨0, by omega, rfl, fun j hj => absurd hj (by omega), below_drewN (Below.refl _ _) _⟩
  case round =>
    obtain ⟨k, hk, rfl, HK, hf1⟩ := hrel
    have z0 := fresh_cell hf1 C0.out
    by_cases hlt : k < n
    · obtain ⟨b1, o1, rfl, h1⟩ := ((ha.fresh hfa).fresh hf1).one (by omega)
      have c1 := h1 k hlt
      have bk := BF.out k hlt
      clear h1
      by_cases hv : f k = -128
      · have hbf : b = false := by
          cases hbb : b with
          | false => rfl
          | true => have := HB.out.1 hbb k hlt; omega
        rw [hv] at c1
        clear hv bk
        go_wp2
        all_goals go_ret
        all_goals exact ⟨ret_int (by first | rfl | (rw [hbf]; rfl) | simp), fresh_trans hfa hf1⟩
      · have HK' : Hid (∀ j, j < k + 1 → -127 ≤ f j) := fun j hj => by
          by_cases e : j = k
          · rw [e]; omega
          · exact HK.out j (by omega)
        have hd : (f k == -128) = false := by simp; omega
        clear HK hv
        go_wp2
        go_roundw
        case rel => exact ⟨k + 1, by omega, by go_num, HK', hf1⟩
        case measure => simp [intOf]; omega
    · have hbt : b = true := HB.out.2 (fun i hi => HK.out i (by omega))
      go_wp2
      go_ret
      exact ⟨ret_int (by first | rfl | (rw [hbt]; rfl) | simp), fresh_trans hfa hf1⟩
end Go.Proofs.YtmhjpfjhppcfoaaGreatDoor
