import Derived.Test.YtnpdkiljhdagjabProd
import Derived.Test.YtnpdkiljhdagjabLeast
namespace Go.Proofs.Ytnpdkiljhdagjab
open Go.RowKit
/-! The law DrawEven: its walk. -/
theorem below_max (n : Nat) (w : World) (hn : n < 18446744073709551616) (h0 : 0 < n) :
    Calls Try.prog 4 #[.int .u64 18446744073709551615, .int .u64 (n : Int)] w fun e w' => e = .returned (.int .u64 ((n - 1 : Nat) : Int)) ∧ Fresh w w' := by
  have h := below_any 18446744073709551615 n w (by decide) hn
  rw [below_top hn h0] at h
  exact h
set_option maxHeartbeats 1000000 in
theorem even_zero (k u m : Nat) (w : World) (hu : u < 18446744073709551616) :
    Calls Try.prog 3 #[.agg #[.int .u64 (k : Int), .int .u64 0, .int .u64 (u : Int), .int .u64 (m : Int)]] w fun e w' => e = .returned (.bool true) ∧ Fresh w w' := by
  have E := hidd (below_zero (u := u))
  have f0 := (Fresh.refl w).alloc #[.int .u64 (k : Int), .int .u64 0, .int .u64 (u : Int), .int .u64 (m : Int)] 24
  go_enter Try.func3, Try.ntmps3
  go_wp2_with fail
  refine (below_any u 0 _ hu (by decide)).mono ?_; rintro e w1 ⟨rfl, f1⟩
  rw [E.out]
  go_wp2
  go_ret
  exact ⟨rfl, f0.trans f1⟩
set_option maxHeartbeats 1000000 in
theorem even_1 (k n u m : Nat) (w : World) (hn : n < 18446744073709551616) (hu : u < 18446744073709551616) (hm : m < 18446744073709551616) (n0 : 0 < n) (t0 : 0 < k % n) (hs : m < n) :
    Calls Try.prog 3 #[.agg #[.int .u64 (k : Int), .int .u64 (n : Int), .int .u64 (u : Int), .int .u64 (m : Int)]] w fun e w' => e = .returned (.bool true) ∧ Fresh w w' := by
  have f0 := (Fresh.refl w).alloc #[.int .u64 (k : Int), .int .u64 (n : Int), .int .u64 (u : Int), .int .u64 (m : Int)] 24
  have ht : k % n < n := Nat.mod_lt _ n0
  have e1 : (k : Int).tmod (n : Int) = ((k % n : Nat) : Int) := rfl
  have hle : below u m ≤ below u n := below_le (Nat.le_refl u) (Nat.le_of_lt hs)
  generalize k % n = t at ht e1 t0
  go_enter Try.func3, Try.ntmps3
  go_wp2_with fail
  refine (least_any t n _ hn ht).mono ?_; rintro e w1 ⟨f, rfl, hl, rfl⟩
  obtain ⟨hf, b0, b1, b2⟩ := hl.at hn
  obtain ⟨g0, g1⟩ := b2 t0
  have E0 := hidd b0
  have E1 := hidd g1
  clear b0 b1 b2 g1 hl
  go_wp2_with fail
  refine (below_any f n _ hf hn).mono ?_; rintro e w1 ⟨rfl, f1⟩
  rw [E0.out]
  go_wp2_with fail
  rw [show ((f : Int) - 1) = ((f - 1 : Nat) : Int) by omega]
  refine (below_any (f - 1) n _ (by omega) hn).mono ?_; rintro e w2 ⟨rfl, f2⟩
  rw [E1.out]
  go_wp2_with fail
  refine (below_max n _ hn n0).mono ?_; rintro e w3 ⟨rfl, f3⟩
  go_wp2_with fail
  refine (below_any u m _ hu hm).mono ?_; rintro e w4 ⟨rfl, f4⟩
  go_wp2_with fail
  refine (below_any u n _ hu hn).mono ?_; rintro e w5 ⟨rfl, f5⟩
  have ff := ((((f0.trans f1).trans f2).trans f3).trans f4).trans f5
  clear f0 f1 f2 f3 f4 f5
  generalize below u n = x at hle ⊢
  generalize below u m = y at hle ⊢
  go_wp2
  go_ret
  exact ⟨rfl, ff⟩
set_option maxHeartbeats 1000000 in
theorem even_2 (k n u m : Nat) (w : World) (hn : n < 18446744073709551616) (hu : u < 18446744073709551616) (hm : m < 18446744073709551616) (n0 : 0 < n) (t0 : 0 < k % n) (hs : n ≤ m) :
    Calls Try.prog 3 #[.agg #[.int .u64 (k : Int), .int .u64 (n : Int), .int .u64 (u : Int), .int .u64 (m : Int)]] w fun e w' => e = .returned (.bool true) ∧ Fresh w w' := by
  have f0 := (Fresh.refl w).alloc #[.int .u64 (k : Int), .int .u64 (n : Int), .int .u64 (u : Int), .int .u64 (m : Int)] 24
  have ht : k % n < n := Nat.mod_lt _ n0
  have e1 : (k : Int).tmod (n : Int) = ((k % n : Nat) : Int) := rfl
  have hle : below u n ≤ below u m := below_le (Nat.le_refl u) hs
  generalize k % n = t at ht e1 t0
  go_enter Try.func3, Try.ntmps3
  go_wp2_with fail
  refine (least_any t n _ hn ht).mono ?_; rintro e w1 ⟨f, rfl, hl, rfl⟩
  obtain ⟨hf, b0, b1, b2⟩ := hl.at hn
  obtain ⟨g0, g1⟩ := b2 t0
  have E0 := hidd b0
  have E1 := hidd g1
  clear b0 b1 b2 g1 hl
  go_wp2_with fail
  refine (below_any f n _ hf hn).mono ?_; rintro e w1 ⟨rfl, f1⟩
  rw [E0.out]
  go_wp2_with fail
  rw [show ((f : Int) - 1) = ((f - 1 : Nat) : Int) by omega]
  refine (below_any (f - 1) n _ (by omega) hn).mono ?_; rintro e w2 ⟨rfl, f2⟩
  rw [E1.out]
  go_wp2_with fail
  refine (below_max n _ hn n0).mono ?_; rintro e w3 ⟨rfl, f3⟩
  go_wp2_with fail
  refine (below_any u n _ hu hn).mono ?_; rintro e w4 ⟨rfl, f4⟩
  go_wp2_with fail
  refine (below_any u m _ hu hm).mono ?_; rintro e w5 ⟨rfl, f5⟩
  have ff := ((((f0.trans f1).trans f2).trans f3).trans f4).trans f5
  clear f0 f1 f2 f3 f4 f5
  generalize below u n = x at hle ⊢
  generalize below u m = y at hle ⊢
  go_wp2
  go_ret
  exact ⟨rfl, ff⟩
set_option maxHeartbeats 1000000 in
theorem even_3 (k n u m : Nat) (w : World) (hn : n < 18446744073709551616) (hu : u < 18446744073709551616) (hm : m < 18446744073709551616) (n0 : 0 < n) (t0 : k % n = 0) (hs : m < n) :
    Calls Try.prog 3 #[.agg #[.int .u64 (k : Int), .int .u64 (n : Int), .int .u64 (u : Int), .int .u64 (m : Int)]] w fun e w' => e = .returned (.bool true) ∧ Fresh w w' := by
  have f0 := (Fresh.refl w).alloc #[.int .u64 (k : Int), .int .u64 (n : Int), .int .u64 (u : Int), .int .u64 (m : Int)] 24
  have ht : k % n < n := Nat.mod_lt _ n0
  have e1 : (k : Int).tmod (n : Int) = ((k % n : Nat) : Int) := rfl
  have hle : below u m ≤ below u n := below_le (Nat.le_refl u) (Nat.le_of_lt hs)
  rw [t0] at e1 ht
  go_enter Try.func3, Try.ntmps3
  go_wp2_with fail
  refine (least_any 0 n _ hn ht).mono ?_; rintro e w1 ⟨f, rfl, hl, rfl⟩
  obtain ⟨hf, b0, b1, b2⟩ := hl.at hn
  obtain rfl := b1 rfl
  have E0 := hidd b0
  clear b0 b1 b2 hl
  go_wp2_with fail
  refine (below_any 0 n _ hf hn).mono ?_; rintro e w1 ⟨rfl, f1⟩
  rw [E0.out]
  have f2 := Fresh.refl w1
  go_wp2_with fail
  refine (below_max n _ hn n0).mono ?_; rintro e w3 ⟨rfl, f3⟩
  go_wp2_with fail
  refine (below_any u m _ hu hm).mono ?_; rintro e w4 ⟨rfl, f4⟩
  go_wp2_with fail
  refine (below_any u n _ hu hn).mono ?_; rintro e w5 ⟨rfl, f5⟩
  have ff := ((((f0.trans f1).trans f2).trans f3).trans f4).trans f5
  clear f0 f1 f2 f3 f4 f5
  generalize below u n = x at hle ⊢
  generalize below u m = y at hle ⊢
  go_wp2
  go_ret
  exact ⟨rfl, ff⟩
set_option maxHeartbeats 1000000 in
theorem even_4 (k n u m : Nat) (w : World) (hn : n < 18446744073709551616) (hu : u < 18446744073709551616) (hm : m < 18446744073709551616) (n0 : 0 < n) (t0 : k % n = 0) (hs : n ≤ m) :
    Calls Try.prog 3 #[.agg #[.int .u64 (k : Int), .int .u64 (n : Int), .int .u64 (u : Int), .int .u64 (m : Int)]] w fun e w' => e = .returned (.bool true) ∧ Fresh w w' := by
  have f0 := (Fresh.refl w).alloc #[.int .u64 (k : Int), .int .u64 (n : Int), .int .u64 (u : Int), .int .u64 (m : Int)] 24
  have ht : k % n < n := Nat.mod_lt _ n0
  have e1 : (k : Int).tmod (n : Int) = ((k % n : Nat) : Int) := rfl
  have hle : below u n ≤ below u m := below_le (Nat.le_refl u) hs
  rw [t0] at e1 ht
  go_enter Try.func3, Try.ntmps3
  go_wp2_with fail
  refine (least_any 0 n _ hn ht).mono ?_; rintro e w1 ⟨f, rfl, hl, rfl⟩
  obtain ⟨hf, b0, b1, b2⟩ := hl.at hn
  obtain rfl := b1 rfl
  have E0 := hidd b0
  clear b0 b1 b2 hl
  go_wp2_with fail
  refine (below_any 0 n _ hf hn).mono ?_; rintro e w1 ⟨rfl, f1⟩
  rw [E0.out]
  have f2 := Fresh.refl w1
  go_wp2_with fail
  refine (below_max n _ hn n0).mono ?_; rintro e w3 ⟨rfl, f3⟩
  go_wp2_with fail
  refine (below_any u n _ hu hn).mono ?_; rintro e w4 ⟨rfl, f4⟩
  go_wp2_with fail
  refine (below_any u m _ hu hm).mono ?_; rintro e w5 ⟨rfl, f5⟩
  have ff := ((((f0.trans f1).trans f2).trans f3).trans f4).trans f5
  clear f0 f1 f2 f3 f4 f5
  generalize below u n = x at hle ⊢
  generalize below u m = y at hle ⊢
  go_wp2
  go_ret
  exact ⟨rfl, ff⟩
theorem even_walk (k n u m : Nat) (w : World) (_hk : k < 18446744073709551616) (hn : n < 18446744073709551616) (hu : u < 18446744073709551616) (hm : m < 18446744073709551616) :
    Calls Try.prog 3 #[.agg #[.int .u64 (k : Int), .int .u64 (n : Int), .int .u64 (u : Int), .int .u64 (m : Int)]] w fun e w' => e = .returned (.bool true) ∧ Fresh w w' := by
  rcases Nat.eq_zero_or_pos n with rfl | n0
  · exact even_zero k u m w hu
  · rcases Nat.eq_zero_or_pos (k % n) with t0 | t0 <;> rcases Nat.lt_or_ge m n with hs | hs
    · exact even_3 k n u m w hn hu hm n0 t0 hs
    · exact even_4 k n u m w hn hu hm n0 t0 hs
    · exact even_1 k n u m w hn hu hm n0 t0 hs
    · exact even_2 k n u m w hn hu hm n0 t0 hs
end Go.Proofs.Ytnpdkiljhdagjab
