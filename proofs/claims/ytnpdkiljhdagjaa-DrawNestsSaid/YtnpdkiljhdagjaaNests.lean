import Derived.Test.YtnpdkiljhdagjaaProd
import Derived.Test.YtnpdkiljhdagjaaProdRef
import Derived.Test.YtnpdkiljhdagjaaLater
namespace Go.Proofs.Ytnpdkiljhdagjaa
open Go.RowKit
/-! The law DrawNests: its walk. -/
theorem below_ten (w : World) : Calls Try.prog 5 #[.int .u64 18446744073709551615, .int .u64 10] w fun e w' => e = .returned (.int .u64 9) ∧ Fresh w w' :=
  below_any 18446744073709551615 10 w (by decide) (by decide)
theorem below_three (w : World) : Calls Try.prog 5 #[.int .u64 9223372036854775808, .int .u64 3] w fun e w' => e = .returned (.int .u64 1) ∧ Fresh w w' :=
  below_any 9223372036854775808 3 w (by decide) (by decide)
set_option maxHeartbeats 1000000 in
theorem nests_zero (u n : Nat) (w : World) (hu : u < 18446744073709551616) (hn : n < 18446744073709551616) :
    Calls Try.prog 3 #[.int .u64 (u : Int), .int .u64 (n : Int), .int .u64 0] w fun e w' => e = .returned (.bool true) ∧ Fresh w w' := by
  go_enter Try.func3, Try.ntmps3
  go_wp2_with fail
  refine (below_ten _).mono ?_; rintro e w1 ⟨rfl, f1⟩
  go_wp2_with fail
  refine (below_three _).mono ?_; rintro e w2 ⟨rfl, f2⟩
  rcases Nat.eq_zero_or_pos n with rfl | hp
  · have E := hidd (below_zero (u := u))
    go_wp2_with fail
    refine (below_any u 0 _ hu hn).mono ?_; rintro e w3 ⟨rfl, f3⟩
    rw [E.out]
    go_wp2_with fail
    refine (below_any u 0 _ hu hn).mono ?_; rintro e w4 ⟨rfl, f4⟩
    rw [E.out]
    go_wp2
    go_ret
    exact ⟨rfl, ((f1.trans f2).trans f3).trans f4⟩
  · have hb := below_lt (u := u) hu hp
    go_wp2_with fail
    refine (below_any u n _ hu hn).mono ?_; rintro e w3 ⟨rfl, f3⟩
    go_wp2
    go_ret
    exact ⟨rfl, (f1.trans f2).trans f3⟩
set_option maxHeartbeats 1000000 in
theorem nests_high (u n m : Nat) (w : World) (hu : u < 18446744073709551616) (hn : n < 18446744073709551616) (hm : m < 18446744073709551616) (m0 : 0 < m) (c : 0 < below n m) :
    Calls Try.prog 3 #[.int .u64 (u : Int), .int .u64 (n : Int), .int .u64 (m : Int)] w fun e w' => e = .returned (.bool true) ∧ Fresh w w' := by
  have hp : 0 < n := by
    rcases Nat.eq_zero_or_pos n with h | h
    · subst h; rw [zero_below] at c; omega
    · exact h
  have hb := below_lt (u := u) hu hp
  go_enter Try.func3, Try.ntmps3
  go_wp2_with fail
  refine (below_ten _).mono ?_; rintro e w1 ⟨rfl, f1⟩
  go_wp2_with fail
  refine (below_three _).mono ?_; rintro e w2 ⟨rfl, f2⟩
  go_wp2_with fail
  refine (product_ref n m _ hn hm).mono ?_; rintro e w3 ⟨rfl, rfl⟩
  go_wp2_with fail
  refine (below_any u n _ hu hn).mono ?_; rintro e w3 ⟨rfl, f3⟩
  go_wp2
  go_ret
  exact ⟨rfl, (f1.trans f2).trans f3⟩
theorem nest_eq {b m c : Nat} (hb : b < 18446744073709551616) (h : b / m = c) : (IntKind.u64.wrap ((b : Int) / (m : Int)) == (c : Int)) = true := by
  have e : (b : Int) / (m : Int) = ((b / m : Nat) : Int) := rfl
  have l : b / m ≤ b := Nat.div_le_self _ _
  rw [e, nwrap _ (by omega), h]
  simp
theorem below_is_zero {n m : Nat} (c : below n m = 0) : n * m < 18446744073709551616 := by unfold below at c; omega
set_option maxHeartbeats 1000000 in
theorem nests_low (u n m : Nat) (w : World) (hu : u < 18446744073709551616) (hn : n < 18446744073709551616) (hm : m < 18446744073709551616) (m0 : 0 < m) (c : below n m = 0) :
    Calls Try.prog 3 #[.int .u64 (u : Int), .int .u64 (n : Int), .int .u64 (m : Int)] w fun e w' => e = .returned (.bool true) ∧ Fresh w w' := by
  have hl := below_is_zero c
  have hr := product_ref n m
  rw [c, Nat.mod_eq_of_lt hl] at hr
  have HR := hidd hr
  have E := hidd (below_nest (u := u) (n := n) m0)
  have hb := below_lt64 (u := u) hu hl
  clear hr c
  obtain ⟨p, hp⟩ : ∃ p, p = n * m := ⟨_, rfl⟩
  rw [← hp] at hl HR E hb
  clear hp
  go_enter Try.func3, Try.ntmps3
  go_wp2_with fail
  refine (below_ten _).mono ?_; rintro e w1 ⟨rfl, f1⟩
  go_wp2_with fail
  refine (below_three _).mono ?_; rintro e w2 ⟨rfl, f2⟩
  go_wp2_with fail
  refine (HR.out _ hn hm).mono ?_; rintro e w3 ⟨rfl, rfl⟩
  go_wp2_with fail
  have ne := later_some w3
  refine wp_region_later (by kernel_rfl) (by kernel_rfl) ?_
  repeat (go_big_quiet_step (first | exact later_of (below_any u p _ hu hl) | exact later_of (below_any u n _ hu hn)))
  refine wpQuiet_nil ?_
  rintro _ ⟨x, rfl⟩
  go_wp2
  go_ret
  exact ⟨ret_bool (nest_eq hb E.out), (f1.trans f2).trans x.fresh⟩
theorem nests_walk (u n m : Nat) (w : World) (hu : u < 18446744073709551616) (hn : n < 18446744073709551616) (hm : m < 18446744073709551616) :
    Calls Try.prog 3 #[.int .u64 (u : Int), .int .u64 (n : Int), .int .u64 (m : Int)] w fun e w' => e = .returned (.bool true) ∧ Fresh w w' := by
  rcases Nat.eq_zero_or_pos m with rfl | hp
  · exact nests_zero u n w hu hn
  · rcases Nat.eq_zero_or_pos (below n m) with h | h
    · exact nests_low u n m w hu hn hm hp h
    · exact nests_high u n m w hu hn hm hp h
end Go.Proofs.Ytnpdkiljhdagjaa
