import Derived.Test.YtnpdkiljhdagjabDoorAt
import Derived.Test.YtnpdkiljhdagjabDoorProd
namespace Go.Proofs.YtnpdkiljhdagjabDoor
open Go.RowKit
/-! The law DrawKnown: its walk. -/
theorem mix_lit (x y : Nat) (h : mix x = y) (hx : x < 18446744073709551616) (w : World) (hw : Holds w) :
    Calls Tryd.prog 4 #[.int .u64 (x : Int)] w fun e w' => e = .returned (.int .u64 (y : Int)) ∧ Fresh w w' := h ▸ mix_any x w hw hx
theorem mix_k0 (w : World) (hw : Holds w) : Calls Tryd.prog 4 #[.int .u64 0] w fun e w' => e = .returned (.int .u64 0) ∧ Fresh w w' :=
  mix_lit 0 0 (by decide +kernel) (by decide) w hw
theorem mix_k1 (w : World) (hw : Holds w) : Calls Tryd.prog 4 #[.int .u64 11400714819323198485] w fun e w' => e = .returned (.int .u64 16294208416658607535) ∧ Fresh w w' :=
  mix_lit 11400714819323198485 16294208416658607535 (by decide +kernel) (by decide) w hw
theorem mix_k2 (w : World) (hw : Holds w) : Calls Tryd.prog 4 #[.int .u64 4354685564936845354] w fun e w' => e = .returned (.int .u64 7960286522194355700) ∧ Fresh w w' :=
  mix_lit 4354685564936845354 7960286522194355700 (by decide +kernel) (by decide) w hw
theorem mix_k3 (w : World) (hw : Holds w) : Calls Tryd.prog 4 #[.int .u64 15755400384260043839] w fun e w' => e = .returned (.int .u64 487617019471545679) ∧ Fresh w w' :=
  mix_lit 15755400384260043839 487617019471545679 (by decide +kernel) (by decide) w hw
theorem mix_k4 (w : World) (hw : Holds w) : Calls Tryd.prog 4 #[.int .u64 16294208416658607535] w fun e w' => e = .returned (.int .u64 5197578548964807871) ∧ Fresh w w' :=
  mix_lit 16294208416658607535 5197578548964807871 (by decide +kernel) (by decide) w hw
theorem mix_k5 (w : World) (hw : Holds w) : Calls Tryd.prog 4 #[.int .u64 5197578548964807871] w fun e w' => e = .returned (.int .u64 3746585686858627171) ∧ Fresh w w' :=
  mix_lit 5197578548964807871 3746585686858627171 (by decide +kernel) (by decide) w hw
theorem at_k0 (w : World) (hw : Holds w) : Calls Tryd.prog 5 #[.int .u64 0, .int .i64 0, .int .i64 0] w fun e w' => e = .returned (.int .u64 3746585686858627171) ∧ Fresh w w' := by
  have h := at_any 0 0 0 w hw
  rw [show atN 0 (num 0) (num 0) = 3746585686858627171 by decide +kernel] at h
  exact h
theorem below_k0 (w : World) : Calls Tryd.prog 6 #[.int .u64 18446744073709551615, .int .u64 10] w fun e w' => e = .returned (.int .u64 9) ∧ Fresh w w' :=
  below_any 18446744073709551615 10 w (by decide) (by decide)
theorem below_k1 (w : World) : Calls Tryd.prog 6 #[.int .u64 9223372036854775808, .int .u64 3] w fun e w' => e = .returned (.int .u64 1) ∧ Fresh w w' :=
  below_any 9223372036854775808 3 w (by decide) (by decide)
theorem below_k2 (w : World) : Calls Tryd.prog 6 #[.int .u64 12345, .int .u64 1] w fun e w' => e = .returned (.int .u64 0) ∧ Fresh w w' :=
  below_any 12345 1 w (by decide) (by decide)
set_option maxHeartbeats 1000000 in
theorem known_walk (w : World) (hw : Holds w) :
    Calls Tryd.prog 3 #[] w fun e w' => e = .returned (.bool true) ∧ Fresh w w' := by
  go_enter Tryd.func3, Tryd.ntmps3
  go_wp2_with fail
  refine (mix_k0 _ hw).mono ?_; rintro e w0 ⟨rfl, f0⟩
  go_wp2_with fail
  refine (mix_k1 _ (Holds.later hw f0)).mono ?_; rintro e w1 ⟨rfl, f1⟩
  go_wp2_with fail
  refine (mix_k2 _ (Holds.later (Holds.later hw f0) f1)).mono ?_; rintro e w2 ⟨rfl, f2⟩
  go_wp2_with fail
  refine (mix_k3 _ (Holds.later (Holds.later (Holds.later hw f0) f1) f2)).mono ?_; rintro e w3 ⟨rfl, f3⟩
  go_wp2_with fail
  refine (at_k0 _ (Holds.later (Holds.later (Holds.later (Holds.later hw f0) f1) f2) f3)).mono ?_; rintro e w4 ⟨rfl, f4⟩
  go_wp2_with fail
  refine (mix_k4 _ (Holds.later (Holds.later (Holds.later (Holds.later (Holds.later hw f0) f1) f2) f3) f4)).mono ?_; rintro e w5 ⟨rfl, f5⟩
  go_wp2_with fail
  refine (mix_k5 _ (Holds.later (Holds.later (Holds.later (Holds.later (Holds.later (Holds.later hw f0) f1) f2) f3) f4) f5)).mono ?_; rintro e w6 ⟨rfl, f6⟩
  go_wp2_with fail
  refine (below_k0 _).mono ?_; rintro e w7 ⟨rfl, f7⟩
  go_wp2_with fail
  refine (below_k1 _).mono ?_; rintro e w8 ⟨rfl, f8⟩
  go_wp2_with fail
  refine (below_k2 _).mono ?_; rintro e w9 ⟨rfl, f9⟩
  go_wp2
  go_ret
  exact ⟨rfl, (((((((((f0).trans f1).trans f2).trans f3).trans f4).trans f5).trans f6).trans f7).trans f8).trans f9⟩
end Go.Proofs.YtnpdkiljhdagjabDoor
