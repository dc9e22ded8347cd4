import Derived.Test.YtnpdkiljhdagjaaProd
import Derived.Test.YtnpdkiljhdagjaaProdRef
namespace Go.Proofs.Ytnpdkiljhdagjaa
open Go.RowKit
/-! The law DrawBelows: its walk. -/
set_option maxHeartbeats 1000000 in
theorem belows_walk (x y : Nat) (w : World) (hx : x < 18446744073709551616) (hy : y < 18446744073709551616) :
    Calls Try.prog 4 #[.int .u64 (x : Int), .int .u64 (y : Int)] w fun e w' => e = .returned (.bool true) ∧ Fresh w w' := by
  go_enter Try.func4, Try.ntmps4
  go_wp2_with fail
  refine (below_any x y _ hx hy).mono ?_; rintro e w' ⟨rfl, hf⟩
  go_wp2_with fail
  refine (below_ref x y _ hx hy).mono ?_; rintro e w' ⟨rfl, rfl⟩
  go_wp2
  go_ret
  exact ⟨rfl, hf⟩
end Go.Proofs.Ytnpdkiljhdagjaa
