import Derived.Test.YtnpdkiljhdagjaaDoorMix
import Derived.Test.YtnpdkiljhdagjaaDoorMixRef
namespace Go.Proofs.YtnpdkiljhdagjaaDoor
open Go.RowKit
/-! The law DrawMixes: its walk. -/
set_option maxHeartbeats 1000000 in
theorem mixes_walk (x : Nat) (w : World) (hw : Holds w) (hx : x < 18446744073709551616) :
    Calls Tryd.prog 3 #[.int .u64 (x : Int)] w fun e w' => e = .returned (.bool true) ∧ Fresh w w' := by
  go_enter Tryd.func3, Tryd.ntmps3
  go_wp2_with fail
  refine (mix_any x _ hw hx).mono ?_; rintro e w' ⟨rfl, hf⟩
  go_wp2_with fail
  refine (mix_ref x _ hx).mono ?_; rintro e w' ⟨rfl, rfl⟩
  go_wp2
  go_ret
  exact ⟨rfl, hf⟩
end Go.Proofs.YtnpdkiljhdagjaaDoor
