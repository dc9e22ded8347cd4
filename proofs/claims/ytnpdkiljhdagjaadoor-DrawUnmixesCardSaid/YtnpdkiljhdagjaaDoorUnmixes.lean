import Derived.Test.YtnpdkiljhdagjaaDoorMix
import Derived.Test.YtnpdkiljhdagjaaDoorUnmix
namespace Go.Proofs.YtnpdkiljhdagjaaDoor
open Go.RowKit
/-! The law DrawUnmixes: its walk. -/
set_option maxHeartbeats 1000000 in
theorem unmixes_walk (x : Nat) (w : World) (hw : Holds w) (hx : x < 18446744073709551616) :
    Calls Tryd.prog 4 #[.int .u64 (x : Int)] w fun e w' => e = .returned (.bool true) ∧ Fresh w w' := by
  have E1 := hidd (unmix_mix hx)
  have E2 := hidd (mix_unmix hx)
  go_enter Tryd.func4, Tryd.ntmps4
  go_wp2_with fail
  refine (unmix_any x _ hx).mono ?_; rintro e w' ⟨rfl, rfl⟩
  go_wp2_with fail
  refine (mix_any x _ hw hx).mono ?_; rintro e w1 ⟨rfl, f1⟩
  go_wp2_with fail
  refine (unmix_any _ _ mix_lt).mono ?_; rintro e w' ⟨rfl, rfl⟩
  rw [E1.out]
  go_wp2_with fail
  refine (mix_any _ _ (hw.later f1) unmix_lt).mono ?_; rintro e w2 ⟨rfl, f2⟩
  rw [E2.out]
  go_wp2
  go_ret
  exact ⟨rfl, f1.trans f2⟩
end Go.Proofs.YtnpdkiljhdagjaaDoor
