import Derived.Test.YtnpdkiljhdagjaaDoorNums
namespace Go.Proofs.YtnpdkiljhdagjaaDoor
open Go.RowKit
/-! The document's mixing. -/
set_option maxHeartbeats 1000000 in
theorem mix_ref (x : Nat) (w : World) (hx : x < 18446744073709551616) :
    Calls Tryd.prog 8 #[.int .u64 (x : Int)] w fun e w' => e = .returned (.int .u64 ((mix x : Nat) : Int)) ∧ w' = w := by
  go_enter Tryd.func8, Tryd.ntmps8
  go_wp2
  simp only [xor30 x hx, nmul1, xor27 _ (mod_lt64 _), nmul2, xor31 _ (mod_lt64 _)]
  go_ret
  exact ⟨rfl, rfl⟩
end Go.Proofs.YtnpdkiljhdagjaaDoor
